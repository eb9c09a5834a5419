/-
  The program's stores: Bytes.
-/
import Derived.Test.YtimbhamdblganaaDoorWVpD
import Derived.Test.YtimbhamdblganaaDoorW2
/-! VpE -/
namespace Go.Proofs.YtimbhamdblganaaDoor
open Go.RowKit

theorem vbk_be (e : Nat) (l : List Pol) : be e 1 = bytesVK e l 0 := by simp [be, bytesVK]
set_option maxRecDepth 100000 in
set_option maxHeartbeats 3200000 in
theorem veBytes_of (cB : PBytesC) : VeBytesC := by
  intro e v l w h he hl hf
  have HS := Lib.hid h
  have HFi := Lib.hid hf
  have HL := Lib.hid (And.intro hl he)
  have HPB := Lib.hid cB
  have HW0 := Lib.hid (WAt.new w 66)
  have HB0 := Lib.hid (belowNew w (.cells #[.slice none 0 0, .int .i64 0] 66))
  have HW1 := Lib.hid (fun (V : World) (h : WAt 5 w.heap.size V w.heap.size 66 (.slice none 0 0) ([], 0)) (hB : w.heap.size ≤ V.heap.size) => wnum_ok1 _ _ _ _ _ e V h hB (by decide) (by omega))
  obtain ⟨pt, cap, rfl, -, -⟩ := h
  clear hl he hf cB
  go_enter Tryd.func12, Tryd.ntmps12
  go_upto_region 2 with fail
  generalize w.alloc _ = w1 at *
  go_wp2_with fail
  refine (HW1.out _ HW0.out HB0.out.size).mono ?_
  rintro x w2 ⟨rfl, v2, hn2, hc2, -⟩
  have HN2 := Lib.hid hn2
  have HB2 := Lib.hid (show Below w.heap.size w w2 from HB0.out.trans (hc2.below HB0.out.size fun k hk => by
    rcases hk with rfl | hk
    · exact Nat.le_refl _
    · cases hk))
  clear hn2 hc2 HW1 HW0 HB0
  have HDo := Lib.hid (done_own _ _ _ _ _ w2 HN2.out (show (be e 1).length ≤ 1000000 by simp [be]))
  go_wp2_with fail
  refine HDo.out.mono ?_
  rintro x w3 ⟨v3, rfl, hr3, hB3⟩
  have HG0 := Lib.hid (show VqW w v3 (bytesVK e l 0) w3 from ⟨HB2.out.trans (hB3.mono HB2.out.size), by
    rw [← vbk_be e l]
    exact own_older hr3 HB2.out.size⟩)
  clear hr3 hB3 HDo HB2 HN2
  go_wp2_with fail
  go_loopw [6, 20] (fun s6 i wr => ∃ k : Nat, k ≤ l.length ∧ i = .int .i64 (k : Int) ∧ VqW w s6 (bytesVK e l k) wr) (fun _ i _ => l.length - (intOf i).toNat)
  case atStart => exact ⟨0, by omega, rfl, HG0.out⟩
  case round =>
    obtain ⟨k, hk, rfl, hgg⟩ := hrel
    have HG := Lib.hid hgg
    clear hgg HG0
    by_cases hlt : k < l.length
    · obtain ⟨g, off, cp, hse, -, -, hgl⟩ := HS.out.shape (fun e => by rw [e] at hlt; cases hlt)
      cases hse
      have hel := HS.out.elem hlt
      have HN := Lib.hid (bytesVK_succ (e := e) hlt)
      have HLn := Lib.hid (And.intro (bytesVK_le e l k hk) (bytesP_le l[k]))
      have HFk := Lib.hid (And.intro hel.1 (HFi.out l[k] (List.getElem_mem hlt)))
      generalize l[k] = q at *
      generalize bytesVK e l k = L at *
      have hce := hel.2.below HG.out.below hgl
      have HKl := Lib.hid hlt
      have dk : decide ((k : Int) < (l.length : Int)) = true := by simp; omega
      have dk2 : decide (k < l.length) = true := by simpa using hlt
      have h0 : (0 : Int) ≤ (k : Int) := by omega
      have h1 : (k : Int) < (l.length : Int) := by omega
      have hz := PRow.new wr zeroP
      clear hel hlt hk hgl
      go_upto_region 9 with (first
        | (refine wpList_load_cells rfl _ _ rfl rfl hce Tryd.underlying46 rfl (infoPol _) ?_)
        | (refine wpList_store_arr rfl rfl _ _ _ rfl rfl rfl hz (infoPol _) (by rw [polC_size, polC_size]) (polC_one _) ?_; intro w4 hw4))
      have HG4 := Lib.hid (HG.out.step ((belowNew wr _).trans (hw4.below (by simp) (Nat.le_refl _))))
      have hrow : PRow w4 wr.heap.size q := hw4.blk
      clear hw4 hz hce HG
      have h5 := Lib.hid (HPB.out q w4 HFk.out.1 HFk.out.2)
      go_wp2_with (refine wpList_load_arr rfl _ _ rfl rfl hrow Tryd.underlying46 rfl (infoPol _) ?_)
      refine h5.out.mono ?_
      rintro x w5 ⟨u5, rfl, hu5, hB5⟩
      obtain ⟨p5, c5, rfl, hb5⟩ := BsAt.ofRow hu5
      have HBs := Lib.hid hb5
      have HG5 := Lib.hid (HG4.out.step hB5)
      have hwk : IntKind.i64.wrap ((k : Int) + 1) = (k : Int) + 1 := by have := HL.out; have := HKl.out; rw [IntKind.wrap_i64]; omega
      clear hu5 hb5 hB5 h5 HG4 hrow
      go_wp2_with (at_builtin; refine wpList_append_bytes rfl _ _ 23 rfl w.heap.size 5 Tryd.underlying23 infoU8 rfl HG5.out.own rfl HBs.out (by have := HLn.out.1; have := HLn.out.2; have := HL.out.1; have := HKl.out; omega) HG5.out.below.size ?_; intro p6 n6 c6 w6 hrow6 hg6 hn6; have HG7 := Lib.hid (HG5.out.more hrow6 hg6); clear hrow6 hg6 hn6)
      rw [← HN.out] at HG7
      go_roundw
      case rel => ((repeat apply Exists.intro); exact ⟨⟨k + 1, by have := HKl.out; omega, by go_num, HG7.out⟩, rfl⟩)
      case measure => have := HKl.out; simp [intOf]; omega
    · obtain rfl : k = l.length := by omega
      have dk : decide ((l.length : Int) < (l.length : Int)) = false := by simp
      go_wp2_with fail
      refine bodyPost_ret (results_tmp rfl _ _ _) rfl ?_
      exact ⟨_, rfl, HG.out.own, HG.out.below⟩
end Go.Proofs.YtimbhamdblganaaDoor

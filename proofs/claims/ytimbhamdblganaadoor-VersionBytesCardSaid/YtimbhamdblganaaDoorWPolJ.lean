/-
  The program's policies: Bytes.
-/
import Derived.Test.YtimbhamdblganaaDoorWPolE
import Derived.Test.YtimbhamdblganaaDoorW2
import Derived.Test.YtimbhamdblganaaDoorWPolZ
/-! PolJ -/
namespace Go.Proofs.YtimbhamdblganaaDoor
open Go.RowKit

set_option maxHeartbeats 800000 in
theorem pWriteSet_any (B b : Nat) (t : TypeId) (v : Value) (s : List UInt8 × Int) (n : Nat) (w : World) (h : WAt 5 B w b t v s) (hB : B ≤ w.heap.size) (hsm : s.1.length ≤ 900000) (hn : n < 65536) :
    Calls Tryd.prog 54 #[.pointer (some ⟨b, 0, none⟩), .int .u16 (n : Int)] w fun en w' => en = .returned (.tuple #[]) ∧ WNow B w b t v (addS s (be n 2)) w' := by
  have HN := Lib.hid (wnum_ok2 B b t v s n w h hB hsm hn)
  clear h hB hsm
  go_enter Tryd.func54, Tryd.ntmps54
  go_wp2_with fail
  refine HN.out.mono ?_
  rintro e w' ⟨rfl, hw⟩
  have HW := Lib.hid hw
  clear hw HN
  go_wp2_with fail
  first | go_end0 | skip
  first | exact ⟨rfl, HW.out⟩ | (refine bodyPost_ret (results_none rfl _ _ _) rfl ?_; exact ⟨rfl, HW.out⟩)
/-- The policy, the Writer and what it holds. -/
structure BYW (w : World) (bp bw : Nat) (p : Pol) (l : List UInt8) (v : Value) (V : World) : Prop where
  all : Below bp w V
  row : PRow V bp p
  wr : WAt 5 (bp + 1) V bw 66 v (l, 0)
  far : bp = w.heap.size ∧ bp < bw
theorem BYW.step {w : World} {bp bw : Nat} {p : Pol} {l : List UInt8} {v : Value} {V V' : World} (h : BYW w bp bw p l v V) (hB : Below V.heap.size V V') : BYW w bp bw p l v V' :=
  ⟨h.all.trans (hB.mono (by rw [h.far.1]; exact h.all.size)), h.row.step hB, h.wr.below hB (Nat.le_refl _), h.far⟩
theorem BYW.write {w : World} {bp bw : Nat} {p : Pol} {l m : List UInt8} {v : Value} {V V' : World} (h : BYW w bp bw p l v V) (hw : WNow (bp + 1) V bw 66 v (addS (l, 0) m) V') : ∃ v', BYW w bp bw p (l ++ m) v' V' ∧ Chg (foot bw v) V V' ∧ OwnNew V v v' := by
  obtain ⟨v', hn, hc, ho⟩ := hw
  refine ⟨v', ⟨h.all.trans (hc.below (by rw [h.far.1]; exact h.all.size) fun k hk => ?_), hc.kept h.row (fun hk => ?_), hn, h.far⟩, hc, ho⟩
  · rcases hk with rfl | hk
    · exact Nat.le_of_lt h.far.2
    · have := (h.wr.lt hk).1; omega
  · rcases hk with e | hk
    · have := h.far.2; omega
    · have := (h.wr.lt hk).1; omega
/-- .. and a label of the round's own. -/
structure BLW (w : World) (bp bw bl : Nat) (p : Pol) (l : List UInt8) (v : Value) (x y : Nat) (V : World) : Prop where
  b : BYW w bp bw p l v V
  lab : Blk V bl #[.int .u16 (x : Int), .int .u16 (y : Int)] 41
  ne : bl ≠ bw ∧ v.ownBlock ≠ some bl
theorem BLW.write {w : World} {bp bw bl : Nat} {p : Pol} {l m : List UInt8} {v : Value} {x y : Nat} {V V' : World} (h : BLW w bp bw bl p l v x y V) (hw : WNow (bp + 1) V bw 66 v (addS (l, 0) m) V') : ∃ v', BLW w bp bw bl p (l ++ m) v' x y V' := by
  obtain ⟨v', hb, hc, ho⟩ := h.b.write hw
  refine ⟨v', hb, hc.kept h.lab (fun hk => ?_), h.ne.1, fun e => ?_⟩
  · rcases hk with e | hk
    · exact h.ne.1 e
    · exact h.ne.2 hk
  · rcases ho bl e with e | e
    · exact h.ne.2 e
    · have := h.lab.lt; omega
theorem BYW.new (w : World) (p : Pol) : BYW w w.heap.size (w.heap.size + 1) p [] (.slice none 0 0) ((w.alloc (.cells (polC p) 46)).alloc (.cells #[.slice none 0 0, .int .i64 0] 66)) := by
  have h := WAt.new (w.alloc (.cells (polC p) 46)) 66
  simp only [World.size_alloc] at h
  exact ⟨(belowNew w _).alloc (by simp) _, (PRow.new w p).alloc _, h, rfl, by omega⟩
set_option maxRecDepth 100000 in
set_option maxHeartbeats 3200000 in
theorem pBytes_any : PBytesC := by
  intro p w hp _
  have HG0 := Lib.hid (BYW.new w p)
  have HOk := Lib.hid hp
  have HIL := Lib.hid (fun (k : Nat) (hk : k < 16) (V : World) => run_index_labs p hk V)
  have HIO := Lib.hid (fun (k : Nat) (hk : k < 16) (V : World) => run_index_owns p hk V)
  have HHl := Lib.hid (fun V (r : Nat) => Has_any p.live (r : Int) V hp.live)
  have HWr := Lib.hid (fun (l : List UInt8) (v : Value) (bw n : Nat) (V : World) (h : BYW w w.heap.size bw p l v V) (hl : l.length ≤ 900000) (hn : n < 65536) => pWriteSet_any _ _ _ _ _ n V h.wr h.row.lt hl hn)
  have HW1 := Lib.hid (fun (l : List UInt8) (v : Value) (bw n : Nat) (V : World) (h : BYW w w.heap.size bw p l v V) (hl : l.length ≤ 900000) (hn : n < 256) => wnum_ok1 _ _ _ _ _ n V h.wr h.row.lt hl hn)
  have HDo := Lib.hid (fun (l : List UInt8) (v : Value) (bw : Nat) (V : World) (h : BYW w w.heap.size bw p l v V) (hl : l.length ≤ 1000000) => done_own _ _ _ _ _ V h.wr hl)
  clear hp
  go_enter Tryd.func32, Tryd.ntmps32
  go_upto_region 2 with fail
  generalize (w.alloc (.cells (polC p) 46)).alloc _ = w1 at *
  generalize hbp : w.heap.size = bp at *
  have HBp := Lib.hid hbp
  clear hbp
  have kl := HG0.out.row.live
  go_wp2_with fail
  refine (HWr.out _ _ _ p.live _ HG0.out (by decide) HOk.out.live).mono ?_
  rintro e w2 ⟨rfl, hw⟩
  obtain ⟨v2, h2, -, -⟩ := HG0.out.write hw
  have HG2 := Lib.hid (show ∃ v, BYW w bp (bp + 1) p (bytR p 0) v w2 from ⟨v2, h2⟩)
  clear hw h2 kl HG0
  clear v2
  obtain ⟨v2, h2⟩ := HG2.out
  have hrow := h2.row
  go_wp2_with (refine wpList_load_mid rfl _ _ rfl rfl hrow (pol_labs p) Tryd.underlying42 rfl (infoLabs p) ?_)
  clear hrow h2 v2
  go_loopw [15] (fun i wr => ∃ k : Nat, k ≤ 16 ∧ i = .int .i64 (k : Int) ∧ ∃ v, BYW w bp (bp + 1) p (bytR p k) v wr) (fun i _ => 16 - (intOf i).toNat)
  case atStart => exact ⟨0, by omega, rfl, HG2.out⟩
  case round =>
    obtain ⟨k, hk, rfl, v, hg⟩ := hrel
    have HG := Lib.hid hg
    clear hg HG2
    by_cases hlt : k < 16
    · have dk : decide ((k : Int) < 16) = true := by simp; omega
      have hk16 : (k : Int) < 16 := by omega
      have hk0 : (0 : Int) ≤ (k : Int) := by omega
      have hxi := fun V => HIL.out k hlt V
      have HHas := Lib.hid (fun V => HHl.out V k)
      rw [hasB_bit] at HHas
      have HLe := Lib.hid (bytR_le p k)
      go_upto_region 6 with fail
      have HG2 := Lib.hid (show BLW w bp (bp + 1) wr.heap.size p (bytR p k) v (p.s k) (p.i k) (wr.alloc (.cells #[.int .u16 (p.s k : Nat), .int .u16 (p.i k : Nat)] 41)) from
        ⟨HG.out.step (belowNew wr _), Blk.new wr _ _, by have := HG.out.wr.blk.lt; omega, fun e => by have := (HG.out.wr.lt e).2; omega⟩)
      generalize wr.alloc (.cells #[.int .u16 (p.s k : Nat), .int .u16 (p.i k : Nat)] 41) = w2 at *
      generalize wr.heap.size = bl at *
      clear HG hxi
      have kl := HG2.out.b.row.live
      cases hl : p.live.testBit k with
      | false =>
        rw [hl] at HHas
        have HS := Lib.hid (show bytR p (k + 1) = bytR p k by show bytR p k ++ roleL p k = _; unfold roleL; rw [hl]; simp)
        clear hl
        go_wp2_with fail
        with_reducible refine (HHas.out _).mono ?_
        rintro e wx ⟨rfl, rfl⟩
        clear kl
        go_wp2_with fail
        go_roundw
        case rel => first | exact ⟨k + 1, by omega, by go_num, v, by rw [HS.out]; exact HG2.out.b⟩ | ((repeat apply Exists.intro); exact ⟨⟨k + 1, by omega, by go_num, v, by rw [HS.out]; exact HG2.out.b⟩, rfl⟩)
        case measure => simp [intOf]; omega
      | true =>
        rw [hl] at HHas
        have HS := Lib.hid (show bytR p (k + 1) = bytR p k ++ be (p.s k) 2 ++ be (p.i k) 2 ++ be (p.acts k) 2 by show bytR p k ++ roleL p k = _; unfold roleL; rw [hl, if_pos rfl]; simp only [List.append_assoc])
        have a0 := HG2.out.lab.cell 0
        clear hl
        go_wp2_with fail
        with_reducible refine (HHas.out _).mono ?_
        rintro e wx ⟨rfl, rfl⟩
        clear kl
        go_wp2_with fail
        refine (HWr.out _ _ _ (p.s k) _ HG2.out.b (by have := HLe.out; omega) (HOk.out.s k hlt)).mono ?_
        rintro e w3 ⟨rfl, hw⟩
        obtain ⟨v3, h3⟩ := HG2.out.write hw
        have HG3 := Lib.hid h3
        clear hw h3 a0 HG2
        have a1 := HG3.out.lab.cell 1
        go_wp2_with fail
        refine (HWr.out _ _ _ (p.i k) _ HG3.out.b (by have := HLe.out; rw [List.length_append, be_length]; omega) (HOk.out.i k hlt)).mono ?_
        rintro e w4 ⟨rfl, hw⟩
        obtain ⟨v4, h4⟩ := HG3.out.write hw
        have HG4 := Lib.hid h4
        clear hw h4 a1 HG3
        have ka := HG4.out.b.row.acts hlt
        go_wp2_with fail
        refine (HWr.out _ _ _ (p.acts k) _ HG4.out.b (by have := HLe.out; rw [List.length_append, List.length_append, be_length, be_length]; omega) (HOk.out.acts k hlt)).mono ?_
        rintro e w5 ⟨rfl, hw⟩
        obtain ⟨v5, h5⟩ := HG4.out.write hw
        have HG5 := Lib.hid h5.b
        clear hw h5 ka HG4
        rw [← HS.out] at HG5
        go_wp2_with fail
        go_roundw
        case rel => first | exact ⟨k + 1, by omega, by go_num, v5, HG5.out⟩ | ((repeat apply Exists.intro); exact ⟨⟨k + 1, by omega, by go_num, v5, HG5.out⟩, rfl⟩)
        case measure => simp [intOf]; omega
    · obtain rfl : k = 16 := by omega
      have ka := HG.out.row.active
      go_wp2_with fail
      refine (HWr.out _ _ _ p.active _ HG.out (by have := bytR_le p 16; omega) HOk.out.active).mono ?_
      rintro e w3 ⟨rfl, hw⟩
      obtain ⟨v3, h3, -, -⟩ := HG.out.write hw
      have HG3 := Lib.hid (show ∃ v, BYW w bp (bp + 1) p (bytO p 0) v w3 from ⟨v3, h3⟩)
      clear hw h3 ka HG
      clear v3
      obtain ⟨v3, h3⟩ := HG3.out
      have hrow := h3.row
      go_wp2_with (refine wpList_load_mid rfl _ _ rfl rfl hrow (pol_owns p) Tryd.underlying44 rfl (infoOwns p) ?_)
      clear hrow h3 v3
      go_loopw [40] (fun i wr => ∃ t : Nat, t ≤ 16 ∧ i = .int .i64 (t : Int) ∧ ∃ v, BYW w bp (bp + 1) p (bytO p t) v wr) (fun i _ => 16 - (intOf i).toNat)
      case atStart => exact ⟨0, by omega, rfl, HG3.out⟩
      case round =>
        obtain ⟨t, ht, rfl, v, hg⟩ := hrel
        have HG := Lib.hid hg
        clear hg HG3
        by_cases htt : t < 16
        · have dk : decide ((t : Int) < 16) = true := by simp; omega
          have ht16 : (t : Int) < 16 := by omega
          have ht0 : (0 : Int) ≤ (t : Int) := by omega
          have hxi := fun V => HIO.out t htt V
          have ho := HOk.out.owner t htt
          have HS := Lib.hid (show bytO p (t + 1) = bytO p t ++ be (p.owner t) 1 from rfl)
          generalize p.owner t = po at *
          go_wp2_with fail
          refine (HW1.out _ _ _ po _ HG.out (by have := bytO_le p t; omega) ho).mono ?_
          rintro e w3 ⟨rfl, hw⟩
          obtain ⟨v3, h3, -, -⟩ := HG.out.write hw
          have HG3 := Lib.hid h3
          clear hw h3 HG
          rw [← HS.out] at HG3
          go_wp2_with fail
          go_roundw
          case rel => first | exact ⟨t + 1, by omega, by go_num, v3, HG3.out⟩ | ((repeat apply Exists.intro); exact ⟨⟨t + 1, by omega, by go_num, v3, HG3.out⟩, rfl⟩)
          case measure => simp [intOf]; omega
        · obtain rfl : t = 16 := by omega
          go_wp2_with fail
          refine (HDo.out _ _ _ _ HG.out (by have := bytO_le p 16; omega)).mono ?_
          rintro e w3 ⟨v3, rfl, hr, hB⟩
          have HR := Lib.hid (show w3.ownsRow w.heap.size 5 1 v3 (bytesP p).length (bvs (bytesP p)) from own_older hr (by rw [HBp.out]; exact Nat.le_of_lt HG.out.row.lt))
          have HB := Lib.hid (show Below w.heap.size w w3 by rw [HBp.out]; exact HG.out.all.trans (hB.mono (Nat.le_of_lt HG.out.row.lt)))
          clear hr hB HG
          go_wp2_with fail
          go_ret
          exact ⟨_, rfl, HR.out, HB.out⟩
end Go.Proofs.YtimbhamdblganaaDoor

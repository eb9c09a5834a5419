/-
  The program's changes: Bytes (a rehearsal).
-/
import Derived.Deep.DeepCutAuto
import Derived.Test.YthpangacpihclaaDoorWChG
import Derived.Test.YthpangacpihclaaDoorWPolE
import Derived.Test.YthpangacpihclaaDoorW2
import Derived.Test.YthpangacpihclaaDoorW3
/-! CpB -/
namespace Go.Proofs.YthpangacpihclaaDoor
open Go.RowKit

/-- The Writer and what it holds. -/
structure BGW (w : World) (bw : Nat) (m : List UInt8) (v : Value) (V : World) : Prop where
  all : Below w.heap.size w V
  wr : WAt 5 w.heap.size V bw 95 v (m, 0)
  far : w.heap.size ≤ bw
theorem BGW.step {w : World} {bw : Nat} {m : List UInt8} {v : Value} {V V' : World} (h : BGW w bw m v V) (hB : Below V.heap.size V V') : BGW w bw m v V' :=
  ⟨h.all.trans (hB.mono h.all.size), h.wr.below hB (Nat.le_refl _), h.far⟩
theorem BGW.write {w : World} {bw : Nat} {m n : List UInt8} {v : Value} {V V' : World} (h : BGW w bw m v V) (hw : WNow w.heap.size V bw 95 v (addS (m, 0) n) V') : ∃ v', BGW w bw (m ++ n) v' V' ∧ Chg (foot bw v) V V' ∧ OwnNew V v v' := by
  obtain ⟨v', hn, hc, ho⟩ := hw
  refine ⟨v', ⟨h.all.trans (hc.below h.all.size fun k hk => ?_), hn, h.far⟩, hc, ho⟩
  rcases hk with rfl | hk
  · exact h.far
  · exact (h.wr.lt hk).1
/-- .. and the round's change. -/
structure BGC (w : World) (bw bc : Nat) (m : List UInt8) (v : Value) (c : Cg) (V : World) : Prop where
  b : BGW w bw m v V
  cg : Blk V bc (chgC c) 31
  ne : bc ≠ bw ∧ v.ownBlock ≠ some bc
theorem BGC.write {w : World} {bw bc : Nat} {m n : List UInt8} {v : Value} {c : Cg} {V V' : World} (h : BGC w bw bc m v c V) (hw : WNow w.heap.size V bw 95 v (addS (m, 0) n) V') : ∃ v', BGC w bw bc (m ++ n) v' c V' := by
  obtain ⟨v', hb, hc, ho⟩ := h.b.write hw
  refine ⟨v', hb, hc.kept h.cg (fun hk => ?_), h.ne.1, fun e => ?_⟩
  · rcases hk with e | hk
    · exact h.ne.1 e
    · exact h.ne.2 hk
  · rcases ho bc e with e | e
    · exact h.ne.2 e
    · have := h.cg.lt; omega
theorem BGW.new (w : World) : BGW w w.heap.size [] (.slice none 0 0) (w.alloc (.cells #[.slice none 0 0, .int .i64 0] 95)) :=
  ⟨belowNew w _, WAt.new w _, Nat.le_refl _⟩
theorem chgL_be {k a b s i : Nat} : chgL ⟨(k : Int), (a : Int), (b : Int), s, i⟩ = be k 1 ++ be a 1 ++ be b 1 ++ be s 2 ++ be i 2 := by
  rw [be_halves, be_halves]
  simp [chgL, be]
set_option maxRecDepth 100000 in
set_option maxHeartbeats 3200000 in
theorem chBytes_any : CBytesC := by
  intro v l w _ h _ h6 hg
  obtain ⟨pt, cap, rfl, hm, hc⟩ := h
  have HC := Lib.hid hc
  have HGd := Lib.hid hg
  have HG0 := Lib.hid (BGW.new w)
  have HW1 := Lib.hid (fun (m : List UInt8) (v : Value) (bw n : Nat) (V : World) (h : BGW w bw m v V) (hl : m.length ≤ 900000) (hn : n < 256) => wnum_ok1 _ _ _ _ _ n V h.wr h.all.size hl hn)
  have HW2 := Lib.hid (fun (m : List UInt8) (v : Value) (bw n : Nat) (V : World) (h : BGW w bw m v V) (hl : m.length ≤ 900000) (hn : n < 65536) => wnum_ok2 _ _ _ _ _ n V h.wr h.all.size hl hn)
  have HDo := Lib.hid (fun (m : List UInt8) (v : Value) (bw : Nat) (V : World) (h : BGW w bw m v V) (hl : m.length ≤ 1000000) => done_own _ _ _ _ _ V h.wr hl)
  have HBe := Lib.hid (show be l.length 1 = bytesK l 0 by simp [be, bytesK])
  clear hc hg
  go_enter Tryd.func26, Tryd.ntmps26
  go_upto_region 2 with fail
  generalize w.alloc _ = w1 at *
  generalize hbw : w.heap.size = bw at HG0 ⊢
  clear hbw
  go_wp2_with fail
  refine (HW1.out _ _ _ l.length _ HG0.out (by decide) (by omega)).mono ?_
  rintro e w2 ⟨rfl, hw⟩
  obtain ⟨v2, h2, -, -⟩ := HG0.out.write hw
  rw [List.nil_append, HBe.out] at h2
  have HG2 := Lib.hid h2
  clear hw h2 HG0 HBe
  go_wp2_with fail
  go_loopw [13] (fun i wr => ∃ k : Nat, k ≤ l.length ∧ i = .int .i64 (k : Int) ∧ ∃ v, BGW w bw (bytesK l k) v wr) (fun i _ => l.length - (intOf i).toNat)
  case atStart => exact ⟨0, by omega, rfl, v2, HG2.out⟩
  case round =>
    obtain ⟨k, hk, rfl, v, hgg⟩ := hrel
    have HG := Lib.hid hgg
    clear hgg HG2
    by_cases hlt : k < l.length
    · obtain ⟨g, off, rfl, hg, hcs⟩ := HC.out (by intro e; rw [e] at hlt; simp at hlt)
      obtain ⟨hco, hcc⟩ := hcs k hlt
      have HN := Lib.hid (bytesK_succ hlt)
      have hgd := HGd.out l[k] (List.getElem_mem hlt)
      have hLn := bytesK_len l k hk
      generalize l[k] = c at *
      generalize bytesK l k = L at *
      have HLn := Lib.hid (show L.length ≤ 43 by omega)
      have hce := ChCells.below (c := c) (off := off + k * 5) hcc HG.out.all hg
      have dk : decide ((k : Int) < (l.length : Int)) = true := by simp; omega
      have hlt' : (k : Int) < (l.length : Int) := by omega
      have hz := Blk.new wr (chgC ⟨0, 0, 0, 0, 0⟩) 31
      clear hcs hcc hLn
      go_upto_region 6 with (first
        | (refine wpList_of rfl (exec_load_chgAt rfl rfl hce) ?_)
        | (refine wpList_store_arr rfl rfl _ _ _ rfl rfl rfl hz (infoChg _) rfl (chgC_one _) ?_; intro w5 hw5))
      have HC5 := Lib.hid (show BGC w bw wr.heap.size L v c w5 from ⟨HG.out.step ((belowNew wr _).trans (hw5.below (by simp) (Nat.le_refl _))), hw5.blk, by have := HG.out.wr.blk.lt; omega, fun e => by have := (HG.out.wr.lt e).2; omega⟩)
      clear hw5 hz hce HG
      generalize wr.heap.size = bc at *
      obtain ⟨h1, h2, h3, h4, h5, -, h7⟩ := cgB_iff.1 hgd
      have hs := hco.s
      have hi := hco.i
      have hb16 : c.b ≤ 16 := by unfold mostN at h7; split at h7 <;> (try split at h7) <;> omega
      obtain ⟨ck, ca, cb, s, i⟩ := c
      simp only at h1 h2 h3 h4 h5 hb16 hs hi
      obtain ⟨kk, rfl⟩ := Int.eq_ofNat_of_zero_le (show 0 ≤ ck by omega)
      obtain ⟨a, rfl⟩ := Int.eq_ofNat_of_zero_le h3
      obtain ⟨b, rfl⟩ := Int.eq_ofNat_of_zero_le h5
      have HBd := Lib.hid (show kk < 256 ∧ a < 256 ∧ b < 256 ∧ s < 65536 ∧ i < 65536 by omega)
      rw [chgL_be] at HN
      clear h1 h2 h4 h7 hb16 hs hi hgd hco
      have a6 : w5.cell? ⟨bc, 0, none⟩ = some (.int .i64 (kk : Int)) := HC5.out.cg.cell 0
      go_wp2_with fail
      refine (HW1.out _ _ _ kk _ HC5.out.b (by have := HLn.out; omega) HBd.out.1).mono ?_
      rintro e w6 ⟨rfl, hw⟩
      obtain ⟨v6, h6⟩ := HC5.out.write hw
      have HC6 := Lib.hid h6
      clear hw h6 a6 HC5
      have a7 : w6.cell? ⟨bc, 1, none⟩ = some (.int .i64 (a : Int)) := HC6.out.cg.cell 1
      go_wp2_with fail
      refine (HW1.out _ _ _ a _ HC6.out.b (by have := HLn.out; simp only [List.length_append, be_length]; omega) HBd.out.2.1).mono ?_
      rintro e w7 ⟨rfl, hw⟩
      obtain ⟨v7, h7⟩ := HC6.out.write hw
      have HC7 := Lib.hid h7
      clear hw h7 a7 HC6
      have a8 : w7.cell? ⟨bc, 2, none⟩ = some (.int .i64 (b : Int)) := HC7.out.cg.cell 2
      go_wp2_with fail
      refine (HW1.out _ _ _ b _ HC7.out.b (by have := HLn.out; simp only [List.length_append, be_length]; omega) HBd.out.2.2.1).mono ?_
      rintro e w8 ⟨rfl, hw⟩
      obtain ⟨v8, h8⟩ := HC7.out.write hw
      have HC8 := Lib.hid h8
      clear hw h8 a8 HC7
      have a9 : w8.cell? ⟨bc, 3, none⟩ = some (.int .u16 (s : Int)) := HC8.out.cg.cell 3
      have hx : IntKind.i64.wrap (s : Int) = (s : Int) := IntWalk.i64_in _ (by have := HBd.out; omega)
      go_wp2_with fail
      refine (HW2.out _ _ _ s _ HC8.out.b (by have := HLn.out; simp only [List.length_append, be_length]; omega) HBd.out.2.2.2.1).mono ?_
      rintro e w9 ⟨rfl, hw⟩
      obtain ⟨v9, h9⟩ := HC8.out.write hw
      have HC9 := Lib.hid h9
      clear hw h9 a9 HC8 hx
      have a10 : w9.cell? ⟨bc, 4, none⟩ = some (.int .u16 (i : Int)) := HC9.out.cg.cell 4
      have hx : IntKind.i64.wrap (i : Int) = (i : Int) := IntWalk.i64_in _ (by have := HBd.out; omega)
      go_wp2_with fail
      refine (HW2.out _ _ _ i _ HC9.out.b (by have := HLn.out; simp only [List.length_append, be_length]; omega) HBd.out.2.2.2.2).mono ?_
      rintro e w10 ⟨rfl, hw⟩
      obtain ⟨v10, h10⟩ := HC9.out.write hw
      have HC10 := Lib.hid h10
      clear hw h10 a10 HC9 hx
      have HG6 := Lib.hid HC10.out.b
      clear HC10
      rw [show L ++ be kk 1 ++ be a 1 ++ be b 1 ++ be s 2 ++ be i 2 = bytesK l (k + 1) by rw [HN.out]; simp only [List.append_assoc]] at HG6
      go_wp2_with fail
      go_roundw
      case rel => first | exact ⟨k + 1, by omega, by go_num, v10, HG6.out⟩ | ((repeat apply Exists.intro); exact ⟨⟨k + 1, by omega, by go_num, v10, HG6.out⟩, rfl⟩)
      case measure => simp [intOf]; omega
    · obtain rfl : k = l.length := by omega
      have dk : decide ((l.length : Int) < (l.length : Int)) = false := by simp
      have HLn := Lib.hid (show (bytesK l l.length).length ≤ 43 by rw [bytesK_len l _ (Nat.le_refl _)]; omega)
      go_wp2_with fail
      refine (HDo.out _ _ _ _ HG.out (by have := HLn.out; omega)).mono ?_
      rintro e w3 ⟨v3, rfl, hr, hB⟩
      have HR := Lib.hid (show w3.ownsRow w.heap.size 5 1 v3 (bytesQ l).length (bvs (bytesQ l)) from own_older hr HG.out.all.size)
      have HB := Lib.hid (HG.out.all.trans (hB.mono HG.out.all.size))
      clear hr hB HG
      go_wp2_with fail
      go_ret
      exact ⟨_, rfl, HR.out, HB.out⟩
end Go.Proofs.YthpangacpihclaaDoor

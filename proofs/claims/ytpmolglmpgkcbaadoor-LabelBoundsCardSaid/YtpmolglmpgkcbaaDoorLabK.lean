/-
  The reference's joins and meets.
-/
import Derived.Test.YtpmolglmpgkcbaaDoorPair
import Derived.Test.YtpmolglmpgkcbaaDoorLabB
import Derived.StillTailTactics
namespace Go.Proofs.YtpmolglmpgkcbaaDoor
open Go.RowKit

set_option maxRecDepth 100000 in
set_option maxHeartbeats 2000000 in
theorem rJoin_any (v : Value) (l : List (Nat × Nat)) (hl : SmallL l) (w : World) (h : LabsAt w v l) :
    Calls Tryd.prog 20 #[v] w fun e w' => e = .returned (.agg #[.int .u16 (joinS 0 l : Nat), .int .u16 (joinI 65535 l : Nat)]) ∧ Below w.heap.size w w' := by
  obtain ⟨p, cap, rfl, hm, hc⟩ := h
  have HC := Lib.hid hc
  have HL := Lib.hid hl
  clear hc hl
  go_enter Tryd.func20, Tryd.ntmps20
  go_wp2_with fail
  refine (rBottom_any _).mono ?_
  rintro e w1 ⟨rfl, hB1⟩
  have hP0 := (Pair.new w (.int .u16 0) (.int .u16 0)).below hB1 (by simp)
  have hs1 : w.heap.size < w1.heap.size := hP0.lt
  have hBw : Below w.heap.size w w1 := (below_one w _).trans (hB1.mono (by simp))
  have HP0 := Lib.hid hP0
  clear hB1 hP0
  go_wp2_with fail
  go_loopw [4] (fun i wr => ∃ k : Nat, k ≤ l.length ∧ i = .int .i64 k ∧ Below w.heap.size w wr ∧ w1.heap.size < wr.heap.size ∧ Pair wr w.heap.size (.int .u16 0) (.int .u16 0) ∧ Pair wr w1.heap.size (.int .u16 (joinS 0 (l.take k) : Nat)) (.int .u16 (joinI 65535 (l.take k) : Nat))) (fun i _ => l.length - (intOf i).toNat)
  case atStart => exact ⟨0, by omega, rfl, hBw.alloc (by omega) _, by simp, HP0.out.alloc _, Pair.new _ _ _⟩
  case round =>
    obtain ⟨k, hk, rfl, hB, hsz, hP, hQ⟩ := hrel
    have hJ := joinS_lt (HL.out.take k) (s := 0) (by decide)
    have hI := joinI_lt (l := l.take k) (s := 65535) (by decide)
    have q0 := hQ.cell0
    have q1 := hQ.cell1
    have q2 := hQ.free0
    have q3 := hQ.free1
    have p0 := hP.cell0
    have p1 := hP.cell1
    have p2 := hP.free0
    have p3 := hP.free1
    have hne : wr.heap.size ≠ w1.heap.size := by omega
    have hne2 : w1.heap.size ≠ w.heap.size := by omega
    have hne3 : wr.heap.size ≠ w.heap.size := by omega
    have HP := Lib.hid hP
    have HQ := Lib.hid hQ
    clear hP hQ
    by_cases hlt : k < l.length
    · obtain ⟨b, off, rfl, hb, hcs⟩ := HC.out (by intro e; rw [e] at hlt; simp at hlt)
      obtain ⟨e0, e1⟩ := hcs k hlt
      obtain ⟨x0, x1⟩ := HL.out.at k hlt
      have c0 := (hB.cell (p := ⟨b, off + k * 2, none⟩) hb).trans e0
      have c1 := (hB.cell (p := ⟨b, off + k * 2 + 1, none⟩) hb).trans e1
      have HE1 := Lib.hid e1
      clear e0 e1 hcs
      have HS := Lib.hid (take_snocL l k hlt)
      have H1 := Lib.hid (joinS_snoc 0 (l.take k) l[k])
      have H2 := Lib.hid (joinI_snoc 65535 (l.take k) l[k])
      have i0 : (0 : Int) ≤ k := Int.natCast_nonneg k
      have i1 : (k : Int) < l.length := by omega
      generalize l[k] = x at *
      generalize joinS 0 (l.take k) = J at *
      generalize joinI 65535 (l.take k) = I at *
      have HOr := Lib.hid (fun W => (rOr_any J x.1 W hJ x0).mono fun _ _ h => And.intro h.1 h.2.symm)
      have HAnd := Lib.hid (fun W => (rAnd_any I x.2 W hI x1).mono fun _ _ h => And.intro h.1 h.2.symm)
      have f0 := (HP.out.set_other (a := ⟨w1.heap.size, 0, none⟩) (by simpa using hne2) (.int .u16 (J ||| x.1 : Nat))).drew
      have f1 := (HQ.out.set0 (.int .u16 (J ||| x.1 : Nat))).drew
      have f2 := (hB.setCell (p := ⟨w1.heap.size, 0, none⟩) (by simp; omega) (.int .u16 (J ||| x.1 : Nat))).drew
      have f3 : (wr.setCell ⟨w1.heap.size, 0, none⟩ (.int .u16 (J ||| x.1 : Nat))).drew.heap.size = wr.heap.size := by simp
      have F0 := Lib.hid f0
      have F1 := Lib.hid f1
      have F2 := Lib.hid f2
      have F3 := Lib.hid f3
      clear f0 f1 f2 f3
      go_wp2_with fail
      go_still_tail 9, (by kernel_rfl)
      still_call (HOr.out _)
      repeat still_step
      refine wpStill_nil ?_
      change wpList _ _ _ _ _ wr.drew
      go_wp2_with fail
      generalize (wr.setCell ⟨w1.heap.size, 0, none⟩ (.int .u16 (J ||| x.1 : Nat))).drew = W2 at *
      have g0 := F1.out.cell0
      have g1 := F1.out.cell1
      have g2 := F1.out.free0
      have g3 := F1.out.free1
      have g4 := (F2.out.cell (p := ⟨b, off + k * 2 + 1, none⟩) hb).trans HE1.out
      go_still_tail 9, (by kernel_rfl)
      still_call (HAnd.out _)
      repeat still_step
      refine wpStill_nil ?_
      change wpList _ _ _ _ _ W2.drew
      go_wp2_with fail
      go_roundw
      case rel => exact ⟨k + 1, by omega, by go_num, (F2.out.setCell (by simp; omega) _).drew, by have := F3.out; simp; omega, (F0.out.set_other (by simpa using hne2) _).drew, by rw [HS.out, H1.out, H2.out]; exact (F1.out.set1 _).drew⟩
      case measure => simp [intOf]; omega
    · have hK : l.take k = l := List.take_of_length_le (by omega)
      have HJ := Lib.hid (congrArg (joinS 0) hK)
      have HI := Lib.hid (congrArg (joinI 65535) hK)
      clear hK
      generalize joinS 0 (l.take k) = J at *
      generalize joinI 65535 (l.take k) = I at *
      go_wp2_with fail
      have r0 := (HP.out.set0 (.int .u16 J)).cell0
      have r1 := ((HP.out.set0 (.int .u16 J)).set1 (.int .u16 I)).cell1
      exact bodyPost_ret (v := .agg #[.int .u16 J, .int .u16 I]) (by simp [results, Tryd.results20, go_sem, r0, r1]) rfl ⟨by rw [HJ.out, HI.out], (hB.setCell (Nat.le_refl _) _).setCell (Nat.le_refl _) _⟩

set_option maxRecDepth 100000 in
set_option maxHeartbeats 2000000 in
theorem rMeet_any (v : Value) (l : List (Nat × Nat)) (hl : SmallL l) (w : World) (h : LabsAt w v l) :
    Calls Tryd.prog 17 #[v] w fun e w' => e = .returned (.agg #[.int .u16 (meetS 65535 l : Nat), .int .u16 (meetI 0 l : Nat)]) ∧ Below w.heap.size w w' := by
  obtain ⟨p, cap, rfl, hm, hc⟩ := h
  have HC := Lib.hid hc
  have HL := Lib.hid hl
  clear hc hl
  go_enter Tryd.func17, Tryd.ntmps17
  go_wp2_with fail
  have hBw : Below w.heap.size w (w.alloc (.cells #[.int .u16 0, .int .u16 0] 24)) := below_one w _
  have hP0 := Pair.new w (.int .u16 0) (.int .u16 0)
  have HP0 := Lib.hid hP0
  clear hP0
  go_loopw [4] (fun i wr => ∃ k : Nat, k ≤ l.length ∧ i = .int .i64 k ∧ Below w.heap.size w wr ∧ (w.heap.size + 1) < wr.heap.size ∧ Pair wr w.heap.size (.int .u16 0) (.int .u16 0) ∧ Pair wr (w.heap.size + 1) (.int .u16 (meetS 65535 (l.take k) : Nat)) (.int .u16 (meetI 0 (l.take k) : Nat))) (fun i _ => l.length - (intOf i).toNat)
  case atStart => exact ⟨0, by omega, rfl, hBw.alloc (by simp) _, by simp, HP0.out.alloc _, by have h := Pair.new (w.alloc (.cells #[.int .u16 0, .int .u16 0] 24)) (.int .u16 65535) (.int .u16 0); rw [World.size_alloc] at h; exact h⟩
  case round =>
    obtain ⟨k, hk, rfl, hB, hsz, hP, hQ⟩ := hrel
    have hJ := meetS_lt (l := l.take k) (s := 65535) (by decide)
    have hI := meetI_lt (HL.out.take k) (s := 0) (by decide)
    have q0 := hQ.cell0
    have q1 := hQ.cell1
    have q2 := hQ.free0
    have q3 := hQ.free1
    have p0 := hP.cell0
    have p1 := hP.cell1
    have p2 := hP.free0
    have p3 := hP.free1
    have hne : wr.heap.size ≠ (w.heap.size + 1) := by omega
    have hne2 : (w.heap.size + 1) ≠ w.heap.size := by omega
    have hne3 : wr.heap.size ≠ w.heap.size := by omega
    have HP := Lib.hid hP
    have HQ := Lib.hid hQ
    clear hP hQ
    by_cases hlt : k < l.length
    · obtain ⟨b, off, rfl, hb, hcs⟩ := HC.out (by intro e; rw [e] at hlt; simp at hlt)
      obtain ⟨e0, e1⟩ := hcs k hlt
      obtain ⟨x0, x1⟩ := HL.out.at k hlt
      have c0 := (hB.cell (p := ⟨b, off + k * 2, none⟩) hb).trans e0
      have c1 := (hB.cell (p := ⟨b, off + k * 2 + 1, none⟩) hb).trans e1
      have HE1 := Lib.hid e1
      clear e0 e1 hcs
      have HS := Lib.hid (take_snocL l k hlt)
      have H1 := Lib.hid (meetS_snoc 65535 (l.take k) l[k])
      have H2 := Lib.hid (meetI_snoc 0 (l.take k) l[k])
      have i0 : (0 : Int) ≤ k := Int.natCast_nonneg k
      have i1 : (k : Int) < l.length := by omega
      generalize l[k] = x at *
      generalize meetS 65535 (l.take k) = J at *
      generalize meetI 0 (l.take k) = I at *
      have HOr := Lib.hid (fun W => (rAnd_any J x.1 W hJ x0).mono fun _ _ h => And.intro h.1 h.2.symm)
      have HAnd := Lib.hid (fun W => (rOr_any I x.2 W hI x1).mono fun _ _ h => And.intro h.1 h.2.symm)
      have f0 := (HP.out.set_other (a := ⟨(w.heap.size + 1), 0, none⟩) (by simp) (.int .u16 (J &&& x.1 : Nat))).drew
      have f1 := (HQ.out.set0 (.int .u16 (J &&& x.1 : Nat))).drew
      have f2 := (hB.setCell (p := ⟨(w.heap.size + 1), 0, none⟩) (by simp) (.int .u16 (J &&& x.1 : Nat))).drew
      have f3 : (wr.setCell ⟨(w.heap.size + 1), 0, none⟩ (.int .u16 (J &&& x.1 : Nat))).drew.heap.size = wr.heap.size := by simp
      have F0 := Lib.hid f0
      have F1 := Lib.hid f1
      have F2 := Lib.hid f2
      have F3 := Lib.hid f3
      clear f0 f1 f2 f3
      go_wp2_with fail
      go_still_tail 9, (by kernel_rfl)
      still_call (HOr.out _)
      repeat still_step
      refine wpStill_nil ?_
      change wpList _ _ _ _ _ wr.drew
      go_wp2_with fail
      generalize (wr.setCell ⟨(w.heap.size + 1), 0, none⟩ (.int .u16 (J &&& x.1 : Nat))).drew = W2 at *
      have g0 := F1.out.cell0
      have g1 := F1.out.cell1
      have g2 := F1.out.free0
      have g3 := F1.out.free1
      have g4 := (F2.out.cell (p := ⟨b, off + k * 2 + 1, none⟩) hb).trans HE1.out
      go_still_tail 9, (by kernel_rfl)
      still_call (HAnd.out _)
      repeat still_step
      refine wpStill_nil ?_
      change wpList _ _ _ _ _ W2.drew
      go_wp2_with fail
      go_roundw
      case rel => exact ⟨k + 1, by omega, by go_num, (F2.out.setCell (by simp) _).drew, by have := F3.out; simp; omega, (F0.out.set_other (by simp) _).drew, by rw [HS.out, H1.out, H2.out]; exact (F1.out.set1 _).drew⟩
      case measure => simp [intOf]; omega
    · have hK : l.take k = l := List.take_of_length_le (by omega)
      have HJ := Lib.hid (congrArg (meetS 65535) hK)
      have HI := Lib.hid (congrArg (meetI 0) hK)
      clear hK
      generalize meetS 65535 (l.take k) = J at *
      generalize meetI 0 (l.take k) = I at *
      go_wp2_with fail
      have r0 := (HP.out.set0 (.int .u16 J)).cell0
      have r1 := ((HP.out.set0 (.int .u16 J)).set1 (.int .u16 I)).cell1
      exact bodyPost_ret (v := .agg #[.int .u16 J, .int .u16 I]) (by simp [results, Tryd.results17, go_sem, r0, r1]) rfl ⟨by rw [HJ.out, HI.out], (hB.setCell (Nat.le_refl _) _).setCell (Nat.le_refl _) _⟩

end Go.Proofs.YtpmolglmpgkcbaaDoor

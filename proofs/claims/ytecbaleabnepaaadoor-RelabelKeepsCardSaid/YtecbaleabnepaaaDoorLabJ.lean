/-
  The joins and the meets.
-/
import Derived.Test.YtecbaleabnepaaaDoorPair
namespace Go.Proofs.YtecbaleabnepaaaDoor
open Go.RowKit

set_option maxHeartbeats 2000000 in
theorem lJoin_any (v : Value) (l : List (Nat × Nat)) (hl : SmallL l) (w : World) (h : LabsAt w v l) :
    Calls Tryd.prog 23 #[v] w fun e w' => e = .returned (.agg #[.int .u16 (joinS 0 l : Nat), .int .u16 (joinI 65535 l : Nat)]) ∧ Below w.heap.size w w' := by
  obtain ⟨p, cap, rfl, hm, hc⟩ := h
  have HC := Lib.hid hc
  have HL := Lib.hid hl
  clear hc hl
  go_enter Tryd.func23, Tryd.ntmps23
  go_wp2_with fail
  refine (lBottom_any _).mono ?_
  rintro e w1 ⟨rfl, hB1⟩
  have hP0 := (Pair.new w (.int .u16 0) (.int .u16 0)).below hB1 (by simp)
  have hs1 : w.heap.size < w1.heap.size := hP0.lt
  have hBw : Below w.heap.size w w1 := (below_one w _).trans (hB1.mono (by simp))
  have HP0 := Lib.hid hP0
  clear hB1 hP0
  go_wp2_with fail
  go_loopw [9] (fun i wr => ∃ k : Nat, k ≤ l.length ∧ i = .int .i64 k ∧ Below w.heap.size w wr ∧ w1.heap.size < wr.heap.size ∧ Pair wr w.heap.size (.int .u16 0) (.int .u16 0) ∧ Pair wr w1.heap.size (.int .u16 (joinS 0 (l.take k) : Nat)) (.int .u16 (joinI 65535 (l.take k) : Nat))) (fun i _ => l.length - (intOf i).toNat)
  case atStart => exact ⟨0, by omega, rfl, hBw.alloc (by omega) _, by simp, HP0.out.alloc _, Pair.new _ _ _⟩
  case round =>
    obtain ⟨k, hk, rfl, hB, hsz, hP, hQ⟩ := hrel
    have hJ := joinS_lt (HL.out.take k) (s := 0) (by decide)
    have hI := joinI_lt (l := l.take k) (s := 65535) (by decide)
    have q0 := hQ.cell0
    have q1 := hQ.cell1
    have q2 := hQ.free0
    have q3 := hQ.free1
    have p0 := hP.cell0
    have p1 := hP.cell1
    have p2 := hP.free0
    have p3 := hP.free1
    have hne : wr.heap.size ≠ w1.heap.size := by omega
    have hne2 : w1.heap.size ≠ w.heap.size := by omega
    have hne3 : wr.heap.size ≠ w.heap.size := by omega
    have HP := Lib.hid hP
    have HQ := Lib.hid hQ
    clear hP hQ
    by_cases hlt : k < l.length
    · obtain ⟨b, off, rfl, hb, hcs⟩ := HC.out (by intro e; rw [e] at hlt; simp at hlt)
      obtain ⟨e0, e1⟩ := hcs k hlt
      obtain ⟨x0, x1⟩ := HL.out.at k hlt
      have c0 := (hB.cell (p := ⟨b, off + k * 2, none⟩) hb).trans e0
      have c1 := (hB.cell (p := ⟨b, off + k * 2 + 1, none⟩) hb).trans e1
      clear e0 e1 hcs
      have HS := Lib.hid (take_snocL l k hlt)
      have HO := Lib.hid (u16_or_nat (joinS 0 (l.take k)) l[k].1 hJ x0)
      have HA := Lib.hid (u16_and_nat (joinI 65535 (l.take k)) l[k].2 hI x1)
      have H1 := Lib.hid (joinS_snoc 0 (l.take k) l[k])
      have H2 := Lib.hid (joinI_snoc 65535 (l.take k) l[k])
      generalize l[k] = x at *
      generalize joinS 0 (l.take k) = J at *
      generalize joinI 65535 (l.take k) = I at *
      go_wp2_with fail
      go_roundw
      case rel => exact ⟨k + 1, by omega, by go_num, ((hB.setCell (by simp; omega) _).setCell (by simp; omega) _).alloc (by simp; omega) _, by simp; omega, ((HP.out.set_other (by simpa using hne2) _).set_other (by simpa using hne2) _).alloc _, by rw [HS.out, H1.out, H2.out, ← HO.out, ← HA.out]; exact ((HQ.out.set0 _).set1 _).alloc _⟩
      case measure => simp [intOf]; omega
    · have hK : l.take k = l := List.take_of_length_le (by omega)
      have HJ := Lib.hid (congrArg (joinS 0) hK)
      have HI := Lib.hid (congrArg (joinI 65535) hK)
      clear hK
      generalize joinS 0 (l.take k) = J at *
      generalize joinI 65535 (l.take k) = I at *
      go_wp2_with fail
      have r0 := (HP.out.set0 (.int .u16 J)).cell0
      have r1 := ((HP.out.set0 (.int .u16 J)).set1 (.int .u16 I)).cell1
      exact bodyPost_ret (v := .agg #[.int .u16 J, .int .u16 I]) (by simp [results, Tryd.results23, go_sem, r0, r1]) rfl ⟨by rw [HJ.out, HI.out], (hB.setCell (Nat.le_refl _) _).setCell (Nat.le_refl _) _⟩

end Go.Proofs.YtecbaleabnepaaaDoor

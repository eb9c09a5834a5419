/-
  The document's type of a query's nodes.
-/
import Derived.Test.YtpcnfemjjlcjfaaWTyD
import Derived.Test.YtpcnfemjjlcjfaaWTyN
/-! TyT -/
namespace Go.Proofs.Ytpcnfemjjlcjfaa
open Go.RowKit

abbrev TypeIs (l : List Qn) (w : World) (e : Ending) (w' : World) : Prop := e = .returned (.tuple #[.int .i64 (typeQ l).1, .int .i64 ((typeQ l).2.1 : Int), .int .i64 ((typeQ l).2.2 : Int)]) ∧ Below w.heap.size w w'
theorem rtType_any (l : List Qn) (v : Value) (w : World) (hv : NodesAt w v l) (hl : l.length ≤ 1000) : Calls Try.prog 10 #[v] w (TypeIs l w) := by
  have HRd := Lib.hid (rqRight_any l v w hv hl)
  have HV := Lib.hid hv
  have HL := Lib.hid hl
  clear hv hl
  go_enter Try.func10, Try.ntmps10
  go_wp2_with fail
  refine HRd.out.mono ?_
  rintro e w2 ⟨b, rfl, hb, hB2⟩
  have HB2 := Lib.hid hB2
  cases b with
  | false =>
    have hr : ¬ rightQ l := fun h => by cases hb.2 h
    have HT := Lib.hid (typeQ_no hr)
    clear hb hr hB2 HRd HV
    go_wp2_with fail
    go_ret3
    exact ⟨by rw [HT.out]; rfl, HB2.out⟩
  | true =>
    have hr := hb.1 rfl
    have h0 : 0 < l.length := hr.2.1
    have hi : ((l.length : Int) - 1) = ((l.length - 1 : Nat) : Int) := by omega
    have hw : IntKind.i64.wrap ((l.length : Int) - 1) = ((l.length - 1 : Nat) : Int) := by have := HL.out; rw [IntKind.wrap_i64]; omega
    have HA := Lib.hid (rtAt_any l.length l (l.length - 1) v w2 (HV.out.below hB2 (Nat.le_refl _)) hr (by omega) (by omega))
    obtain ⟨g, off, cap, hs1, -, -, -⟩ := HV.out.shape (by intro e; rw [e] at h0; cases h0)
    subst hs1
    have HTo := Lib.hid (fun t (ht : typQ l (l.length - 1) = .ok t) => typeQ_ok hr ht)
    have HTb := Lib.hid (fun b (ht : typQ l (l.length - 1) = .error b) => typeQ_bad hr ht)
    clear hb hr h0 hB2 HRd HV hi
    go_wp2_with fail
    refine HA.out.mono ?_
    rintro e w3 ⟨rfl, hB3⟩
    have HB3 := Lib.hid (HB2.out.trans (hB3.mono HB2.out.size))
    clear hB3 HB2 HA
    cases hR : typQ l (l.length - 1) with
    | ok t =>
      have HT := Lib.hid (HTo.out t hR)
      clear hR HTo HTb
      have hv1 : valT (.ok t) = t := rfl
      have hv2 : errT (.ok t) = -1 := rfl
      rw [hv1, hv2]
      clear hv1 hv2
      go_wp2_with fail
      go_ret3
      exact ⟨by rw [HT.out]; rfl, HB3.out⟩
    | error b =>
      have HT := Lib.hid (HTb.out b hR)
      clear hR HTo HTb
      have hv1 : valT (.error b) = 0 := rfl
      have hv2 : errT (.error b) = (b : Int) := rfl
      have db : decide (0 ≤ (b : Int)) = true := by simp
      rw [hv1, hv2]
      clear hv1 hv2
      go_wp2_with fail
      go_ret3
      exact ⟨by rw [HT.out]; rfl, HB3.out⟩
end Go.Proofs.Ytpcnfemjjlcjfaa

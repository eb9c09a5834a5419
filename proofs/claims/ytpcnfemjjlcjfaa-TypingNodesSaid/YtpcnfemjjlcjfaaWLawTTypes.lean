/-
  The law TypingTypes, from the program's contracts.
-/
import Derived.Test.YtpcnfemjjlcjfaaWTyC
/-! LawTTypes -/
namespace Go.Proofs.Ytpcnfemjjlcjfaa
open Go.RowKit

set_option maxRecDepth 100000 in
theorem ttypes_any {G : World → Prop} (gK : KeepX G) (cT : TTypeC G) (hA : TAliveC G) (l : List Qn) (v : Value) (w : World) (hw : G w) (hv : NodesAt w v l) (hi : ∀ x ∈ l, IntQ x) :
    Calls Try.prog 4 #[v] w fun e w' => e = .returned (.bool true) ∧ Below w.heap.size w w' := by
  have HG := Lib.hid (fun V (hV : Below w.heap.size w V) => gK.keep hw hV)
  have HAl := Lib.hid (fun V (hV : Below w.heap.size w V) => hA V (HG.out V hV))
  have HTp := Lib.hid (fun (hl : l.length ≤ 1000) => cT l v w hw hv hi hl)
  have HTD := Lib.hid (fun (hl : l.length ≤ 1000) V (hV : Below w.heap.size w V) => rtType_any l v V (hv.below hV (Nat.le_refl _)) hl)
  obtain ⟨p, cap, rfl, -, -⟩ := hv
  clear gK cT hA hw hi
  by_cases h60 : 60 < l.length
  · have d1 : decide ((60 : Int) < (l.length : Int)) = true := by simp; omega
    have d2 : decide (60 < l.length) = true := by simpa using h60
    clear h60
    go_enter Try.func4, Try.ntmps4
    go_wp2_with fail
    refine (HAl.out w (Below.refl _ _)).mono ?_
    rintro e w' ⟨rfl, hB⟩
    go_wp2_with fail
    go_ret
    exact ⟨rfl, hB⟩
  · have d1 : decide ((60 : Int) < (l.length : Int)) = false := by simp; omega
    have d2 : decide (60 < l.length) = false := by simpa using h60
    have HTp := Lib.hid (HTp.out (by omega))
    have HTD := Lib.hid (HTD.out (by omega))
    clear h60
    unfold TypeIs at HTp HTD
    generalize typeQ l = q at *
    obtain ⟨t, b, f⟩ := q
    simp only at HTp HTD
    go_enter Try.func4, Try.ntmps4
    go_wp2_with fail
    refine (HTp.out).mono ?_
    rintro e w1 ⟨rfl, hB1⟩
    have HB1 := Lib.hid hB1
    clear hB1 HTp
    go_wp2_with fail
    refine (HTD.out w1 HB1.out).mono ?_
    rintro e w2 ⟨rfl, hB2⟩
    have HB2 := Lib.hid (HB1.out.trans (hB2.mono HB1.out.size))
    clear hB2 HB1
    go_wp2_with fail
    refine (HAl.out w2 HB2.out).mono ?_
    rintro e w3 ⟨rfl, hB3⟩
    have HB3 := Lib.hid (HB2.out.trans (hB3.mono HB2.out.size))
    clear hB3 HB2
    go_wp2_with fail
    go_ret
    exact ⟨rfl, HB3.out⟩
end Go.Proofs.Ytpcnfemjjlcjfaa

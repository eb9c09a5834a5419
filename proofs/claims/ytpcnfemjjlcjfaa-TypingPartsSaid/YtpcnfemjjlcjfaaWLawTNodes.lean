/-
  The law TypingNodes, from the program's contracts.
-/
import Derived.Test.YtpcnfemjjlcjfaaWTyC
/-! LawTNodes -/
namespace Go.Proofs.Ytpcnfemjjlcjfaa
open Go.RowKit

set_option maxRecDepth 100000 in
theorem tnodes_any {G : World → Prop} (gK : KeepX G) (cN : TNodeC G) (hA : TAliveC G) (args : List Int) (v : Value) (k : Int) (h1 : -9223372036854775808 ≤ k) (h2 : k ≤ 9223372036854775807) (w : World) (hw : G w) (hv : ZnsAt w v args) (hi : ∀ x ∈ args, -9223372036854775808 ≤ x ∧ x ≤ 9223372036854775807) :
    Calls Try.prog 3 #[.int .i64 k, v] w fun e w' => e = .returned (.bool true) ∧ Below w.heap.size w w' := by
  have HG := Lib.hid (fun V (hV : Below w.heap.size w V) => gK.keep hw hV)
  have HAl := Lib.hid (fun V (hV : Below w.heap.size w V) => hA V (HG.out V hV))
  have HNp := Lib.hid (fun (hl : args.length ≤ 1000) => cN k args v w hw hv h1 h2 hi hl)
  have HND := Lib.hid (fun V (hV : Below w.heap.size w V) => rtNode_any k args v V (hv.below hV (Nat.le_refl _)))
  obtain ⟨p, cap, rfl, -, -⟩ := hv
  clear gK cN hA hw hi h1 h2
  by_cases h20 : 20 < args.length
  · have d1 : decide ((20 : Int) < (args.length : Int)) = true := by simp; omega
    have d2 : decide (20 < args.length) = true := by simpa using h20
    clear h20
    go_enter Try.func3, Try.ntmps3
    go_wp2_with fail
    refine (HAl.out w (Below.refl _ _)).mono ?_
    rintro e w' ⟨rfl, hB⟩
    go_wp2_with fail
    go_ret
    exact ⟨rfl, hB⟩
  · have d1 : decide ((20 : Int) < (args.length : Int)) = false := by simp; omega
    have d2 : decide (20 < args.length) = false := by simpa using h20
    have HNp := Lib.hid (HNp.out (by omega))
    clear h20
    generalize nodeT k args = t at *
    go_enter Try.func3, Try.ntmps3
    go_wp2_with fail
    refine (HNp.out).mono ?_
    rintro e w1 ⟨rfl, hB1⟩
    have HB1 := Lib.hid hB1
    clear hB1 HNp
    go_wp2_with fail
    refine (HND.out w1 HB1.out).mono ?_
    rintro e w2 ⟨rfl, hB2⟩
    have HB2 := Lib.hid (HB1.out.trans (hB2.mono HB1.out.size))
    clear hB2 HB1
    go_wp2_with fail
    refine (HAl.out w2 HB2.out).mono ?_
    rintro e w3 ⟨rfl, hB3⟩
    have HB3 := Lib.hid (HB2.out.trans (hB3.mono HB2.out.size))
    clear hB3 HB2
    go_wp2_with fail
    go_ret
    exact ⟨rfl, HB3.out⟩
end Go.Proofs.Ytpcnfemjjlcjfaa

/-
  The law ChangeHides holds for every argument, where the library's table stands as its initialiser lays it, tied to the program's text: it returns true and leaves its arguments as they were.
-/
import Derived.Test.YthpangacpihclaaDoorWLaidTab
import Derived.Test.YthpangacpihclaaDoorWChArg
import Derived.Test.YthpangacpihclaaDoorWChAl
import Derived.Test.YthpangacpihclaaDoorWCpL
import Derived.Test.YthpangacpihclaaDoorWPolL
import Derived.Test.YthpangacpihclaaDoorWLabArg
import Derived.Test.YthpangacpihclaaDoorWLawQHides
/-! SaidQHides -/
namespace Go.Proofs.YthpangacpihclaaDoor
open Go.ChangeShapes Go.WideShapes Go.ChangeAt Go.RowKit

theorem qhides_laidOut : laidOutB Tryd.prog = true := by kernel_rfl
set_option maxRecDepth 100000 in
theorem qhides_contract (H : Type) (enc : TypeId × Value → H) (W : World) (base : Nat) (args : Array Value) (ds gs : List (DataW H)) (before : List MemPlace)
    (hval : ∀ (j : Nat) t v, Tryd.f7.params[j]? = some t → args[j]? = some v → Value.okWide Tryd.prog W .any base t v)
    (hW : DataW.Whole enc Tryd.prog Tryd.f7.params.toList Rows.changeHidesSpec.vars false W args.toList ds gs before) (hL : laidMetH Tryd.prog Rows.changeHidesRow.laid W) :
    Calls Tryd.prog 7 args W fun e W' => ∃ v, e = .returned v ∧ Rows.changeHidesSpec.post enc Tryd.prog Tryd.f7 false true false false W args v W' := by
  have hT : TabOk W := tab_of_laid hL
  have hW' := hW
  obtain ⟨p, q, hA0, hV, rfl, hfz, hnd⟩ := hW
  have hA : DataW.TrodAll enc Tryd.prog W 0 (fun _ => true) true Tryd.f7.params.toList args.toList ds p := hA0
  rw [Tryd.params7] at hA hval
  obtain ⟨v0, v1, v2, v3, d0, d1, d2, d3, p0, p1, p2, p3, rfl, rfl, rfl, h0, h1, h2, h3⟩ := trodAll_four hA
  obtain ⟨rfl, rfl⟩ := trodVars_none hV
  clear hA0
  simp only [List.append_nil] at hW'
  have hlt0 : ∀ x ∈ p0, x.block < W.heap.size := fun x hx => by simpa using hW'.lt x (by simp [hx])
  have hargs0 : ∀ (W' : World), Below W.heap.size W W' → DataW.Trod enc Tryd.prog W' 0 (fun b => decide (b < W.heap.size)) true 29 v0 d0 p0 :=
    fun W' hn => Below.trod qhides_laidOut (by kernel_rfl) (of_decide_eq_true (by kernel_rfl)) h0 hn hlt0
  have hlt1 : ∀ x ∈ p1, x.block < W.heap.size := fun x hx => by simpa using hW'.lt x (by simp [hx])
  have hargs1 : ∀ (W' : World), Below W.heap.size W W' → DataW.Trod enc Tryd.prog W' 0 (fun b => decide (b < W.heap.size)) true 31 v1 d1 p1 :=
    fun W' hn => Below.trod qhides_laidOut (by kernel_rfl) (of_decide_eq_true (by kernel_rfl)) h1 hn hlt1
  have hlt2 : ∀ x ∈ p2, x.block < W.heap.size := fun x hx => by simpa using hW'.lt x (by simp [hx])
  have hargs2 : ∀ (W' : World), Below W.heap.size W W' → DataW.Trod enc Tryd.prog W' 0 (fun b => decide (b < W.heap.size)) true 24 v2 d2 p2 :=
    fun W' hn => Below.trod qhides_laidOut (by kernel_rfl) (of_decide_eq_true (by kernel_rfl)) h2 hn hlt2
  have hlt3 : ∀ x ∈ p3, x.block < W.heap.size := fun x hx => by simpa using hW'.lt x (by simp [hx])
  have hargs3 : ∀ (W' : World), Below W.heap.size W W' → DataW.Trod enc Tryd.prog W' 0 (fun b => decide (b < W.heap.size)) true 3 v3 d3 p3 :=
    fun W' hn => Below.trod qhides_laidOut (by kernel_rfl) (of_decide_eq_true (by kernel_rfl)) h3 hn hlt3
  obtain ⟨q0, hq0, rfl⟩ := pol_of_arg (hval 0 29 v0 rfl rfl) h0
  obtain ⟨c1, hc1, rfl⟩ := chg_of_arg (hval 1 31 v1 rfl rfl) h1
  obtain ⟨x2, y2, hx2, hy2, rfl, -, -⟩ := lab_of_arg (hval 2 24 v2 rfl rfl) h2
  obtain ⟨t3, rfl, -, -, wt3⟩ := open_int Tryd.underlying3 (hval 3 3 v3 rfl rfl) h3
  refine (qhides_any chOne_any pSeen_any pCaps_any (qalive_any pFirst_any pCaps_any chFine_any chOne_any chAll_any chMap_any chBytes_any chRead_any) q0 c1 x2 y2 t3 W hT hq0 hc1 hx2 hy2 (bounds_i64 wt3).1 (bounds_i64 wt3).2).mono fun e W' ⟨he, hB⟩ => ?_
  subst he
  exact ⟨_, rfl, _, _, _, [], p0 ++ (p1 ++ (p2 ++ (p3))), [], hW', trodAll_mk1 (shut_bool Tryd.underlying4 _), trodAll_mk4 (hargs0 _ hB) (hargs1 _ hB) (hargs2 _ hB) (hargs3 _ hB), rfl, hB.frame _, fun h => by cases h⟩

theorem qhides_reads (os : Os) {H : Type} (enc : TypeId × Value → H) : ∃ places, DataW.whole enc Tryd.prog ((tabWorld os).forCall (fun _ _ => 0) ⟨#[], #[Value.agg (polC zeroP), .agg (chgC ⟨0, 0, 0, 0, 0⟩), .agg #[.int .u16 0, .int .u16 0], .int .i64 0], []⟩).memory Tryd.f7.params.toList Rows.changeHidesSpec.vars false #[Value.agg (polC zeroP), .agg (chgC ⟨0, 0, 0, 0, 0⟩), .agg #[.int .u16 0, .int .u16 0], .int .i64 0].toList 8 = some ([.agg [.lit (.int .u16 0), .agg [.agg [.lit (.int .u16 0), .lit (.int .u16 0)], .agg [.lit (.int .u16 0), .lit (.int .u16 0)], .agg [.lit (.int .u16 0), .lit (.int .u16 0)], .agg [.lit (.int .u16 0), .lit (.int .u16 0)], .agg [.lit (.int .u16 0), .lit (.int .u16 0)], .agg [.lit (.int .u16 0), .lit (.int .u16 0)], .agg [.lit (.int .u16 0), .lit (.int .u16 0)], .agg [.lit (.int .u16 0), .lit (.int .u16 0)], .agg [.lit (.int .u16 0), .lit (.int .u16 0)], .agg [.lit (.int .u16 0), .lit (.int .u16 0)], .agg [.lit (.int .u16 0), .lit (.int .u16 0)], .agg [.lit (.int .u16 0), .lit (.int .u16 0)], .agg [.lit (.int .u16 0), .lit (.int .u16 0)], .agg [.lit (.int .u16 0), .lit (.int .u16 0)], .agg [.lit (.int .u16 0), .lit (.int .u16 0)], .agg [.lit (.int .u16 0), .lit (.int .u16 0)]], .agg [.lit (.int .u16 0), .lit (.int .u16 0), .lit (.int .u16 0), .lit (.int .u16 0), .lit (.int .u16 0), .lit (.int .u16 0), .lit (.int .u16 0), .lit (.int .u16 0), .lit (.int .u16 0), .lit (.int .u16 0), .lit (.int .u16 0), .lit (.int .u16 0), .lit (.int .u16 0), .lit (.int .u16 0), .lit (.int .u16 0), .lit (.int .u16 0)], .agg [.lit (.int .u8 0), .lit (.int .u8 0), .lit (.int .u8 0), .lit (.int .u8 0), .lit (.int .u8 0), .lit (.int .u8 0), .lit (.int .u8 0), .lit (.int .u8 0), .lit (.int .u8 0), .lit (.int .u8 0), .lit (.int .u8 0), .lit (.int .u8 0), .lit (.int .u8 0), .lit (.int .u8 0), .lit (.int .u8 0), .lit (.int .u8 0)], .lit (.int .u16 0)], .agg [.lit (.int .i64 0), .lit (.int .i64 0), .lit (.int .i64 0), .agg [.lit (.int .u16 0), .lit (.int .u16 0)]], .agg [.lit (.int .u16 0), .lit (.int .u16 0)], .lit (.int .i64 0)], [], places) :=
  ⟨[], by kernel_rfl⟩

set_option maxRecDepth 100000 in
theorem qhides_lifted (os : Os) (started : os.Started) (H : Type) (enc : TypeId × Value → H) (F : Stop.Interp) :
    ReturnsInHanded {} Tryd.checked os 7 .any ((OpenSpec.ofChange Rows.changeHidesSpec).preRow enc Tryd.prog Tryd.f7 Rows.changeHidesRow.domain false Rows.changeHidesRow.laid) (((OpenSpec.ofChange Rows.changeHidesSpec).at F).post enc Tryd.prog Tryd.f7 false true false false) := by
  obtain ⟨places, hx⟩ := qhides_reads os enc
  refine returnsInHanded_of_row (C := Tryd.checked) (s := OpenSpec.ofChange Rows.changeHidesSpec) tOwn started (by kernel_rfl) Tryd.func7
    (witness_row_atRef (enc := enc) (C := Tryd.checked) false (tabWorld os) #[Value.agg (polC zeroP), .agg (chgC ⟨0, 0, 0, 0, 0⟩), .agg #[.int .u16 0, .int .u16 0], .int .i64 0] rfl (by kernel_rfl) (by kernel_rfl) (by kernel_rfl)
      (OpenSpec.preRow_of_cond 8 hx (by kernel_rfl) (fun k hk => by cases hk) (by kernel_rfl) (tab_met os _))) ?_
  intro W base args ds gs before hval hW _ _ _ hL _ _
  exact qhides_contract H enc W base args ds gs before hval hW hL

theorem qhides_said : Rows.ChangeHidesSaid :=
  OpenClaim.holds_of_cond 7 Tryd.f7 rfl rfl rfl rfl rfl rfl rfl ⟨rfl, rfl, rfl, rfl, rfl⟩ rfl rfl rfl rfl rfl (by kernel_rfl) Tryd.func7 (by kernel_rfl)
    (of_decide_eq_true (by kernel_rfl)) (by unfold Func.isWrapper; first | (rw [if_pos (by decide +kernel)]; kernel_rfl) | (rw [if_neg (by decide +kernel)]; exact ⟨rfl, rfl⟩))
    (fun os started H enc _ F => by rw [OpenClaim.pre_eq_preRow]; exact qhides_lifted os started H enc F)

theorem qhides_plain (f : FuncId) (fn : Func) (hf : Tryd.pinned.checked.prog.funcNamed "forepeak/forepeaklaw13.ChangeHides" = some f) (hfn : Tryd.pinned.checked.prog.funcs[f]? = some fn) :
    false = Tryd.pinned.checked.prog.looks [] ∧ ∀ (j : Nat) t, fn.params[j]? = some t → Tryd.pinned.checked.prog.wantsStandIn t = false := by
  obtain rfl : f = 7 := Option.some.inj ((show Tryd.prog.funcNamed "forepeak/forepeaklaw13.ChangeHides" = some 7 by kernel_rfl).symm.trans hf) |>.symm
  obtain rfl : fn = Tryd.f7 := (Option.some.inj (Tryd.func7.symm.trans hfn)).symm
  refine ⟨by kernel_rfl, fun j t ht => ?_⟩
  rw [Tryd.params7] at ht
  have hm : t ∈ [29, 31, 24, 3] := by simpa using Array.mem_of_getElem? ht
  have hall : ([29, 31, 24, 3].all fun u => !Tryd.prog.wantsStandIn u) = true := by kernel_rfl
  exact (show Tryd.prog.wantsStandIn t = false by simpa using List.all_eq_true.1 hall t hm)

theorem qhides_holds : Rows.ChangeHidesCardSaid :=
  Claim7.holds_tied_plain_at .later [] _ _ _ _ qhides_said (fun _ h => by cases h) (by kernel_rfl) (fun _ h => by cases h) changeHides_row_tie rfl ⟨rfl, rfl⟩ (by kernel_rfl) rfl qhides_plain (by kernel_rfl)

end Go.Proofs.YthpangacpihclaaDoor

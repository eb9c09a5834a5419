/-
  A change equals itself; the document's Same of the same changes.
-/
import Derived.Test.YthpangacpihclaaDoorWChA
import Derived.Test.YthpangacpihclaaDoorW2
import Derived.Test.YthpangacpihclaaDoorW1
/-! ChE -/
namespace Go.Proofs.YthpangacpihclaaDoor
open Go.RowKit

def chgZ : Cg := ⟨0, 0, 0, 0, 0⟩
theorem wfI64 {n : Int} (h1 : -9223372036854775808 ≤ n) (h2 : n ≤ 9223372036854775807) : (Lit.int .i64 n).wf = true := by
  simp only [Lit.wf, show IntKind.i64.min = -9223372036854775808 by decide, show IntKind.i64.max = 9223372036854775807 by decide, decide_eq_true h1, decide_eq_true h2, Bool.and_self]
theorem chgC_ints {c : Cg} (hc : CgOk c) : intsL (chgC c).toList := by
  intro v hv
  simp only [chgC, List.mem_cons, List.not_mem_nil, or_false] at hv
  rcases hv with rfl | rfl | rfl | rfl | rfl
  · exact ⟨_, _, rfl, wfI64 hc.kind.1 hc.kind.2⟩
  · exact ⟨_, _, rfl, wfI64 hc.a.1 hc.a.2⟩
  · exact ⟨_, _, rfl, wfI64 hc.b.1 hc.b.2⟩
  · exact ⟨_, _, rfl, wfU16 hc.s⟩
  · exact ⟨_, _, rfl, wfU16 hc.i⟩
theorem chgZ_lits : (Tryd.prog.keyLits 4 31 (chgC chgZ).toList).isSome = true := by kernel_rfl
theorem key_chg : Tryd.prog.keyTypeAt 4 31 = true := by kernel_rfl
theorem formed_chg (c : Cg) : (Value.agg (chgC c)).formed Tryd.prog 31 = true := by
  simp only [Value.formed, Tryd.underlying31, show (chgC c).size = 5 from rfl]
  kernel_rfl
theorem run_equal_chg {c : Cg} (hc : CgOk c) (w : World) : (Op.equalIn 10000 31 (.agg (chgC c)) (.agg (chgC c))).run Tryd.prog w = .ok true w :=
  equal_self w (m := 4) (by decide) key_chg 4 (formed_chg c) (chgC_ints hc) (show (chgC c).toList.map kindV = (chgC chgZ).toList.map kindV from rfl) chgZ_lits
theorem guard_chg : Tryd.prog.eqGuardType Tryd.prog.depth 31 = false := by kernel_rfl
theorem exec_neq_chg {o : Oper} {a : Act} {w : World} {x y : Operand} {ty : TypeId} {c : Cg} (hc : CgOk c) (ho : o.op = .binOp .neq 31 x y ty) (hx : a.eval x = .agg (chgC c)) (hy : a.eval y = .agg (chgC c)) :
    (execOp a.eval o).run Tryd.prog w = .ok (.value (.bool false)) w := by
  unfold execOp
  simp only [ho, hx, hy, Sem.run_bind, run_eqGuard_agg w .neq 31 x y _ _ guard_chg, run_neq_struct, run_equal_chg hc, Result.andThen_ok, Sem.run_pure, Bool.not_true]
set_option maxRecDepth 100000 in
set_option maxHeartbeats 3200000 in
theorem rcSame_any (u v : Value) (l : List Cg) (w : World) (hu : ChsAt w u l) (hv : ChsAt w v l) :
    Calls Tryd.prog 22 #[u, v] w fun e w' => e = .returned (.bool true) ∧ Below w.heap.size w w' := by
  obtain ⟨pt, cap, rfl, hm, hc⟩ := hu
  obtain ⟨pt2, cap2, rfl, -, hc2⟩ := hv
  have HC := Lib.hid hc
  have HC2 := Lib.hid hc2
  clear hc hc2
  go_enter Tryd.func22, Tryd.ntmps22
  go_wp2_with fail
  go_loopw [5] (fun i wr => ∃ k : Nat, k ≤ l.length ∧ i = .int .i64 (k : Int) ∧ Below w.heap.size w wr) (fun i _ => l.length - (intOf i).toNat)
  case atStart => exact ⟨0, by omega, rfl, Below.refl _ _⟩
  case round =>
    obtain ⟨k, hk, rfl, hB⟩ := hrel
    have HB := Lib.hid hB
    clear hB
    by_cases hlt : k < l.length
    · obtain ⟨g, off, rfl, hg, hcs⟩ := HC.out (by intro e; rw [e] at hlt; simp at hlt)
      obtain ⟨g2, off2, rfl, hg2, hcs2⟩ := HC2.out (by intro e; rw [e] at hlt; simp at hlt)
      obtain ⟨hco, hcc⟩ := hcs k hlt
      have hcc2 := (hcs2 k hlt).2
      generalize l[k] = c at *
      have HCc := Lib.hid (fun V (hV : Below w.heap.size w V) => ChCells.below (c := c) (off := off + k * 5) hcc hV hg)
      have HCd := Lib.hid (fun V (hV : Below w.heap.size w V) => ChCells.below (c := c) (off := off2 + k * 5) hcc2 hV hg2)
      have HCo := Lib.hid hco
      have dk : decide ((k : Int) < (l.length : Int)) = true := by simp; omega
      have hlt' : (k : Int) < (l.length : Int) := by omega
      clear hcs hcs2 hcc hcc2 hco HC HC2
      go_upto_region 6 with fail
      refine wp_region_L (fun _ V => Below w.heap.size w V) 0 [.val (.slice (some ⟨g, off, none⟩) l.length cap), .val (.int .i64 (k : Int)), .val (.pointer (some ⟨g, off + k * 5, none⟩)), .val (.agg (chgC c)), .val (.slice (some ⟨g2, off2, none⟩) l.length cap2), .val (.int .i64 (k : Int)), .val (.pointer (some ⟨g2, off2 + k * 5, none⟩)), .val (.agg (chgC c)), .val (.bool false)]
        (fun x => { tmps := #[.slice (some ⟨g, off, none⟩) l.length cap, .slice (some ⟨g2, off2, none⟩) l.length cap2, undef, undef, u4, .int .i64 (k : Int), .slice (some ⟨g, off, none⟩) l.length cap, .int .i64 (l.length : Int), .slice (some ⟨g2, off2, none⟩) l.length cap2, .int .i64 (l.length : Int), .bool false, .int .i64 (k : Int), .slice (some ⟨g, off, none⟩) l.length cap, .int .i64 (l.length : Int), .bool true, u15, u16, x 0, x 1, x 2, x 3, x 4, x 5, x 6, x 7, x 8], defers := [] }) (fun i => ([u17, u18, u19, u20, u21, u22, u23, u24, u25] : List Value).getD i undef) (by kernel_rfl) rfl rfl (by kernel_rfl) (by kernel_rfl) (by kernel_rfl) (by kernel_rfl) (HB.out.drew) ?_ ?_
      · refine ⟨ObL.of_val rfl (fun x v => rfl) (fun x V vs hC hD => ?_), ?_⟩
        · clear hD
          refine want_yes rfl ?_
          exact leads_value (v := .slice (some ⟨g, off, none⟩) l.length cap) (by go_simp) ⟨rfl, hC⟩
        refine ⟨ObL.of_val rfl (fun x v => rfl) (fun x V vs hC hD => ?_), ?_⟩
        · clear hD
          refine want_yes rfl ?_
          exact leads_value (v := .int .i64 (k : Int)) (by go_simp) ⟨rfl, hC⟩
        refine ⟨ObL.of_val rfl (fun x v => rfl) (fun x V vs hC hD => ?_), ?_⟩
        · have e0 : x 0 = .slice (some ⟨g, off, none⟩) l.length cap := (hD.1 rfl).1
          have e1 : x 1 = .int .i64 (k : Int) := (hD.2.1 rfl).1
          clear hD
          refine want_yes rfl ?_
          have q := hlt'
          exact leads_value (v := .pointer (some ⟨g, off + k * 5, none⟩)) (by go_simp) ⟨rfl, hC⟩
        refine ⟨ObL.of_val rfl (fun x v => rfl) (fun x V vs hC hD => ?_), ?_⟩
        · have e2 : x 2 = .pointer (some ⟨g, off + k * 5, none⟩) := (hD.1 rfl).1
          clear hD
          refine want_yes rfl ?_
          exact leads_value (exec_load_chgAt rfl e2 (HCc.out V hC)) ⟨rfl, hC⟩
        refine ⟨ObL.of_val rfl (fun x v => rfl) (fun x V vs hC hD => ?_), ?_⟩
        · clear hD
          refine want_yes rfl ?_
          exact leads_value (v := .slice (some ⟨g2, off2, none⟩) l.length cap2) (by go_simp) ⟨rfl, hC⟩
        refine ⟨ObL.of_val rfl (fun x v => rfl) (fun x V vs hC hD => ?_), ?_⟩
        · clear hD
          refine want_yes rfl ?_
          exact leads_value (v := .int .i64 (k : Int)) (by go_simp) ⟨rfl, hC⟩
        refine ⟨ObL.of_val rfl (fun x v => rfl) (fun x V vs hC hD => ?_), ?_⟩
        · have e4 : x 4 = .slice (some ⟨g2, off2, none⟩) l.length cap2 := (hD.1 rfl).1
          have e5 : x 5 = .int .i64 (k : Int) := (hD.2.1 rfl).1
          clear hD
          refine want_yes rfl ?_
          have q := hlt'
          exact leads_value (v := .pointer (some ⟨g2, off2 + k * 5, none⟩)) (by go_simp) ⟨rfl, hC⟩
        refine ⟨ObL.of_val rfl (fun x v => rfl) (fun x V vs hC hD => ?_), ?_⟩
        · have e6 : x 6 = .pointer (some ⟨g2, off2 + k * 5, none⟩) := (hD.1 rfl).1
          clear hD
          refine want_yes rfl ?_
          exact leads_value (exec_load_chgAt rfl e6 (HCd.out V hC)) ⟨rfl, hC⟩
        refine ⟨ObL.of_val rfl (fun x v => rfl) (fun x V vs hC hD => ?_), ?_⟩
        · have e3 : x 3 = .agg (chgC c) := (hD.1 rfl).1
          have e7 : x 7 = .agg (chgC c) := (hD.2.1 rfl).1
          clear hD
          refine want_yes rfl ?_
          exact leads_value (exec_neq_chg HCo.out rfl e3 e7) ⟨rfl, hC⟩
        trivial
      · intro xa V vs hlv hC hx
        have HB2 := Lib.hid (show Below w.heap.size w V from hC)
        have e8 : xa 8 = .bool false := hx 8 (by simp)
        clear hx hC
        rw [e8]
        clear e8 hlv
        go_wp2_with fail
        go_roundw
        case rel => exact ⟨k + 1, by omega, by go_num, HB2.out⟩
        case measure => simp [intOf]; omega
    · have dk : decide ((k : Int) < (l.length : Int)) = false := by simp; omega
      go_wp2_with fail
      go_ret
      exact ⟨rfl, HB.out⟩
end Go.Proofs.YthpangacpihclaaDoor

/-
  The reference's list of a set's tags.
-/
import Derived.Test.YtpmolglmpgkcbaaDoorTagT
namespace Go.Proofs.YtpmolglmpgkcbaaDoor
open Go.RowKit

theorem tagsTo_step_yes {s k : Nat} (h : s.testBit k = true) : tagsTo s (k + 1) = tagsTo s k ++ [k] := by
  show tagsTo s k ++ (if s.testBit k = true then [k] else []) = _
  rw [if_pos h]
theorem tagsTo_step_no {s k : Nat} (h : s.testBit k = false) : tagsTo s (k + 1) = tagsTo s k := by
  show tagsTo s k ++ (if s.testBit k = true then [k] else []) = _
  rw [h]; simp

theorem ownBlock_le {w : World} {base : Nat} {e : TypeId} {size : Nat} {v : Value} {n : Nat} {xs : List Value} (h : w.ownsRow base e size v n xs) {b : Nat} (hb : v.ownBlock = some b) : base ≤ b := by
  rcases h.2 with ⟨h1, _⟩ | ⟨g, cap, cur, h1, hg, _⟩
  · rw [h1] at hb; simp [Value.ownBlock] at hb
  · rw [h1] at hb; simp [Value.ownBlock] at hb; omega

set_option maxHeartbeats 1000000 in
set_option maxRecDepth 100000 in
theorem rList_any (s : Nat) (hs : s < 65536) (w : World) :
    Calls Tryd.prog 43 #[.int .u16 s] w fun e W' => ∃ v, e = .returned v ∧ W'.ownsRow w.heap.size 3 1 v (tagsN s).length (intsV (tagsN s)) ∧ Below w.heap.size w W' := by
  obtain ⟨i0, hi, hz0, hz1, hz2⟩ := info_parts info_int
  go_enter Tryd.func43, Tryd.ntmps43
  go_wp2_with fail
  go_loopw [3, 4] (fun v t wr => ∃ k : Nat, k ≤ 16 ∧ t = .int .i64 k ∧ wr.ownsRow w.heap.size 3 1 v (tagsTo s k).length (intsV (tagsTo s k)) ∧ Below w.heap.size w wr) (fun _ t _ => 16 - (intOf t).toNat)
  case atStart => exact ⟨0, by omega, rfl, World.ownsRow_nil _ _ _ _, Below.refl _ _⟩
  case round =>
    obtain ⟨k, hk, rfl, hrow, hB⟩ := hrel
    by_cases hlt : k < 16
    · have hle := tagsTo_length_le s k
      cases hA : hasB (s : Int) (k : Int)
      · have HA := Lib.hid hA
        have HS := Lib.hid (tagsTo_step_no (hasB_false_nat hA))
        clear hA
        go_wp2_with (go_at_call 27; refine (rHas_any _ _ _ hs).mono ?_; rintro e w' ⟨rfl, rfl⟩; rw [HA.out])
        go_roundw
        case rel => exact ⟨k + 1, by omega, by go_num, by rw [HS.out]; exact hrow, hB⟩
        case measure => simp [intOf]; omega
      · have HA := Lib.hid hA
        have HS := Lib.hid (tagsTo_step_yes (hasB_true_nat hA))
        clear hA
        have hml : (tagsTo s k).length + 1 ≤ maxLen := by unfold maxLen; omega
        have hm8 : ((tagsTo s k).length + 1) * 8 ≤ 140737488355328 := by omega
        go_wp2_with (first | (go_at_call 27; refine (rHas_any _ _ _ hs).mono ?_; rintro e w' ⟨rfl, rfl⟩; rw [HA.out]) | (at_builtin; refine wpList_append_own _ rfl _ _ 61 rfl w.heap.size 3 i0 (.int .i64 0) 1 8 Tryd.underlying61 hi hz0 hz1 hz2 rfl (by decide) _ _ _ rfl (hrow.alloc _) ⟨wr.heap.size, 0, none⟩ 1 1 [.int .i64 (k : Int)] rfl rfl (cell_one_new _ _ _) (by simp [Value.oneCell']) hml hm8 (by have := hB.size; simp; omega) ?_; intro v' w1 hown' hgrow _))
        go_roundw
        case rel => exact ⟨k + 1, by omega, by go_num, by rw [HS.out, List.length_append, intsV_snoc]; exact hown', (hB.alloc hB.size _).grown hgrow (by have := hB.size; simp; omega) (fun b e => ownBlock_le hrow e)⟩
        case measure => simp [intOf]; omega
    · have HK := Lib.hid (show k = 16 by omega)
      go_wp2_with fail
      go_ret
      exact ⟨_, rfl, by unfold tagsN; rw [← HK.out]; exact hrow, hB⟩


theorem intsV_getD (l : List Nat) (i : Nat) (h : i < l.length) : (intsV l)[i]? = some (.int .i64 ((l.map fun x : Nat => (x : Int)).getD i 0)) := by
  simp [intsV, List.getD, h]

/-- A row of the call's own reads as the integers that it holds. -/
theorem intsAt_of_owns {w : World} {base : Nat} {v : Value} {l : List Nat} (hlen : l.length ≤ 16) (h : w.ownsRow base 3 1 v l.length (intsV l)) : IntsAt w v (l.map fun x : Nat => (x : Int)) := by
  rcases h.2 with ⟨h1, h2⟩ | ⟨g, cap, cur, h1, hg, hblk, hn, hcap, hsz, htake⟩
  · exact ⟨none, 0, by rw [h1]; simp [h2], by simp; omega, fun hne => absurd (by simpa using List.eq_nil_of_length_eq_zero h2) hne⟩
  · refine ⟨_, cap, by rw [h1, List.length_map], by simp; omega, fun _ => ⟨g, 0, rfl, fun i hi => ?_⟩⟩
    rw [List.length_map] at hi
    have h3 := intsV_getD l i hi
    have h4 : cur[i]? = some (.int .i64 ((l.map fun x : Nat => (x : Int)).getD i 0)) := by
      rw [← h3, ← htake, List.getElem?_take_of_lt (by omega)]; simp
    rw [Nat.zero_add]
    simp only [World.cell?, hblk]
    exact h4

end Go.Proofs.YtpmolglmpgkcbaaDoor

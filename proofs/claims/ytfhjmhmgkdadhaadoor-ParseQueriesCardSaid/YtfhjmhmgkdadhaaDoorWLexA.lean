/-
  The document's small letters, and where a piece ends.
-/
import Derived.LoopTactic
import Derived.RangeFuncNested
import Derived.RangeFuncBound
import Derived.RangeFuncCalls
import Derived.RangeFuncLeaves
import Derived.RangeFuncBox
import Derived.RangeFuncWrites
import Derived.Shelf.Abstract
import Derived.Shelf.RegionOpen
import Derived.WalkKit
import Derived.OwnWalkIn
import Derived.TacticsInMore
import Derived.LoopNIn
import Derived.LoopIn
import Derived.Maps.AppendAt
import Derived.Test.YtfhjmhmgkdadhaaDoorWLexM
import Derived.Test.YtfhjmhmgkdadhaaDoorWSlcG
import Derived.Test.YtfhjmhmgkdadhaaDoorW1
/-! LexA -/
namespace Go.Proofs.YtfhjmhmgkdadhaaDoor
open Go.RowKit

theorem smallB_int (b : UInt8) : smallB b = ((decide ((97 : Int) ≤ (b.toNat : Int)) && decide ((b.toNat : Int) ≤ 122)) || (decide ((48 : Int) ≤ (b.toNat : Int)) && decide ((b.toNat : Int) ≤ 57))) := by
  unfold smallB
  rw [Bool.eq_iff_iff]
  simp only [Bool.or_eq_true, Bool.and_eq_true, decide_eq_true_eq, UInt8.le_iff_toNat_le]
  have h1 : (97 : UInt8).toNat = 97 := rfl
  have h2 : (122 : UInt8).toNat = 122 := rfl
  have h3 : (48 : UInt8).toNat = 48 := rfl
  have h4 : (57 : UInt8).toNat = 57 := rfl
  omega
set_option maxRecDepth 100000 in
set_option maxHeartbeats 1600000 in
theorem rlSmall_any (b : UInt8) (w : World) : Calls Tryd.prog 38 #[.int .u8 (b.toNat : Int)] w fun e w' => e = .returned (.bool (smallB b)) ∧ Below w.heap.size w w' := by
  have HS := Lib.hid (smallB_int b)
  go_enter Tryd.func38, Tryd.ntmps38
  by_cases h1 : (97 : Int) ≤ (b.toNat : Int) <;> by_cases h2 : (b.toNat : Int) ≤ 122 <;> by_cases h3 : (48 : Int) ≤ (b.toNat : Int) <;> by_cases h4 : (b.toNat : Int) ≤ 57 <;>
    (go_wp2_with fail; go_ret; exact ⟨by rw [HS.out]; simp [h1, h2, h3, h4], Below.refl _ _⟩)
theorem take_len {p : UInt8 → Bool} : ∀ {l : List UInt8} {j : Nat}, j ≤ l.length → (∀ t, (h : t < l.length) → t < j → p l[t] = true) → (j = l.length ∨ ∃ h : j < l.length, p l[j] = false) → (l.takeWhile p).length = j
  | [], 0, _, _, _ => rfl
  | [], j + 1, h, _, _ => absurd h (by simp)
  | c :: r, 0, _, _, h => by
    rcases h with h | ⟨h, hf⟩
    · cases h
    · rw [List.takeWhile_cons, show p c = false from hf]; rfl
  | c :: r, j + 1, hj, h1, h2 => by
    have h0 : p c = true := h1 0 (by simp) (by omega)
    rw [List.takeWhile_cons, h0]
    simp only [if_true, List.length_cons]
    rw [take_len (l := r) (j := j) (by simp only [List.length_cons] at hj; omega) (fun t ht htj => h1 (t + 1) (by simp only [List.length_cons]; omega) (by omega)) (by
      rcases h2 with h2 | ⟨h2, hf⟩
      · exact .inl (by simp only [List.length_cons] at h2; omega)
      · exact .inr ⟨by simp only [List.length_cons] at h2; omega, hf⟩)]
theorem byte_neD {a b : UInt8} (h : ¬ a = b) : ((a.toNat : Int) == (b.toNat : Int)) = false := by
  rw [beq_eq_false_iff_ne]
  intro e
  exact h (UInt8.toNat_inj.1 (by omega))
theorem cut_sign {s : List UInt8} {pl : Nat} (hp : pl < s.length) (h : ((s.drop pl).takeWhile smallB).length = 0) : ((∀ (h1 : pl + 1 < s.length), s[pl] = 60 → ¬ s[pl + 1] = 61) → cutN (s.drop pl) = 1) ∧ (∀ (h1 : pl + 1 < s.length), s[pl] = 60 → s[pl + 1] = 61 → cutN (s.drop pl) = 2) := by
  have e : s.drop pl = s[pl] :: s.drop (pl + 1) := List.drop_eq_getElem_cons hp
  unfold cutN
  rw [if_neg (by omega), e]
  constructor
  · intro hn
    split
    · rename_i heq
      simp only [List.cons.injEq] at heq
      have h1 : pl + 1 < s.length := by
        have := congrArg List.length heq.2
        rw [List.length_drop] at this
        simp only [List.length_cons] at this
        omega
      have e2 : s.drop (pl + 1) = s[pl + 1] :: s.drop (pl + 1 + 1) := List.drop_eq_getElem_cons h1
      rw [e2] at heq
      simp only [List.cons.injEq] at heq
      exact absurd heq.2.1 (hn h1 heq.1)
    · rfl
  · intro h1 ha hb
    have e2 : s.drop (pl + 1) = s[pl + 1] :: s.drop (pl + 1 + 1) := List.drop_eq_getElem_cons h1
    rw [e2, ha, hb]
    rfl
set_option maxRecDepth 100000 in
set_option maxHeartbeats 1600000 in
theorem rlCut_any (s : List UInt8) (hl : s.length ≤ 48) (pl : Nat) (hp : pl < s.length) (w : World) : Calls Tryd.prog 28 #[.string ⟨s.toArray⟩, .int .i64 (pl : Int)] w fun e w' => e = .returned (.int .i64 ((pl + cutN (s.drop pl) : Nat) : Int)) ∧ Below w.heap.size w w' := by
  have hz : (⟨s.toArray⟩ : ByteArray).size = s.length := by simp [ByteArray.size]
  have HSm := Lib.hid (fun b V => rlSmall_any b V)
  have HL := Lib.hid hl
  have HP := Lib.hid hp
  go_enter Tryd.func28, Tryd.ntmps28
  go_wp2_with fail
  go_loopw [5] (fun i wr => ∃ j : Nat, pl + j ≤ s.length ∧ i = .int .i64 ((pl + j : Nat) : Int) ∧ Below w.heap.size w wr ∧ ∀ t, (h : pl + t < s.length) → t < j → smallB s[pl + t] = true) (fun i _ => s.length - (intOf i).toNat)
  case atStart => exact ⟨0, by omega, rfl, Below.refl _ _, fun t _ h => by omega⟩
  case round =>
    obtain ⟨j, hj, rfl, hB, hall⟩ := hrel
    have HB := Lib.hid hB
    have HA := Lib.hid hall
    clear hB hall
    by_cases hlt : pl + j < s.length
    · have hk2 : pl + j < (⟨s.toArray⟩ : ByteArray).size := by omega
      have HBy := Lib.hid (show (⟨s.toArray⟩ : ByteArray)[pl + j] = s[pl + j] from rfl)
      go_wp2_with fail
      refine (HSm.out _ wr).mono ?_
      rintro e w2 ⟨rfl, hB2⟩
      have HB2 := Lib.hid (HB.out.trans (hB2.mono HB.out.size))
      clear hB2
      have hwj : IntKind.i64.wrap ((pl : Int) + (j : Int) + 1) = (pl : Int) + (j : Int) + 1 := by have := HL.out; rw [IntKind.wrap_i64]; omega
      cases hsm : smallB (⟨s.toArray⟩ : ByteArray)[pl + j] with
      | true =>
        rw [HBy.out] at hsm
        go_wp2_with fail
        go_roundw
        case rel => exact ⟨j + 1, by omega, by go_num, HB2.out, fun t ht htj => by
          by_cases e : t = j
          · subst e; exact hsm
          · exact HA.out t ht (by omega)⟩
        case measure => simp [intOf]; omega
      | false =>
        rw [HBy.out] at hsm
        have HT := Lib.hid (show ((s.drop pl).takeWhile smallB).length = j from take_len (by rw [List.length_drop]; omega) (fun t ht htj => by
          rw [List.length_drop] at ht
          rw [List.getElem_drop]
          exact HA.out t (by omega) htj) (.inr ⟨by rw [List.length_drop]; omega, by rw [List.getElem_drop]; exact hsm⟩))
        by_cases hj0 : 0 < j
        · have d5 : decide ((pl : Int) < (pl : Int) + (j : Int)) = true := by simp; omega
          have hc : cutN (s.drop pl) = j := by unfold cutN; rw [if_pos (by rw [HT.out]; exact hj0)]; exact HT.out
          go_wp2_with fail
          go_ret
          exact ⟨by rw [hc]; rfl, HB2.out⟩
        · obtain rfl : j = 0 := by omega
          have HC := Lib.hid (cut_sign HP.out HT.out)
          have d5 : decide ((pl : Int) < (pl : Int) + ((0 : Nat) : Int)) = false := by simp
          have hw1 : IntKind.i64.wrap ((pl : Int) + 1) = (pl : Int) + 1 := by have := HL.out; rw [IntKind.wrap_i64]; omega
          have hw2 : IntKind.i64.wrap ((pl : Int) + 2) = (pl : Int) + 2 := by have := HL.out; rw [IntKind.wrap_i64]; omega
          have hk0 : pl < (⟨s.toArray⟩ : ByteArray).size := by omega
          by_cases h1 : pl + 1 < s.length
          · have d6 : decide ((pl : Int) + 1 < (s.length : Int)) = true := by simp; omega
            have hk1 : pl + 1 < (⟨s.toArray⟩ : ByteArray).size := by omega
            by_cases ha : s[pl] = 60
            · have da : (((⟨s.toArray⟩ : ByteArray)[pl].toNat : Int) == 60) = true := by rw [show (⟨s.toArray⟩ : ByteArray)[pl] = s[pl] from rfl, ha]; rfl
              by_cases hb : s[pl + 1] = 61
              · have db : (((⟨s.toArray⟩ : ByteArray)[pl + 1].toNat : Int) == 61) = true := by rw [show (⟨s.toArray⟩ : ByteArray)[pl + 1] = s[pl + 1] from rfl, hb]; rfl
                go_wp2_with fail
                go_ret
                exact ⟨by rw [HC.out.2 h1 ha hb]; rfl, HB2.out⟩
              · have db : (((⟨s.toArray⟩ : ByteArray)[pl + 1].toNat : Int) == 61) = false := byte_neD hb
                go_wp2_with fail
                go_ret
                exact ⟨by rw [HC.out.1 (fun _ _ => hb)]; rfl, HB2.out⟩
            · have da : (((⟨s.toArray⟩ : ByteArray)[pl].toNat : Int) == 60) = false := byte_neD ha
              go_wp2_with fail
              go_ret
              exact ⟨by rw [HC.out.1 (fun _ h => absurd h ha)]; rfl, HB2.out⟩
          · have d6 : decide ((pl : Int) + 1 < (s.length : Int)) = false := by simp; omega
            go_wp2_with fail
            go_ret
            exact ⟨by rw [HC.out.1 (fun h => absurd h h1)]; rfl, HB2.out⟩
    · have hj2 : pl + j = s.length := by omega
      have HT := Lib.hid (show ((s.drop pl).takeWhile smallB).length = j from take_len (by rw [List.length_drop]; omega) (fun t ht htj => by
        rw [List.length_drop] at ht
        rw [List.getElem_drop]
        exact HA.out t (by omega) htj) (.inl (by rw [List.length_drop]; omega)))
      have hj0 : 0 < j := by have := HP.out; omega
      have d5 : decide ((pl : Int) < (pl : Int) + (j : Int)) = true := by simp; omega
      have hc : cutN (s.drop pl) = j := by unfold cutN; rw [if_pos (by rw [HT.out]; exact hj0)]; exact HT.out
      go_wp2_with fail
      go_ret
      exact ⟨by rw [hc]; rfl, HB.out⟩
end Go.Proofs.YtfhjmhmgkdadhaaDoor

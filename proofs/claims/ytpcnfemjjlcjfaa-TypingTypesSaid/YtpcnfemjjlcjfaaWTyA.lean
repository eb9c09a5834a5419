/-
  The document's rules of types.
-/
import Derived.Test.YtpcnfemjjlcjfaaWTyN
import Derived.Test.YtpcnfemjjlcjfaaWParC
/-! TyA -/
namespace Go.Proofs.Ytpcnfemjjlcjfaa
open Go.RowKit

/-- A rule's cells. -/
def ruC (r : Ru) : Array Value := #[.int .i64 r.kind, .int .i64 r.a, .int .i64 r.b, .int .i64 r.t]
theorem ruC_size (r : Ru) : (ruC r).size = 4 := rfl
theorem ruC_one (r : Ru) : (ruC r).all (·.oneCell') = true := by simp [ruC, Value.oneCell']
theorem infoRu : (Try.prog.info? 42).map (fun i => (i.zero, i.size, i.bytes)) = some (some (.agg (ruC ⟨0, 0, 0, 0⟩)), 4, 32) := by kernel_rfl
abbrev RuRow (w : World) (base : Nat) (v : Value) (l : List Ru) : Prop := w.ownsRow base 42 4 v l.length (flatC ruC l)
theorem ruRow_low {V : World} {base : Nat} {v : Value} {m : List Ru} (h : RuRow V base v m) {r : Nat} (e : v.ownBlock = some r) : base ≤ r := by
  obtain ⟨-, ⟨rfl, -⟩ | ⟨g, cap, cur, rfl, hb, -⟩⟩ := h
  · cases e
  · cases e; exact hb
structure RuW (w : World) (v : Value) (m : List Ru) (V : World) : Prop where
  below : Below w.heap.size w V
  own : RuRow V w.heap.size v m
theorem RuW.step {w : World} {v : Value} {m : List Ru} {V V' : World} (h : RuW w v m V) (hB : Below V.heap.size V V') : RuW w v m V' := ⟨h.below.trans (hB.mono h.below.size), own_belowC h.own hB⟩
theorem RuW.push {w : World} {v v' : Value} {m l : List Ru} {V V' : World} (h : RuW w v m V) (hr : RuRow V' w.heap.size v' (m ++ l)) (hg : V.grownBy V' v.ownBlock) : RuW w v' (m ++ l) V' :=
  ⟨h.below.grown hg h.below.size fun _ e => ruRow_low h.own e, hr⟩
theorem ru_made (V : World) (l : List Ru) (cs : Array Value) (n : Nat) (hn : n = l.length) (hc : cs = (flatC ruC l).toArray) (h : n ≤ 100) : RowIs ruC (V.alloc (.cells cs 42)) (.slice (some ⟨V.heap.size, 0, none⟩) n n) l := by
  subst hn; subst hc
  exact rowIs_at ruC_size (by decide) (SlAt.ofBlk ruC_size (ok := fun _ => True) (Blk.new V _ _) (by omega) fun _ _ => trivial)
def rulesN : Nat → List Ru
  | 2 => ru0 ++ ruS 1
  | 3 => ru0 ++ ruS 1 ++ ruS 2
  | _ => ru0
theorem rulesN_next {k : Nat} (h1 : 1 ≤ k) (h2 : k < 3) : rulesN (k + 1) = rulesN k ++ ruS (k : Int) := by
  have : k = 1 ∨ k = 2 := by omega
  rcases this with rfl | rfl <;> rfl
theorem rulesN_len {k : Nat} (h2 : k ≤ 3) : (rulesN k).length ≤ 21 := by
  have : k = 0 ∨ k = 1 ∨ k = 2 ∨ k = 3 := by omega
  rcases this with rfl | rfl | rfl | rfl <;> decide
set_option maxRecDepth 100000 in
set_option maxHeartbeats 3200000 in
theorem rtRules_any (w : World) : Calls Try.prog 17 #[] w fun e w' => ∃ v, e = .returned v ∧ RuRow w' w.heap.size v rulesQ ∧ Below w.heap.size w w' := by
  have HG0 := Lib.hid (show RuW w (.slice (some ⟨w.heap.size, 0, none⟩) 9 9) ru0 (w.alloc (.cells (flatC ruC ru0).toArray 42)) from ⟨belowNew _ _, own_ofBlk ruC_size (l := ru0) (Blk.new _ _ _) (by decide) (Nat.le_refl _)⟩)
  go_enter Try.func17, Try.ntmps17
  go_upto_region 2 with (refine wpList_build_flat ruC_size (by decide) rfl _ 42 9 _ rfl Try.underlying39 infoRu ru0 (by decide) rfl (by decide) rfl ?_)
  generalize w.alloc (.cells (flatC ruC ru0).toArray 42) = W at *
  go_wp2_with fail
  go_loopw [1, 2] (fun v i V => ∃ k : Nat, 1 ≤ k ∧ k ≤ 3 ∧ i = .int .i64 (k : Int) ∧ RuW w v (rulesN k) V) (fun _ i _ => 3 - (intOf i).toNat)
  case atStart => exact ⟨1, by omega, by omega, rfl, HG0.out⟩
  case round =>
    obtain ⟨k, hk1, hk3, rfl, hg⟩ := hrel
    have HG := Lib.hid hg
    clear hg HG0
    by_cases hlt : k < 3
    · have dk : decide ((k : Int) < 3) = true := by simp; omega
      have dk2 : decide (k < 3) = true := by simpa using hlt
      have hwk : IntKind.i64.wrap ((k : Int) + 1) = (k : Int) + 1 := by rw [IntKind.wrap_i64]; omega
      have HN := Lib.hid (rulesN_next hk1 hlt)
      have HL := Lib.hid (rulesN_len hk3)
      have HK := Lib.hid (And.intro hk1 hlt)
      generalize rulesN k = m at *
      clear hk1 hk3 hlt
      go_wp2_with (first | (refine wpList_build_flat ruC_size (by decide) rfl _ 42 6 _ rfl Try.underlying39 infoRu (ruS (k : Int)) (by unfold ruS; simp) rfl (by show 6 * 4 ≤ 2 ^ 24; decide) rfl ?_) | (at_builtin; refine wpList_append_rows (l := ruS (k : Int)) (m := m) ruC_size (by decide) ruC_one rfl _ _ 39 rfl w.heap.size Try.underlying39 infoRu rfl rfl rfl (own_belowC HG.out.own (belowNew _ _)) (ru_made _ (ruS (k : Int)) _ 6 rfl rfl (by decide)) (by have := HL.out; unfold maxLen ruS; simp only [List.length_cons, List.length_nil]; omega) (by have := HL.out; unfold ruS; simp only [List.length_cons, List.length_nil]; omega) (by have := HG.out.below.size; simp; omega) ?_; intro v7 w7 hr7 hg7; have HG7 := Lib.hid ((HG.out.step (belowNew _ _)).push hr7 hg7); clear hr7 hg7))
      go_roundw
      case rel => exact ⟨k + 1, by omega, HK.out.2, by go_num, by rw [HN.out]; exact HG7.out⟩
      case measure => have := HK.out; simp [intOf]; omega
    · have dk : decide ((k : Int) < 3) = false := by simp; omega
      have dk2 : decide (k < 3) = false := by simpa using hlt
      have HE := Lib.hid (show rulesN k = rulesQ from by rw [show k = 3 by omega]; rfl)
      clear hk1 hk3 hlt
      go_wp2_with fail
      go_ret
      exact ⟨_, rfl, HE.out ▸ HG.out.own, HG.out.below⟩
end Go.Proofs.Ytpcnfemjjlcjfaa

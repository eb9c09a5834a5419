/-
  The calls that tell that the package is alive.
-/
import Derived.Test.YtpmolglmpgkcbaaDoorTagS
import Derived.Test.YtpmolglmpgkcbaaDoorTagX
import Derived.Test.YtpmolglmpgkcbaaDoorTagQ
import Derived.Test.YtpmolglmpgkcbaaDoorTagC
namespace Go.Proofs.YtpmolglmpgkcbaaDoor
open Go.RowKit

theorem Parse_is (s : ByteArray) (a : Nat) (ha : a < 65536) (h : textN a = s.data.toList) (hs : s.size ≤ 1000) (w : World) (hE : Env w) :
    Calls Tryd.prog 31 #[.string s] w fun e w' => e = .returned (.tuple #[.int .u16 (a : Int), .int .i64 0]) ∧ Below w.heap.size w w' := by
  refine (Parse_any s hs w hE).mono ?_
  rintro e w' ⟨hp, hB⟩
  rcases hp with ⟨b, hb, ht, he⟩ | ⟨hn, _⟩
  · have := textN_inj hb ha (ht.trans h.symm)
    subst this
    exact ⟨he, hB⟩
  · exact absurd h (hn a ha)
theorem Parse_not (s : ByteArray) (h : ∀ a, a < 65536 → textN a ≠ s.data.toList) (hs : s.size ≤ 1000) (w : World) (hE : Env w) :
    Calls Tryd.prog 31 #[.string s] w fun e w' => e = .returned (.tuple #[.int .u16 0, .int .i64 3]) ∧ Below w.heap.size w w' := by
  refine (Parse_any s hs w hE).mono ?_
  rintro e w' ⟨hp, hB⟩
  rcases hp with ⟨b, hb, ht, _⟩ | ⟨_, he⟩
  · exact absurd ht (h b hb)
  · exact ⟨he, hB⟩
theorem rParse_is (s : ByteArray) (a : Nat) (ha : a < 65536) (h : textN a = s.data.toList) (hs : s.size ≤ 1000) (w : World) :
    Calls Tryd.prog 32 #[.string s] w fun e w' => e = .returned (.tuple #[.int .u16 (a : Int), .bool true]) ∧ w = w' := by
  refine (rParse_any s hs w).mono ?_
  rintro e w' ⟨hp, hB⟩
  rcases hp with ⟨b, hb, ht, he⟩ | ⟨hn, _⟩
  · have := textN_inj hb ha (ht.trans h.symm)
    subst this
    exact ⟨he, hB⟩
  · exact absurd h (hn a ha)
theorem rParse_not (s : ByteArray) (h : ∀ a, a < 65536 → textN a ≠ s.data.toList) (hs : s.size ≤ 1000) (w : World) :
    Calls Tryd.prog 32 #[.string s] w fun e w' => e = .returned (.tuple #[.int .u16 0, .bool false]) ∧ w = w' := by
  refine (rParse_any s hs w).mono ?_
  rintro e w' ⟨hp, hB⟩
  rcases hp with ⟨b, hb, ht, _⟩ | ⟨_, he⟩
  · exact absurd ht (h b hb)
  · exact ⟨he, hB⟩
theorem no_30 : ∀ a, a < 65536 → textN a ≠ [51, 44, 48] := by
  intro a _ h
  unfold textN at h
  split at h
  · exact absurd h (by decide)
  · have h2 : joinT (tagsN a) = joinT [3, 0] := h
    have h3 := joinT_inj (small_tagsN a) (by intro t ht; simp at ht; omega) h2
    have h4 := sorted_tagsN a
    rw [h3] at h4
    exact absurd h4 (by decide)
theorem no_empty : ∀ a, a < 65536 → textN a ≠ [] := by
  intro a ha h
  unfold textN at h
  split at h
  · exact absurd h (by decide)
  · rename_i h0
    have h2 := tagsN_ne_nil h0 ha
    cases hq : tagsN a with
    | nil => exact h2 hq
    | cons t r =>
      rw [hq] at h
      have hl := (dig_len ⟨t, small_tagsN a t (by rw [hq]; simp)⟩).1
      simp only at hl
      by_cases hr : r = []
      · subst hr; have h' : dig t = [] := h; rw [h'] at hl; simp at hl
      · rw [joinT_cons t hr] at h; simp at h

theorem ints_new (w : World) : IntsAt (w.alloc (.cells #[.int .i64 3, .int .i64 0, .int .i64 16, .int .i64 (-1)] 3)) (.slice (some ⟨w.heap.size, 0, none⟩) 4 4) [3, 0, 16, -1] := by
  refine ⟨_, 4, rfl, by decide, fun _ => ⟨w.heap.size, 0, rfl, fun i hi => ?_⟩⟩
  have h := World.alloc_heap_new w (.cells #[.int .i64 3, .int .i64 0, .int .i64 16, .int .i64 (-1)] 3)
  simp only [World.cell?, h, Nat.zero_add]
  have : i = 0 ∨ i = 1 ∨ i = 2 ∨ i = 3 := by simp at hi; omega
  rcases this with rfl | rfl | rfl | rfl <;> rfl
theorem below_alloc1 (w : World) (o : Obj) : Below w.heap.size w (w.alloc o) := (Below.refl _ w).alloc (Nat.le_refl _) _

theorem Sub_89 (w : World) : Calls Tryd.prog 26 #[.int .u16 8, .int .u16 9] w fun e w' => e = .returned (.bool true) ∧ w = w' := Sub_any 8 9 w (by decide) (by decide)
theorem Parse_1 (w : World) (hE : Env w) : Calls Tryd.prog 31 #[.string ⟨#[48, 44, 51]⟩] w fun e w' => e = .returned (.tuple #[.int .u16 9, .int .i64 0]) ∧ Below w.heap.size w w' := Parse_is ⟨#[48, 44, 51]⟩ 9 (by decide) (by decide) (by decide) w hE

end Go.Proofs.YtpmolglmpgkcbaaDoor

/-
  The calls that tell that the package is alive.
-/
import Derived.Test.YtajjeeoapbjgpaaDoorTagS
import Derived.Test.YtajjeeoapbjgpaaDoorTagX
import Derived.Test.YtajjeeoapbjgpaaDoorTagQ
import Derived.Test.YtajjeeoapbjgpaaDoorTagC
namespace Go.Proofs.YtajjeeoapbjgpaaDoor
open Go.RowKit

theorem Parse_is (s : ByteArray) (a : Nat) (ha : a < 65536) (h : textN a = s.data.toList) (hs : s.size ≤ 1000) (w : World) (hE : Env w) :
    Calls Tryd.prog 19 #[.string s] w fun e w' => e = .returned (.tuple #[.int .u16 (a : Int), .int .i64 0]) ∧ Below w.heap.size w w' := by
  refine (Parse_any s hs w hE).mono ?_
  rintro e w' ⟨hp, hB⟩
  rcases hp with ⟨b, hb, ht, he⟩ | ⟨hn, _⟩
  · have := textN_inj hb ha (ht.trans h.symm)
    subst this
    exact ⟨he, hB⟩
  · exact absurd h (hn a ha)
theorem Parse_not (s : ByteArray) (h : ∀ a, a < 65536 → textN a ≠ s.data.toList) (hs : s.size ≤ 1000) (w : World) (hE : Env w) :
    Calls Tryd.prog 19 #[.string s] w fun e w' => e = .returned (.tuple #[.int .u16 0, .int .i64 3]) ∧ Below w.heap.size w w' := by
  refine (Parse_any s hs w hE).mono ?_
  rintro e w' ⟨hp, hB⟩
  rcases hp with ⟨b, hb, ht, _⟩ | ⟨_, he⟩
  · exact absurd ht (h b hb)
  · exact ⟨he, hB⟩
theorem no_30 : ∀ a, a < 65536 → textN a ≠ [51, 44, 48] := by
  intro a _ h
  unfold textN at h
  split at h
  · exact absurd h (by decide)
  · have h2 : joinT (tagsN a) = joinT [3, 0] := h
    have h3 := joinT_inj (small_tagsN a) (by intro t ht; simp at ht; omega) h2
    have h4 := sorted_tagsN a
    rw [h3] at h4
    exact absurd h4 (by decide)
theorem no_empty : ∀ a, a < 65536 → textN a ≠ [] := by
  intro a ha h
  unfold textN at h
  split at h
  · exact absurd h (by decide)
  · rename_i h0
    have h2 := tagsN_ne_nil h0 ha
    cases hq : tagsN a with
    | nil => exact h2 hq
    | cons t r =>
      rw [hq] at h
      have hl := (dig_len ⟨t, small_tagsN a t (by rw [hq]; simp)⟩).1
      simp only at hl
      by_cases hr : r = []
      · subst hr; have h' : dig t = [] := h; rw [h'] at hl; simp at hl
      · rw [joinT_cons t hr] at h; simp at h

theorem ints_new (w : World) : IntsAt (w.alloc (.cells #[.int .i64 3, .int .i64 0, .int .i64 16, .int .i64 (-1)] 3)) (.slice (some ⟨w.heap.size, 0, none⟩) 4 4) [3, 0, 16, -1] := by
  refine ⟨_, 4, rfl, by decide, fun _ => ⟨w.heap.size, 0, rfl, fun i hi => ?_⟩⟩
  have h := World.alloc_heap_new w (.cells #[.int .i64 3, .int .i64 0, .int .i64 16, .int .i64 (-1)] 3)
  simp only [World.cell?, h, Nat.zero_add]
  have : i = 0 ∨ i = 1 ∨ i = 2 ∨ i = 3 := by simp at hi; omega
  rcases this with rfl | rfl | rfl | rfl <;> rfl
theorem below_alloc1 (w : World) (o : Obj) : Below w.heap.size w (w.alloc o) := (Below.refl _ w).alloc (Nat.le_refl _) _

theorem Of_4 (w : World) : Calls Tryd.prog 17 #[.slice (some ⟨w.heap.size, 0, none⟩) 4 4] (w.alloc (.cells #[.int .i64 3, .int .i64 0, .int .i64 16, .int .i64 (-1)] 3)) fun e w' => e = .returned (.int .u16 9) ∧ Below w.heap.size w w' := by
  refine (Of_any _ _ _ (ints_new w)).mono ?_
  rintro e w' ⟨he, hw⟩
  exact ⟨he, by rw [← hw]; exact below_alloc1 _ _⟩
theorem Least_9 (w : World) (hE : Env w) : Calls Tryd.prog 9 #[.int .u16 9] w fun e w' => e = .returned (.tuple #[.int .i64 0, .bool true]) ∧ w = w' := Least_some 9 w (by decide) (by decide) hE.tab
theorem Has_93 (w : World) : Calls Tryd.prog 13 #[.int .u16 9, .int .i64 3] w fun e w' => e = .returned (.bool true) ∧ w = w' := Has_any 9 3 w (by decide)
theorem Has_91 (w : World) : Calls Tryd.prog 13 #[.int .u16 9, .int .i64 1] w fun e w' => e = .returned (.bool false) ∧ w = w' := Has_any 9 1 w (by decide)
theorem Count_9 (w : World) : Calls Tryd.prog 12 #[.int .u16 9] w fun e w' => e = .returned (.int .i64 2) ∧ ∃ n, w' = w.drewN n := Count_any 9 w (by decide)
theorem Sub_89 (w : World) : Calls Tryd.prog 15 #[.int .u16 8, .int .u16 9] w fun e w' => e = .returned (.bool true) ∧ w = w' := Sub_any 8 9 w (by decide) (by decide)
theorem Parse_1 (w : World) (hE : Env w) : Calls Tryd.prog 19 #[.string ⟨#[48, 44, 51]⟩] w fun e w' => e = .returned (.tuple #[.int .u16 9, .int .i64 0]) ∧ Below w.heap.size w w' := Parse_is ⟨#[48, 44, 51]⟩ 9 (by decide) (by decide) (by decide) w hE

set_option maxHeartbeats 2000000 in
theorem alive_any (w : World) (hE : Env w) :
    Calls Tryd.prog 7 #[] w fun e w' => e = .returned (.bool true) ∧ Below w.heap.size w w' := by
  have HE := Lib.hid hE
  have hL := hE.lt
  clear hE
  go_enter Tryd.func7, Tryd.ntmps7
  go_wp2_with fail
  refine (Of_4 _).mono ?_
  rintro e w0 ⟨rfl, hB⟩
  go_wp2_with fail
  refine (Parse_1 _ (HE.out.below hB hL)).mono ?_
  rintro e w1 ⟨rfl, hB1⟩
  have hBb := hB.trans (hB1.mono hB.size)
  clear hB hB1
  go_wp2_with fail
  refine (Parse_not _ no_30 (by decide) _ (HE.out.below hBb hL)).mono ?_
  rintro e w2 ⟨rfl, hB1⟩
  have hBc := hBb.trans (hB1.mono hBb.size)
  clear hBb hB1
  go_wp2_with fail
  refine (Parse_not _ no_empty (by decide) _ (HE.out.below hBc hL)).mono ?_
  rintro e w3 ⟨rfl, hB1⟩
  have hBd := hBc.trans (hB1.mono hBc.size)
  clear hBc hB1
  go_wp2_with fail
  refine (Least_9 _ (HE.out.below hBd hL)).mono ?_
  rintro e w4 ⟨rfl, rfl⟩
  go_wp2_with fail
  refine (Text_zero _).mono ?_
  rintro e w4 ⟨rfl, rfl⟩
  go_wp2_with fail
  refine (Has_93 _).mono ?_
  rintro e w4 ⟨rfl, rfl⟩
  go_wp2_with fail
  refine (Has_91 _).mono ?_
  rintro e w4 ⟨rfl, rfl⟩
  go_wp2_with fail
  refine (Count_9 _).mono ?_
  rintro e w4 ⟨rfl, nq, rfl⟩
  go_wp2_with fail
  refine (Sub_89 _).mono ?_
  rintro e w4 ⟨rfl, rfl⟩
  go_wp2_with fail
  go_ret
  exact ⟨rfl, hBd.trans ((below_drewN' w3 nq).mono hBd.size)⟩

end Go.Proofs.YtajjeeoapbjgpaaDoor

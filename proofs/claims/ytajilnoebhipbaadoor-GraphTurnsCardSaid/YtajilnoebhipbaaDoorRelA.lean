/-
  The functions of the package relabel that go through a map in a loop.
-/
import Derived.Test.YtajilnoebhipbaaDoorMapR
import Derived.Test.YtajilnoebhipbaaDoorTagL
import Derived.Test.YtajilnoebhipbaaDoorSetA
namespace Go.Proofs.YtajilnoebhipbaaDoor
open Go.RowKit

theorem ints_one (W : World) (a : Int) : IntsAt (W.alloc (.cells #[.int .i64 a] 3)) (.slice (some ⟨W.heap.size, 0, none⟩) 1 1) [a] := by
  refine ⟨_, 1, rfl, by simp, fun _ => ⟨W.heap.size, 0, rfl, fun i hi => ?_⟩⟩
  have h := heap_alloc_new W (.cells #[.int .i64 a] 3)
  have : i = 0 := by simp at hi; omega
  subst this
  simp only [World.cell?, h, Nat.zero_add]
  rfl
theorem ofL_one {t : Nat} (h : t < 16) : ofL 0 [(t : Int)] = pw t := by
  unfold ofL ofL
  rw [if_pos (by omega)]
  unfold withN pw; simp
theorem pw_lt {t : Nat} (h : t < 16) : pw t < 65536 := Nat.lt_of_le_of_lt (pw_le (by omega)) (by decide)
theorem ofL_none {t : Nat} (h : ¬ t < 16) : ofL 0 [(t : Int)] = 0 := by
  unfold ofL ofL
  rw [if_neg (by omega)]
end Go.Proofs.YtajilnoebhipbaaDoor

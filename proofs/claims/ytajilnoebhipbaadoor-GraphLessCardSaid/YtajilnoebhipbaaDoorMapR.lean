/-
  Maps of tags in memory: as values, as blocks of sixteen cells; loads, stores and comparisons of whole ones.
-/
import Derived.Test.YtajilnoebhipbaaDoorRelM
import Derived.Test.YtajilnoebhipbaaDoorPair
import Derived.Deep.WholeRow
import Derived.ChangeKeysEq
import Derived.Laws.Rows
import Derived.Outline
namespace Go.Proofs.YtajilnoebhipbaaDoor
open Go.RowKit

/-- A map's cells. -/
def mapC (f : Nat → Nat) : Array Value := ((List.range 16).map fun t => Value.int .u8 (f t : Nat)).toArray
theorem mapC_size (f : Nat → Nat) : (mapC f).size = 16 := by simp [mapC]
theorem mapC_get (f : Nat → Nat) {k : Nat} (h : k < 16) : (mapC f)[k]? = some (.int .u8 (f k : Nat)) := by simp [mapC, h]
theorem mapC_congr {f g : Nat → Nat} (h : ∀ t, t < 16 → f t = g t) : mapC f = mapC g := by
  unfold mapC
  congr 1
  exact List.map_congr_left fun t ht => by rw [h t (List.mem_range.1 ht)]
theorem mapC_set (f : Nat → Nat) {k v : Nat} (h : k < 16) : (mapC f).setIfInBounds k (.int .u8 (v : Nat)) = mapC (updF f k v) := by
  apply Array.ext_getElem?
  intro i
  rw [Array.getElem?_setIfInBounds]
  by_cases hi : i < 16
  · rw [mapC_get _ hi]
    by_cases e : k = i
    · subst e; rw [mapC_get _ h]; simp [updF, mapC_size, h]
    · have e2 : ¬ i = k := fun h => e h.symm
      rw [if_neg e, mapC_get _ hi]; simp [updF, e2]
  · have h1 : ¬ k = i := by omega
    rw [if_neg h1]
    simp [mapC, hi]
theorem mapC_one (f : Nat → Nat) : (mapC f).all (·.oneCell') = true := by
  simp [mapC, Value.oneCell']
theorem mapC_eqF {f g : Nat → Nat} : mapC f = mapC g ↔ eqF f g = true := by
  rw [eqF_iff]
  refine ⟨fun h t ht => ?_, mapC_congr⟩
  have h1 := mapC_get f ht
  rw [h, mapC_get g ht] at h1
  have h2 : ((g t : Nat) : Int) = (f t : Nat) := by simpa using h1
  omega
theorem mapC_of {c : Array Value} {f : Nat → Nat} (hs : c.size = 16) (h : ∀ t, t < 16 → c[t]? = some (.int .u8 (f t : Nat))) : c = mapC f := by
  apply Array.ext_getElem?
  intro i
  by_cases hi : i < 16
  · rw [mapC_get _ hi, h i hi]
  · simp [mapC, hi, hs]

theorem infoByte : ∃ i, Tryd.prog.info? 5 = some i := Go.info_of_underlying Tryd.underlying5
theorem zeroMap : (#[.int .u8 0, .int .u8 0, .int .u8 0, .int .u8 0, .int .u8 0, .int .u8 0, .int .u8 0, .int .u8 0, .int .u8 0, .int .u8 0, .int .u8 0, .int .u8 0, .int .u8 0, .int .u8 0, .int .u8 0, .int .u8 0] : Array Value) = mapC fun _ => 0 := rfl
theorem idMap : (#[.int .u8 0, .int .u8 1, .int .u8 2, .int .u8 3, .int .u8 4, .int .u8 5, .int .u8 6, .int .u8 7, .int .u8 8, .int .u8 9, .int .u8 10, .int .u8 11, .int .u8 12, .int .u8 13, .int .u8 14, .int .u8 15] : Array Value) = mapC idF := rfl

theorem drawn_below {B : Nat} {a w : World} (h : Below B a w) (n : Nat) : Below B a (w.drewN n) := ⟨h.os, h.tape, h.output, h.size, h.block⟩

theorem below_setRow {w : World} {b B : Nat} {c : Array Value} (h : B ≤ b) : Below B w (w.setRow b c) where
  os := rfl
  tape := rfl
  output := rfl
  size := by simp
  block := fun i hi => by rw [setRow_other w b i c (by omega)]
/-- Two whole maps are compared cell by cell. -/
theorem eqItems_map (d : Nat) (f g : Nat → Nat) (w : World) : ∀ l : List Nat, (∀ i, i ∈ l → i < 16) → (Op.eqItems (d + 1) 5 1 (mapC f) (mapC g) l).run Tryd.prog w = .ok (l.all fun t => f t == g t) w
  | [], _ => by simp [Op.eqItems]
  | i :: r, h => by
    have hi := h i (by simp)
    have pf := run_part_plain (P := Tryd.prog) w (e := 5) (by kernel_rfl) (mapC_get f hi)
    have pg := run_part_plain (P := Tryd.prog) w (e := 5) (by kernel_rfl) (mapC_get g hi)
    have ih := eqItems_map d f g w r fun j hj => h j (by simp [hj])
    simp only [Op.eqItems, Nat.mul_one, Sem.run_bind, pf, pg, Result.andThen_ok, run_equalIn_int w d 5 .u8 .u8 (f i : Int) (g i : Int) Tryd.underlying5]
    by_cases e : f i = g i
    · simp [e, ih]
    · have e2 : ((f i : Nat) : Int) ≠ (g i : Nat) := fun h => e (by omega)
      simp [e, e2]
end Go.Proofs.YtajilnoebhipbaaDoor

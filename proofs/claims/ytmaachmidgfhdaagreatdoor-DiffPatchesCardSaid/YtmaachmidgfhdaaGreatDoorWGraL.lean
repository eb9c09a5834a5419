/-
  The program's graphs: a recursive closure visits the roles.
-/
import Derived.Test.YtmaachmidgfhdaaGreatDoorW2
/-! GraL -/
namespace Go.Proofs.YtmaachmidgfhdaaGreatDoor
open Go.RowKit Go.Shelf

attribute [local go_sem] Oper.semAt_some

/-- A slice of integers, as a fact. -/
theorem IntsAt.below {w w' : World} {v : Value} {l : List Int} (h : IntsAt w v l) (hB : Below w.heap.size w w') : IntsAt w' v l := by
  obtain ⟨p, cap, hv, hm, hc⟩ := h
  refine ⟨p, cap, hv, hm, fun hn => ?_⟩
  obtain ⟨b, off, hp, hcell⟩ := hc hn
  refine ⟨b, off, hp, fun i hi => ?_⟩
  have h1 := hcell i hi
  have hlt : b < w.heap.size := by
    refine Classical.byContradiction fun hge => ?_
    have : w.heap[b]? = none := Array.getElem?_eq_none (by omega)
    simp [World.cell?, this] at h1
  exact (hB.cell (p := ⟨b, off + i, none⟩) hlt).trans h1
def intsF (l : List Int) : Fact := ⟨fun v w => IntsAt w v l, fun _ _ _ h hB => h.below hB⟩
theorem mem_tagsV {s t : Nat} : t ∈ tagsN s ↔ t < 16 ∧ s.testBit t = true := mem_tagsTo s 16 t
theorem ofL_with {s r : Nat} (hs : s < 65536) (hr : r < 16) : bits .or .u16 (s : Int) ((ofL 0 [(r : Int)] : Nat) : Int) = ((withN s r : Nat) : Int) := by
  rw [ofL_one hr, u16_or_nat s (pw r) hs (pw_lt hr)]; rfl
theorem andNot_less {W s : Nat} (hW : W < 65536) (hs : s < 65536) : bits .andNot .u16 (W : Int) (s : Int) = ((lessN W s : Nat) : Int) := by
  rw [u16_andNot_nat W s hW hs]; rfl
/-- What grows beside cells leaves a block of cells. -/
theorem Blk.grown {w w' : World} {b : Nat} {vs : Array Value} {t : TypeId} (h : Blk w b vs t) {row : Option Nat} (hg : w.grownBy w' row) (hr : ∀ r, row = some r → ∃ o : Obj, w.heap[r]? = some o ∧ o.isCells = false) : Blk w' b vs t := by
  refine (hg.block b h.lt fun e => ?_).trans h
  obtain ⟨o, h1, h2⟩ := hr b e.symm
  rw [show w.heap[b]? = _ from h] at h1
  cases h1
  cases h2

theorem keeps_chg {br B : Nat} {V V' : World} (h : Chg (fun k => k = br) V V') (hB : br < B) : KeepsFrom B V V' :=
  ⟨h.size, fun k o hk ho _ => (h.block k (Array.getElem?_eq_some_iff.1 ho).1 (by omega)).trans ho⟩
end Go.Proofs.YtmaachmidgfhdaaGreatDoor

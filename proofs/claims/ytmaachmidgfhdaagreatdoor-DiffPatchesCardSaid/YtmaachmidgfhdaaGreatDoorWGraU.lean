/-
  The program's graphs: the other way round, a loop over a whole array with a range over a function in each round; Up.
-/
import Derived.Test.YtmaachmidgfhdaaGreatDoorWGraT
/-! GraU -/
namespace Go.Proofs.YtmaachmidgfhdaaGreatDoor
open Go.RowKit Go.Shelf

attribute [local go_sem] Oper.semAt_some

/-! Marks that ranges over functions leave among the deferred calls. -/
def markD (D : Nat) : Deferred := { target := .collected D, args := #[] }
structure MarksAt (B : Nat) (Ds : List Nat) (V : World) : Prop where
  at_ : ∀ D, D ∈ Ds → B ≤ D ∧ V.heap[D]? = some (.deferred (some []))
  nodup : Ds.Nodup
theorem MarksAt.keep {B : Nat} {Ds : List Nat} {V V' : World} (h : MarksAt B Ds V) (hk : KeepsFrom B V V') : MarksAt B Ds V' :=
  ⟨fun D hD => ⟨(h.at_ D hD).1, hk.same D _ (h.at_ D hD).1 (h.at_ D hD).2 rfl⟩, h.nodup⟩
theorem MarksAt.cons {B : Nat} {Ds : List Nat} {V0 V : World} (h : MarksAt B Ds V) (h0 : MarksAt B Ds V0) {D : Nat} (hB : B ≤ D) (hD : V0.heap.size ≤ D) (hK : V.heap[D]? = some (.deferred (some []))) : MarksAt B (D :: Ds) V :=
  ⟨fun d hd => by
    rcases List.mem_cons.1 hd with rfl | hd
    · exact ⟨hB, hK⟩
    · exact h.at_ d hd, List.nodup_cons.2 ⟨fun hm => by have := (Array.getElem?_eq_some_iff.1 (h0.at_ D hm).2).1; omega, h.nodup⟩⟩
/-- A function leaves with its marks. -/
theorem leaves_marks {F : Fence} {n : Nat} {P : Program} {fn : Func} {tmps : Array Value} {R : Ending → World → Prop} {B : Nat} {J : World → Prop} (hJ : OwnFrom B (fun (_ : Unit) V => J V)) (hR : ∀ V, J V → LeavesInM F n P fn tmps R [] .returning V) :
    ∀ (Ds : List Nat) (V : World), MarksAt B Ds V → J V → LeavesInM F n P fn tmps R (Ds.map markD) .returning V
  | [], V, _, h => hR V h
  | D :: r, V, hm, h => by
    obtain ⟨h1, h2⟩ := hm.at_ D List.mem_cons_self
    obtain ⟨hn1, hn2⟩ := List.nodup_cons.1 hm.nodup
    refine ⟨by simp, .inl ⟨D, _, rfl, run_takeDeferred h2, leaves_marks hJ hR r _ ⟨fun d hd => ?_, hn2⟩ (hJ.putObj (s := ()) _ h h1 h2 rfl)⟩⟩
    obtain ⟨h3, h4⟩ := hm.at_ d (List.mem_cons_of_mem _ hd)
    exact ⟨h3, (World.putObj_heap_other (fun e => hn1 (by rcases e with rfl; exact hd))).trans h4⟩

/-! A graph's rows, as they are turned. -/
/-! Up is Down of the graph the other way round. -/
end Go.Proofs.YtmaachmidgfhdaaGreatDoor

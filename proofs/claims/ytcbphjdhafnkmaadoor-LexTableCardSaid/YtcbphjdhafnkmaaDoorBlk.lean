/-
  Blocks that a call keeps, whatever their type; what a call may have changed, as a set of blocks; slices of bytes that are read.
-/
import Derived.OneCell
import Derived.Laws.Rows
import Derived.Lib.AppendStr
import Derived.Lib.ConvBytes
import Derived.Laws.BytesArg
import Derived.WalkKit
import Derived.Below
import Derived.Deep.Draws
import Derived.Lib.Hide
namespace Go.Proofs.YtcbphjdhafnkmaaDoor
open Go.RowKit

/-- Block b holds just these cells, and may be written. -/
def Blk (w : World) (b : Nat) (vs : Array Value) (t : TypeId) : Prop := w.heap[b]? = some (.cells vs t (0, 0))
theorem Blk.lt {w : World} {b : Nat} {vs : Array Value} {t : TypeId} (h : Blk w b vs t) : b < w.heap.size := lt_of_block h
theorem Blk.cell {w : World} {b : Nat} {vs : Array Value} {t : TypeId} (h : Blk w b vs t) (k : Nat) : w.cell? ⟨b, k, none⟩ = vs[k]? := by
  unfold Blk at h; rw [cell_of_row _ _ _ _ _ _ h]
theorem Blk.free {w : World} {b : Nat} {vs : Array Value} {t : TypeId} (h : Blk w b vs t) (k : Nat) : w.frozen? ⟨b, k, none⟩ = false := frozen_of_row w b k _ _ h
theorem Blk.new (w : World) (vs : Array Value) (t : TypeId) : Blk (w.alloc (.cells vs t)) w.heap.size vs t := heap_alloc_new w _
theorem Blk.alloc {w : World} {b : Nat} {vs : Array Value} {t : TypeId} (h : Blk w b vs t) (o : Obj) : Blk (w.alloc o) b vs t := (Below.heap_alloc w o b h.lt).trans h
theorem Blk.drew {w : World} {b : Nat} {vs : Array Value} {t : TypeId} (h : Blk w b vs t) : Blk w.drew b vs t := h
theorem Blk.set {w : World} {b : Nat} {vs : Array Value} {t : TypeId} (h : Blk w b vs t) (k : Nat) (u : Value) : Blk (w.setCell ⟨b, k, none⟩ u) b (vs.setIfInBounds k u) t := by
  unfold Blk at *; rw [heap_setCell_same w b k _ _ _ h]

theorem belowNew (w : World) (o : Obj) : Below w.heap.size w (w.alloc o) := (Below.refl _ _).alloc (Nat.le_refl _) o
/-- Of the old blocks only those of S may have changed. -/
structure Chg (S : Nat → Prop) (w w' : World) : Prop where
  os : w'.os = w.os
  tape : w'.tape = w.tape
  output : w'.output = w.output
  size : w.heap.size ≤ w'.heap.size
  block : ∀ k, k < w.heap.size → ¬ S k → w'.heap[k]? = w.heap[k]?
theorem Chg.refl (S : Nat → Prop) (w : World) : Chg S w w := ⟨rfl, rfl, rfl, Nat.le_refl _, fun _ _ _ => rfl⟩
theorem Chg.trans {S : Nat → Prop} {a b c : World} (h : Chg S a b) (k : Chg S b c) : Chg S a c :=
  ⟨k.os.trans h.os, k.tape.trans h.tape, k.output.trans h.output, Nat.le_trans h.size k.size, fun i hi hn => (k.block i (Nat.lt_of_lt_of_le hi h.size) hn).trans (h.block i hi hn)⟩
/-- What is changed next lies in S, or is new. -/
theorem Chg.then {S S' : Nat → Prop} {a b c : World} (h : Chg S a b) (k : Chg S' b c) (hS : ∀ i, i < a.heap.size → S' i → S i) : Chg S a c :=
  ⟨k.os.trans h.os, k.tape.trans h.tape, k.output.trans h.output, Nat.le_trans h.size k.size, fun i hi hn => (k.block i (Nat.lt_of_lt_of_le hi h.size) (fun x => hn (hS i hi x))).trans (h.block i hi hn)⟩
theorem Chg.mono {S S' : Nat → Prop} {a b : World} (h : Chg S a b) (hS : ∀ i, i < a.heap.size → S i → S' i) : Chg S' a b :=
  ⟨h.os, h.tape, h.output, h.size, fun i hi hn => h.block i hi fun x => hn (hS i hi x)⟩
theorem Chg.drew {S : Nat → Prop} {a b : World} (h : Chg S a b) : Chg S a b.drew := ⟨h.os, h.tape, h.output, h.size, h.block⟩
theorem Chg.drewN {S : Nat → Prop} {a b : World} (h : Chg S a b) (n : Nat) : Chg S a (b.drewN n) := ⟨h.os, h.tape, h.output, h.size, h.block⟩
theorem Chg.alloc {S : Nat → Prop} {a b : World} (h : Chg S a b) (o : Obj) : Chg S a (b.alloc o) :=
  h.trans ⟨rfl, rfl, rfl, by simp, fun k hk _ => Below.heap_alloc _ _ _ hk⟩
theorem Chg.setCell {S : Nat → Prop} {a b : World} (h : Chg S a b) {p : Addr} (hp : p.block < a.heap.size → S p.block) (u : Value) : Chg S a (b.setCell p u) :=
  ⟨h.os, h.tape, h.output, by simp [World.setCell]; exact h.size, fun k hk hn => (Below.heap_setCell _ _ _ _ (fun e => hn (by subst e; exact hp hk))).trans (h.block k hk hn)⟩
theorem Chg.ofGrown {w w' : World} {row : Option Nat} (h : w.grownBy w' row) : Chg (fun k => row = some k) w w' := ⟨h.os, h.tape, h.output, h.size, fun k hk hn => h.block k hk (fun e => hn e.symm)⟩
theorem Chg.ofBelow {S : Nat → Prop} {w w' : World} (h : Below w.heap.size w w') : Chg S w w' := ⟨h.os, h.tape, h.output, h.size, fun k hk _ => h.block k hk⟩
theorem Chg.below {S : Nat → Prop} {B : Nat} {w w' : World} (h : Chg S w w') (hB : B ≤ w.heap.size) (hS : ∀ k, S k → B ≤ k) : Below B w w' := ⟨h.os, h.tape, h.output, h.size, fun k hk => h.block k (by omega) (fun x => by have := hS k x; omega)⟩
theorem Chg.kept {S : Nat → Prop} {w w' : World} (h : Chg S w w') {b : Nat} {vs : Array Value} {t : TypeId} (hb : Blk w b vs t) (hS : ¬ S b) : Blk w' b vs t := (h.block b hb.lt hS).trans hb

/-- Block b holds these cells now, and no other old block has changed. -/
structure Put (w w' : World) (b : Nat) (vs : Array Value) (t : TypeId) : Prop where
  chg : Chg (fun k => k = b) w w'
  blk : Blk w' b vs t
theorem Put.refl {w : World} {b : Nat} {vs : Array Value} {t : TypeId} (h : Blk w b vs t) : Put w w b vs t := ⟨Chg.refl _ _, h⟩
theorem Put.set {w w' : World} {b : Nat} {vs : Array Value} {t : TypeId} (h : Put w w' b vs t) (k : Nat) (u : Value) : Put w (w'.setCell ⟨b, k, none⟩ u) b (vs.setIfInBounds k u) t :=
  ⟨h.chg.setCell (fun _ => rfl) u, h.blk.set k u⟩
theorem Put.trans {a b c : World} {g : Nat} {vs us : Array Value} {t s : TypeId} (h : Put a b g vs t) (k : Put b c g us s) : Put a c g us s := ⟨h.chg.trans k.chg, k.blk⟩
theorem Put.drew {a b : World} {g : Nat} {vs : Array Value} {t : TypeId} (h : Put a b g vs t) : Put a b.drew g vs t := ⟨h.chg.drew, h.blk⟩
theorem Put.drewN {a b : World} {g : Nat} {vs : Array Value} {t : TypeId} (h : Put a b g vs t) (n : Nat) : Put a (b.drewN n) g vs t := ⟨h.chg.drewN n, h.blk⟩

/-- Bytes as cells. -/
def bvs (l : List UInt8) : List Value := l.map fun c => .int .u8 (c.toNat : Int)
theorem bvs_length (l : List UInt8) : (bvs l).length = l.length := by simp [bvs]
theorem bvs_append (l m : List UInt8) : bvs (l ++ m) = bvs l ++ bvs m := by simp [bvs]
theorem bvs_get (l : List UInt8) (i : Nat) (h : i < l.length) : (bvs l)[i]? = some (.int .u8 (l[i].toNat : Int)) := by simp [bvs, h]
theorem bvs_one (l : List UInt8) : ∀ u ∈ bvs l, u.oneCell' = true := by
  intro u hu
  obtain ⟨c, -, rfl⟩ := List.mem_map.1 hu
  rfl

/-- The slice at this address reads as l. (An empty one may have an address that leads nowhere.) -/
structure BsAt (w : World) (p : Option Addr) (len cap : Nat) (l : List UInt8) : Prop where
  same : len = l.length
  le : len ≤ cap
  small : cap ≤ maxLen
  place : (p = none ∧ cap = 0) ∨ (l = [] ∧ p ≠ none) ∨ ∃ g off, p = some ⟨g, off, none⟩ ∧ g < w.heap.size ∧ ∀ i, (h : i < l.length) → w.cell? ⟨g, off + i, none⟩ = some (.int .u8 (l[i].toNat : Int))
theorem BsAt.kept {w w' : World} {p : Option Addr} {len cap : Nat} {l : List UInt8} (h : BsAt w p len cap l) (hs : w.heap.size ≤ w'.heap.size) (hp : ∀ a, p = some a → a.block < w.heap.size → w'.heap[a.block]? = w.heap[a.block]?) : BsAt w' p len cap l := by
  refine ⟨h.same, h.le, h.small, ?_⟩
  rcases h.place with h1 | h1 | ⟨g, off, rfl, h2, h3⟩
  · exact .inl h1
  · exact .inr (.inl h1)
  · exact .inr (.inr ⟨g, off, rfl, Nat.lt_of_lt_of_le h2 hs, fun i hi => (World.cell?_of_block (a := ⟨g, off + i, none⟩) (show w'.heap[g]? = w.heap[g]? from hp ⟨g, off, none⟩ rfl h2)).trans (h3 i hi)⟩)
theorem BsAt.chg {S : Nat → Prop} {w w' : World} {p : Option Addr} {len cap : Nat} {l : List UInt8} (h : BsAt w p len cap l) (hc : Chg S w w') (hp : ∀ a, p = some a → ¬ S a.block) : BsAt w' p len cap l :=
  h.kept hc.size fun a ha hlt => hc.block _ hlt (hp a ha)
/-- What the call owns is read as well. -/
theorem BsAt.ofRow {w : World} {base e : Nat} {v : Value} {n : Nat} {l : List UInt8} (h : w.ownsRow base e 1 v n (bvs l)) : ∃ p cap, v = .slice p l.length cap ∧ BsAt w p l.length cap l := by
  have hn : n = l.length := by have := h.1; rw [bvs_length] at this; omega
  subst hn
  rcases h.2 with ⟨rfl, hz⟩ | ⟨g, cap, cur, rfl, hb, hg, hc, hm, hs, ht⟩
  · exact ⟨none, 0, by rw [hz], hz ▸ rfl, by omega, by decide, .inl ⟨rfl, rfl⟩⟩
  · refine ⟨some ⟨g, 0, none⟩, cap, rfl, rfl, hc, hm, .inr (.inr ⟨g, 0, rfl, (Array.getElem?_eq_some_iff.1 hg).1, fun i hi => ?_⟩)⟩
    rw [Nat.zero_add, cell_of_row w g i cur e (0, 0) hg, ← bvs_get l i hi, ← ht, List.getElem?_take, if_pos (by omega)]
    simp
theorem bsAt_nil (w : World) : BsAt w none 0 0 [] := ⟨rfl, Nat.le_refl _, by decide, .inl ⟨rfl, rfl⟩⟩

/-- What append reads of such a slice. -/
theorem BsAt.news {w : World} {a : Addr} {len cap : Nat} {l : List UInt8} (h : BsAt w (some a) len cap l) : ∀ j u, (bvs l)[j]? = some u → w.cell? (a.add j) = some u := by
  intro j u hu
  rcases h.place with ⟨h1, -⟩ | ⟨rfl, -⟩ | ⟨g, off, h1, -, h3⟩
  · cases h1
  · simp [bvs] at hu
  · cases h1
    have hadd : (⟨g, off, none⟩ : Addr).add j = ⟨g, off + j, none⟩ := by unfold Addr.add; split <;> simp_all
    have hj : j < l.length := by
      rcases Nat.lt_or_ge j l.length with h | h
      · exact h
      · rw [List.getElem?_eq_none (by rw [bvs_length]; exact h)] at hu; cases hu
    rw [hadd, h3 j hj, ← bvs_get l j hj, hu]
/-- string(b). -/
theorem run_string_bs {P : Program} (w : World) (src e dst : TypeId) (hs : P.underlying src = some (.slice e)) (he : P.underlying e = some (.int .u8)) (hd : P.underlying dst = some .string) {p : Option Addr} {len cap : Nat} {l : List UInt8} (h : BsAt w p len cap l) :
    (convert src dst (.slice p len cap)).run P w = .ok (.string ⟨l.toArray⟩) w := by
  rcases h.place with ⟨rfl, h2⟩ | ⟨rfl, hne⟩ | ⟨g, off, rfl, -, h3⟩
  · have h1 := h.le
    have h0 := h.same
    have : l = [] := List.eq_nil_of_length_eq_zero (by omega)
    subst this
    rw [run_convert_bytes_nil w src e hs he _ _ dst hd]
    rfl
  · obtain ⟨a, rfl⟩ : ∃ a, p = some a := by
      cases p with
      | none => exact absurd rfl hne
      | some a => exact ⟨a, rfl⟩
    have h0 := h.same
    simp only [List.length_nil] at h0
    subst h0
    have hl : (loadCells a 0).run P w = .ok (([] : List Int).map (Value.int .u8)).toArray w := by
      simpa using run_loadCells_list (P := P) w a [] (fun j v hj => by simp at hj)
    rw [run_convert_bytes_string w src dst e _ 0 cap hs he hd, run_bytesToString w a 0 cap [] hl]
    rfl
  · rw [run_convert_bytes_arg w src e hs he g off len cap (l.map fun c => (c.toNat : Int)) (by simp [h.same]) (fun i hi => by
      have hi' : i < l.length := by rw [← h.same]; exact hi
      rw [h3 i hi']
      simp [List.getD, hi']) dst hd]
    congr 2
    apply ByteArray.ext
    apply Array.toList_inj.1
    rw [strOfNums_data, List.map_map]
    show _ = l
    conv => rhs; rw [← List.map_id l]
    apply List.map_congr_left
    intro x _
    simp

end Go.Proofs.YtcbphjdhafnkmaaDoor

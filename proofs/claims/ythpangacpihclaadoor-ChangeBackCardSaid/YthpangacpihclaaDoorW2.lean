/-
  Two policies are equal where their cells are.
-/
import Derived.Deep.WholeRow
import Derived.Laws.Rows
import Derived.Outline
import Derived.Test.YthpangacpihclaaDoorW1
import Derived.Laws.MakeOwn
import Derived.Laws.OwnMore
import Derived.Test.YthpangacpihclaaDoorRows
import Derived.WalkKit
import Derived.WalkSpells
import Derived.WalkLawsBesides
import Derived.KernelRfl
import Derived.Laws.CopyOwn
import Derived.StillTailTactics
import Derived.Laws.AppendOwnNone
import Derived.Deep.QuietTactic
import Derived.BigQuiet
import Derived.Lib.SliceRun
import Derived.Lib.ConvBytes
import Derived.Laws.BitsLemmas
import Derived.IntWalk
import Derived.LoopTactic
import Derived.ChangeKeysEq
import Derived.RangeFuncNested
import Derived.RangeFuncBound
import Derived.RangeFuncCalls
import Derived.RangeFuncLeaves
import Derived.RangeFuncBox
import Derived.RangeFuncWrites
import Derived.Shelf.Abstract
import Derived.Shelf.RegionOpen
import Derived.OwnWalkIn
import Derived.TacticsInMore
import Derived.LoopNIn
import Derived.LoopIn
import Derived.Maps.AppendAt
import Derived.Deep.DeepCutAuto
import Derived.Lib.QuietBelow
import Derived.DeepKeys
import Derived.RowKit
import Derived.DeepKeys2
/-! Arr -/
namespace Go.Proofs.YthpangacpihclaaDoor
open Go.RowKit

/-- An array's cells. -/
def arrC (k : IntKind) (n : Nat) (f : Nat → Nat) : Array Value := ((List.range n).map fun t => Value.int k (f t : Nat)).toArray
theorem arrC_size (k : IntKind) (n : Nat) (f : Nat → Nat) : (arrC k n f).size = n := by simp [arrC]
theorem arrC_get (k : IntKind) {n : Nat} (f : Nat → Nat) {i : Nat} (h : i < n) : (arrC k n f)[i]? = some (.int k (f i : Nat)) := by simp [arrC, h]
theorem arrC_congr {k : IntKind} {n : Nat} {f g : Nat → Nat} (h : ∀ t, t < n → f t = g t) : arrC k n f = arrC k n g := by
  unfold arrC
  congr 1
  exact List.map_congr_left fun t ht => by rw [h t (List.mem_range.1 ht)]
def setF (f : Nat → Nat) (k v : Nat) : Nat → Nat := fun t => if t = k then v else f t
theorem arrC_set (q : IntKind) {n : Nat} (f : Nat → Nat) {k : Nat} (v : Nat) (h : k < n) : (arrC q n f).setIfInBounds k (.int q (v : Nat)) = arrC q n (setF f k v) := by
  apply Array.ext_getElem?
  intro i
  rw [Array.getElem?_setIfInBounds]
  by_cases hi : i < n
  · rw [arrC_get _ _ hi]
    by_cases e : k = i
    · subst e; rw [arrC_get _ _ h]; simp [setF, arrC_size, h]
    · have e2 : ¬ i = k := fun h => e h.symm
      rw [if_neg e, arrC_get _ _ hi]; simp [setF, e2]
  · have h1 : ¬ k = i := by omega
    rw [if_neg h1]
    simp [arrC, hi]
theorem arrC_one (k : IntKind) (n : Nat) (f : Nat → Nat) : (arrC k n f).all (·.oneCell') = true := by simp [arrC, Value.oneCell']

def rowD (d : TypeDesc) : Bool := match d with | .struct _ | .array _ _ => true | _ => false
section
variable {P : Program}
theorem wpList_load_arr {ops : Array Oper} {rest : List Oper} {o : Oper} {a : Act} {w : World} {Q : Exit → Act → World → Prop} (hgd : o.guard = none) (ty : TypeId) (x : Operand) (ho : o.op = .load ty x)
    {b : Nat} {cs : Array Value} {t : TypeId} {d : TypeDesc} (hx : a.eval x = .pointer (some ⟨b, 0, none⟩)) (h : Blk w b cs t) (hu : P.underlying ty = some d) (hw : rowD d = true) (hi : (P.info? ty).map (·.size) = some cs.size) (hK : wpList P ops Q rest (a.put o.dst (.agg cs)) w) : wpList P ops Q (o :: rest) a w :=
  wpList_load_row hgd ty x ho b hx t cs (0, 0) d h hu (by cases d <;> simp_all [rowD]) hi hK
theorem wpList_store_arr {ops : Array Oper} {rest : List Oper} {o : Oper} {a : Act} {w : World} {Q : Exit → Act → World → Prop} (hgd : o.guard = none) (hd : o.dst = none) (ty : TypeId) (x y : Operand) (ho : o.op = .store ty x y)
    {b : Nat} {old new : Array Value} {t : TypeId} (hx : a.eval x = .pointer (some ⟨b, 0, none⟩)) (hy : a.eval y = .agg new) (h : Blk w b old t) (hi : (P.info? ty).map (·.size) = some new.size) (hs : old.size = new.size) (h1 : new.all (·.oneCell') = true)
    (hK : ∀ w', Put w w' b new t → wpList P ops Q rest a w') : wpList P ops Q (o :: rest) a w :=
  wpList_plain hgd fun K hK' => by
    unfold Oper.wp execOp
    simp only [ho, hx, hy, Instr.storeAt, Instr.sureAddr, Sem.run_bind, Sem.run_pure, Result.andThen_ok, run_storeVar_row w b t ty old new h hi hs h1]
    have e : a.put o.dst undef = a := by rw [hd]; rfl
    exact hK' _ _ (by rw [e]; exact hK _ ⟨⟨rfl, rfl, rfl, by simp, fun k _ hk => setRow_other w b k _ hk⟩, setRow_heap w b _ _ _ _ h⟩)
theorem results_arr {fn : Func} {p : Tmp} {ty : TypeId} (h : fn.results = #[.cell p ty]) {tmps : Array Value} {w : World} {b : Nat} {cs : Array Value} {t : TypeId} {d : TypeDesc} (hp : tmps.getD p undef = .pointer (some ⟨b, 0, none⟩)) (hr : Blk w b cs t) (hu : P.underlying ty = some d) (hw : rowD d = true) (hi : (P.info? ty).map (·.size) = some cs.size) :
    (results fn tmps).run P w = .ok (.agg cs) w :=
  results_cell_row h tmps w b t cs _ d hp hr hu (by cases d <;> simp_all [rowD]) hi
end
theorem Put.below {w w' : World} {b : Nat} {vs : Array Value} {t : TypeId} (h : Put w w' b vs t) {B : Nat} (hw : B ≤ w.heap.size) (hb : B ≤ b) : Below B w w' := h.chg.below hw fun k hk => by subst hk; exact hb
theorem Blk.below {B : Nat} {w w' : World} {b : Nat} {vs : Array Value} {t : TypeId} (h : Blk w b vs t) (hB : Below B w w') (hb : b < B) : Blk w' b vs t := (hB.block b hb).trans h
theorem Blk.set_other {w : World} {b : Nat} {vs : Array Value} {t : TypeId} (h : Blk w b vs t) {a : Addr} (ha : a.block ≠ b) (u : Value) : Blk (w.setCell a u) b vs t := (Below.heap_setCell w a u b (fun e => ha e.symm)).trans h
end Go.Proofs.YthpangacpihclaaDoor

/-! Mid -/
namespace Go.Proofs.YthpangacpihclaaDoor
open Go.RowKit

/-- The cells, with others from a place on. -/
def midC (cs : Array Value) (off : Nat) (new : Array Value) : Array Value := (cs.toList.take off ++ new.toList ++ cs.toList.drop (off + new.size)).toArray
theorem midC_get {cs new : Array Value} {off : Nat} (h : off + new.size ≤ cs.size) (j : Nat) : (midC cs off new)[j]? = if off ≤ j ∧ j < off + new.size then new[j - off]? else cs[j]? := by
  unfold midC
  rw [List.getElem?_toArray]
  have hl : (cs.toList.take off).length = off := by rw [List.length_take, Array.length_toList]; omega
  by_cases h1 : j < off
  · rw [if_neg (by omega), List.append_assoc, List.getElem?_append_left (by rw [hl]; exact h1), List.getElem?_take, if_pos h1, Array.getElem?_toList]
  · by_cases h2 : j < off + new.size
    · rw [if_pos ⟨by omega, h2⟩, List.append_assoc, List.getElem?_append_right (by rw [hl]; omega), hl, List.getElem?_append_left (by rw [Array.length_toList]; omega), Array.getElem?_toList]
    · rw [if_neg (by omega), List.getElem?_append_right (by rw [List.length_append, hl, Array.length_toList]; omega), List.length_append, hl, Array.length_toList, List.getElem?_drop, Array.getElem?_toList]
      congr 1; omega
section
variable {P : Program} {w : World}
theorem run_store_mid {g off : Nat} {cs new : Array Value} {t ty : TypeId} (h : Blk w g cs t) (hn : off + new.size ≤ cs.size) (h1 : new.all (·.oneCell') = true) (hi : (P.info? ty).map (·.size) = some new.size) :
    (storeVar ty ⟨g, off, none⟩ (.agg new)).run P w = .ok () (w.setRow g (midC cs off new)) := by
  have hst := run_storeCells_at P g off t new.toList 0 cs w h (by rw [Array.length_toList]; omega) (fun v hv => (Array.all_eq_true_iff_forall_mem.1 h1) v (by simpa using hv))
  rw [Nat.add_zero, Array.length_toList] at hst
  cases hq : P.info? ty with
  | none => simp [hq] at hi
  | some i =>
    have hs : i.size = new.size := by simpa [hq] using hi
    simp only [storeVar, sizeOf, typeInfo, Sem.run_bind, Sem.run_pure]
    simp [hst, Value.cells, hs, hq, midC]
theorem wpList_store_mid {ops : Array Oper} {rest : List Oper} {o : Oper} {a : Act} {Q : Exit → Act → World → Prop} (hgd : o.guard = none) (hd : o.dst = none) (ty : TypeId) (x y : Operand) (ho : o.op = .store ty x y)
    {g off : Nat} {cs new : Array Value} {t : TypeId} (hx : a.eval x = .pointer (some ⟨g, off, none⟩)) (hy : a.eval y = .agg new) (h : Blk w g cs t) (hn : off + new.size ≤ cs.size) (h1 : new.all (·.oneCell') = true) (hi : (P.info? ty).map (·.size) = some new.size)
    (hK : ∀ w', Put w w' g (midC cs off new) t → wpList P ops Q rest a w') : wpList P ops Q (o :: rest) a w :=
  wpList_plain hgd fun K hK' => by
    unfold Oper.wp execOp
    simp only [ho, hx, hy, Instr.storeAt, Instr.sureAddr, Sem.run_bind, Sem.run_pure, Result.andThen_ok, run_store_mid (P := P) h hn h1 hi]
    have e : a.put o.dst undef = a := by rw [hd]; rfl
    exact hK' _ _ (by rw [e]; exact hK _ ⟨⟨rfl, rfl, rfl, by simp, fun k _ hk => setRow_other w g k _ hk⟩, setRow_heap w g _ _ _ _ h⟩)
theorem run_load_part2 {g off : Nat} {cs new : Array Value} {t ty : TypeId} {d : TypeDesc} (h : Blk w g cs t) (hc : ∀ i, i < new.size → cs[off + i]? = new[i]?) (hu : P.underlying ty = some d) (hw : rowD d = true) (hi : (P.info? ty).map (·.size) = some new.size) :
    (loadVar ty ⟨g, off, none⟩).run P w = .ok (.agg new) w := by
  have hl : (loadCells ⟨g, off, none⟩ new.toList.length).run P w = .ok new.toList.toArray w :=
    run_loadCells_list (P := P) w ⟨g, off, none⟩ _ (fun j v hv => by
      have hj : j < new.size := by
        have := (List.getElem?_eq_some_iff.1 hv).1
        rwa [Array.length_toList] at this
      have hadd : (⟨g, off, none⟩ : Addr).add j = ⟨g, off + j, none⟩ := by unfold Addr.add; split <;> simp_all
      rw [Array.getElem?_toList] at hv
      rw [hadd, h.cell, hc j hj, hv])
  rw [Array.length_toList] at hl
  cases hq : P.info? ty with
  | none => simp [hq] at hi
  | some i =>
    have hs : i.size = new.size := by simpa [hq] using hi
    have hagg : (isAgg ty).run P w = .ok true w := by
      unfold isAgg
      rw [Sem.run_bind, run_underlying hu w]
      cases d <;> first | rfl | cases hw
    simp [loadVar, Sem.run_bind, hagg, sizeOf, typeInfo, hq, hs, hl]
theorem wpList_load_mid {ops : Array Oper} {rest : List Oper} {o : Oper} {a : Act} {Q : Exit → Act → World → Prop} (hgd : Region.wanted o (yielded ops a.tmps) = true) (ty : TypeId) (x : Operand) (ho : o.op = .load ty x)
    {g off : Nat} {cs new : Array Value} {t : TypeId} {d : TypeDesc} (hx : a.eval x = .pointer (some ⟨g, off, none⟩)) (h : Blk w g cs t) (hc : ∀ i, i < new.size → cs[off + i]? = new[i]?) (hu : P.underlying ty = some d) (hw : rowD d = true) (hi : (P.info? ty).map (·.size) = some new.size)
    (hK : wpList P ops Q rest (a.put o.dst (.agg new)) w) : wpList P ops Q (o :: rest) a w :=
  wpList_step fun _ hK' => by
    rw [if_pos hgd]
    unfold Oper.wp execOp
    simp only [ho, hx, Instr.loadAt, Instr.sureAddr, Sem.run_bind, Sem.run_pure, Result.andThen_ok, run_load_part2 (P := P) h hc hu hw hi]
    exact hK' _ _ hK
theorem exec_load_mid2 {o : Oper} {a : Act} {ty : TypeId} {x : Operand} {g off : Nat} {cs new : Array Value} {t : TypeId} {d : TypeDesc} (ho : o.op = .load ty x) (hx : a.eval x = .pointer (some ⟨g, off, none⟩)) (h : Blk w g cs t) (hc : ∀ i, i < new.size → cs[off + i]? = new[i]?) (hu : P.underlying ty = some d) (hw : rowD d = true) (hi : (P.info? ty).map (·.size) = some new.size) :
    (execOp a.eval o).run P w = .ok (.value (.agg new)) w := by
  unfold execOp
  simp only [ho, hx, Instr.loadAt, Instr.sureAddr, Sem.run_bind, Sem.run_pure, Result.andThen_ok, run_load_part2 (P := P) h hc hu hw hi]
end
end Go.Proofs.YthpangacpihclaaDoor

/-! MkB -/
namespace Go.Proofs.YthpangacpihclaaDoor
open Go.RowKit

section
variable {P : Program} {w : World}
end
/-- An owned row stays where something else changes. -/
theorem own_chg {S : Nat → Prop} {w w' : World} {base e n : Nat} {v : Value} {xs : List Value} (h : w.ownsRow base e 1 v n xs) (hc : Chg S w w') (hv : ∀ k, v.ownBlock = some k → ¬ S k) : w'.ownsRow base e 1 v n xs := by
  obtain ⟨h1, h2⟩ := h
  refine ⟨h1, ?_⟩
  rcases h2 with h2 | ⟨g, cap, cur, rfl, hg, hgg, rest⟩
  · exact .inl h2
  · refine .inr ⟨g, cap, cur, rfl, hg, ?_, rest⟩
    rw [hc.block g (Array.getElem?_eq_some_iff.1 hgg).1 (hv g rfl)]; exact hgg
theorem own_below {B : Nat} {w w' : World} {base e n : Nat} {v : Value} {xs : List Value} (h : w.ownsRow base e 1 v n xs) (hB : Below B w w') (hs : w.heap.size ≤ B) : w'.ownsRow base e 1 v n xs :=
  own_chg (S := fun _ => False) h ⟨hB.os, hB.tape, hB.output, hB.size, fun k hk _ => hB.block k (by omega)⟩ (fun _ _ h => h)
end Go.Proofs.YthpangacpihclaaDoor

/-! ByteP -/
namespace Go.Proofs.YthpangacpihclaaDoor
open Go.RowKit

theorem infoU8 : (Tryd.prog.info? 5).map (fun i => (i.zero, i.size, i.bytes)) = some (some (.int .u8 0), 1, 1) := by kernel_rfl
theorem bs_take {w : World} {p : Option Addr} {len cap n : Nat} {l : List UInt8} (h : BsAt w p len cap l) (hn : n ≤ l.length) : BsAt w p n cap (l.take n) := by
  have h1 := h.same
  have h2 := h.le
  refine ⟨by simp; omega, by omega, h.small, ?_⟩
  rcases h.place with h3 | ⟨rfl, h3⟩ | ⟨g, off, rfl, hg, h3⟩
  · exact .inl h3
  · exact .inr (.inl ⟨by simp, h3⟩)
  · exact .inr (.inr ⟨g, off, rfl, hg, fun i hi => by
      have hi' : i < l.length := by simp at hi; omega
      rw [h3 i hi', List.getElem_take]⟩)
theorem bs_drop {w : World} {p : Option Addr} {len cap n : Nat} {l : List UInt8} (h : BsAt w p len cap l) (hn : n ≤ l.length) : BsAt w (if cap = n then p else p.map (·.add n)) (len - n) (cap - n) (l.drop n) := by
  have h1 := h.same
  have h2 := h.le
  refine ⟨by simp; omega, by omega, by have := h.small; omega, ?_⟩
  rcases h.place with ⟨rfl, h3⟩ | ⟨rfl, h3⟩ | ⟨g, off, rfl, hg, h3⟩
  · exact .inl ⟨by split <;> rfl, by omega⟩
  · refine .inr (.inl ⟨by simp, ?_⟩)
    split
    · exact h3
    · cases p with
      | none => exact absurd rfl h3
      | some a => simp
  · by_cases hc : cap = n
    · rw [if_pos hc]
      exact .inr (.inr ⟨g, off, rfl, hg, fun i hi => by simp at hi; omega⟩)
    · rw [if_neg hc]
      refine .inr (.inr ⟨g, off + n, ?_, hg, fun i hi => ?_⟩)
      · show some ((⟨g, off, none⟩ : Addr).add n) = _
        unfold Addr.add; split <;> simp_all
      · have hi' : n + i < l.length := by simp at hi; omega
        rw [Nat.add_assoc, h3 (n + i) hi', List.getElem_drop]
theorem drop_block {p : Option Addr} {cap n g : Nat} (h : ∀ a, p = some a → a.block = g) : ∀ a, (if cap = n then p else p.map (·.add n)) = some a → a.block = g := by
  intro a ha
  split at ha
  · exact h a ha
  · cases p with
    | none => cases ha
    | some q =>
      simp only [Option.map_some, Option.some.injEq] at ha
      rw [← ha, ← h q rfl]
      unfold Addr.add; split <;> rfl

theorem elemU8 : Tryd.prog.underlying 46 = some (.slice (Tryd.prog.elem 46)) := by kernel_rfl
theorem sizeU8 (w : World) : (sizeOf (Tryd.prog.elem 46)).run Tryd.prog w = .ok 1 w := by kernel_rfl
theorem run_upto (w : World) (p : Option Addr) (len cap n : Nat) (h : n ≤ cap) : (Instr.slice 46 (.slice p len cap) none (some (.int .i64 (n : Int))) none).run Tryd.prog w = .ok (.slice p n cap) w := by
  rw [run_slice_h w _ _ _ _ elemU8 .i64 _ (by omega) (by omega), sizeU8]
  simp [Result.andThen, sliced]
  cases p with
  | none => simp
  | some a =>
    have : a.add 0 = a := by obtain ⟨b, o, s⟩ := a; unfold Addr.add; split <;> simp_all
    simp [this]
theorem run_from (w : World) (p : Option Addr) (len cap n : Nat) (h : n ≤ len) : (Instr.slice 46 (.slice p len cap) (some (.int .i64 (n : Int))) none none).run Tryd.prog w = .ok (.slice (if cap = n then p else p.map (·.add n)) (len - n) (cap - n)) w := by
  rw [run_slice_l w _ _ _ _ elemU8 .i64 _ (by omega) (by omega), sizeU8]
  simp [Result.andThen, sliced]

end Go.Proofs.YthpangacpihclaaDoor

/-! DskM -/
namespace Go.Proofs.YthpangacpihclaaDoor

/-- The bytes with 128 others at a place. -/
def putL (all : List UInt8) (at_ : Nat) (l : List UInt8) : List UInt8 := all.take at_ ++ (l ++ all.drop (at_ + l.length))
end Go.Proofs.YthpangacpihclaaDoor

/-! RowB -/
namespace Go.Proofs.YthpangacpihclaaDoor
open Go.RowKit

/-- Bytes as a block's cells. -/
def bvA (l : List UInt8) : Array Value := (bvs l).toArray
theorem bvA_size (l : List UInt8) : (bvA l).size = l.length := by simp [bvA, bvs_length]
section
variable {P : Program} {w : World}
end
end Go.Proofs.YthpangacpihclaaDoor

/-! WirA -/
namespace Go.Proofs.YthpangacpihclaaDoor
open Go.RowKit

set_option maxHeartbeats 400000 in
theorem wfail_any (b : Nat) (t : TypeId) (v : Value) (e e' : Int) (w : World) (h : Blk w b #[v, .int .i64 e] t) :
    Calls Tryd.prog 79 #[.pointer (some ⟨b, 0, none⟩), .int .i64 e'] w fun en w' => en = .returned (.tuple #[]) ∧ Put w w' b #[failV v e e', .int .i64 (failE e e')] t := by
  have c0 : w.cell? ⟨b, 0, none⟩ = some v := h.cell 0
  have c1 : w.cell? ⟨b, 1, none⟩ = some (.int .i64 e) := h.cell 1
  have f0 := h.free 0
  have f1 := h.free 1
  by_cases h1 : e' = 0
  · have hv : failV v e e' = v := by unfold failV; rw [if_neg (fun x => x.2 h1)]
    have he : failE e e' = e := by unfold failE; rw [if_neg (fun x => x.2 h1)]
    rw [hv, he]
    have HP := Lib.hid (Put.refl h)
    have b1 : (e' != 0) = false := by simpa using h1
    clear h hv he h1
    go_enter Tryd.func79, Tryd.ntmps79
    go_wp2_with fail
    go_end0
    exact ⟨rfl, HP.out⟩
  · by_cases h2 : e = 0
    · have hv : failV v e e' = .slice none 0 0 := by unfold failV; rw [if_pos ⟨h2, h1⟩]
      have he : failE e e' = e' := by unfold failE; rw [if_pos ⟨h2, h1⟩]
      rw [hv, he]
      have HP := Lib.hid (((Put.refl h).set 0 (.slice none 0 0)).set 1 (.int .i64 e'))
      have b1 : (e' != 0) = true := by simpa using h1
      have b2 : (e == 0) = true := by simpa using h2
      clear h hv he h1 h2
      go_enter Tryd.func79, Tryd.ntmps79
      go_wp2_with fail
      go_end0
      exact ⟨rfl, HP.out⟩
    · have hv : failV v e e' = v := by unfold failV; rw [if_neg (fun x => h2 x.1)]
      have he : failE e e' = e := by unfold failE; rw [if_neg (fun x => h2 x.1)]
      rw [hv, he]
      have HP := Lib.hid (Put.refl h)
      have b1 : (e' != 0) = true := by simpa using h1
      have b2 : (e == 0) = false := by simpa using h2
      clear h hv he h1 h2
      go_enter Tryd.func79, Tryd.ntmps79
      go_wp2_with fail
      go_end0
      exact ⟨rfl, HP.out⟩

set_option maxHeartbeats 400000 in
theorem wsized_any (n : Int) (w : World) : Calls Tryd.prog 78 #[.int .i64 n] w fun en w' => en = .returned (.bool (sizedB n)) ∧ w = w' := by
  cases h : sizedB n
  · unfold sizedB at h
    by_cases h1 : 1 ≤ n
    · have b1 : decide (1 ≤ n) = true := by simpa using h1
      have b2 : decide (n ≤ 4) = false := by simpa [h1] using h
      clear h h1
      go_enter Tryd.func78, Tryd.ntmps78
      go_wp2_with fail
      go_ret
      exact ⟨rfl, rfl⟩
    · have b1 : decide (1 ≤ n) = false := by simpa using h1
      clear h h1
      go_enter Tryd.func78, Tryd.ntmps78
      go_wp2_with fail
      go_ret
      exact ⟨rfl, rfl⟩
  · unfold sizedB at h
    simp only [Bool.and_eq_true, decide_eq_true_eq] at h
    obtain ⟨h1, h2⟩ := h
    go_enter Tryd.func78, Tryd.ntmps78
    go_wp2_with fail
    go_ret
    exact ⟨rfl, rfl⟩

/-- The Writer at b holds s now. -/
def WNow (B : Nat) (w : World) (b : Nat) (t : TypeId) (v : Value) (s : List UInt8 × Int) (w' : World) : Prop := ∃ v', WTo 5 B w b t v s v' w'

set_option maxHeartbeats 400000 in
theorem wadd_any (B b : Nat) (t : TypeId) (v : Value) (s : List UInt8 × Int) (p : Option Addr) (len cap : Nat) (m : List UInt8) (w : World) (h : WAt 5 B w b t v s) (hB : B ≤ w.heap.size) (hb : BsAt w p len cap m) (hsm : s.1.length + m.length ≤ 1000000) :
    Calls Tryd.prog 81 #[.pointer (some ⟨b, 0, none⟩), .slice p len cap] w fun en w' => en = .returned (.tuple #[]) ∧ WNow B w b t v (addS s m) w' := by
  obtain ⟨l, e⟩ := s
  have hsm2 : l.length + m.length ≤ 140737488355328 := Nat.le_trans hsm (by decide)
  have c0 : w.cell? ⟨b, 0, none⟩ = some v := h.blk.cell 0
  have c1 : w.cell? ⟨b, 1, none⟩ = some (.int .i64 e) := h.blk.cell 1
  by_cases h1 : e = 0
  · have hs : addS (l, e) m = (l ++ m, e) := by unfold addS; rw [if_pos h1]
    rw [hs]
    have b1 : (e == 0) = true := by simpa using h1
    have HH := Lib.hid h
    have hown := h.row
    have HB := Lib.hid hb
    have HZ := Lib.hid hB
    clear h hb hB hs h1 hsm
    go_enter Tryd.func81, Tryd.ntmps81
    go_wp2_with (at_builtin; refine wpList_append_bytes rfl _ _ 46 rfl B 5 Tryd.underlying46 infoU8 rfl hown rfl HB.out hsm2 HZ.out ?_; intro p1 n1 c1' w1 hrow1 hg1 hn1; have hk1 : Blk w1 b #[v, .int .i64 e] t := (hg1.block b HH.out.blk.lt (fun e => HH.out.apart e.symm)).trans HH.out.blk; have q0 : w1.cell? ⟨b, 0, none⟩ = some v := hk1.cell 0; have q1 := hk1.free 0; have HK := Lib.hid hk1; have HR := Lib.hid hrow1; have HG := Lib.hid hg1; have HN := Lib.hid hn1; clear hk1 hrow1 hg1 hn1 hown)
    go_end0
    refine ⟨rfl, .slice p1 n1 c1', ⟨HK.out.set 0 _, ?_, ?_⟩, ?_, HN.out⟩
    · exact ((HR.out).kept (w' := w1.setCell ⟨b, 0, none⟩ (.slice p1 n1 c1')) (row := some b) ⟨rfl, rfl, rfl, by simp [World.setCell], fun k hk hne => Below.heap_setCell _ _ _ _ (fun e => hne (by rw [e]))⟩ (by
        cases ho : (Value.slice p1 n1 c1').ownBlock with
        | none => exact .inl rfl
        | some k =>
          right
          intro he
          rcases HN.out k ho with h2 | h2
          · rw [he] at ho; cases he; exact HH.out.apart h2
          · cases he; have := HH.out.blk.lt; omega))
    · intro he
      rcases HN.out b he with h2 | h2
      · exact HH.out.apart h2
      · have := HH.out.blk.lt; omega
    · exact ((Chg.ofGrown HG.out).mono (fun i _ h => .inr h)).setCell (fun _ => .inl rfl) _
  · have hs : addS (l, e) m = (l, e) := by unfold addS; rw [if_neg h1]
    rw [hs]
    have b1 : (e == 0) = false := by simpa using h1
    have HW := Lib.hid (show WNow B w b t v (l, e) w from ⟨v, WTo.refl h⟩)
    clear h hb hB hs h1
    go_enter Tryd.func81, Tryd.ntmps81
    go_wp2_with fail
    go_end0
    exact ⟨rfl, HW.out⟩

theorem WNow.after {B : Nat} {w w1 w' : World} {b : Nat} {t : TypeId} {v : Value} {s : List UInt8 × Int} (h : WNow B w1 b t v s w') (hB : Below w.heap.size w w1) : WNow B w b t v s w' := by
  obtain ⟨v', h⟩ := h
  exact ⟨v', h.after hB⟩

set_option maxRecDepth 100000 in
set_option maxHeartbeats 800000 in
theorem wnum_ok1 (B b : Nat) (t : TypeId) (v : Value) (s : List UInt8 × Int) (n : Nat) (w : World) (h : WAt 5 B w b t v s) (hB : B ≤ w.heap.size) (hsm : s.1.length ≤ 900000) (hn : n < 256) :
    Calls Tryd.prog 55 #[.pointer (some ⟨b, 0, none⟩), .int .i64 n, .int .i64 1] w fun en w' => en = .returned (.tuple #[]) ∧ WNow B w b t v (addS s (be n 1)) w' := by
  have hs := fun V => wsized_any 1 V
  rw [show sizedB 1 = true from rfl] at hs
  have HS := Lib.hid hs
  have HH := Lib.hid h
  have HZ := Lib.hid hB
  have HM := Lib.hid hsm
  have b1 : ((n : Int) / 256 != 0) = false := by simp; omega
  have w2 : IntKind.i64.wrap 3 = 3 := by decide
  clear hs h hB hsm
  go_enter Tryd.func55, Tryd.ntmps55
  go_wp2_with fail
  refine (HS.out _).mono ?_
  rintro e w' ⟨rfl, rfl⟩
  go_wp2_with fail
  go_still_tail 6, (by kernel_rfl)
  change wpList _ _ _ _ _ (World.drew _)
  go_wp2_with fail
  refine (wadd_any B b t v s (some ⟨w.heap.size, 3, none⟩) 1 1 (be n 1) _ (HH.out.below (belowNew w _).drew (Nat.le_refl _)) (by have := HZ.out; simp; omega) (bsAt_new w _ _ 3 (be n 1) (by rw [be_length]; decide) (fun i hi => ?_)).drew (by have := HM.out; rw [be_length]; omega)).mono ?_
  · have hi' : i < 1 := hi
    have hc : i = 0 := by omega
    rcases hc with rfl
    · exact congrArg (fun x => some (Value.int .u8 x)) (by show _ = (((UInt8.ofNat (n)).toNat : Nat) : Int); simp <;> omega)
  · rintro e w' ⟨rfl, hW⟩
    go_wp2_with fail
    go_end0
    exact ⟨rfl, hW.after (belowNew w _).drew⟩

set_option maxRecDepth 100000 in
set_option maxHeartbeats 800000 in
theorem wnum_ok2 (B b : Nat) (t : TypeId) (v : Value) (s : List UInt8 × Int) (n : Nat) (w : World) (h : WAt 5 B w b t v s) (hB : B ≤ w.heap.size) (hsm : s.1.length ≤ 900000) (hn : n < 65536) :
    Calls Tryd.prog 55 #[.pointer (some ⟨b, 0, none⟩), .int .i64 n, .int .i64 2] w fun en w' => en = .returned (.tuple #[]) ∧ WNow B w b t v (addS s (be n 2)) w' := by
  have hs := fun V => wsized_any 2 V
  rw [show sizedB 2 = true from rfl] at hs
  have HS := Lib.hid hs
  have HH := Lib.hid h
  have HZ := Lib.hid hB
  have HM := Lib.hid hsm
  have b1 : ((n : Int) / 65536 != 0) = false := by simp; omega
  have w2 : IntKind.i64.wrap 2 = 2 := by decide
  clear hs h hB hsm
  go_enter Tryd.func55, Tryd.ntmps55
  go_wp2_with fail
  refine (HS.out _).mono ?_
  rintro e w' ⟨rfl, rfl⟩
  go_wp2_with fail
  go_still_tail 6, (by kernel_rfl)
  change wpList _ _ _ _ _ (World.drew _)
  go_wp2_with fail
  refine (wadd_any B b t v s (some ⟨w.heap.size, 2, none⟩) 2 2 (be n 2) _ (HH.out.below (belowNew w _).drew (Nat.le_refl _)) (by have := HZ.out; simp; omega) (bsAt_new w _ _ 2 (be n 2) (by rw [be_length]; decide) (fun i hi => ?_)).drew (by have := HM.out; rw [be_length]; omega)).mono ?_
  · have hi' : i < 2 := hi
    have hc : i = 0 ∨ i = 1 := by omega
    rcases hc with rfl | rfl
    · exact congrArg (fun x => some (Value.int .u8 x)) (by show _ = (((UInt8.ofNat (n / 256)).toNat : Nat) : Int); simp <;> omega)
    · exact congrArg (fun x => some (Value.int .u8 x)) (by show _ = (((UInt8.ofNat (n)).toNat : Nat) : Int); simp <;> omega)
  · rintro e w' ⟨rfl, hW⟩
    go_wp2_with fail
    go_end0
    exact ⟨rfl, hW.after (belowNew w _).drew⟩

end Go.Proofs.YthpangacpihclaaDoor

/-! WirW -/
namespace Go.Proofs.YthpangacpihclaaDoor
open Go.RowKit

/-- A slice that reads as l, in memory that was not there in w. -/
def BsNew (w : World) (l : List UInt8) (v : Value) (w' : World) : Prop := ∃ p n c, v = .slice p n c ∧ BsAt w' p n c l ∧ ∀ a, p = some a → w.heap.size ≤ a.block ∧ a.block < w'.heap.size
def CloneIs (w : World) (l : List UInt8) (e : Ending) (w' : World) : Prop := ∃ v, e = .returned v ∧ BsNew w l v w' ∧ Below w.heap.size w w'

set_option maxHeartbeats 800000 in
theorem clone_any (p : Option Addr) (len cap : Nat) (l : List UInt8) (w : World) (h : BsAt w p len cap l) (hsm : l.length ≤ 1000000) :
    Calls Tryd.prog 49 #[.slice p len cap] w (CloneIs w l) := by
  have hnil := fun (V : World) => Lib.run_eql_slice_nil (P := Tryd.prog) V 46 5 p len cap 0 0 Tryd.underlying46
  have HH := Lib.hid h
  have hle : l.length ≤ 140737488355328 := by omega
  cases p with
  | none =>
    have hl : l = [] := by
      rcases h.place with ⟨-, hc⟩ | ⟨hl, -⟩ | ⟨g, off, hp, -⟩
      · have := h.le; have := h.same; exact List.eq_nil_of_length_eq_zero (by omega)
      · exact hl
      · cases hp
    have HL := Lib.hid hl
    clear h hsm hl
    go_enter Tryd.func49, Tryd.ntmps49
    go_wp2_with fail
    go_ret
    exact ⟨_, rfl, ⟨_, _, _, rfl, by rw [HL.out]; exact bsAt_nil w, fun _ h => by cases h⟩, Below.refl _ _⟩
  | some a =>
    have hb2 := (h.below (belowNew w (.cells #[] 5)) (Nat.le_refl _))
    have hown : (w.alloc (.cells #[] 5)).ownsRow w.heap.size 5 1 (.slice (some ⟨w.heap.size, 0, none⟩) 0 0) ([] : List UInt8).length (bvs []) := World.ownsRow_lit w #[] 0 (Nat.le_refl _) (by decide) rfl
    have HB2 := Lib.hid hb2
    clear h hsm hb2
    go_enter Tryd.func49, Tryd.ntmps49
    go_wp2_with (at_builtin; refine wpList_append_bytes rfl _ _ 46 rfl w.heap.size 5 Tryd.underlying46 infoU8 rfl hown rfl HB2.out (by simpa using hle) (by simp) ?_; intro p1 n1 c1' w1 hrow1 hg1 hn1; have HR := Lib.hid hrow1; have HG := Lib.hid hg1; clear hrow1 hg1 hn1 hown)
    go_ret
    obtain ⟨p2, c2, hp2, hb2⟩ := BsAt.ofRow HR.out
    refine ⟨_, rfl, ⟨_, _, _, hp2, by rw [List.nil_append] at hb2; simpa using hb2, fun a ha => ?_⟩, ((belowNew w _).grown HG.out (by simp) (fun k hk => by cases hk; exact Nat.le_refl _))⟩
    rw [hp2, ha] at HR
    exact HR.out.lt a.block rfl

set_option maxHeartbeats 800000 in
theorem newReader_any (p : Option Addr) (len cap : Nat) (l : List UInt8) (w : World) (h : BsAt w p len cap l) (hsm : l.length ≤ 1000000) :
    Calls Tryd.prog 19 #[.slice p len cap] w fun e w' => ∃ b v, e = .returned (.pointer (some ⟨b, 0, none⟩)) ∧ w.heap.size ≤ b ∧ Blk w' b #[v, .int .i64 0] 91 ∧ BsNew w l v w' ∧ (∀ k, v.ownBlock = some k → k ≠ b) ∧ Below w.heap.size w w' := by
  have HH := Lib.hid h
  have HC := Lib.hid (clone_any p len cap l w h hsm)
  clear h hsm
  go_enter Tryd.func19, Tryd.ntmps19
  go_wp2_with fail
  refine HC.out.mono ?_
  rintro e w1 ⟨v, rfl, ⟨p1, n1, c1', rfl, hb1, hp1⟩, hB1⟩
  have HB1 := Lib.hid hB1
  have HS1 := Lib.hid hb1
  have HP1 := Lib.hid hp1
  clear hB1 hb1 hp1
  go_wp2_with fail
  go_ret
  refine ⟨w1.heap.size, _, rfl, HB1.out.size, Blk.new w1 _ _, ⟨p1, n1, c1', rfl, HS1.out.below (belowNew w1 _) (Nat.le_refl _), fun a ha => ⟨(HP1.out a ha).1, Nat.lt_of_lt_of_le (HP1.out a ha).2 (belowNew w1 _).size⟩⟩, fun k hk => ?_, HB1.out.trans ((belowNew w1 _).mono HB1.out.size)⟩
  cases p1 with
  | none => cases hk
  | some a =>
    have h1 := (HP1.out a rfl).2
    simp [Value.ownBlock] at hk
    omega

end Go.Proofs.YthpangacpihclaaDoor

/-! WirD -/
namespace Go.Proofs.YthpangacpihclaaDoor
open Go.RowKit

/-- The Reader at b holds s; its bytes lie in block g. -/
def RAt (w : World) (b : Nat) (t : TypeId) (g : Nat) (s : List UInt8 × Int) : Prop :=
  ∃ p n c, Blk w b #[.slice p n c, .int .i64 s.2] t ∧ BsAt w p n c s.1 ∧ ∀ a, p = some a → a.block = g
/-- From w to w' the Reader at b came to hold s. -/
def RTo (w : World) (b : Nat) (t : TypeId) (g : Nat) (s : List UInt8 × Int) (w' : World) : Prop := RAt w' b t g s ∧ Chg (fun k => k = b) w w'
theorem RAt.kept {S : Nat → Prop} {w w' : World} {b : Nat} {t : TypeId} {g : Nat} {s : List UInt8 × Int} (h : RAt w b t g s) (hc : Chg S w w') (hb : ¬ S b) (hg : ¬ S g) : RAt w' b t g s := by
  obtain ⟨p, n, c, h1, h2, h3⟩ := h
  exact ⟨p, n, c, hc.kept h1 hb, h2.chg hc fun a ha => by rw [h3 a ha]; exact hg, h3⟩
theorem RAt.below {B : Nat} {w w' : World} {b : Nat} {t : TypeId} {g : Nat} {s : List UInt8 × Int} (h : RAt w b t g s) (hB : Below B w w') (hs : w.heap.size ≤ B) : RAt w' b t g s :=
  h.kept (S := fun _ => False) ⟨hB.os, hB.tape, hB.output, hB.size, fun k hk _ => hB.block k (by omega)⟩ (fun h => h) (fun h => h)
theorem RTo.trans {w w' w'' : World} {b : Nat} {t : TypeId} {g : Nat} {s s' : List UInt8 × Int} (h : RTo w b t g s w') (k : RTo w' b t g s' w'') : RTo w b t g s' w'' := ⟨k.1, h.2.trans k.2⟩
/-- A slice in block g that reads as l. -/
def BsIn (w : World) (g : Nat) (l : List UInt8) (v : Value) : Prop := ∃ p n c, v = .slice p n c ∧ BsAt w p n c l ∧ ∀ a, p = some a → a.block = g
def TakeIs (w : World) (b : Nat) (t : TypeId) (g : Nat) (T : List UInt8) (S : List UInt8 × Int) (e : Ending) (w' : World) : Prop := ∃ v, e = .returned v ∧ BsIn w' g T v ∧ RTo w b t g S w'

set_option maxHeartbeats 800000 in
theorem take_any (b : Nat) (t : TypeId) (g : Nat) (s : List UInt8 × Int) (n : Nat) (w : World) (h : RAt w b t g s) (hg : g ≠ b) (hsm : s.1.length ≤ 1000000) :
    Calls Tryd.prog 80 #[.pointer (some ⟨b, 0, none⟩), .int .i64 (n : Int)] w (TakeIs w b t g (tookS s n) (takeS s n)) := by
  obtain ⟨p, len, cap, hb, hs, hp⟩ := h
  have hl := hs.same
  obtain ⟨l, e⟩ := s
  simp only at hl hs hb hsm
  subst hl
  have c0 : w.cell? ⟨b, 0, none⟩ = some (.slice p l.length cap) := hb.cell 0
  have f0 := hb.free 0
  have HB := Lib.hid hb
  have HS := Lib.hid hs
  have HP := Lib.hid hp
  have hcap := hs.le
  clear hb hs hp
  by_cases hlt : l.length < n
  · have e1 : takeS (l, e) n = failS (l, e) 4 := by unfold takeS; rw [if_pos hlt]
    have e2 : tookS (l, e) n = [] := by unfold tookS; rw [if_pos hlt]
    have HE := Lib.hid (And.intro e1 e2)
    clear e1 e2
    go_enter Tryd.func80, Tryd.ntmps80
    go_wp2_with fail
    refine (wfail_any b t _ e 4 _ HB.out).mono ?_
    rintro e' w' ⟨rfl, hP⟩
    have HP2 := Lib.hid hP
    clear hP
    go_wp2_with fail
    go_ret
    refine ⟨_, rfl, ⟨none, 0, 0, rfl, by rw [HE.out.2]; exact bsAt_nil _, fun _ h => by cases h⟩, ?_, HP2.out.chg⟩
    rw [HE.out.1]
    have hk := HP2.out.blk
    unfold failV failE at hk
    unfold failS
    by_cases hc : e = 0 ∧ (4 : Int) ≠ 0
    · rw [if_pos hc] at hk ⊢
      rw [if_pos hc] at hk
      exact ⟨none, 0, 0, hk, bsAt_nil _, fun _ h => by cases h⟩
    · rw [if_neg hc] at hk ⊢
      rw [if_neg hc] at hk
      exact ⟨p, l.length, cap, hk, HS.out.chg HP2.out.chg (fun a ha => by rw [HP.out a ha]; exact hg), HP.out⟩
  · have e1 : takeS (l, e) n = (l.drop n, e) := by unfold takeS; rw [if_neg hlt]
    have e2 : tookS (l, e) n = l.take n := by unfold tookS; rw [if_neg hlt]
    have HE := Lib.hid (And.intro e1 e2)
    have u1 := fun V => run_upto V p l.length cap n (by omega)
    have u2 := fun V => run_from V p l.length cap n (by omega)
    obtain ⟨q, hq⟩ : ∃ q, q = (if cap = n then p else p.map (·.add n)) := ⟨_, rfl⟩
    rw [← hq] at u2
    have HQ := Lib.hid hq
    clear e1 e2 hq
    go_enter Tryd.func80, Tryd.ntmps80
    go_wp2_with fail
    go_ret
    have hP := (Put.refl HB.out).set 0 (.slice q (l.length - n) (cap - n))
    have hS' := HS.out.chg hP.chg (fun a ha => by rw [HP.out a ha]; exact hg)
    refine ⟨_, rfl, ⟨p, n, cap, rfl, by rw [HE.out.2]; exact bs_take hS' (by omega), HP.out⟩, ?_, hP.chg⟩
    rw [HE.out.1]
    have hd := bs_drop (n := n) hS' (by omega)
    have hd2 := drop_block (cap := cap) (n := n) HP.out
    rw [← HQ.out] at hd hd2
    exact ⟨q, _, _, hP.blk, hd, hd2⟩

theorem shl_byte (a x : Nat) (ha : a < 4294967296) (hx : x < 256) : bits .or .i64 ((a : Int) * 256) (x : Int) = ((256 * a + x : Nat) : Int) := by
  rw [bits_join .i64 62 (by decide) (fun n h1 h2 => IntWalk.i64_in n (by omega)) 8 ((a : Int) * 256) (x : Int) (by omega) (by omega) (by omega) (by omega) (by omega) (by omega)]
  omega

def DNumIs (w : World) (b : Nat) (t : TypeId) (g : Nat) (r : Int × (List UInt8 × Int)) (e : Ending) (w' : World) : Prop := e = .returned (.int .i64 r.1) ∧ RTo w b t g r.2 w'
/-- What fail makes of a Reader. -/
theorem RAt.fail {w w' : World} {b : Nat} {t : TypeId} {g : Nat} {s : List UInt8 × Int} {c : Int} {p : Option Addr} {n cap : Nat} (hs : BsAt w p n cap s.1) (hp : ∀ a, p = some a → a.block = g) (hg : g ≠ b) (h : Put w w' b #[failV (.slice p n cap) s.2 c, .int .i64 (failE s.2 c)] t) : RTo w b t g (failS s c) w' := by
  refine ⟨?_, h.chg⟩
  have hk := h.blk
  unfold failV failE at hk
  unfold failS
  by_cases hc : s.2 = 0 ∧ c ≠ 0
  · rw [if_pos hc] at hk ⊢
    rw [if_pos hc] at hk
    exact ⟨none, 0, 0, hk, bsAt_nil _, fun _ h => by cases h⟩
  · rw [if_neg hc] at hk ⊢
    rw [if_neg hc] at hk
    exact ⟨p, n, cap, hk, hs.chg h.chg (fun a ha => by rw [hp a ha]; exact hg), hp⟩

set_option maxHeartbeats 1600000 in
theorem rdnum_ok (b : Nat) (t : TypeId) (g : Nat) (s : List UInt8 × Int) (k : Nat) (most : Int) (w : World) (h : RAt w b t g s) (hg : g ≠ b) (hsm : s.1.length ≤ 1000000) (hk : k ≤ 4) (hz : sizedB k = true) :
    Calls Tryd.prog 50 #[.pointer (some ⟨b, 0, none⟩), .int .i64 (k : Int), .int .i64 most] w (DNumIs w b t g (dNum s k most)) := by
  have hs := fun V => wsized_any (k : Int) V
  rw [hz] at hs
  have HS := Lib.hid hs
  have HT := Lib.hid (take_any b t g s k w h hg hsm)
  have HL := Lib.hid (show (tookS s k).length ≤ 4 from Nat.le_trans (tookS_le s k) hk)
  have hD : dNum s k most = if most < (valB (tookS s k) : Int) then (0, failS (takeS s k) 8) else ((valB (tookS s k) : Int), takeS s k) := by
    unfold dNum; rw [hz]; simp
  have HD := Lib.hid hD
  have HG := Lib.hid hg
  generalize dNum s k most = D at *
  generalize takeS s k = S at *
  generalize tookS s k = T at *
  clear hs h hz hD hsm hg
  go_enter Tryd.func50, Tryd.ntmps50
  go_wp2_with fail
  refine (HS.out _).mono ?_
  rintro e w' ⟨rfl, rfl⟩
  go_wp2_with fail
  refine HT.out.mono ?_
  rintro e w1 ⟨v, rfl, ⟨p, len, cap, rfl, hb, hp⟩, hR⟩
  have hlen := hb.same
  subst hlen
  have HB := Lib.hid hb
  have HR := Lib.hid hR
  have hl4 := HL.out
  clear hb hp hR HT
  go_wp2_with fail
  go_loop [7, 25] (fun n i => ∃ j : Nat, j ≤ T.length ∧ i = .int .i64 j ∧ n = .int .i64 (valB (T.take j) : Nat)) (fun _ i => T.length - (intOf i).toNat)
  case atStart => exact ⟨0, Nat.zero_le _, rfl, by simp [valB]⟩
  case round =>
    obtain ⟨j, hj, rfl, rfl⟩ := hrel
    by_cases hlt : j < T.length
    · obtain ⟨g', off, rfl, hc⟩ : ∃ g' off, p = some ⟨g', off, none⟩ ∧ w1.cell? ⟨g', off + j, none⟩ = some (.int .u8 (T[j].toNat : Int)) := by
        rcases HB.out.place with ⟨-, h2⟩ | ⟨h2, -⟩ | ⟨g', off, rfl, -, h3⟩
        · have := HB.out.le; omega
        · rw [h2] at hlt; simp at hlt
        · exact ⟨g', off, rfl, h3 j hlt⟩
      have hvs := valB_small (T.take j) (by simp; omega)
      have hx : T[j].toNat < 256 := T[j].toNat_lt
      have HN := Lib.hid (valB_take_succ T j hlt)
      have HO := Lib.hid (shl_byte _ _ hvs hx)
      generalize valB (T.take j) = a at *
      generalize T[j].toNat = x at *
      go_wp2
      go_round
      case rel => exact ⟨j + 1, by omega, by go_num, by rw [HO.out, HN.out]⟩
      case measure => simp [intOf]; omega
    · have hT : T.take j = T := List.take_of_length_le (by omega)
      rw [hT]
      have hvs := valB_small T (by omega)
      generalize valB T = a at *
      obtain ⟨⟨p2, n2, c2, hb2, hs2, hp2⟩, hch⟩ := HR.out
      have HB2 := Lib.hid hb2
      have HS2 := Lib.hid hs2
      have HP2 := Lib.hid hp2
      clear hb2 hs2 hp2 hch hT
      by_cases hm : most < (a : Int)
      · have hD := HD.out
        rw [if_pos hm] at hD
        have HD2 := Lib.hid hD
        clear hD HD
        go_wp2_with fail
        refine (wfail_any b t _ S.2 8 _ HB2.out).mono ?_
        rintro e' w' ⟨rfl, hP⟩
        have HP3 := Lib.hid hP
        clear hP
        go_wp2_with fail
        go_ret
        refine ⟨by rw [HD2.out]; rfl, ?_⟩
        rw [HD2.out]
        exact HR.out.trans (RAt.fail HS2.out HP2.out HG.out HP3.out)
      · have hD := HD.out
        rw [if_neg hm] at hD
        have HD2 := Lib.hid hD
        clear hD HD
        go_wp2_with fail
        go_ret
        refine ⟨by rw [HD2.out]; rfl, ?_⟩
        rw [HD2.out]
        exact HR.out

set_option maxHeartbeats 800000 in
theorem rdnum_size (b : Nat) (t : TypeId) (g : Nat) (s : List UInt8 × Int) (size most : Int) (w : World) (h : RAt w b t g s) (hg : g ≠ b) (hz : sizedB size = false) :
    Calls Tryd.prog 50 #[.pointer (some ⟨b, 0, none⟩), .int .i64 size, .int .i64 most] w (DNumIs w b t g (0, failS s 8)) := by
  have hs := fun V => wsized_any size V
  rw [hz] at hs
  have HS := Lib.hid hs
  obtain ⟨p, n, c, hb, hs2, hp⟩ := h
  have HB := Lib.hid hb
  have HS2 := Lib.hid hs2
  have HP := Lib.hid hp
  clear hs hb hs2 hp hz
  go_enter Tryd.func50, Tryd.ntmps50
  go_wp2_with fail
  refine (HS.out _).mono ?_
  rintro e w' ⟨rfl, rfl⟩
  go_wp2_with fail
  refine (wfail_any b t _ s.2 8 _ HB.out).mono ?_
  rintro e w' ⟨rfl, hP⟩
  have HP3 := Lib.hid hP
  clear hP
  go_wp2_with fail
  go_ret
  exact ⟨rfl, RAt.fail HS2.out HP.out hg HP3.out⟩

theorem rdnum_any (b : Nat) (t : TypeId) (g : Nat) (s : List UInt8 × Int) (size most : Int) (w : World) (h : RAt w b t g s) (hg : g ≠ b) (hsm : s.1.length ≤ 1000000) :
    Calls Tryd.prog 50 #[.pointer (some ⟨b, 0, none⟩), .int .i64 size, .int .i64 most] w (DNumIs w b t g (dNum s size most)) := by
  cases hz : sizedB size with
  | false =>
    rw [show dNum s size most = (0, failS s 8) by unfold dNum; rw [hz]; rfl]
    exact rdnum_size b t g s size most w h hg hz
  | true =>
    have hz' := hz
    simp only [sizedB, Bool.and_eq_true, decide_eq_true_eq] at hz'
    obtain ⟨k, rfl⟩ := Int.eq_ofNat_of_zero_le (show 0 ≤ size by omega)
    exact rdnum_ok b t g s k most w h hg hsm (by omega) hz

end Go.Proofs.YthpangacpihclaaDoor

/-! WirE -/
namespace Go.Proofs.YthpangacpihclaaDoor
open Go.RowKit

set_option maxHeartbeats 400000 in
theorem rdleft_any (b : Nat) (t : TypeId) (g : Nat) (s : List UInt8 × Int) (w : World) (h : RAt w b t g s) :
    Calls Tryd.prog 24 #[.pointer (some ⟨b, 0, none⟩)] w fun e w' => e = .returned (.int .i64 (s.1.length : Nat)) ∧ w = w' := by
  obtain ⟨p, len, cap, hb, hs, -⟩ := h
  have hl := hs.same
  subst hl
  have c0 : w.cell? ⟨b, 0, none⟩ = some (.slice p s.1.length cap) := hb.cell 0
  clear hb hs
  go_enter Tryd.func24, Tryd.ntmps24
  go_wp2_with fail
  go_ret
  exact ⟨rfl, rfl⟩
set_option maxHeartbeats 400000 in
theorem rderr_any (b : Nat) (t : TypeId) (g : Nat) (s : List UInt8 × Int) (w : World) (h : RAt w b t g s) :
    Calls Tryd.prog 23 #[.pointer (some ⟨b, 0, none⟩)] w fun e w' => e = .returned (.int .i64 s.2) ∧ w = w' := by
  obtain ⟨p, len, cap, hb, hs, -⟩ := h
  have c1 : w.cell? ⟨b, 1, none⟩ = some (.int .i64 s.2) := hb.cell 1
  clear hb hs
  go_enter Tryd.func23, Tryd.ntmps23
  go_wp2_with fail
  go_ret
  exact ⟨rfl, rfl⟩
set_option maxHeartbeats 400000 in
theorem rdfail_any (b : Nat) (t : TypeId) (g : Nat) (s : List UInt8 × Int) (c : Int) (w : World) (h : RAt w b t g s) (hg : g ≠ b) :
    Calls Tryd.prog 51 #[.pointer (some ⟨b, 0, none⟩), .int .i64 c] w fun e w' => e = .returned (.tuple #[]) ∧ RTo w b t g (failS s c) w' := by
  obtain ⟨p, len, cap, hb, hs, hp⟩ := h
  have HB := Lib.hid hb
  have HS := Lib.hid hs
  have HP := Lib.hid hp
  clear hb hs hp
  go_enter Tryd.func51, Tryd.ntmps51
  go_wp2_with fail
  refine (wfail_any b t _ s.2 c _ HB.out).mono ?_
  rintro e' w' ⟨rfl, hP⟩
  have HP3 := Lib.hid hP
  clear hP
  go_wp2_with fail
  go_end0
  exact ⟨rfl, RAt.fail HS.out HP.out hg HP3.out⟩

/-! Nil receivers. -/
/-! Writer.Done. -/
end Go.Proofs.YthpangacpihclaaDoor


/-! WirO -/
namespace Go.Proofs.YthpangacpihclaaDoor
open Go.RowKit

/-- An owned row of bytes, made since w. -/
def OwnBs (w : World) (l : List UInt8) (v : Value) (w' : World) : Prop := w'.ownsRow w.heap.size 5 1 v l.length (bvs l)
theorem own_older {w' : World} {B B' e n : Nat} {v : Value} {xs : List Value} (h : w'.ownsRow B e 1 v n xs) (hb : B' ≤ B) : w'.ownsRow B' e 1 v n xs := by
  obtain ⟨h1, h2⟩ := h
  refine ⟨h1, ?_⟩
  rcases h2 with h2 | ⟨g, cap, cur, rfl, hg, rest⟩
  · exact .inl h2
  · exact .inr ⟨g, cap, cur, rfl, Nat.le_trans hb hg, rest⟩
def ownF (w : World) (l : List UInt8) : Fact := ⟨fun v V => OwnBs w l v V, fun _ _ _ h hB => own_below h hB (Nat.le_refl _)⟩
def CloneOwn (w : World) (l : List UInt8) (e : Ending) (w' : World) : Prop := ∃ v, e = .returned v ∧ OwnBs w l v w' ∧ Below w.heap.size w w'
def DoneOwn (w : World) (l : List UInt8) (e : Int) (en : Ending) (w' : World) : Prop := ∃ v, en = .returned (.tuple #[v, .int .i64 e]) ∧ OwnBs w l v w' ∧ Below w.heap.size w w'
set_option maxHeartbeats 800000 in
theorem clone_own (p : Option Addr) (len cap : Nat) (l : List UInt8) (w : World) (h : BsAt w p len cap l) (hsm : l.length ≤ 1000000) :
    Calls Tryd.prog 49 #[.slice p len cap] w (CloneOwn w l) := by
  have hnil := fun (V : World) => Lib.run_eql_slice_nil (P := Tryd.prog) V 46 5 p len cap 0 0 Tryd.underlying46
  have HH := Lib.hid h
  have hle : l.length ≤ 140737488355328 := by omega
  cases p with
  | none =>
    have hl : l = [] := by
      rcases h.place with ⟨-, hc⟩ | ⟨hl, -⟩ | ⟨g, off, hp, -⟩
      · have := h.le; have := h.same; exact List.eq_nil_of_length_eq_zero (by omega)
      · exact hl
      · cases hp
    have HL := Lib.hid hl
    clear h hsm hl
    go_enter Tryd.func49, Tryd.ntmps49
    go_wp2_with fail
    go_ret
    exact ⟨_, rfl, by rw [HL.out]; exact World.ownsRow_nil _ _ _ _, Below.refl _ _⟩
  | some a =>
    have hb2 := (h.below (belowNew w (.cells #[] 5)) (Nat.le_refl _))
    have hown : (w.alloc (.cells #[] 5)).ownsRow w.heap.size 5 1 (.slice (some ⟨w.heap.size, 0, none⟩) 0 0) ([] : List UInt8).length (bvs []) := World.ownsRow_lit w #[] 0 (Nat.le_refl _) (by decide) rfl
    have HB2 := Lib.hid hb2
    clear h hsm hb2
    go_enter Tryd.func49, Tryd.ntmps49
    go_wp2_with (at_builtin; refine wpList_append_bytes rfl _ _ 46 rfl w.heap.size 5 Tryd.underlying46 infoU8 rfl hown rfl HB2.out (by simpa using hle) (by simp) ?_; intro p1 n1 c1' w1 hrow1 hg1 hn1; have HR := Lib.hid hrow1; have HG := Lib.hid hg1; clear hrow1 hg1 hn1 hown)
    go_ret
    exact ⟨_, rfl, by have h := HR.out; rw [List.nil_append] at h; unfold OwnBs; simpa using h, ((belowNew w _).grown HG.out (by simp) (fun k hk => by cases hk; exact Nat.le_refl _))⟩
set_option maxRecDepth 100000 in
set_option maxHeartbeats 1600000 in
theorem done_own (B b : Nat) (t : TypeId) (v : Value) (s : List UInt8 × Int) (w : World) (h : WAt 5 B w b t v s) (hsm : s.1.length ≤ 1000000) :
    Calls Tryd.prog 56 #[.pointer (some ⟨b, 0, none⟩)] w (DoneOwn w s.1 s.2) := by
  obtain ⟨l, e⟩ := s
  simp only at hsm
  obtain ⟨p, cap, rfl, hb⟩ := BsAt.ofRow h.row
  have hlen := hb.same
  simp only at hlen
  generalize hn : l.length = len at *
  have HB := Lib.hid (fun V (hV : Below w.heap.size w V) => (show Blk V b #[.slice p len cap, .int .i64 e] t from (hV.block b h.blk.lt).trans h.blk))
  have HS := Lib.hid (fun V (hV : Below w.heap.size w V) => hb.below hV (Nat.le_refl _))
  rw [← hn] at hsm
  clear h hb hlen hn
  go_enter Tryd.func56, Tryd.ntmps56
  go_wp2_with fail
  refine wp_region_F (fun V => Below w.heap.size w V) [Fact.is (.pointer (some ⟨b, 0, none⟩)), Fact.is (.pointer (some ⟨b, 0, none⟩)), Fact.is (.pointer (some ⟨b, 0, none⟩)), Fact.is (.pointer (some ⟨b, 0, none⟩)), Fact.is (.slice p len cap), ownF w l, Fact.is (.pointer (some ⟨b, 0, none⟩)), Fact.is (.pointer (some ⟨b, 0, none⟩)), Fact.is (.pointer (some ⟨b, 0, none⟩)), Fact.is (.pointer (some ⟨b, 1, none⟩)), Fact.is (.int .i64 e), ownF w l, Fact.is (.int .i64 e)]
    (fun x => { tmps := #[.pointer (some ⟨b, 0, none⟩), undef, x 11, x 12, .pointer (some ⟨b, 0, none⟩), .bool false, x 0, x 1, x 2, x 3, x 4, x 5, x 6, x 7, x 8, x 9, x 10], defers := [] }) (fun i => ([undef, undef, undef, undef, undef, undef, undef, undef, undef, undef, undef, .slice none 0 0, .int .i64 0] : List Value).getD i undef) (by kernel_rfl) rfl rfl (by kernel_rfl) ((Below.refl _ _).drew) (fun u v hu hB => hu.trans (hB.mono hu.size)) ?_ ?_
  · refine ⟨⟨fun x v => rfl, fun x V hC hD => ?_⟩, ?_⟩
    · clear hD
      refine want_yes rfl ?_
      exact leads_value (v := .pointer (some ⟨b, 0, none⟩)) (by go_simp) ⟨Below.refl _ _, rfl⟩
    refine ⟨⟨fun x v => rfl, fun x V hC hD => ?_⟩, ?_⟩
    · have e0 : (x 0) = .pointer (some ⟨b, 0, none⟩) := hD.1 rfl
      clear hD
      refine want_yes rfl ?_
      exact leads_value (v := .pointer (some ⟨b, 0, none⟩)) (by go_simp) ⟨Below.refl _ _, rfl⟩
    refine ⟨⟨fun x v => rfl, fun x V hC hD => ?_⟩, ?_⟩
    · have e1 : (x 1) = .pointer (some ⟨b, 0, none⟩) := hD.1 rfl
      clear hD
      refine want_yes rfl ?_
      exact leads_value (v := .pointer (some ⟨b, 0, none⟩)) (by go_simp) ⟨Below.refl _ _, rfl⟩
    refine ⟨⟨fun x v => rfl, fun x V hC hD => ?_⟩, ?_⟩
    · have e2 : (x 2) = .pointer (some ⟨b, 0, none⟩) := hD.1 rfl
      clear hD
      refine want_yes rfl ?_
      exact leads_value (v := .pointer (some ⟨b, 0, none⟩)) (by go_simp) ⟨Below.refl _ _, rfl⟩
    refine ⟨⟨fun x v => rfl, fun x V hC hD => ?_⟩, ?_⟩
    · have e3 : (x 3) = .pointer (some ⟨b, 0, none⟩) := hD.1 rfl
      clear hD
      refine want_yes rfl ?_
      have k0 : V.cell? ⟨b, 0, none⟩ = some (.slice p len cap) := (HB.out V hC).cell 0
      exact leads_value (v := .slice p len cap) (by go_simp) ⟨Below.refl _ _, rfl⟩
    refine ⟨⟨fun x v => rfl, fun x V hC hD => ?_⟩, ?_⟩
    · have e4 : (x 4) = .slice p len cap := hD.1 rfl
      clear hD
      refine want_yes rfl ?_
      exact leads_enter2 (by go_simp) ((clone_own p len cap l V (HS.out V hC) hsm).mono fun en w'' ⟨u, he, hb, hB⟩ => ⟨u, he, hB, own_older hb hC.size⟩)
    refine ⟨⟨fun x v => rfl, fun x V hC hD => ?_⟩, ?_⟩
    · clear hD
      refine want_yes rfl ?_
      exact leads_value (v := .pointer (some ⟨b, 0, none⟩)) (by go_simp) ⟨Below.refl _ _, rfl⟩
    refine ⟨⟨fun x v => rfl, fun x V hC hD => ?_⟩, ?_⟩
    · have e6 : (x 6) = .pointer (some ⟨b, 0, none⟩) := hD.1 rfl
      clear hD
      refine want_yes rfl ?_
      exact leads_value (v := .pointer (some ⟨b, 0, none⟩)) (by go_simp) ⟨Below.refl _ _, rfl⟩
    refine ⟨⟨fun x v => rfl, fun x V hC hD => ?_⟩, ?_⟩
    · have e7 : (x 7) = .pointer (some ⟨b, 0, none⟩) := hD.1 rfl
      clear hD
      refine want_yes rfl ?_
      exact leads_value (v := .pointer (some ⟨b, 0, none⟩)) (by go_simp) ⟨Below.refl _ _, rfl⟩
    refine ⟨⟨fun x v => rfl, fun x V hC hD => ?_⟩, ?_⟩
    · have e8 : (x 8) = .pointer (some ⟨b, 0, none⟩) := hD.1 rfl
      clear hD
      refine want_yes rfl ?_
      exact leads_value (v := .pointer (some ⟨b, 1, none⟩)) (by go_simp) ⟨Below.refl _ _, rfl⟩
    refine ⟨⟨fun x v => rfl, fun x V hC hD => ?_⟩, ?_⟩
    · have e9 : (x 9) = .pointer (some ⟨b, 1, none⟩) := hD.1 rfl
      clear hD
      refine want_yes rfl ?_
      have k1 : V.cell? ⟨b, 1, none⟩ = some (.int .i64 e) := (HB.out V hC).cell 1
      exact leads_value (v := .int .i64 e) (by go_simp) ⟨Below.refl _ _, rfl⟩
    refine ⟨⟨fun x v => rfl, fun x V hC hD => ?_⟩, ?_⟩
    · have e5 : OwnBs w l (x 5) V := hD.1 rfl
      have e0 : (x 0) = .pointer (some ⟨b, 0, none⟩) := hD.2.2.1 rfl
      have e1 : (x 1) = .pointer (some ⟨b, 0, none⟩) := hD.2.2.2.1 rfl
      have e2 : (x 2) = .pointer (some ⟨b, 0, none⟩) := hD.2.2.2.2.1 rfl
      have e3 : (x 3) = .pointer (some ⟨b, 0, none⟩) := hD.2.2.2.2.2.1 rfl
      have e4 : (x 4) = .slice p len cap := hD.2.2.2.2.2.2.1 rfl
      clear hD
      refine want_yes rfl ?_
      exact leads_value (v := x 5) (by go_simp) ⟨Below.refl _ _, e5⟩
    refine ⟨⟨fun x v => rfl, fun x V hC hD => ?_⟩, ?_⟩
    · have e10 : (x 10) = .int .i64 e := hD.1 rfl
      have e11 : OwnBs w l (x 11) V := hD.2.1 rfl
      have e0 : (x 0) = .pointer (some ⟨b, 0, none⟩) := hD.2.2.1 rfl
      have e1 : (x 1) = .pointer (some ⟨b, 0, none⟩) := hD.2.2.2.1 rfl
      have e2 : (x 2) = .pointer (some ⟨b, 0, none⟩) := hD.2.2.2.2.1 rfl
      have e3 : (x 3) = .pointer (some ⟨b, 0, none⟩) := hD.2.2.2.2.2.1 rfl
      have e4 : (x 4) = .slice p len cap := hD.2.2.2.2.2.2.1 rfl
      have e5 : OwnBs w l (x 5) V := hD.2.2.2.2.2.2.2.1 rfl
      have e6 : (x 6) = .pointer (some ⟨b, 0, none⟩) := hD.2.2.2.2.2.2.2.2.1 rfl
      have e7 : (x 7) = .pointer (some ⟨b, 0, none⟩) := hD.2.2.2.2.2.2.2.2.2.1 rfl
      have e8 : (x 8) = .pointer (some ⟨b, 0, none⟩) := hD.2.2.2.2.2.2.2.2.2.2.1 rfl
      have e9 : (x 9) = .pointer (some ⟨b, 1, none⟩) := hD.2.2.2.2.2.2.2.2.2.2.2.1 rfl
      clear hD
      refine want_yes rfl ?_
      exact leads_value (v := .int .i64 e) (by go_simp) ⟨Below.refl _ _, rfl⟩
    trivial
  · intro x V hC hF
    have e11 : OwnBs w l (x 11) V := hF 11 (by simp)
    have e12 : x 12 = .int .i64 e := hF 12 (by simp)
    have E11 := Lib.hid e11
    have hC' := Lib.hid hC
    clear hF hC e11
    generalize x 11 = y11 at *
    go_wp2_with fail
    refine bodyPost_ret (v := .tuple #[y11, .int .i64 e]) (by simp [results, Tryd.results56, go_sem, e12]) rfl ⟨_, rfl, E11.out, hC'.out⟩

end Go.Proofs.YthpangacpihclaaDoor

/-! WirV -/
namespace Go.Proofs.YthpangacpihclaaDoor
open Go.RowKit

/-- A new Writer. -/
theorem WAt.new (w : World) (t : TypeId) : WAt 5 w.heap.size (w.alloc (.cells #[.slice none 0 0, .int .i64 0] t)) w.heap.size t (.slice none 0 0) ([], 0) :=
  ⟨Blk.new w _ _, World.ownsRow_nil _ _ _ _, fun e => by cases e⟩
/-- A new Reader of bytes of one's own. -/
theorem RAt.new {w : World} {b g : Nat} {v : Value} {t : TypeId} {l : List UInt8} (hk : Blk w b #[v, .int .i64 0] t) (hv : BsIn w g l v) : RAt w b t g (l, 0) := by
  obtain ⟨p, n, c, rfl, h1, h2⟩ := hv
  exact ⟨p, n, c, hk, h1, h2⟩
def blockOf : Value → Nat
  | .slice (some a) _ _ => a.block
  | _ => 0
theorem BsNew.inBlock {w w' : World} {l : List UInt8} {v : Value} (h : BsNew w l v w') : BsIn w' (blockOf v) l v := by
  obtain ⟨p, n, c, rfl, h1, h2⟩ := h
  exact ⟨p, n, c, rfl, h1, fun a ha => by rw [ha]; rfl⟩
end Go.Proofs.YthpangacpihclaaDoor

/-! WirC -/
namespace Go.Proofs.YthpangacpihclaaDoor
open Go.RowKit

theorem bs_nil_any {w w' : World} {p : Option Addr} {len cap : Nat} (h : BsAt w p len cap []) : BsAt w' p len cap [] := by
  refine ⟨h.same, h.le, h.small, ?_⟩
  rcases h.place with h1 | h1 | ⟨g, off, rfl, -⟩
  · exact .inl h1
  · exact .inr (.inl h1)
  · exact .inr (.inl ⟨rfl, by simp⟩)
/-- Bytes stay, if there are any, where their block does. -/
theorem bs_in {S : Nat → Prop} {w w' : World} {p : Option Addr} {len cap g : Nat} {L : List UInt8} (h : BsAt w p len cap L) (hp : ∀ a, p = some a → L ≠ [] → a.block = g) (hc : Chg S w w') (hg : L ≠ [] → ¬ S g) : BsAt w' p len cap L := by
  by_cases hL : L = []
  · subst hL; exact bs_nil_any h
  · exact h.chg hc fun a ha => by rw [hp a ha hL]; exact hg hL
/-- The document's Reader at b tells s: the whole is L, in block g. -/
def XRd (w : World) (b : Nat) (t : TypeId) (g : Nat) (L : List UInt8) (s : List UInt8 × Int) : Prop :=
  ∃ (p : Option Addr) (c k : Nat), Blk w b #[.slice p L.length c, .int .i64 (k : Int), .int .i64 s.2] t ∧ BsAt w p L.length c L ∧ (∀ a, p = some a → L ≠ [] → a.block = g) ∧ (s.2 = 0 → s.1 = L.drop k ∧ k ≤ L.length) ∧ Fit s
def XTo (w : World) (b : Nat) (t : TypeId) (g : Nat) (L : List UInt8) (s : List UInt8 × Int) (w' : World) : Prop := XRd w' b t g L s ∧ Chg (fun k => k = b) w w'
theorem XRd.kept {S : Nat → Prop} {w w' : World} {b : Nat} {t : TypeId} {g : Nat} {L : List UInt8} {s : List UInt8 × Int} (h : XRd w b t g L s) (hc : Chg S w w') (hb : ¬ S b) (hg : ¬ S g) : XRd w' b t g L s := by
  obtain ⟨p, c, k, h1, h2, h3, h4⟩ := h
  exact ⟨p, c, k, hc.kept h1 hb, bs_in h2 h3 hc (fun _ => hg), h3, h4⟩
theorem XRd.below {B : Nat} {w w' : World} {b : Nat} {t : TypeId} {g : Nat} {L : List UInt8} {s : List UInt8 × Int} (h : XRd w b t g L s) (hB : Below B w w') (hs : w.heap.size ≤ B) : XRd w' b t g L s :=
  h.kept (S := fun _ => False) ⟨hB.os, hB.tape, hB.output, hB.size, fun k hk _ => hB.block k (by omega)⟩ (fun h => h) (fun h => h)
theorem XTo.refl {w : World} {b : Nat} {t : TypeId} {g : Nat} {L : List UInt8} {s : List UInt8 × Int} (h : XRd w b t g L s) : XTo w b t g L s w := ⟨h, Chg.refl _ _⟩
theorem XTo.trans {w w' w'' : World} {b : Nat} {t : TypeId} {g : Nat} {L : List UInt8} {s s' : List UInt8 × Int} (h : XTo w b t g L s w') (k : XTo w' b t g L s' w'') : XTo w b t g L s' w'' := ⟨k.1, h.2.trans k.2⟩
theorem XRd.drewN {w : World} {b : Nat} {t : TypeId} {g : Nat} {L : List UInt8} {s : List UInt8 × Int} (h : XRd w b t g L s) (n : Nat) : XRd (w.drewN n) b t g L s := h.below (B := w.heap.size) ⟨rfl, rfl, rfl, Nat.le_refl _, fun _ _ => rfl⟩ (Nat.le_refl _)
theorem chg_drewN (S : Nat → Prop) (w : World) (n : Nat) : Chg S w (w.drewN n) := ⟨rfl, rfl, rfl, Nat.le_refl _, fun _ _ _ => rfl⟩
/-- The error is set. -/
theorem XRd.set {w : World} {b : Nat} {t : TypeId} {g : Nat} {L : List UInt8} {s : List UInt8 × Int} (h : XRd w b t g L s) (hg : g ≠ b) {c : Int} (hc : c ≠ 0) : XTo w b t g L ([], c) (w.setCell ⟨b, 2, none⟩ (.int .i64 c)) := by
  obtain ⟨p, c', k, h1, h2, h3, h4, h5⟩ := h
  have hP := (Put.refl h1).set 2 (.int .i64 c)
  exact ⟨⟨p, c', k, hP.blk, bs_in h2 h3 hP.chg (fun _ => hg), h3, (fun e => absurd e hc), fun _ => rfl⟩, hP.chg⟩

def byteV (s : List UInt8 × Int) : Nat := if s.2 = 0 then (s.1.headD 0).toNat else 0
def byteS (s : List UInt8 × Int) : List UInt8 × Int := if s.2 = 0 then (match s.1 with | [] => ([], 4) | _ :: r => (r, 0)) else s
def XByteIs (w : World) (b : Nat) (t : TypeId) (g : Nat) (L : List UInt8) (s : List UInt8 × Int) (e : Ending) (w' : World) : Prop := e = .returned (.int .i64 (byteV s : Nat)) ∧ XTo w b t g L (byteS s) w'

set_option maxHeartbeats 1600000 in
theorem xbyte_any (b : Nat) (t : TypeId) (g : Nat) (L : List UInt8) (s : List UInt8 × Int) (w : World) (h : XRd w b t g L s) (hg : g ≠ b) (hL : L.length ≤ 1000000) :
    Calls Tryd.prog 53 #[.pointer (some ⟨b, 0, none⟩)] w (XByteIs w b t g L s) := by
  obtain ⟨p, c, k, hk, hb, hp, hs, hf⟩ := h
  have c0 : w.cell? ⟨b, 0, none⟩ = some (.slice p L.length c) := hk.cell 0
  have c1 : w.cell? ⟨b, 1, none⟩ = some (.int .i64 (k : Int)) := hk.cell 1
  have c2 : w.cell? ⟨b, 2, none⟩ = some (.int .i64 s.2) := hk.cell 2
  have f1 := hk.free 1
  have f2 := hk.free 2
  have HX := Lib.hid (show XRd w b t g L s from ⟨p, c, k, hk, hb, hp, hs, hf⟩)
  have HK := Lib.hid hk
  have HB := Lib.hid hb
  have HP := Lib.hid hp
  have HG := Lib.hid hg
  by_cases he : s.2 = 0
  · obtain ⟨l, e⟩ := s
    simp only at he hs
    subst he
    obtain ⟨rfl, hkl⟩ := hs rfl
    by_cases hlt : k < L.length
    · have hd : L.drop k = L[k] :: L.drop (k + 1) := List.drop_eq_getElem_cons hlt
      have HV := Lib.hid (show byteV (L.drop k, 0) = L[k].toNat by unfold byteV; rw [if_pos rfl, hd]; rfl)
      have HS := Lib.hid (show byteS (L.drop k, 0) = (L.drop (k + 1), 0) by unfold byteS; rw [if_pos rfl, hd])
      obtain ⟨g', off, rfl, hc⟩ : ∃ g' off, p = some ⟨g', off, none⟩ ∧ w.cell? ⟨g', off + k, none⟩ = some (.int .u8 (L[k].toNat : Int)) := by
        rcases hb.place with ⟨-, h2⟩ | ⟨h2, -⟩ | ⟨g', off, rfl, -, h3⟩
        · have := hb.le; omega
        · rw [h2] at hlt; simp at hlt
        · exact ⟨g', off, rfl, h3 k hlt⟩
      have hg' : g' ≠ b := by rw [← hp _ rfl (by intro e; rw [e] at hlt; simp at hlt)] at hg; exact hg
      have hx : L[k].toNat < 256 := L[k].toNat_lt
      generalize L[k].toNat = x at *
      clear hk hb hp hs hf hg hd
      go_enter Tryd.func53, Tryd.ntmps53
      go_wp2_with fail
      go_quiet (fail)
      go_wp2_with fail
      have hP := ((Put.refl HK.out).drewN nq).set 1 (.int .i64 ((k : Int) + 1))
      generalize ((w.drewN nq).setCell ⟨b, 1, none⟩ (.int .i64 ((k : Int) + 1))) = W2 at *
      have d0 : W2.cell? ⟨b, 0, none⟩ = some (.slice (some ⟨g', off, none⟩) L.length c) := hP.blk.cell 0
      have d1 : W2.cell? ⟨b, 1, none⟩ = some (.int .i64 ((k : Int) + 1)) := hP.blk.cell 1
      have dc : W2.cell? ⟨g', off + k, none⟩ = some (.int .u8 (x : Int)) := by
        rw [World.cell?_of_block (w := w) (a := ⟨g', off + k, none⟩) (hP.chg.block g' (World.block_lt_of_cell? w _ hc) hg')]; exact hc
      have ws : IntKind.i64.wrap ((k : Int) + 1 - 1) = (k : Int) := by rw [IntWalk.i64_in _ (by omega)]; omega
      have wx : IntKind.i64.wrap (x : Int) = (x : Int) := IntWalk.i64_in _ (by omega)
      have HPP := Lib.hid hP
      clear hP c0 c1 c2 f1 f2 hc
      go_quiet (fail)
      go_wp2_with fail
      go_ret
      refine ⟨by rw [HV.out]; rfl, ?_⟩
      rw [HS.out]
      exact ⟨⟨_, c, k + 1, HPP.out.blk, (bs_in HB.out HP.out (HPP.out.chg.drewN _) (fun _ => HG.out)), HP.out, fun _ => ⟨rfl, hlt⟩, fun e => absurd rfl e⟩, HPP.out.chg.drewN _⟩
    · have hd : L.drop k = [] := List.drop_eq_nil_of_le (by omega)
      have HV := Lib.hid (show byteV (L.drop k, 0) = 0 by unfold byteV; rw [if_pos rfl, hd]; rfl)
      have HS := Lib.hid (show byteS (L.drop k, 0) = ([], 4) by unfold byteS; rw [if_pos rfl, hd])
      clear hk hb hp hs hf hg hd
      go_enter Tryd.func53, Tryd.ntmps53
      go_wp2_with fail
      go_quiet (fail)
      go_wp2_with fail
      go_ret
      refine ⟨by rw [HV.out]; rfl, ?_⟩
      rw [HS.out]
      obtain ⟨h1, h2⟩ := (HX.out.drewN nq).set HG.out (c := 4) (by decide)
      exact ⟨h1, (chg_drewN _ w nq).trans h2⟩
  · have b1 : (s.2 != 0) = true := by simpa using he
    have HV := Lib.hid (show byteV s = 0 by unfold byteV; rw [if_neg he])
    have HS := Lib.hid (show byteS s = s by unfold byteS; rw [if_neg he])
    clear hk hb hp hs hf hg he
    go_enter Tryd.func53, Tryd.ntmps53
    go_wp2_with fail
    go_ret
    refine ⟨by rw [HV.out]; rfl, ?_⟩
    rw [HS.out]
    exact XTo.refl HX.out

set_option maxHeartbeats 800000 in
theorem xleft_any (b : Nat) (t : TypeId) (g : Nat) (L : List UInt8) (s : List UInt8 × Int) (w : World) (h : XRd w b t g L s) (hL : L.length ≤ 1000000) :
    Calls Tryd.prog 25 #[.pointer (some ⟨b, 0, none⟩)] w fun e w' => e = .returned (.int .i64 (s.1.length : Nat)) ∧ ∃ n, w' = w.drewN n := by
  obtain ⟨p, c, k, hk, hb, hp, hs, hf⟩ := h
  have c0 : w.cell? ⟨b, 0, none⟩ = some (.slice p L.length c) := hk.cell 0
  have c1 : w.cell? ⟨b, 1, none⟩ = some (.int .i64 (k : Int)) := hk.cell 1
  have c2 : w.cell? ⟨b, 2, none⟩ = some (.int .i64 s.2) := hk.cell 2
  by_cases he : s.2 = 0
  · obtain ⟨hl, hkl⟩ := hs he
    have b1 : (s.2 != 0) = false := by simpa using he
    have HE := Lib.hid (show (s.1.length : Int) = (L.length : Int) - k by rw [hl, List.length_drop]; omega)
    have ws : IntKind.i64.wrap ((L.length : Int) - k) = (L.length : Int) - k := IntWalk.i64_in _ (by omega)
    clear hk hb hp hs hf hl he
    go_enter Tryd.func25, Tryd.ntmps25
    go_wp2_with fail
    go_quiet (fail)
    go_wp2_with fail
    go_ret
    exact ⟨by rw [HE.out]; rfl, nq, rfl⟩
  · have b1 : (s.2 != 0) = true := by simpa using he
    have HE := Lib.hid (show (s.1.length : Int) = 0 by rw [hf he]; rfl)
    clear hk hb hp hs hf he
    go_enter Tryd.func25, Tryd.ntmps25
    go_wp2_with fail
    go_ret
    exact ⟨by rw [HE.out]; rfl, 0, rfl⟩

end Go.Proofs.YthpangacpihclaaDoor

/-! WirX -/
namespace Go.Proofs.YthpangacpihclaaDoor
open Go.RowKit

theorem dNum_err {s : WSt} (he : s.2 ≠ 0) (hf : Fit s) (size most : Int) : dNum s size most = (0, s) := by
  have hn : ∀ c, failS s c = s := fun c => by unfold failS; rw [if_neg (fun x => he x.1)]
  have hl := hf he
  unfold dNum
  split
  · rename_i hz
    have h1 : 1 ≤ size.toNat := by simp only [sizedB, Bool.and_eq_true, decide_eq_true_eq] at hz; omega
    have ht : takeS s size.toNat = s := by unfold takeS; rw [if_pos (by rw [hl]; exact h1), hn]
    have hk : tookS s size.toNat = [] := by unfold tookS; rw [if_pos (by rw [hl]; exact h1)]
    rw [ht, hk, hn]
    split <;> rfl
  · rw [hn]
theorem dNum_size {l : List UInt8} {size : Int} (hz : sizedB size = false) (most : Int) : dNum (l, 0) size most = (0, ([], 8)) := by
  unfold dNum; rw [hz]; rfl
theorem dNum_short {l : List UInt8} {z : Nat} (hz : sizedB z = true) (h : l.length < z) (most : Int) : dNum (l, 0) z most = (0, ([], 4)) := by
  have ht : takeS (l, 0) z = ([], 4) := by unfold takeS; rw [if_pos h]; rfl
  have hk : tookS (l, 0) z = [] := by unfold tookS; rw [if_pos h]
  unfold dNum
  rw [hz, if_pos rfl]
  simp only [Int.toNat_natCast]
  rw [ht, hk]
  split <;> rfl
theorem dNum_long {l : List UInt8} {z : Nat} (hz : sizedB z = true) (h : z ≤ l.length) (most : Int) : dNum (l, 0) z most = if most < (valB (l.take z) : Int) then (0, ([], 8)) else (((valB (l.take z) : Nat) : Int), (l.drop z, 0)) := by
  have ht : takeS (l, 0) z = (l.drop z, 0) := by unfold takeS; rw [if_neg (by simp; omega)]
  have hk : tookS (l, 0) z = l.take z := by unfold tookS; rw [if_neg (by simp; omega)]
  unfold dNum
  rw [hz, if_pos rfl]
  simp only [Int.toNat_natCast]
  rw [ht, hk]
  rfl
theorem byte_cons {l : List UInt8} {j : Nat} (h : j < l.length) : byteV (l.drop j, 0) = l[j].toNat ∧ byteS (l.drop j, 0) = (l.drop (j + 1), 0) := by
  have hd : l.drop j = l[j] :: l.drop (j + 1) := List.drop_eq_getElem_cons h
  exact ⟨by unfold byteV; rw [if_pos rfl, hd]; rfl, by unfold byteS; rw [if_pos rfl, hd]⟩
theorem byte_nil {l : List UInt8} {j : Nat} (h : l.length ≤ j) : byteV (l.drop j, 0) = 0 ∧ byteS (l.drop j, 0) = ([], 4) := by
  have hd : l.drop j = [] := List.drop_eq_nil_of_le h
  exact ⟨by unfold byteV; rw [if_pos rfl, hd]; rfl, by unfold byteS; rw [if_pos rfl, hd]⟩

def XNumIs (w : World) (b : Nat) (t : TypeId) (g : Nat) (L : List UInt8) (r : Int × (List UInt8 × Int)) (e : Ending) (w' : World) : Prop := e = .returned (.int .i64 r.1) ∧ XTo w b t g L r.2 w'

set_option maxHeartbeats 1600000 in
theorem xnum_err (b : Nat) (t : TypeId) (g : Nat) (L : List UInt8) (s : List UInt8 × Int) (size most : Int) (w : World) (h : XRd w b t g L s) (he : s.2 ≠ 0) :
    Calls Tryd.prog 54 #[.pointer (some ⟨b, 0, none⟩), .int .i64 size, .int .i64 most] w (XNumIs w b t g L (dNum s size most)) := by
  obtain ⟨p, c, k, hk, hb, hp, hs, hf⟩ := h
  rw [dNum_err he hf]
  have c2 : w.cell? ⟨b, 2, none⟩ = some (.int .i64 s.2) := hk.cell 2
  have HX := Lib.hid (show XRd w b t g L s from ⟨p, c, k, hk, hb, hp, hs, hf⟩)
  have b1 : (s.2 == 0) = false := by simpa using he
  have b2 : (s.2 != 0) = true := by simpa using he
  clear hk hb hp hs hf he
  go_enter Tryd.func54, Tryd.ntmps54
  go_wp2_with fail
  go_loop [7, 8] (fun n i => n = .int .i64 0 ∧ i = .int .i64 0) (fun _ _ => 0)
  case atStart => exact ⟨rfl, rfl⟩
  case round =>
    obtain ⟨rfl, rfl⟩ := hrel
    by_cases h0 : 0 < size
    · go_wp2_with fail
      go_ret
      exact ⟨rfl, XTo.refl HX.out⟩
    · go_wp2_with fail
      go_ret
      exact ⟨rfl, XTo.refl HX.out⟩

set_option maxHeartbeats 1600000 in
theorem xnum_size (b : Nat) (t : TypeId) (g : Nat) (L : List UInt8) (l : List UInt8) (size most : Int) (w : World) (h : XRd w b t g L (l, 0)) (hg : g ≠ b) (hz : size < 1 ∨ 4 < size) :
    Calls Tryd.prog 54 #[.pointer (some ⟨b, 0, none⟩), .int .i64 size, .int .i64 most] w (XNumIs w b t g L (0, ([], 8))) := by
  have HX := Lib.hid h
  obtain ⟨p, c, k, hk, hb, hp, hs, hf⟩ := h
  have c2 : w.cell? ⟨b, 2, none⟩ = some (.int .i64 0) := hk.cell 2
  have f2 := hk.free 2
  have HS := Lib.hid (HX.out.set hg (c := 8) (by decide))
  clear hk hb hp hs hf
  by_cases h1 : size < 1
  · have h0 : ¬ 0 < size := by omega
    clear hz
    go_enter Tryd.func54, Tryd.ntmps54
    go_wp2_with fail
    go_loop [7, 8] (fun n i => n = .int .i64 0 ∧ i = .int .i64 0) (fun _ _ => 0)
    case atStart => exact ⟨rfl, rfl⟩
    case round =>
      obtain ⟨rfl, rfl⟩ := hrel
      go_wp2_with fail
      go_ret
      exact ⟨rfl, HS.out⟩
  · have h4 : 4 < size := by omega
    have h0 : 0 < size := by omega
    clear hz
    go_enter Tryd.func54, Tryd.ntmps54
    go_wp2_with fail
    go_loop [7, 8] (fun n i => n = .int .i64 0 ∧ i = .int .i64 0) (fun _ _ => 0)
    case atStart => exact ⟨rfl, rfl⟩
    case round =>
      obtain ⟨rfl, rfl⟩ := hrel
      go_wp2_with fail
      go_ret
      exact ⟨rfl, HS.out⟩

/-- What holds at the head of a round. -/
def NumAt (w : World) (b : Nat) (t : TypeId) (g : Nat) (L l : List UInt8) (z j : Nat) (n : Value) (wr : World) : Prop :=
  (j ≤ l.length ∧ n = .int .i64 (valB (l.take j) : Nat) ∧ XTo w b t g L (l.drop j, 0) wr) ∨ (l.length < z ∧ (∃ m : Int, n = .int .i64 m) ∧ XTo w b t g L ([], 4) wr)
set_option maxRecDepth 100000 in
set_option maxHeartbeats 3200000 in
theorem xnum_in (b : Nat) (t : TypeId) (g : Nat) (L : List UInt8) (l : List UInt8) (z : Nat) (most : Int) (w : World) (h : XRd w b t g L (l, 0)) (hg : g ≠ b) (hL : L.length ≤ 1000000) (h1 : 1 ≤ z) (h4 : z ≤ 4) :
    Calls Tryd.prog 54 #[.pointer (some ⟨b, 0, none⟩), .int .i64 z, .int .i64 most] w (XNumIs w b t g L (dNum (l, 0) z most)) := by
  have hz : sizedB z = true := by unfold sizedB; simp; omega
  have HX := Lib.hid h
  have HG := Lib.hid hg
  obtain ⟨p, c, k, hk, hb, hp, hs, hf⟩ := h
  have c2 : w.cell? ⟨b, 2, none⟩ = some (.int .i64 0) := hk.cell 2
  have HSh := Lib.hid (fun (h : l.length < z) => dNum_short hz h most)
  have HLo := Lib.hid (fun (h : z ≤ l.length) => dNum_long hz h most)
  clear hk hb hp hs hf hz hg
  generalize dNum (l, 0) z most = D at *
  go_enter Tryd.func54, Tryd.ntmps54
  go_wp2_with fail
  go_loopw [7, 8] (fun n i wr => ∃ j : Nat, j ≤ z ∧ i = .int .i64 j ∧ NumAt w b t g L l z j n wr) (fun _ i _ => z - (intOf i).toNat)
  case atStart => exact ⟨0, Nat.zero_le _, rfl, .inl ⟨Nat.zero_le _, by simp [valB], XTo.refl HX.out⟩⟩
  case round =>
    obtain ⟨j, hj, rfl, hN⟩ := hrel
    rcases hN with ⟨hjl, rfl, hX⟩ | ⟨hlz, ⟨m, rfl⟩, hX⟩
    · have HXX := Lib.hid hX
      obtain ⟨⟨p, c, k, hk, -⟩, -⟩ := hX
      have d2 : wr.cell? ⟨b, 2, none⟩ = some (.int .i64 0) := hk.cell 2
      have e2 := hk.free 2
      have hvs := valB_small (l.take j) (by simp; omega)
      clear hk c2
      by_cases hjz : j < z
      · have HC := Lib.hid (xbyte_any b t g L (l.drop j, 0) wr HXX.out.1 HG.out hL)
        by_cases hjl2 : j < l.length
        · obtain ⟨hv, hs⟩ := byte_cons hjl2
          have HV := Lib.hid (valB_take_succ l j hjl2)
          have hx : l[j].toNat < 256 := l[j].toNat_lt
          have HB := Lib.hid (And.intro hv hs)
          clear hv hs
          generalize valB (l.take j) = a at *
          generalize l[j].toNat = x at *
          go_wp2_with fail
          refine HC.out.mono ?_
          rintro e w2 ⟨rfl, hX2⟩
          rw [HB.out.1]
          have HX2 := Lib.hid (HXX.out.trans hX2)
          clear hX2 d2 e2
          go_wp2_with fail
          go_roundw
          case rel => exact ⟨j + 1, by omega, by go_num, .inl ⟨by omega, by rw [HV.out]; go_num, by have := HX2.out; rw [HB.out.2] at this; exact this⟩⟩
          case measure => simp [intOf]; omega
        · obtain ⟨hv, hs⟩ := byte_nil (l := l) (j := j) (by omega)
          have HB := Lib.hid (And.intro hv hs)
          clear hv hs
          generalize valB (l.take j) = a at *
          go_wp2_with fail
          refine HC.out.mono ?_
          rintro e w2 ⟨rfl, hX2⟩
          rw [HB.out.1]
          have HX2 := Lib.hid (HXX.out.trans hX2)
          clear hX2 d2 e2
          go_wp2_with fail
          go_roundw
          case rel => exact ⟨j + 1, by omega, by go_num, .inr ⟨by omega, ⟨_, rfl⟩, by have := HX2.out; rw [HB.out.2] at this; exact this⟩⟩
          case measure => simp [intOf]; omega
      · obtain rfl : j = z := by omega
        have hD := HLo.out hjl
        have HSet := Lib.hid (HXX.out.1.set HG.out (c := 8) (by decide))
        clear HSh HLo
        generalize valB (l.take j) = a at *
        by_cases hm : most < (a : Int)
        · rw [if_pos hm] at hD
          have HD := Lib.hid hD
          clear hD
          go_wp2_with fail
          go_ret
          refine ⟨by rw [HD.out]; rfl, ?_⟩
          rw [HD.out]
          exact HXX.out.trans HSet.out
        · rw [if_neg hm] at hD
          have HD := Lib.hid hD
          clear hD
          go_wp2_with fail
          go_ret
          refine ⟨by rw [HD.out]; rfl, ?_⟩
          rw [HD.out]
          exact HXX.out
    · have HXX := Lib.hid hX
      obtain ⟨⟨p, c, k, hk, -⟩, -⟩ := hX
      have d2 : wr.cell? ⟨b, 2, none⟩ = some (.int .i64 4) := hk.cell 2
      have HD := Lib.hid (HSh.out hlz)
      clear hk c2 HSh HLo
      by_cases hjz : j < z
      · go_wp2_with fail
        go_ret
        refine ⟨by rw [HD.out]; rfl, ?_⟩
        rw [HD.out]
        exact HXX.out
      · go_wp2_with fail
        go_ret
        refine ⟨by rw [HD.out]; rfl, ?_⟩
        rw [HD.out]
        exact HXX.out

theorem xnum_any (b : Nat) (t : TypeId) (g : Nat) (L : List UInt8) (s : List UInt8 × Int) (size most : Int) (w : World) (h : XRd w b t g L s) (hg : g ≠ b) (hL : L.length ≤ 1000000) :
    Calls Tryd.prog 54 #[.pointer (some ⟨b, 0, none⟩), .int .i64 size, .int .i64 most] w (XNumIs w b t g L (dNum s size most)) := by
  by_cases he : s.2 = 0
  · obtain ⟨l, e⟩ := s
    simp only at he
    subst he
    by_cases hz : size < 1 ∨ 4 < size
    · rw [dNum_size (by simp only [sizedB, Bool.and_eq_false_iff, decide_eq_false_iff_not]; omega)]
      exact xnum_size b t g L l size most w h hg hz
    · obtain ⟨z, rfl⟩ := Int.eq_ofNat_of_zero_le (show 0 ≤ size by omega)
      exact xnum_in b t g L l z most w h hg hL (by omega) (by omega)
  · exact xnum_err b t g L s size most w h he

end Go.Proofs.YthpangacpihclaaDoor

/-! MapR -/
namespace Go.Proofs.YthpangacpihclaaDoor
open Go.RowKit

/-- A map's cells. -/
def mapC (f : Nat → Nat) : Array Value := ((List.range 16).map fun t => Value.int .u8 (f t : Nat)).toArray
theorem mapC_size (f : Nat → Nat) : (mapC f).size = 16 := by simp [mapC]
theorem mapC_get (f : Nat → Nat) {k : Nat} (h : k < 16) : (mapC f)[k]? = some (.int .u8 (f k : Nat)) := by simp [mapC, h]
theorem mapC_congr {f g : Nat → Nat} (h : ∀ t, t < 16 → f t = g t) : mapC f = mapC g := by
  unfold mapC
  congr 1
  exact List.map_congr_left fun t ht => by rw [h t (List.mem_range.1 ht)]
theorem mapC_set (f : Nat → Nat) {k v : Nat} (h : k < 16) : (mapC f).setIfInBounds k (.int .u8 (v : Nat)) = mapC (updF f k v) := by
  apply Array.ext_getElem?
  intro i
  rw [Array.getElem?_setIfInBounds]
  by_cases hi : i < 16
  · rw [mapC_get _ hi]
    by_cases e : k = i
    · subst e; rw [mapC_get _ h]; simp [updF, mapC_size, h]
    · have e2 : ¬ i = k := fun h => e h.symm
      rw [if_neg e, mapC_get _ hi]; simp [updF, e2]
  · have h1 : ¬ k = i := by omega
    rw [if_neg h1]
    simp [mapC, hi]
theorem mapC_one (f : Nat → Nat) : (mapC f).all (·.oneCell') = true := by
  simp [mapC, Value.oneCell']
theorem infoMap : (Tryd.prog.info? 43).map (·.size) = some 16 := by kernel_rfl
theorem infoMapC (f : Nat → Nat) : (Tryd.prog.info? 43).map (·.size) = some (mapC f).size := by rw [mapC_size]; exact infoMap
theorem infoByte : ∃ i, Tryd.prog.info? 5 = some i := Go.info_of_underlying Tryd.underlying5
/-- Block b is a map of its own. -/
def Row (w : World) (b : Nat) (f : Nat → Nat) : Prop := w.heap[b]? = some (.cells (mapC f) 43 (0, 0))
theorem Row.lt {w : World} {b : Nat} {f : Nat → Nat} (h : Row w b f) : b < w.heap.size := lt_of_block h
theorem Row.cell {w : World} {b : Nat} {f : Nat → Nat} (h : Row w b f) {k : Nat} (hk : k < 16) : w.cell? ⟨b, k, none⟩ = some (.int .u8 (f k : Nat)) := by
  unfold Row at h; rw [cell_of_row _ _ _ _ _ _ h, mapC_get _ hk]
theorem Row.free {w : World} {b : Nat} {f : Nat → Nat} (h : Row w b f) (k : Nat) : w.frozen? ⟨b, k, none⟩ = false := frozen_of_row w b k _ _ h
theorem Row.new (w : World) (f : Nat → Nat) : Row (w.alloc (.cells (mapC f) 43)) w.heap.size f := heap_alloc_new w _
theorem Row.zero (w : World) : Row (w.alloc (.cells #[.int .u8 0, .int .u8 0, .int .u8 0, .int .u8 0, .int .u8 0, .int .u8 0, .int .u8 0, .int .u8 0, .int .u8 0, .int .u8 0, .int .u8 0, .int .u8 0, .int .u8 0, .int .u8 0, .int .u8 0, .int .u8 0] 43)) w.heap.size (fun _ => 0) := heap_alloc_new w _
theorem Row.alloc {w : World} {b : Nat} {f : Nat → Nat} (h : Row w b f) (o : Obj) : Row (w.alloc o) b f := (Below.heap_alloc w o b h.lt).trans h
theorem Row.below {B : Nat} {w w' : World} {b : Nat} {f : Nat → Nat} (h : Row w b f) (hB : Below B w w') (hb : b < B) : Row w' b f := (hB.block b hb).trans h
theorem Row.set {w : World} {b : Nat} {f : Nat → Nat} (h : Row w b f) {k v : Nat} (hk : k < 16) : Row (w.setCell ⟨b, k, none⟩ (.int .u8 (v : Nat))) b (updF f k v) := by
  unfold Row at *
  rw [heap_setCell_same w b k _ _ _ h, mapC_set _ hk]
theorem Row.set_other {w : World} {b : Nat} {f : Nat → Nat} (h : Row w b f) {a : Addr} (ha : a.block ≠ b) (u : Value) : Row (w.setCell a u) b f := (Below.heap_setCell w a u b (fun e => ha e.symm)).trans h
theorem Row.congr {w : World} {b : Nat} {f g : Nat → Nat} (h : Row w b f) (e : ∀ t, t < 16 → f t = g t) : Row w b g := by
  unfold Row at *; rw [h, mapC_congr e]

/-- A whole map is written into block b. -/
structure Wrote (w w' : World) (b : Nat) (g : Nat → Nat) : Prop where
  row : Row w' b g
  size : w'.heap.size = w.heap.size
  other : ∀ k, k ≠ b → w'.heap[k]? = w.heap[k]?
  below : ∀ B, B ≤ b → Below B w w'
theorem below_setRow {w : World} {b B : Nat} {c : Array Value} (h : B ≤ b) : Below B w (w.setRow b c) where
  os := rfl
  tape := rfl
  output := rfl
  size := by simp
  block := fun i hi => by rw [setRow_other w b i c (by omega)]
theorem Wrote.of {w : World} {b : Nat} {f : Nat → Nat} (h : Row w b f) (g : Nat → Nat) : Wrote w (w.setRow b (mapC g)) b g :=
  ⟨setRow_heap w b _ _ _ _ h, by simp, fun k hk => setRow_other w b k _ hk, fun _ hB => below_setRow hB⟩
theorem Wrote.keeps {w w' : World} {b c : Nat} {g f : Nat → Nat} (h : Wrote w w' b g) (hr : Row w c f) (hc : c ≠ b) : Row w' c f := (h.other c hc).trans hr
theorem exec_load_map {o : Oper} {a : Act} {w : World} {x : Operand} {b : Nat} {f : Nat → Nat} (ho : o.op = .load 43 x) (hx : a.eval x = .pointer (some ⟨b, 0, none⟩)) (h : Row w b f) :
    (execOp a.eval o).run Tryd.prog w = .ok (.value (.agg (mapC f))) w := by
  unfold execOp
  simp only [ho, hx, Instr.loadAt, Instr.sureAddr, Sem.run_bind, Sem.run_pure, Result.andThen_ok, run_loadVar_row w b _ 43 (mapC f) _ _ h Tryd.underlying43 rfl (infoMapC f)]

theorem wpList_load_map {ops : Array Oper} {rest : List Oper} {o : Oper} {a : Act} {w : World} {Q : Exit → Act → World → Prop} (hgd : o.guard = none) (x : Operand) (ho : o.op = .load 43 x)
    {b : Nat} {f : Nat → Nat} (hx : a.eval x = .pointer (some ⟨b, 0, none⟩)) (h : Row w b f) (hK : wpList Tryd.prog ops Q rest (a.put o.dst (.agg (mapC f))) w) : wpList Tryd.prog ops Q (o :: rest) a w :=
  wpList_load_row hgd 43 x ho b hx 43 (mapC f) (0, 0) _ h Tryd.underlying43 rfl (infoMapC f) hK

theorem wpList_load_map_if {ops : Array Oper} {rest : List Oper} {o : Oper} {a : Act} {w : World} {Q : Exit → Act → World → Prop} (hgd : Region.wanted o (yielded ops a.tmps) = true) (x : Operand) (ho : o.op = .load 43 x)
    {b : Nat} {f : Nat → Nat} (hx : a.eval x = .pointer (some ⟨b, 0, none⟩)) (h : Row w b f) (hK : wpList Tryd.prog ops Q rest (a.put o.dst (.agg (mapC f))) w) : wpList Tryd.prog ops Q (o :: rest) a w :=
  wpList_step fun _ hK' => by
    rw [if_pos hgd]
    exact wp_load_row 43 x ho b hx 43 (mapC f) (0, 0) _ h Tryd.underlying43 rfl (infoMapC f) (hK' _ _ hK)

theorem wpList_store_map {ops : Array Oper} {rest : List Oper} {o : Oper} {a : Act} {w : World} {Q : Exit → Act → World → Prop} (hgd : o.guard = none) (hd : o.dst = none) (x y : Operand) (ho : o.op = .store 43 x y)
    {b : Nat} {f g : Nat → Nat} (hx : a.eval x = .pointer (some ⟨b, 0, none⟩)) (hy : a.eval y = .agg (mapC g)) (h : Row w b f) (hK : ∀ w', Wrote w w' b g → wpList Tryd.prog ops Q rest a w') : wpList Tryd.prog ops Q (o :: rest) a w :=
  wpList_plain hgd fun K hK' => by
    unfold Oper.wp execOp
    simp only [ho, hx, hy, Instr.storeAt, Instr.sureAddr, Sem.run_bind, Sem.run_pure, Result.andThen_ok, run_storeVar_row w b _ 43 (mapC f) (mapC g) h (infoMapC g) (by rw [mapC_size, mapC_size]) (mapC_one g)]
    have e : a.put o.dst undef = a := by rw [hd]; rfl
    exact hK' _ _ (by rw [e]; exact hK _ (Wrote.of h g))

/-- Two whole maps are compared cell by cell. -/
theorem eqItems_map (d : Nat) (f g : Nat → Nat) (w : World) : ∀ l : List Nat, (∀ i, i ∈ l → i < 16) → (Op.eqItems (d + 1) 5 1 (mapC f) (mapC g) l).run Tryd.prog w = .ok (l.all fun t => f t == g t) w
  | [], _ => by simp [Op.eqItems]
  | i :: r, h => by
    have hi := h i (by simp)
    have pf := run_part_plain (P := Tryd.prog) w (e := 5) (by kernel_rfl) (mapC_get f hi)
    have pg := run_part_plain (P := Tryd.prog) w (e := 5) (by kernel_rfl) (mapC_get g hi)
    have ih := eqItems_map d f g w r fun j hj => h j (by simp [hj])
    simp only [Op.eqItems, Nat.mul_one, Sem.run_bind, pf, pg, Result.andThen_ok, run_equalIn_int w d 5 .u8 .u8 (f i : Int) (g i : Int) Tryd.underlying5]
    by_cases e : f i = g i
    · simp [e, ih]
    · have e2 : ((f i : Nat) : Int) ≠ (g i : Nat) := fun h => e (by omega)
      simp [e, e2]
theorem run_equal_map (f g : Nat → Nat) (w : World) : (Op.equalIn 10000 43 (.agg (mapC f)) (.agg (mapC g))).run Tryd.prog w = .ok (eqF f g) w := by
  obtain ⟨i, hi⟩ := infoByte
  rw [run_equalIn_array w 9999 (mapC f) (mapC g) Tryd.underlying43 hi, show Tryd.prog.cellsOf 5 = 1 by kernel_rfl]
  exact eqItems_map 9998 f g w _ fun i hi => List.mem_range.1 hi
theorem guard_map : Tryd.prog.eqGuardType Tryd.prog.depth 43 = false := by kernel_rfl

theorem exec_eql_map {o : Oper} {a : Act} {w : World} {x y : Operand} {ty : TypeId} {f g : Nat → Nat} (ho : o.op = .binOp .eql 43 x y ty) (hx : a.eval x = .agg (mapC f)) (hy : a.eval y = .agg (mapC g)) :
    (execOp a.eval o).run Tryd.prog w = .ok (.value (.bool (eqF f g))) w := by
  unfold execOp
  simp only [ho, hx, hy, Sem.run_bind, run_eqGuard_agg w .eql 43 x y _ _ guard_map, run_eql_struct, run_equal_map, Result.andThen_ok, Sem.run_pure]
theorem run_index_map (f : Nat → Nat) {k : Nat} (h : k < 16) (w : World) : (Instr.index 43 (.agg (mapC f)) (.int .i64 (k : Int))).run Tryd.prog w = .ok (.int .u8 (f k : Nat)) w := by
  obtain ⟨i, hi⟩ := infoByte
  have h2 : (k : Int) < 16 := by omega
  simp only [Instr.index, asIntOf, Sem.run_bind, Sem.run_pure, Result.andThen_ok, run_underlying Tryd.underlying43]
  rw [if_pos ⟨Int.natCast_nonneg k, h2⟩]
  simp only [Sem.run_bind, run_sizeOf w hi, Result.andThen_ok, show Tryd.prog.cellsOf 5 = 1 by kernel_rfl, Nat.mul_one, Int.toNat_natCast]
  exact run_part_plain (P := Tryd.prog) w (e := 5) (by kernel_rfl) (mapC_get f h)

/-- What a call hands back out of a block. -/
theorem results_map {fn : Func} {p : Tmp} (h : fn.results = #[.cell p 43]) {tmps : Array Value} {w : World} {b : Nat} {f : Nat → Nat} (hp : tmps.getD p undef = .pointer (some ⟨b, 0, none⟩)) (hr : Row w b f) :
    (results fn tmps).run Tryd.prog w = .ok (.agg (mapC f)) w :=
  results_cell_row h tmps w b _ (mapC f) _ _ hp hr Tryd.underlying43 rfl (infoMapC f)
theorem results_map2 {fn : Func} {p q : Tmp} (h : fn.results = #[.cell p 43, .tmp q]) {tmps : Array Value} {w : World} {b : Nat} {f : Nat → Nat} {v : Value} (hp : tmps.getD p undef = .pointer (some ⟨b, 0, none⟩)) (hq : tmps.getD q undef = v) (hr : Row w b f) :
    (results fn tmps).run Tryd.prog w = .ok (.tuple #[.agg (mapC f), v]) w := by
  have hp' : tmps[p]?.getD undef = .pointer (some ⟨b, 0, none⟩) := by simpa using hp
  have hq' : tmps[q]?.getD undef = v := by simpa using hq
  simp [results, h, hp', hq', asAddr, run_loadVar_row w b _ 43 (mapC f) _ _ hr Tryd.underlying43 rfl (infoMapC f)]

end Go.Proofs.YthpangacpihclaaDoor

/-! Held -/
namespace Go.Proofs.YthpangacpihclaaDoor
open Go.RowKit

/-- In V the blocks of L stand as listed, and below the call's own nothing has changed. -/
structure Held (w : World) (L : List (Nat × Obj)) (V : World) : Prop where
  below : Below w.heap.size w V
  all : ∀ x, x ∈ L → V.heap[x.1]? = some x.2
theorem Held.at {w V : World} {L : List (Nat × Obj)} (h : Held w L V) (i : Nat) {b : Nat} {o : Obj} (hi : L[i]? = some (b, o)) : V.heap[b]? = some o := h.all (b, o) (List.mem_of_getElem? hi)
theorem Held.step {w V V' : World} {L : List (Nat × Obj)} (h : Held w L V) (hB : Below V.heap.size V V') : Held w L V' :=
  ⟨h.below.trans (hB.mono h.below.size), fun x hx => (hB.block x.1 (Array.getElem?_eq_some_iff.1 (h.all x hx)).1).trans (h.all x hx)⟩
theorem Held.drew {w V : World} {L : List (Nat × Obj)} (h : Held w L V) : Held w L V.drew := ⟨h.below.drew, h.all⟩
theorem Held.nil (w : World) : Held w [] w := ⟨Below.refl _ _, fun _ h => by cases h⟩
theorem Held.add {w V : World} {L : List (Nat × Obj)} (h : Held w L V) {b : Nat} {o : Obj} (hb : V.heap[b]? = some o) : Held w ((b, o) :: L) V :=
  ⟨h.below, fun x hx => by
    rcases List.mem_cons.1 hx with rfl | hx
    · exact hb
    · exact h.all x hx⟩
theorem Held.alloc {w V : World} {L : List (Nat × Obj)} (h : Held w L V) (o : Obj) : Held w ((V.heap.size, o) :: L) (V.alloc o) :=
  (h.step (below_one V o)).add (heap_alloc_new V o)
theorem Held.wrote {w V V' : World} {L : List (Nat × Obj)} {b : Nat} {g : Nat → Nat} (h : Held w L V) (hw : Wrote V V' b g) (hb : w.heap.size ≤ b) (hL : ∀ x, x ∈ L → x.1 ≠ b) : Held w L V' :=
  ⟨h.below.trans (hw.below _ hb), fun x hx => (hw.other x.1 (hL x hx)).trans (h.all x hx)⟩
theorem Held.drop {w V : World} {L : List (Nat × Obj)} {y : Nat × Obj} (h : Held w (y :: L) V) : Held w L V := ⟨h.below, fun x hx => h.all x (List.mem_cons_of_mem _ hx)⟩
def rowO (f : Nat → Nat) : Obj := .cells (mapC f) 43 (0, 0)
def pairO (x y : Value) : Obj := .cells #[x, y] 24 (0, 0)
end Go.Proofs.YthpangacpihclaaDoor

/-! RelA -/
namespace Go.Proofs.YthpangacpihclaaDoor
open Go.RowKit

theorem ints_one (W : World) (a : Int) : IntsAt (W.alloc (.cells #[.int .i64 a] 3)) (.slice (some ⟨W.heap.size, 0, none⟩) 1 1) [a] := by
  refine ⟨_, 1, rfl, by simp, fun _ => ⟨W.heap.size, 0, rfl, fun i hi => ?_⟩⟩
  have h := heap_alloc_new W (.cells #[.int .i64 a] 3)
  have : i = 0 := by simp at hi; omega
  subst this
  simp only [World.cell?, h, Nat.zero_add]
  rfl
theorem ofL_one {t : Nat} (h : t < 16) : ofL 0 [(t : Int)] = pw t := by
  unfold ofL ofL
  rw [if_pos (by omega)]
  unfold withN pw; simp
theorem pw_lt {t : Nat} (h : t < 16) : pw t < 65536 := Nat.lt_of_le_of_lt (pw_le (by omega)) (by decide)
theorem ofL_none {t : Nat} (h : ¬ t < 16) : ofL 0 [(t : Int)] = 0 := by
  unfold ofL ofL
  rw [if_neg (by omega)]
set_option maxHeartbeats 1000000 in
theorem rlSame_any (w : World) : Calls Tryd.prog 46 #[] w fun e w' => e = .returned (.agg (mapC idF)) ∧ Below w.heap.size w w' := by
  have hB0 := below_two w (.cells #[.int .u8 0, .int .u8 0, .int .u8 0, .int .u8 0, .int .u8 0, .int .u8 0, .int .u8 0, .int .u8 0, .int .u8 0, .int .u8 0, .int .u8 0, .int .u8 0, .int .u8 0, .int .u8 0, .int .u8 0, .int .u8 0] 43) (.cells #[.int .u8 0, .int .u8 0, .int .u8 0, .int .u8 0, .int .u8 0, .int .u8 0, .int .u8 0, .int .u8 0, .int .u8 0, .int .u8 0, .int .u8 0, .int .u8 0, .int .u8 0, .int .u8 0, .int .u8 0, .int .u8 0] 43)
  have r0 := (Row.zero w).alloc (.cells #[.int .u8 0, .int .u8 0, .int .u8 0, .int .u8 0, .int .u8 0, .int .u8 0, .int .u8 0, .int .u8 0, .int .u8 0, .int .u8 0, .int .u8 0, .int .u8 0, .int .u8 0, .int .u8 0, .int .u8 0, .int .u8 0] 43)
  have r1 := Row.zero (w.alloc (.cells #[.int .u8 0, .int .u8 0, .int .u8 0, .int .u8 0, .int .u8 0, .int .u8 0, .int .u8 0, .int .u8 0, .int .u8 0, .int .u8 0, .int .u8 0, .int .u8 0, .int .u8 0, .int .u8 0, .int .u8 0, .int .u8 0] 43))
  simp only [World.size_alloc] at r1
  go_enter Tryd.func46, Tryd.ntmps46
  go_wp2_with fail
  generalize ((w.alloc _).alloc _ : World) = w1 at *
  go_loopw [3] (fun i wr => ∃ k : Nat, k ≤ 16 ∧ i = .int .i64 k ∧ Below w.heap.size w wr ∧ Row wr w.heap.size (fun _ => 0) ∧ Row wr (w.heap.size + 1) (toF idF (fun _ => 0) k)) (fun i _ => 16 - (intOf i).toNat)
  case atStart => exact ⟨0, by omega, rfl, hB0, r0, r1.congr fun t _ => by simp [toF]⟩
  case round =>
    obtain ⟨k, hk, rfl, hB, q0, q1⟩ := hrel
    have hne : w.heap.size + 1 ≠ w.heap.size := by omega
    by_cases hlt : k < 16
    · have c1 := q1.cell hlt
      have f1 := q1.free k
      have HW := Lib.hid (show IntKind.u8.wrap (k : Int) = (k : Int) by simp [IntKind.wrap, IntKind.bits, IntKind.signed]; omega)
      have Q0 := Lib.hid q0
      have Q1 := Lib.hid q1
      clear q0 q1
      go_wp2_with fail
      go_roundw
      case rel => exact ⟨k + 1, by omega, by go_num, hB.setCell (by simp) _, Q0.out.set_other (by simp <;> omega) _, (Q1.out.set hlt (v := k)).congr fun t _ => toF_upd idF _ k rfl t⟩
      case measure => simp [intOf]; omega
    · have Q1 := q1.congr (g := idF) fun t ht => by unfold toF; rw [if_pos (by omega)]
      clear q1
      go_wp2_with (first | (with_reducible refine wpList_load_map rfl _ rfl rfl Q1 ?_) | (with_reducible refine wpList_store_map rfl rfl _ _ rfl rfl rfl q0 ?_; intro w2 hw2))
      exact bodyPost_ret (v := .agg (mapC idF)) (results_map rfl rfl hw2.row) rfl ⟨rfl, hB.trans (hw2.below _ (Nat.le_refl _))⟩

set_option maxHeartbeats 1000000 in
theorem rlThen_any (f g : Nat → Nat) (hf : MapOk f) (w : World) :
    Calls Tryd.prog 77 #[.agg (mapC f), .agg (mapC g)] w fun e w' => e = .returned (.agg (mapC (thenF f g))) ∧ Below w.heap.size w w' := by
  have hB0 := (((below_two w (.cells (mapC f) 43) (.cells (mapC g) 43)).alloc (by simp; omega) (.cells #[.int .u8 0, .int .u8 0, .int .u8 0, .int .u8 0, .int .u8 0, .int .u8 0, .int .u8 0, .int .u8 0, .int .u8 0, .int .u8 0, .int .u8 0, .int .u8 0, .int .u8 0, .int .u8 0, .int .u8 0, .int .u8 0] 43)).alloc (by simp; omega) (.cells #[.int .u8 0, .int .u8 0, .int .u8 0, .int .u8 0, .int .u8 0, .int .u8 0, .int .u8 0, .int .u8 0, .int .u8 0, .int .u8 0, .int .u8 0, .int .u8 0, .int .u8 0, .int .u8 0, .int .u8 0, .int .u8 0] 43))
  have r0 := (((Row.new w f).alloc (.cells (mapC g) 43)).alloc (.cells #[.int .u8 0, .int .u8 0, .int .u8 0, .int .u8 0, .int .u8 0, .int .u8 0, .int .u8 0, .int .u8 0, .int .u8 0, .int .u8 0, .int .u8 0, .int .u8 0, .int .u8 0, .int .u8 0, .int .u8 0, .int .u8 0] 43)).alloc (.cells #[.int .u8 0, .int .u8 0, .int .u8 0, .int .u8 0, .int .u8 0, .int .u8 0, .int .u8 0, .int .u8 0, .int .u8 0, .int .u8 0, .int .u8 0, .int .u8 0, .int .u8 0, .int .u8 0, .int .u8 0, .int .u8 0] 43)
  have r1 := ((Row.new (w.alloc (.cells (mapC f) 43)) g).alloc (.cells #[.int .u8 0, .int .u8 0, .int .u8 0, .int .u8 0, .int .u8 0, .int .u8 0, .int .u8 0, .int .u8 0, .int .u8 0, .int .u8 0, .int .u8 0, .int .u8 0, .int .u8 0, .int .u8 0, .int .u8 0, .int .u8 0] 43)).alloc (.cells #[.int .u8 0, .int .u8 0, .int .u8 0, .int .u8 0, .int .u8 0, .int .u8 0, .int .u8 0, .int .u8 0, .int .u8 0, .int .u8 0, .int .u8 0, .int .u8 0, .int .u8 0, .int .u8 0, .int .u8 0, .int .u8 0] 43)
  have r2 := (Row.zero ((w.alloc (.cells (mapC f) 43)).alloc (.cells (mapC g) 43))).alloc (.cells #[.int .u8 0, .int .u8 0, .int .u8 0, .int .u8 0, .int .u8 0, .int .u8 0, .int .u8 0, .int .u8 0, .int .u8 0, .int .u8 0, .int .u8 0, .int .u8 0, .int .u8 0, .int .u8 0, .int .u8 0, .int .u8 0] 43)
  have r3 := Row.zero (((w.alloc (.cells (mapC f) 43)).alloc (.cells (mapC g) 43)).alloc (.cells #[.int .u8 0, .int .u8 0, .int .u8 0, .int .u8 0, .int .u8 0, .int .u8 0, .int .u8 0, .int .u8 0, .int .u8 0, .int .u8 0, .int .u8 0, .int .u8 0, .int .u8 0, .int .u8 0, .int .u8 0, .int .u8 0] 43))
  simp only [World.size_alloc] at r1 r2 r3
  go_enter Tryd.func77, Tryd.ntmps77
  go_wp2_with (with_reducible refine wpList_load_map rfl _ rfl rfl r0 ?_)
  clear r0
  generalize ((((w.alloc _).alloc _).alloc _).alloc _ : World) = w1 at *
  go_loopw [9] (fun i wr => ∃ k : Nat, k ≤ 16 ∧ i = .int .i64 k ∧ Below w.heap.size w wr ∧ Row wr (w.heap.size + 1) g ∧ Row wr (w.heap.size + 1 + 1) (fun _ => 0) ∧ Row wr (w.heap.size + 1 + 1 + 1) (toF (thenF f g) (fun _ => 0) k)) (fun i _ => 16 - (intOf i).toNat)
  case atStart => exact ⟨0, by omega, rfl, hB0, r1, r2, r3.congr fun t _ => by simp [toF]⟩
  case round =>
    obtain ⟨k, hk, rfl, hB, q1, q2, q3⟩ := hrel
    by_cases hlt : k < 16
    · have hget := fun w => run_index_map f hlt w
      have hfk := hf k hlt
      have f3 := q3.free k
      have c3 := q3.cell hlt
      have Q1 := Lib.hid q1
      have Q2 := Lib.hid q2
      have Q3 := Lib.hid q3
      clear q1 q2 q3
      by_cases hm : f k < 16
      · have hT := Lib.hid (show g (f k) = thenF f g k by unfold thenF; rw [if_pos hm])
        have c1 := Q1.out.cell hm
        generalize hx : f k = x at *
        generalize hy : g x = y at *
        have HX := Lib.hid hx
        clear hx hy
        have d0 : decide ((x : Int) < 16) = true := by simp; omega
        go_wp2_with fail
        go_roundw
        case rel => exact ⟨k + 1, by omega, by go_num, hB.setCell (by simp; omega) _, Q1.out.set_other (by simp <;> omega) _, Q2.out.set_other (by simp <;> omega) _, (Q3.out.set hlt (v := y)).congr fun t _ => toF_upd _ _ k hT.out t⟩
        case measure => simp [intOf]; omega
      · have hT := Lib.hid (show (0 : Nat) = thenF f g k by unfold thenF; rw [if_neg hm])
        generalize f k = x at *
        have d0 : decide ((x : Int) < 16) = false := by simp; omega
        go_wp2_with fail
        go_roundw
        case rel => exact ⟨k + 1, by omega, by go_num, hB, Q1.out, Q2.out, Q3.out.congr fun t _ => toF_same (thenF f g) (fun _ => 0) k hT.out t⟩
        case measure => simp [intOf]; omega
    · have Q3 := q3.congr (g := thenF f g) fun t ht => by unfold toF; rw [if_pos (by omega)]
      clear q3 q1
      go_wp2_with (first | (with_reducible refine wpList_load_map rfl _ rfl rfl Q3 ?_) | (with_reducible refine wpList_store_map rfl rfl _ _ rfl rfl rfl q2 ?_; intro w2 hw2))
      exact bodyPost_ret (v := .agg (mapC (thenF f g))) (results_map rfl rfl hw2.row) rfl ⟨rfl, hB.trans (hw2.below _ (by omega))⟩

set_option maxHeartbeats 1000000 in
theorem rlMoved_any (f : Nat → Nat) (hf : MapOk f) (w : World) :
    Calls Tryd.prog 76 #[.agg (mapC f)] w fun e w' => e = .returned (.int .u16 (movedN f : Nat)) ∧ Below w.heap.size w w' := by
  have hB0 := below_one w (.cells (mapC f) 43)
  have r0 := Row.new w f
  have HD := Lib.hid (show setB (fun t => decide (t < 16) && f t != t) = movedN f from setB_congr fun t ht => by simp [ht])
  have HZ := Lib.hid (show setB (fun t => decide (t < 0) && f t != t) = 0 from setB_zero fun t _ => by simp)
  go_enter Tryd.func76, Tryd.ntmps76
  go_wp2_with (with_reducible refine wpList_load_map rfl _ rfl rfl r0 ?_)
  clear r0
  generalize (w.alloc _ : World) = w1 at *
  go_loopw [3, 7] (fun m i wr => ∃ k : Nat, k ≤ 16 ∧ i = .int .i64 k ∧ Below w.heap.size w wr ∧ m = .int .u16 (setB (fun t => decide (t < k) && f t != t) : Nat)) (fun _ i _ => 16 - (intOf i).toNat)
  case atStart => exact ⟨0, by omega, rfl, hB0, by rw [HZ.out]; rfl⟩
  case round =>
    obtain ⟨k, hk, rfl, hB, rfl⟩ := hrel
    by_cases hlt : k < 16
    · have hget := fun w => run_index_map f hlt w
      have hfk := hf k hlt
      have hS := setB_lt (fun t => decide (t < k) && f t != t)
      by_cases hm : f k = k
      · have HS := Lib.hid (show setB (fun t => decide (t < k) && f t != t) = setB (fun t => decide (t < k + 1) && f t != t) from setB_congr fun t _ => by
          by_cases e : t = k
          · subst e; simp [hm]
          · simp [show t < k + 1 ↔ t < k by omega])
        generalize setB (fun t => decide (t < k) && f t != t) = S at *
        generalize f k = x at *
        obtain rfl : x = k := hm
        go_wp2_with fail
        go_roundw
        case rel => exact ⟨x + 1, by omega, by go_num, hB, by rw [HS.out]⟩
        case measure => simp [intOf]; omega
      · have HS := Lib.hid (show withN (setB (fun t => decide (t < k) && f t != t)) k = setB (fun t => decide (t < k + 1) && f t != t) from setB_add hlt fun t _ => by
          by_cases e : t = k
          · subst e; simp [hm]
          · simp [e, show t < k + 1 ↔ t < k by omega])
        have HO := Lib.hid (u16_or_nat (setB (fun t => decide (t < k) && f t != t)) (pw k) hS (pw_lt hlt))
        have HP := Lib.hid (ofL_one hlt)
        generalize setB (fun t => decide (t < k) && f t != t) = S at *
        generalize f k = x at *
        have dm : ((x : Int) != (k : Int)) = true := by simp; omega
        go_wp2_with fail
        refine (Of_any _ [(k : Int)] _ (ints_one wr k)).mono ?_
        rintro e w2 ⟨rfl, rfl⟩
        rw [HP.out]
        go_wp2_with fail
        go_roundw
        case rel => exact ⟨k + 1, by omega, by go_num, hB.alloc hB.size _, by rw [HO.out, ← HS.out]; rfl⟩
        case measure => simp [intOf]; omega
    · have HK := Lib.hid (show k = 16 by omega)
      go_wp2_with fail
      go_ret
      exact ⟨ret_int (by rw [HK.out, HD.out]), hB⟩

end Go.Proofs.YthpangacpihclaaDoor

/-! RelB -/
namespace Go.Proofs.YthpangacpihclaaDoor
open Go.RowKit

set_option maxHeartbeats 1000000 in
theorem rrSame_any (w : World) : Calls Tryd.prog 72 #[] w fun e w' => e = .returned (.agg (mapC idF)) ∧ Below w.heap.size w w' := by
  have r0 := Row.zero w
  have hB0 := below_one w (.cells #[.int .u8 0, .int .u8 0, .int .u8 0, .int .u8 0, .int .u8 0, .int .u8 0, .int .u8 0, .int .u8 0, .int .u8 0, .int .u8 0, .int .u8 0, .int .u8 0, .int .u8 0, .int .u8 0, .int .u8 0, .int .u8 0] 43)
  go_enter Tryd.func72, Tryd.ntmps72
  go_wp2_with (refine wpList_store_map (g := idF) rfl rfl _ _ rfl rfl rfl r0 ?_; intro w2 hw2)
  exact bodyPost_ret (v := .agg (mapC idF)) (results_map rfl rfl hw2.row) rfl ⟨rfl, hB0.trans (hw2.below _ (Nat.le_refl _))⟩

set_option maxHeartbeats 1000000 in
theorem rrMoved_any (f : Nat → Nat) (hf : MapOk f) (w : World) :
    Calls Tryd.prog 93 #[.agg (mapC f)] w fun e w' => e = .returned (.int .u16 (movedN f : Nat)) ∧ Below w.heap.size w w' := by
  have hB0 := below_one w (.cells (mapC f) 43)
  have r0 := Row.new w f
  have HD := Lib.hid (show setB (fun t => decide (t < 16) && f t != t) = movedN f from setB_congr fun t ht => by simp [ht])
  have HZ := Lib.hid (show setB (fun t => decide (t < 0) && f t != t) = 0 from setB_zero fun t _ => by simp)
  go_enter Tryd.func93, Tryd.ntmps93
  go_wp2_with fail
  generalize (w.alloc _ : World) = w1 at *
  go_loopw [3, 4] (fun m i wr => ∃ k : Nat, k ≤ 16 ∧ i = .int .i64 k ∧ Below w.heap.size w wr ∧ Row wr w.heap.size f ∧ m = .int .u16 (setB (fun t => decide (t < k) && f t != t) : Nat)) (fun _ i _ => 16 - (intOf i).toNat)
  case atStart => exact ⟨0, by omega, rfl, hB0, r0, by rw [HZ.out]; rfl⟩
  case round =>
    obtain ⟨k, hk, rfl, hB, q0, rfl⟩ := hrel
    by_cases hlt : k < 16
    · have c0 := q0.cell hlt
      have hfk := hf k hlt
      have hS := setB_lt (fun t => decide (t < k) && f t != t)
      have Q0 := Lib.hid q0
      clear q0
      by_cases hm : f k = k
      · have HS := Lib.hid (show setB (fun t => decide (t < k) && f t != t) = setB (fun t => decide (t < k + 1) && f t != t) from setB_congr fun t _ => by
          by_cases e : t = k
          · subst e; simp [hm]
          · simp [show t < k + 1 ↔ t < k by omega])
        generalize setB (fun t => decide (t < k) && f t != t) = S at *
        generalize f k = x at *
        obtain rfl : x = k := hm
        go_wp2_with fail
        go_roundw
        case rel => exact ⟨x + 1, by omega, by go_num, hB, Q0.out, by rw [HS.out]⟩
        case measure => simp [intOf]; omega
      · have HS := Lib.hid (show withN (setB (fun t => decide (t < k) && f t != t)) k = setB (fun t => decide (t < k + 1) && f t != t) from setB_add hlt fun t _ => by
          by_cases e : t = k
          · subst e; simp [hm]
          · simp [e, show t < k + 1 ↔ t < k by omega])
        generalize setB (fun t => decide (t < k) && f t != t) = S at *
        generalize f k = x at *
        have dm : ((x : Int) != (k : Int)) = true := by simp; omega
        go_wp2_with fail
        refine (rWith_yes S k _ hS (by omega) (by omega)).mono ?_
        rintro e w2 ⟨rfl, rfl⟩
        go_wp2_with fail
        go_roundw
        case rel => exact ⟨k + 1, by omega, by go_num, hB, Q0.out, by rw [← HS.out]⟩
        case measure => simp [intOf]; omega
    · have HK := Lib.hid (show k = 16 by omega)
      go_wp2_with fail
      go_ret
      exact ⟨ret_int (by rw [HK.out, HD.out]), hB⟩

/-- What a move may not be: the first of the seven tests that says so. -/
theorem may_cases (f : Nat → Nat) (a b : Int) (h : mayB f a b = false) : a < 0 ∨ (0 ≤ a ∧ 15 < a) ∨ (0 ≤ a ∧ a ≤ 15 ∧ b < 0) ∨ (0 ≤ a ∧ a ≤ 15 ∧ 0 ≤ b ∧ 15 < b) ∨ (0 ≤ a ∧ a ≤ 15 ∧ 0 ≤ b ∧ b ≤ 15 ∧ a = b)
    ∨ (0 ≤ a ∧ a ≤ 15 ∧ 0 ≤ b ∧ b ≤ 15 ∧ a ≠ b ∧ f a.toNat ≠ a.toNat) ∨ (0 ≤ a ∧ a ≤ 15 ∧ 0 ≤ b ∧ b ≤ 15 ∧ a ≠ b ∧ f a.toNat = a.toNat ∧ f b.toNat ≠ b.toNat) := by
  have hn : ¬ (0 ≤ a ∧ a < 16 ∧ 0 ≤ b ∧ b < 16 ∧ a ≠ b ∧ f a.toNat = a.toNat ∧ f b.toNat = b.toNat) := fun hh => by
    rw [mayB_iff.2 hh] at h; cases h
  by_cases h1 : f a.toNat = a.toNat
  · by_cases h2 : f b.toNat = b.toNat
    · simp only [h1, h2, and_true, ne_eq, not_true_eq_false, and_false, or_false] at hn ⊢
      omega
    · simp only [h1, h2, and_false, ne_eq, not_true_eq_false, not_false_eq_true, and_true, false_or] at hn ⊢
      omega
  · simp only [h1, false_and, and_false, ne_eq, not_false_eq_true, and_true, or_false] at hn ⊢
    omega
theorem moved_has {f : Nat → Nat} {a : Int} (h0 : 0 ≤ a) (h1 : a ≤ 15) (h : f a.toNat ≠ a.toNat) : hasB (movedN f : Nat) a = true := by
  unfold hasB
  simp only [h0, decide_true, Bool.true_and, Int.toNat_natCast]
  exact movedN_bit.2 ⟨by omega, h⟩
theorem moved_not {f : Nat → Nat} {a : Int} (h0 : 0 ≤ a) (h1 : a ≤ 15) (h : f a.toNat = a.toNat) : hasB (movedN f : Nat) a = false := by
  unfold hasB
  simp only [h0, decide_true, Bool.true_and, Int.toNat_natCast]
  exact (movedN_no (by omega)).2 h
theorem rHas_has (s : Nat) (t : Int) (x : Bool) (hs : s < 65536) (h : hasB (s : Int) t = x) (w : World) :
    Calls Tryd.prog 33 #[.int .u16 s, .int .i64 t] w fun e w' => e = .returned (.bool x) ∧ w = w' := h ▸ rHas_any s t w hs

set_option maxHeartbeats 4000000 in
theorem rrMove_no (f : Nat → Nat) (a b : Int) (hf : MapOk f) (h : mayB f a b = false) (w : World) :
    Calls Tryd.prog 71 #[.agg (mapC f), .int .i64 a, .int .i64 b] w fun e w' => e = .returned (.tuple #[.agg (mapC fun _ => 0), .bool false]) ∧ Below w.heap.size w w' := by
  have hB0 := below_two w (.cells (mapC f) 43) (.cells #[.int .u8 0, .int .u8 0, .int .u8 0, .int .u8 0, .int .u8 0, .int .u8 0, .int .u8 0, .int .u8 0, .int .u8 0, .int .u8 0, .int .u8 0, .int .u8 0, .int .u8 0, .int .u8 0, .int .u8 0, .int .u8 0] 43)
  have r1 := Row.zero (w.alloc (.cells (mapC f) 43))
  have r0 := (Row.new w f).alloc (.cells #[.int .u8 0, .int .u8 0, .int .u8 0, .int .u8 0, .int .u8 0, .int .u8 0, .int .u8 0, .int .u8 0, .int .u8 0, .int .u8 0, .int .u8 0, .int .u8 0, .int .u8 0, .int .u8 0, .int .u8 0, .int .u8 0] 43)
  simp only [World.size_alloc] at r1
  have ML := movedN_lt f
  rcases may_cases f a b h with h1 | ⟨h1, h2⟩ | ⟨h1, h2, h3⟩ | ⟨h1, h2, h3, h4⟩ | ⟨h1, h2, h3, h4, h5⟩ | ⟨h1, h2, h3, h4, h5, h6⟩ | ⟨h1, h2, h3, h4, h5, h6, h7⟩
  · have d1 : decide (a < 0) = true := by simp; omega
    clear h
    go_enter Tryd.func71, Tryd.ntmps71
    go_wp2_with (refine wpList_store_map (g := fun _ => 0) rfl rfl _ _ rfl rfl rfl r1 ?_; intro w2 hw2)
    exact bodyPost_ret (v := .tuple #[.agg (mapC fun _ => 0), .bool false]) (results_map2 rfl rfl rfl hw2.row) rfl ⟨rfl, hB0.trans (hw2.below _ (by omega))⟩
  · have d1 : decide (a < 0) = false := by simp; omega
    have d2 : decide (15 < a) = true := by simp; omega
    clear h
    go_enter Tryd.func71, Tryd.ntmps71
    go_wp2_with (refine wpList_store_map (g := fun _ => 0) rfl rfl _ _ rfl rfl rfl r1 ?_; intro w2 hw2)
    exact bodyPost_ret (v := .tuple #[.agg (mapC fun _ => 0), .bool false]) (results_map2 rfl rfl rfl hw2.row) rfl ⟨rfl, hB0.trans (hw2.below _ (by omega))⟩
  · have d1 : decide (a < 0) = false := by simp; omega
    have d2 : decide (15 < a) = false := by simp; omega
    have d3 : decide (b < 0) = true := by simp; omega
    clear h
    go_enter Tryd.func71, Tryd.ntmps71
    go_wp2_with (refine wpList_store_map (g := fun _ => 0) rfl rfl _ _ rfl rfl rfl r1 ?_; intro w2 hw2)
    exact bodyPost_ret (v := .tuple #[.agg (mapC fun _ => 0), .bool false]) (results_map2 rfl rfl rfl hw2.row) rfl ⟨rfl, hB0.trans (hw2.below _ (by omega))⟩
  · have d1 : decide (a < 0) = false := by simp; omega
    have d2 : decide (15 < a) = false := by simp; omega
    have d3 : decide (b < 0) = false := by simp; omega
    have d4 : decide (15 < b) = true := by simp; omega
    clear h
    go_enter Tryd.func71, Tryd.ntmps71
    go_wp2_with (refine wpList_store_map (g := fun _ => 0) rfl rfl _ _ rfl rfl rfl r1 ?_; intro w2 hw2)
    exact bodyPost_ret (v := .tuple #[.agg (mapC fun _ => 0), .bool false]) (results_map2 rfl rfl rfl hw2.row) rfl ⟨rfl, hB0.trans (hw2.below _ (by omega))⟩
  · have d1 : decide (a < 0) = false := by simp; omega
    have d2 : decide (15 < a) = false := by simp; omega
    have d3 : decide (b < 0) = false := by simp; omega
    have d4 : decide (15 < b) = false := by simp; omega
    have d5 : (a == b) = true := by simpa using h5
    clear h h5
    go_enter Tryd.func71, Tryd.ntmps71
    go_wp2_with (refine wpList_store_map (g := fun _ => 0) rfl rfl _ _ rfl rfl rfl r1 ?_; intro w2 hw2)
    exact bodyPost_ret (v := .tuple #[.agg (mapC fun _ => 0), .bool false]) (results_map2 rfl rfl rfl hw2.row) rfl ⟨rfl, hB0.trans (hw2.below _ (by omega))⟩
  · have d1 : decide (a < 0) = false := by simp; omega
    have d2 : decide (15 < a) = false := by simp; omega
    have d3 : decide (b < 0) = false := by simp; omega
    have d4 : decide (15 < b) = false := by simp; omega
    have d5 : (a == b) = false := by simpa using h5
    have HH := Lib.hid (moved_has h1 h2 h6)
    clear h h5 h6
    go_enter Tryd.func71, Tryd.ntmps71
    go_wp2_with (refine wpList_load_map_if rfl _ rfl rfl r0 ?_)
    refine (rrMoved_any f hf _).mono ?_
    rintro e w1 ⟨rfl, hB1⟩
    have q1 := r1.below hB1 (by simp)
    have hB2 := hB0.trans (hB1.mono (by simp; omega))
    clear r0 r1 hB0 hB1
    go_wp2_with fail
    refine (rHas_has (movedN f) a true ML HH.out _).mono ?_
    rintro e w' ⟨rfl, rfl⟩
    go_wp2_with (refine wpList_store_map (g := fun _ => 0) rfl rfl _ _ rfl rfl rfl q1 ?_; intro w2 hw2)
    exact bodyPost_ret (v := .tuple #[.agg (mapC fun _ => 0), .bool false]) (results_map2 rfl rfl rfl hw2.row) rfl ⟨rfl, hB2.trans (hw2.below _ (by omega))⟩
  · have d1 : decide (a < 0) = false := by simp; omega
    have d2 : decide (15 < a) = false := by simp; omega
    have d3 : decide (b < 0) = false := by simp; omega
    have d4 : decide (15 < b) = false := by simp; omega
    have d5 : (a == b) = false := by simpa using h5
    have HG := Lib.hid (moved_not h1 h2 h6)
    have HH := Lib.hid (moved_has h3 h4 h7)
    clear h h5 h6 h7
    go_enter Tryd.func71, Tryd.ntmps71
    go_wp2_with (refine wpList_load_map_if rfl _ rfl rfl r0 ?_)
    refine (rrMoved_any f hf _).mono ?_
    rintro e w1 ⟨rfl, hB1⟩
    have q0 := r0.below hB1 (by simp; omega)
    have q1 := r1.below hB1 (by simp)
    have hB2 := hB0.trans (hB1.mono (by simp; omega))
    have hs := q1.lt
    clear r0 r1 hB0 hB1
    go_wp2_with fail
    refine (rHas_has (movedN f) a false ML HG.out _).mono ?_
    rintro e w' ⟨rfl, rfl⟩
    go_wp2_with (refine wpList_load_map_if rfl _ rfl rfl q0 ?_)
    refine (rrMoved_any f hf _).mono ?_
    rintro e w3 ⟨rfl, hB3⟩
    have p1 := q1.below hB3 hs
    have hB4 := hB2.trans (hB3.mono (by omega))
    clear q0 q1 hB2 hB3
    go_wp2_with fail
    refine (rHas_has (movedN f) b true ML HH.out _).mono ?_
    rintro e w' ⟨rfl, rfl⟩
    go_wp2_with (refine wpList_store_map (g := fun _ => 0) rfl rfl _ _ rfl rfl rfl p1 ?_; intro w2 hw2)
    exact bodyPost_ret (v := .tuple #[.agg (mapC fun _ => 0), .bool false]) (results_map2 rfl rfl rfl hw2.row) rfl ⟨rfl, hB4.trans (hw2.below _ (by omega))⟩

set_option maxHeartbeats 4000000 in
theorem rrMove_yes (f : Nat → Nat) (a b : Nat) (hf : MapOk f) (h : mayB f a b = true) (w : World) :
    Calls Tryd.prog 71 #[.agg (mapC f), .int .i64 (a : Int), .int .i64 (b : Int)] w fun e w' => e = .returned (.tuple #[.agg (mapC (moveF f a b)), .bool true]) ∧ Below w.heap.size w w' := by
  have hB0 := below_two w (.cells (mapC f) 43) (.cells #[.int .u8 0, .int .u8 0, .int .u8 0, .int .u8 0, .int .u8 0, .int .u8 0, .int .u8 0, .int .u8 0, .int .u8 0, .int .u8 0, .int .u8 0, .int .u8 0, .int .u8 0, .int .u8 0, .int .u8 0, .int .u8 0] 43)
  have r1 := Row.zero (w.alloc (.cells (mapC f) 43))
  have r0 := (Row.new w f).alloc (.cells #[.int .u8 0, .int .u8 0, .int .u8 0, .int .u8 0, .int .u8 0, .int .u8 0, .int .u8 0, .int .u8 0, .int .u8 0, .int .u8 0, .int .u8 0, .int .u8 0, .int .u8 0, .int .u8 0, .int .u8 0, .int .u8 0] 43)
  simp only [World.size_alloc] at r1
  have ML := movedN_lt f
  obtain ⟨h1, h2, h3, h4, h5, h6, h7⟩ := mayB_iff.1 h
  have d1 : decide ((a : Int) < 0) = false := by simp
  have d2 : decide (15 < (a : Int)) = false := by simp; omega
  have d3 : decide ((b : Int) < 0) = false := by simp
  have d4 : decide (15 < (b : Int)) = false := by simp; omega
  have d5 : ((a : Int) == (b : Int)) = false := by simpa using h5
  have hb8 := Lib.hid (show IntKind.u8.wrap (b : Int) = (b : Int) by simp [IntKind.wrap, IntKind.bits, IntKind.signed]; omega)
  have HG := Lib.hid (moved_not h1 (by omega) h6)
  have HH := Lib.hid (moved_not h3 (by omega) h7)
  clear h h5 h6 h7
  go_enter Tryd.func71, Tryd.ntmps71
  go_wp2_with (refine wpList_load_map_if rfl _ rfl rfl r0 ?_)
  refine (rrMoved_any f hf _).mono ?_
  rintro e w1 ⟨rfl, hB1⟩
  have q0 := r0.below hB1 (by simp; omega)
  have q1 := r1.below hB1 (by simp)
  have hB2 := hB0.trans (hB1.mono (by simp; omega))
  have hs := q1.lt
  clear r0 r1 hB0 hB1
  go_wp2_with fail
  refine (rHas_has (movedN f) a false ML HG.out _).mono ?_
  rintro e w' ⟨rfl, rfl⟩
  go_wp2_with (refine wpList_load_map_if rfl _ rfl rfl q0 ?_)
  refine (rrMoved_any f hf _).mono ?_
  rintro e w3 ⟨rfl, hB3⟩
  have p0 := q0.below hB3 (by omega)
  have p1 := q1.below hB3 hs
  have hB4 := hB2.trans (hB3.mono (by omega))
  clear q0 q1 hB2 hB3
  go_wp2_with fail
  refine (rHas_has (movedN f) b false ML HH.out _).mono ?_
  rintro e w' ⟨rfl, rfl⟩
  go_wp2_with fail
  go_loopw [8] (fun i wr => ∃ k : Nat, k ≤ 16 ∧ i = .int .i64 k ∧ Below w.heap.size w wr ∧ Row wr w.heap.size (toF (moveF f a b) f k) ∧ Row wr (w.heap.size + 1) (fun _ => 0)) (fun i _ => 16 - (intOf i).toNat)
  case atStart => exact ⟨0, by omega, rfl, hB4, p0.congr fun t _ => by simp [toF], p1⟩
  case round =>
    obtain ⟨k, hk, rfl, hB, q0, q1⟩ := hrel
    by_cases hlt : k < 16
    · have c0 := q0.cell hlt
      have f0 := q0.free k
      rw [show toF (moveF f a b) f k k = f k by simp [toF]] at c0
      have hfk := hf k hlt
      by_cases hm : f k = a
      · have hT := Lib.hid (show b = moveF f a b k by unfold moveF; rw [if_pos hm])
        have Q0 := Lib.hid q0
        have Q1 := Lib.hid q1
        clear q0 q1
        rw [hm] at c0 hfk
        clear hm
        go_wp2_with fail
        go_roundw
        case rel => exact ⟨k + 1, by omega, by go_num, hB.setCell (by simp) _, (Q0.out.set hlt (v := b)).congr fun t _ => toF_upd _ _ k hT.out t, Q1.out.set_other (by simp <;> omega) _⟩
        case measure => simp [intOf]; omega
      · have hT := Lib.hid (fun t => toF_same (moveF f a b) f k (show f k = moveF f a b k by unfold moveF; rw [if_neg hm]) t)
        have Q0 := Lib.hid q0
        have Q1 := Lib.hid q1
        clear q0 q1
        generalize f k = x at *
        have dm : ((x : Int) == (a : Int)) = false := by simp; omega
        go_wp2_with fail
        go_roundw
        case rel => exact ⟨k + 1, by omega, by go_num, hB, Q0.out.congr fun t _ => hT.out t, Q1.out⟩
        case measure => simp [intOf]; omega
    · have Q0 := q0.congr (g := moveF f a b) fun t ht => by unfold toF; rw [if_pos (by omega)]
      clear q0
      go_wp2_with (first | (with_reducible refine wpList_load_map rfl _ rfl rfl Q0 ?_) | (with_reducible refine wpList_store_map rfl rfl _ _ rfl rfl rfl q1 ?_; intro w2 hw2))
      exact bodyPost_ret (v := .tuple #[.agg (mapC (moveF f a b)), .bool true]) (results_map2 rfl rfl rfl hw2.row) rfl ⟨rfl, hB.trans (hw2.below _ (by omega))⟩

end Go.Proofs.YthpangacpihclaaDoor

/-! RelC -/
namespace Go.Proofs.YthpangacpihclaaDoor
open Go.RowKit

/-- The tags that are still there. -/
theorem still_bit (f : Nat → Nat) {t : Nat} (ht : t < 16) : (lessN 65535 (movedN f)).testBit t = (f t == t) := by
  rw [lessN_bit (by decide) (movedN_lt f), show (65535 : Nat) = 2 ^ 16 - 1 by decide, Nat.testBit_two_pow_sub_one]
  cases h : (movedN f).testBit t
  · simp [ht, (movedN_no ht).1 h]
  · simp [ht, (movedN_bit.1 h).2]
theorem still_yes {f : Nat → Nat} {a : Int} (h0 : 0 ≤ a) (h1 : a < 16) (h : f a.toNat = a.toNat) : hasB (lessN 65535 (movedN f) : Nat) a = true := by
  unfold hasB
  simp only [h0, decide_true, Bool.true_and, Int.toNat_natCast]
  rw [still_bit f (by omega)]; simp [h]
theorem still_no {f : Nat → Nat} {a : Int} (h : ¬ (0 ≤ a ∧ a < 16 ∧ f a.toNat = a.toNat)) : hasB (lessN 65535 (movedN f) : Nat) a = false := by
  have hl := lessN_lt (movedN f) (show 65535 < 65536 by decide)
  by_cases h1 : 0 ≤ a ∧ a < 16
  · unfold hasB
    simp only [h1.1, decide_true, Bool.true_and, Int.toNat_natCast]
    rw [still_bit f (by omega)]
    have : ¬ f a.toNat = a.toNat := fun e => h ⟨h1.1, h1.2, e⟩
    simpa using this
  · exact hasB_out (by omega) (by omega) h1
theorem Has_has (s : Nat) (t : Int) (x : Bool) (hs : s < 65536) (h : hasB (s : Int) t = x) (w : World) :
    Calls Tryd.prog 57 #[.int .u16 s, .int .i64 t] w fun e w' => e = .returned (.bool x) ∧ w = w' := h ▸ Has_any s t w hs
theorem may_three (f : Nat → Nat) (a b : Int) (h : mayB f a b = false) : a = b ∨ (a ≠ b ∧ hasB (lessN 65535 (movedN f) : Nat) a = false) ∨ (a ≠ b ∧ hasB (lessN 65535 (movedN f) : Nat) a = true ∧ hasB (lessN 65535 (movedN f) : Nat) b = false) := by
  by_cases h1 : a = b
  · exact .inl h1
  · by_cases h2 : 0 ≤ a ∧ a < 16 ∧ f a.toNat = a.toNat
    · by_cases h3 : 0 ≤ b ∧ b < 16 ∧ f b.toNat = b.toNat
      · rw [mayB_iff.2 ⟨h2.1, h2.2.1, h3.1, h3.2.1, h1, h2.2.2, h3.2.2⟩] at h; cases h
      · exact .inr (.inr ⟨h1, still_yes h2.1 h2.2.1 h2.2.2, still_no h3⟩)
    · exact .inr (.inl ⟨h1, still_no h2⟩)

set_option maxHeartbeats 4000000 in
theorem rlMove_no (f : Nat → Nat) (a b : Int) (hf : MapOk f) (h : mayB f a b = false) (w : World) :
    Calls Tryd.prog 47 #[.agg (mapC f), .int .i64 a, .int .i64 b] w fun e w' => e = .returned (.tuple #[.agg (mapC fun _ => 0), .int .i64 8]) ∧ Below w.heap.size w w' := by
  have hB0 := below_two w (.cells (mapC f) 43) (.cells #[.int .u8 0, .int .u8 0, .int .u8 0, .int .u8 0, .int .u8 0, .int .u8 0, .int .u8 0, .int .u8 0, .int .u8 0, .int .u8 0, .int .u8 0, .int .u8 0, .int .u8 0, .int .u8 0, .int .u8 0, .int .u8 0] 43)
  have r1 := Row.zero (w.alloc (.cells (mapC f) 43))
  have r0 := (Row.new w f).alloc (.cells #[.int .u8 0, .int .u8 0, .int .u8 0, .int .u8 0, .int .u8 0, .int .u8 0, .int .u8 0, .int .u8 0, .int .u8 0, .int .u8 0, .int .u8 0, .int .u8 0, .int .u8 0, .int .u8 0, .int .u8 0, .int .u8 0] 43)
  simp only [World.size_alloc] at r1
  have ML := movedN_lt f
  have LL := lessN_lt (movedN f) (show 65535 < 65536 by decide)
  have HN := Lib.hid (u16_andNot_nat 65535 (movedN f) (by decide) ML)
  rcases may_three f a b h with h1 | ⟨h1, h2⟩ | ⟨h1, h2, h3⟩
  · have d5 : (a == b) = true := by simpa using h1
    clear h h1
    go_enter Tryd.func47, Tryd.ntmps47
    go_wp2_with (with_reducible refine wpList_load_map rfl _ rfl rfl r0 ?_)
    refine (rlMoved_any f hf _).mono ?_
    rintro e w1 ⟨rfl, hB1⟩
    have q1 := r1.below hB1 (by simp)
    have hB2 := hB0.trans (hB1.mono (by simp; omega))
    clear r0 r1 hB0 hB1
    go_wp2_with (refine wpList_store_map (g := fun _ => 0) rfl rfl _ _ rfl rfl rfl q1 ?_; intro w2 hw2)
    exact bodyPost_ret (v := .tuple #[.agg (mapC fun _ => 0), .int .i64 8]) (results_map2 rfl rfl rfl hw2.row) rfl ⟨rfl, hB2.trans (hw2.below _ (by omega))⟩
  · have d5 : (a == b) = false := by simpa using h1
    have H2 := Lib.hid h2
    clear h h1 h2
    go_enter Tryd.func47, Tryd.ntmps47
    go_wp2_with (with_reducible refine wpList_load_map rfl _ rfl rfl r0 ?_)
    refine (rlMoved_any f hf _).mono ?_
    rintro e w1 ⟨rfl, hB1⟩
    have q1 := r1.below hB1 (by simp)
    have hB2 := hB0.trans (hB1.mono (by simp; omega))
    clear r0 r1 hB0 hB1
    go_wp2_with fail
    rw [show (65535 : Int) = ((65535 : Nat) : Int) from rfl, HN.out]
    refine (Has_has _ a false LL H2.out _).mono ?_
    rintro e w' ⟨rfl, rfl⟩
    go_wp2_with (refine wpList_store_map (g := fun _ => 0) rfl rfl _ _ rfl rfl rfl q1 ?_; intro w2 hw2)
    exact bodyPost_ret (v := .tuple #[.agg (mapC fun _ => 0), .int .i64 8]) (results_map2 rfl rfl rfl hw2.row) rfl ⟨rfl, hB2.trans (hw2.below _ (by omega))⟩
  · have d5 : (a == b) = false := by simpa using h1
    have H2 := Lib.hid h2
    have H3 := Lib.hid h3
    clear h h1 h2 h3
    go_enter Tryd.func47, Tryd.ntmps47
    go_wp2_with (with_reducible refine wpList_load_map rfl _ rfl rfl r0 ?_)
    refine (rlMoved_any f hf _).mono ?_
    rintro e w1 ⟨rfl, hB1⟩
    have q1 := r1.below hB1 (by simp)
    have hB2 := hB0.trans (hB1.mono (by simp; omega))
    clear r0 r1 hB0 hB1
    go_wp2_with fail
    rw [show (65535 : Int) = ((65535 : Nat) : Int) from rfl, HN.out]
    refine (Has_has _ a true LL H2.out _).mono ?_
    rintro e w' ⟨rfl, rfl⟩
    go_wp2_with fail
    refine (Has_has _ b false LL H3.out _).mono ?_
    rintro e w' ⟨rfl, rfl⟩
    go_wp2_with (refine wpList_store_map (g := fun _ => 0) rfl rfl _ _ rfl rfl rfl q1 ?_; intro w2 hw2)
    exact bodyPost_ret (v := .tuple #[.agg (mapC fun _ => 0), .int .i64 8]) (results_map2 rfl rfl rfl hw2.row) rfl ⟨rfl, hB2.trans (hw2.below _ (by omega))⟩

set_option maxHeartbeats 4000000 in
theorem rlMove_yes (f : Nat → Nat) (a b : Nat) (hf : fineB f = true) (h : mayB f a b = true) (w : World) :
    Calls Tryd.prog 47 #[.agg (mapC f), .int .i64 (a : Int), .int .i64 (b : Int)] w fun e w' => e = .returned (.tuple #[.agg (mapC (moveF f a b)), .int .i64 0]) ∧ Below w.heap.size w w' := by
  have hB0 := below_two w (.cells (mapC f) 43) (.cells #[.int .u8 0, .int .u8 0, .int .u8 0, .int .u8 0, .int .u8 0, .int .u8 0, .int .u8 0, .int .u8 0, .int .u8 0, .int .u8 0, .int .u8 0, .int .u8 0, .int .u8 0, .int .u8 0, .int .u8 0, .int .u8 0] 43)
  have r1 := Row.zero (w.alloc (.cells (mapC f) 43))
  have r0 := (Row.new w f).alloc (.cells #[.int .u8 0, .int .u8 0, .int .u8 0, .int .u8 0, .int .u8 0, .int .u8 0, .int .u8 0, .int .u8 0, .int .u8 0, .int .u8 0, .int .u8 0, .int .u8 0, .int .u8 0, .int .u8 0, .int .u8 0, .int .u8 0] 43)
  simp only [World.size_alloc] at r1
  have ML := movedN_lt f
  have LL := lessN_lt (movedN f) (show 65535 < 65536 by decide)
  have HN := Lib.hid (u16_andNot_nat 65535 (movedN f) (by decide) ML)
  obtain ⟨h1, h2, h3, h4, h5, h6, h7⟩ := mayB_iff.1 h
  have d5 : ((a : Int) == (b : Int)) = false := by simpa using h5
  have ha : a < 16 := by omega
  have hb : b < 256 := by omega
  have H2 := Lib.hid (still_yes h1 h2 h6)
  have H3 := Lib.hid (still_yes h3 h4 h7)
  have HF := Lib.hid hf
  have HE := Lib.hid (mapC_congr (move_then (f := f) (a := a) (b := b) hf))
  clear h h1 h2 h3 h4 h5 h6 h7
  go_enter Tryd.func47, Tryd.ntmps47
  go_wp2_with (with_reducible refine wpList_load_map rfl _ rfl rfl r0 ?_)
  refine (rlMoved_any f (fine_ok HF.out) _).mono ?_
  rintro e w1 ⟨rfl, hB1⟩
  have q0 := r0.below hB1 (by simp; omega)
  have q1 := r1.below hB1 (by simp)
  have hB2 := hB0.trans (hB1.mono (by simp; omega))
  have hs := q1.lt
  clear r0 r1 hB0 hB1
  go_wp2_with fail
  rw [show (65535 : Int) = ((65535 : Nat) : Int) from rfl, HN.out]
  refine (Has_has _ a true LL H2.out _).mono ?_
  rintro e w' ⟨rfl, rfl⟩
  go_wp2_with fail
  refine (Has_has _ b true LL H3.out _).mono ?_
  rintro e w' ⟨rfl, rfl⟩
  go_wp2_with fail
  refine (rlSame_any _).mono ?_
  rintro e w3 ⟨rfl, hB3⟩
  have p0 := (q0.below hB3 (by omega)).alloc (.cells #[.int .u8 0, .int .u8 0, .int .u8 0, .int .u8 0, .int .u8 0, .int .u8 0, .int .u8 0, .int .u8 0, .int .u8 0, .int .u8 0, .int .u8 0, .int .u8 0, .int .u8 0, .int .u8 0, .int .u8 0, .int .u8 0] 43)
  have p1 := (q1.below hB3 hs).alloc (.cells #[.int .u8 0, .int .u8 0, .int .u8 0, .int .u8 0, .int .u8 0, .int .u8 0, .int .u8 0, .int .u8 0, .int .u8 0, .int .u8 0, .int .u8 0, .int .u8 0, .int .u8 0, .int .u8 0, .int .u8 0, .int .u8 0] 43)
  have p2 := Row.zero w3
  have hB4 := (hB2.trans (hB3.mono (by omega))).alloc (by have := hB3.size; omega) (.cells #[.int .u8 0, .int .u8 0, .int .u8 0, .int .u8 0, .int .u8 0, .int .u8 0, .int .u8 0, .int .u8 0, .int .u8 0, .int .u8 0, .int .u8 0, .int .u8 0, .int .u8 0, .int .u8 0, .int .u8 0, .int .u8 0] 43)
  have hs3 := hB3.size
  clear q0 q1 hB2 hB3
  have hn0 : w3.heap.size ≠ w.heap.size := by omega
  have hn1 : w3.heap.size ≠ w.heap.size + 1 := by omega
  go_wp2_with (first | (with_reducible refine wpList_store_map rfl rfl _ _ rfl rfl rfl p2 ?_; intro w4 hw4; have c4 := hw4.row.cell ha; have f4 := hw4.row.free a; have o0 := (hw4.keeps p0 hn0.symm).set_other (a := ⟨w3.heap.size, a, none⟩) hn0 (.int .u8 (b : Int)); have o1 := (hw4.keeps p1 hn1.symm).set_other (a := ⟨w3.heap.size, a, none⟩) hn1 (.int .u8 (b : Int)); have o2 := hw4.row.set ha (v := b); have hB5 := (hB4.trans (hw4.below _ (by omega))).setCell (p := ⟨w3.heap.size, a, none⟩) (by simp; omega) (.int .u8 (b : Int)); have hs5 := hw4.size.trans (World.size_alloc _ _); clear p0 p1 p2 hB4 hw4) | (with_reducible refine wpList_load_map rfl _ rfl rfl o0 ?_) | (with_reducible refine wpList_load_map rfl _ rfl rfl o2 ?_))
  refine (rlThen_any f _ (fine_ok HF.out) _).mono ?_
  rintro e w5 ⟨rfl, hB6⟩
  have q1 := o1.below hB6 (by simp; omega)
  have hB7 := hB5.trans (hB6.mono (by simp; omega))
  rw [HE.out]
  clear c4 f4 o0 o1 o2 hB5 hB6
  go_wp2_with (with_reducible refine wpList_store_map rfl rfl _ _ rfl rfl rfl q1 ?_; intro w6 hw6)
  exact bodyPost_ret (v := .tuple #[.agg (mapC (moveF f a b)), .int .i64 0]) (results_map2 rfl rfl rfl hw6.row) rfl ⟨rfl, hB7.trans (hw6.below _ (by omega))⟩

end Go.Proofs.YthpangacpihclaaDoor

/-! RelD -/
namespace Go.Proofs.YthpangacpihclaaDoor
open Go.RowKit

/-- The image so far: all below u, and of u what the tags below t say. -/
def imgTo (f : Nat → Nat) (s u t : Nat) : Nat := setB fun v => (decide (v < u) && hitB f s v) || (decide (v = u) && anyB t fun x => s.testBit x && f x == u)
theorem imgTo_lt (f : Nat → Nat) (s u t : Nat) : imgTo f s u t < 65536 := setB_lt _
theorem imgTo_zero (f : Nat → Nat) (s : Nat) : imgTo f s 0 0 = 0 := setB_zero fun v _ => by simp [anyB_zero]
theorem imgTo_all (f : Nat → Nat) (s : Nat) : imgTo f s 16 0 = imgN f s := setB_congr fun v hv => by simp [anyB_zero, hv]
theorem imgTo_next (f : Nat → Nat) (s u : Nat) : imgTo f s u 16 = imgTo f s (u + 1) 0 := setB_congr fun v _ => by
  rw [anyB_zero, Bool.and_false, Bool.or_false]
  by_cases e : v = u
  · subst e; simp [hitB]
  · simp [e, show v < u + 1 ↔ v < u by omega]
theorem imgTo_yes {f : Nat → Nat} {s u t : Nat} (hu : u < 16) (h1 : s.testBit t = true) (h2 : f t = u) : withN (imgTo f s u t) u = imgTo f s u (t + 1) := setB_add hu fun v _ => by
  rw [anyB_succ]
  by_cases e : v = u
  · subst e; simp [h1, h2]
  · simp [e]
theorem imgTo_no {f : Nat → Nat} {s u t : Nat} (h : ¬ (s.testBit t = true ∧ f t = u)) : imgTo f s u t = imgTo f s u (t + 1) := setB_congr fun v _ => by
  rw [anyB_succ]
  have : (s.testBit t && f t == u) = false := by
    cases hb : s.testBit t
    · rfl
    · have : ¬ f t = u := fun e => h ⟨hb, e⟩
      simp [this]
  rw [this, Bool.or_false]

set_option maxHeartbeats 4000000 in
theorem rrSet_any (f : Nat → Nat) (s : Nat) (hf : MapOk f) (hs : s < 65536) (w : World) :
    Calls Tryd.prog 99 #[.agg (mapC f), .int .u16 s] w fun e w' => e = .returned (.int .u16 (imgN f s : Nat)) ∧ Below w.heap.size w w' := by
  have hB0 := below_one w (.cells (mapC f) 43)
  have r0 := Row.new w f
  have HZ := Lib.hid (imgTo_zero f s)
  have HA := Lib.hid (imgTo_all f s)
  go_enter Tryd.func99, Tryd.ntmps99
  go_wp2_with fail
  generalize (w.alloc _ : World) = w1 at *
  go_loop [5, 6] (fun o i => ∃ u : Nat, u ≤ 16 ∧ i = .int .i64 u ∧ o = .int .u16 (imgTo f s u 0 : Nat)) (fun _ i => 16 - (intOf i).toNat)
  case atStart => exact ⟨0, by omega, rfl, by rw [HZ.out]; rfl⟩
  case round =>
    obtain ⟨u, hu, rfl, rfl⟩ := hrel
    by_cases hlu : u < 16
    · have HN := Lib.hid (imgTo_next f s u)
      go_wp2_with fail
      go_loop [5, 7] (fun o i => ∃ t : Nat, t ≤ 16 ∧ i = .int .i64 t ∧ o = .int .u16 (imgTo f s u t : Nat)) (fun _ i => 16 - (intOf i).toNat)
      case atStart => exact ⟨0, by omega, rfl, rfl⟩
      case round =>
        obtain ⟨t, ht, rfl, rfl⟩ := hrel
        by_cases hlt : t < 16
        · have hL := imgTo_lt f s u t
          have c0 := r0.cell hlt
          have hft := hf t hlt
          cases hb : s.testBit t
          · have HB := Lib.hid (show hasB (s : Int) (t : Int) = false by simpa [hasB] using hb)
            have HS := Lib.hid (imgTo_no (f := f) (s := s) (u := u) (t := t) fun h => by rw [hb] at h; cases h.1)
            generalize imgTo f s u t = S at *
            clear hb
            go_wp2_with fail
            refine (rHas_has s t false hs HB.out _).mono ?_
            rintro e w' ⟨rfl, rfl⟩
            go_wp2_with fail
            go_round
            case rel => exact ⟨t + 1, by omega, by go_num, by rw [HS.out]⟩
            case measure => simp [intOf]; omega
          · have HB := Lib.hid (show hasB (s : Int) (t : Int) = true by simpa [hasB] using hb)
            by_cases he : f t = u
            · have HS := Lib.hid (imgTo_yes (f := f) (s := s) (t := t) hlu hb he)
              generalize imgTo f s u t = S at *
              generalize f t = x at *
              obtain rfl : x = u := he
              clear hb
              go_wp2_with fail
              refine (rHas_has s t true hs HB.out _).mono ?_
              rintro e w' ⟨rfl, rfl⟩
              go_wp2_with fail
              refine (rWith_yes S x _ hL (by omega) (by omega)).mono ?_
              rintro e w' ⟨rfl, rfl⟩
              go_wp2_with fail
              go_round
              case rel => exact ⟨t + 1, by omega, by go_num, by rw [← HS.out]⟩
              case measure => simp [intOf]; omega
            · have HS := Lib.hid (imgTo_no (f := f) (s := s) (u := u) (t := t) fun h => he h.2)
              generalize imgTo f s u t = S at *
              generalize f t = x at *
              have dm : ((x : Int) == (u : Int)) = false := by simp; omega
              clear hb
              go_wp2_with fail
              refine (rHas_has s t true hs HB.out _).mono ?_
              rintro e w' ⟨rfl, rfl⟩
              go_wp2_with fail
              go_round
              case rel => exact ⟨t + 1, by omega, by go_num, by rw [HS.out]⟩
              case measure => simp [intOf]; omega
        · have HK := Lib.hid (show t = 16 by omega)
          go_wp2_with fail
          go_round
          case rel => exact ⟨u + 1, by omega, by go_num, by rw [HK.out, HN.out]⟩
          case measure => simp [intOf]; omega
    · have HK := Lib.hid (show u = 16 by omega)
      go_wp2_with fail
      go_ret
      exact ⟨by rw [HK.out, HA.out]; rfl, hB0⟩

end Go.Proofs.YthpangacpihclaaDoor

/-! RelE -/
namespace Go.Proofs.YthpangacpihclaaDoor
open Go.RowKit Go.Shelf

attribute [local go_sem] Oper.semAt_some

theorem ofL_lt0 (t : Int) : ofL 0 [t] < 65536 := ofL_lt (by decide) _
theorem ofL_bit (t u : Nat) : (ofL 0 [(t : Int)]).testBit u = (decide (t < 16) && t == u) := by
  by_cases h : t < 16
  · rw [ofL_one h, pw, Nat.testBit_two_pow]
    by_cases e : t = u
    · subst e; simp [h]
    · simp [e]
  · rw [ofL_none h]; simp [h]
theorem mem_tagsN {s t : Nat} : t ∈ tagsN s ↔ t < 16 ∧ s.testBit t = true := mem_tagsTo s 16 t
/-- The image of some tags. -/
def imgL (f : Nat → Nat) (l : List Nat) : Nat := setB fun v => l.any fun t => f t == v
theorem imgL_lt (f : Nat → Nat) (l : List Nat) : imgL f l < 65536 := setB_lt _
theorem imgL_nil (f : Nat → Nat) : imgL f [] = 0 := setB_zero fun _ _ => rfl
theorem imgL_snoc (f : Nat → Nat) (l : List Nat) (x : Nat) : imgL f l ||| ofL 0 [(f x : Int)] = imgL f (l ++ [x]) := eq_setB (or_lt (imgL_lt _ _) (ofL_lt0 _)) fun u hu => by
  rw [Nat.testBit_or, ofL_bit]
  unfold imgL
  rw [setB_bit, List.any_append]
  by_cases e : f x = u
  · simp [hu, e]
  · have e2 : (f x == u) = false := by simpa using e
    simp [hu, e2]
theorem imgL_tags (f : Nat → Nat) (s : Nat) : imgL f (tagsN s) = imgN f s := setB_congr fun v _ => by
  unfold hitB anyB
  rw [Bool.eq_iff_iff, List.any_eq_true, List.any_eq_true]
  constructor
  · rintro ⟨t, ht, h⟩
    have := mem_tagsN.1 ht
    exact ⟨t, List.mem_range.2 this.1, by simp [this.2]; simpa using h⟩
  · rintro ⟨t, ht, h⟩
    simp at h
    exact ⟨t, mem_tagsN.2 ⟨List.mem_range.1 ht, h.1⟩, by simpa using h.2⟩

theorem row_own {β : Type} (b : Nat) (f : Nat → Nat) : Own (fun (_ : β) W => Row W b f) := fun _ X Y row hs hg hrow => by
  unfold Row at *
  refine (hg.block b (Array.getElem?_eq_some_iff.1 hs).1 ?_).trans hs
  intro e
  obtain ⟨o, ho, hc⟩ := hrow b e.symm
  rw [hs] at ho
  cases ho
  cases hc

theorem ints_one_drew (W : World) (a : Int) : IntsAt (W.alloc (.cells #[.int .i64 a] 3)).drew (.slice (some ⟨W.heap.size, 0, none⟩) 1 1) [a] := ints_one W a

set_option maxRecDepth 100000 in
set_option maxHeartbeats 2000000 in
theorem Set_in (n : Nat) (hn : 3 ≤ n) (f : Nat → Nat) (hf : MapOk f) (s : Nat) (hs : s < 65536) (w : World) (hT : Tab32 w) (hg : 0 < w.heap.size) :
    CallsIn Fence.wide n Tryd.prog 100 #[.agg (mapC f), .int .u16 s] w fun e W' => e = .returned (.int .u16 (imgN f s : Nat)) ∧ Below w.heap.size w W' := by
  have h1 : 1 ≤ n := by omega
  have HT := Lib.hid hT
  clear hT
  refine callsIn_of_wp_marks Tryd.func100 rfl trivial ?_ rfl
  simp only [Tryd.ntmps100, List.size_toArray, List.length_cons, List.length_nil, Nat.reduceAdd, Nat.reduceSub, Array.replicate_succ, Array.replicate_zero, List.push_toArray, List.append_toArray, List.nil_append, List.cons_append]
  gi_wp2_with (refine ⟨trivial, ?_⟩; gi_at_call 89; refine (Each_in _ (n - 1) _).mono ?_; rintro e w' ⟨rfl, rfl⟩)
  have rM := (((Row.new w f).alloc (.cells #[.int .u16 0] 22)).alloc (.cells #[.int .u16 s] 22))
  have bI := Boxed.new (w.alloc (.cells (mapC f) 43)) 22 (.int .u16 0)
  have bN := Boxed.new ((w.alloc (.cells (mapC f) 43)).alloc (.cells #[.int .u16 0] 22)) 22 (.int .u16 s)
  simp only [World.size_alloc] at bI bN
  have hB0 : Below w.heap.size w (((w.alloc (.cells (mapC f) 43)).alloc (.cells #[.int .u16 0] 22)).alloc (.cells #[.int .u16 s] 22)) := (((Below.refl _ w).alloc (Nat.le_refl _) _).alloc (by simp) _).alloc (by simp; omega) _
  refine wpIn_rangeFunc_ownG rfl h1 (gf := 96) (lb := #[.pointer (some ⟨w.heap.size + 1 + 1, 0, none⟩)]) rfl trivial (enters_of Tryd.func96 (by kernel_rfl) rfl)
    (Each_stops (n - 1) (by omega) (w.heap.size + 1 + 1) w.heap.size s hs _ (by simp) (by simp; omega) hg bN.cell (HT.out.below hB0 hg)) belowK_t (belowK_b (by simp; omega)) (Below.refl _ _) (fun _ => rfl)
    (fun pre W => (Boxed W (w.heap.size + 1) 22 (.int .u16 (imgL f (valsF pre) : Nat)) ∧ Row W w.heap.size f) ∧ Below w.heap.size w W)
    (fun _ _ _ => False)
    (OwnFrom.and (OwnFrom.and (Own.from (boxed_own (w.heap.size + 1) 22 (fun pre : List (Fin 16) => .int .u16 (imgL f (valsF pre) : Nat))) _) (Own.from (row_own _ f) _)) (ownFrom_below (Nat.le_refl _) (by simp; omega)))
    (fun _ _ _ _ _ hs _ _ => hs)
    ⟨⟨by rw [show imgL f (valsF []) = 0 from imgL_nil f]; exact bI.alloc _, rM⟩, hB0⟩
    (fun x => { tmps := #[.agg (mapC f), .int .u16 s, .pointer (some ⟨w.heap.size, 0, none⟩), undef, .int .u16 0, .pointer (some ⟨w.heap.size + 1, 0, none⟩), .int .i64 (x.val : Int), .int .u16 s, .func (.func 96) #[] #[.pointer (some ⟨w.heap.size + 1 + 1, 0, none⟩)], .int .i64 (x.val : Int), undef, undef, undef, undef, undef, undef, undef, undef, undef], defers := [] }) ?assign ?body ?done ?stop
  case assign =>
    intro l x W K hK
    simp only [encT]
    gi_wp2
    exact hK
  case body =>
    rintro l pre x W ⟨⟨hv, hr⟩, hB⟩ hlt
    have hc := hv.cell
    have hf0 := hv.frozen
    have hca := fun o => (hv.alloc o).cell
    have hfa := fun o => (hv.alloc o).frozen
    have hx := x.isLt
    have cm := hr.cell hx
    have hfx := hf x.val hx
    have hSl := imgL_lt f (valsF pre)
    have HS := Lib.hid (imgL_snoc f (valsF pre) x.val)
    have HO := Lib.hid (u16_or_nat (imgL f (valsF pre)) (ofL 0 [(f x.val : Int)]) hSl (ofL_lt0 _))
    have HV := Lib.hid hv
    have HR := Lib.hid hr
    clear hv hr
    generalize imgL f (valsF pre) = S at *
    generalize f x.val = y at *
    have hI := fun V => ints_one_drew V (y : Int)
    have hd1 : 1 ≤ n - 1 - 1 := by omega
    have hwy : IntKind.i64.wrap (y : Int) = (y : Int) := by simp [IntKind.wrap, IntKind.bits, IntKind.signed]; omega
    have HI := Lib.hid hI
    clear hI
    gi_wp2
    gi_region_with (refine ⟨trivial, ?_⟩; refine (CallsIn.inRound l (callsIn_wide.2 (Of_any _ [(y : Int)] _ (HI.out _)))).mono ?_; rintro e w0 ⟨rfl, rfl⟩)
    all_goals
      have hBx : Below w.heap.size W ((W.alloc (.cells #[.int .i64 (y : Int)] 3)).setCell ⟨w.heap.size + 1, 0, none⟩ (.int .u16 (bits .or .u16 (S : Int) (ofL 0 [(y : Int)] : Nat)))).drew := (((Below.refl _ W).alloc hB.size _).setCell (by simp) _).drew
      have hBy : Boxed ((W.alloc (.cells #[.int .i64 (y : Int)] 3)).setCell ⟨w.heap.size + 1, 0, none⟩ (.int .u16 (bits .or .u16 (S : Int) (ofL 0 [(y : Int)] : Nat)))).drew (w.heap.size + 1) 22 (.int .u16 (bits .or .u16 (S : Int) (ofL 0 [(y : Int)] : Nat))) := (HV.out.alloc _).set _
      exact ⟨(((KeepsOthers.alloc W _).trans (KeepsOthers.setCell _ _ _)).trans (KeepsOthers.drew _)).from _, hBx, ⟨by rw [valsF_snoc, ← HS.out, ← HO.out]; exact hBy, (HR.out.alloc _).set_other (by simp) _⟩, hB.trans hBx⟩
  case done =>
    rintro D ys W hD hys ⟨⟨hv, hr⟩, hB⟩ hK
    have hc := hv.cell
    have HI := Lib.hid (show imgL f (valsF ys) = imgN f s by rw [hys]; exact imgL_tags f s)
    clear hys
    gi_wp2
    refine ⟨by simp, .inl ⟨_, _, rfl, run_takeDeferred hK, ?_⟩⟩
    exact ⟨_, results_tmp rfl _ _ _, by rw [HI.out]; rfl, hB.trans (belowK_b (w := w) (Nat.le_refl _) W D _ _ (by simp at hD; omega) hK rfl rfl)⟩
  case stop =>
    rintro D c pre W _ _ h _
    exact h.elim

theorem rlSet_any (f : Nat → Nat) (hf : MapOk f) (s : Nat) (hs : s < 65536) (w : World) (hT : TabOk w) :
    Calls Tryd.prog 100 #[.agg (mapC f), .int .u16 s] w fun e w' => e = .returned (.int .u16 (imgN f s : Nat)) ∧ Below w.heap.size w w' :=
  callsIn_wide.1 (Set_in 3 (Nat.le_refl _) f hf s hs w hT.1 hT.2)

end Go.Proofs.YthpangacpihclaaDoor

/-! RelF -/
namespace Go.Proofs.YthpangacpihclaaDoor
open Go.RowKit

set_option maxRecDepth 100000 in
set_option maxHeartbeats 4000000 in
theorem rlLabel_any (f : Nat → Nat) (a b : Nat) (hf : MapOk f) (ha : a < 65536) (hb : b < 65536) (w : World) (hT : TabOk w) :
    Calls Tryd.prog 98 #[.agg (mapC f), .agg #[.int .u16 a, .int .u16 b]] w fun e w' => e = .returned (.agg #[.int .u16 (imgN f a : Nat), .int .u16 (imgN f b : Nat)]) ∧ Below w.heap.size w w' := by
  have T0 := Lib.hid (show Held w [(w.heap.size + 1 + 1, pairO (.int .u16 0) (.int .u16 0)), (w.heap.size + 1, pairO (.int .u16 (a : Nat)) (.int .u16 (b : Nat))), (w.heap.size, rowO f)] (((w.alloc (rowO f)).alloc (pairO (.int .u16 (a : Nat)) (.int .u16 (b : Nat)))).alloc (pairO (.int .u16 0) (.int .u16 0))) from by simpa only [World.size_alloc] using (((Held.nil w).alloc (rowO f)).alloc (pairO (.int .u16 (a : Nat)) (.int .u16 (b : Nat)))).alloc (pairO (.int .u16 0) (.int .u16 0)))
  have HC := Lib.hid (fun V (hV : Below w.heap.size w V) => rlSet_any f hf a ha V (hT.below hV))
  have HD := Lib.hid (fun V (hV : Below w.heap.size w V) => rlSet_any f hf b hb V (hT.below hV))
  clear hf hT
  go_enter Tryd.func98, Tryd.ntmps98
  go_wp2_with fail
  change Hid (Held w _ (((w.alloc (.cells (mapC f) 43)).alloc (.cells #[.int .u16 (a : Nat), .int .u16 (b : Nat)] 24)).alloc (.cells #[.int .u16 0, .int .u16 0] 24))) at T0
  generalize (((w.alloc (.cells (mapC f) 43)).alloc (.cells #[.int .u16 (a : Nat), .int .u16 (b : Nat)] 24)).alloc (.cells #[.int .u16 0, .int .u16 0] 24) : World) = w0 at *
  refine wp_region_factsT 9 1 (Held w [(w.heap.size + 1 + 1, pairO (.int .u16 0) (.int .u16 0)), (w.heap.size + 1, pairO (.int .u16 (a : Nat)) (.int .u16 (b : Nat))), (w.heap.size, rowO f)]) [Fact.is (.agg (mapC f)), Fact.is (.pointer (some ⟨w.heap.size + 1, 0, none⟩)), Fact.is (.int .u16 (a : Nat)), Fact.is (.int .u16 (imgN f a : Nat)), Fact.is (.agg (mapC f)), Fact.is (.pointer (some ⟨w.heap.size + 1, 1, none⟩)), Fact.is (.int .u16 (b : Nat)), Fact.is (.int .u16 (imgN f b : Nat)), Fact.is (.agg #[.int .u16 (imgN f a : Nat), .int .u16 (imgN f b : Nat)])] []
    (fun x => { tmps := #[.agg (mapC f), .agg #[.int .u16 (a : Nat), .int .u16 (b : Nat)], .pointer (some ⟨w.heap.size, 0, none⟩), .pointer (some ⟨w.heap.size + 1, 0, none⟩), .pointer (some ⟨w.heap.size + 1 + 1, 0, none⟩), x 0, x 1, x 2, x 3, x 4, x 5, x 6, x 7, x 8], defers := [] }) (fun _ => undef) (by kernel_rfl) rfl rfl (by kernel_rfl) (by kernel_rfl) (T0.out.drew) (fun u v hu hB => hu.step hB) ?_ ?_
  · simp only [List.take_succ_cons, List.take_zero]
    refine ⟨⟨fun x v => rfl, fun x V hC hD => ?_⟩, ?_⟩
    · clear hD
      refine want_yes rfl ?_
      have k0 : Row V (w.heap.size) f := hC.at 2 rfl
      exact leads_value (exec_load_map rfl rfl k0) ⟨Below.refl _ _, rfl, fun h => absurd h (by simp)⟩
    refine ⟨⟨fun x v => rfl, fun x V hC hD => ?_⟩, ?_⟩
    · clear hD
      refine want_yes rfl ?_
      exact leads_value (by go_simp) ⟨Below.refl _ _, rfl, fun h => absurd h (by simp)⟩
    refine ⟨⟨fun x v => rfl, fun x V hC hD => ?_⟩, ?_⟩
    · have e1 : x 1 = .pointer (some ⟨w.heap.size + 1, 0, none⟩) := hD.1 rfl
      clear hD
      refine want_yes rfl ?_
      have kp : Pair V (w.heap.size + 1) (.int .u16 (a : Nat)) (.int .u16 (b : Nat)) := hC.at 1 rfl
      have k0 := kp.cell0
      exact leads_value (by go_simp) ⟨Below.refl _ _, rfl, fun h => absurd h (by simp)⟩
    refine ⟨⟨fun x v => rfl, fun x V hC hD => ?_⟩, ?_⟩
    · have e0 : x 0 = .agg (mapC f) := hD.1 rfl
      have e2 : x 2 = .int .u16 (a : Nat) := hD.2.1 rfl
      clear hD
      refine want_yes rfl ?_
      exact leads_enter (by go_simp) (HC.out V hC.below) fun w'' hB => ⟨hB, rfl, fun h => absurd h (by simp)⟩
    refine ⟨⟨fun x v => rfl, fun x V hC hD => ?_⟩, ?_⟩
    · clear hD
      refine want_yes rfl ?_
      have k0 : Row V (w.heap.size) f := hC.at 2 rfl
      exact leads_value (exec_load_map rfl rfl k0) ⟨Below.refl _ _, rfl, fun h => absurd h (by simp)⟩
    refine ⟨⟨fun x v => rfl, fun x V hC hD => ?_⟩, ?_⟩
    · clear hD
      refine want_yes rfl ?_
      exact leads_value (by go_simp) ⟨Below.refl _ _, rfl, fun h => absurd h (by simp)⟩
    refine ⟨⟨fun x v => rfl, fun x V hC hD => ?_⟩, ?_⟩
    · have e5 : x 5 = .pointer (some ⟨w.heap.size + 1, 1, none⟩) := hD.1 rfl
      clear hD
      refine want_yes rfl ?_
      have kp : Pair V (w.heap.size + 1) (.int .u16 (a : Nat)) (.int .u16 (b : Nat)) := hC.at 1 rfl
      have k0 := kp.cell1
      exact leads_value (by go_simp) ⟨Below.refl _ _, rfl, fun h => absurd h (by simp)⟩
    refine ⟨⟨fun x v => rfl, fun x V hC hD => ?_⟩, ?_⟩
    · have e4 : x 4 = .agg (mapC f) := hD.1 rfl
      have e6 : x 6 = .int .u16 (b : Nat) := hD.2.1 rfl
      have e3 : x 3 = .int .u16 (imgN f a : Nat) := hD.2.2.1 rfl
      clear hD
      refine want_yes rfl ?_
      exact leads_enter (by go_simp) (HD.out V hC.below) fun w'' hB => ⟨hB, rfl, fun h => absurd h (by simp)⟩
    refine ⟨⟨fun x v => rfl, fun x V hC hD => ?_⟩, ?_⟩
    · have e3 : x 3 = .int .u16 (imgN f a : Nat) := hD.1 rfl
      have e7 : x 7 = .int .u16 (imgN f b : Nat) := hD.2.1 rfl
      clear hD
      refine want_yes rfl ?_
      exact leads_value (by go_simp) ⟨Below.refl _ _, rfl, fun h => absurd h (by simp)⟩
    trivial
  · intro x W hF
    simp only [List.drop_succ_cons, List.drop_zero]
    have e8 : x 8 = .agg #[.int .u16 (imgN f a : Nat), .int .u16 (imgN f b : Nat)] := hF.fact 8 (by decide) rfl
    have kp : Pair W (w.heap.size + 1 + 1) (.int .u16 0) (.int .u16 0) := hF.c.at 0 rfl
    have HT := Lib.hid hF.c.below
    clear hF
    rw [e8]
    clear e8
    have k2 := kp.free0
    have k3 := kp.free1
    have k4 := kp.cell0
    have k5 := kp.cell1
    have KP := Lib.hid kp
    clear kp
    go_wp2_with fail
    have r0 := (KP.out.set0 (.int .u16 (imgN f a : Nat))).cell0
    have r1 := ((KP.out.set0 (.int .u16 (imgN f a : Nat))).set1 (.int .u16 (imgN f b : Nat))).cell1
    exact bodyPost_ret (v := .agg #[.int .u16 (imgN f a : Nat), .int .u16 (imgN f b : Nat)]) (by simp [results, Tryd.results98, go_sem, r0, r1]) rfl ⟨rfl, (HT.out.setCell (by simp <;> omega) _).setCell (by simp <;> omega) _⟩

set_option maxRecDepth 100000 in
set_option maxHeartbeats 4000000 in
theorem rrLabel_any (f : Nat → Nat) (a b : Nat) (hf : MapOk f) (ha : a < 65536) (hb : b < 65536) (w : World) :
    Calls Tryd.prog 94 #[.agg (mapC f), .agg #[.int .u16 a, .int .u16 b]] w fun e w' => e = .returned (.agg #[.int .u16 (imgN f a : Nat), .int .u16 (imgN f b : Nat)]) ∧ Below w.heap.size w w' := by
  have T0 := Lib.hid (show Held w [(w.heap.size + 1 + 1, pairO (.int .u16 0) (.int .u16 0)), (w.heap.size + 1, pairO (.int .u16 (a : Nat)) (.int .u16 (b : Nat))), (w.heap.size, rowO f)] (((w.alloc (rowO f)).alloc (pairO (.int .u16 (a : Nat)) (.int .u16 (b : Nat)))).alloc (pairO (.int .u16 0) (.int .u16 0))) from by simpa only [World.size_alloc] using (((Held.nil w).alloc (rowO f)).alloc (pairO (.int .u16 (a : Nat)) (.int .u16 (b : Nat)))).alloc (pairO (.int .u16 0) (.int .u16 0)))
  have HC := Lib.hid (fun V (_ : Below w.heap.size w V) => rrSet_any f a hf ha V)
  have HD := Lib.hid (fun V (_ : Below w.heap.size w V) => rrSet_any f b hf hb V)
  clear hf
  go_enter Tryd.func94, Tryd.ntmps94
  go_wp2_with fail
  change Hid (Held w _ (((w.alloc (.cells (mapC f) 43)).alloc (.cells #[.int .u16 (a : Nat), .int .u16 (b : Nat)] 24)).alloc (.cells #[.int .u16 0, .int .u16 0] 24))) at T0
  generalize (((w.alloc (.cells (mapC f) 43)).alloc (.cells #[.int .u16 (a : Nat), .int .u16 (b : Nat)] 24)).alloc (.cells #[.int .u16 0, .int .u16 0] 24) : World) = w0 at *
  refine wp_region_factsT 9 1 (Held w [(w.heap.size + 1 + 1, pairO (.int .u16 0) (.int .u16 0)), (w.heap.size + 1, pairO (.int .u16 (a : Nat)) (.int .u16 (b : Nat))), (w.heap.size, rowO f)]) [Fact.is (.agg (mapC f)), Fact.is (.pointer (some ⟨w.heap.size + 1, 0, none⟩)), Fact.is (.int .u16 (a : Nat)), Fact.is (.int .u16 (imgN f a : Nat)), Fact.is (.agg (mapC f)), Fact.is (.pointer (some ⟨w.heap.size + 1, 1, none⟩)), Fact.is (.int .u16 (b : Nat)), Fact.is (.int .u16 (imgN f b : Nat)), Fact.is (.agg #[.int .u16 (imgN f a : Nat), .int .u16 (imgN f b : Nat)])] []
    (fun x => { tmps := #[.agg (mapC f), .agg #[.int .u16 (a : Nat), .int .u16 (b : Nat)], .pointer (some ⟨w.heap.size, 0, none⟩), .pointer (some ⟨w.heap.size + 1, 0, none⟩), .pointer (some ⟨w.heap.size + 1 + 1, 0, none⟩), x 0, x 1, x 2, x 3, x 4, x 5, x 6, x 7, x 8], defers := [] }) (fun _ => undef) (by kernel_rfl) rfl rfl (by kernel_rfl) (by kernel_rfl) (T0.out.drew) (fun u v hu hB => hu.step hB) ?_ ?_
  · simp only [List.take_succ_cons, List.take_zero]
    refine ⟨⟨fun x v => rfl, fun x V hC hD => ?_⟩, ?_⟩
    · clear hD
      refine want_yes rfl ?_
      have k0 : Row V (w.heap.size) f := hC.at 2 rfl
      exact leads_value (exec_load_map rfl rfl k0) ⟨Below.refl _ _, rfl, fun h => absurd h (by simp)⟩
    refine ⟨⟨fun x v => rfl, fun x V hC hD => ?_⟩, ?_⟩
    · clear hD
      refine want_yes rfl ?_
      exact leads_value (by go_simp) ⟨Below.refl _ _, rfl, fun h => absurd h (by simp)⟩
    refine ⟨⟨fun x v => rfl, fun x V hC hD => ?_⟩, ?_⟩
    · have e1 : x 1 = .pointer (some ⟨w.heap.size + 1, 0, none⟩) := hD.1 rfl
      clear hD
      refine want_yes rfl ?_
      have kp : Pair V (w.heap.size + 1) (.int .u16 (a : Nat)) (.int .u16 (b : Nat)) := hC.at 1 rfl
      have k0 := kp.cell0
      exact leads_value (by go_simp) ⟨Below.refl _ _, rfl, fun h => absurd h (by simp)⟩
    refine ⟨⟨fun x v => rfl, fun x V hC hD => ?_⟩, ?_⟩
    · have e0 : x 0 = .agg (mapC f) := hD.1 rfl
      have e2 : x 2 = .int .u16 (a : Nat) := hD.2.1 rfl
      clear hD
      refine want_yes rfl ?_
      exact leads_enter (by go_simp) (HC.out V hC.below) fun w'' hB => ⟨hB, rfl, fun h => absurd h (by simp)⟩
    refine ⟨⟨fun x v => rfl, fun x V hC hD => ?_⟩, ?_⟩
    · clear hD
      refine want_yes rfl ?_
      have k0 : Row V (w.heap.size) f := hC.at 2 rfl
      exact leads_value (exec_load_map rfl rfl k0) ⟨Below.refl _ _, rfl, fun h => absurd h (by simp)⟩
    refine ⟨⟨fun x v => rfl, fun x V hC hD => ?_⟩, ?_⟩
    · clear hD
      refine want_yes rfl ?_
      exact leads_value (by go_simp) ⟨Below.refl _ _, rfl, fun h => absurd h (by simp)⟩
    refine ⟨⟨fun x v => rfl, fun x V hC hD => ?_⟩, ?_⟩
    · have e5 : x 5 = .pointer (some ⟨w.heap.size + 1, 1, none⟩) := hD.1 rfl
      clear hD
      refine want_yes rfl ?_
      have kp : Pair V (w.heap.size + 1) (.int .u16 (a : Nat)) (.int .u16 (b : Nat)) := hC.at 1 rfl
      have k0 := kp.cell1
      exact leads_value (by go_simp) ⟨Below.refl _ _, rfl, fun h => absurd h (by simp)⟩
    refine ⟨⟨fun x v => rfl, fun x V hC hD => ?_⟩, ?_⟩
    · have e4 : x 4 = .agg (mapC f) := hD.1 rfl
      have e6 : x 6 = .int .u16 (b : Nat) := hD.2.1 rfl
      have e3 : x 3 = .int .u16 (imgN f a : Nat) := hD.2.2.1 rfl
      clear hD
      refine want_yes rfl ?_
      exact leads_enter (by go_simp) (HD.out V hC.below) fun w'' hB => ⟨hB, rfl, fun h => absurd h (by simp)⟩
    refine ⟨⟨fun x v => rfl, fun x V hC hD => ?_⟩, ?_⟩
    · have e3 : x 3 = .int .u16 (imgN f a : Nat) := hD.1 rfl
      have e7 : x 7 = .int .u16 (imgN f b : Nat) := hD.2.1 rfl
      clear hD
      refine want_yes rfl ?_
      exact leads_value (by go_simp) ⟨Below.refl _ _, rfl, fun h => absurd h (by simp)⟩
    trivial
  · intro x W hF
    simp only [List.drop_succ_cons, List.drop_zero]
    have e8 : x 8 = .agg #[.int .u16 (imgN f a : Nat), .int .u16 (imgN f b : Nat)] := hF.fact 8 (by decide) rfl
    have kp : Pair W (w.heap.size + 1 + 1) (.int .u16 0) (.int .u16 0) := hF.c.at 0 rfl
    have HT := Lib.hid hF.c.below
    clear hF
    rw [e8]
    clear e8
    have k2 := kp.free0
    have k3 := kp.free1
    have k4 := kp.cell0
    have k5 := kp.cell1
    have KP := Lib.hid kp
    clear kp
    go_wp2_with fail
    have r0 := (KP.out.set0 (.int .u16 (imgN f a : Nat))).cell0
    have r1 := ((KP.out.set0 (.int .u16 (imgN f a : Nat))).set1 (.int .u16 (imgN f b : Nat))).cell1
    exact bodyPost_ret (v := .agg #[.int .u16 (imgN f a : Nat), .int .u16 (imgN f b : Nat)]) (by simp [results, Tryd.results94, go_sem, r0, r1]) rfl ⟨rfl, (HT.out.setCell (by simp <;> omega) _).setCell (by simp <;> omega) _⟩

end Go.Proofs.YthpangacpihclaaDoor

/-! RelG -/
namespace Go.Proofs.YthpangacpihclaaDoor
open Go.RowKit

/-- In the world w the slice v holds just these pairs. -/
def PairsAt (w : World) (v : Value) (l : List (Int × Int)) : Prop :=
  ∃ p cap, v = .slice p l.length cap ∧ l.length ≤ 70368744177664 ∧ l.length ≤ cap ∧ (l ≠ [] → ∃ b off, p = some ⟨b, off, none⟩ ∧ b < w.heap.size ∧ ∀ i, (h : i < l.length) → w.cell? ⟨b, off + i * 2, none⟩ = some (.int .i64 l[i].1) ∧ w.cell? ⟨b, off + i * 2 + 1, none⟩ = some (.int .i64 l[i].2))
/-- What a call of Move hands back as a map. -/
def stepF (f : Nat → Nat) (a b : Int) : Nat → Nat := if mayB f a b then moveF f a.toNat b.toNat else fun _ => 0
def errN (f : Nat → Nat) (a b : Int) : Int := if mayB f a b then 0 else 8
theorem step_yes {f : Nat → Nat} {a b : Int} (h : mayB f a b = true) : stepF f a b = moveF f a.toNat b.toNat := by unfold stepF; rw [if_pos h]
theorem step_no {f : Nat → Nat} {a b : Int} (h : mayB f a b = false) : stepF f a b = fun _ => 0 := by unfold stepF; rw [if_neg (by rw [h]; decide)]
theorem err_yes {f : Nat → Nat} {a b : Int} (h : mayB f a b = true) : errN f a b = 0 := by unfold errN; rw [if_pos h]
theorem err_no {f : Nat → Nat} {a b : Int} (h : mayB f a b = false) : errN f a b = 8 := by unfold errN; rw [if_neg (by rw [h]; decide)]
theorem rrMove_any (f : Nat → Nat) (a b : Int) (hf : fineB f = true) (w : World) :
    Calls Tryd.prog 71 #[.agg (mapC f), .int .i64 a, .int .i64 b] w fun e w' => e = .returned (.tuple #[.agg (mapC (stepF f a b)), .bool (mayB f a b)]) ∧ Below w.heap.size w w' := by
  cases h : mayB f a b
  · rw [step_no h]; exact rrMove_no f a b (fine_ok hf) h w
  · rw [step_yes h]
    obtain ⟨h1, -, h3, -⟩ := mayB_iff.1 h
    obtain ⟨x, rfl⟩ := Int.eq_ofNat_of_zero_le h1
    obtain ⟨y, rfl⟩ := Int.eq_ofNat_of_zero_le h3
    exact rrMove_yes f x y (fine_ok hf) h w
theorem rlMove_any (f : Nat → Nat) (a b : Int) (hf : fineB f = true) (w : World) :
    Calls Tryd.prog 47 #[.agg (mapC f), .int .i64 a, .int .i64 b] w fun e w' => e = .returned (.tuple #[.agg (mapC (stepF f a b)), .int .i64 (errN f a b)]) ∧ Below w.heap.size w w' := by
  cases h : mayB f a b
  · rw [step_no h, err_no h]; exact rlMove_no f a b (fine_ok hf) h w
  · rw [step_yes h, err_yes h]
    obtain ⟨h1, -, h3, -⟩ := mayB_iff.1 h
    obtain ⟨x, rfl⟩ := Int.eq_ofNat_of_zero_le h1
    obtain ⟨y, rfl⟩ := Int.eq_ofNat_of_zero_le h3
    exact rlMove_yes f x y hf h w
theorem take_snocP {α : Type} (l : List α) (k : Nat) (h : k < l.length) : l.take (k + 1) = l.take k ++ [l[k]] := List.take_succ_eq_append_getElem h
theorem made_next {l : List (Int × Int)} {k : Nat} (h : k < l.length) (f : Nat → Nat) : madeF f (l.take (k + 1)) = if mayB (madeF f (l.take k)) l[k].1 l[k].2 then moveF (madeF f (l.take k)) l[k].1.toNat l[k].2.toNat else madeF f (l.take k) := by
  rw [take_snocP l k h, madeF_snoc]

set_option maxRecDepth 100000 in
set_option maxHeartbeats 8000000 in
theorem rrMade_any (v : Value) (l : List (Int × Int)) (hl : l.length ≤ 41) (w : World) (h : PairsAt w v l) :
    Calls Tryd.prog 48 #[v] w fun e w' => e = .returned (.agg (mapC (madeF idF l))) ∧ Below w.heap.size w w' := by
  obtain ⟨p, cap, rfl, hm, hcap, hc⟩ := h
  have HC := Lib.hid hc
  clear hc
  have HR0 := Lib.hid ((Held.nil w).alloc (.cells (mapC fun _ => 0) 43))
  go_enter Tryd.func48, Tryd.ntmps48
  go_wp2_with fail
  refine (rrSame_any _).mono ?_
  rintro e w1 ⟨rfl, hB1⟩
  have HR1 := Lib.hid ((HR0.out.step hB1).alloc (.cells (mapC fun _ => 0) 43))
  have hs1 : w.heap.size < w1.heap.size := by have := hB1.size; simp at this; omega
  have r1 := Row.zero w1
  clear HR0 hB1
  go_wp2_with (with_reducible refine wpList_store_map rfl rfl _ _ rfl rfl rfl r1 ?_; intro w2 hw2)
  have HR2 := Lib.hid ((show Held w [(w.heap.size, rowO fun _ => 0)] _ from ⟨HR1.out.below, fun x hx => HR1.out.all x (by simp at hx; simp [hx, rowO])⟩).wrote hw2 (by omega) (by intro x hx; simp at hx; rw [hx]; show w.heap.size ≠ w1.heap.size; omega) |>.add (show w2.heap[w1.heap.size]? = some (rowO idF) from hw2.row))
  clear r1 HR1 hw2
  go_loopw [4] (fun i wr => ∃ k : Nat, k ≤ l.length ∧ i = .int .i64 k ∧ Held w [(w1.heap.size, rowO (madeF idF (l.take k))), (w.heap.size, rowO fun _ => 0)] wr) (fun i _ => l.length - (intOf i).toNat)
  case atStart => exact ⟨0, by omega, rfl, HR2.out⟩
  case round =>
    obtain ⟨k, hk, rfl, hH⟩ := hrel
    have hFf := madeF_fine (l := l.take k) fine_id
    by_cases hlt : k < l.length
    · obtain ⟨b, off, rfl, hb, hcs⟩ := HC.out (by intro e; rw [e] at hlt; simp at hlt)
      obtain ⟨e0, e1⟩ := hcs k hlt
      clear hcs
      have HN := Lib.hid (made_next hlt idF)
      generalize madeF idF (l.take k) = F at *
      generalize l[k] = q at *
      have HC0 := Lib.hid (fun V (hV : Below w.heap.size w V) => (hV.cell (p := ⟨b, off + k * 2, none⟩) hb).trans e0)
      have HC1 := Lib.hid (fun V (hV : Below w.heap.size w V) => (hV.cell (p := ⟨b, off + k * 2 + 1, none⟩) hb).trans e1)
      have HM := Lib.hid (fun V => rrMove_any F q.1 q.2 hFf V)
      have T0 := Lib.hid hH
      have hk41 : k < 41 := by omega
      clear e0 e1 hH hFf
      go_wp2_with fail
      refine wp_region_M [.val (.agg (mapC F)), .val (.slice (some ⟨b, off, none⟩) l.length cap), .val (.int .i64 (k : Int)), .val (.pointer (some ⟨b, off + k * 2, none⟩)), .val (.pointer (some ⟨b, off + k * 2, none⟩)), .val (.int .i64 q.1), .val (.slice (some ⟨b, off, none⟩) l.length cap), .val (.int .i64 (k : Int)), .val (.pointer (some ⟨b, off + k * 2, none⟩)), .val (.pointer (some ⟨b, off + k * 2 + 1, none⟩)), .val (.int .i64 q.2), .val (.tuple #[.agg (mapC (stepF F q.1 q.2)), .bool (mayB F q.1 q.2)]), .val (.tuple #[.agg (mapC (stepF F q.1 q.2)), .bool (mayB F q.1 q.2)]), .val (.agg (mapC (stepF F q.1 q.2))), .val (.bool (mayB F q.1 q.2)), .mk (rowO fun _ => 0) 16 (rowO (stepF F q.1 q.2)), .st 15, .val (.bool (mayB F q.1 q.2))]
        (fun x => { tmps := #[.slice (some ⟨b, off, none⟩) l.length cap, undef, .pointer (some ⟨w.heap.size, 0, none⟩), .pointer (some ⟨w1.heap.size, 0, none⟩), .int .i64 (k : Int), x 15, x 17, .agg (mapC idF), .int .i64 (k : Int), .slice (some ⟨b, off, none⟩) l.length cap, .int .i64 (l.length : Int), .bool true, u12, u13, x 12, x 0, x 1, x 2, x 3, x 4, x 5, x 6, x 7, x 8, x 9, x 10, x 11, x 13, x 14, u29, u30, undef], defers := [] }) (fun i => ([u15, u16, u17, u18, u19, u20, u21, u22, u23, u24, u25, u26, u14, u27, u28, u5, undef, u6] : List Value).getD i undef) (by kernel_rfl) rfl rfl rfl (by kernel_rfl) ?_ ?_
      · refine ⟨ObM.of_val rfl (fun x v => rfl) (fun x V hC hD => ?_), ?_⟩
        · clear hD
          have hH := T0.out.drew.step hC
          refine want_yes rfl ?_
          have k0 : Row V (w1.heap.size) F := hH.at 0 rfl
          exact leads_value (exec_load_map rfl rfl k0) ⟨rfl, Below.refl _ _⟩
        refine ⟨ObM.of_val rfl (fun x v => rfl) (fun x V hC hD => ?_), ?_⟩
        · clear hD
          have hH := T0.out.drew.step hC
          refine want_yes rfl ?_
          exact leads_value (v := .slice (some ⟨b, off, none⟩) l.length cap) (by go_simp) ⟨rfl, Below.refl _ _⟩
        refine ⟨ObM.of_val rfl (fun x v => rfl) (fun x V hC hD => ?_), ?_⟩
        · clear hD
          have hH := T0.out.drew.step hC
          refine want_yes rfl ?_
          exact leads_value (v := .int .i64 (k : Int)) (by go_simp) ⟨rfl, Below.refl _ _⟩
        refine ⟨ObM.of_val rfl (fun x v => rfl) (fun x V hC hD => ?_), ?_⟩
        · have e1 : x 1 = .slice (some ⟨b, off, none⟩) l.length cap := hD.1 _ rfl rfl
          have e2 : x 2 = .int .i64 (k : Int) := hD.2.1 _ rfl rfl
          clear hD
          have hH := T0.out.drew.step hC
          refine want_yes rfl ?_
          exact leads_value (v := .pointer (some ⟨b, off + k * 2, none⟩)) (by go_simp) ⟨rfl, Below.refl _ _⟩
        refine ⟨ObM.of_val rfl (fun x v => rfl) (fun x V hC hD => ?_), ?_⟩
        · have e3 : x 3 = .pointer (some ⟨b, off + k * 2, none⟩) := hD.1 _ rfl rfl
          clear hD
          have hH := T0.out.drew.step hC
          refine want_yes rfl ?_
          exact leads_value (v := .pointer (some ⟨b, off + k * 2, none⟩)) (by go_simp) ⟨rfl, Below.refl _ _⟩
        refine ⟨ObM.of_val rfl (fun x v => rfl) (fun x V hC hD => ?_), ?_⟩
        · have e4 : x 4 = .pointer (some ⟨b, off + k * 2, none⟩) := hD.1 _ rfl rfl
          clear hD
          have hH := T0.out.drew.step hC
          refine want_yes rfl ?_
          have k0 := HC0.out V hH.below
          exact leads_value (v := .int .i64 q.1) (by go_simp) ⟨rfl, Below.refl _ _⟩
        refine ⟨ObM.of_val rfl (fun x v => rfl) (fun x V hC hD => ?_), ?_⟩
        · clear hD
          have hH := T0.out.drew.step hC
          refine want_yes rfl ?_
          exact leads_value (v := .slice (some ⟨b, off, none⟩) l.length cap) (by go_simp) ⟨rfl, Below.refl _ _⟩
        refine ⟨ObM.of_val rfl (fun x v => rfl) (fun x V hC hD => ?_), ?_⟩
        · clear hD
          have hH := T0.out.drew.step hC
          refine want_yes rfl ?_
          exact leads_value (v := .int .i64 (k : Int)) (by go_simp) ⟨rfl, Below.refl _ _⟩
        refine ⟨ObM.of_val rfl (fun x v => rfl) (fun x V hC hD => ?_), ?_⟩
        · have e6 : x 6 = .slice (some ⟨b, off, none⟩) l.length cap := hD.1 _ rfl rfl
          have e7 : x 7 = .int .i64 (k : Int) := hD.2.1 _ rfl rfl
          clear hD
          have hH := T0.out.drew.step hC
          refine want_yes rfl ?_
          exact leads_value (v := .pointer (some ⟨b, off + k * 2, none⟩)) (by go_simp) ⟨rfl, Below.refl _ _⟩
        refine ⟨ObM.of_val rfl (fun x v => rfl) (fun x V hC hD => ?_), ?_⟩
        · have e8 : x 8 = .pointer (some ⟨b, off + k * 2, none⟩) := hD.1 _ rfl rfl
          clear hD
          have hH := T0.out.drew.step hC
          refine want_yes rfl ?_
          exact leads_value (v := .pointer (some ⟨b, off + k * 2 + 1, none⟩)) (by go_simp) ⟨rfl, Below.refl _ _⟩
        refine ⟨ObM.of_val rfl (fun x v => rfl) (fun x V hC hD => ?_), ?_⟩
        · have e9 : x 9 = .pointer (some ⟨b, off + k * 2 + 1, none⟩) := hD.1 _ rfl rfl
          clear hD
          have hH := T0.out.drew.step hC
          refine want_yes rfl ?_
          have k0 := HC1.out V hH.below
          exact leads_value (v := .int .i64 q.2) (by go_simp) ⟨rfl, Below.refl _ _⟩
        refine ⟨ObM.of_val rfl (fun x v => rfl) (fun x V hC hD => ?_), ?_⟩
        · have e0 : x 0 = .agg (mapC F) := hD.1 _ rfl rfl
          have e5 : x 5 = .int .i64 q.1 := hD.2.1 _ rfl rfl
          have e10 : x 10 = .int .i64 q.2 := hD.2.2.1 _ rfl rfl
          clear hD
          have hH := T0.out.drew.step hC
          refine want_yes rfl ?_
          exact leads_enter (by go_simp) (HM.out V) fun w'' hB => ⟨rfl, hB⟩
        refine ⟨ObM.of_val rfl (fun x v => rfl) (fun x V hC hD => ?_), ?_⟩
        · have e11 : x 11 = .tuple #[.agg (mapC (stepF F q.1 q.2)), .bool (mayB F q.1 q.2)] := hD.1 _ rfl rfl
          clear hD
          have hH := T0.out.drew.step hC
          refine want_yes rfl ?_
          exact leads_value (v := .tuple #[.agg (mapC (stepF F q.1 q.2)), .bool (mayB F q.1 q.2)]) (by go_simp) ⟨rfl, Below.refl _ _⟩
        refine ⟨ObM.of_val rfl (fun x v => rfl) (fun x V hC hD => ?_), ?_⟩
        · have e12 : x 12 = .tuple #[.agg (mapC (stepF F q.1 q.2)), .bool (mayB F q.1 q.2)] := hD.1 _ rfl rfl
          clear hD
          have hH := T0.out.drew.step hC
          refine want_yes rfl ?_
          exact leads_value (v := .agg (mapC (stepF F q.1 q.2))) (by go_simp) ⟨rfl, Below.refl _ _⟩
        refine ⟨ObM.of_val rfl (fun x v => rfl) (fun x V hC hD => ?_), ?_⟩
        · have e12 : x 12 = .tuple #[.agg (mapC (stepF F q.1 q.2)), .bool (mayB F q.1 q.2)] := hD.1 _ rfl rfl
          clear hD
          have hH := T0.out.drew.step hC
          refine want_yes rfl ?_
          exact leads_value (v := .bool (mayB F q.1 q.2)) (by go_simp) ⟨rfl, Below.refl _ _⟩
        refine ⟨ObM.of_mk rfl (fun x v => rfl) rfl (fun x V => ?_), ?_⟩
        · exact leads_value (by go_simp) ⟨rfl, below_one _ _, by simp, Row.zero V⟩
        refine ⟨ObM.of_st rfl rfl (fun x v => rfl) rfl (by kernel_rfl) (fun x V g hC hx hg hD => ?_), ?_⟩
        · have e13 : x 13 = .agg (mapC (stepF F q.1 q.2)) := hD.2.1 _ rfl rfl
          have e11 : x 11 = .tuple #[.agg (mapC (stepF F q.1 q.2)), .bool (mayB F q.1 q.2)] := hD.2.2.1 _ rfl rfl
          have e0 : x 0 = .agg (mapC F) := hD.2.2.2.1 _ rfl rfl
          have e1 : x 1 = .slice (some ⟨b, off, none⟩) l.length cap := hD.2.2.2.2.1 _ rfl rfl
          have e2 : x 2 = .int .i64 (k : Int) := hD.2.2.2.2.2.1 _ rfl rfl
          have e3 : x 3 = .pointer (some ⟨b, off + k * 2, none⟩) := hD.2.2.2.2.2.2.1 _ rfl rfl
          have e4 : x 4 = .pointer (some ⟨b, off + k * 2, none⟩) := hD.2.2.2.2.2.2.2.1 _ rfl rfl
          have e5 : x 5 = .int .i64 q.1 := hD.2.2.2.2.2.2.2.2.1 _ rfl rfl
          have e6 : x 6 = .slice (some ⟨b, off, none⟩) l.length cap := hD.2.2.2.2.2.2.2.2.2.1 _ rfl rfl
          have e7 : x 7 = .int .i64 (k : Int) := hD.2.2.2.2.2.2.2.2.2.2.1 _ rfl rfl
          have e8 : x 8 = .pointer (some ⟨b, off + k * 2, none⟩) := hD.2.2.2.2.2.2.2.2.2.2.2.1 _ rfl rfl
          have e9 : x 9 = .pointer (some ⟨b, off + k * 2 + 1, none⟩) := hD.2.2.2.2.2.2.2.2.2.2.2.2.1 _ rfl rfl
          have e10 : x 10 = .int .i64 q.2 := hD.2.2.2.2.2.2.2.2.2.2.2.2.2.1 _ rfl rfl
          have e12 : x 12 = .tuple #[.agg (mapC (stepF F q.1 q.2)), .bool (mayB F q.1 q.2)] := hD.2.2.2.2.2.2.2.2.2.2.2.2.2.2.2.1 _ rfl rfl
          clear hD
          have hH := T0.out.drew.step hC
          exact leads_store_row rfl hx e13 hg (infoMapC _) (by rw [mapC_size, mapC_size]) (mapC_one _)
        refine ⟨ObM.of_val rfl (fun x v => rfl) (fun x V hC hD => ?_), ?_⟩
        · have e14 : x 14 = .bool (mayB F q.1 q.2) := hD.1 _ rfl rfl
          have e0 : x 0 = .agg (mapC F) := hD.2.2.1 _ rfl rfl
          have e1 : x 1 = .slice (some ⟨b, off, none⟩) l.length cap := hD.2.2.2.1 _ rfl rfl
          have e2 : x 2 = .int .i64 (k : Int) := hD.2.2.2.2.1 _ rfl rfl
          have e3 : x 3 = .pointer (some ⟨b, off + k * 2, none⟩) := hD.2.2.2.2.2.1 _ rfl rfl
          have e4 : x 4 = .pointer (some ⟨b, off + k * 2, none⟩) := hD.2.2.2.2.2.2.1 _ rfl rfl
          have e5 : x 5 = .int .i64 q.1 := hD.2.2.2.2.2.2.2.1 _ rfl rfl
          have e6 : x 6 = .slice (some ⟨b, off, none⟩) l.length cap := hD.2.2.2.2.2.2.2.2.1 _ rfl rfl
          have e7 : x 7 = .int .i64 (k : Int) := hD.2.2.2.2.2.2.2.2.2.1 _ rfl rfl
          have e8 : x 8 = .pointer (some ⟨b, off + k * 2, none⟩) := hD.2.2.2.2.2.2.2.2.2.2.1 _ rfl rfl
          have e9 : x 9 = .pointer (some ⟨b, off + k * 2 + 1, none⟩) := hD.2.2.2.2.2.2.2.2.2.2.2.1 _ rfl rfl
          have e10 : x 10 = .int .i64 q.2 := hD.2.2.2.2.2.2.2.2.2.2.2.2.1 _ rfl rfl
          have e11 : x 11 = .tuple #[.agg (mapC (stepF F q.1 q.2)), .bool (mayB F q.1 q.2)] := hD.2.2.2.2.2.2.2.2.2.2.2.2.2.1 _ rfl rfl
          have e12 : x 12 = .tuple #[.agg (mapC (stepF F q.1 q.2)), .bool (mayB F q.1 q.2)] := hD.2.2.2.2.2.2.2.2.2.2.2.2.2.2.1 _ rfl rfl
          have e13 : x 13 = .agg (mapC (stepF F q.1 q.2)) := hD.2.2.2.2.2.2.2.2.2.2.2.2.2.2.2.1 _ rfl rfl
          clear hD
          have hH := T0.out.drew.step hC
          refine want_yes rfl ?_
          exact leads_value (v := .bool (mayB F q.1 q.2)) (by go_simp) ⟨rfl, Below.refl _ _⟩
        trivial
      · intro x W hF
        obtain ⟨-, hg1, hg2⟩ := hF.made 15 _ _ _ (by simp) rfl rfl
        have e17 : x 17 = .bool (mayB F q.1 q.2) := hF.val 17 _ (by simp) rfl rfl
        have hg3 : Row W (blkOf (x 15)) (stepF F q.1 q.2) := hg2
        have HT := Lib.hid (T0.out.drew.step hF.below)
        clear hF hg2
        generalize blkOf (x 15) = g at *
        rw [hg1, e17]
        clear hg1 e17
        cases hmB : mayB F q.1 q.2
        · have HN2 := Lib.hid (show madeF idF (l.take (k + 1)) = F by rw [HN.out, hmB]; rfl)
          clear hmB hg3
          go_wp2_with fail
          go_roundw
          case rel => exact ⟨k + 1, by omega, by go_num, by rw [HN2.out]; exact HT.out⟩
          case measure => simp [intOf]; omega
        · have HN2 := Lib.hid (show madeF idF (l.take (k + 1)) = stepF F q.1 q.2 by rw [HN.out, hmB, step_yes hmB]; rfl)
          clear hmB
          have hr : Row W w1.heap.size F := HT.out.at 0 rfl
          go_wp2_with (first | (with_reducible refine wpList_load_map rfl _ rfl rfl hg3 ?_) | (with_reducible refine wpList_store_map rfl rfl _ _ rfl rfl rfl hr ?_; intro w3 hw3))
          go_roundw
          case rel => exact ⟨k + 1, by omega, by go_num, by rw [HN2.out]; exact (HT.out.drop.wrote hw3 (by omega) (by intro x hx; simp at hx; rw [hx]; show w.heap.size ≠ w1.heap.size; omega)).add hw3.row⟩
          case measure => simp [intOf]; omega
    · have HK := Lib.hid (show l.take k = l from List.take_of_length_le (by omega))
      have hr0 : Row wr w1.heap.size (madeF idF (l.take k)) := hH.at 0 rfl
      have hr1 : Row wr w.heap.size (fun _ => 0) := hH.at 1 rfl
      have HH := Lib.hid hH
      clear hH
      rw [HK.out] at hr0
      go_wp2_with (first | (with_reducible refine wpList_load_map rfl _ rfl rfl hr0 ?_) | (with_reducible refine wpList_store_map rfl rfl _ _ rfl rfl rfl hr1 ?_; intro w3 hw3))
      exact bodyPost_ret (v := .agg (mapC (madeF idF l))) (results_map rfl rfl hw3.row) rfl ⟨rfl, HH.out.below.trans (hw3.below _ (Nat.le_refl _))⟩

end Go.Proofs.YthpangacpihclaaDoor

/-! GraM -/
namespace Go.Proofs.YthpangacpihclaaDoor

/-- Does a act at once for b, within W? -/
def edgeB (f : Nat → Nat) (W a b : Nat) : Bool := W.testBit a && W.testBit b && (f a).testBit b
/-- a acts for b within W. -/
inductive Rch (f : Nat → Nat) (W : Nat) : Nat → Nat → Prop
  | refl {a : Nat} : W.testBit a = true → Rch f W a a
  | step {a b c : Nat} : Rch f W a b → edgeB f W b c = true → Rch f W a c
theorem edge_both {f : Nat → Nat} {W a b : Nat} (h : edgeB f W a b = true) : W.testBit a = true ∧ W.testBit b = true ∧ (f a).testBit b = true := by
  unfold edgeB at h; simpa [and_assoc] using h
theorem Rch.both {f : Nat → Nat} {W a b : Nat} (h : Rch f W a b) : W.testBit a = true ∧ W.testBit b = true := by
  induction h with
  | refl h => exact ⟨h, h⟩
  | step _ h2 ih => exact ⟨ih.1, (edge_both h2).2.1⟩
theorem Rch.trans {f : Nat → Nat} {W a b c : Nat} (h : Rch f W a b) (k : Rch f W b c) : Rch f W a c := by
  induction k with
  | refl _ => exact h
  | step _ h2 ih => exact .step ih h2
theorem Rch.one {f : Nat → Nat} {W a b : Nat} (h : edgeB f W a b = true) : Rch f W a b := .step (.refl (edge_both h).1) h
theorem Rch.ahead {f : Nat → Nat} {W a b c : Nat} (h : edgeB f W a b = true) (k : Rch f W b c) : Rch f W a c := (Rch.one h).trans k
theorem Rch.mono {f g : Nat → Nat} {W V a b : Nat} (he : ∀ x y, edgeB f W x y = true → edgeB g V x y = true) (hw : ∀ x, W.testBit x = true → V.testBit x = true) (h : Rch f W a b) : Rch g V a b := by
  induction h with
  | refl h => exact .refl (hw _ h)
  | step _ h2 ih => exact .step ih (he _ _ h2)

/-! How many bits are set. -/
def cntB (a : Nat) : Nat → Nat
  | 0 => 0
  | n + 1 => cntB a n + if a.testBit n then 1 else 0
theorem cntB_le (a n : Nat) : cntB a n ≤ n := by
  induction n with
  | zero => exact Nat.le_refl _
  | succ n ih => unfold cntB; split <;> omega
theorem cntB_mono {a b : Nat} (h : ∀ t, a.testBit t = true → b.testBit t = true) (n : Nat) : cntB a n ≤ cntB b n := by
  induction n with
  | zero => exact Nat.le_refl _
  | succ n ih =>
    unfold cntB
    by_cases ha : a.testBit n = true
    · rw [if_pos ha, if_pos (h n ha)]; omega
    · rw [if_neg ha]; omega
theorem cntB_lt {a b : Nat} (h : ∀ t, a.testBit t = true → b.testBit t = true) {n t : Nat} (ht : t < n) (hb : b.testBit t = true) (ha : a.testBit t = false) : cntB a n < cntB b n := by
  induction n with
  | zero => omega
  | succ n ih =>
    unfold cntB
    by_cases e : t = n
    · subst e
      rw [if_pos hb, if_neg (by rw [ha]; simp)]
      have := cntB_mono h t
      omega
    · have := ih (by omega)
      by_cases ha2 : a.testBit n = true
      · rw [if_pos ha2, if_pos (h n ha2)]; omega
      · rw [if_neg ha2]; omega
theorem cntB_pos {a n t : Nat} (ht : t < n) (h : a.testBit t = true) : 0 < cntB a n := by
  induction n with
  | zero => omega
  | succ n ih =>
    unfold cntB
    by_cases e : t = n
    · subst e; rw [if_pos h]; omega
    · have := ih (by omega); omega

/-! The document's walk, round by round. -/
def stepG (f : Nat → Nat) (W o a b : Nat) : Nat := if o.testBit a && edgeB f W a b then withN o b else o
def rowG (f : Nat → Nat) (W o a : Nat) : Nat → Nat
  | 0 => o
  | k + 1 => stepG f W (rowG f W o a k) a k
def sweepG (f : Nat → Nat) (W o : Nat) : Nat → Nat
  | 0 => o
  | k + 1 => rowG f W (sweepG f W o k) k 16
def downG (f : Nat → Nat) (W o : Nat) : Nat → Nat
  | 0 => o
  | k + 1 => sweepG f W (downG f W o k) 16
def downN (f : Nat → Nat) (s W : Nat) : Nat := downG f W (s &&& W) 16
def turnG (f : Nat → Nat) (b : Nat) : Nat → Nat
  | 0 => 0
  | k + 1 => if (f k).testBit b then withN (turnG f b k) k else turnG f b k
def cutF (f : Nat → Nat) (W a : Nat) : Nat := if W.testBit a then f a &&& W else 0

/-! What each step keeps. -/
def subT (a b : Nat) : Prop := ∀ t, a.testBit t = true → b.testBit t = true
theorem step_sub (f : Nat → Nat) (W o a b : Nat) : subT o (stepG f W o a b) := by
  intro t h
  unfold stepG
  split
  · rw [withN_bit, h]; rfl
  · exact h
theorem row_sub (f : Nat → Nat) (W o a k : Nat) : subT o (rowG f W o a k) := by
  induction k with
  | zero => exact fun t h => h
  | succ k ih => exact fun t h => step_sub f W _ a k t (ih t h)
theorem sweep_sub (f : Nat → Nat) (W o k : Nat) : subT o (sweepG f W o k) := by
  induction k with
  | zero => exact fun t h => h
  | succ k ih => exact fun t h => row_sub f W _ k 16 t (ih t h)
theorem down_sub (f : Nat → Nat) (W o k : Nat) : subT o (downG f W o k) := by
  induction k with
  | zero => exact fun t h => h
  | succ k ih => exact fun t h => sweep_sub f W _ 16 t (ih t h)
theorem sweep_more (f : Nat → Nat) (W o : Nat) {j k : Nat} (h : j ≤ k) : subT (sweepG f W o j) (sweepG f W o k) := by
  induction k with
  | zero => obtain rfl : j = 0 := by omega
            exact fun t h => h
  | succ k ih =>
    by_cases e : j = k + 1
    · subst e; exact fun t h => h
    · exact fun t ht => row_sub f W _ k 16 t (ih (by omega) t ht)
theorem row_more (f : Nat → Nat) (W o a : Nat) {j k : Nat} (h : j ≤ k) : subT (rowG f W o a j) (rowG f W o a k) := by
  induction k with
  | zero => obtain rfl : j = 0 := by omega
            exact fun t h => h
  | succ k ih =>
    by_cases e : j = k + 1
    · subst e; exact fun t h => h
    · exact fun t ht => step_sub f W _ a k t (ih (by omega) t ht)
theorem stepG_lt {f : Nat → Nat} {W o a b : Nat} (ho : o < 65536) (hb : b < 16) : stepG f W o a b < 65536 := by
  unfold stepG; split
  · exact withN_lt ho hb
  · exact ho
theorem rowG_lt {f : Nat → Nat} {W o a : Nat} (ho : o < 65536) {k : Nat} (hk : k ≤ 16) : rowG f W o a k < 65536 := by
  induction k with
  | zero => exact ho
  | succ k ih => exact stepG_lt (ih (by omega)) (by omega)
theorem sweepG_lt {f : Nat → Nat} {W o : Nat} (ho : o < 65536) (k : Nat) : sweepG f W o k < 65536 := by
  induction k with
  | zero => exact ho
  | succ k ih => exact rowG_lt ih (Nat.le_refl _)
theorem downG_lt {f : Nat → Nat} {W o : Nat} (ho : o < 65536) (k : Nat) : downG f W o k < 65536 := by
  induction k with
  | zero => exact ho
  | succ k ih => exact sweepG_lt ih 16
theorem downN_lt (f : Nat → Nat) {s : Nat} (W : Nat) (hs : s < 65536) : downN f s W < 65536 := downG_lt (and_lt W hs) 16
theorem cutF_lt {f : Nat → Nat} {a : Nat} (W : Nat) (h : f a < 65536) : cutF f W a < 65536 := by
  unfold cutF; split
  · exact and_lt W h
  · decide

/-! What is reached. -/
/-- Each is reached from one of s. -/
def soundG (f : Nat → Nat) (s W o : Nat) : Prop := ∀ c, o.testBit c = true → ∃ a, s.testBit a = true ∧ Rch f W a c
theorem step_sound {f : Nat → Nat} {s W o a b : Nat} (h : soundG f s W o) : soundG f s W (stepG f W o a b) := by
  intro c hc
  unfold stepG at hc
  split at hc
  · rename_i he
    simp only [Bool.and_eq_true] at he
    rw [withN_bit, Bool.or_eq_true, decide_eq_true_eq] at hc
    rcases hc with hc | rfl
    · exact h c hc
    · obtain ⟨x, h1, h2⟩ := h a he.1
      exact ⟨x, h1, .step h2 he.2⟩
  · exact h c hc
theorem row_sound {f : Nat → Nat} {s W o a : Nat} (h : soundG f s W o) (k : Nat) : soundG f s W (rowG f W o a k) := by
  induction k with
  | zero => exact h
  | succ k ih => exact step_sound ih
theorem sweep_sound {f : Nat → Nat} {s W o : Nat} (h : soundG f s W o) (k : Nat) : soundG f s W (sweepG f W o k) := by
  induction k with
  | zero => exact h
  | succ k ih => exact row_sound ih 16
theorem down_sound {f : Nat → Nat} {s W o : Nat} (h : soundG f s W o) (k : Nat) : soundG f s W (downG f W o k) := by
  induction k with
  | zero => exact h
  | succ k ih => exact sweep_sound ih 16
def closedG (f : Nat → Nat) (W o : Nat) : Prop := ∀ a b, o.testBit a = true → edgeB f W a b = true → o.testBit b = true
theorem step_closed {f : Nat → Nat} {W o a b : Nat} (h : closedG f W o) : stepG f W o a b = o := by
  unfold stepG
  split
  · rename_i he
    simp only [Bool.and_eq_true] at he
    exact withN_same (h a b he.1 he.2)
  · rfl
theorem row_closed {f : Nat → Nat} {W o a : Nat} (h : closedG f W o) (k : Nat) : rowG f W o a k = o := by
  induction k with
  | zero => rfl
  | succ k ih => show stepG f W (rowG f W o a k) a k = o; rw [ih]; exact step_closed h
theorem sweep_closed {f : Nat → Nat} {W o : Nat} (h : closedG f W o) (k : Nat) : sweepG f W o k = o := by
  induction k with
  | zero => rfl
  | succ k ih => show rowG f W (sweepG f W o k) k 16 = o; rw [ih]; exact row_closed h 16
/-- A sweep takes each step from what was there. -/
theorem sweep_steps {f : Nat → Nat} {W o a b : Nat} (ha : a < 16) (hb : b < 16) (ho : o.testBit a = true) (he : edgeB f W a b = true) : (sweepG f W o 16).testBit b = true := by
  refine sweep_more f W o (show a + 1 ≤ 16 by omega) b ?_
  show (rowG f W (sweepG f W o a) a 16).testBit b = true
  refine row_more f W (sweepG f W o a) a (show b + 1 ≤ 16 by omega) b ?_
  show (stepG f W (rowG f W (sweepG f W o a) a b) a b).testBit b = true
  have h1 : (rowG f W (sweepG f W o a) a b).testBit a = true := row_sub f W _ a b a (sweep_sub f W o a a ho)
  unfold stepG
  rw [if_pos (by rw [h1, he]; rfl), withN_bit]
  simp
theorem down_close {f : Nat → Nat} {W o : Nat} (hW : W < 65536) (h0 : ∃ t, t < 16 ∧ o.testBit t = true) (i : Nat) : closedG f W (downG f W o i) ∨ i + 1 ≤ cntB (downG f W o i) 16 := by
  induction i with
  | zero =>
    obtain ⟨t, h1, h2⟩ := h0
    exact .inr (cntB_pos h1 h2)
  | succ i ih =>
    by_cases hc : closedG f W (downG f W o i)
    · exact .inl (by show closedG f W (sweepG f W (downG f W o i) 16); rw [sweep_closed hc]; exact hc)
    · right
      have hi := ih.resolve_left hc
      unfold closedG at hc
      obtain ⟨a, hc⟩ := Classical.not_forall.1 hc
      obtain ⟨b, hc⟩ := Classical.not_forall.1 hc
      simp only [Classical.not_imp] at hc
      obtain ⟨h1, h2, h3⟩ := hc
      have he := edge_both h2
      have hb : b < 16 := bit_lt hW he.2.1
      have := cntB_lt (sweep_sub f W (downG f W o i) 16) hb (sweep_steps (bit_lt hW he.1) hb h1 h2) (by simpa using h3)
      show i + 1 + 1 ≤ cntB (sweepG f W (downG f W o i) 16) 16
      omega
/-- Just those that any of s act for. -/
theorem downN_bit {f : Nat → Nat} {s W : Nat} (hW : W < 65536) (c : Nat) : (downN f s W).testBit c = true ↔ ∃ a, s.testBit a = true ∧ Rch f W a c := by
  constructor
  · refine down_sound (fun c hc => ?_) 16 c
    rw [Nat.testBit_and, Bool.and_eq_true] at hc
    exact ⟨c, hc.1, .refl hc.2⟩
  · rintro ⟨a, ha, hr⟩
    have h0 : (s &&& W).testBit a = true := by rw [Nat.testBit_and, ha, hr.both.1]; rfl
    have hc : closedG f W (downN f s W) := by
      rcases down_close (f := f) hW ⟨a, bit_lt hW hr.both.1, h0⟩ 16 with h | h
      · exact h
      · have := cntB_le (downG f W (s &&& W) 16) 16
        omega
    have hb : (downN f s W).testBit a = true := down_sub f W _ 16 a h0
    induction hr with
    | refl _ => exact hb
    | step _ h2 ih => exact hc _ _ ih h2
theorem one_bit (a t : Nat) : (withN 0 a).testBit t = decide (a = t) := by rw [withN_bit]; simp
theorem cutF_bit (f : Nat → Nat) (W a b : Nat) : (cutF f W a).testBit b = edgeB f W a b := by
  unfold cutF edgeB
  cases W.testBit a with
  | true => rw [if_pos rfl, Nat.testBit_and, Bool.true_and, Bool.and_comm]
  | false => simp
end Go.Proofs.YthpangacpihclaaDoor

/-! GraD -/
namespace Go.Proofs.YthpangacpihclaaDoor

/-- From s, visits of the roles R come to s2: all that they reach within W was seen, or is now, and where something is new all that it acts for is there. -/
structure Vis (f : Nat → Nat) (W s : Nat) (R : Nat → Prop) (s2 : Nat) : Prop where
  sub : subT s s2
  inn : ∀ t, s2.testBit t = true → s.testBit t = true ∨ ∃ r, R r ∧ Rch f W r t
  closed : ∀ u v, s2.testBit u = true → s.testBit u = false → edgeB f W u v = true → s2.testBit v = true
  roots : ∀ r, R r → W.testBit r = true → s2.testBit r = true
theorem Vis.none {f : Nat → Nat} {W s : Nat} {R : Nat → Prop} (h : ∀ r, R r → W.testBit r = true → s.testBit r = true) : Vis f W s R s :=
  ⟨fun _ h => h, fun _ h => .inl h, (fun u v h1 h2 _ => by rw [h1] at h2; cases h2), h⟩
theorem Vis.trans {f : Nat → Nat} {W s s1 s2 : Nat} {R1 R2 : Nat → Prop} (h : Vis f W s R1 s1) (k : Vis f W s1 R2 s2) : Vis f W s (fun r => R1 r ∨ R2 r) s2 := by
  refine ⟨fun t ht => k.sub t (h.sub t ht), fun t ht => ?_, fun u v hu hn he => ?_, fun r hr hw => ?_⟩
  · rcases k.inn t ht with h1 | ⟨r, h1, h2⟩
    · rcases h.inn t h1 with h3 | ⟨r, h3, h4⟩
      · exact .inl h3
      · exact .inr ⟨r, .inl h3, h4⟩
    · exact .inr ⟨r, .inr h1, h2⟩
  · cases h1 : s1.testBit u with
    | true => exact k.sub v (h.closed u v h1 hn he)
    | false => exact k.closed u v hu h1 he
  · rcases hr with hr | hr
    · exact k.sub r (h.roots r hr hw)
    · exact k.roots r hr hw
theorem Vis.roots_iff {f : Nat → Nat} {W s s2 : Nat} {R R' : Nat → Prop} (h : Vis f W s R s2) (hr : ∀ r, R r ↔ R' r) : Vis f W s R' s2 :=
  ⟨h.sub, fun t ht => (h.inn t ht).imp_right fun ⟨r, h1, h2⟩ => ⟨r, (hr r).1 h1, h2⟩, h.closed, fun r h1 h2 => h.roots r ((hr r).2 h1) h2⟩
/-- A role is visited: it is seen, and then all for which it acts at once are visited. -/
theorem Vis.enter {f : Nat → Nat} {W s s2 r : Nat} (hr : W.testBit r = true) (h : Vis f W (withN s r) (fun k => (f r).testBit k = true) s2) : Vis f W s (fun k => k = r) s2 := by
  have hin : s2.testBit r = true := h.sub r (by rw [withN_bit]; simp)
  refine ⟨fun t ht => h.sub t (by rw [withN_bit, ht]; rfl), fun t ht => ?_, fun u v hu hn he => ?_, fun k hk _ => by rw [hk]; exact hin⟩
  · rcases h.inn t ht with h1 | ⟨k, h1, h2⟩
    · rw [withN_bit] at h1
      cases h3 : s.testBit t with
      | true => exact .inl rfl
      | false =>
        rw [h3, Bool.false_or] at h1
        have : r = t := by simpa using h1
        exact .inr ⟨r, rfl, this ▸ .refl hr⟩
    · exact .inr ⟨r, rfl, .ahead (b := k) (by unfold edgeB; rw [hr, h2.both.1, h1]; rfl) h2⟩
  · by_cases e : r = u
    · subst e
      exact h.roots v (edge_both he).2.2 (edge_both he).2.1
    · exact h.closed u v hu (by rw [withN_bit, hn, show decide (r = u) = false by simpa using e]; rfl) he
/-- How many are left. -/
def leftB (s : Nat) : Nat := 16 - cntB s 16
theorem leftB_with {s r : Nat} (hr : r < 16) (hs : s.testBit r = false) : leftB (withN s r) < leftB s := by
  have h1 := cntB_lt (a := s) (b := withN s r) (n := 16) (t := r) (fun t h => by rw [withN_bit, h]; rfl) hr (by rw [withN_bit]; simp) hs
  have h2 := cntB_le (withN s r) 16
  unfold leftB; omega
theorem leftB_sub {s s2 : Nat} (h : subT s s2) : leftB s2 ≤ leftB s := by
  have := cntB_mono h 16
  unfold leftB; omega
/-- All that was seen, from nothing, is what the roles act for. -/
theorem vis_down {f : Nat → Nat} {s W s2 : Nat} (hW : W < 65536) (h : Vis f W 0 (fun r => s.testBit r = true) s2) : s2 = downN f s W := by
  apply Nat.eq_of_testBit_eq
  intro t
  rw [Bool.eq_iff_iff, downN_bit hW]
  constructor
  · intro ht
    rcases h.inn t ht with h1 | h1
    · rw [Nat.zero_testBit] at h1; cases h1
    · exact h1
  · rintro ⟨a, ha, hr⟩
    induction hr with
    | refl h1 => exact h.roots _ ha h1
    | step _ h2 ih => exact h.closed _ _ ih (Nat.zero_testBit _) h2
end Go.Proofs.YthpangacpihclaaDoor

/-! GphA -/
namespace Go.Proofs.YthpangacpihclaaDoor
open Go.RowKit

/-- A graph's cells. -/
def grC (f : Nat → Nat) : Array Value := arrC .u16 16 f
theorem grC_size (f : Nat → Nat) : (grC f).size = 16 := arrC_size _ _ _
theorem grC_get (f : Nat → Nat) {i : Nat} (h : i < 16) : (grC f)[i]? = some (.int .u16 (f i : Nat)) := arrC_get _ f h
theorem grC_congr {f g : Nat → Nat} (h : ∀ t, t < 16 → f t = g t) : grC f = grC g := arrC_congr h
theorem grC_one (f : Nat → Nat) : (grC f).all (·.oneCell') = true := arrC_one _ _ _
theorem zeroGr : (#[.int .u16 0, .int .u16 0, .int .u16 0, .int .u16 0, .int .u16 0, .int .u16 0, .int .u16 0, .int .u16 0, .int .u16 0, .int .u16 0, .int .u16 0, .int .u16 0, .int .u16 0, .int .u16 0, .int .u16 0, .int .u16 0] : Array Value) = grC fun _ => 0 := rfl
def GrOk (f : Nat → Nat) : Prop := ∀ t, t < 16 → f t < 65536
def GRow (w : World) (b : Nat) (f : Nat → Nat) : Prop := Blk w b (grC f) 26
theorem GRow.lt {w : World} {b : Nat} {f : Nat → Nat} (h : GRow w b f) : b < w.heap.size := Blk.lt h
theorem GRow.cell {w : World} {b : Nat} {f : Nat → Nat} (h : GRow w b f) {k : Nat} (hk : k < 16) : w.cell? ⟨b, k, none⟩ = some (.int .u16 (f k : Nat)) := (Blk.cell h k).trans (grC_get f hk)
theorem GRow.free {w : World} {b : Nat} {f : Nat → Nat} (h : GRow w b f) (k : Nat) : w.frozen? ⟨b, k, none⟩ = false := Blk.free h k
theorem GRow.new (w : World) (f : Nat → Nat) : GRow (w.alloc (.cells (grC f) 26)) w.heap.size f := Blk.new w _ _
theorem GRow.zero (w : World) : GRow (w.alloc (.cells #[.int .u16 0, .int .u16 0, .int .u16 0, .int .u16 0, .int .u16 0, .int .u16 0, .int .u16 0, .int .u16 0, .int .u16 0, .int .u16 0, .int .u16 0, .int .u16 0, .int .u16 0, .int .u16 0, .int .u16 0, .int .u16 0] 26)) w.heap.size (fun _ => 0) := Blk.new w _ _
theorem GRow.alloc {w : World} {b : Nat} {f : Nat → Nat} (h : GRow w b f) (o : Obj) : GRow (w.alloc o) b f := Blk.alloc h o
theorem GRow.step {w w' : World} {b : Nat} {f : Nat → Nat} (h : GRow w b f) (hB : Below w.heap.size w w') : GRow w' b f := Blk.below h hB h.lt
theorem GRow.congr {w : World} {b : Nat} {f g : Nat → Nat} (h : GRow w b f) (hc : ∀ t, t < 16 → f t = g t) : GRow w b g := by unfold GRow; rw [← grC_congr hc]; exact h
theorem GRow.set {w : World} {b : Nat} {f : Nat → Nat} (h : GRow w b f) {k : Nat} (hk : k < 16) (v : Nat) : GRow (w.setCell ⟨b, k, none⟩ (.int .u16 (v : Int))) b (setF f k v) := by
  have h1 := Blk.set h k (.int .u16 (v : Int))
  unfold GRow grC at *
  rw [arrC_set .u16 f v hk] at h1
  exact h1
theorem GRow.other {w : World} {b : Nat} {f : Nat → Nat} (h : GRow w b f) {a : Addr} (ha : a.block ≠ b) (u : Value) : GRow (w.setCell a u) b f := Blk.set_other h ha u
theorem infoGr (f : Nat → Nat) : (Tryd.prog.info? 26).map (·.size) = some (grC f).size := by rw [grC_size]; kernel_rfl
theorem wpList_load_gr {ops : Array Oper} {rest : List Oper} {o : Oper} {a : Act} {w : World} {Q : Exit → Act → World → Prop} (hgd : Region.wanted o (yielded ops a.tmps) = true) (x : Operand) (ho : o.op = .load 26 x)
    {b : Nat} {f : Nat → Nat} (hx : a.eval x = .pointer (some ⟨b, 0, none⟩)) (h : GRow w b f) (hK : wpList Tryd.prog ops Q rest (a.put o.dst (.agg (grC f))) w) : wpList Tryd.prog ops Q (o :: rest) a w :=
  wpList_step fun _ hK' => by
    rw [if_pos hgd]
    exact wp_load_row 26 x ho b hx 26 (grC f) (0, 0) _ h Tryd.underlying26 rfl (infoGr f) (hK' _ _ hK)
theorem wpList_store_gr {ops : Array Oper} {rest : List Oper} {o : Oper} {a : Act} {w : World} {Q : Exit → Act → World → Prop} (hgd : o.guard = none) (hd : o.dst = none) (x y : Operand) (ho : o.op = .store 26 x y)
    {b : Nat} {f g : Nat → Nat} (hx : a.eval x = .pointer (some ⟨b, 0, none⟩)) (hy : a.eval y = .agg (grC g)) (h : GRow w b f) (hK : ∀ w', Put w w' b (grC g) 26 → wpList Tryd.prog ops Q rest a w') : wpList Tryd.prog ops Q (o :: rest) a w :=
  wpList_store_arr hgd hd 26 x y ho hx hy h (infoGr g) (by rw [grC_size, grC_size]) (grC_one g) hK
theorem results_gr {fn : Func} {p : Tmp} (h : fn.results = #[.cell p 26]) {tmps : Array Value} {w : World} {b : Nat} {f : Nat → Nat} (hp : tmps.getD p undef = .pointer (some ⟨b, 0, none⟩)) (hr : GRow w b f) : (results fn tmps).run Tryd.prog w = .ok (.agg (grC f)) w :=
  results_arr h hp hr Tryd.underlying26 rfl (infoGr f)

/-- A graph in the middle of a block. -/
theorem run_load_mid {w : World} {g off : Nat} {cs : Array Value} {t : TypeId} {f : Nat → Nat} (hb : Blk w g cs t) (hc : ∀ i, i < 16 → cs[off + i]? = some (.int .u16 (f i : Nat))) :
    (loadVar 26 ⟨g, off, none⟩).run Tryd.prog w = .ok (.agg (grC f)) w := by
  have hl : (loadCells ⟨g, off, none⟩ (grC f).toList.length).run Tryd.prog w = .ok (grC f).toList.toArray w :=
    run_loadCells_list (P := Tryd.prog) w ⟨g, off, none⟩ _ (fun j v hv => by
      have hj : j < 16 := by
        have := (List.getElem?_eq_some_iff.1 hv).1
        rwa [Array.length_toList, grC_size] at this
      have hadd : (⟨g, off, none⟩ : Addr).add j = ⟨g, off + j, none⟩ := by unfold Addr.add; split <;> simp_all
      rw [Array.getElem?_toList, grC_get f hj] at hv
      cases hv
      rw [hadd, hb.cell, hc j hj])
  rw [Array.length_toList, grC_size] at hl
  have hi := infoGr f
  rw [grC_size] at hi
  cases hq : Tryd.prog.info? 26 with
  | none => simp [hq] at hi
  | some i =>
    have hs : i.size = 16 := by simpa [hq] using hi
    have hagg : (isAgg 26).run Tryd.prog w = .ok true w := by
      unfold isAgg
      rw [Sem.run_bind, run_underlying Tryd.underlying26 w]
      rfl
    simp [loadVar, Sem.run_bind, hagg, sizeOf, typeInfo, hq, hs, hl]
theorem exec_load_mid {o : Oper} {a : Act} {w : World} {x : Operand} {b off : Nat} {cs : Array Value} {t : TypeId} {f : Nat → Nat} (ho : o.op = .load 26 x) (hx : a.eval x = .pointer (some ⟨b, off, none⟩)) (hb : Blk w b cs t)
    (hc : ∀ j, j < 16 → cs[off + j]? = some (.int .u16 (f j : Nat))) : (execOp a.eval o).run Tryd.prog w = .ok (.value (.agg (grC f))) w := by
  unfold execOp
  simp only [ho, hx, Instr.loadAt, Instr.sureAddr, Sem.run_bind, Sem.run_pure, Result.andThen_ok, run_load_mid hb hc]
/-! Sets, by their bits. -/
theorem hasB_bit (s a : Nat) : hasB (s : Int) (a : Int) = s.testBit a := by simp [hasB]
theorem gHas_any (s a : Nat) (w : World) (hs : s < 65536) : Calls Tryd.prog 33 #[.int .u16 (s : Int), .int .i64 (a : Int)] w fun e w' => e = .returned (.bool (s.testBit a)) ∧ w = w' := by
  rw [← hasB_bit]; exact rHas_any s a w hs
/-- A graph that stays where it is. -/
structure GW (w : World) (b : Nat) (f : Nat → Nat) (V : World) : Prop where
  below : Below b w V
  row : GRow V b f
  at_ : b = w.heap.size
theorem GW.new (w : World) (f : Nat → Nat) : GW w w.heap.size f (w.alloc (.cells (grC f) 26)) := ⟨belowNew w _, GRow.new w f, rfl⟩
theorem GW.step {w : World} {b : Nat} {f : Nat → Nat} {V V' : World} (h : GW w b f V) (hB : Below V.heap.size V V') : GW w b f V' :=
  ⟨h.below.trans (hB.mono (by rw [h.at_]; exact h.below.size)), h.row.step hB, h.at_⟩
end Go.Proofs.YthpangacpihclaaDoor

/-! GraR -/
namespace Go.Proofs.YthpangacpihclaaDoor
open Go.RowKit

set_option maxHeartbeats 800000 in
theorem raAt_any (f : Nat → Nat) (a b W : Nat) (w : World) (hf : GrOk f) (ha : a < 16) (hW : W < 65536) :
    Calls Tryd.prog 86 #[.agg (grC f), .int .i64 (a : Int), .int .i64 (b : Int), .int .u16 (W : Int)] w fun e w' => e = .returned (.bool (edgeB f W a b)) ∧ Below w.heap.size w w' := by
  have HB := Lib.hid (belowNew w (.cells (grC f) 26))
  have HR := Lib.hid (GRow.new w f)
  have k0 := (GRow.new w f).cell ha
  have H1 := Lib.hid (fun V => gHas_any W a V hW)
  have H2 := Lib.hid (fun V => gHas_any W b V hW)
  have H3 := Lib.hid (fun V => gHas_any (f a) b V (hf a ha))
  have HE := Lib.hid (show edgeB f W a b = (W.testBit a && W.testBit b && (f a).testBit b) from rfl)
  have ha2 : (a : Int) < 16 := by omega
  rw [HE.out]
  clear HE hf hW
  generalize f a = x at *
  cases h1 : W.testBit a with
  | false =>
    rw [h1] at H1
    go_enter Tryd.func86, Tryd.ntmps86
    go_wp2_with fail
    with_reducible refine (H1.out _).mono ?_
    rintro e w1 ⟨rfl, rfl⟩
    go_wp2_with fail
    go_ret
    exact ⟨rfl, HB.out⟩
  | true =>
    rw [h1] at H1
    cases h2 : W.testBit b with
    | false =>
      rw [h2] at H2
      go_enter Tryd.func86, Tryd.ntmps86
      go_wp2_with fail
      with_reducible refine (H1.out _).mono ?_
      rintro e w1 ⟨rfl, rfl⟩
      go_wp2_with fail
      with_reducible refine (H2.out _).mono ?_
      rintro e w1 ⟨rfl, rfl⟩
      go_wp2_with fail
      go_ret
      exact ⟨rfl, HB.out⟩
    | true =>
      rw [h2] at H2
      go_enter Tryd.func86, Tryd.ntmps86
      go_wp2_with fail
      with_reducible refine (H1.out _).mono ?_
      rintro e w1 ⟨rfl, rfl⟩
      go_wp2_with fail
      with_reducible refine (H2.out _).mono ?_
      rintro e w1 ⟨rfl, rfl⟩
      go_wp2_with fail
      with_reducible refine (H3.out _).mono ?_
      rintro e w1 ⟨rfl, rfl⟩
      go_wp2_with fail
      go_ret
      exact ⟨by simp, HB.out⟩
end Go.Proofs.YthpangacpihclaaDoor

/-! GraS -/
namespace Go.Proofs.YthpangacpihclaaDoor
open Go.RowKit

/-! Turn. -/
/-- What is there behind a rows whole, and b places of the next one. -/
def turnT (f : Nat → Nat) (a b t : Nat) : Nat := if t < b then turnG f t (a + 1) else turnG f t a
theorem turnT_no {f : Nat → Nat} {a b : Nat} (h : (f a).testBit b = false) (t : Nat) : turnT f a b t = turnT f a (b + 1) t := by
  unfold turnT
  by_cases e : t = b
  · subst e; rw [if_neg (by omega), if_pos (by omega), turnG, if_neg (by rw [h]; simp)]
  · by_cases h1 : t < b
    · rw [if_pos h1, if_pos (by omega)]
    · rw [if_neg h1, if_neg (by omega)]
/-- A graph, and two arrays of the call's own behind it. -/
structure G3 (w : World) (b : Nat) (f r o : Nat → Nat) (V : World) : Prop where
  gw : GW w b f V
  r : GRow V (b + 1) r
  o : GRow V (b + 2) o
theorem G3.step {w : World} {b : Nat} {f r o : Nat → Nat} {V V' : World} (h : G3 w b f r o V) (hB : Below V.heap.size V V') : G3 w b f r o V' := ⟨h.gw.step hB, h.r.step hB, h.o.step hB⟩
theorem G3.congr {w : World} {b : Nat} {f r o p : Nat → Nat} {V : World} (h : G3 w b f r o V) (hc : ∀ t, t < 16 → o t = p t) : G3 w b f r p V := ⟨h.gw, h.r, h.o.congr hc⟩
theorem G3.set {w : World} {b : Nat} {f r o p : Nat → Nat} {V : World} (h : G3 w b f r o V) {k : Nat} (hk : k < 16) (v : Nat) (hc : ∀ t, t < 16 → setF o k v t = p t) : G3 w b f r p (V.setCell ⟨b + 2, k, none⟩ (.int .u16 (v : Int))) :=
  ⟨⟨h.gw.below.trans (by
      have hc : Chg (fun k => k = b + 2) V (V.setCell ⟨b + 2, k, none⟩ (.int .u16 (v : Int))) := (Chg.refl (fun k => k = b + 2) V).setCell (p := ⟨b + 2, k, none⟩) (fun _ => rfl) _
      exact hc.below (by rw [h.gw.at_]; exact h.gw.below.size) fun j hj => by subst hj; omega), h.gw.row.other (by simp) _, h.gw.at_⟩, h.r.other (by simp) _, (h.o.set hk v).congr hc⟩
theorem G3.new (w : World) (f : Nat → Nat) : G3 w w.heap.size f (fun _ => 0) (fun _ => 0) (((w.alloc (.cells (grC f) 26)).alloc (.cells #[.int .u16 0, .int .u16 0, .int .u16 0, .int .u16 0, .int .u16 0, .int .u16 0, .int .u16 0, .int .u16 0, .int .u16 0, .int .u16 0, .int .u16 0, .int .u16 0, .int .u16 0, .int .u16 0, .int .u16 0, .int .u16 0] 26)).alloc (.cells #[.int .u16 0, .int .u16 0, .int .u16 0, .int .u16 0, .int .u16 0, .int .u16 0, .int .u16 0, .int .u16 0, .int .u16 0, .int .u16 0, .int .u16 0, .int .u16 0, .int .u16 0, .int .u16 0, .int .u16 0, .int .u16 0] 26)) := by
  refine ⟨((GW.new w f).step (belowNew _ _)).step (belowNew _ _), ?_, ?_⟩
  · have h := (GRow.zero (w.alloc (.cells (grC f) 26))).alloc (.cells #[.int .u16 0, .int .u16 0, .int .u16 0, .int .u16 0, .int .u16 0, .int .u16 0, .int .u16 0, .int .u16 0, .int .u16 0, .int .u16 0, .int .u16 0, .int .u16 0, .int .u16 0, .int .u16 0, .int .u16 0, .int .u16 0] 26)
    simp only [World.size_alloc] at h
    exact h
  · have h := GRow.zero ((w.alloc (.cells (grC f) 26)).alloc (.cells #[.int .u16 0, .int .u16 0, .int .u16 0, .int .u16 0, .int .u16 0, .int .u16 0, .int .u16 0, .int .u16 0, .int .u16 0, .int .u16 0, .int .u16 0, .int .u16 0, .int .u16 0, .int .u16 0, .int .u16 0, .int .u16 0] 26))
    simp only [World.size_alloc] at h
    exact h
theorem G3.put {w : World} {b : Nat} {f r o : Nat → Nat} {V V' : World} (h : G3 w b f r o V) (hp : Put V V' (b + 1) (grC o) 26) : Below w.heap.size w V' := by
  have h1 := hp.chg.below (B := b) (by rw [h.gw.at_]; exact h.gw.below.size) fun j hj => by subst hj; omega
  have := h.gw.below.trans h1
  rw [← h.gw.at_]; exact this
/-! Cut. -/
def cutT (f : Nat → Nat) (W a b t : Nat) : Nat := if t < a then cutF f W t else if t = a then lowN (cutF f W a) b else 0
theorem cutT_zero (f : Nat → Nat) (W t : Nat) : cutT f W 0 0 t = 0 := by
  unfold cutT
  rw [if_neg (by omega)]
  split
  · exact lowN_zero _
  · rfl
theorem cutT_all {f : Nat → Nat} {W a : Nat} (h : cutF f W a < 65536) (t : Nat) : cutT f W a 16 t = cutT f W (a + 1) 0 t := by
  unfold cutT
  by_cases e : t = a
  · subst e; rw [if_neg (by omega), if_pos rfl, if_pos (by omega), lowN_all h]
  · by_cases h1 : t < a
    · rw [if_pos h1, if_pos (by omega)]
    · rw [if_neg h1, if_neg e, if_neg (by omega)]
      split
      · exact (lowN_zero _).symm
      · rfl
theorem cutT_no {f : Nat → Nat} {W a b : Nat} (h : (cutF f W a).testBit b = false) (t : Nat) : cutT f W a b t = cutT f W a (b + 1) t := by
  unfold cutT
  rw [lowN_no h]
theorem cutT_yes {f : Nat → Nat} {W a b : Nat} (h : (cutF f W a).testBit b = true) (t : Nat) : setF (cutT f W a b) a (withN (cutT f W a b a) b) t = cutT f W a (b + 1) t := by
  unfold setF cutT
  by_cases e : t = a
  · subst e
    rw [if_pos rfl, if_neg (by omega), if_pos rfl, if_neg (by omega), if_pos rfl, lowN_yes h]
  · rw [if_neg e, if_neg e]
    by_cases h1 : t < a
    · rw [if_pos h1, if_pos h1]
    · rw [if_neg h1, if_neg e, if_neg h1]
set_option maxRecDepth 100000 in
set_option maxHeartbeats 3200000 in
theorem raCut_any (f : Nat → Nat) (W : Nat) (w : World) (hf : GrOk f) (hW : W < 65536) :
    Calls Tryd.prog 63 #[.agg (grC f), .int .u16 (W : Int)] w fun e w' => e = .returned (.agg (grC (cutF f W))) ∧ Below w.heap.size w w' := by
  have HG0 := Lib.hid (G3.new w f)
  have HF := Lib.hid (fun t (ht : t < 16) => cutF_lt W (hf t ht))
  have HAt := Lib.hid (fun V a b (ha : a < 16) => raAt_any f a b W V hf ha hW)
  clear hf hW
  go_enter Tryd.func63, Tryd.ntmps63
  go_wp2_with fail
  generalize ((w.alloc (.cells (grC f) 26)).alloc _).alloc _ = w1 at *
  obtain ⟨bg, hbg⟩ : ∃ bg, bg = w.heap.size := ⟨_, rfl⟩
  have HBg := Lib.hid hbg
  simp only [← hbg] at HG0 ⊢
  clear hbg
  go_loopw [6] (fun i wr => ∃ a : Nat, a ≤ 16 ∧ i = .int .i64 (a : Int) ∧ G3 w bg f (fun _ => 0) (cutT f W a 0) wr) (fun i _ => 16 - (intOf i).toNat)
  case atStart => exact ⟨0, by omega, rfl, HG0.out.congr fun t _ => (cutT_zero f W t).symm⟩
  case round =>
    obtain ⟨a, ha, rfl, hg⟩ := hrel
    have HG := Lib.hid hg
    clear hg HG0
    by_cases hla : a < 16
    · have da : decide ((a : Int) < 16) = true := by simp; omega
      go_wp2_with fail
      go_loopw [7] (fun i wr => ∃ b : Nat, b ≤ 16 ∧ i = .int .i64 (b : Int) ∧ G3 w bg f (fun _ => 0) (cutT f W a b) wr) (fun i _ => 16 - (intOf i).toNat)
      case atStart => exact ⟨0, by omega, rfl, HG.out⟩
      case round =>
        obtain ⟨b, hb, rfl, hg⟩ := hrel
        have HH := Lib.hid hg
        by_cases hlb : b < 16
        · have db : decide ((b : Int) < 16) = true := by simp; omega
          have HA := Lib.hid (HAt.out wr a b hla)
          cases h1 : edgeB f W a b with
          | false =>
            rw [h1] at HA
            have HC := Lib.hid (cutT_no (f := f) (W := W) (a := a) (b := b) (by rw [cutF_bit]; exact h1))
            clear hg h1
            go_wp2_with (refine wpList_load_gr rfl _ rfl rfl HH.out.gw.row ?_)
            with_reducible refine HA.out.mono ?_
            rintro e wx ⟨rfl, hBx⟩
            have HX := Lib.hid (HH.out.step hBx)
            clear hBx
            go_wp2_with fail
            go_roundw
            case rel => first | exact ⟨b + 1, by omega, by go_num, HX.out.congr fun t _ => HC.out t⟩ | ((repeat apply Exists.intro); exact ⟨⟨b + 1, by omega, by go_num, HX.out.congr fun t _ => HC.out t⟩, rfl⟩)
            case measure => simp [intOf]; omega
          | true =>
            rw [h1] at HA
            have HC := Lib.hid (cutT_yes (f := f) (W := W) (a := a) (b := b) (by rw [cutF_bit]; exact h1))
            have hlt : cutT f W a b a < 65536 := by unfold cutT; rw [if_neg (by omega), if_pos rfl]; exact lowN_lt b (HF.out a hla)
            clear hg h1
            generalize hx : cutT f W a b a = x at *
            have HXe := Lib.hid hx
            have HWi := Lib.hid (fun V => rWith_yes x (b : Int) V hlt (by omega) (by omega))
            rw [Int.toNat_natCast] at HWi
            clear hx
            go_wp2_with (refine wpList_load_gr rfl _ rfl rfl HH.out.gw.row ?_)
            with_reducible refine HA.out.mono ?_
            rintro e wx ⟨rfl, hBx⟩
            have HX := Lib.hid (HH.out.step hBx)
            have k1 := HX.out.o.cell hla
            have f1 := HX.out.o.free a
            rw [HXe.out] at k1
            clear hBx
            go_wp2_with fail
            with_reducible refine (HWi.out _).mono ?_
            rintro e wy ⟨rfl, rfl⟩
            go_wp2_with fail
            go_roundw
            case rel => first | exact ⟨b + 1, by omega, by go_num, HX.out.set hla _ fun t _ => HC.out t⟩ | ((repeat apply Exists.intro); exact ⟨⟨b + 1, by omega, by go_num, HX.out.set hla _ fun t _ => HC.out t⟩, rfl⟩)
            case measure => simp [intOf]; omega
        · obtain rfl : b = 16 := by omega
          have HC := Lib.hid (cutT_all (HF.out a hla))
          clear hg
          go_wp2_with fail
          go_roundw
          case rel => first | exact ⟨a + 1, by omega, by go_num, HH.out.congr fun t _ => HC.out t⟩ | ((repeat apply Exists.intro); exact ⟨⟨a + 1, by omega, by go_num, HH.out.congr fun t _ => HC.out t⟩, rfl⟩)
          case measure => simp [intOf]; omega
    · obtain rfl : a = 16 := by omega
      have HQ := Lib.hid (HG.out.congr (p := cutF f W) fun t ht => by unfold cutT; rw [if_pos ht])
      clear HG
      go_wp2_with (first | (with_reducible refine wpList_load_gr rfl _ rfl rfl HQ.out.o ?_) | (with_reducible refine wpList_store_gr rfl rfl _ _ rfl rfl rfl HQ.out.r ?_; intro w2 hw2))
      exact bodyPost_ret (v := .agg (grC (cutF f W))) (results_gr rfl rfl hw2.blk) rfl ⟨rfl, HQ.out.put hw2⟩
end Go.Proofs.YthpangacpihclaaDoor

/-! GraC -/
namespace Go.Proofs.YthpangacpihclaaDoor
open Go.RowKit

def GDownC : Prop := ∀ (f : Nat → Nat) (s W : Nat) (w : World), TabOk w → GrOk f → s < 65536 → W < 65536 → Calls Tryd.prog 83 #[.agg (grC f), .int .u16 (s : Int), .int .u16 (W : Int)] w fun e w' => e = .returned (.int .u16 (downN f s W : Nat)) ∧ Below w.heap.size w w'
def GCutC : Prop := ∀ (f : Nat → Nat) (W : Nat) (w : World), TabOk w → GrOk f → W < 65536 → Calls Tryd.prog 75 #[.agg (grC f), .int .u16 (W : Int)] w fun e w' => e = .returned (.agg (grC (cutF f W))) ∧ Below w.heap.size w w'
end Go.Proofs.YthpangacpihclaaDoor

/-! GraV -/
namespace Go.Proofs.YthpangacpihclaaDoor
open Go.RowKit

theorem downG_fix {f : Nat → Nat} {W o : Nat} (h : sweepG f W o 16 = o) (k : Nat) : downG f W o k = o := by
  induction k with
  | zero => rfl
  | succ k ih => show sweepG f W (downG f W o k) 16 = o; rw [ih]; exact h
theorem downG_next (f : Nat → Nat) (W o k : Nat) : downG f W o (k + 1) = downG f W (sweepG f W o 16) k := by
  induction k with
  | zero => rfl
  | succ k ih => show sweepG f W (downG f W o (k + 1)) 16 = sweepG f W (downG f W (sweepG f W o 16) k) 16; rw [ih]
/-- Two sweeps do, where the second one finds nothing. -/
theorem down_two {f : Nat → Nat} {s W o : Nat} (h1 : sweepG f W (s &&& W) 16 = o) (h2 : sweepG f W o 16 = o) : downN f s W = o := by
  show downG f W (s &&& W) (15 + 1) = o
  rw [downG_next, h1]
  exact downG_fix h2 15
end Go.Proofs.YthpangacpihclaaDoor

/-! EqR -/
namespace Go.Proofs.YthpangacpihclaaDoor
open Go.RowKit

def intsL (cs : List Value) : Prop := ∀ v ∈ cs, ∃ q n, v = .int q n ∧ (Lit.int q n).wf = true
def kindV : Value → Option IntKind
  | .int q _ => some q
  | _ => none
theorem mapM_some {α β : Type} (f : α → Option β) : ∀ l : List α, (l.mapM f).isSome = true ↔ ∀ x ∈ l, (f x).isSome = true
  | [] => by simp
  | a :: l => by
    rw [List.mapM_cons]
    have ih := mapM_some f l
    cases ha : f a with
    | none => simp [ha]
    | some b =>
      cases hl : l.mapM f with
      | none =>
        rw [hl] at ih
        simp only [Option.isSome_none, Bool.false_eq_true, false_iff] at ih
        simp only [bind, Option.bind]
        constructor
        · intro h; cases h
        · intro h; exact absurd (fun x hx => h x (List.mem_cons_of_mem _ hx)) ih
      | some r =>
        rw [hl] at ih
        simp only [bind, Option.bind]
        constructor
        · intro _ x hx
          rcases List.mem_cons.1 hx with rfl | hx
          · rw [ha]; rfl
          · exact (ih.1 rfl) x hx
        · intro _; rfl
theorem intsL_part {cs : List Value} (h : intsL cs) (i n : Nat) : intsL ((cs.drop i).take n) := fun v hv => h v (List.mem_of_mem_drop (List.mem_of_mem_take hv))
theorem kinds_part {cs ds : List Value} (h : cs.map kindV = ds.map kindV) (i n : Nat) : ((cs.drop i).take n).map kindV = ((ds.drop i).take n).map kindV := by
  rw [List.map_take, List.map_drop, h, ← List.map_drop, ← List.map_take]
theorem one_int {cs ds : List Value} (hc : intsL cs) (hk : cs.map kindV = ds.map kindV) {v : Value} (hd : ds = [v]) : ∃ q n, cs = [.int q n] ∧ (Lit.int q n).wf = true ∧ kindV v = some q := by
  subst hd
  rcases cs with _ | ⟨c, _ | ⟨c2, cs⟩⟩
  · simp at hk
  · obtain ⟨q, n, rfl, hw⟩ := hc c (by simp)
    exact ⟨q, n, rfl, hw, by simpa [kindV] using hk.symm⟩
  · simp at hk
theorem keyLits_kinds {P : Program} : ∀ (d : Nat) (t : TypeId) (cs ds : List Value), intsL cs → cs.map kindV = ds.map kindV → (P.keyLits d t ds).isSome = true → (P.keyLits d t cs).isSome = true
  | 0, _, _, _, _, _, h => by simp [Program.keyLits] at h
  | d + 1, t, cs, ds, hc, hk, h => by
    have hlen : cs.length = ds.length := by have := congrArg List.length hk; simpa using this
    have hu := (rfl : P.underlying t = P.underlying t)
    revert hu
    generalize hq : P.underlying t = kd
    intro _
    unfold Program.keyLits at h ⊢
    rw [hq] at h ⊢
    split at h
    · obtain ⟨q, n, -, -, e⟩ := one_int hc hk rfl
      simp [kindV] at e
    · obtain ⟨q, n, rfl, hw, e⟩ := one_int hc hk rfl
      simp only [kindV, Option.some.injEq] at e
      subst e
      split at h
      · rename_i hh
        rw [hh.1] at hw
        simp [hh.1, hw]
      · cases h
    · obtain ⟨q, n, -, -, e⟩ := one_int hc hk rfl
      simp [kindV] at e
    · rename_i n e _
      by_cases hl : ds.length = P.cellsOf t
      · rw [if_pos hl, Option.isSome_map, mapM_some] at h
        simp only [hlen.trans hl, if_true]
        rw [Option.isSome_map, mapM_some]
        intro i hi
        exact keyLits_kinds d e _ _ (intsL_part hc _ _) (kinds_part hk _ _) (h i hi)
      · rw [if_neg hl] at h
        cases h
    · rename_i fs _
      by_cases hl : ds.length = P.cellsOf t ∧ fs.all (·.name != "_") = true
      · rw [if_pos hl, Option.isSome_map, mapM_some] at h
        simp only [hlen.trans hl.1, hl.2, and_self, if_true]
        rw [Option.isSome_map, mapM_some]
        intro i hi
        exact keyLits_kinds d i.type _ _ (intsL_part hc _ _) (kinds_part hk _ _) (h i hi)
      · rw [if_neg hl] at h
        cases h
    · cases h
/-- a struct or an array of whole numbers is equal to itself -/
theorem equal_self {P : Program} (w : World) {m : Nat} {t : TypeId} (hm : m ≤ 10000) (hk : P.keyTypeAt m t = true) {cs : Array Value} {ds : List Value} (D : Nat)
    (hf : (Value.agg cs).formed P t = true) (hc : intsL cs.toList) (hd : cs.toList.map kindV = ds.map kindV) (h : (P.keyLits D t ds).isSome = true) :
    (Op.equalIn 10000 t (.agg cs) (.agg cs)).run P w = .ok true w := by
  obtain ⟨L, hL⟩ := Option.isSome_iff_exists.1 (keyLits_kinds D t cs.toList ds hc hd h)
  obtain ⟨r, hr, hiff⟩ := run_equalIn_deep (10000 - m) m t hk w D D (.agg cs) (.agg cs) L L hf hf (by simpa [Value.cells] using hL) (by simpa [Value.cells] using hL)
  rw [show 10000 - m + m = 10000 by omega] at hr
  rw [hr, hiff.2 rfl]
end Go.Proofs.YthpangacpihclaaDoor

/-! EqS -/
namespace Go.Proofs.YthpangacpihclaaDoor
open Go.RowKit

/-- two structs or arrays of whole numbers are equal where their cells are -/
theorem equal_ints {P : Program} (w : World) {m : Nat} {t : TypeId} (hm : m ≤ 10000) (hk : P.keyTypeAt m t = true) (ht : P.tiled m t = true) {cs es : Array Value} {ds : List Value} (D : Nat)
    (hfc : (Value.agg cs).formed P t = true) (hfe : (Value.agg es).formed P t = true) (hc : intsL cs.toList) (he : intsL es.toList) (hdc : cs.toList.map kindV = ds.map kindV) (hde : es.toList.map kindV = ds.map kindV) (h : (P.keyLits D t ds).isSome = true) :
    ∃ r, (Op.equalIn 10000 t (.agg cs) (.agg es)).run P w = .ok r w ∧ (r = true ↔ cs = es) := by
  obtain ⟨L, hL⟩ := Option.isSome_iff_exists.1 (keyLits_kinds D t cs.toList ds hc hdc h)
  obtain ⟨M, hM⟩ := Option.isSome_iff_exists.1 (keyLits_kinds D t es.toList ds he hde h)
  obtain ⟨r, hr, hiff⟩ := run_equalIn_deep (10000 - m) m t hk w D D (.agg cs) (.agg es) L M hfc hfe (by simpa [Value.cells] using hL) (by simpa [Value.cells] using hM)
  rw [show 10000 - m + m = 10000 by omega] at hr
  refine ⟨r, hr, hiff.trans ⟨fun e => ?_, fun e => ?_⟩⟩
  · have h1 := cells_of_lits m t ht D _ _ hL
    have h2 := cells_of_lits m t ht D _ _ hM
    rw [e, ← h2] at h1
    exact Array.toList_inj.1 h1
  · subst e
    exact Option.some.inj (hL.symm.trans hM)
theorem equal_yes {P : Program} {t : TypeId} {cs es : Array Value} {b : Bool} (h : ∀ w, ∃ r, (Op.equalIn 10000 t (.agg cs) (.agg es)).run P w = .ok r w ∧ (r = true ↔ cs = es)) (hb : b = true ↔ cs = es) (w : World) : (Op.equalIn 10000 t (.agg cs) (.agg es)).run P w = .ok b w := by
  obtain ⟨r, hr, hi⟩ := h w
  rw [hr]
  congr 1
  exact Bool.eq_iff_iff.2 (hi.trans hb.symm)
end Go.Proofs.YthpangacpihclaaDoor

/-! PolM -/
namespace Go.Proofs.YthpangacpihclaaDoor

structure Pol where
  live : Nat
  s : Nat → Nat
  i : Nat → Nat
  acts : Nat → Nat
  owner : Nat → Nat
  active : Nat
/-- What every policy's numbers are. -/
structure PolOk (p : Pol) : Prop where
  live : p.live < 65536
  active : p.active < 65536
  s : ∀ r, r < 16 → p.s r < 65536
  i : ∀ r, r < 16 → p.i r < 65536
  acts : ∀ r, r < 16 → p.acts r < 65536
  owner : ∀ t, t < 16 → p.owner t < 256
/-- A set, bit by bit. -/
def setG (b : Nat → Bool) : Nat → Nat
  | 0 => 0
  | k + 1 => if b k = true then withN (setG b k) k else setG b k
theorem setG_bit (b : Nat → Bool) (k t : Nat) : (setG b k).testBit t = (decide (t < k) && b t) := by
  induction k with
  | zero => simp [setG]
  | succ k ih =>
    unfold setG
    split
    · rename_i h
      rw [withN_bit, ih]
      by_cases e : k = t
      · subst e; rw [h]; simp
      · rw [show decide (k = t) = false by simpa using e, Bool.or_false, show decide (t < k + 1) = decide (t < k) by simp; omega]
    · rename_i h
      rw [ih]
      by_cases e : k = t
      · subst e; rw [show b k = false by simpa using h]; simp
      · rw [show decide (t < k + 1) = decide (t < k) by simp; omega]
theorem setG_lt (b : Nat → Bool) {k : Nat} (hk : k ≤ 16) : setG b k < 65536 := by
  induction k with
  | zero => show (0 : Nat) < 65536; decide
  | succ k ih =>
    unfold setG; split
    · exact withN_lt (ih (by omega)) (by omega)
    · exact ih (by omega)
theorem setG_yes {b : Nat → Bool} {k : Nat} (h : b k = true) : setG b (k + 1) = withN (setG b k) k := by show (if b k = true then _ else _) = _; rw [if_pos h]
theorem setG_no {b : Nat → Bool} {k : Nat} (h : b k = false) : setG b (k + 1) = setG b k := by show (if b k = true then _ else _) = _; rw [if_neg (by rw [h]; simp)]
/-- Is a role seen under a label? -/
def seenB (p : Pol) (x y r : Nat) : Bool := p.live.testBit r && flowsB (p.s r) (p.i r) x y
def seenN (p : Pol) (x y : Nat) : Nat := setG (seenB p x y) 16
theorem seenN_lt (p : Pol) (x y : Nat) : seenN p x y < 65536 := setG_lt _ (Nat.le_refl _)
def ownedN (p : Pol) (R : Nat) : Nat := setG (fun t => R.testBit (p.owner t)) 16
def actsB (p : Pol) (a b : Int) (x y : Nat) : Bool := if a < 0 ∨ 15 < a then false else hasB (downN p.acts (withN 0 a.toNat) (seenN p x y)) b
def capB (p : Pol) (a : Int) (x y t : Nat) : Bool := p.active.testBit t && decide (p.owner t < 16) && actsB p a (p.owner t : Int) x y
def capsN (p : Pol) (a : Int) (x y : Nat) : Nat := setG (capB p a x y) 16
end Go.Proofs.YthpangacpihclaaDoor

/-! PolA -/
namespace Go.Proofs.YthpangacpihclaaDoor
open Go.RowKit

/-- Cell k of a policy. -/
def polAt (p : Pol) (k : Nat) : Value :=
  if k = 0 then .int .u16 (p.live : Int)
  else if k < 33 then (if k % 2 = 1 then .int .u16 (p.s (k / 2) : Nat) else .int .u16 (p.i (k / 2 - 1) : Nat))
  else if k < 49 then .int .u16 (p.acts (k - 33) : Nat)
  else if k < 65 then .int .u8 (p.owner (k - 49) : Nat)
  else .int .u16 (p.active : Int)
def polC (p : Pol) : Array Value := ((List.range 66).map (polAt p)).toArray
theorem polC_size (p : Pol) : (polC p).size = 66 := by simp [polC]
theorem polC_get (p : Pol) {k : Nat} (h : k < 66) : (polC p)[k]? = some (polAt p k) := by simp [polC, h]
theorem polAt_one (p : Pol) (k : Nat) : (polAt p k).oneCell' = true := by
  unfold polAt
  split
  · rfl
  · split
    · split <;> rfl
    · split
      · rfl
      · split <;> rfl
theorem polC_one (p : Pol) : (polC p).all (·.oneCell') = true := by simp [polC, polAt_one]
def PRow (w : World) (b : Nat) (p : Pol) : Prop := Blk w b (polC p) 29
section
variable {w w' : World} {b : Nat} {p : Pol}
theorem PRow.lt (h : PRow w b p) : b < w.heap.size := Blk.lt h
theorem PRow.new (w : World) (p : Pol) : PRow (w.alloc (.cells (polC p) 29)) w.heap.size p := Blk.new w _ _
theorem PRow.step (h : PRow w b p) (hB : Below w.heap.size w w') : PRow w' b p := Blk.below h hB h.lt
theorem PRow.alloc (h : PRow w b p) (o : Obj) : PRow (w.alloc o) b p := Blk.alloc h o
theorem PRow.at_ (h : PRow w b p) {k : Nat} (hk : k < 66) : w.cell? ⟨b, k, none⟩ = some (polAt p k) := (Blk.cell h k).trans (polC_get p hk)
theorem PRow.live (h : PRow w b p) : w.cell? ⟨b, 0, none⟩ = some (.int .u16 (p.live : Int)) := h.at_ (by decide)
theorem PRow.active (h : PRow w b p) : w.cell? ⟨b, 65, none⟩ = some (.int .u16 (p.active : Int)) := h.at_ (by decide)
theorem PRow.s (h : PRow w b p) {r : Nat} (hr : r < 16) : w.cell? ⟨b, 1 + r * 2, none⟩ = some (.int .u16 (p.s r : Nat)) := by
  rw [h.at_ (by omega)]; unfold polAt
  rw [if_neg (by omega), if_pos (by omega), if_pos (by omega), show (1 + r * 2) / 2 = r by omega]
theorem PRow.i (h : PRow w b p) {r : Nat} (hr : r < 16) : w.cell? ⟨b, 1 + r * 2 + 1, none⟩ = some (.int .u16 (p.i r : Nat)) := by
  rw [h.at_ (by omega)]; unfold polAt
  rw [if_neg (by omega), if_pos (by omega), if_neg (by omega), show (1 + r * 2 + 1) / 2 - 1 = r by omega]
theorem PRow.acts (h : PRow w b p) {r : Nat} (hr : r < 16) : w.cell? ⟨b, 33 + r, none⟩ = some (.int .u16 (p.acts r : Nat)) := by
  rw [h.at_ (by omega)]; unfold polAt
  rw [if_neg (by omega), if_neg (by omega), if_pos (by omega), show 33 + r - 33 = r by omega]
theorem PRow.owner (h : PRow w b p) {t : Nat} (ht : t < 16) : w.cell? ⟨b, 49 + t, none⟩ = some (.int .u8 (p.owner t : Nat)) := by
  rw [h.at_ (by omega)]; unfold polAt
  rw [if_neg (by omega), if_neg (by omega), if_neg (by omega), if_pos (by omega), show 49 + t - 49 = t by omega]
end
theorem pol_acts (p : Pol) {r : Nat} (hr : r < 16) : (polC p)[33 + r]? = some (.int .u16 (p.acts r : Nat)) := by
  rw [polC_get p (by omega)]; unfold polAt
  rw [if_neg (by omega), if_neg (by omega), if_pos (by omega), show 33 + r - 33 = r by omega]
theorem infoPol (p : Pol) : (Tryd.prog.info? 29).map (·.size) = some (polC p).size := by rw [polC_size]; kernel_rfl
theorem exec_load_pol {o : Oper} {a : Act} {w : World} {x : Operand} {b : Nat} {p : Pol} (ho : o.op = .load 29 x) (hx : a.eval x = .pointer (some ⟨b, 0, none⟩)) (h : PRow w b p) :
    (execOp a.eval o).run Tryd.prog w = .ok (.value (.agg (polC p))) w := by
  unfold execOp
  simp only [ho, hx, Instr.loadAt, Instr.sureAddr, Sem.run_bind, Sem.run_pure, Result.andThen_ok, run_loadVar_row w b _ 29 (polC p) _ _ h Tryd.underlying29 rfl (infoPol p)]
/-- A policy and a label that stay where they are. -/
structure PW (w : World) (b : Nat) (p : Pol) (V : World) : Prop where
  below : Below b w V
  row : PRow V b p
  at_ : b = w.heap.size
theorem PW.step {w : World} {b : Nat} {p : Pol} {V V' : World} (h : PW w b p V) (hB : Below V.heap.size V V') : PW w b p V' :=
  ⟨h.below.trans (hB.mono (by rw [h.at_]; exact h.below.size)), h.row.step hB, h.at_⟩
theorem PW.all {w : World} {b : Nat} {p : Pol} {V : World} (h : PW w b p V) : Below w.heap.size w V := by rw [← h.at_]; exact h.below
structure PLW (w : World) (b : Nat) (p : Pol) (x y : Nat) (V : World) : Prop where
  pw : PW w b p V
  lab : Blk V (b + 1) #[.int .u16 (x : Int), .int .u16 (y : Int)] 24
theorem PLW.step {w : World} {b : Nat} {p : Pol} {x y : Nat} {V V' : World} (h : PLW w b p x y V) (hB : Below V.heap.size V V') : PLW w b p x y V' := ⟨h.pw.step hB, h.lab.below hB h.lab.lt⟩
theorem PLW.new (w : World) (p : Pol) (x y : Nat) : PLW w w.heap.size p x y ((w.alloc (.cells (polC p) 29)).alloc (.cells #[.int .u16 (x : Int), .int .u16 (y : Int)] 24)) := by
  refine ⟨⟨(belowNew w _).alloc (by simp) _, (PRow.new w p).alloc _, rfl⟩, ?_⟩
  have h := Blk.new (w.alloc (.cells (polC p) 29)) #[.int .u16 (x : Int), .int .u16 (y : Int)] 24
  simp only [World.size_alloc] at h
  exact h
end Go.Proofs.YthpangacpihclaaDoor

/-! PolD -/
namespace Go.Proofs.YthpangacpihclaaDoor
open Go.RowKit

theorem mem_range_map {α : Type} {f : Nat → α} {n : Nat} {v : α} (h : v ∈ (List.range n).map f) : ∃ k, k < n ∧ v = f k := by
  obtain ⟨k, hk, rfl⟩ := List.mem_map.1 h
  exact ⟨k, List.mem_range.1 hk, rfl⟩
theorem wfU16 {n : Nat} (h : n < 65536) : (Lit.int .u16 (n : Int)).wf = true := by
  have h1 : (0 : Int) ≤ (n : Int) := Int.natCast_nonneg n
  have h2 : (n : Int) ≤ 65535 := by omega
  simp only [Lit.wf, show IntKind.u16.min = 0 by decide, show IntKind.u16.max = 65535 by decide, decide_eq_true h1, decide_eq_true h2, Bool.and_self]
theorem wfU8 {n : Nat} (h : n < 256) : (Lit.int .u8 (n : Int)).wf = true := by
  have h1 : (0 : Int) ≤ (n : Int) := Int.natCast_nonneg n
  have h2 : (n : Int) ≤ 255 := by omega
  simp only [Lit.wf, show IntKind.u8.min = 0 by decide, show IntKind.u8.max = 255 by decide, decide_eq_true h1, decide_eq_true h2, Bool.and_self]
theorem polAt_int {p : Pol} (hp : PolOk p) {k : Nat} (hk : k < 66) : ∃ q n, polAt p k = .int q n ∧ (Lit.int q n).wf = true := by
  unfold polAt
  split
  · exact ⟨_, _, rfl, wfU16 hp.live⟩
  · split
    · split
      · exact ⟨_, _, rfl, wfU16 (hp.s _ (by omega))⟩
      · exact ⟨_, _, rfl, wfU16 (hp.i _ (by omega))⟩
    · split
      · exact ⟨_, _, rfl, wfU16 (hp.acts _ (by omega))⟩
      · split
        · exact ⟨_, _, rfl, wfU8 (hp.owner _ (by omega))⟩
        · exact ⟨_, _, rfl, wfU16 hp.active⟩
def polZ : Pol := ⟨0, fun _ => 0, fun _ => 0, fun _ => 0, fun _ => 0, 0⟩
theorem polAt_kind (p q : Pol) (k : Nat) : kindV (polAt p k) = kindV (polAt q k) := by
  unfold polAt
  split
  · rfl
  · split
    · split <;> rfl
    · split
      · rfl
      · split <;> rfl
theorem polC_kinds (p q : Pol) : (polC p).toList.map kindV = (polC q).toList.map kindV := by
  simp only [polC, List.map_map]
  exact List.map_congr_left fun k _ => polAt_kind p q k
theorem polC_ints {p : Pol} (hp : PolOk p) : intsL (polC p).toList := by
  intro v hv
  simp only [polC] at hv
  obtain ⟨k, hk, rfl⟩ := mem_range_map hv
  exact polAt_int hp hk
theorem polZ_lits : (Tryd.prog.keyLits 4 29 (polC polZ).toList).isSome = true := by kernel_rfl
theorem key_pol : Tryd.prog.keyTypeAt 4 29 = true := by kernel_rfl
theorem formed_pol (p : Pol) : (Value.agg (polC p)).formed Tryd.prog 29 = true := by
  simp only [Value.formed, Tryd.underlying29, polC_size]
  kernel_rfl
theorem run_equal_pol {p : Pol} (hp : PolOk p) (w : World) : (Op.equalIn 10000 29 (.agg (polC p)) (.agg (polC p))).run Tryd.prog w = .ok true w :=
  equal_self w (m := 4) (by decide) key_pol 4 (formed_pol p) (polC_ints hp) (polC_kinds p polZ) polZ_lits
theorem guard_pol : Tryd.prog.eqGuardType Tryd.prog.depth 29 = false := by kernel_rfl
theorem exec_eql_pol {o : Oper} {a : Act} {w : World} {x y : Operand} {ty : TypeId} {p : Pol} (hp : PolOk p) (ho : o.op = .binOp .eql 29 x y ty) (hx : a.eval x = .agg (polC p)) (hy : a.eval y = .agg (polC p)) :
    (execOp a.eval o).run Tryd.prog w = .ok (.value (.bool true)) w := by
  unfold execOp
  simp only [ho, hx, hy, Sem.run_bind, run_eqGuard_agg w .eql 29 x y _ _ guard_pol, run_eql_struct, run_equal_pol hp, Result.andThen_ok, Sem.run_pure]
end Go.Proofs.YthpangacpihclaaDoor

/-! PolEq -/
namespace Go.Proofs.YthpangacpihclaaDoor
open Go.RowKit

theorem tiled_pol : Tryd.prog.tiled 4 29 = true := by kernel_rfl
theorem equal_pols {p q : Pol} (hp : PolOk p) (hq : PolOk q) {b : Bool} (hb : b = true ↔ polC p = polC q) (w : World) : (Op.equalIn 10000 29 (.agg (polC p)) (.agg (polC q))).run Tryd.prog w = .ok b w :=
  equal_yes (fun w => equal_ints w (m := 4) (by decide) key_pol tiled_pol 4 (formed_pol p) (formed_pol q) (polC_ints hp) (polC_ints hq) (polC_kinds p polZ) (polC_kinds q polZ) polZ_lits) hb w
theorem exec_eql_pols {o : Oper} {a : Act} {w : World} {x y : Operand} {ty : TypeId} {p q : Pol} (hp : PolOk p) (hq : PolOk q) {b : Bool} (hb : b = true ↔ polC p = polC q) (ho : o.op = .binOp .eql 29 x y ty) (hx : a.eval x = .agg (polC p)) (hy : a.eval y = .agg (polC q)) :
    (execOp a.eval o).run Tryd.prog w = .ok (.value (.bool b)) w := by
  unfold execOp
  simp only [ho, hx, hy, Sem.run_bind, run_eqGuard_agg w .eql 29 x y _ _ guard_pol, run_eql_struct, equal_pols hp hq hb, Result.andThen_ok, Sem.run_pure]
theorem exec_neq_pols {o : Oper} {a : Act} {w : World} {x y : Operand} {ty : TypeId} {p q : Pol} (hp : PolOk p) (hq : PolOk q) {b : Bool} (hb : b = true ↔ polC p = polC q) (ho : o.op = .binOp .neq 29 x y ty) (hx : a.eval x = .agg (polC p)) (hy : a.eval y = .agg (polC q)) :
    (execOp a.eval o).run Tryd.prog w = .ok (.value (.bool (!b))) w := by
  unfold execOp
  simp only [ho, hx, hy, Sem.run_bind, run_eqGuard_agg w .neq 29 x y _ _ guard_pol, run_neq_struct, equal_pols hp hq hb, Result.andThen_ok, Sem.run_pure]
end Go.Proofs.YthpangacpihclaaDoor

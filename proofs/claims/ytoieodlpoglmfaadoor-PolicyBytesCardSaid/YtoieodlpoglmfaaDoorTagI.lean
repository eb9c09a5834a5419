/-
  The iterator tagset.Each has its contract, for every loop body; and what the law's own 'tags' collects.
-/
import Derived.RangeFuncNested
import Derived.RangeFuncBound
import Derived.RangeFuncCalls
import Derived.RangeFuncLeaves
import Derived.RangeFuncBox
import Derived.RangeFuncWrites
import Derived.Shelf.Abstract
import Derived.Shelf.RegionOpen
import Derived.WalkKit
import Derived.OwnWalkIn
import Derived.TacticsInMore
import Derived.LoopNIn
import Derived.LoopIn
import Derived.Maps.AppendAt
import Derived.Test.YtoieodlpoglmfaaDoorTagL
namespace Go.Proofs.YtoieodlpoglmfaaDoor
open Go.RowKit Go.Shelf

attribute [local go_sem] Oper.semAt_some

theorem Tab32.below {n₀ : Nat} {A B : World} (h : Below n₀ A B) (hn : 0 < n₀) (hT : Tab32 A) : Tab32 B :=
  fun j hj => (h.cell (p := ⟨0, j, none⟩) hn).trans (hT j hj)

/-- What the iterator yields. -/
def encT (x : Fin 16) : Array Value := #[.int .i64 (x.val : Int)]
def valsF (l : List (Fin 16)) : List Nat := l.map (·.val)
theorem valsF_snoc (l : List (Fin 16)) (x : Fin 16) : valsF (l ++ [x]) = valsF l ++ [x.val] := by simp [valsF]

set_option maxHeartbeats 1000000 in
/-- Each: the set is boxed; the function value captures the box. -/
theorem Each_in (s : Nat) (n : Nat) (w : World) :
    CallsIn Fence.wide n Tryd.prog 54 #[.int .u16 s] w fun e w' => e = .returned (.func (.func 74) #[] #[.pointer (some ⟨w.heap.size, 0, none⟩)]) ∧ w' = w.alloc (.cells #[.int .u16 s] 22) := by
  refine callsIn_of_wp Tryd.func54 rfl trivial ?_ rfl
  simp only [Tryd.ntmps54, List.size_toArray, List.length_cons, List.length_nil, Nat.reduceAdd, Nat.reduceSub, Array.replicate_succ, Array.replicate_zero, List.push_toArray, List.append_toArray, List.nil_append, List.cons_append]
  gi_wp2
  go_ret
  exact ⟨rfl, rfl⟩

/-- How far the iterator still has to go, for the loop's measure. -/
def leftOf : Value → Nat
  | .int _ n => n.toNat
  | _ => 0

set_option maxRecDepth 100000 in
set_option maxHeartbeats 1000000 in
theorem Each1_in (n : Nat) (hn : 1 ≤ n) (l Bn n₀ : Nat) (s : Nat) (hs : s < 65536) (J Jx : List (Fin 16) → World → Prop)
    (hY : ∀ pre x W, J pre W → pre.length < 16 → YieldAt Fence.wide (n - 1) Tryd.prog l (encT x) W fun e W' =>
      (e = .returned (.bool true) ∧ J (pre ++ [x]) W' ∧ Below n₀ W W') ∨ (e = .returned (.bool false) ∧ Jx (pre ++ [x]) W'))
    (W : World) (hBn : W.cell? ⟨Bn, 0, none⟩ = some (.int .u16 s)) (hT : Tab32 W) (hg : 0 < n₀) (h0 : J [] W) :
    CallsIn Fence.wide n Tryd.prog 74 #[.func (.yield l) #[] #[], .pointer (some ⟨Bn, 0, none⟩)] W fun e W' => (∃ v, e = .returned v) ∧
      ((∃ ys, valsF ys = tagsN s ∧ J ys W') ∨ (∃ pre, valsF pre <+: tagsN s ∧ Jx pre W')) := by
  refine callsIn_of_wp Tryd.func74 rfl trivial ?_ rfl
  simp only [Tryd.ntmps74, List.size_toArray, List.length_cons, List.length_nil, Nat.reduceAdd, Nat.reduceSub, Array.replicate_succ, Array.replicate_zero, List.push_toArray, List.append_toArray, List.nil_append, List.cons_append]
  gi_wp2
  gi_loopw [3] (fun p wr => ∃ (pre : List (Fin 16)) (r : Nat), p = .int .u16 r ∧ r < 65536 ∧ Hid (tagsN s = valsF pre ++ tagsN r) ∧ Tab32 wr ∧ J pre wr)
    (fun p _ => leftOf p)
  case atStart =>
    exact ⟨[], s, rfl, hs, Lib.hid rfl, hT, h0⟩
  case round =>
    obtain ⟨pre, r, rfl, hr, HX, hTs, hJs⟩ := hrel
    have HTs := Lib.hid hTs
    clear hTs
    by_cases hr0 : r = 0
    · subst hr0
      gi_wp2
      go_end0
      exact ⟨⟨_, rfl⟩, .inl ⟨pre, by rw [HX.out, tagsN_zero, List.append_nil], hJs⟩⟩
    · have hne : ((r : Int) != 0) = true := by simp; omega
      have hlen : pre.length < 16 := by
        have h1 := congrArg List.length HX.out
        have h2 := tagsN_length_le s
        have h3 := tagsN_cons r hr0 hr
        rw [h3] at h1
        simp [valsF] at h1
        omega
      obtain ⟨k, hk, hc, _⟩ := low_spec r hr0 hr
      obtain ⟨fn, tmps, assign, body, hy, hR⟩ := hY pre ⟨k, hk⟩ wr hJs hlen
      dsimp only [encT] at hy
      have HC := Lib.hid hc
      have HTZ := TrailingZeros16_any r wr hr HTs.out
      rw [hc] at HTZ
      clear hc
      gi_wp2_with (refine ⟨trivial, ?_⟩; gi_at_call 75; refine (callsIn_wide.2 HTZ).mono ?_; clear HTZ; rintro e w' ⟨rfl, rfl⟩)
      refine hR.mono ?_
      have HR2 := Lib.hid (tagsN_cons r hr0 hr)
      have hand := u16_and_nat r (r - 1) hr (by omega)
      have hpl := and_pred_lt r hr0
      have hw1 : IntKind.u16.wrap ((r : Int) - 1) = ((r - 1 : Nat) : Int) := by rw [IntKind.wrap_u16]; omega
      rintro e W3 (⟨rfl, hJ3, hk3⟩ | ⟨rfl, hJx3⟩)
      · gi_wp2
        go_roundw
        case rel => exact ⟨pre ++ [⟨k, hk⟩], r &&& (r - 1), rfl, by omega, Lib.hid (by rw [HX.out, HR2.out, HC.out, valsF_snoc]; simp), HTs.out.below hk3 hg, hJ3⟩
        case measure => simp only [leftOf, Int.toNat_natCast]; exact hpl
      · gi_wp2
        refine bodyPost_ret (results_none rfl _ _ _) rfl ?_
        exact ⟨⟨_, rfl⟩, .inr ⟨pre ++ [⟨k, hk⟩], ⟨tagsN (r &&& (r - 1)), by rw [HX.out, HR2.out, HC.out, valsF_snoc]; simp⟩, hJx3⟩⟩


/-- Each hands back a value that yields the tags of the set, rising, to whatever body. -/
theorem Each_stops (n : Nat) (hn : 1 ≤ n) (Bn n₀ : Nat) (s : Nat) (hs : s < 65536) (w : World) (hBn : Bn < w.heap.size) (_hn₀ : n₀ ≤ w.heap.size) (hg : 0 < n₀)
    (hc : w.cell? ⟨Bn, 0, none⟩ = some (.int .u16 s)) (hT : Tab32 w) :
    SeqStopsK Fence.wide n Tryd.prog 74 #[.pointer (some ⟨Bn, 0, none⟩)] encT (Below n₀) (fun ys => valsF ys = tagsN s) (fun pre => valsF pre <+: tagsN s) 16 w := fun l J Jx W hW _ _ hY h0 =>
  Each1_in n hn l Bn n₀ s hs J Jx hY W ((hW.cell (p := ⟨Bn, 0, none⟩) hBn).trans hc) (hT.below hW (by omega)) hg h0

theorem info_int : (Tryd.prog.info? 3).map (fun i => (i.zero, i.size, i.bytes)) = some (some (.int .i64 0), 1, 8) := by kernel_rfl

theorem valsF_length (l : List (Fin 16)) : (valsF l).length = l.length := by simp [valsF]
def intsV (l : List Nat) : List Value := l.map fun x : Nat => Value.int .i64 (x : Int)
theorem intsV_snoc (l : List Nat) (x : Nat) : intsV (l ++ [x]) = intsV l ++ [.int .i64 (x : Int)] := by simp [intsV]

end Go.Proofs.YtoieodlpoglmfaaDoor

/-
  The document's disk: New, Bytes, Arm, Power, Read.
-/
import Derived.Test.YtmkaglaogkadcaaDskR
import Derived.LoopTactic
import Derived.Deep.DeepCutAuto
namespace Go.Proofs.Ytmkaglaogkadcaa
open Go.RowKit

theorem mul128 {n : Nat} (h : n ≤ 2000) : IntKind.i64.wrap (128 * (n : Int)) = ((128 * n : Nat) : Int) := by rw [IntWalk.i64_in _ (by omega)]; simp

theorem wrap_u8 (n : Nat) : ((UInt8.ofNat n).toNat : Int) = (n : Int) % 256 := by simp

theorem run_range {w : World} {p : Option Addr} {len cap lo hi : Nat} {x y : Int} (hx : x = (lo : Int)) (hy : y = (hi : Int)) (h1 : lo ≤ hi) (h2 : hi ≤ cap) :
    (Instr.slice 22 (.slice p len cap) (some (.int .i64 x)) (some (.int .i64 y)) none).run Try.prog w = .ok (.slice (if cap = lo then p else p.map (·.add lo)) (hi - lo) (cap - lo)) w := by
  subst hx; subst hy
  rw [run_slice_lh w _ _ _ _ elemU8 .i64 .i64 _ _ (by omega) (by omega) (by omega), sizeU8]
  simp [Result.andThen, sliced]
theorem own_v {B : Nat} {w : World} {v : Value} {l : List UInt8} {e : Nat} (h : w.ownsRow B e 1 v l.length (bvs l)) : ∃ p c, v = .slice p l.length c := own_form h

end Go.Proofs.Ytmkaglaogkadcaa

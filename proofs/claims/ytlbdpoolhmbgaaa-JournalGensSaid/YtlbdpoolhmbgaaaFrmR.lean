/-
  The document's frames: Write.
-/
import Derived.Test.YtlbdpoolhmbgaaaFrmM
import Derived.Test.YtlbdpoolhmbgaaaCrcS
import Derived.Test.YtlbdpoolhmbgaaaMkB
import Derived.Deep.DeepCutAuto
import Derived.LoopTactic
namespace Go.Proofs.Ytlbdpoolhmbgaaa
open Go.RowKit

theorem byte_nat (n : Nat) : (((UInt8.ofNat n).toNat : Nat) : Int) = (n : Int) % 256 := by simp
theorem head_cells (kd : UInt8) (gen seq n : Nat) (hg : gen < 4294967296) (hs : seq < 65536) (hn : n ≤ 112) :
    (#[.int .u8 (kd.toNat : Int), .int .u8 ((gen : Int) / 16777216), .int .u8 ((gen : Int) / 65536 % 256), .int .u8 ((gen : Int) / 256 % 256), .int .u8 ((gen : Int) % 256), .int .u8 ((seq : Int) / 256), .int .u8 ((seq : Int) % 256), .int .u8 (n : Int)] : Array Value).toList = bvs (frHead kd gen seq n) := by
  simp [bvs, frHead]
  omega
theorem own_base2 {w : World} {base base' size n : Nat} {e : TypeId} {v : Value} {xs : List Value} (h : w.ownsRow base e size v n xs) (hb : base' ≤ base) : w.ownsRow base' e size v n xs :=
  ⟨h.1, h.2.elim Or.inl (fun ⟨g, cap, cur, hv, hg, r⟩ => Or.inr ⟨g, cap, cur, hv, Nat.le_trans hb hg, r⟩)⟩
theorem zeros_succ (n : Nat) : zeros (n + 1) = zeros n ++ [0] := by unfold zeros; rw [List.replicate_succ']

end Go.Proofs.Ytlbdpoolhmbgaaa

/-
  The contracts of math/bits.OnesCount16 and tagset.Count: how many tags a set has.
-/
import Derived.Test.YtpmolglmpgkcbaaDoorTagA
import Derived.Lib.Tables
import Derived.Lib.BitFns
namespace Go.Proofs.YtpmolglmpgkcbaaDoor
open Go.RowKit

theorem pop8_tags : ∀ n : Fin 256, Lib.pop8 (n.val : Int) = ((tagsTo n.val 8).length : Int) := by decide +kernel

theorem tagsTo_len_add (a : Nat) : ∀ n, (tagsTo a (8 + n)).length = (tagsTo a 8).length + (tagsTo (a / 256) n).length
  | 0 => by simp [tagsTo]
  | n + 1 => by
    have h : a.testBit (8 + n) = (a / 256).testBit n := by
      rw [show 256 = 2 ^ 8 from rfl, Nat.testBit_div_two_pow, Nat.add_comm]
    show (tagsTo a (8 + n) ++ if a.testBit (8 + n) then [8 + n] else []).length = (tagsTo a 8).length + (tagsTo (a / 256) n ++ if (a / 256).testBit n then [n] else []).length
    rw [List.length_append, List.length_append, tagsTo_len_add a n, h]
    split <;> simp <;> omega
theorem tagsTo_mod (a : Nat) : tagsTo a 8 = tagsTo (a % 256) 8 :=
  tagsTo_congr (fun t ht => by rw [show 256 = 2 ^ 8 from rfl, Nat.testBit_mod_two_pow]; simp [ht])
theorem pop16 (x : Nat) (hx : x < 65536) : Lib.pop8 ((x : Int) / 256) + Lib.pop8 ((x : Int) % 256) = ((tagsN x).length : Int) := by
  have h1 := pop8_tags ⟨x / 256, by omega⟩
  have h2 := pop8_tags ⟨x % 256, by omega⟩
  simp only at h1 h2
  rw [show ((x : Int) / 256) = ((x / 256 : Nat) : Int) by omega, show ((x : Int) % 256) = ((x % 256 : Nat) : Int) by omega, h1, h2, ← tagsTo_mod]
  have := tagsTo_len_add x 8
  unfold tagsN
  rw [show (16 : Nat) = 8 + 8 from rfl, this]
  omega

end Go.Proofs.YtpmolglmpgkcbaaDoor

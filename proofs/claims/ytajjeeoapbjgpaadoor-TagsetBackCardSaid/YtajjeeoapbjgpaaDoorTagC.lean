/-
  The contracts of math/bits.OnesCount16 and tagset.Count: how many tags a set has.
-/
import Derived.Test.YtajjeeoapbjgpaaDoorTagA
import Derived.Lib.Tables
import Derived.Lib.BitFns
namespace Go.Proofs.YtajjeeoapbjgpaaDoor
open Go.RowKit

theorem pop8_tags : ∀ n : Fin 256, Lib.pop8 (n.val : Int) = ((tagsTo n.val 8).length : Int) := by decide +kernel

theorem tagsTo_len_add (a : Nat) : ∀ n, (tagsTo a (8 + n)).length = (tagsTo a 8).length + (tagsTo (a / 256) n).length
  | 0 => by simp [tagsTo]
  | n + 1 => by
    have h : a.testBit (8 + n) = (a / 256).testBit n := by
      rw [show 256 = 2 ^ 8 from rfl, Nat.testBit_div_two_pow, Nat.add_comm]
    show (tagsTo a (8 + n) ++ if a.testBit (8 + n) then [8 + n] else []).length = (tagsTo a 8).length + (tagsTo (a / 256) n ++ if (a / 256).testBit n then [n] else []).length
    rw [List.length_append, List.length_append, tagsTo_len_add a n, h]
    split <;> simp <;> omega
theorem tagsTo_mod (a : Nat) : tagsTo a 8 = tagsTo (a % 256) 8 :=
  tagsTo_congr (fun t ht => by rw [show 256 = 2 ^ 8 from rfl, Nat.testBit_mod_two_pow]; simp [ht])
theorem pop16 (x : Nat) (hx : x < 65536) : Lib.pop8 ((x : Int) / 256) + Lib.pop8 ((x : Int) % 256) = ((tagsN x).length : Int) := by
  have h1 := pop8_tags ⟨x / 256, by omega⟩
  have h2 := pop8_tags ⟨x % 256, by omega⟩
  simp only at h1 h2
  rw [show ((x : Int) / 256) = ((x / 256 : Nat) : Int) by omega, show ((x : Int) % 256) = ((x % 256 : Nat) : Int) by omega, h1, h2, ← tagsTo_mod]
  have := tagsTo_len_add x 8
  unfold tagsN
  rw [show (16 : Nat) = 8 + 8 from rfl, this]
  omega

set_option maxHeartbeats 400000 in
theorem OnesCount16_any (x : Nat) (w : World) (hx : x < 65536) :
    Calls Tryd.prog 25 #[.int .u16 x] w fun e w' => e = .returned (.int .i64 ((tagsN x).length : Nat)) ∧ ∃ n, w' = w.drewN n := by
  have h0 : (0 : Int) ≤ (x : Int) / 256 := by omega
  have h1 : (x : Int) / 256 ≤ 255 := by omega
  have e2 : bits .and .u16 (x : Int) 255 = (x : Int) % 256 := by
    have := u16_and_nat x 255 hx (by decide)
    rw [show ((255 : Nat) : Int) = 255 from rfl] at this
    rw [this, nat_mask8]; omega
  go_enter Tryd.func25, Tryd.ntmps25
  go_wp2
  go_quiet (fail)
  go_wp2
  go_ret
  refine ⟨ret_int ?_, nq, rfl⟩
  have h3 := tagsN_length_le x
  have h4 := pop16 x hx
  show (Lib.pop8 ((x : Int) / 256) + Lib.pop8 ((x : Int) % 256)) % 256 = _
  rw [h4]
  omega

set_option maxHeartbeats 400000 in
theorem Count_any (x : Nat) (w : World) (hx : x < 65536) :
    Calls Tryd.prog 12 #[.int .u16 x] w fun e w' => e = .returned (.int .i64 ((tagsN x).length : Nat)) ∧ ∃ n, w' = w.drewN n := by
  go_enter Tryd.func12, Tryd.ntmps12
  go_wp2_with (go_at_call 25; refine (OnesCount16_any _ _ hx).mono ?_; rintro e w' ⟨rfl, nq, rfl⟩)
  go_ret
  exact ⟨rfl, nq, rfl⟩

end Go.Proofs.YtajjeeoapbjgpaaDoor

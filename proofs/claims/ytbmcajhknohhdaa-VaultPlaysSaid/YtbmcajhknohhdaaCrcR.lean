/-
  The document's checksum.
-/
import Derived.Test.YtbmcajhknohhdaaByteP
import Derived.Test.YtbmcajhknohhdaaCrcM
import Derived.Laws.BitsAllLaws
import Derived.LoopTactic
namespace Go.Proofs.Ytbmcajhknohhdaa
open Go.RowKit

theorem crcReg_take {l : List UInt8} {k : Nat} (h : k < l.length) : crcReg crcAll (l.take (k + 1)) = crcByte (crcReg crcAll (l.take k)) l[k].toNat := by
  rw [List.take_succ_eq_append_getElem h, crcReg_append]; rfl
theorem xor_poly (r : Nat) (h : r < 4294967296) : bits .xor .u32 ((r : Int) / 2) 3988292384 = ((r / 2 ^^^ crcPoly : Nat) : Int) := by
  have h1 := u32_xor_nat (r / 2) 3988292384 (by omega) (by decide)
  have h2 : ((r / 2 : Nat) : Int) = (r : Int) / 2 := by omega
  rw [h2] at h1
  exact h1

set_option maxRecDepth 100000 in
set_option maxHeartbeats 3200000 in
theorem rcSum_any (p : Option Addr) (len cap : Nat) (l : List UInt8) (w : World) (h : BsAt w p len cap l) (hsm : l.length ≤ 1000000) :
    Calls Try.prog 46 #[.slice p len cap] w fun e w' => e = .returned (.int .u32 (crcSum l : Nat)) ∧ w = w' := by
  have hl := h.same
  subst hl
  have HB := Lib.hid h
  clear h
  go_enter Try.func46, Try.ntmps46
  go_wp2_with fail
  go_loop [3, 4] (fun r i => ∃ k : Nat, k ≤ l.length ∧ i = .int .i64 k ∧ r = .int .u32 (crcReg crcAll (l.take k) : Nat)) (fun _ i => l.length - (intOf i).toNat)
  case atStart => exact ⟨0, Nat.zero_le _, rfl, rfl⟩
  case round =>
    obtain ⟨k, hk, rfl, rfl⟩ := hrel
    have hR := crcReg_lt (r := crcAll) (by decide) (l.take k)
    by_cases hlt : k < l.length
    · obtain ⟨g, off, rfl, hc⟩ : ∃ g off, p = some ⟨g, off, none⟩ ∧ w.cell? ⟨g, off + k, none⟩ = some (.int .u8 (l[k].toNat : Int)) := by
        rcases HB.out.place with ⟨-, h2⟩ | ⟨h2, -⟩ | ⟨g', off, rfl, -, h3⟩
        · have := HB.out.le; omega
        · rw [h2] at hlt; simp at hlt
        · exact ⟨g', off, rfl, h3 k hlt⟩
      have HT := Lib.hid (crcReg_take hlt)
      have hx : l[k].toNat < 256 := l[k].toNat_lt
      generalize crcReg crcAll (l.take k) = R at *
      generalize l[k].toNat = c at *
      go_wp2_with fail
      go_loop [3, 5, 6, 7] (fun r c' j _ => ∃ m : Nat, m ≤ 8 ∧ j = .int .i64 m ∧ r = .int .u32 (stpN m (R ^^^ c % 2 ^ m) : Nat) ∧ c' = .int .u8 (c / 2 ^ m : Nat)) (fun _ _ j _ => 8 - (intOf j).toNat)
      case atStart => exact ⟨0, Nat.zero_le _, rfl, by simp [stpN, Nat.mod_one], by simp⟩
      case round =>
        obtain ⟨m, hm, rfl, rfl, rfl⟩ := hrel
        have hS := stpN_lt m (x := R ^^^ c % 2 ^ m) (Nat.xor_lt_two_pow (n := 32) (by omega) (by have := Nat.mod_le c (2 ^ m); omega))
        by_cases hm8 : m < 8
        · have HB2 := Lib.hid (bit_step R c m)
          have HC2 := Lib.hid (show c / 2 ^ (m + 1) = c / 2 ^ m / 2 by rw [Nat.div_div_eq_div_mul, Nat.pow_succ])
          have hcm : c / 2 ^ m < 256 := Nat.lt_of_le_of_lt (Nat.div_le_self _ _) hx
          generalize stpN m (R ^^^ c % 2 ^ m) = S at *
          generalize c / 2 ^ m = d at *
          have HS := Lib.hid (step_odd S d)
          have HX := Lib.hid (xor_poly S hS)
          rcases Nat.mod_two_eq_zero_or_one S with hs | hs
          · rcases Nat.mod_two_eq_zero_or_one d with hd | hd
            · have b1 : ((S : Int) % 2 == 1) = false := by simp; omega
              have b2 : ((d : Int) % 2 == 1) = false := by simp; omega
              have hst := HS.out
              rw [hs, hd] at hst
              have HST := Lib.hid (show stp (S ^^^ d % 2) = S / 2 by rw [hd]; exact hst.symm)
              clear hs hd hst
              go_wp2_with fail
              go_round
              case rel => exact ⟨m + 1, by omega, by go_num, by rw [HB2.out, HST.out]; go_num, by rw [HC2.out]; go_num⟩
              case measure => simp [intOf]; omega
            · have b1 : ((S : Int) % 2 == 1) = false := by simp; omega
              have b2 : ((d : Int) % 2 == 1) = true := by simp; omega
              have hst := HS.out
              rw [hs, hd] at hst
              have HST := Lib.hid (show stp (S ^^^ d % 2) = S / 2 ^^^ crcPoly by rw [hd]; exact hst.symm)
              clear hs hd hst
              go_wp2_with fail
              go_round
              case rel => exact ⟨m + 1, by omega, by go_num, by rw [HB2.out, HST.out]; exact congrArg _ HX.out, by rw [HC2.out]; go_num⟩
              case measure => simp [intOf]; omega
          · rcases Nat.mod_two_eq_zero_or_one d with hd | hd
            · have b1 : ((S : Int) % 2 == 1) = true := by simp; omega
              have b2 : ((d : Int) % 2 == 1) = false := by simp; omega
              have hst := HS.out
              rw [hs, hd] at hst
              have HST := Lib.hid (show stp (S ^^^ d % 2) = S / 2 ^^^ crcPoly by rw [hd]; exact hst.symm)
              clear hs hd hst
              go_wp2_with fail
              go_round
              case rel => exact ⟨m + 1, by omega, by go_num, by rw [HB2.out, HST.out]; exact congrArg _ HX.out, by rw [HC2.out]; go_num⟩
              case measure => simp [intOf]; omega
            · have b1 : ((S : Int) % 2 == 1) = true := by simp; omega
              have b2 : ((d : Int) % 2 == 1) = true := by simp; omega
              have hst := HS.out
              rw [hs, hd] at hst
              have HST := Lib.hid (show stp (S ^^^ d % 2) = S / 2 by rw [hd]; exact hst.symm)
              clear hs hd hst
              go_wp2_with fail
              go_round
              case rel => exact ⟨m + 1, by omega, by go_num, by rw [HB2.out, HST.out]; go_num, by rw [HC2.out]; go_num⟩
              case measure => simp [intOf]; omega
        · obtain rfl : m = 8 := by omega
          have hc8 : c % 2 ^ 8 = c := Nat.mod_eq_of_lt hx
          rw [hc8]
          go_wp2_with fail
          go_round
          case rel => exact ⟨k + 1, by omega, by go_num, by rw [HT.out]; rfl⟩
          case measure => simp [intOf]; omega
    · have hT : l.take k = l := List.take_of_length_le (by omega)
      rw [hT] at hR ⊢
      have HF := Lib.hid (show crcSum l = 4294967295 - crcReg crcAll l from (flip_all hR).symm)
      generalize crcReg crcAll l = R at *
      go_wp2_with fail
      go_ret
      exact ⟨by rw [HF.out]; go_num, rfl⟩

end Go.Proofs.Ytbmcajhknohhdaa

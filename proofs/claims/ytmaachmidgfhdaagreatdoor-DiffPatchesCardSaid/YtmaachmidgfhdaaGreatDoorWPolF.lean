/-
  The program's policies: Owned, First, down, ActsFor, Caps.
-/
import Derived.Test.YtmaachmidgfhdaaGreatDoorWPolE
import Derived.Test.YtmaachmidgfhdaaGreatDoorWGraL
import Derived.Test.YtmaachmidgfhdaaGreatDoorW1
/-! PolF -/
namespace Go.Proofs.YtmaachmidgfhdaaGreatDoor
open Go.RowKit

set_option maxRecDepth 100000 in
set_option maxHeartbeats 3200000 in
theorem pOwned_any : POwnedC := by
  intro p R w hp _ hR
  have HG0 := Lib.hid (show PW w w.heap.size p (w.alloc (.cells (polC p) 29)) from ⟨belowNew w _, PRow.new w p, rfl⟩)
  have HHa := Lib.hid (fun V (o : Nat) => Has_any R (o : Int) V hR)
  have HO := Lib.hid hp.owner
  have HN := Lib.hid (show ownedN p R = setG (fun t => R.testBit (p.owner t)) 16 from rfl)
  have HIX := Lib.hid (fun (k : Nat) (hk : k < 16) (V : World) => run_index_owns p hk V)
  rw [HN.out]
  clear hp hR HN
  go_enter Tryz.func36, Tryz.ntmps36
  have hrow := HG0.out.row
  go_wp2_with (refine wpList_load_mid rfl _ _ rfl rfl hrow (pol_owns p) Tryz.underlying27 rfl (infoOwns p) ?_)
  clear hrow
  generalize w.alloc (.cells (polC p) 29) = w1 at *
  generalize w.heap.size = bp at *
  go_loopw [5, 10] (fun o i wr => ∃ k : Nat, k ≤ 16 ∧ i = .int .i64 (k : Int) ∧ o = .int .u16 (setG (fun t => R.testBit (p.owner t)) k : Nat) ∧ PW w bp p wr) (fun _ i _ => 16 - (intOf i).toNat)
  case atStart => exact ⟨0, by omega, rfl, rfl, HG0.out⟩
  case round =>
    obtain ⟨k, hk, rfl, rfl, hg⟩ := hrel
    have HG := Lib.hid hg
    clear hg HG0
    by_cases hlt : k < 16
    · have dk : decide ((k : Int) < 16) = true := by simp; omega
      have hk16 : (k : Int) < 16 := by omega
      have hk0 : (0 : Int) ≤ (k : Int) := by omega
      have hxi := fun V => HIX.out k hlt V
      have HU := Lib.hid (setG_lt (fun t => R.testBit (p.owner t)) (k := k) (by omega))
      have ho := HO.out k hlt
      have HHas := Lib.hid (fun V => HHa.out V (p.owner k))
      rw [hasB_bit] at HHas
      cases hl : R.testBit (p.owner k) with
      | false =>
        rw [hl] at HHas
        have HS := Lib.hid (setG_no (b := fun t => R.testBit (p.owner t)) (k := k) hl)
        clear hl
        generalize setG (fun t => R.testBit (p.owner t)) k = U at *
        generalize p.owner k = po at *
        go_wp2_with fail
        with_reducible refine (HHas.out _).mono ?_
        rintro e wx ⟨rfl, rfl⟩
        go_wp2_with fail
        go_roundw
        case rel => first | exact ⟨k + 1, by omega, by go_num, by rw [HS.out], HG.out⟩ | ((repeat apply Exists.intro); exact ⟨⟨k + 1, by omega, by go_num, by rw [HS.out], HG.out⟩, rfl⟩)
        case measure => simp [intOf]; omega
      | true =>
        rw [hl] at HHas
        have HS := Lib.hid (setG_yes (b := fun t => R.testBit (p.owner t)) (k := k) hl)
        have HW := Lib.hid (ofL_with HU.out hlt)
        clear hl
        generalize setG (fun t => R.testBit (p.owner t)) k = U at *
        generalize p.owner k = po at *
        go_wp2_with fail
        with_reducible refine (HHas.out _).mono ?_
        rintro e wx ⟨rfl, rfl⟩
        go_wp2_with fail
        with_reducible refine (of_one wr k).mono ?_
        rintro e w4 ⟨rfl, rfl⟩
        go_wp2_with fail
        go_roundw
        case rel => first | exact ⟨k + 1, by omega, by go_num, by rw [HW.out, HS.out], HG.out.step (belowNew _ _)⟩ | ((repeat apply Exists.intro); exact ⟨⟨k + 1, by omega, by go_num, by rw [HW.out, HS.out], HG.out.step (belowNew _ _)⟩, rfl⟩)
        case measure => simp [intOf]; omega
    · obtain rfl : k = 16 := by omega
      go_wp2_with fail
      go_ret
      exact ⟨rfl, HG.out.all⟩
theorem ofL_pw {a : Int} (h0 : 0 ≤ a) (h1 : a < 16) : ofL 0 [a] = withN 0 a.toNat := by
  obtain ⟨k, rfl⟩ := Int.eq_ofNat_of_zero_le h0
  rw [Int.toNat_natCast, ofL_one (by omega)]
  unfold pw withN; rw [Nat.zero_or]
end Go.Proofs.YtmaachmidgfhdaaGreatDoor

/-
  The contracts of what reads a slice of integers: tagset.Of, its reference, and the comparison of two lists.
-/
import Derived.Test.YtimbhamdblganaaWTagA
/-! TagL -/
namespace Go.Proofs.Ytimbhamdblganaa
open Go.RowKit

/-- In the world w the slice v holds just these integers. -/
def IntsAt (w : World) (v : Value) (zs : List Int) : Prop :=
  ∃ p cap, v = .slice p zs.length cap ∧ zs.length ≤ 9223372036854775807 ∧ (zs ≠ [] → ∃ b off, p = some ⟨b, off, none⟩ ∧ ∀ i, i < zs.length → w.cell? ⟨b, off + i, none⟩ = some (.int .i64 (zs.getD i 0)))

theorem take_succ_getD (zs : List Int) (k : Nat) (h : k < zs.length) : zs.take (k + 1) = zs.take k ++ [zs.getD k 0] := by
  rw [List.take_succ_eq_append_getElem h]; simp [List.getD, h]


set_option maxHeartbeats 400000 in
theorem Of_any (v : Value) (zs : List Int) (w : World) (h : IntsAt w v zs) :
    Calls Try.prog 27 #[v] w fun e w' => e = .returned (.int .u16 (ofL 0 zs : Nat)) ∧ w = w' := by
  obtain ⟨p, cap, rfl, hm, hc⟩ := h
  go_enter Try.func27, Try.ntmps27
  go_wp2_with fail
  go_loop [3, 8] (fun s i => ∃ k : Nat, k ≤ zs.length ∧ i = .int .i64 k ∧ s = .int .u16 (ofL 0 (zs.take k) : Nat)) (fun _ i => zs.length - (intOf i).toNat)
  case atStart => exact ⟨0, Nat.zero_le _, rfl, rfl⟩
  case round =>
    obtain ⟨k, hk, rfl, rfl⟩ := hrel
    have hlt0 := ofL_lt (s := 0) (by decide) (zs.take k)
    by_cases hlt : k < zs.length
    · have hne : zs ≠ [] := by intro e; rw [e] at hlt; simp at hlt
      obtain ⟨b, off, rfl, hc2⟩ := hc hne
      have hcell := hc2 k hlt
      have HS := Lib.hid (take_succ_getD zs k hlt)
      have HO := Lib.hid (ofL_snoc 0 (zs.take k) (zs.getD k 0))
      clear hc hc2
      generalize zs.getD k 0 = t at *
      by_cases ht : 0 ≤ t ∧ t < 16
      · have HT := Lib.hid (isTagB_yes ht.1 ht.2)
        have HB := Lib.hid (shl_or (ofL 0 (zs.take k)) t hlt0 ht.1 ht.2)
        obtain ⟨ht0, ht1⟩ := ht
        go_wp2_with (go_at_call 29; refine (isTag_any _ _).mono ?_; rintro e w' ⟨rfl, rfl⟩; rw [HT.out])
        go_round
        case rel => exact ⟨k + 1, by omega, by go_num, by rw [HS.out, HO.out, if_pos ⟨ht0, ht1⟩, ← HB.out]⟩
        case measure => simp [intOf]; omega
      · have HT := Lib.hid (isTagB_no ht)
        go_wp2_with (go_at_call 29; refine (isTag_any _ _).mono ?_; rintro e w' ⟨rfl, rfl⟩; rw [HT.out])
        go_round
        case rel => exact ⟨k + 1, by omega, by go_num, by rw [HS.out, HO.out, if_neg ht]⟩
        case measure => simp [intOf]; omega
    · have HK := Lib.hid (show zs.take k = zs from List.take_of_length_le (by omega))
      go_wp2_with fail
      go_ret
      exact ⟨ret_int (by rw [HK.out]), rfl⟩

end Go.Proofs.Ytimbhamdblganaa

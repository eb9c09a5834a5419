/-
  The reference's parser.
-/
import Derived.Test.YtpmolglmpgkcbaaDoorTagN
namespace Go.Proofs.YtpmolglmpgkcbaaDoor
open Go.RowKit

theorem front_list (r d : List UInt8) : ((⟨r.toArray⟩ : ByteArray).extract 0 (d.length + 1)).toList = r.take (d.length + 1) := by
  rw [Lib.toList_data, Lib.extract_data]; simp
theorem take_front (d r' : List UInt8) : (d ++ 44 :: r').take (d.length + 1) = d ++ [44] := by
  rw [List.take_append, List.take_of_length_le (by omega), Nat.add_sub_cancel_left]; rfl
theorem back_list (r : List UInt8) (k : Nat) : (⟨r.toArray⟩ : ByteArray).extract k r.length = ⟨(r.drop k).toArray⟩ := by
  apply strB_of
  rw [Lib.extract_data, List.take_of_length_le (by simp)]
theorem comma_list (d : List UInt8) : ((⟨d.toArray⟩ : ByteArray) ++ (⟨#[44]⟩ : ByteArray)).toList = d ++ [44] := by
  rw [show (⟨#[44]⟩ : ByteArray) = ⟨[44].toArray⟩ from rfl, ByteArray.mk_append_mk, Lib.toList_data]

/-- What the reference's Parse answers to a text. -/
def RefSays (l : List UInt8) (e : Ending) : Prop :=
  (∃ a : Nat, a < 65536 ∧ textN a = l ∧ e = .returned (.tuple #[.int .u16 a, .bool true])) ∨ ((∀ a : Nat, a < 65536 → textN a ≠ l) ∧ e = .returned (.tuple #[.int .u16 0, .bool false]))

set_option maxHeartbeats 2000000 in
theorem rParse_any (s : ByteArray) (hs : s.size ≤ 1000) (w : World) :
    Calls Tryd.prog 32 #[.string s] w fun e w' => RefSays s.data.toList e ∧ w = w' := by
  obtain ⟨l, rfl⟩ : ∃ l, s = ⟨l.toArray⟩ := ⟨s.data.toList, strB_of rfl⟩
  have hs' : l.length ≤ 1000 := by have := strB_size l; unfold strB at this; omega
  show Calls _ _ _ _ fun e w' => RefSays l e ∧ _
  clear hs
  by_cases hm : l = [45]
  · subst hm
    have hpost : RefSays [45] (.returned (.tuple #[.int .u16 0, .bool true])) := .inl ⟨0, by decide, by decide, rfl⟩
    go_enter Tryd.func32, Tryd.ntmps32
    go_wp2_with fail
    go_ret2
    exact ⟨hpost, rfl⟩
  · have hne : ((⟨l.toArray⟩ : ByteArray).toList == [45]) = false := by rw [Lib.toList_data]; simpa using hm
    have hne2 : (l == [45]) = false := by simpa using hm
    have hSt := Lib.hid (Scan.start hm)
    have hpostN : (∀ a, a < 65536 → textN a ≠ l) → RefSays l (.returned (.tuple #[.int .u16 0, .bool false])) := fun h => .inr ⟨h, rfl⟩
    have hpostY : ∀ a : Nat, a < 65536 ∧ textN a = l → RefSays l (.returned (.tuple #[.int .u16 a, .bool true])) := fun a h => .inl ⟨_, h.1, h.2, rfl⟩
    have HN := Lib.hid hpostN
    have HY := Lib.hid hpostY
    generalize hPS : RefSays l = PS at *
    clear hm hpostN hpostY hPS
    go_enter Tryd.func32, Tryd.ntmps32
    go_wp2_with fail
    go_loop [4, 5, 6] (fun st re i => ∃ (t : Nat) (pre : List Nat) (r : List UInt8), t ≤ 16 ∧ i = .int .i64 t ∧ st = .int .u16 (setN 0 pre : Nat) ∧ re = .string ⟨r.toArray⟩ ∧ r.length ≤ 1000 ∧ Hid (Scan l t pre r)) (fun _ _ i => 16 - (intOf i).toNat)
    case atStart => exact ⟨0, [], l, by omega, rfl, rfl, rfl, hs', hSt⟩
    case round =>
      obtain ⟨t, pre, r, ht, rfl, rfl, rfl, hr, HS⟩ := hrel
      by_cases hlt : t < 16
      · have hset := setN_lt pre 0 (by decide) HS.out.inv.small
        have HD := Lib.hid (fun W => number_any t hlt W)
        have HW := Lib.hid (fun W => rWith_yes (setN 0 pre) (t : Int) W hset (by omega) (by omega))
        have hdl := (dig_len ⟨t, hlt⟩).2
        simp only at hdl
        have hs1 : (⟨r.toArray⟩ : ByteArray).size = r.length := strB_size r
        have hs2 : (⟨#[44]⟩ : ByteArray).size = 1 := rfl
        by_cases h1 : r = dig t
        · have HH := Lib.hid (HS.out.hit hlt h1)
          rw [← h1] at HD
          clear h1
          go_wp2_with (first | (go_at_call 39; refine (HD.out _).mono ?_; rintro e w' ⟨rfl, rfl⟩) | (go_at_call 35; refine (HW.out _).mono ?_; rintro e w' ⟨rfl, rfl⟩))
          go_ret2
          exact ⟨HY.out _ HH.out, rfl⟩
        · have H1 := Lib.hid h1
          have hq : (r == dig t) = false := by simpa using h1
          clear h1
          by_cases hlen : (dig t).length < r.length
          · generalize hd : dig t = d at *
            have HDg := Lib.hid hd
            clear hd
            have hs3 : (⟨d.toArray⟩ : ByteArray).size = d.length := strB_size d
            have hb1 : ¬ 9223372036854775807 < d.length + 1 := by omega
            go_wp2_with (first | (go_at_call 39; refine (HD.out _).mono ?_; rintro e w' ⟨rfl, rfl⟩) | (go_at_call 35; refine (HW.out _).mono ?_; rintro e w' ⟨rfl, rfl⟩))
            · rename_i hh
              rw [front_list, comma_list] at hh
              have hfr := front_iff (eq_of_beq hh)
              have HF := Lib.hid hfr
              have HZ := Lib.hid (back_list r (d.length + 1))
              have HS2 := Lib.hid (setN_snoc 0 pre t)
              clear hh hfr
              go_round
              case rel => exact ⟨t + 1, pre ++ [t], r.drop (d.length + 1), by omega, by go_num, by rw [HS2.out], by rw [HZ.out], by rw [List.length_drop]; omega, Lib.hid (HS.out.go hlt (by rw [HDg.out]; exact HF.out))⟩
              case measure => simp [intOf]; omega
            · rename_i hh
              rw [front_list, comma_list] at hh
              have HF := Lib.hid hh
              clear hh
              go_round
              case rel => exact ⟨t + 1, pre, r, by omega, by go_num, rfl, rfl, hr, Lib.hid (HS.out.skip hlt (by rw [HDg.out]; exact H1.out) (fun r' e => by
                have h2 := HF.out
                rw [HDg.out] at e
                rw [e] at h2
                rw [beq_eq_false_iff_ne] at h2
                exact h2 (take_front d r')))⟩
              case measure => simp [intOf]; omega
          · generalize hd : dig t = d at *
            have HDg := Lib.hid hd
            clear hd
            have hs3 : (⟨d.toArray⟩ : ByteArray).size = d.length := strB_size d
            have hlen2 : r.length ≤ d.length := by omega
            go_wp2_with (go_at_call 39; refine (HD.out _).mono ?_; rintro e w' ⟨rfl, rfl⟩)
            go_round
            case rel => exact ⟨t + 1, pre, r, by omega, by go_num, rfl, rfl, hr, Lib.hid (HS.out.skip hlt (by rw [HDg.out]; exact H1.out) (fun r' e => by
                rw [HDg.out] at e
                have := congrArg List.length e
                simp at this
                omega))⟩
            case measure => simp [intOf]; omega
      · have HT := Lib.hid (show t = 16 by omega)
        go_wp2_with fail
        go_ret2
        exact ⟨HN.out (by have := HS.out; rw [HT.out] at this; exact this.fail), rfl⟩

end Go.Proofs.YtpmolglmpgkcbaaDoor

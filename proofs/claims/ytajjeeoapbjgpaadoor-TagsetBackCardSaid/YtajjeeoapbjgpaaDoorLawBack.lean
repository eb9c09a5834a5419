/-
  The walk of the law TagsetBack.
-/
import Derived.Test.YtajjeeoapbjgpaaDoorLawTells
import Derived.Deep.QuietTactic
import Derived.BigQuiet
import Derived.IntWalk
namespace Go.Proofs.YtajjeeoapbjgpaaDoor
open Go.RowKit

/-- Are the first k tags of a list in the other set? -/
def allB (b : Nat) (l : List Nat) : Bool := l.all fun t => b.testBit t
theorem allB_snoc (b : Nat) (l : List Nat) (t : Nat) : allB b (l ++ [t]) = (allB b l && b.testBit t) := by simp [allB]
theorem allB_tags (a b : Nat) : allB b (tagsN a) = subB a b := rfl
theorem ofL_tags (s : Nat) : ∀ (l : List Nat), Small l → ofL s (l.map fun x : Nat => (x : Int)) = setN s l
  | [], _ => rfl
  | t :: r, h => by
    rw [List.map_cons, ofL, setN, if_pos (by have := h t (by simp); omega), Int.toNat_natCast]
    exact ofL_tags _ r (fun x hx => h x (List.mem_cons_of_mem _ hx))

theorem Has_nat (b d : Nat) (w : World) (hb : b < 65536) :
    Calls Tryd.prog 13 #[.int .u16 (b : Int), .int .i64 (d : Int)] w fun e w' => e = .returned (.bool (b.testBit d)) ∧ w = w' := by
  refine (Has_any b d w hb).mono ?_
  rintro e w' ⟨he, hw⟩
  exact ⟨by rw [he]; simp [hasB], hw⟩
theorem sorted_getD {l : List Nat} (h : l.Pairwise (· < ·)) (j : Nat) (hj : j + 1 < l.length) : l.getD j 0 < l.getD (j + 1) 0 := by
  have := List.pairwise_iff_getElem.1 h j (j + 1) (by omega) hj (by omega)
  have h1 : j < l.length := by omega
  simpa [List.getD, hj, h1] using this

set_option maxRecDepth 100000 in
set_option maxHeartbeats 4000000 in
theorem back_any (a b : Nat) (ha : a < 65536) (hb : b < 65536) (w : World) (hE : Env w) :
    Calls Tryd.prog 5 #[.int .u16 (a : Int), .int .u16 (b : Int)] w fun e w' => e = .returned (.bool true) ∧ Below w.heap.size w w' := by
  have HE := Lib.hid hE
  have hL := hE.lt
  clear hE
  have hl16 := tagsN_length_le a
  have HPa := Lib.hid (fun W hW => Parse_is ⟨(textN a).toArray⟩ a ha rfl (by rw [show (⟨(textN a).toArray⟩ : ByteArray).size = (textN a).length from strB_size _]; have := textN_len a; omega) W hW)
  have HTa := Lib.hid (fun W hW => Text_any a ha W hW)
  have HTb := Lib.hid (fun W hW => Text_any b hb W hW)
  go_enter Tryd.func5, Tryd.ntmps5
  go_wp2_with fail
  refine (alive_any _ HE.out).mono ?_
  rintro e w1 ⟨rfl, hB⟩
  go_wp2_with fail
  refine (tags_any a ha _ (HE.out.below hB hL)).mono ?_
  rintro e w2 ⟨y, rfl, hrow, hB1⟩
  have hY := intsAt_of_owns hl16 hrow
  have HY := Lib.hid hY
  have hB2 := hB.trans (hB1.mono hB.size)
  obtain ⟨py, cy, rfl⟩ := owns_shape hrow
  clear hrow hB hB1 hY
  go_wp2_with fail
  refine (HTa.out _ (HE.out.below hB2 hL)).mono ?_
  rintro e w3 ⟨rfl, hB3⟩
  have hB4 := hB2.trans (hB3.mono hB2.size)
  have HY4 := Lib.hid (HY.out.below hB3)
  clear hB2 hB3 HY
  go_wp2_with fail
  refine (HPa.out _ (HE.out.below hB4 hL)).mono ?_
  rintro e w4 ⟨rfl, hB5⟩
  have hB6 := hB4.trans (hB5.mono hB4.size)
  have HY6 := Lib.hid (HY4.out.below hB5)
  clear hB4 hB5 HY4
  go_wp2_with fail
  have HSm := Lib.hid (small_tagsN a)
  have HSo := Lib.hid (sorted_tagsN a)
  go_loopw [8, 9] (fun al i wr => ∃ k : Nat, k ≤ (tagsN a).length ∧ i = .int .i64 k ∧ al = .bool (allB b ((tagsN a).take k)) ∧ (∃ nv, wr = w4.drewN nv)) (fun _ i _ => (tagsN a).length - (intOf i).toNat)
  case atStart => exact ⟨0, Nat.zero_le _, rfl, rfl, 0, rfl⟩
  case round =>
    obtain ⟨k, hk, rfl, rfl, nv, rfl⟩ := hrel
    by_cases hlt : k < (tagsN a).length
    · obtain ⟨bk, off, hp, hcs⟩ := ints_cells HY6.out (by omega)
      subst hp
      have c1 := hcs k hlt
      have HC := Lib.hid hcs
      have hd16 := small_getD HSm.out k hlt
      have HTk := Lib.hid (take_succ_getN (tagsN a) k hlt)
      have i0 : (0 : Int) ≤ k := by omega
      have i1 : (k : Int) < (tagsN a).length := by omega
      clear hcs
      generalize hd : (tagsN a).getD k 0 = d at *
      have HD := Lib.hid hd
      clear hd
      have HH0 := Lib.hid (fun W => Has_nat b d W hb)
      cases hAl : allB b ((tagsN a).take k)
      · have HAl := Lib.hid hAl
        have HH := HH0
        clear hAl
        by_cases hk0 : k = 0
        · have hp0 : decide ((0 : Int) < (k : Int)) = false := by rw [decide_eq_false_iff_not]; omega
          have hpn : decide (0 < k) = false := by rw [decide_eq_false_iff_not]; omega
          clear hk0
          go_wp2_with (go_at_call 13; refine (HH.out _).mono ?_; rintro e w' ⟨rfl, rfl⟩)
          go_quiet (fail)
          go_wp2
          go_roundw
          case rel => exact ⟨k + 1, by omega, by go_num, by rw [HTk.out, allB_snoc, HAl.out]; rfl, nv + nq, rfl⟩
          case measure => simp [intOf]; omega
        · obtain ⟨j, hj⟩ : ∃ j, k = j + 1 := ⟨k - 1, by omega⟩
          have c2 := HC.out j (by omega)
          have hlt2 := sorted_getD HSo.out j (by omega)
          rw [← hj, HD.out] at hlt2
          generalize hd2 : (tagsN a).getD j 0 = d2 at *
          have hle2 : decide (d ≤ d2) = false := by rw [decide_eq_false_iff_not]; omega
          have hpk : 0 < k := by omega
          have hp0 : decide ((0 : Int) < (k : Int)) = true := by rw [decide_eq_true_iff]; omega
          have i2 : (0 : Int) ≤ (j : Int) := by omega
          have i3 : (j : Int) < (tagsN a).length := by omega
          have hs1 : (k : Int) - 1 = (j : Int) := by omega
          have hs2 : IntKind.i64.wrap ((k : Int) - 1) = (j : Int) := by rw [hs1]; exact IntWalk.i64_in _ (by omega)
          clear hd2 hj hk0
          go_wp2_with (go_at_call 13; refine (HH.out _).mono ?_; rintro e w' ⟨rfl, rfl⟩)
          go_quiet (fail)
          go_wp2
          go_roundw
          case rel => exact ⟨k + 1, by omega, by go_num, by rw [HTk.out, allB_snoc, HAl.out]; rfl, nv + nq, rfl⟩
          case measure => simp [intOf]; omega
      · have HAl := Lib.hid hAl
        clear hAl
        cases hTb : b.testBit d
        · have HTb2 := Lib.hid hTb
          have HH := Lib.hid (by have h := HH0.out; rw [hTb] at h; exact h)
          clear hTb
          by_cases hk0 : k = 0
          · have hp0 : decide ((0 : Int) < (k : Int)) = false := by rw [decide_eq_false_iff_not]; omega
            have hpn : decide (0 < k) = false := by rw [decide_eq_false_iff_not]; omega
            clear hk0
            go_wp2_with (go_at_call 13; refine (HH.out _).mono ?_; rintro e w' ⟨rfl, rfl⟩)
            go_quiet (fail)
            go_wp2
            go_roundw
            case rel => exact ⟨k + 1, by omega, by go_num, by rw [HTk.out, allB_snoc, HAl.out, HTb2.out]; rfl, nv + nq, rfl⟩
            case measure => simp [intOf]; omega
          · obtain ⟨j, hj⟩ : ∃ j, k = j + 1 := ⟨k - 1, by omega⟩
            have c2 := HC.out j (by omega)
            have hlt2 := sorted_getD HSo.out j (by omega)
            rw [← hj, HD.out] at hlt2
            generalize hd2 : (tagsN a).getD j 0 = d2 at *
            have hle2 : decide (d ≤ d2) = false := by rw [decide_eq_false_iff_not]; omega
            have hpk : 0 < k := by omega
            have hp0 : decide ((0 : Int) < (k : Int)) = true := by rw [decide_eq_true_iff]; omega
            have i2 : (0 : Int) ≤ (j : Int) := by omega
            have i3 : (j : Int) < (tagsN a).length := by omega
            have hs1 : (k : Int) - 1 = (j : Int) := by omega
            have hs2 : IntKind.i64.wrap ((k : Int) - 1) = (j : Int) := by rw [hs1]; exact IntWalk.i64_in _ (by omega)
            clear hd2 hj hk0
            go_wp2_with (go_at_call 13; refine (HH.out _).mono ?_; rintro e w' ⟨rfl, rfl⟩)
            go_quiet (fail)
            go_wp2
            go_roundw
            case rel => exact ⟨k + 1, by omega, by go_num, by rw [HTk.out, allB_snoc, HAl.out, HTb2.out]; rfl, nv + nq, rfl⟩
            case measure => simp [intOf]; omega
        · have HTb2 := Lib.hid hTb
          have HH := Lib.hid (by have h := HH0.out; rw [hTb] at h; exact h)
          have hdg : (0 : Int) ≤ (d : Int) := by omega
          have hdl : (d : Int) < 16 := by omega
          clear hTb
          by_cases hk0 : k = 0
          · have hp0 : decide ((0 : Int) < (k : Int)) = false := by rw [decide_eq_false_iff_not]; omega
            have hpn : decide (0 < k) = false := by rw [decide_eq_false_iff_not]; omega
            clear hk0
            go_wp2_with (go_at_call 13; refine (HH.out _).mono ?_; rintro e w' ⟨rfl, rfl⟩)
            go_quiet (fail)
            go_wp2
            go_roundw
            case rel => exact ⟨k + 1, by omega, by go_num, by rw [HTk.out, allB_snoc, HAl.out, HTb2.out]; rfl, nv + nq, rfl⟩
            case measure => simp [intOf]; omega
          · obtain ⟨j, hj⟩ : ∃ j, k = j + 1 := ⟨k - 1, by omega⟩
            have c2 := HC.out j (by omega)
            have hlt2 := sorted_getD HSo.out j (by omega)
            rw [← hj, HD.out] at hlt2
            generalize hd2 : (tagsN a).getD j 0 = d2 at *
            have hle2 : decide (d ≤ d2) = false := by rw [decide_eq_false_iff_not]; omega
            have hpk : 0 < k := by omega
            have hp0 : decide ((0 : Int) < (k : Int)) = true := by rw [decide_eq_true_iff]; omega
            have i2 : (0 : Int) ≤ (j : Int) := by omega
            have i3 : (j : Int) < (tagsN a).length := by omega
            have hs1 : (k : Int) - 1 = (j : Int) := by omega
            have hs2 : IntKind.i64.wrap ((k : Int) - 1) = (j : Int) := by rw [hs1]; exact IntWalk.i64_in _ (by omega)
            clear hd2 hj hk0
            go_wp2_with (go_at_call 13; refine (HH.out _).mono ?_; rintro e w' ⟨rfl, rfl⟩)
            go_quiet (fail)
            go_wp2
            go_roundw
            case rel => exact ⟨k + 1, by omega, by go_num, by rw [HTk.out, allB_snoc, HAl.out, HTb2.out]; rfl, nv + nq, rfl⟩
            case measure => simp [intOf]; omega
    · have HK := Lib.hid (show allB b ((tagsN a).take k) = subB a b by rw [List.take_of_length_le (by omega)]; rfl)
      rw [HK.out]
      have hB7 : Below w.heap.size w (w4.drewN nv) := hB6.trans ((below_drewN' w4 nv).mono hB6.size)
      have HY7 := Lib.hid (HY6.out.below (below_drewN' w4 nv))
      have HO := Lib.hid (show ofL 0 ((tagsN a).map fun x : Nat => (x : Int)) = a from (ofL_tags 0 _ HSm.out).trans (setN_tagsN ha))
      clear hB6 HY6
      go_wp2_with fail
      refine (Of_any _ _ _ HY7.out).mono ?_
      rintro e w5 ⟨rfl, hw5⟩
      rw [HO.out]
      have hB8 : Below w.heap.size w w5 := by rw [← hw5]; exact hB7
      clear hw5 hB7 HY7
      go_wp2_with fail
      refine (Sub_any a b _ ha hb).mono ?_
      rintro e w6 ⟨rfl, rfl⟩
      go_wp2_with fail
      refine (HTa.out _ (HE.out.below hB8 hL)).mono ?_
      rintro e w6 ⟨rfl, hB9⟩
      have hB10 := hB8.trans (hB9.mono hB8.size)
      clear hB8 hB9
      go_wp2_with fail
      refine (HTb.out _ (HE.out.below hB10 hL)).mono ?_
      rintro e w7 ⟨rfl, hB11⟩
      have hB12 := hB10.trans (hB11.mono hB10.size)
      clear hB10 hB11
      by_cases hab : a = b
      · subst hab
        go_wp2_with fail
        refine (alive_any _ (HE.out.below hB12 hL)).mono ?_
        rintro e w8 ⟨rfl, hB13⟩
        go_wp2_with fail
        go_ret
        exact ⟨rfl, hB12.trans (hB13.mono hB12.size)⟩
      · have ht1 : (textN a == textN b) = false := by rw [beq_eq_false_iff_ne]; exact fun e => hab (textN_inj ha hb e)
        have ht2 : ((a : Int) == (b : Int)) = false := by rw [beq_eq_false_iff_ne]; omega
        go_wp2_with fail
        refine (alive_any _ (HE.out.below hB12 hL)).mono ?_
        rintro e w8 ⟨rfl, hB13⟩
        go_wp2_with fail
        go_ret
        exact ⟨rfl, hB12.trans (hB13.mono hB12.size)⟩

end Go.Proofs.YtajjeeoapbjgpaaDoor

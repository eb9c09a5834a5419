/-
  The program's disk: Write.
-/
import Derived.Test.YtbmcajhknohhdaaDskG
namespace Go.Proofs.Ytbmcajhknohhdaa
open Go.RowKit

theorem putL_ext {all l : List UInt8} {o : Nat} (ext : List UInt8) (h : o + l.length ≤ all.length) : putL (all ++ ext) o l = putL all o l ++ ext := by
  unfold putL
  rw [List.take_append_of_le_length (by omega), List.drop_append_of_le_length h]
  simp [List.append_assoc]
theorem writeS_eq {S : DS} {i : Int} {l : List UInt8} (hh : hasD S i = true) (hl : l.length = 128) (hoff : S.off = false) :
    writeS S i l = ⟨putL S.all (128 * i.toNat) (writtenL S l), decide (S.fuse = 0), if S.fuse = 0 then -1 else if 0 < S.fuse then S.fuse - 1 else S.fuse, S.keep, S.wr + 1⟩ := by
  unfold writeS; rw [if_pos (by simp [writeOk, hh, hl, hoff])]
theorem wrote_at {S : DS} (hok : DSOk S) {i0 : Nat} {l : List UInt8} (hh : hasD S (i0 : Int) = true) (hl : l.length = 128) (hoff : S.off = false) {w w' : World} {b g cap : Nat} {ext : List UInt8} {armed ar : Bool} {left keep le ke : Int} (h : CDisk w b g cap ext armed left keep S)
    (hb : Blk w' b (diskV g S.len cap (!decide (S.fuse = 0)) ar le ke (S.wr + 1)) 65) (hr : Blk w' g (bvA (putL (S.all ++ ext) (i0 * 128) (writtenL S l))) 74)
    (hf : (0 < S.fuse ∧ ar = true ∧ le = S.fuse - 1 ∧ ke = S.keep) ∨ (S.fuse ≤ 0 ∧ ar = false)) : CDisk w' b g cap ext ar le ke (writeS S (i0 : Int) l) := by
  have hlen := writeS_len S hok (i0 : Int) l
  have hl2 : (writeS S (i0 : Int) l).len = S.len := by unfold DS.len; rw [hlen]
  have e := writeS_eq hh hl hoff
  have hw := writtenL_length hok hl
  have hi := (hasD_iff.1 hh).2
  have h1 := hok.len
  have ea : (writeS S (i0 : Int) l).all = putL S.all (128 * i0) (writtenL S l) := by rw [e]; rfl
  have eo : (writeS S (i0 : Int) l).off = decide (S.fuse = 0) := by rw [e]
  have ef : (writeS S (i0 : Int) l).fuse = if S.fuse = 0 then -1 else if 0 < S.fuse then S.fuse - 1 else S.fuse := by rw [e]
  have ek : (writeS S (i0 : Int) l).keep = S.keep := by rw [e]
  have ew : (writeS S (i0 : Int) l).wr = S.wr + 1 := by rw [e]
  refine ⟨by rw [hl2, eo, ew]; exact hb, ?_, ?_, by rw [hl2]; exact h.pos, by rw [hl2]; exact h.fits, h.small, h.apart⟩
  · rw [ea, ← putL_ext ext (by rw [hw]; omega), Nat.mul_comm 128 i0]; exact hr
  · rw [ef, ek]
    rcases hf with ⟨h1, h2, h3, h4⟩ | ⟨h1, h2⟩
    · left
      rw [if_neg (by omega), if_pos h1]
      exact ⟨by omega, h2, h3, h4⟩
    · right
      refine ⟨?_, h2⟩
      split
      · omega
      · rw [if_neg (by omega)]; omega

/-- The contract of Write, for some more writes behind. -/
def DWriteBC (K : DiskRel) : Prop := ∀ {w b S F p len cap l} (i : Int), K.At w b S F → DSOk S → S.wr ≤ 2000000 → BsAt w p len cap l → (∀ a, p = some a → ¬ F a.block) →
    Calls Try.prog 19 #[ptrV b, .int .i64 i, .slice p len cap] w fun e w' => ∃ F', e = .returned (.int .i64 (writeE S i l)) ∧ K.At w' b (writeS S i l) F' ∧ (∀ k, F' k → F k ∨ w.heap.size ≤ k) ∧ Chg F w w'
set_option maxRecDepth 100000 in
set_option maxHeartbeats 3200000 in
theorem dWrite_big : DWriteBC theRel := by
  rintro w b S F p len cp l i ⟨g, cap, ext, armed, left, keep, h, rfl⟩ hok hwr hb hap
  obtain ⟨k0, k1, k2, k3, k4, k5⟩ := disk_cells h.blk
  have HC := Lib.hid (dCheck_any i k0 h.pos)
  rw [checkE_has] at HC
  have HH := Lib.hid h
  have FIN := Lib.hid (show ∀ z : Int, writeE S i l = z → writeOk S i l = false → ∃ F', Ending.returned (Value.int .i64 z) = .returned (.int .i64 (writeE S i l)) ∧ theRel.At w b (writeS S i l) F' ∧ (∀ k, F' k → (k = b ∨ k = g) ∨ w.heap.size ≤ k) ∧ Chg (fun k => k = b ∨ k = g) w w from fun z e ho =>
    ⟨_, by rw [e], by unfold writeS; rw [if_neg (by rw [ho]; simp)]; exact ⟨g, cap, ext, armed, left, keep, h, rfl⟩, fun k hk => .inl hk, Chg.refl _ _⟩)
  have hsame := hb.same
  unfold ptrV at *
  cases hh : hasD S i with
  | false =>
    rw [hh] at HC
    have HC2 : Hid (Calls Try.prog 35 #[.pointer (some ⟨b, 0, none⟩), .int .i64 i] w fun e w' => e = .returned (.int .i64 8) ∧ w = w') := HC
    have HZ := Lib.hid (FIN.out 8 (by unfold writeE; rw [if_pos hh]) (by simp [writeOk, hh]))
    clear HC FIN hh k0 k1 k2 k3 k4 k5 h hb hap hsame
    go_enter Try.func19, Try.ntmps19
    go_wp2_with fail
    with_reducible refine HC2.out.mono ?_
    rintro e w1 ⟨rfl, rfl⟩
    go_wp2_with fail
    go_ret
    exact HZ.out
  | true =>
    rw [hh] at HC
    have HC2 : Hid (Calls Try.prog 35 #[.pointer (some ⟨b, 0, none⟩), .int .i64 i] w fun e w' => e = .returned (.int .i64 0) ∧ w = w') := HC
    by_cases hl : len = 128
    · subst hl
      rcases Bool.eq_false_or_eq_true S.off with ho | ho
      · have HZ := Lib.hid (FIN.out 19 (by unfold writeE; rw [if_neg (by rw [hh]; simp), if_neg (by omega), if_pos ho]) (by simp [writeOk, ho]))
        rw [ho] at k1
        clear HC FIN hh k0 k2 k3 k4 k5 h hb hap hsame ho
        go_enter Try.func19, Try.ntmps19
        go_wp2_with fail
        with_reducible refine HC2.out.mono ?_
        rintro e w1 ⟨rfl, rfl⟩
        go_wp2_with fail
        go_ret
        exact HZ.out
      · obtain ⟨hi0, hi1⟩ := hasD_iff.1 hh
        obtain ⟨i0, rfl⟩ := Int.eq_ofNat_of_zero_le hi0
        have hin : i0 < S.len := by omega
        have hlen := hok.len
        have hw0 := hok.wr0
        have HOK := Lib.hid hok
        have HL := Lib.hid (And.intro hsame.symm (And.intro hh ho))
        have HA := Lib.hid (show i0 * 128 + 128 ≤ (S.all ++ ext).length by rw [List.length_append]; omega)
        have HR := Lib.hid h.row
        have HB := Lib.hid (show Blk (w.setCell ⟨b, 5, none⟩ (.int .i64 (S.wr + 1))) b (diskV g S.len cap (!S.off) armed left keep (S.wr + 1)) 65 from h.blk.set 5 _)
        have HR1 := Lib.hid (h.row.set_other (a := ⟨b, 5, none⟩) (fun e => h.apart e.symm) (.int .i64 (S.wr + 1)))
        have HG1 := Lib.hid ((Chg.refl (fun k => k = b ∨ k = g) w).setCell (p := ⟨b, 5, none⟩) (fun _ => .inl rfl) (.int .i64 (S.wr + 1)))
        have HBs1 := Lib.hid (hb.chg HG1.out (fun a ha => hap a ha))
        have HP := Lib.hid hap
        have hwrap : IntKind.i64.wrap (S.wr + 1) = S.wr + 1 := IntWalk.i64_in _ (by omega)
        have f5 := h.blk.free 5
        have HFu := Lib.hid h.fuse
        have HE := Lib.hid (show writeE S (i0 : Int) l = if S.fuse = 0 then 19 else 0 from by unfold writeE; rw [if_neg (by rw [hh]; simp), if_neg (by omega), if_neg (by rw [ho]; simp)])
        rw [ho] at k1 HB
        clear HC FIN hh hi0 hi1 hok hwr hb hap h hlen ho hw0 hsame
        by_cases hf0 : S.fuse = 0
        · obtain ⟨q2, q3, q4⟩ : armed = true ∧ left = 0 ∧ keep = S.keep := by
            rcases HFu.out with ⟨q1, q2, q3, q4⟩ | ⟨q1, q2⟩
            · exact ⟨q2, by omega, q4⟩
            · omega
          subst q2
          subst q3
          obtain ⟨kp, hkp⟩ := Int.eq_ofNat_of_zero_le HOK.out.keep0
          have hkp2 : kp ≤ 128 := by have := HOK.out.keep1; omega
          rw [hkp] at q4
          subst q4
          have HQ := Lib.hid hf0
          have HW := Lib.hid (show writtenL S l = tornL (kp : Int) l from by unfold writtenL; rw [if_pos hf0, hkp])
          have HT := Lib.hid (dTear_any i0 HB.out HR1.out HH.out.apart hin HA.out hkp2 HBs1.out)
          have HKp := Lib.hid hkp
          unfold ptrV at HT
          obtain ⟨j0, j1, j2, j3, j4, j5⟩ := disk_cells HB.out
          clear hf0 HFu hkp hkp2
          go_enter Try.func19, Try.ntmps19
          go_wp2_with fail
          with_reducible refine HC2.out.mono ?_
          rintro e w1 ⟨rfl, rfl⟩
          go_wp2_with fail
          with_reducible refine HT.out.mono ?_
          rintro e w2 ⟨rfl, ht⟩
          have HT2 := Lib.hid ht
          clear ht
          go_wp2_with fail
          go_ret
          refine ⟨_, by rw [HE.out, if_pos HQ.out]; rfl, ⟨g, cap, ext, false, 0, 0, wrote_at HOK.out HL.out.2.1 HL.out.1 HL.out.2.2 HH.out ?_ ?_ (.inr ⟨by have := HQ.out; omega, rfl⟩), rfl⟩, fun k hk => .inl hk, HG1.out.trans HT2.out.2.2⟩
          · rw [show decide (S.fuse = 0) = true from decide_eq_true HQ.out]
            exact HT2.out.1
          · rw [HW.out]; exact HT2.out.2.1
        · rcases HFu.out with ⟨q1, q2, q3, q4⟩ | ⟨q1, q2⟩
          · subst q2
            subst q4
            have HQ := Lib.hid (And.intro q1 hf0)
            have hpos : ¬ left = 0 := by omega
            have HW := Lib.hid (show writtenL S l = l from by unfold writtenL; rw [if_neg hf0])
            have hwl : IntKind.i64.wrap (left - 1) = left - 1 := IntWalk.i64_in _ (by have := HOK.out.fuse1; omega)
            have HB2 := Lib.hid (show Blk ((w.setCell ⟨b, 5, none⟩ (.int .i64 (S.wr + 1))).setCell ⟨b, 3, none⟩ (.int .i64 (left - 1))) b (diskV g S.len cap true true (left - 1) S.keep (S.wr + 1)) 65 from HB.out.set 3 _)
            have HR2 := Lib.hid (HR1.out.set_other (a := ⟨b, 3, none⟩) (fun e => HH.out.apart e.symm) (.int .i64 (left - 1)))
            have HG2 := Lib.hid (HG1.out.setCell (p := ⟨b, 3, none⟩) (fun _ => .inl rfl) (.int .i64 (left - 1)))
            have HBs2 := Lib.hid (HBs1.out.chg ((Chg.refl (fun k => k = b ∨ k = g) _).setCell (p := ⟨b, 3, none⟩) (fun _ => .inl rfl) (.int .i64 (left - 1))) (fun a ha => HP.out a ha))
            have HF := Lib.hid q3
            obtain ⟨j0, j1, j2, j3, j4, j5⟩ := disk_cells HB.out
            have g3 := HB.out.free 3
            obtain ⟨i0', i1', i2', i3', i4', i5'⟩ := disk_cells HB2.out
            clear hf0 q1 HFu q3
            go_enter Try.func19, Try.ntmps19
            go_wp2_with fail
            with_reducible refine HC2.out.mono ?_
            rintro e w1 ⟨rfl, rfl⟩
            go_wp2_with (refine wpList_copy_part rfl _ _ 31 31 rfl 5 Try.underlying31 sizeB1 rfl rfl HR2.out HBs2.out HA.out ?_; intro w2 hw2; have HP2 := Lib.hid hw2; clear hw2)
            go_ret
            refine ⟨_, by rw [HE.out, if_neg HQ.out.2]; rfl, ⟨g, cap, ext, true, left - 1, S.keep, wrote_at HOK.out HL.out.2.1 HL.out.1 HL.out.2.2 HH.out ?_ ?_ (.inl ⟨by have := HQ.out; omega, rfl, by rw [HF.out], rfl⟩), rfl⟩, fun k hk => .inl hk, HG2.out.trans (HP2.out.chg.mono fun k _ hk => .inr hk)⟩
            · rw [show decide (S.fuse = 0) = false from decide_eq_false HQ.out.2]
              exact HB2.out.other HP2.out (fun e => HH.out.apart e.symm)
            · rw [HW.out]
              have h2 := HP2.out.blk
              rw [List.take_of_length_le (Nat.le_of_eq HL.out.1)] at h2
              exact h2
          · subst q2
            have HQ := Lib.hid q1
            have HW := Lib.hid (show writtenL S l = l from by unfold writtenL; rw [if_neg (by have := HQ.out; omega)])
            clear hf0 q1 HFu
            obtain ⟨j0, j1, j2, j3, j4, j5⟩ := disk_cells HB.out
            go_enter Try.func19, Try.ntmps19
            go_wp2_with fail
            with_reducible refine HC2.out.mono ?_
            rintro e w1 ⟨rfl, rfl⟩
            go_wp2_with (refine wpList_copy_part rfl _ _ 31 31 rfl 5 Try.underlying31 sizeB1 rfl rfl HR1.out HBs1.out HA.out ?_; intro w2 hw2; have HP2 := Lib.hid hw2; clear hw2)
            go_ret
            refine ⟨_, by rw [HE.out, if_neg (by have := HQ.out; omega)]; rfl, ⟨g, cap, ext, false, left, keep, wrote_at HOK.out HL.out.2.1 HL.out.1 HL.out.2.2 HH.out ?_ ?_ (.inr ⟨by have := HQ.out; omega, rfl⟩), rfl⟩, fun k hk => .inl hk, HG1.out.trans (HP2.out.chg.mono fun k _ hk => .inr hk)⟩
            · rw [show decide (S.fuse = 0) = false from decide_eq_false (by have := HQ.out; omega)]
              exact HB.out.other HP2.out (fun e => HH.out.apart e.symm)
            · rw [HW.out]
              have h2 := HP2.out.blk
              rw [List.take_of_length_le (Nat.le_of_eq HL.out.1)] at h2
              exact h2
    · have HZ := Lib.hid (FIN.out 1 (by unfold writeE; rw [if_neg (by rw [hh]; simp), if_pos (by omega)]) (by simp [writeOk]; intro _ h2; omega))
      have hl2 : ¬ (len : Int) = 128 := by omega
      clear HC FIN hh k0 k1 k2 k3 k4 k5 h hb hap hsame hl
      go_enter Try.func19, Try.ntmps19
      go_wp2_with fail
      with_reducible refine HC2.out.mono ?_
      rintro e w1 ⟨rfl, rfl⟩
      go_wp2_with fail
      go_ret
      exact HZ.out
theorem dWrite_any : DWriteC theRel := fun i hA ho hw hb hp => dWrite_big i hA ho (by omega) hb hp
end Go.Proofs.Ytbmcajhknohhdaa

/-
  The walk of the law TagsetTells.
-/
import Derived.Test.YtajjeeoapbjgpaaDoorTagV
namespace Go.Proofs.YtajjeeoapbjgpaaDoor
open Go.RowKit

theorem IntsAt.below {w w' : World} {v : Value} {zs : List Int} (h : IntsAt w v zs) (hB : Below w.heap.size w w') : IntsAt w' v zs := by
  obtain ⟨p, cap, hv, hl, hc⟩ := h
  refine ⟨p, cap, hv, hl, fun hne => ?_⟩
  obtain ⟨b, off, hp, hcs⟩ := hc hne
  refine ⟨b, off, hp, fun i hi => ?_⟩
  have h1 := hcs i hi
  exact (hB.cell (p := ⟨b, off + i, none⟩) (lt_of_cell h1)).trans h1
theorem ctz_first {a : Nat} (h0 : a ≠ 0) (h1 : a < 65536) : Lib.ctz 16 a = (tagsN a).getD 0 0 := by
  rw [tagsN_cons a h0 h1]; rfl

theorem rList_0 (w : World) : Calls Tryd.prog 8 #[.int .u16 0] w fun e w' => ∃ p cap, e = .returned (.slice p 0 cap) ∧ IntsAt w' (.slice p 0 cap) [] ∧ Below w.heap.size w w' := by
  refine (rList_any 0 (by decide) w).mono ?_
  rintro e w' ⟨v, he, hrow, hB⟩
  have h := intsAt_of_owns (by decide) hrow
  obtain ⟨p, cap, hv⟩ := owns_shape hrow
  subst hv
  exact ⟨p, cap, he, h, hB⟩
theorem tags_0 (w : World) (hE : Env w) : Calls Tryd.prog 11 #[.int .u16 0] w fun e w' => ∃ p cap, e = .returned (.slice p 0 cap) ∧ IntsAt w' (.slice p 0 cap) [] ∧ Below w.heap.size w w' := by
  refine (tags_any 0 (by decide) w hE).mono ?_
  rintro e w' ⟨v, he, hrow, hB⟩
  have h := intsAt_of_owns (by decide) hrow
  obtain ⟨p, cap, hv⟩ := owns_shape hrow
  subst hv
  exact ⟨p, cap, he, h, hB⟩
theorem Count_0 (w : World) : Calls Tryd.prog 12 #[.int .u16 0] w fun e w' => e = .returned (.int .i64 0) ∧ ∃ n, w' = w.drewN n := Count_any 0 w (by decide)
theorem Has_0 (t : Int) (w : World) : Calls Tryd.prog 13 #[.int .u16 0, .int .i64 t] w fun e w' => e = .returned (.bool (hasB 0 t)) ∧ w = w' := Has_any 0 t w (by decide)
theorem rHas_0 (t : Int) (w : World) : Calls Tryd.prog 14 #[.int .u16 0, .int .i64 t] w fun e w' => e = .returned (.bool (hasB 0 t)) ∧ w = w' := rHas_any 0 t w (by decide)
theorem Sub_0 (b : Nat) (w : World) (hb : b < 65536) : Calls Tryd.prog 15 #[.int .u16 0, .int .u16 b] w fun e w' => e = .returned (.bool (subB 0 b)) ∧ w = w' := Sub_any 0 b w (by decide) hb
theorem rSub_0 (b : Nat) (w : World) (hb : b < 65536) : Calls Tryd.prog 16 #[.int .u16 0, .int .u16 b] w fun e w' => e = .returned (.bool (subB 0 b)) ∧ w = w' := rSub_any 0 b w (by decide) hb

set_option maxRecDepth 100000 in
set_option maxHeartbeats 1000000 in
theorem tells_any (a b : Nat) (ha : a < 65536) (hb : b < 65536) (v : Value) (zs : List Int) (t : Int) (w : World) (hI : IntsAt w v zs) (hE : Env w) :
    Calls Tryd.prog 3 #[.int .u16 (a : Int), .int .u16 (b : Int), v, .int .i64 t] w fun e w' => e = .returned (.bool true) ∧ Below w.heap.size w w' := by
  have HE := Lib.hid hE
  have hL := hE.lt
  have HI := Lib.hid hI
  obtain ⟨p, cap, rfl, -, -⟩ := hI
  clear hE
  by_cases hlen : 100 < zs.length
  · have h1 : (100 : Int) < zs.length := by omega
    go_enter Tryd.func3, Tryd.ntmps3
    go_wp2_with fail
    refine (alive_any _ HE.out).mono ?_
    rintro e w1 ⟨rfl, hB⟩
    go_wp2_with fail
    go_ret
    exact ⟨rfl, hB⟩
  · have h1 : ¬ (100 : Int) < zs.length := by omega
    have hl16 := tagsN_length_le a
    by_cases ha0 : a = 0
    · subst ha0
      go_enter Tryd.func3, Tryd.ntmps3
      go_wp2_with fail
      refine (rList_0 _).mono ?_
      rintro e w1 ⟨px, cx, rfl, hx, hB⟩
      have HX := Lib.hid hx
      clear hx
      go_wp2_with fail
      refine (Least_zero _).mono ?_
      rintro e w2 ⟨rfl, rfl⟩
      go_wp2_with fail
      refine (tags_0 _ (HE.out.below hB hL)).mono ?_
      rintro e w2 ⟨py, cy, rfl, hy, hB1⟩
      have HX2 := Lib.hid (HX.out.below hB1)
      have HY := Lib.hid hy
      have hB2 := hB.trans (hB1.mono hB.size)
      clear hB hB1 HX hy
      go_wp2_with fail
      refine (same_any _ _ _ _ _ HY.out HX2.out).mono ?_
      rintro e w3 ⟨rfl, nq, hw3⟩
      rw [decide_eq_true rfl]
      have hB2 : Below w.heap.size w w3 := by rw [hw3]; exact hB2.trans ((below_drewN' w2 nq).mono hB2.size)
      clear hw3
      go_wp2_with fail
      refine (Count_0 _).mono ?_
      rintro e w4 ⟨rfl, nq2, hw4⟩
      have hB3 : Below w.heap.size w w4 := by rw [hw4]; exact hB2.trans ((below_drewN' w3 nq2).mono hB2.size)
      clear hB2 hw4
      go_wp2_with fail
      refine (Has_0 t _).mono ?_
      rintro e w6 ⟨rfl, rfl⟩
      go_wp2_with fail
      refine (rHas_0 t _).mono ?_
      rintro e w6 ⟨rfl, rfl⟩
      go_wp2_with fail
      refine (Sub_0 b _ hb).mono ?_
      rintro e w6 ⟨rfl, rfl⟩
      go_wp2_with fail
      refine (rSub_0 b _ hb).mono ?_
      rintro e w6 ⟨rfl, rfl⟩
      go_wp2_with fail
      refine (Of_any _ _ _ (HI.out.below hB3)).mono ?_
      rintro e w6 ⟨rfl, rfl⟩
      go_wp2_with fail
      refine (rOf_any _ _ _ (HI.out.below hB3)).mono ?_
      rintro e w6 ⟨rfl, rfl⟩
      go_wp2_with fail
      refine (alive_any _ (HE.out.below hB3 hL)).mono ?_
      rintro e w5 ⟨rfl, hB4⟩
      go_wp2_with fail
      go_ret
      exact ⟨rfl, hB3.trans (hB4.mono hB3.size)⟩
    · have hpos : 0 < (tagsN a).length := by
        have := tagsN_ne_nil ha0 ha
        cases h : tagsN a with
        | nil => exact absurd h this
        | cons x r => simp
      have hposI : (0 : Int) < (tagsN a).length := by omega
      have HLe := Lib.hid (fun W (hW : Env W) => Least_some a W ha ha0 hW.tab)
      have HCt := Lib.hid (ctz_first ha0 ha)
      have HS := Lib.hid (small_tagsN a)
      go_enter Tryd.func3, Tryd.ntmps3
      go_wp2_with fail
      refine (rList_any a ha _).mono ?_
      rintro e w1 ⟨x, rfl, hrow, hB⟩
      have HX := Lib.hid (intsAt_of_owns hl16 hrow)
      obtain ⟨bk, off, cx, d, rfl, hc0, -, HD, -⟩ := owned_ints hl16 hpos HS.out hrow
      have hcd : Lib.ctz 16 a = d := HCt.out.trans HD.out
      have HL2 := Lib.hid (by have h := HLe.out; rw [hcd] at h; exact h)
      clear hrow hcd HLe
      go_wp2_with fail
      refine (HL2.out _ (HE.out.below hB hL)).mono ?_
      rintro e w2 ⟨rfl, rfl⟩
      go_wp2_with fail
      refine (tags_any a ha _ (HE.out.below hB hL)).mono ?_
      rintro e w2 ⟨y, rfl, hrow, hB1⟩
      have HY := Lib.hid (intsAt_of_owns hl16 hrow)
      have HX2 := Lib.hid (HX.out.below hB1)
      have hB2 := hB.trans (hB1.mono hB.size)
      clear hrow hB hB1 HX hc0
      go_wp2_with fail
      refine (same_any _ _ _ _ _ HY.out HX2.out).mono ?_
      rintro e w3 ⟨rfl, nq, hw3⟩
      rw [decide_eq_true rfl]
      have hB2 : Below w.heap.size w w3 := by rw [hw3]; exact hB2.trans ((below_drewN' w2 nq).mono hB2.size)
      clear hw3
      go_wp2_with fail
      refine (Count_any a _ ha).mono ?_
      rintro e w4 ⟨rfl, nq2, hw4⟩
      have hB3 : Below w.heap.size w w4 := by rw [hw4]; exact hB2.trans ((below_drewN' w3 nq2).mono hB2.size)
      clear hB2 hw4
      go_wp2_with fail
      refine (Has_any a t _ ha).mono ?_
      rintro e w6 ⟨rfl, rfl⟩
      go_wp2_with fail
      refine (rHas_any a t _ ha).mono ?_
      rintro e w6 ⟨rfl, rfl⟩
      go_wp2_with fail
      refine (Sub_any a b _ ha hb).mono ?_
      rintro e w6 ⟨rfl, rfl⟩
      go_wp2_with fail
      refine (rSub_any a b _ ha hb).mono ?_
      rintro e w6 ⟨rfl, rfl⟩
      go_wp2_with fail
      refine (Of_any _ _ _ (HI.out.below hB3)).mono ?_
      rintro e w6 ⟨rfl, rfl⟩
      go_wp2_with fail
      refine (rOf_any _ _ _ (HI.out.below hB3)).mono ?_
      rintro e w6 ⟨rfl, rfl⟩
      go_wp2_with fail
      refine (alive_any _ (HE.out.below hB3 hL)).mono ?_
      rintro e w5 ⟨rfl, hB4⟩
      go_wp2_with fail
      go_ret
      exact ⟨rfl, hB3.trans (hB4.mono hB3.size)⟩

end Go.Proofs.YtajjeeoapbjgpaaDoor

/-
  The document's disk: New, Bytes, Arm, Power, Read.
-/
import Derived.Test.YtbmcajhknohhdaaDskR
import Derived.LoopTactic
import Derived.Deep.DeepCutAuto
namespace Go.Proofs.Ytbmcajhknohhdaa
open Go.RowKit

theorem infoRD : (Try.prog.info? 33).map (·.size) = some 5 := by kernel_rfl
theorem mul128 {n : Nat} (h : n ≤ 2000) : IntKind.i64.wrap (128 * (n : Int)) = ((128 * n : Nat) : Int) := by rw [IntWalk.i64_in _ (by omega)]; simp

set_option maxRecDepth 100000 in
set_option maxHeartbeats 1600000 in
theorem rdNew_any (n : Nat) (w : World) (h : n ≤ 1024) :
    Calls Try.prog 10 #[.int .i64 (n : Int)] w fun e w' => ∃ g, e = .returned (.agg #[.slice (some ⟨g, 0, none⟩) (128 * n) (128 * n), .bool false, .int .i64 (-1), .int .i64 0, .int .i64 0]) ∧ w'.ownsRow w.heap.size 5 1 (.slice (some ⟨g, 0, none⟩) (128 * n) (128 * n)) (zerosB (128 * n)).length (bvs (zerosB (128 * n))) ∧ Below w.heap.size w w' := by
  have HC := Lib.hid (mul128 (show n ≤ 2000 by omega))
  have HI : (128 : Int) * (n : Int) = ((128 * n : Nat) : Int) := by simp
  have hsm : 128 * n ≤ 140737488355328 := by omega
  have hB1 := belowNew w (.cells #[.slice none 0 0, .bool false, .int .i64 0, .int .i64 0, .int .i64 0] 33)
  have hb1 := Blk.new w #[.slice none 0 0, .bool false, .int .i64 0, .int .i64 0, .int .i64 0] 33
  have HB1 := Lib.hid hB1
  have HK1 := Lib.hid hb1
  clear hB1 hb1
  generalize 128 * n = m at *
  clear HC
  have HI2 := Lib.hid HI
  clear HI
  go_enter Try.func10, Try.ntmps10
  go_wp2_with (first
    | (refine wpList_make_zeros rfl _ _ 31 rfl w.heap.size 5 Try.underlying31 infoU8 m rfl rfl HI2.out HI2.out hsm HB1.out.size ?_; intro w2 hown2 hg2; have HO2 := Lib.hid hown2; have HB2 := Lib.hid (HB1.out.grown hg2 HB1.out.size (fun k hk => by cases hk)); have HK2 := Lib.hid ((hg2.block _ HK1.out.lt (fun e => by cases e)).trans HK1.out); clear hown2 hg2)
    | (refine wpList_store_arr rfl rfl _ _ _ rfl rfl rfl (show Blk w2 w.heap.size _ _ from HK2.out) infoRD rfl (by simp [Value.oneCell']) ?_; intro w3 hw3))
  have ho : w3.ownsRow w.heap.size 5 1 (.slice (some ⟨w.heap.size + 1, 0, none⟩) m m) (zerosB m).length (bvs (zerosB m)) := by
    simp only [World.size_alloc] at HO2
    exact own_chg HO2.out hw3.chg (fun k hk e => by simp [Value.ownBlock] at hk; omega)
  exact bodyPost_ret (results_arr rfl rfl hw3.blk Try.underlying33 rfl infoRD) rfl ⟨_, rfl, ho, HB2.out.trans (hw3.below HB2.out.size (Nat.le_refl _))⟩

theorem wrap_u8 (n : Nat) : ((UInt8.ofNat n).toNat : Int) = (n : Int) % 256 := by simp

set_option maxHeartbeats 800000 in
theorem rdPower_any {B : Nat} {w : World} {c : Nat} {v : Value} {S : DS} (h : RDisk B w c v S) :
    Calls Try.prog 17 #[ptrV c] w fun e w' => e = .returned (.tuple #[]) ∧ RDisk B w' c v (powerS S) ∧ Chg (fun k => k = c) w w' := by
  have k1 : w.cell? ⟨c, 1, none⟩ = some (.bool S.off) := h.blk.cell 1
  have k2 : w.cell? ⟨c, 2, none⟩ = some (.int .i64 S.fuse) := h.blk.cell 2
  have f1 := h.blk.free 1
  have f2 := h.blk.free 2
  have hp := ((Put.refl h.blk).set 1 (.bool false)).set 2 (.int .i64 (-1))
  have HP := Lib.hid hp
  have HH := Lib.hid h
  clear hp h
  unfold ptrV
  go_enter Try.func17, Try.ntmps17
  go_wp2_with fail
  go_end0
  exact ⟨rfl, ⟨HP.out.blk, own_chg HH.out.row HP.out.chg (fun k hk e => HH.out.apart (e ▸ hk)), HH.out.apart⟩, HP.out.chg⟩

set_option maxHeartbeats 800000 in
theorem rdArm_any {B : Nat} {w : World} {c : Nat} {v : Value} {S : DS} (n keep : Int) (h : RDisk B w c v S) :
    Calls Try.prog 15 #[ptrV c, .int .i64 n, .int .i64 keep] w fun e w' => e = .returned (.int .i64 (armE n keep)) ∧ RDisk B w' c v (armS S n keep) ∧ Chg (fun k => k = c) w w' := by
  have k2 : w.cell? ⟨c, 2, none⟩ = some (.int .i64 S.fuse) := h.blk.cell 2
  have k3 : w.cell? ⟨c, 3, none⟩ = some (.int .i64 S.keep) := h.blk.cell 3
  have f2 := h.blk.free 2
  have f3 := h.blk.free 3
  have hp := ((Put.refl h.blk).set 2 (.int .i64 n)).set 3 (.int .i64 keep)
  have HP := Lib.hid hp
  have HH := Lib.hid h
  clear hp h
  unfold ptrV
  by_cases ha : n < 0 ∨ keep < 0 ∨ 128 < keep
  · have HE := Lib.hid (show armE n keep = 8 ∧ armS S n keep = S from by
      have h1 : armE n keep = 8 := by unfold armE; rw [if_pos ha]
      exact ⟨h1, by unfold armS; rw [h1]; rfl⟩)
    clear k2 k3 f2 f3
    rcases ha with ha | ha | ha
    · go_enter Try.func15, Try.ntmps15
      go_wp2_with fail
      go_ret
      exact ⟨by rw [HE.out.1]; rfl, by rw [HE.out.2]; exact HH.out, Chg.refl _ _⟩
    · by_cases hn : n < 0
      all_goals
        go_enter Try.func15, Try.ntmps15
        go_wp2_with fail
        go_ret
        exact ⟨by rw [HE.out.1]; rfl, by rw [HE.out.2]; exact HH.out, Chg.refl _ _⟩
    · have hk0 : ¬ keep < 0 := by omega
      by_cases hn : n < 0
      all_goals
        go_enter Try.func15, Try.ntmps15
        go_wp2_with fail
        go_ret
        exact ⟨by rw [HE.out.1]; rfl, by rw [HE.out.2]; exact HH.out, Chg.refl _ _⟩
  · have HE := Lib.hid (show armE n keep = 0 ∧ armS S n keep = { S with fuse := n, keep := keep } from by
      have h1 : armE n keep = 0 := by unfold armE; rw [if_neg ha]
      exact ⟨h1, by unfold armS; rw [if_pos h1]⟩)
    have a1 : ¬ n < 0 := by omega
    have a2 : ¬ keep < 0 := by omega
    have a3 : ¬ 128 < keep := by omega
    clear ha
    go_enter Try.func15, Try.ntmps15
    go_wp2_with fail
    go_ret
    exact ⟨by rw [HE.out.1]; rfl, by rw [HE.out.2]; exact ⟨HP.out.blk, own_chg HH.out.row HP.out.chg (fun k hk e => HH.out.apart (e ▸ hk)), HH.out.apart⟩, HP.out.chg⟩
theorem run_range {w : World} {p : Option Addr} {len cap lo hi : Nat} {x y : Int} (hx : x = (lo : Int)) (hy : y = (hi : Int)) (h1 : lo ≤ hi) (h2 : hi ≤ cap) :
    (Instr.slice 31 (.slice p len cap) (some (.int .i64 x)) (some (.int .i64 y)) none).run Try.prog w = .ok (.slice (if cap = lo then p else p.map (·.add lo)) (hi - lo) (cap - lo)) w := by
  subst hx; subst hy
  rw [run_slice_lh w _ _ _ _ elemU8 .i64 .i64 _ _ (by omega) (by omega) (by omega), sizeU8]
  simp [Result.andThen, sliced]
theorem own_v {B : Nat} {w : World} {v : Value} {l : List UInt8} {e : Nat} (h : w.ownsRow B e 1 v l.length (bvs l)) : ∃ p c, v = .slice p l.length c := own_form h

theorem own_sl {w : World} {base e n : Nat} {v : Value} {l : List UInt8} (h : w.ownsRow base e 1 v n (bvs l)) : ∃ p c, v = .slice p l.length c := by
  have := own_len h
  subst this
  exact own_form h
set_option maxRecDepth 100000 in
set_option maxHeartbeats 1600000 in
theorem rdRead_own {B : Nat} {w : World} {c : Nat} {v : Value} {S : DS} (i : Int) (h : RDisk B w c v S) (hok : DSOk S) :
    Calls Try.prog 18 #[ptrV c, .int .i64 i] w fun e w' => ∃ p cp, e = .returned (.tuple #[.slice p (readL S i).length cp, .int .i64 (readE S i)]) ∧ w'.ownsRow w.heap.size 5 1 (.slice p (readL S i).length cp) (readL S i).length (bvs (readL S i)) ∧ Below w.heap.size w w' := by
  obtain ⟨pv, cv, rfl⟩ := own_v h.row
  obtain ⟨pr, cr, e1, hbs⟩ := BsAt.ofRow h.row
  rw [Value.slice.injEq] at e1
  obtain ⟨rfl, -, rfl⟩ := e1
  have HBs := Lib.hid hbs
  have k0 : w.cell? ⟨c, 0, none⟩ = some (.slice pv S.all.length cv) := h.blk.cell 0
  have k1 : w.cell? ⟨c, 1, none⟩ = some (.bool S.off) := h.blk.cell 1
  have k2 : w.cell? ⟨c, 2, none⟩ = some (.int .i64 S.fuse) := h.blk.cell 2
  have k3 : w.cell? ⟨c, 3, none⟩ = some (.int .i64 S.keep) := h.blk.cell 3
  have k4 : w.cell? ⟨c, 4, none⟩ = some (.int .i64 S.wr) := h.blk.cell 4
  have hl := hok.len
  have hf := hok.few
  have HHas := Lib.hid (rdHas_any S pv cv i w (by omega))
  have HLt := Lib.hid h.blk.lt
  have HE := Lib.hid (show (hasD S i = false → readE S i = 8 ∧ readL S i = []) ∧ (hasD S i = true → S.off = true → readE S i = 19 ∧ readL S i = []) ∧ (hasD S i = true → S.off = false → readE S i = 0 ∧ readL S i = blockL S i.toNat) from by
    refine ⟨fun h => ?_, fun h h' => ?_, fun h h' => ?_⟩
    · have : readE S i = 8 := by unfold readE; rw [if_pos h]
      exact ⟨this, by unfold readL; rw [this]; rfl⟩
    · have : readE S i = 19 := by unfold readE; rw [h, h']; rfl
      exact ⟨this, by unfold readL; rw [this]; rfl⟩
    · have : readE S i = 0 := by unfold readE; rw [h, h']; rfl
      exact ⟨this, by unfold readL; rw [this]; rfl⟩)
  have hcap : S.all.length ≤ cv := hbs.le
  clear h hbs
  unfold ptrV
  cases hh : hasD S i with
  | false =>
    have HE2 := Lib.hid (HE.out.1 hh)
    rw [hh] at HHas
    clear hh HE hl
    go_enter Try.func18, Try.ntmps18
    go_wp2_with fail
    with_reducible refine HHas.out.mono ?_
    rintro e w1 ⟨rfl, hB1⟩
    have HB1 := Lib.hid hB1
    clear hB1
    go_wp2_with fail
    refine bodyPost_ret (results_tmp2 rfl _ _ _) rfl ?_
    exact ⟨none, 0, by rw [HE2.out.1, HE2.out.2]; rfl, by rw [HE2.out.2]; exact World.ownsRow_nil _ _ _ _, HB1.out⟩
  | true =>
    rw [hh] at HHas
    obtain ⟨hi0, hi1⟩ := hasD_iff.1 hh
    obtain ⟨k, rfl⟩ := Int.eq_ofNat_of_zero_le hi0
    have hk : 128 * k + 128 ≤ S.all.length := by omega
    cases ho : S.off with
    | true =>
      have HE2 := Lib.hid (HE.out.2.1 hh ho)
      rw [ho] at k1 HHas
      clear hh ho HE hl
      go_enter Try.func18, Try.ntmps18
      go_wp2_with fail
      with_reducible refine HHas.out.mono ?_
      rintro e w1 ⟨rfl, hB1⟩
      have HB1 := Lib.hid hB1
      have j1 := (hB1.cell (p := ⟨c, 1, none⟩) HLt.out).trans k1
      clear hB1 k0 k1 k2 k3 k4
      go_wp2_with fail
      refine bodyPost_ret (results_tmp2 rfl _ _ _) rfl ?_
      exact ⟨none, 0, by rw [HE2.out.1, HE2.out.2]; rfl, by rw [HE2.out.2]; exact World.ownsRow_nil _ _ _ _, HB1.out⟩
    | false =>
      have HE2 := Lib.hid (HE.out.2.2 hh ho)
      have hblk : (blockL S k).length = 128 := by simp only [blockL, List.length_take, List.length_drop]; omega
      have HD := Lib.hid (show BsAt w (if cv = 128 * k then pv else pv.map (·.add (128 * k))) 128 (cv - 128 * k) (blockL S k) from by
        have h1 := bs_drop HBs.out (n := 128 * k) (by omega)
        exact bs_take h1 (n := 128) (by rw [List.length_drop]; omega))
      have HX := Lib.hid (show (128 : Int) * (k : Int) = ((128 * k : Nat) : Int) ∧ (128 : Int) * (k : Int) + 128 = ((128 * k + 128 : Nat) : Int) by omega)
      have u1 := fun V => run_range (w := V) (p := pv) (len := S.all.length) (cap := cv) HX.out.1 HX.out.2 (by omega) (by omega)
      rw [show 128 * k + 128 - 128 * k = 128 by omega] at u1
      generalize (if cv = 128 * k then pv else pv.map (·.add (128 * k))) = qv at *
      generalize cv - 128 * k = qc at *
      rw [ho] at k1 HHas
      rw [Int.toNat_natCast] at HE2
      clear hh ho HE hl
      generalize hM : S.all.length = M at *
      go_enter Try.func18, Try.ntmps18
      go_wp2_with fail
      with_reducible refine HHas.out.mono ?_
      rintro e w1 ⟨rfl, hB1⟩
      have HB1 := Lib.hid hB1
      have j1 := (hB1.cell (p := ⟨c, 1, none⟩) HLt.out).trans k1
      have j0 := (hB1.cell (p := ⟨c, 0, none⟩) HLt.out).trans k0
      clear hB1 k0 k1 k2 k3 k4
      have hlt1 : c < w1.heap.size := Nat.lt_of_lt_of_le HLt.out HB1.out.size
      have j2 := ((belowNew w1 (.cells #[] 5)).cell (p := ⟨c, 0, none⟩) hlt1).trans j0
      have HB2 := Lib.hid (HB1.out.alloc HB1.out.size (.cells #[] 5))
      have HD2 := Lib.hid (HD.out.below HB2.out (Nat.le_refl _))
      have hown0 : (w1.alloc (.cells #[] 5)).ownsRow w.heap.size 5 1 (.slice (some ⟨w1.heap.size, 0, none⟩) 0 0) ([] : List UInt8).length (bvs []) := World.ownsRow_lit w1 #[] 0 HB1.out.size (by decide) rfl
      have hq : ([] : List UInt8).length + (blockL S k).length ≤ 140737488355328 := by rw [hblk]; decide
      clear j0
      go_wp2_with (at_builtin; refine wpList_append_bytes rfl _ _ 31 rfl w.heap.size 5 Try.underlying31 infoU8 rfl hown0 rfl HD2.out hq HB2.out.size ?_; intro p3 n3 c3 w3 hrow3 hg3 hn3; have HR3 := Lib.hid hrow3; have HB3 := Lib.hid (HB2.out.grown hg3 HB2.out.size (fun k hk => (hown0.lt k hk).1)); clear hrow3 hg3 hn3 hown0)
      refine bodyPost_ret (results_tmp2 rfl _ _ _) rfl ?_
      have hR3 := HR3.out
      rw [List.nil_append] at hR3
      obtain ⟨q, d', e1⟩ := own_sl hR3
      rw [Value.slice.injEq] at e1
      obtain ⟨rfl, rfl, rfl⟩ := e1
      exact ⟨p3, c3, by rw [HE2.out.1, HE2.out.2]; rfl, by rw [HE2.out.2]; exact hR3, HB3.out⟩
theorem rdRead_any {B : Nat} {w : World} {c : Nat} {v : Value} {S : DS} (i : Int) (h : RDisk B w c v S) (hok : DSOk S) :
    Calls Try.prog 18 #[ptrV c, .int .i64 i] w fun e w' => ∃ p cp, e = .returned (.tuple #[.slice p (readL S i).length cp, .int .i64 (readE S i)]) ∧ BsAt w' p (readL S i).length cp (readL S i) ∧ Below w.heap.size w w' := by
  refine (rdRead_own i h hok).mono ?_
  rintro e w' ⟨p, cp, rfl, hr, hB⟩
  obtain ⟨q, d, e1, hb⟩ := BsAt.ofRow hr
  rw [Value.slice.injEq] at e1
  obtain ⟨rfl, -, rfl⟩ := e1
  exact ⟨p, cp, rfl, hb, hB⟩
end Go.Proofs.Ytbmcajhknohhdaa

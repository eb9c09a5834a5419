/-
  The program's disk: its blocks one behind the other in a row of its own, the fuse in the disk's own cells.
-/
import Derived.Test.YtbmcajhknohhdaaDskK
import Derived.Test.YtbmcajhknohhdaaRowB
import Derived.Test.YtbmcajhknohhdaaMkB
import Derived.Laws.OwnMore
import Derived.StillTailTactics
import Derived.IntWalk
namespace Go.Proofs.Ytbmcajhknohhdaa
open Go.RowKit

abbrev diskV (g n cap : Nat) (on armed : Bool) (left keep wr : Int) : Array Value := #[.slice (some ⟨g, 0, none⟩) n cap, .bool on, .bool armed, .int .i64 left, .int .i64 keep, .int .i64 wr]
/-- At block b the disk, its blocks in block g. -/
structure CDisk (w : World) (b g cap : Nat) (ext : List UInt8) (armed : Bool) (left keep : Int) (S : DS) : Prop where
  blk : Blk w b (diskV g S.len cap (!S.off) armed left keep S.wr) 65
  row : Blk w g (bvA (S.all ++ ext)) 74
  fuse : (0 ≤ S.fuse ∧ armed = true ∧ left = S.fuse ∧ keep = S.keep) ∨ (S.fuse < 0 ∧ armed = false)
  pos : 0 < S.len
  fits : S.len ≤ cap
  small : cap ≤ maxLen
  apart : g ≠ b
def AtD (w : World) (b : Nat) (S : DS) (F : Nat → Prop) : Prop := ∃ g cap ext armed left keep, CDisk w b g cap ext armed left keep S ∧ F = fun k => k = b ∨ k = g
theorem CDisk.kept {w w' : World} {b g cap : Nat} {ext : List UInt8} {armed : Bool} {left keep : Int} {S : DS} {T : Nat → Prop} (h : CDisk w b g cap ext armed left keep S) (hc : Chg T w w') (hb : ¬ T b) (hg : ¬ T g) : CDisk w' b g cap ext armed left keep S :=
  ⟨hc.kept h.blk hb, hc.kept h.row hg, h.fuse, h.pos, h.fits, h.small, h.apart⟩
def theRel : DiskRel where
  At := AtD
  lt := by
    rintro w b S F ⟨g, cap, ext, armed, left, keep, h, rfl⟩
    exact ⟨.inl rfl, fun k hk => by
      rcases hk with e | e
      · rw [e]; exact h.blk.lt
      · rw [e]; exact h.row.lt⟩
  kept := by
    rintro w w' b S F T ⟨g, cap, ext, armed, left, keep, h, rfl⟩ hc hn
    exact ⟨g, cap, ext, armed, left, keep, h.kept hc (hn b (.inl rfl)) (hn g (.inr rfl)), rfl⟩
theorem dMade_any {w : World} {b : Nat} {p : Option Addr} {n cap : Nat} (k0 : w.cell? ⟨b, 0, none⟩ = some (.slice p n cap)) (hn : 0 < n) :
    Calls Try.prog 33 #[ptrV b] w fun e w' => e = .returned (.bool true) ∧ w = w' := by
  unfold ptrV
  go_enter Try.func33, Try.ntmps33
  go_wp2_with fail
  go_ret
  exact ⟨rfl, rfl⟩
theorem dMade_nil (w : World) : Calls Try.prog 33 #[.pointer none] w fun e w' => e = .returned (.bool false) ∧ w = w' := by
  go_enter Try.func33, Try.ntmps33
  go_wp2_with fail
  go_ret
  exact ⟨rfl, rfl⟩
def checkE (n : Nat) (i : Int) : Int := if i < 0 ∨ (n : Int) ≤ i then 8 else 0
theorem checkE_has (S : DS) (i : Int) : checkE S.len i = if hasD S i = false then 8 else 0 := by
  unfold checkE
  by_cases h : i < 0 ∨ (S.len : Int) ≤ i
  · rw [if_pos h, if_pos]
    cases hh : hasD S i
    · rfl
    · have := hasD_iff.1 hh; omega
  · rw [if_neg h, if_neg]
    rw [hasD_iff.2 (by omega)]; simp
theorem dCheck_any {w : World} {b : Nat} {p : Option Addr} {n cap : Nat} (i : Int) (k0 : w.cell? ⟨b, 0, none⟩ = some (.slice p n cap)) (hn : 0 < n) :
    Calls Try.prog 35 #[ptrV b, .int .i64 i] w fun e w' => e = .returned (.int .i64 (checkE n i)) ∧ w = w' := by
  have HM := Lib.hid (dMade_any k0 hn)
  unfold ptrV at *
  clear hn
  by_cases h0 : i < 0
  · have HE := Lib.hid (show checkE n i = 8 from if_pos (.inl h0))
    go_enter Try.func35, Try.ntmps35
    go_wp2_with fail
    with_reducible refine HM.out.mono ?_
    rintro e w1 ⟨rfl, rfl⟩
    go_wp2_with fail
    go_ret
    exact ⟨by rw [HE.out]; rfl, rfl⟩
  · by_cases h1 : (n : Int) ≤ i
    · have HE := Lib.hid (show checkE n i = 8 from if_pos (.inr h1))
      go_enter Try.func35, Try.ntmps35
      go_wp2_with fail
      with_reducible refine HM.out.mono ?_
      rintro e w1 ⟨rfl, rfl⟩
      go_wp2_with fail
      go_ret
      exact ⟨by rw [HE.out]; rfl, rfl⟩
    · have HE := Lib.hid (show checkE n i = 0 from if_neg (by omega))
      go_enter Try.func35, Try.ntmps35
      go_wp2_with fail
      with_reducible refine HM.out.mono ?_
      rintro e w1 ⟨rfl, rfl⟩
      go_wp2_with fail
      go_ret
      exact ⟨by rw [HE.out]; rfl, rfl⟩
theorem dCheck_nil (i : Int) (w : World) : Calls Try.prog 35 #[.pointer none, .int .i64 i] w fun e w' => e = .returned (.int .i64 2) ∧ w = w' := by
  have HM := Lib.hid (dMade_nil w)
  go_enter Try.func35, Try.ntmps35
  go_wp2_with fail
  with_reducible refine HM.out.mono ?_
  rintro e w1 ⟨rfl, rfl⟩
  go_wp2_with fail
  go_ret
  exact ⟨rfl, rfl⟩
set_option maxRecDepth 100000 in
set_option maxHeartbeats 1600000 in
theorem dPower_any : DPowerC theRel := by
  rintro w b S F ⟨g, cap, ext, armed, left, keep, h, rfl⟩ hok
  have HH := Lib.hid h
  have k0 : w.cell? ⟨b, 0, none⟩ = some (.slice (some ⟨g, 0, none⟩) S.len cap) := h.blk.cell 0
  have HM := Lib.hid (dMade_any k0 h.pos)
  have f1 := h.blk.free 1
  have f2 := h.blk.free 2
  have f3 := h.blk.free 3
  have f4 := h.blk.free 4
  have k1 : w.cell? ⟨b, 1, none⟩ = some (.bool (!S.off)) := h.blk.cell 1
  have k2 : w.cell? ⟨b, 2, none⟩ = some (.bool armed) := h.blk.cell 2
  have k3 : w.cell? ⟨b, 3, none⟩ = some (.int .i64 left) := h.blk.cell 3
  have k4 : w.cell? ⟨b, 4, none⟩ = some (.int .i64 keep) := h.blk.cell 4
  have hp := ((((Put.refl h.blk).set 1 (.bool true)).set 2 (.bool false)).set 3 (.int .i64 0)).set 4 (.int .i64 0)
  have HP := Lib.hid hp
  clear hp h
  unfold ptrV at *
  go_enter Try.func16, Try.ntmps16
  go_wp2_with fail
  with_reducible refine HM.out.mono ?_
  rintro e w1 ⟨rfl, rfl⟩
  go_wp2_with fail
  go_end0
  exact ⟨_, rfl, ⟨g, cap, ext, false, 0, 0, ⟨HP.out.blk, (HP.out.chg.kept HH.out.row HH.out.apart), .inr ⟨by simp [powerS], rfl⟩, HH.out.pos, HH.out.fits, HH.out.small, HH.out.apart⟩, rfl⟩, fun k hk => .inl hk, HP.out.chg.mono fun k _ hk => .inl hk⟩
set_option maxRecDepth 100000 in
set_option maxHeartbeats 1600000 in
theorem dArm_any : DArmC theRel := by
  rintro w b S F n kp ⟨g, cap, ext, armed, left, keep, h, rfl⟩ hok hn
  have HH := Lib.hid h
  have k0 : w.cell? ⟨b, 0, none⟩ = some (.slice (some ⟨g, 0, none⟩) S.len cap) := h.blk.cell 0
  have HM := Lib.hid (dMade_any k0 h.pos)
  have f2 := h.blk.free 2
  have f3 := h.blk.free 3
  have f4 := h.blk.free 4
  have k2 : w.cell? ⟨b, 2, none⟩ = some (.bool armed) := h.blk.cell 2
  have k3 : w.cell? ⟨b, 3, none⟩ = some (.int .i64 left) := h.blk.cell 3
  have k4 : w.cell? ⟨b, 4, none⟩ = some (.int .i64 keep) := h.blk.cell 4
  have hp := (((Put.refl h.blk).set 2 (.bool true)).set 3 (.int .i64 n)).set 4 (.int .i64 kp)
  have HP := Lib.hid hp
  clear hp h k0
  unfold ptrV at *
  by_cases ha : n < 0 ∨ kp < 0 ∨ 128 < kp
  · have HE := Lib.hid (show armE n kp = 8 ∧ armS S n kp = S from by
      have h1 : armE n kp = 8 := by unfold armE; rw [if_pos ha]
      exact ⟨h1, by unfold armS; rw [h1]; rfl⟩)
    clear k2 k3 k4 f2 f3 f4
    have fin : ∃ F', Ending.returned (Value.int .i64 8) = .returned (.int .i64 (armE n kp)) ∧ theRel.At w b (armS S n kp) F' ∧ (∀ k, F' k → (k = b ∨ k = g) ∨ w.heap.size ≤ k) ∧ Chg (fun k => k = b ∨ k = g) w w :=
      ⟨_, by rw [HE.out.1], by rw [HE.out.2]; exact ⟨g, cap, ext, armed, left, keep, HH.out, rfl⟩, fun k hk => .inl hk, Chg.refl _ _⟩
    have FIN := Lib.hid fin
    clear fin
    by_cases hn0 : n < 0
    · go_enter Try.func14, Try.ntmps14
      go_wp2_with fail
      with_reducible refine HM.out.mono ?_
      rintro e w1 ⟨rfl, rfl⟩
      go_wp2_with fail
      go_ret
      exact FIN.out
    · by_cases hk0 : kp < 0
      · go_enter Try.func14, Try.ntmps14
        go_wp2_with fail
        with_reducible refine HM.out.mono ?_
        rintro e w1 ⟨rfl, rfl⟩
        go_wp2_with fail
        go_ret
        exact FIN.out
      · have hk1 : 128 < kp := by omega
        go_enter Try.func14, Try.ntmps14
        go_wp2_with fail
        with_reducible refine HM.out.mono ?_
        rintro e w1 ⟨rfl, rfl⟩
        go_wp2_with fail
        go_ret
        exact FIN.out
  · have HE := Lib.hid (show armE n kp = 0 ∧ armS S n kp = { S with fuse := n, keep := kp } from by
      have h1 : armE n kp = 0 := by unfold armE; rw [if_neg ha]
      exact ⟨h1, by unfold armS; rw [if_pos h1]⟩)
    have a1 : ¬ n < 0 := by omega
    have a2 : ¬ kp < 0 := by omega
    have a3 : ¬ 128 < kp := by omega
    have A1 := Lib.hid a1
    clear ha
    go_enter Try.func14, Try.ntmps14
    go_wp2_with fail
    with_reducible refine HM.out.mono ?_
    rintro e w1 ⟨rfl, rfl⟩
    go_wp2_with fail
    go_ret
    exact ⟨_, by rw [HE.out.1]; rfl, by rw [HE.out.2]; exact ⟨g, cap, ext, true, n, kp, ⟨HP.out.blk, (HP.out.chg.kept HH.out.row HH.out.apart), .inl ⟨by have := A1.out; omega, rfl, rfl, rfl⟩, HH.out.pos, HH.out.fits, HH.out.small, HH.out.apart⟩, rfl⟩, fun k hk => .inl hk, HP.out.chg.mono fun k _ hk => .inl hk⟩
theorem dOn_any {w : World} {b : Nat} {S : DS} {F : Nat → Prop} (h : theRel.At w b S F) : Calls Try.prog 23 #[ptrV b] w fun e w' => e = .returned (.bool (!S.off)) ∧ Below w.heap.size w w' := by
  obtain ⟨g, cap, ext, armed, left, keep, h, rfl⟩ := h
  have k0 : w.cell? ⟨b, 0, none⟩ = some (.slice (some ⟨g, 0, none⟩) S.len cap) := h.blk.cell 0
  have HM := Lib.hid (dMade_any k0 h.pos)
  have k1 : w.cell? ⟨b, 1, none⟩ = some (.bool (!S.off)) := h.blk.cell 1
  clear h
  unfold ptrV at *
  generalize (!S.off) = on at *
  go_enter Try.func23, Try.ntmps23
  go_wp2_with fail
  with_reducible refine HM.out.mono ?_
  rintro e w1 ⟨rfl, rfl⟩
  go_wp2_with fail
  go_ret
  exact ⟨rfl, Below.refl _ _⟩
theorem dLen_any {w : World} {b : Nat} {S : DS} {F : Nat → Prop} (h : theRel.At w b S F) : Calls Try.prog 27 #[ptrV b] w fun e w' => e = .returned (.int .i64 (S.len : Int)) ∧ Below w.heap.size w w' := by
  obtain ⟨g, cap, ext, armed, left, keep, h, rfl⟩ := h
  have k0 : w.cell? ⟨b, 0, none⟩ = some (.slice (some ⟨g, 0, none⟩) S.len cap) := h.blk.cell 0
  have HM := Lib.hid (dMade_any k0 h.pos)
  clear h
  unfold ptrV at *
  generalize S.len = n at *
  go_enter Try.func27, Try.ntmps27
  go_wp2_with fail
  with_reducible refine HM.out.mono ?_
  rintro e w1 ⟨rfl, rfl⟩
  go_wp2_with fail
  go_ret
  exact ⟨rfl, Below.refl _ _⟩
theorem dWrites_any {w : World} {b : Nat} {S : DS} {F : Nat → Prop} (h : theRel.At w b S F) : Calls Try.prog 24 #[ptrV b] w fun e w' => e = .returned (.int .i64 S.wr) ∧ Below w.heap.size w w' := by
  obtain ⟨g, cap, ext, armed, left, keep, h, rfl⟩ := h
  have k0 : w.cell? ⟨b, 0, none⟩ = some (.slice (some ⟨g, 0, none⟩) S.len cap) := h.blk.cell 0
  have HM := Lib.hid (dMade_any k0 h.pos)
  have k5 : w.cell? ⟨b, 5, none⟩ = some (.int .i64 S.wr) := h.blk.cell 5
  clear h k0
  unfold ptrV at *
  generalize S.wr = n at *
  go_enter Try.func24, Try.ntmps24
  go_wp2_with fail
  with_reducible refine HM.out.mono ?_
  rintro e w1 ⟨rfl, rfl⟩
  go_wp2_with fail
  go_ret
  exact ⟨rfl, Below.refl _ _⟩
theorem dLen_nil (w : World) : Calls Try.prog 27 #[.pointer none] w fun e w' => e = .returned (.int .i64 0) ∧ Below w.heap.size w w' := by
  have HM := Lib.hid (dMade_nil w)
  go_enter Try.func27, Try.ntmps27
  go_wp2_with fail
  with_reducible refine HM.out.mono ?_
  rintro e w1 ⟨rfl, rfl⟩
  go_wp2_with fail
  go_ret
  exact ⟨rfl, Below.refl _ _⟩
theorem dWrites_nil (w : World) : Calls Try.prog 24 #[.pointer none] w fun e w' => e = .returned (.int .i64 0) ∧ Below w.heap.size w w' := by
  have HM := Lib.hid (dMade_nil w)
  go_enter Try.func24, Try.ntmps24
  go_wp2_with fail
  with_reducible refine HM.out.mono ?_
  rintro e w1 ⟨rfl, rfl⟩
  go_wp2_with fail
  go_ret
  exact ⟨rfl, Below.refl _ _⟩
theorem dOn_nil (w : World) : Calls Try.prog 23 #[.pointer none] w fun e w' => e = .returned (.bool false) ∧ Below w.heap.size w w' := by
  have HM := Lib.hid (dMade_nil w)
  go_enter Try.func23, Try.ntmps23
  go_wp2_with fail
  with_reducible refine HM.out.mono ?_
  rintro e w1 ⟨rfl, rfl⟩
  go_wp2_with fail
  go_ret
  exact ⟨rfl, Below.refl _ _⟩
theorem dPower_nil (w : World) : Calls Try.prog 16 #[.pointer none] w fun e w' => e = .returned (.tuple #[]) ∧ Below w.heap.size w w' := by
  have HM := Lib.hid (dMade_nil w)
  go_enter Try.func16, Try.ntmps16
  go_wp2_with fail
  with_reducible refine HM.out.mono ?_
  rintro e w1 ⟨rfl, rfl⟩
  go_wp2_with fail
  refine bodyPost_ret (results_none rfl _ _ _) rfl ?_
  exact ⟨rfl, Below.refl _ _⟩
theorem dArm_nil (n keep : Int) (w : World) : Calls Try.prog 14 #[.pointer none, .int .i64 n, .int .i64 keep] w fun e w' => e = .returned (.int .i64 2) ∧ Below w.heap.size w w' := by
  have HM := Lib.hid (dMade_nil w)
  go_enter Try.func14, Try.ntmps14
  go_wp2_with fail
  with_reducible refine HM.out.mono ?_
  rintro e w1 ⟨rfl, rfl⟩
  go_wp2_with fail
  go_ret
  exact ⟨rfl, Below.refl _ _⟩
theorem dWrite_nil (i : Int) (v : Value) (w : World) : Calls Try.prog 19 #[.pointer none, .int .i64 i, v] w fun e w' => e = .returned (.int .i64 2) ∧ Below w.heap.size w w' := by
  have HM := Lib.hid (dCheck_nil i w)
  go_enter Try.func19, Try.ntmps19
  go_wp2_with fail
  with_reducible refine HM.out.mono ?_
  rintro e w1 ⟨rfl, rfl⟩
  go_wp2_with fail
  go_ret
  exact ⟨rfl, Below.refl _ _⟩
set_option maxHeartbeats 800000 in
theorem dRead_nil (i : Int) (w : World) : Calls Try.prog 67 #[.pointer none, .int .i64 i] w fun e w' => ∃ p c, e = .returned (.tuple #[.slice p 0 c, .int .i64 2]) ∧ Below w.heap.size w w' := by
  have HM := Lib.hid (dCheck_nil i w)
  go_enter Try.func67, Try.ntmps67
  go_wp2_with fail
  with_reducible refine HM.out.mono ?_
  rintro e w1 ⟨rfl, rfl⟩
  go_wp2_with fail
  refine bodyPost_ret (results_tmp2 rfl _ _ _) rfl ?_
  exact ⟨none, 0, rfl, Below.refl _ _⟩
end Go.Proofs.Ytbmcajhknohhdaa

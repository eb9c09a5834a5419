/-
  The program's stores: what their memory is; made, oldest, limited, Kept of an epoch, Epoch, New; stores that nobody made.
-/
import Derived.BigQuiet
import Derived.Test.YtimbhamdblganaaDoorWVerR
import Derived.Test.YtimbhamdblganaaDoorWVerA
import Derived.Test.YtimbhamdblganaaDoorWSlcG
/-! VpA -/
namespace Go.Proofs.YtimbhamdblganaaDoor
open Go.RowKit

/-- At block b the store S, whose policies lie in block g. -/
structure VpSt (w : World) (b : Nat) (S : Sto) (g : Nat) : Prop where
  blk : Blk w b #[.int .i64 (S.ep : Int), .slice (some ⟨g, 0, none⟩) S.l.length S.l.length] 78
  row : PolsAt w (.slice (some ⟨g, 0, none⟩) S.l.length S.l.length) S.l
  lt : g < w.heap.size
  ne : g ≠ b
theorem VpSt.chg {T : Nat → Prop} {w w' : World} {b g : Nat} {S : Sto} (h : VpSt w b S g) (hc : Chg T w w') (hb : ¬ T b) (hg : ¬ T g) : VpSt w' b S g :=
  ⟨hc.kept h.blk hb, h.row.chg hc (fun a n c e hk => hg (by cases e; exact hk)), Nat.lt_of_lt_of_le h.lt hc.size, h.ne⟩
theorem VpSt.step {w w' : World} {b g : Nat} {S : Sto} (h : VpSt w b S g) (hB : Below w.heap.size w w') : VpSt w' b S g :=
  h.chg (Chg.ofBelow (S := fun _ => False) hB) (fun h => h) (fun h => h)
theorem VpSt.c0 {w : World} {b g : Nat} {S : Sto} (h : VpSt w b S g) : w.cell? ⟨b, 0, none⟩ = some (.int .i64 (S.ep : Int)) := h.blk.cell 0
theorem VpSt.c1 {w : World} {b g : Nat} {S : Sto} (h : VpSt w b S g) : w.cell? ⟨b, 1, none⟩ = some (.slice (some ⟨g, 0, none⟩) S.l.length S.l.length) := h.blk.cell 1
def theVer : VerRel where
  At := fun w b S F => ∃ g, VpSt w b S g ∧ F = fun k => k = b ∨ k = g
  lt := by
    rintro w b S F ⟨g, h, rfl⟩
    exact ⟨.inl rfl, fun k hk => hk.elim (fun e => e ▸ h.blk.lt) (fun e => e ▸ h.lt)⟩
  kept := by
    rintro w w' b S F T ⟨g, h, rfl⟩ hc hn
    exact ⟨g, h.chg hc (hn b (.inl rfl)) (hn g (.inr rfl)), rfl⟩
/-- The cells of a store that nobody made. -/
abbrev stZ : Array Value := #[.int .i64 0, .slice none 0 0]
theorem veMade_any {w : World} {b g : Nat} {S : Sto} (h : VpSt w b S g) (hpos : 0 < S.l.length) : Calls Tryd.prog 41 #[storeV b] w fun e w' => e = .returned (.bool true) ∧ w = w' := by
  have c1 := h.c1
  have d : decide (0 < S.l.length) = true := decide_eq_true hpos
  clear h hpos
  unfold storeV
  generalize S.l.length = n at *
  go_enter Tryd.func41, Tryd.ntmps41
  go_wp2_with fail
  go_ret
  exact ⟨rfl, rfl⟩
theorem veMade_no {w : World} {v : Value} (h : NobVe stZ w v) : Calls Tryd.prog 41 #[v] w fun e w' => e = .returned (.bool false) ∧ w = w' := by
  rcases h with rfl | ⟨b, rfl, hb⟩
  · go_enter Tryd.func41, Tryd.ntmps41
    go_wp2_with fail
    go_ret
    exact ⟨rfl, rfl⟩
  · have k1 : w.cell? ⟨b, 1, none⟩ = some (.slice none 0 0) := hb.cell 1
    clear hb
    unfold storeV
    go_enter Tryd.func41, Tryd.ntmps41
    go_wp2_with fail
    go_ret
    exact ⟨rfl, rfl⟩
theorem veLim_any {w : World} {g off n c : Nat} (h1 : n ≤ c) (h2 : c ≤ 9223372036854775807) : Calls Tryd.prog 40 #[.slice (some ⟨g, off, none⟩) n c] w fun e w' => e = .returned (.slice (some ⟨g, off, none⟩) n n) ∧ w = w' := by
  have a1 : (0 : Int) ≤ (n : Int) := by omega
  have a2 : (n : Int) ≤ (c : Int) := by omega
  have a3 : (n : Int) ≤ 9223372036854775807 := by omega
  clear h1 h2
  go_enter Tryd.func40, Tryd.ntmps40
  go_wp2_with fail
  refine bodyPost_ret (v := .slice (some ⟨g, off, none⟩) n n) (results_tmp (t := 2) rfl _ _ _) rfl ?_
  exact ⟨rfl, rfl⟩
theorem veOldest_any {w : World} {b g : Nat} {S : Sto} (h : VpSt w b S g) (hl : S.l.length ≤ 8) (he : S.ep ≤ 255) : Calls Tryd.prog 42 #[storeV b] w fun e w' => e = .returned (.int .i64 ((S.ep : Int) + 1 - (S.l.length : Int))) ∧ Below w.heap.size w w' := by
  have c0 := h.c0
  have c1 := h.c1
  have hB := Lib.hid h.blk.lt
  have q1 : IntKind.i64.wrap ((S.ep : Int) + 1) = (S.ep : Int) + 1 := by rw [IntKind.wrap_i64]; omega
  have q2 : IntKind.i64.wrap ((S.ep : Int) + 1 - (S.l.length : Int)) = (S.ep : Int) + 1 - (S.l.length : Int) := by rw [IntKind.wrap_i64]; omega
  clear h hl he
  unfold storeV
  generalize S.l.length = n at *
  generalize S.ep = ep at *
  go_enter Tryd.func42, Tryd.ntmps42
  go_wp2_with fail
  go_quiet (fail)
  go_wp2_with fail
  go_ret
  exact ⟨rfl, below_drewN (Below.refl _ _) _⟩
theorem veCount_any : VeCountC := by
  intro e w h1 h2
  go_enter Tryd.func24, Tryd.ntmps24
  by_cases h : e < 0
  · have d := decide_eq_true h
    have HE := Lib.hid (show keptN e = 0 from if_pos (.inl h))
    go_wp2_with fail
    go_ret
    exact ⟨by rw [HE.out]; rfl, rfl⟩
  have d := decide_eq_false h
  by_cases h3 : 255 < e
  · have d3 := decide_eq_true h3
    have HE := Lib.hid (show keptN e = 0 from if_pos (.inr h3))
    go_wp2_with fail
    go_ret
    exact ⟨by rw [HE.out]; rfl, rfl⟩
  have d3 := decide_eq_false h3
  have hz : ¬ (e < 0 ∨ 255 < e) := by omega
  have hw : IntKind.i64.wrap (e + 1) = e + 1 := by rw [IntKind.wrap_i64]; omega
  have HZ := Lib.hid (show e + 1 = ((e.toNat + 1 : Nat) : Int) by omega)
  have HE := Lib.hid (show keptN e = if 7 < e then 8 else e.toNat + 1 by unfold keptN; rw [if_neg hz]; split <;> split <;> omega)
  clear h h3 hz
  go_wp2_with fail
  · go_ret
    exact ⟨by rw [HE.out, if_pos (show 7 < e by omega)]; rfl, rfl⟩
  · go_ret
    exact ⟨by rw [HE.out, if_neg (show ¬ 7 < e by omega), ← HZ.out]; rfl, rfl⟩
theorem veEpoch_any : VeEpochC theVer := by
  rintro w b S F ⟨g, h, rfl⟩ hok
  have HM := Lib.hid (veMade_any h (sto_pos hok).1)
  have c0 := h.c0
  clear h hok
  unfold storeV at *
  go_enter Tryd.func22, Tryd.ntmps22
  go_wp2_with fail
  with_reducible refine HM.out.mono ?_
  rintro e w1 ⟨rfl, rfl⟩
  go_wp2_with fail
  go_ret
  exact ⟨rfl, Below.refl _ _⟩
theorem veNobEpoch_any : VeNobEpochC stZ := by
  intro v w h
  have HM := Lib.hid (veMade_no h)
  clear h
  go_enter Tryd.func22, Tryd.ntmps22
  go_wp2_with fail
  with_reducible refine HM.out.mono ?_
  rintro e w1 ⟨rfl, rfl⟩
  go_wp2_with fail
  go_ret
  exact ⟨rfl, Below.refl _ _⟩
end Go.Proofs.YtimbhamdblganaaDoor

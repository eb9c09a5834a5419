/-
  Journals in plain terms: the generations.
-/
import Derived.Test.YtlbdpoolhmbgaaaJrnK
namespace Go.Proofs.Ytlbdpoolhmbgaaa

/-- A step that is added to a disk that is on and has no fuse: what each entry holds then. -/
theorem jstepAt_add {S : DS} {J : JS} {b : List UInt8} (ok : DSOk S) (jok : JOk S J) (hr : J.n ≠ J.room) (ho : S.off = false) (hf : S.fuse = -1) (hb : b.length ≤ 112) :
    addE S J b = 0 ∧ addJ S J b = { J with n := J.n + 1 } ∧ DSOk (addD S J b) ∧ (addD S J b).len = S.len ∧ (addD S J b).off = false ∧ (addD S J b).fuse = -1 ∧ (addD S J b).wr ≤ S.wr + 2 ∧
      ∀ g e, jstepAt (addD S J b) J.at_ g e = if e = J.n then (if g = J.gen then some b else none) else jstepAt S J.at_ g e := by
  have hn := jok.n
  have h64 := jok.room
  have hg := jok.gen
  have hfit := jok.fits
  have hat : J.at_ + 2 * J.n + 1 < S.len := by omega
  have hx : (frL 82 J.gen J.n b).length = 128 := frL_length hb
  have hy : (frL 67 J.gen J.n []).length = 128 := frL_length (by simp)
  have eD : addD S J b = put2S S J (frL 82 J.gen J.n b) (frL 67 J.gen J.n []) := by unfold addD; rw [if_neg (by omega)]
  have eE : addE S J b = put2E S J (frL 82 J.gen J.n b) (frL 67 J.gen J.n []) := by unfold addE; rw [if_neg hr, if_neg (by omega)]
  obtain ⟨ok', len', wr', other⟩ := put2_keep ok hat hx hy
  obtain ⟨e1, o1, f1, -, b0, b1⟩ := put2_c ok hat hx hy ho (by omega) (by omega)
  rw [← eD] at ok' len' wr' other o1 f1 b0 b1
  rw [← eE] at e1
  refine ⟨e1, by unfold addJ; rw [if_pos e1], ok', len', o1, by rw [f1, if_neg (by omega), hf], wr', fun g e => ?_⟩
  by_cases he : e = J.n
  · subst he
    rw [if_pos rfl, jstepAt_frames hg (by omega) hb b0 b1 g]
  · rw [if_neg he]
    exact jstepAt_cong (other _ (by omega) (by omega)) (other _ (by omega) (by omega)) g

/-- Behind i steps that were added in generation g. -/
structure GI (W : Int) (g : Nat) (l : List (List UInt8)) (i : Nat) (S : DS) (J : JS) : Prop where
  j : J = ⟨0, 10, g, i⟩
  ok : DSOk S
  len : S.len = 20
  off : S.off = false
  fuse : S.fuse = -1
  wr : S.wr ≤ W + 2 * i
  step : ∀ e, e < i → ∀ h : e < l.length, jstepAt S 0 g e = some l[e]
  rest : ∀ e, i ≤ e → e < 10 → jstepAt S 0 g e = none
/-- Nothing is committed in generation g. -/
def NG (g : Nat) (S : DS) : Prop := ∀ e, e < 10 → jstepAt S 0 g e = none
theorem GI.jok {W : Int} {g : Nat} {l : List (List UInt8)} {i : Nat} {S : DS} {J : JS} (h : GI W g l i S J) (hg : g ≤ 65535) (hi : i ≤ 10) : JOk S J := by
  rw [h.j]
  exact ⟨hi, by show 10 ≤ 64; decide, by rw [h.len]; show 0 + 2 * 10 ≤ 20; decide, by show g ≤ 2147483647; omega⟩
theorem GI.add {W : Int} {g : Nat} {l : List (List UInt8)} {i : Nat} {S : DS} {J : JS} (h : GI W g l i S J) (hg : g ≤ 65535) (hl : l.length ≤ 10) (hi : i < l.length) (hb : l[i].length ≤ 112) :
    addE S J l[i] = 0 ∧ GI W g l (i + 1) (addD S J l[i]) (addJ S J l[i]) ∧ ∀ g', g' ≠ g → NG g' S → NG g' (addD S J l[i]) := by
  have jok := h.jok hg (by omega)
  have hJ := h.j
  have hr : J.n ≠ J.room := by rw [hJ]; show i ≠ 10; omega
  obtain ⟨e1, eJ, ok', len', o1, f1, wr', hs⟩ := jstepAt_add h.ok jok hr h.off h.fuse hb
  have hwr := h.wr
  rw [hJ] at hs
  simp only at hs
  refine ⟨e1, ⟨by rw [eJ, hJ], ok', by rw [len', h.len], o1, f1, by omega, fun e he hl' => ?_, fun e he h10 => ?_⟩, fun g' hne hN e he => ?_⟩
  · rw [hJ, hs]
    by_cases hei : e = i
    · subst hei; rw [if_pos rfl, if_pos rfl]
    · rw [if_neg hei]; exact h.step e (by omega) hl'
  · rw [hJ, hs, if_neg (by omega)]; exact h.rest e (by omega) h10
  · rw [hJ, hs]
    by_cases hei : e = i
    · rw [if_pos hei, if_neg hne]
    · rw [if_neg hei]; exact hN e he
theorem GI.steps {W : Int} {g : Nat} {l : List (List UInt8)} {S : DS} {J : JS} (h : GI W g l l.length S J) (hl : l.length ≤ 10) : stepsL S 0 g 10 = l :=
  stepsL_eq hl (fun e he => h.step e he he) (fun h10 => h.rest _ (Nat.le_refl _) h10)
theorem NG.steps {g : Nat} {S : DS} (h : NG g S) : stepsL S 0 g 10 = [] := stepsL_eq (by simp) (fun e he => by simp at he) (fun _ => h 0 (by omega))
theorem NG.new (g : Nat) : NG g (DS.new 20) := fun e he => jstepAt_no (by rw [new_block _ _ (by omega)]; exact frR_zeros 67)
theorem NG.gi {W : Int} {g : Nat} {S : DS} (h : NG g S) (ok : DSOk S) (len : S.len = 20) (off : S.off = false) (fuse : S.fuse = -1) (wr : S.wr ≤ W) (l : List (List UInt8)) : GI W g l 0 S ⟨0, 10, g, 0⟩ :=
  ⟨rfl, ok, len, off, fuse, by omega, fun e he => by omega, fun e _ h10 => h e h10⟩
theorem openE_on {S : DS} {g : Nat} (hg : g ≤ 65535) (ho : S.off = false) : openE S (g : Int) = 0 := by unfold openE; rw [if_neg (by omega), if_neg (by rw [ho]; decide)]
theorem open_is {S : DS} {J : JS} {g : Nat} {l : List (List UInt8)} (hg : g ≤ 65535) (ho : S.off = false) (hs : stepsL S J.at_ g J.room = l) : openE S (g : Int) = 0 ∧ openR S J (g : Int) = l ∧ openJ S J (g : Int) = ⟨J.at_, J.room, g, l.length⟩ := by
  have e := openE_on hg ho
  refine ⟨e, ?_, ?_⟩
  · unfold openR; rw [if_pos e, Int.toNat_natCast, hs]
  · unfold openJ; rw [if_pos e, Int.toNat_natCast, hs]
end Go.Proofs.Ytlbdpoolhmbgaaa

/-
  The pieces of a query in plain terms: the table, where a piece ends, the pieces of a text; with blanks between, the same pieces.
-/
import Derived.Test.YtfhjmhmgkdadhaaDoorW1
/-! LexM -/
namespace Go.Proofs.YtfhjmhmgkdadhaaDoor

/-- A piece, but for its place. -/
structure Pc where
  kind : Nat
  text : List UInt8
  n : Nat
deriving DecidableEq
def endPc : Pc := ⟨5, [], 0⟩
def wordsPc : List (List UInt8) := [[97, 108, 108], [108, 105, 118, 101], [109, 105, 110, 101], [117, 112], [100, 111, 119, 110], [116, 97, 103, 115], [111, 119, 110, 101, 114, 115], [99, 111, 117, 110, 116], [115, 111, 109, 101]]
def signsPc : List (List UInt8) := [[124], [38], [45], [40], [41], [60, 61]]
def tabPc : List Pc := (List.range 16).flatMap (fun n => [⟨2, 114 :: dig n, n⟩, ⟨3, 116 :: dig n, n⟩]) ++ (wordsPc.map fun t => ⟨1, t, 0⟩) ++ signsPc.map fun t => ⟨4, t, 0⟩
theorem tab_len : tabPc.length = 47 := by decide +kernel
/-- A small letter, or a digit. -/
def smallB (c : UInt8) : Bool := (decide (97 ≤ c) && decide (c ≤ 122)) || (decide (48 ≤ c) && decide (c ≤ 57))
/-- How long the piece is that stands ahead. -/
def cutN (s : List UInt8) : Nat :=
  if 0 < (s.takeWhile smallB).length then (s.takeWhile smallB).length else match s with
    | 60 :: 61 :: _ => 2
    | _ => 1
def findPc (t : List UInt8) : Option Pc := tabPc.find? fun x => decide (x.text = t)
/-- The pieces of a text that begins at a place; or the place of what is none. -/
def pcsF : Nat → Nat → List UInt8 → Except Nat (List (Pc × Nat))
  | 0, _, _ => .ok []
  | _ + 1, pl, [] => .ok [(endPc, pl)]
  | f + 1, pl, c :: r => if c = 32 then pcsF f (pl + 1) r else match findPc ((c :: r).take (cutN (c :: r))) with
    | none => .error pl
    | some x => (pcsF f (pl + cutN (c :: r)) ((c :: r).drop (cutN (c :: r)))).map ((x, pl) :: ·)
def pcsL (s : List UInt8) : Except Nat (List (Pc × Nat)) := pcsF (s.length + 1) 0 s
theorem cut_pos (s : List UInt8) : 1 ≤ cutN s := by
  unfold cutN
  split
  · omega
  · split <;> omega
theorem cut_le (c : UInt8) (r : List UInt8) : cutN (c :: r) ≤ r.length + 1 := by
  unfold cutN
  split
  · exact (List.takeWhile_prefix smallB).length_le
  · split
    · rename_i heq
      have := congrArg List.length heq
      simp only [List.length_cons] at this
      omega
    · omega
/-- More fuel changes nothing. -/
theorem pcsF_fuel : ∀ (f g pl : Nat) (s : List UInt8), s.length < f → s.length < g → pcsF f pl s = pcsF g pl s
  | 0, _, _, _, h, _ => absurd h (by omega)
  | _, 0, _, _, _, h => absurd h (by omega)
  | f + 1, g + 1, pl, [], _, _ => rfl
  | f + 1, g + 1, pl, c :: r, h1, h2 => by
    simp only [List.length_cons] at h1 h2
    unfold pcsF
    split
    · exact pcsF_fuel f g _ r (by omega) (by omega)
    · split
      · rfl
      · have hc := cut_pos (c :: r)
        rw [pcsF_fuel f g _ _ (by rw [List.length_drop]; simp only [List.length_cons]; omega) (by rw [List.length_drop]; simp only [List.length_cons]; omega)]
theorem find_text {t : List UInt8} {x : Pc} (h : findPc t = some x) : x ∈ tabPc ∧ x.text = t := by
  unfold findPc at h
  exact ⟨List.mem_of_find?_eq_some h, by simpa using List.find?_some h⟩
theorem find_tab : ∀ x ∈ tabPc, findPc x.text = some x := by decide +kernel
/-- The last piece is the end, the others are of the table. -/
theorem pcsF_end : ∀ (f pl : Nat) (s : List UInt8) (L : List (Pc × Nat)), s.length < f → pcsF f pl s = .ok L → ∃ L0 k, L = L0 ++ [(endPc, k)] ∧ ∀ x ∈ L0, x.1 ∈ tabPc
  | 0, _, _, _, h, _ => absurd h (by omega)
  | f + 1, pl, [], L, _, h => by
    unfold pcsF at h
    cases h
    exact ⟨[], pl, rfl, fun _ h => by cases h⟩
  | f + 1, pl, c :: r, L, hf, h => by
    simp only [List.length_cons] at hf
    unfold pcsF at h
    split at h
    · exact pcsF_end f (pl + 1) r L (by omega) h
    · split at h
      · cases h
      · rename_i y hy
        have hc := cut_pos (c :: r)
        cases e : pcsF f (pl + cutN (c :: r)) ((c :: r).drop (cutN (c :: r))) with
        | error k => rw [e] at h; cases h
        | ok M =>
          rw [e] at h
          cases h
          obtain ⟨L0, k, rfl, hL⟩ := pcsF_end f _ _ M (by rw [List.length_drop]; simp only [List.length_cons]; omega) e
          exact ⟨(y, pl) :: L0, k, rfl, fun x hx => by
            rcases List.mem_cons.1 hx with rfl | hx
            · exact (find_text hy).1
            · exact hL x hx⟩
end Go.Proofs.YtfhjmhmgkdadhaaDoor

/-
  The pieces of a query in plain terms: the table, where a piece ends, the pieces of a text; with blanks between, the same pieces.
-/
import Derived.Test.YtcbphjdhafnkmaaDoorTexts
namespace Go.Proofs.YtcbphjdhafnkmaaDoor

/-- A piece, but for its place. -/
structure Pc where
  kind : Nat
  text : List UInt8
  n : Nat
deriving DecidableEq
def endPc : Pc := ⟨5, [], 0⟩
def wordsPc : List (List UInt8) := [[97, 108, 108], [108, 105, 118, 101], [109, 105, 110, 101], [117, 112], [100, 111, 119, 110], [116, 97, 103, 115], [111, 119, 110, 101, 114, 115], [99, 111, 117, 110, 116], [115, 111, 109, 101]]
def signsPc : List (List UInt8) := [[124], [38], [45], [40], [41], [60, 61]]
def tabPc : List Pc := (List.range 16).flatMap (fun n => [⟨2, 114 :: dig n, n⟩, ⟨3, 116 :: dig n, n⟩]) ++ (wordsPc.map fun t => ⟨1, t, 0⟩) ++ signsPc.map fun t => ⟨4, t, 0⟩
theorem tab_len : tabPc.length = 47 := by decide +kernel
/-- A small letter, or a digit. -/
def smallB (c : UInt8) : Bool := (decide (97 ≤ c) && decide (c ≤ 122)) || (decide (48 ≤ c) && decide (c ≤ 57))
/-- How long the piece is that stands ahead. -/
def cutN (s : List UInt8) : Nat :=
  if 0 < (s.takeWhile smallB).length then (s.takeWhile smallB).length else match s with
    | 60 :: 61 :: _ => 2
    | _ => 1
def findPc (t : List UInt8) : Option Pc := tabPc.find? fun x => decide (x.text = t)
/-- The pieces of a text that begins at a place; or the place of what is none. -/
def pcsF : Nat → Nat → List UInt8 → Except Nat (List (Pc × Nat))
  | 0, _, _ => .ok []
  | _ + 1, pl, [] => .ok [(endPc, pl)]
  | f + 1, pl, c :: r => if c = 32 then pcsF f (pl + 1) r else match findPc ((c :: r).take (cutN (c :: r))) with
    | none => .error pl
    | some x => (pcsF f (pl + cutN (c :: r)) ((c :: r).drop (cutN (c :: r)))).map ((x, pl) :: ·)
def pcsL (s : List UInt8) : Except Nat (List (Pc × Nat)) := pcsF (s.length + 1) 0 s
theorem cut_pos (s : List UInt8) : 1 ≤ cutN s := by
  unfold cutN
  split
  · omega
  · split <;> omega
theorem cut_le (c : UInt8) (r : List UInt8) : cutN (c :: r) ≤ r.length + 1 := by
  unfold cutN
  split
  · exact (List.takeWhile_prefix smallB).length_le
  · split
    · rename_i heq
      have := congrArg List.length heq
      simp only [List.length_cons] at this
      omega
    · omega
/-- More fuel changes nothing. -/
theorem pcsF_fuel : ∀ (f g pl : Nat) (s : List UInt8), s.length < f → s.length < g → pcsF f pl s = pcsF g pl s
  | 0, _, _, _, h, _ => absurd h (by omega)
  | _, 0, _, _, _, h => absurd h (by omega)
  | f + 1, g + 1, pl, [], _, _ => rfl
  | f + 1, g + 1, pl, c :: r, h1, h2 => by
    simp only [List.length_cons] at h1 h2
    unfold pcsF
    split
    · exact pcsF_fuel f g _ r (by omega) (by omega)
    · split
      · rfl
      · have hc := cut_pos (c :: r)
        rw [pcsF_fuel f g _ _ (by rw [List.length_drop]; simp only [List.length_cons]; omega) (by rw [List.length_drop]; simp only [List.length_cons]; omega)]
theorem find_text {t : List UInt8} {x : Pc} (h : findPc t = some x) : x ∈ tabPc ∧ x.text = t := by
  unfold findPc at h
  exact ⟨List.mem_of_find?_eq_some h, by simpa using List.find?_some h⟩
theorem find_tab : ∀ x ∈ tabPc, findPc x.text = some x := by decide +kernel
/-- Each text of the table: no blank ahead; small letters and digits alone, or a sign. -/
theorem tab_shape : ∀ x ∈ tabPc, x.text ≠ [] ∧ (32 : UInt8) ∉ x.text ∧ (x.text.all smallB = true ∨ (x.text.head?.any fun c => !smallB c) = true ∧ (x.text = [60, 61] ∨ x.text.length = 1 ∧ x.text.head? ≠ some 60)) := by decide +kernel
theorem takeWhile_all {p : UInt8 → Bool} : ∀ {a b : List UInt8}, a.all p = true → (b.head?.all fun c => !p c) = true → (a ++ b).takeWhile p = a
  | [], [], _, _ => rfl
  | [], c :: r, _, h => by
    simp only [List.head?_cons, Option.all_some, Bool.not_eq_true'] at h
    rw [List.nil_append, List.takeWhile_cons, h]; rfl
  | x :: a, b, h, h2 => by
    simp only [List.all_cons, Bool.and_eq_true] at h
    rw [List.cons_append, List.takeWhile_cons, h.1]
    simp only [if_true]
    rw [takeWhile_all h.2 h2]
/-- A text of the table, and what is neither letter nor digit behind it: it is what is cut. -/
theorem cut_tab {x : Pc} (hx : x ∈ tabPc) {b : List UInt8} (hb : (b.head?.all fun c => !smallB c) = true) : cutN (x.text ++ b) = x.text.length := by
  obtain ⟨h1, -, h3⟩ := tab_shape x hx
  unfold cutN
  rcases h3 with h3 | ⟨h3, h4⟩
  · rw [takeWhile_all h3 hb, if_pos (List.length_pos_iff.2 h1)]
  · have h0 : ((x.text ++ b).takeWhile smallB).length = 0 := by
      cases e : x.text with
      | nil => exact absurd e h1
      | cons c r =>
        rw [e] at h3
        simp only [List.head?_cons, Option.any_some, Bool.not_eq_true'] at h3
        rw [List.cons_append, List.takeWhile_cons, h3]; rfl
    rw [if_neg (by omega)]
    rcases h4 with h4 | ⟨h4, h5⟩
    · rw [h4]; rfl
    · obtain ⟨c, e⟩ := List.length_eq_one_iff.1 h4
      rw [e] at h5 ⊢
      simp only [List.head?_cons, ne_eq, Option.some.injEq] at h5
      rw [List.cons_append, List.nil_append]
      split
      · rename_i heq
        simp only [List.cons.injEq] at heq
        exact absurd heq.1 h5
      · rfl
/-- Each piece stands where it says. -/
theorem pcsF_at (w : List UInt8) : ∀ (f pl : Nat) (s : List UInt8) (L : List (Pc × Nat)), w.drop pl = s → s.length < f → pcsF f pl s = .ok L → ∀ x ∈ L, (x.1 ∈ tabPc ∨ x.1 = endPc) ∧ (pl ≤ w.length → x.2 + x.1.text.length ≤ w.length) ∧ (w.drop x.2).take x.1.text.length = x.1.text
  | 0, _, _, _, _, h, _ => absurd h (by omega)
  | f + 1, pl, [], L, hd, _, h => by
    unfold pcsF at h
    cases h
    intro x hx
    rw [List.mem_singleton.1 hx]
    exact ⟨.inr rfl, fun h => by simpa [endPc] using h, rfl⟩
  | f + 1, pl, c :: r, L, hd, hf, h => by
    simp only [List.length_cons] at hf
    have hlen : (w.drop pl).length = r.length + 1 := by rw [hd]; rfl
    rw [List.length_drop] at hlen
    unfold pcsF at h
    split at h
    · intro x hx
      have := pcsF_at w f (pl + 1) r L (by rw [← List.drop_drop, hd]; rfl) (by omega) h x hx
      exact ⟨this.1, fun _ => this.2.1 (by omega), this.2.2⟩
    · split at h
      · cases h
      · rename_i y hy
        have hc := cut_pos (c :: r)
        have hc2 := cut_le c r
        cases e : pcsF f (pl + cutN (c :: r)) ((c :: r).drop (cutN (c :: r))) with
        | error k => rw [e] at h; cases h
        | ok M =>
          rw [e] at h
          cases h
          obtain ⟨hy1, hy2⟩ := find_text hy
          intro x hx
          rcases List.mem_cons.1 hx with rfl | hx
          · have hl := congrArg List.length hy2
            rw [List.length_take] at hl
            simp only [List.length_cons] at hl
            refine ⟨.inl hy1, fun _ => by show pl + y.text.length ≤ w.length; omega, ?_⟩
            show (w.drop pl).take y.text.length = y.text
            rw [hd]
            rw [show y.text.length = cutN (c :: r) by omega, hy2]
          · have := pcsF_at w f (pl + cutN (c :: r)) _ M (by rw [← List.drop_drop, hd]) (by rw [List.length_drop]; simp only [List.length_cons]; omega) e x hx
            exact ⟨this.1, fun _ => this.2.1 (by omega), this.2.2⟩
/-- The texts of pieces, a blank behind each. -/
def withB (L : List (Pc × Nat)) : List UInt8 := L.flatMap fun x => x.1.text ++ [32]
/-- A text as it was put together is cut in the same way. -/
theorem pcsF_withB : ∀ (L : List (Pc × Nat)) (f pl : Nat), (∀ x ∈ L, x.1 ∈ tabPc) → (withB L ++ [32]).length < f → ∃ M, pcsF f pl (withB L ++ [32]) = .ok M ∧ M.map (·.1) = L.map (·.1) ++ [endPc]
  | [], 0, _, _, h => absurd h (by omega)
  | [], 1, _, _, h => absurd h (by simp [withB])
  | [], f + 2, pl, _, _ => ⟨[(endPc, pl + 1)], rfl, rfl⟩
  | x :: L, f, pl, hL, hf => by
    obtain ⟨hx, hr⟩ := List.forall_mem_cons.1 hL
    obtain ⟨h1, h2, -⟩ := tab_shape x.1 hx
    have e : withB (x :: L) ++ [32] = x.1.text ++ 32 :: (withB L ++ [32]) := by simp [withB]
    have hc := cut_tab hx (b := 32 :: (withB L ++ [32])) (by show (!smallB 32) = true; decide)
    have hfi := find_tab x.1 hx
    rw [e] at hf ⊢
    rw [List.length_append, List.length_cons] at hf
    cases ex : x.1.text with
    | nil => exact absurd ex h1
    | cons c r =>
      rw [ex] at hf h2 hc hfi
      simp only [List.length_cons] at hf hc
      obtain ⟨g, rfl⟩ : ∃ g, f = g + 2 := ⟨f - 2, by omega⟩
      obtain ⟨M, hM, hm⟩ := pcsF_withB L g (pl + (r.length + 1) + 1) hr (by omega)
      refine ⟨(x.1, pl) :: M, ?_, by rw [List.map_cons, hm]; rfl⟩
      have hne : ¬ c = 32 := fun q => h2 (by rw [q]; simp)
      rw [List.cons_append] at hc ⊢
      unfold pcsF
      rw [if_neg hne, hc]
      have et : (c :: (r ++ 32 :: (withB L ++ [32]))).take (r.length + 1) = c :: r := by rw [List.take_succ_cons, List.take_left]
      have ed : (c :: (r ++ 32 :: (withB L ++ [32]))).drop (r.length + 1) = 32 :: (withB L ++ [32]) := by rw [List.drop_succ_cons, List.drop_left]
      rw [et, ed, hfi]
      show (pcsF (g + 1) (pl + (r.length + 1)) (32 :: (withB L ++ [32]))).map ((x.1, pl) :: ·) = _
      unfold pcsF
      rw [if_pos rfl, hM]
      rfl
/-- The last piece is the end, the others are of the table. -/
theorem pcsF_end : ∀ (f pl : Nat) (s : List UInt8) (L : List (Pc × Nat)), s.length < f → pcsF f pl s = .ok L → ∃ L0 k, L = L0 ++ [(endPc, k)] ∧ ∀ x ∈ L0, x.1 ∈ tabPc
  | 0, _, _, _, h, _ => absurd h (by omega)
  | f + 1, pl, [], L, _, h => by
    unfold pcsF at h
    cases h
    exact ⟨[], pl, rfl, fun _ h => by cases h⟩
  | f + 1, pl, c :: r, L, hf, h => by
    simp only [List.length_cons] at hf
    unfold pcsF at h
    split at h
    · exact pcsF_end f (pl + 1) r L (by omega) h
    · split at h
      · cases h
      · rename_i y hy
        have hc := cut_pos (c :: r)
        cases e : pcsF f (pl + cutN (c :: r)) ((c :: r).drop (cutN (c :: r))) with
        | error k => rw [e] at h; cases h
        | ok M =>
          rw [e] at h
          cases h
          obtain ⟨L0, k, rfl, hL⟩ := pcsF_end f _ _ M (by rw [List.length_drop]; simp only [List.length_cons]; omega) e
          exact ⟨(y, pl) :: L0, k, rfl, fun x hx => by
            rcases List.mem_cons.1 hx with rfl | hx
            · exact (find_text hy).1
            · exact hL x hx⟩
/-- With blanks ahead, between and behind, the same pieces. -/
theorem pcs_blanks {s : List UInt8} {L : List (Pc × Nat)} (h : pcsL s = .ok L) : ∃ M, pcsL (32 :: withB L) = .ok M ∧ M.map (·.1) = L.map (·.1) := by
  obtain ⟨L0, k, rfl, hL⟩ := pcsF_end _ _ _ _ (Nat.lt_succ_self _) h
  have e : withB (L0 ++ [(endPc, k)]) = withB L0 ++ [32] := by simp [withB, endPc]
  rw [e]
  obtain ⟨M, hM, hm⟩ := pcsF_withB L0 ((withB L0 ++ [32]).length + 1) 1 hL (Nat.lt_succ_self _)
  refine ⟨M, ?_, by rw [hm, List.map_append]; rfl⟩
  unfold pcsL
  rw [List.length_cons]
  unfold pcsF
  rw [if_pos rfl]
  exact hM
/-- Each piece alone. -/
def okIs (e : Except Nat (List (Pc × Nat))) (L : List Pc) : Bool := match e with
  | .ok M => decide (M.map (·.1) = L)
  | .error _ => false
theorem tab_alone : ∀ x ∈ tabPc, okIs (pcsL x.text) [x, endPc] = true := by decide +kernel
/-- Two side by side: as LexTable asks. -/
def twoB (x y : Pc) : Bool := if x.kind = 4 ∨ y.kind = 4 then okIs (pcsL (x.text ++ y.text)) [x, y, endPc] else match pcsL (x.text ++ y.text) with
  | .ok M => decide (M.length = 2)
  | .error _ => true
set_option maxRecDepth 100000 in
theorem tab_two : ∀ x ∈ tabPc, ∀ y ∈ tabPc, twoB x y = true := by decide +kernel
set_option maxRecDepth 100000 in
theorem tab_apart : ∀ x ∈ tabPc, ∀ y ∈ tabPc, okIs (pcsL (x.text ++ 32 :: y.text)) [x, y, endPc] = true := by decide +kernel
end Go.Proofs.YtcbphjdhafnkmaaDoor

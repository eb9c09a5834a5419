/-
  Journals in plain terms: what is left of steps behind any fuse, and behind any cleaning.
-/
import Derived.Test.YtlbdpoolhmbgaaaJrnM
namespace Go.Proofs.Ytlbdpoolhmbgaaa

theorem put2_keep {S : DS} {J : JS} {x y : List UInt8} (ok : DSOk S) (hi : J.at_ + 2 * J.n + 1 < S.len) (hx : x.length = 128) (hy : y.length = 128) :
    DSOk (put2S S J x y) ∧ (put2S S J x y).len = S.len ∧ (put2S S J x y).wr ≤ S.wr + 2 ∧ ∀ j, j ≠ J.at_ + 2 * J.n → j ≠ J.at_ + 2 * J.n + 1 → blockL (put2S S J x y) j = blockL S j := by
  generalize hI : J.at_ + 2 * J.n = i at *
  have wr1 : ∀ (T : DS) (z : Int) (q : List UInt8), (writeS T z q).wr ≤ T.wr + 1 := by
    intro T z q; unfold writeS; split
    · exact Int.le_refl _
    · omega
  have hb : ∀ (T : DS) (q : List UInt8) (z j : Nat), DSOk T → z < T.len → q.length = 128 → j ≠ z → blockL (writeS T (z : Int) q) j = blockL T j := by
    intro T q z j hT hz hq hj
    cases ho : T.off with
    | true => exact blockL_off hz hq ho j
    | false => rw [blockL_write hT hz hq ho, if_neg hj]
  have ok1 := ok.write (i : Int) x
  have l1 := writeS_len2 ok (i : Int) x
  have w1 := wr1 S (i : Int) x
  unfold put2S
  rw [hI]
  split
  · exact ⟨ok1, l1, by omega, fun j h1 _ => hb S x i j ok (by omega) hx h1⟩
  · have w2 := wr1 (writeS S (i : Int) x) ((i + 1 : Nat) : Int) y
    refine ⟨ok1.write _ y, by rw [writeS_len2 ok1, l1], by omega, fun j h1 h2 => ?_⟩
    rw [hb _ y (i + 1) j ok1 (by rw [l1]; omega) hy h2, hb S x i j ok (by omega) hx h1]
theorem put2_off {S : DS} {J : JS} {x y : List UInt8} (hi : J.at_ + 2 * J.n + 1 < S.len) (hx : x.length = 128) (ho : S.off = true) : put2E S J x y = 19 ∧ put2S S J x y = S := by
  obtain ⟨h1, h2⟩ := writeE_off (i := J.at_ + 2 * J.n) (l := x) (by omega) hx ho
  unfold put2E put2S
  rw [h1, h2, if_pos (by decide), if_pos (by decide)]
  exact ⟨rfl, rfl⟩
theorem put2_a {S : DS} {J : JS} {x y : List UInt8} (ok : DSOk S) (hi : J.at_ + 2 * J.n + 1 < S.len) (hx : x.length = 128) (ho : S.off = false) (hf : S.fuse = 0) :
    put2E S J x y = 19 ∧ (put2S S J x y).off = true ∧ blockL (put2S S J x y) (J.at_ + 2 * J.n + 1) = blockL S (J.at_ + 2 * J.n + 1) := by
  have h1 := writeE_on (i := J.at_ + 2 * J.n) (l := x) (by omega) hx ho
  rw [if_pos hf] at h1
  have e : put2S S J x y = writeS S ((J.at_ + 2 * J.n : Nat) : Int) x := by unfold put2S; rw [if_pos (by rw [h1]; decide)]
  refine ⟨by unfold put2E; rw [h1, if_pos (by decide)], ?_, ?_⟩
  · rw [e, writeS_on (by omega) hx ho]; simpa using hf
  · rw [e, blockL_write ok (by omega) hx ho, if_neg (by omega)]
theorem put2_first {S : DS} {J : JS} {x y : List UInt8} (ok : DSOk S) (hi : J.at_ + 2 * J.n + 1 < S.len) (hx : x.length = 128) (ho : S.off = false) (hf : S.fuse ≠ 0) :
    ∃ T : DS, DSOk T ∧ T.len = S.len ∧ T.off = false ∧ T.fuse = (if 0 < S.fuse then S.fuse - 1 else S.fuse) ∧ T.keep = S.keep ∧ blockL T (J.at_ + 2 * J.n) = x ∧ (∀ j, j ≠ J.at_ + 2 * J.n → blockL T j = blockL S j) ∧
      put2E S J x y = writeE T ((J.at_ + 2 * J.n + 1 : Nat) : Int) y ∧ put2S S J x y = writeS T ((J.at_ + 2 * J.n + 1 : Nat) : Int) y := by
  have h1 := writeE_on (i := J.at_ + 2 * J.n) (l := x) (by omega) hx ho
  rw [if_neg hf] at h1
  have hw : writtenL S x = x := by unfold writtenL; rw [if_neg hf]
  have hs := writeS_on (i := J.at_ + 2 * J.n) (l := x) (by omega) hx ho
  refine ⟨writeS S ((J.at_ + 2 * J.n : Nat) : Int) x, ok.write _ _, writeS_len2 ok _ _, ?_, ?_, ?_, ?_, ?_, ?_, ?_⟩
  · rw [hs]; simpa using hf
  · rw [hs]; simp only; rw [if_neg hf]
  · rw [hs]
  · rw [blockL_write ok (by omega) hx ho, if_pos rfl, hw]
  · intro j hj; rw [blockL_write ok (by omega) hx ho, if_neg hj]
  · unfold put2E; rw [h1, if_neg (by decide)]
  · unfold put2S; rw [h1, if_neg (by decide)]
theorem put2_b {S : DS} {J : JS} {x y : List UInt8} (ok : DSOk S) (hi : J.at_ + 2 * J.n + 1 < S.len) (hx : x.length = 128) (hy : y.length = 128) (ho : S.off = false) (hf : S.fuse = 1) :
    put2E S J x y = 19 ∧ (put2S S J x y).off = true ∧ blockL (put2S S J x y) (J.at_ + 2 * J.n) = x ∧ blockL (put2S S J x y) (J.at_ + 2 * J.n + 1) = tornL S.keep y := by
  obtain ⟨T, okT, lT, oT, fT, kT, b1, -, e1, e2⟩ := put2_first (y := y) ok hi hx ho (by omega)
  rw [hf] at fT
  have fT0 : T.fuse = 0 := fT
  rw [e1, e2]
  refine ⟨by rw [writeE_on (by omega) hy oT, if_pos fT0], ?_, ?_, ?_⟩
  · rw [writeS_on (by omega) hy oT]; simpa using fT0
  · rw [blockL_write okT (by omega) hy oT, if_neg (by omega), b1]
  · rw [blockL_write okT (by omega) hy oT, if_pos rfl]; unfold writtenL; rw [if_pos fT0, kT]
theorem put2_c {S : DS} {J : JS} {x y : List UInt8} (ok : DSOk S) (hi : J.at_ + 2 * J.n + 1 < S.len) (hx : x.length = 128) (hy : y.length = 128) (ho : S.off = false) (hf : S.fuse ≠ 0) (hf1 : S.fuse ≠ 1) :
    put2E S J x y = 0 ∧ (put2S S J x y).off = false ∧ (put2S S J x y).fuse = (if 0 < S.fuse then S.fuse - 2 else S.fuse) ∧ (put2S S J x y).keep = S.keep ∧ blockL (put2S S J x y) (J.at_ + 2 * J.n) = x ∧ blockL (put2S S J x y) (J.at_ + 2 * J.n + 1) = y := by
  obtain ⟨T, okT, lT, oT, fT, kT, b1, -, e1, e2⟩ := put2_first (y := y) ok hi hx ho hf
  have f0 := ok.fuse0
  have fTn : T.fuse ≠ 0 := by rw [fT]; split <;> omega
  have hw : writtenL T y = y := by unfold writtenL; rw [if_neg fTn]
  have hs := writeS_on (i := J.at_ + 2 * J.n + 1) (l := y) (S := T) (by omega) hy oT
  rw [e1, e2]
  refine ⟨by rw [writeE_on (by omega) hy oT, if_neg fTn], ?_, ?_, ?_, ?_, ?_⟩
  · rw [hs]; simpa using fTn
  · rw [hs]; simp only; rw [if_neg fTn, fT]
    by_cases h : 0 < S.fuse
    · rw [if_pos h, if_pos (by omega), if_pos h]; omega
    · rw [if_neg h, if_neg (by omega), if_neg h]
  · rw [hs]; exact kT
  · rw [blockL_write okT (by omega) hy oT, if_neg (by omega), b1]
  · rw [blockL_write okT (by omega) hy oT, if_pos rfl, hw]

/-- Behind i steps that were added under the fuse (n, k). -/
structure KI (n k : Nat) (l : List (List UInt8)) (i : Nat) (S : DS) (J : JS) : Prop where
  j : J = ⟨3, 12, 0, min i (n / 2)⟩
  ok : DSOk S
  len : S.len = 30
  off : S.off = decide (n < 2 * i)
  fuse : ¬ n < 2 * i → S.fuse = (n : Int) - 2 * i ∧ S.keep = k
  wr : S.wr ≤ 2 * i
  done : ∀ e, e < min i (n / 2) → ∀ h : e < l.length, blockL S (3 + 2 * e) = frL 82 0 e l[e] ∧ blockL S (3 + 2 * e + 1) = frL 67 0 e []
  mid : n < 2 * i → n % 2 = 1 → ∀ h : n / 2 < l.length, blockL S (3 + 2 * (n / 2)) = frL 82 0 (n / 2) l[n / 2] ∧ blockL S (3 + 2 * (n / 2) + 1) = tornL k (frL 67 0 (n / 2) [])
  rest : ∀ e, e ≤ 12 → min i (n / 2) ≤ e → ¬ (n < 2 * i ∧ n % 2 = 1 ∧ e = n / 2) → blockL S (3 + 2 * e + 1) = zeros 128
theorem KI.start {n k : Nat} {l : List (List UInt8)} (hk : k ≤ 128) (hn : n < 24) : KI n k l 0 (armS (DS.new 30) n k) ⟨3, 12, 0, 0⟩ := by
  have ha : armE (n : Int) (k : Int) = 0 := by unfold armE; rw [if_neg (by omega)]
  have e : armS (DS.new 30) n k = { DS.new 30 with fuse := n, keep := k } := by unfold armS; rw [if_pos ha]
  refine ⟨by simp, (DSOk.new (by omega)).arm _ _ (by omega), ?_, ?_, ?_, ?_, ?_, ?_, ?_⟩
  · unfold DS.len; rw [armS_all]; exact DS.new_len 30
  · rw [e]; show false = decide (n < 2 * 0); simp
  · intro _; rw [e]; simp
  · rw [e]; show (0 : Int) ≤ _; omega
  · intro e he; omega
  · intro h; omega
  · intro e he _ _
    rw [blockL_arm, new_block _ _ (by omega)]
theorem KI.no {n k : Nat} {l : List (List UInt8)} {i : Nat} {S : DS} {J : JS} (h : KI n k l i S J) : JOk S J ∧ J.n ≠ J.room ↔ min i (n / 2) < 12 := by
  rw [h.j]
  constructor
  · rintro ⟨h1, h2⟩
    have := h1.n
    simp only at this h2; omega
  · intro h1
    refine ⟨⟨?_, ?_, ?_, ?_⟩, ?_⟩ <;> simp only
    · omega
    · omega
    · rw [h.len]; omega
    · omega
    · omega
theorem KI.add {n k : Nat} {l : List (List UInt8)} {i : Nat} {S : DS} {J : JS} (h : KI n k l i S J) (hl : l.length ≤ 10) (hi : i < l.length) (hb : l[i].length ≤ 112) :
    KI n k l (i + 1) (addD S J l[i]) (addJ S J l[i]) ∧ addE S J l[i] = (if 2 * (i + 1) ≤ n then 0 else 19) := by
  have hJ := h.j
  have hroom : ¬ J.n = J.room := by rw [hJ]; simp only; omega
  have hat : J.at_ + 2 * J.n + 1 < S.len := by rw [hJ, h.len]; simp only; omega
  have eD : addD S J l[i] = put2S S J (frL 82 J.gen J.n l[i]) (frL 67 J.gen J.n []) := by unfold addD; rw [if_neg (by omega)]
  have eE : addE S J l[i] = put2E S J (frL 82 J.gen J.n l[i]) (frL 67 J.gen J.n []) := by unfold addE; rw [if_neg hroom, if_neg (by omega)]
  have hx : (frL 82 J.gen J.n l[i]).length = 128 := frL_length hb
  have hy : (frL 67 J.gen J.n []).length = 128 := frL_length (by simp)
  obtain ⟨ok', len', wr', other⟩ := put2_keep h.ok hat hx hy
  rw [← eD] at ok' len' wr' other
  have hwr := h.wr
  by_cases hoff : n < 2 * i
  · -- off already
    have ho : S.off = true := by rw [h.off]; simpa using hoff
    obtain ⟨e1, e2⟩ := put2_off (y := frL 67 J.gen J.n []) hat hx ho
    rw [e1] at eE
    rw [e2] at eD
    have eJ : addJ S J l[i] = J := by unfold addJ; rw [eE, if_neg (by decide)]
    rw [eD, eE, eJ, if_neg (by omega)]
    have hm : min (i + 1) (n / 2) = min i (n / 2) := by omega
    refine ⟨⟨by rw [hm]; exact hJ, h.ok, h.len, by rw [ho]; simp; omega, fun h1 => absurd hoff (by omega), by omega, ?_, ?_, ?_⟩, rfl⟩
    · rw [hm]; exact h.done
    · intro _; exact h.mid hoff
    · intro e he h1 h2
      rw [hm] at h1
      exact h.rest e he h1 (fun h3 => h2 ⟨by omega, h3.2⟩)
  · have ho : S.off = false := by rw [h.off]; simpa using hoff
    obtain ⟨hf, hkp⟩ := h.fuse hoff
    have hm : min i (n / 2) = i := by omega
    rw [hm] at hJ
    have hd := h.done
    have hr := h.rest
    rw [hm] at hd hr
    subst hJ
    simp only at eD eE hx hy other hat
    by_cases h0 : n = 2 * i
    · obtain ⟨e1, o1, b1⟩ := put2_a (y := frL 67 0 i []) (J := ⟨3, 12, 0, i⟩) h.ok hat hx ho (by omega)
      rw [← eE] at e1
      rw [← eD] at o1 b1
      have eJ : addJ S ⟨3, 12, 0, i⟩ l[i] = ⟨3, 12, 0, i⟩ := by unfold addJ; rw [e1, if_neg (by decide)]
      have hm1 : min (i + 1) (n / 2) = i := by omega
      rw [eJ, e1, if_neg (by omega)]
      refine ⟨⟨by rw [hm1], ok', by rw [len', h.len], by rw [o1]; simp; omega, fun h1 => absurd h1 (by omega), by omega, ?_, ?_, ?_⟩, rfl⟩
      · rw [hm1]; intro e he hl'
        rw [other _ (by omega) (by omega), other _ (by omega) (by omega)]; exact hd e he hl'
      · intro _ h2; omega
      · intro e he h1 _
        rw [hm1] at h1
        by_cases hei : e = i
        · subst hei; simp only at b1; rw [b1]; exact hr e he (by omega) (by omega)
        · rw [other _ (by omega) (by omega)]; exact hr e he (by omega) (by omega)
    · by_cases h1' : n = 2 * i + 1
      · obtain ⟨e1, o1, b0, b1⟩ := put2_b (J := ⟨3, 12, 0, i⟩) h.ok hat hx hy ho (by omega)
        rw [← eE] at e1
        rw [← eD] at o1 b0 b1
        have eJ : addJ S ⟨3, 12, 0, i⟩ l[i] = ⟨3, 12, 0, i⟩ := by unfold addJ; rw [e1, if_neg (by decide)]
        have hm1 : min (i + 1) (n / 2) = i := by omega
        have hni : n / 2 = i := by omega
        rw [eJ, e1, if_neg (by omega)]
        refine ⟨⟨by rw [hm1], ok', by rw [len', h.len], by rw [o1]; simp; omega, fun h1 => absurd h1 (by omega), by omega, ?_, ?_, ?_⟩, rfl⟩
        · rw [hm1]; intro e he hl'
          rw [other _ (by omega) (by omega), other _ (by omega) (by omega)]; exact hd e he hl'
        · intro _ _
          simp only [hni]
          intro _
          simp only at b0 b1
          rw [hkp] at b1
          exact ⟨b0, b1⟩
        · intro e he h1 h2
          rw [hm1] at h1
          have hei : e ≠ i := fun h3 => h2 ⟨by omega, by omega, by omega⟩
          rw [other _ (by omega) (by omega)]; exact hr e he (by omega) (by omega)
      · obtain ⟨e1, o1, f1, k1, b0, b1⟩ := put2_c (J := ⟨3, 12, 0, i⟩) h.ok hat hx hy ho (by omega) (by omega)
        rw [← eE] at e1
        rw [← eD] at o1 f1 k1 b0 b1
        have eJ : addJ S ⟨3, 12, 0, i⟩ l[i] = ⟨3, 12, 0, i + 1⟩ := by unfold addJ; rw [e1, if_pos rfl]
        have hm1 : min (i + 1) (n / 2) = i + 1 := by omega
        rw [eJ, e1, if_pos (by omega)]
        refine ⟨⟨by rw [hm1], ok', by rw [len', h.len], by rw [o1]; simp; omega, fun _ => ⟨?_, by rw [k1, hkp]⟩, by omega, ?_, fun h1 => absurd h1 (by omega), ?_⟩, rfl⟩
        · rw [f1, if_pos (by omega)]; omega
        · rw [hm1]; intro e he hl'
          by_cases hei : e = i
          · subst hei; exact ⟨b0, b1⟩
          · rw [other _ (by omega) (by omega), other _ (by omega) (by omega)]; exact hd e (by omega) hl'
        · intro e he h1 _
          rw [hm1] at h1
          rw [other _ (by omega) (by omega)]; exact hr e he (by omega) (by omega)

/-- Just these steps are committed, and behind them lies no commit. -/
structure CI (W : Int) (S : DS) (a : List (List UInt8)) : Prop where
  ok : DSOk S
  wr : S.wr ≤ W
  len : S.len = 30
  few : a.length < 12
  step : ∀ e, (h : e < a.length) → jstepAt S 3 0 e = some a[e]
  no : (frR 67 (blockL S (3 + 2 * a.length + 1))).e ≠ 0
theorem CI.steps {W : Int} {S : DS} {a : List (List UInt8)} (h : CI W S a) : stepsL S 3 0 12 = a := stepsL_eq (by have := h.few; omega) h.step (fun _ => jstepAt_no h.no)
/-- How many steps are opened. -/
def wantN (n k L : Nat) : Nat := min L (n / 2) + if n < 2 * L ∧ n % 2 = 1 ∧ k = 128 then 1 else 0
theorem KI.ci {n k : Nat} {l : List (List UInt8)} {S : DS} {J : JS} (h : KI n k l l.length S J) (hk : k ≤ 128) (hl : l.length ≤ 10) (hb : ∀ b ∈ l, b.length ≤ 112) :
    wantN n k l.length ≤ l.length ∧ CI 20 (powerS S) (l.take (wantN n k l.length)) := by
  have hle : wantN n k l.length ≤ l.length := by unfold wantN; split <;> omega
  refine ⟨hle, h.ok.power, by have := h.wr; show S.wr ≤ 20; omega, h.len, by rw [List.length_take]; omega, fun e he => ?_, ?_⟩
  · rw [List.length_take] at he
    have hel : e < l.length := by omega
    have hbe := hb l[e] (List.getElem_mem hel)
    rw [List.getElem_take]
    have hs : blockL (powerS S) (3 + 2 * e) = frL 82 0 e l[e] ∧ blockL (powerS S) (3 + 2 * e + 1) = frL 67 0 e [] := by
      by_cases hd : e < min l.length (n / 2)
      · exact h.done e hd hel
      · have hw : n < 2 * l.length ∧ n % 2 = 1 ∧ k = 128 ∧ e = n / 2 := by
          unfold wantN at he
          split at he
          · rename_i h1; exact ⟨h1.1, h1.2.1, h1.2.2, by omega⟩
          · omega
        obtain ⟨w1, w2, w3, rfl⟩ := hw
        have := h.mid w1 w2 hel
        rw [w3, show ((128 : Nat) : Int) = 128 from rfl, tornL_all (frL_length (by simp))] at this
        exact this
    rw [jstepAt_frames (by omega) (by omega) hbe hs.1 hs.2 0, if_pos rfl]
  · rw [List.length_take, Nat.min_eq_left hle, blockL_power]
    by_cases hm : n < 2 * l.length ∧ n % 2 = 1 ∧ k ≠ 128
    · have hw : wantN n k l.length = n / 2 := by unfold wantN; rw [if_neg (fun h1 => hm.2.2 h1.2.2)]; omega
      rw [hw, (h.mid hm.1 hm.2.1 (by omega)).2]
      exact frR_torn (frL_length (by simp)) (by omega)
    · rw [h.rest _ (by omega) (by unfold wantN; omega) (fun h1 => by
        have hk2 : k = 128 := Classical.not_not.1 fun h2 => hm ⟨h1.1, h1.2.1, h2⟩
        have := h1.2.2
        unfold wantN at this
        rw [if_pos ⟨h1.1, h1.2.1, hk2⟩] at this
        omega)]
      exact frR_zeros 67
/-- A cleaning, however torn, keeps what is committed. -/
theorem CI.clean {W : Int} {S : DS} {a : List (List UInt8)} (h : CI W S a) (n k : Int) (hn : n ≤ 9223372036854775807) (g : Nat) : (armS S n k).wr ≤ W ∧ CI (W + 2) (powerS (cleanD (armS S n k) ⟨3, 12, g, a.length⟩)) a := by
  have okA := h.ok.arm n k hn
  have hlA : (armS S n k).len = 30 := by unfold DS.len; rw [armS_all]; exact h.len
  have hwA : (armS S n k).wr ≤ W := by unfold armS; split <;> exact h.wr
  have hz : (zeros 128).length = 128 := by simp [zeros]
  have hlt := h.few
  have hat : (JS.mk 3 12 g a.length).at_ + 2 * (JS.mk 3 12 g a.length).n + 1 < (armS S n k).len := by rw [hlA]; simp only; omega
  have eC : cleanD (armS S n k) ⟨3, 12, g, a.length⟩ = put2S (armS S n k) ⟨3, 12, g, a.length⟩ (zeros 128) (zeros 128) := by unfold cleanD; rw [if_neg (by simp only; omega)]
  obtain ⟨ok', len', wr', other⟩ := put2_keep okA hat hz hz
  have hno : (frR 67 (blockL (put2S (armS S n k) ⟨3, 12, g, a.length⟩ (zeros 128) (zeros 128)) (3 + 2 * a.length + 1))).e ≠ 0 := by
    have h0 := h.no
    rw [← blockL_arm S n k] at h0
    cases ho : (armS S n k).off with
    | true => rw [(put2_off hat hz ho).2]; exact h0
    | false =>
      by_cases f0 : (armS S n k).fuse = 0
      · have := (put2_a (y := zeros 128) okA hat hz ho f0).2.2
        simp only at this
        rw [this]; exact h0
      · by_cases f1 : (armS S n k).fuse = 1
        · have := (put2_b okA hat hz hz ho f1).2.2.2
          simp only at this
          rw [this]
          have k0 := okA.keep0
          have k1 := okA.keep1
          obtain ⟨m, hm⟩ := Int.eq_ofNat_of_zero_le k0
          rw [hm]
          exact frR_torn0 67 (by omega)
        · have := (put2_c okA hat hz hz ho f0 f1).2.2.2.2.2
          simp only at this
          rw [this]; exact frR_zeros 67
  rw [eC]
  refine ⟨hwA, ok'.power, by show (put2S _ _ _ _).wr ≤ W + 2; omega, by show (put2S _ _ _ _).len = 30; rw [len', hlA], h.few, fun e he => ?_, ?_⟩
  · rw [jstepAt_power, jstepAt_cong (T := S) (by rw [other _ (by simp only; omega) (by simp only; omega), blockL_arm]) (by rw [other _ (by simp only; omega) (by simp only; omega), blockL_arm])]
    exact h.step e he
  · rw [blockL_power]; exact hno
/-- On a disk that is on and has no fuse it is cleaned. -/
theorem CI.cleaned {W : Int} {S : DS} {a : List (List UInt8)} (h : CI W S a) (ho : S.off = false) (hf : S.fuse = -1) (g : Nat) : cleanE S ⟨3, 12, g, a.length⟩ = 0 ∧ CI (W + 2) (cleanD S ⟨3, 12, g, a.length⟩) a ∧ (cleanD S ⟨3, 12, g, a.length⟩).off = false := by
  have hz : (zeros 128).length = 128 := by simp [zeros]
  have hlt := h.few
  have hat : (JS.mk 3 12 g a.length).at_ + 2 * (JS.mk 3 12 g a.length).n + 1 < S.len := by rw [h.len]; simp only; omega
  have eC : cleanD S ⟨3, 12, g, a.length⟩ = put2S S ⟨3, 12, g, a.length⟩ (zeros 128) (zeros 128) := by unfold cleanD; rw [if_neg (by simp only; omega)]
  obtain ⟨ok', len', wr', other⟩ := put2_keep h.ok hat hz hz
  have hwr := h.wr
  obtain ⟨e1, o1, -, -, -, b1⟩ := put2_c h.ok hat hz hz ho (by omega) (by omega)
  simp only at b1
  refine ⟨by unfold cleanE; rw [if_neg (by simp only; omega), e1], ?_, by rw [eC, o1]⟩
  rw [eC]
  refine ⟨ok', by omega, by rw [len', h.len], h.few, fun e he => ?_, by rw [b1]; exact frR_zeros 67⟩
  rw [jstepAt_cong (T := S) (by rw [other _ (by simp only; omega) (by simp only; omega)]) (by rw [other _ (by simp only; omega) (by simp only; omega)])]
  exact h.step e he
end Go.Proofs.Ytlbdpoolhmbgaaa

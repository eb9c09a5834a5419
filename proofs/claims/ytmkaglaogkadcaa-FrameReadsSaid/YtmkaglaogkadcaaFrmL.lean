/-
  The program's frames: Read.
-/
import Derived.Test.YtmkaglaogkadcaaFrmF
namespace Go.Proofs.Ytmkaglaogkadcaa
open Go.RowKit

/-- What is read of the 120 bytes that were sealed. -/
def padB (T : List UInt8) : Bool := (T.drop (8 + at8 T 7)).all fun c => c == 0
def contR (T : List UInt8) : FrR := if 2147483647 < frGen T ∨ 112 < at8 T 7 ∨ padB T = false then ⟨0, 0, [], 3⟩ else ⟨frGen T, frSeq T, frPay T, 0⟩
theorem eight {T : List UInt8} (h : 8 ≤ T.length) : ∃ a b c d e f g i r, T = a :: b :: c :: d :: e :: f :: g :: i :: r := by
  match T, h with
  | a :: b :: c :: d :: e :: f :: g :: i :: r, _ => exact ⟨a, b, c, d, e, f, g, i, r, rfl⟩
theorem rd1 {T : List UInt8} (h : 8 ≤ T.length) : dNum (T, 0) 1 255 = (((at8 T 0 : Nat) : Int), (T.drop 1, 0)) := by
  obtain ⟨a, b, c, d, e, f, g, i, r, rfl⟩ := eight h
  have := a.toNat_lt
  have hv : valB [a] = a.toNat := by simp [valB]
  unfold dNum
  rw [if_pos (by decide)]
  have ht : tookS (a :: b :: c :: d :: e :: f :: g :: i :: r, 0) (1 : Int).toNat = [a] := by simp [tookS]
  have hs : takeS (a :: b :: c :: d :: e :: f :: g :: i :: r, 0) (1 : Int).toNat = (b :: c :: d :: e :: f :: g :: i :: r, 0) := by simp [takeS]
  rw [ht, hs, hv, if_neg (by omega)]
  rfl
theorem rd4 {T : List UInt8} (h : 8 ≤ T.length) : dNum (T.drop 1, 0) 4 2147483647 = if 2147483647 < frGen T then (0, ([], 8)) else (((frGen T : Nat) : Int), (T.drop 5, 0)) := by
  obtain ⟨a, b, c, d, e, f, g, i, r, rfl⟩ := eight h
  have hv : valB [b, c, d, e] = frGen (a :: b :: c :: d :: e :: f :: g :: i :: r) := by simp [valB, frGen, at8]; omega
  unfold dNum
  rw [if_pos (by decide)]
  have ht : tookS ((a :: b :: c :: d :: e :: f :: g :: i :: r).drop 1, 0) (4 : Int).toNat = [b, c, d, e] := by simp [tookS]
  have hs : takeS ((a :: b :: c :: d :: e :: f :: g :: i :: r).drop 1, 0) (4 : Int).toNat = (f :: g :: i :: r, 0) := by simp [takeS]; omega
  rw [ht, hs, hv]
  generalize frGen (a :: b :: c :: d :: e :: f :: g :: i :: r) = G
  by_cases hG : 2147483647 < G
  · rw [if_pos hG, if_pos (by omega)]; rfl
  · rw [if_neg hG, if_neg (by omega)]; rfl
theorem rd2 {T : List UInt8} (h : 8 ≤ T.length) : dNum (T.drop 5, 0) 2 65535 = (((frSeq T : Nat) : Int), (T.drop 7, 0)) := by
  obtain ⟨a, b, c, d, e, f, g, i, r, rfl⟩ := eight h
  have hv : valB [f, g] = frSeq (a :: b :: c :: d :: e :: f :: g :: i :: r) := by simp [valB, frSeq, at8]
  have hl : valB [f, g] < 65536 := by have := valB_lt [f, g]; simpa using this
  unfold dNum
  rw [if_pos (by decide)]
  have ht : tookS ((a :: b :: c :: d :: e :: f :: g :: i :: r).drop 5, 0) (2 : Int).toNat = [f, g] := by simp [tookS]
  have hs : takeS ((a :: b :: c :: d :: e :: f :: g :: i :: r).drop 5, 0) (2 : Int).toNat = (i :: r, 0) := by simp [takeS]; omega
  rw [ht, hs, if_neg (by omega), hv]
  rfl
theorem rd1b {T : List UInt8} (h : 8 ≤ T.length) : dNum (T.drop 7, 0) 1 112 = if 112 < at8 T 7 then (0, ([], 8)) else (((at8 T 7 : Nat) : Int), (T.drop 8, 0)) := by
  obtain ⟨a, b, c, d, e, f, g, i, r, rfl⟩ := eight h
  have hv : valB [i] = at8 (a :: b :: c :: d :: e :: f :: g :: i :: r) 7 := by simp [valB, at8]
  unfold dNum
  rw [if_pos (by decide)]
  have ht : tookS ((a :: b :: c :: d :: e :: f :: g :: i :: r).drop 7, 0) (1 : Int).toNat = [i] := by simp [tookS]
  have hs : takeS ((a :: b :: c :: d :: e :: f :: g :: i :: r).drop 7, 0) (1 : Int).toNat = (r, 0) := by simp [takeS]
  rw [ht, hs, hv]
  generalize at8 (a :: b :: c :: d :: e :: f :: g :: i :: r) 7 = G
  by_cases hG : 112 < G
  · rw [if_pos hG, if_pos (by omega)]; rfl
  · rw [if_neg hG, if_neg (by omega)]; rfl
theorem rdno (k : Nat) (h1 : 1 ≤ k) (h4 : k ≤ 4) (most : Int) (hm : 0 ≤ most) : dNum ([], 8) k most = (0, ([], 8)) := by
  have hz : sizedB (k : Int) = true := by simp [sizedB]; omega
  have ht : tookS ([], 8) k = [] := by unfold tookS; rw [if_pos (by simp; omega)]
  have hs : takeS ([], 8) k = ([], 8) := by unfold takeS; rw [if_pos (by simp; omega)]; simp [failS]
  unfold dNum
  rw [if_pos hz, Int.toNat_natCast, ht, hs, if_neg (by simp [valB]; omega)]
  rfl
theorem at8_take {t : List UInt8} {k n : Nat} (h : k < n) : at8 (t.take n) k = at8 t k := by
  unfold at8
  simp [List.getD, h]
theorem frGen_take (t : List UInt8) : frGen (t.take 120) = frGen t := by
  unfold frGen
  rw [at8_take (by omega), at8_take (by omega), at8_take (by omega), at8_take (by omega)]
theorem frSeq_take (t : List UInt8) : frSeq (t.take 120) = frSeq t := by
  unfold frSeq
  rw [at8_take (by omega), at8_take (by omega)]
theorem frPay_take {t : List UInt8} (h : at8 t 7 ≤ 112) : frPay (t.take 120) = frPay t := by
  unfold frPay
  rw [at8_take (by omega), List.drop_take, List.take_take, Nat.min_eq_left (by omega)]
theorem frSeq_lt (t : List UInt8) : frSeq t < 65536 := by
  have h1 := at8_lt t 5
  have h2 := at8_lt t 6
  unfold frSeq; omega
theorem frHead_eq {t : List UInt8} (h : 8 ≤ t.length) : frHead (t.getD 0 0) (frGen t) (frSeq t) (at8 t 7) = t.take 8 := by
  obtain ⟨a, b, c, d, e, f, g, i, r, rfl⟩ := eight h
  have hb := b.toNat_lt
  have hc := c.toNat_lt
  have hd := d.toNat_lt
  have he := e.toNat_lt
  have hf := f.toNat_lt
  have hg := g.toNat_lt
  have hi := i.toNat_lt
  unfold frHead frGen frSeq at8
  simp only [List.getD_cons_zero, List.getD_cons_succ, List.take_succ_cons, List.take_zero, List.cons.injEq, and_true, true_and]
  refine ⟨?_, ?_, ?_, ?_, ?_, ?_, ?_⟩ <;> apply UInt8.toNat_inj.1 <;> simp <;> omega
theorem frBody_eq {t : List UInt8} (hl : t.length = 128) (h7 : at8 t 7 ≤ 112) : frBody (t.getD 0 0) (frGen t) (frSeq t) (frPay t) = t.take (8 + at8 t 7) ++ zeros (112 - at8 t 7) := by
  have hp : (frPay t).length = at8 t 7 := by unfold frPay; rw [List.length_take, List.length_drop]; omega
  unfold frBody
  rw [hp, frHead_eq (by omega), List.take_add]
  rfl
/-- When is what a sealed block holds written as the same block? -/
theorem frWL_eq {t : List UInt8} (hl : t.length = 128) (ht : t.drop 124 = frTail) (hs : sealL (t.take 120) = t.take 124) (h7 : at8 t 7 ≤ 112) :
    frWL (t.getD 0 0) (frGen t) (frSeq t) (frPay t) = t ↔ frGen t ≤ 2147483647 ∧ padB (t.take 120) = true := by
  have hp : (frPay t).length = at8 t 7 := by unfold frPay; rw [List.length_take, List.length_drop]; omega
  have hS := frSeq_lt t
  have hpad : (t.take 120).drop (8 + at8 (t.take 120) 7) = (t.drop (8 + at8 t 7)).take (112 - at8 t 7) := by
    rw [at8_take (by omega), List.drop_take]; congr 1; omega
  by_cases hG : frGen t ≤ 2147483647
  · have he : frWE (frGen t) (frSeq t) (frPay t) = 0 := by unfold frWE; rw [if_neg (by omega), if_neg (by omega)]
    have hw : frWL (t.getD 0 0) (frGen t) (frSeq t) (frPay t) = frL (t.getD 0 0) (frGen t) (frSeq t) (frPay t) := by unfold frWL; rw [if_pos he]; rfl
    have h120 : t.take 120 = t.take (8 + at8 t 7) ++ (t.drop (8 + at8 t 7)).take (112 - at8 t 7) := by
      rw [← List.take_add]; congr 1; omega
    have hlen2 : ((t.drop (8 + at8 t 7)).take (112 - at8 t 7)).length = 112 - at8 t 7 := by rw [List.length_take, List.length_drop]; omega
    rw [hw]
    unfold frL padB
    rw [frBody_eq hl h7, hpad]
    constructor
    · intro h
      refine ⟨hG, ?_⟩
      have h1 := congrArg (List.take 120) h
      have hb : (t.take (8 + at8 t 7) ++ zeros (112 - at8 t 7)).length = 120 := by rw [List.length_append, List.length_take]; simp [zeros]; omega
      rw [sealL, List.append_assoc, List.take_left' hb, h120] at h1
      have h2 := List.append_cancel_left h1
      rw [← h2]
      simp [zeros]
    · rintro ⟨-, h⟩
      have h2 : (t.drop (8 + at8 t 7)).take (112 - at8 t 7) = zeros (112 - at8 t 7) := by
        unfold zeros
        rw [List.eq_replicate_iff]
        refine ⟨hlen2, fun x hx => ?_⟩
        have := List.all_eq_true.1 h x hx
        simpa using this
      rw [← h2, ← h120, hs, ← ht, List.take_append_drop]
  · have he : frWE (frGen t) (frSeq t) (frPay t) = 8 := by unfold frWE; rw [if_pos (by omega)]
    have hw : frWL (t.getD 0 0) (frGen t) (frSeq t) (frPay t) = [] := by unfold frWL; rw [he]; rfl
    rw [hw]
    constructor
    · intro h; rw [← h] at hl; simp at hl
    · rintro ⟨h, -⟩; exact absurd h hG
/-- What is read of a block whose form and sum hold. -/
theorem frR_cont {kd : UInt8} {t : List UInt8} (hl : t.length = 128) (h0 : t.getD 0 0 = kd) (ht : t.drop 124 = frTail) (hs : sealL (t.take 120) = t.take 124) : frR kd t = contR (t.take 120) := by
  subst h0
  have hm := frR_more (kd := t.getD 0 0) hl ⟨rfl, (tail_iff hl).1 ht⟩ hs
  unfold contR
  rw [frGen_take, frSeq_take, at8_take (by omega)]
  by_cases h7 : 112 < at8 t 7
  · rw [if_pos (.inr (.inl h7))]
    exact hm.1 (.inl h7)
  · have he := frWL_eq hl ht hs (by omega)
    by_cases hb : 2147483647 < frGen t ∨ 112 < at8 t 7 ∨ padB (t.take 120) = false
    · rw [if_pos hb]
      refine hm.1 (.inr fun h => ?_)
      obtain ⟨h1, h2⟩ := he.1 h
      rcases hb with hb | hb | hb
      · omega
      · exact h7 hb
      · rw [h2] at hb; cases hb
    · rw [if_neg hb, frPay_take (by omega)]
      refine hm.2 h7 (he.2 ⟨by omega, ?_⟩)
      cases hq : padB (t.take 120) with
      | true => rfl
      | false => exact absurd (.inr (.inr hq)) hb
def ContIs (B : Nat) (w : World) (T : List UInt8) (e : Ending) (w' : World) : Prop := ∃ q n c, e = .returned (.tuple #[.int .i64 (contR T).gen, .int .i64 (contR T).seq, .slice q n c, .int .i64 (contR T).e]) ∧ BsAt w' q n c (contR T).pay ∧ (∀ a, q = some a → B ≤ a.block) ∧ Below w.heap.size w w'
theorem partP_ge {p : Option Addr} {lo hi B : Nat} (h : ∀ a, p = some a → B ≤ a.block) : ∀ a, partP p lo hi = some a → B ≤ a.block := by
  intro a ha
  unfold partP at ha
  split at ha
  · exact h a ha
  · cases p with
    | none => cases ha
    | some q =>
      simp only [Option.map_some, Option.some.injEq] at ha
      rw [← ha]
      have : (q.add lo).block = q.block := by unfold Addr.add; split <;> rfl
      rw [this]; exact h q rfl
theorem frPay_part {T : List UInt8} : (T.take (8 + at8 T 7)).drop 8 = frPay T := by
  unfold frPay
  rw [List.drop_take]; congr 1; omega

set_option maxRecDepth 100000 in
set_option maxHeartbeats 3200000 in
theorem fcontent_any (B : Nat) (p : Option Addr) (len cap : Nat) (T : List UInt8) (w : World) (h : BsAt w p len cap T) (hl : T.length = 120) (h0 : 0 < w.heap.size) (hp : ∀ a, p = some a → B ≤ a.block) :
    Calls Try.prog 22 #[.slice p len cap] w (ContIs B w T) := by
  have hsame := h.same
  have HBs := Lib.hid h
  have HP := Lib.hid hp
  have HR := Lib.hid (newRd_any p len cap T w h (by omega) h0)
  have HD := Lib.hid (And.intro (rd1 (T := T) (by omega)) (And.intro (rd4 (T := T) (by omega)) (And.intro (rd2 (T := T) (by omega)) (rd1b (T := T) (by omega)))))
  have HN := Lib.hid (And.intro (show dNum ([], 8) 2 65535 = _ from rdno 2 (by omega) (by omega) 65535 (by omega)) (show dNum ([], 8) 1 112 = _ from rdno 1 (by omega) (by omega) 112 (by omega)))
  have hle : len ≤ cap := h.le
  have hT : (T.drop 1).length ≤ 1000000 ∧ (T.drop 5).length ≤ 1000000 ∧ (T.drop 7).length ≤ 1000000 := by simp only [List.length_drop]; omega
  have HT := Lib.hid hT
  obtain rfl : len = 120 := by omega
  clear h hp hT hsame
  by_cases hG : 2147483647 < frGen T
  · have HE := Lib.hid (show contR T = ⟨0, 0, [], 3⟩ by unfold contR; rw [if_pos (.inl hG)])
    have hd := HD.out.2.1
    rw [if_pos hG] at hd
    have HD2 := Lib.hid hd
    clear hd hG
    go_enter Try.func22, Try.ntmps22
    go_wp2_with fail
    with_reducible refine HR.out.mono ?_
    rintro e w1 ⟨b, g, rfl, hb, hgb, hgw, hA1, hB1⟩
    have HA1 := Lib.hid hA1
    have HB1 := Lib.hid hB1
    have HGB := Lib.hid hgb
    clear hA1 hB1 hgw hgb HR
    go_wp2_with fail
    refine (rdnum_any b _ g (T, 0) 1 255 _ HA1.out HGB.out (by show T.length ≤ _; omega)).mono ?_
    rintro e w2 ⟨rfl, hT2⟩
    rw [HD.out.1] at hT2
    rw [HD.out.1]
    have HT2 := Lib.hid hT2
    clear hT2
    go_wp2_with fail
    refine (rdnum_any b _ g _ 4 2147483647 _ HT2.out.1 HGB.out HT.out.1).mono ?_
    rintro e w3 ⟨rfl, hT3⟩
    rw [HD2.out] at hT3
    rw [HD2.out]
    have HT3 := Lib.hid (HT2.out.trans hT3)
    clear hT3 HT2
    go_wp2_with fail
    refine (rdnum_any b _ g _ 2 65535 _ HT3.out.1 HGB.out (by simp)).mono ?_
    rintro e w4 ⟨rfl, hT4⟩
    rw [HN.out.1] at hT4
    rw [HN.out.1]
    have HT4 := Lib.hid (HT3.out.trans hT4)
    clear hT4 HT3
    go_wp2_with fail
    refine (rdnum_any b _ g _ 1 112 _ HT4.out.1 HGB.out (by simp)).mono ?_
    rintro e w5 ⟨rfl, hT5⟩
    rw [HN.out.2] at hT5
    rw [HN.out.2]
    have HT5 := Lib.hid (HT4.out.trans hT5)
    clear hT5 HT4
    go_wp2_with fail
    refine (rderr_any b _ g _ _ HT5.out.1).mono ?_
    rintro e w6 ⟨rfl, rfl⟩
    go_wp2_with fail
    refine bodyPost_ret (results_tmp4 rfl _ _ _) rfl ?_
    exact ⟨none, 0, 0, by rw [HE.out]; rfl, by rw [HE.out]; exact bsAt_nil _, (fun _ h => by cases h), HB1.out.trans (HT5.out.2.below HB1.out.size fun k hk => by subst hk; exact hb)⟩
  · have hd := HD.out.2.1
    rw [if_neg hG] at hd
    have HD2 := Lib.hid hd
    clear hd
    by_cases h7 : 112 < at8 T 7
    · have HE := Lib.hid (show contR T = ⟨0, 0, [], 3⟩ by unfold contR; rw [if_pos (.inr (.inl h7))])
      have hd := HD.out.2.2.2
      rw [if_pos h7] at hd
      have HD7 := Lib.hid hd
      clear hd h7 hG
      go_enter Try.func22, Try.ntmps22
      go_wp2_with fail
      with_reducible refine HR.out.mono ?_
      rintro e w1 ⟨b, g, rfl, hb, hgb, hgw, hA1, hB1⟩
      have HA1 := Lib.hid hA1
      have HB1 := Lib.hid hB1
      have HGB := Lib.hid hgb
      clear hA1 hB1 hgw hgb HR
      go_wp2_with fail
      refine (rdnum_any b _ g (T, 0) 1 255 _ HA1.out HGB.out (by show T.length ≤ _; omega)).mono ?_
      rintro e w2 ⟨rfl, hT2⟩
      rw [HD.out.1] at hT2
      rw [HD.out.1]
      have HT2 := Lib.hid hT2
      clear hT2
      go_wp2_with fail
      refine (rdnum_any b _ g _ 4 2147483647 _ HT2.out.1 HGB.out HT.out.1).mono ?_
      rintro e w3 ⟨rfl, hT3⟩
      rw [HD2.out] at hT3
      rw [HD2.out]
      have HT3 := Lib.hid (HT2.out.trans hT3)
      clear hT3 HT2
      go_wp2_with fail
      refine (rdnum_any b _ g _ 2 65535 _ HT3.out.1 HGB.out HT.out.2.1).mono ?_
      rintro e w4 ⟨rfl, hT4⟩
      rw [HD.out.2.2.1] at hT4
      rw [HD.out.2.2.1]
      have HT4 := Lib.hid (HT3.out.trans hT4)
      clear hT4 HT3
      go_wp2_with fail
      refine (rdnum_any b _ g _ 1 112 _ HT4.out.1 HGB.out HT.out.2.2).mono ?_
      rintro e w5 ⟨rfl, hT5⟩
      rw [HD7.out] at hT5
      rw [HD7.out]
      have HT5 := Lib.hid (HT4.out.trans hT5)
      clear hT5 HT4
      go_wp2_with fail
      refine (rderr_any b _ g _ _ HT5.out.1).mono ?_
      rintro e w6 ⟨rfl, rfl⟩
      go_wp2_with fail
      refine bodyPost_ret (results_tmp4 rfl _ _ _) rfl ?_
      exact ⟨none, 0, 0, by rw [HE.out]; rfl, by rw [HE.out]; exact bsAt_nil _, (fun _ h => by cases h), HB1.out.trans (HT5.out.2.below HB1.out.size fun k hk => by subst hk; exact hb)⟩
    · have hd := HD.out.2.2.2
      rw [if_neg h7] at hd
      have HD7 := Lib.hid hd
      have HC := Lib.hid (show contR T = if padB T = false then ⟨0, 0, [], 3⟩ else ⟨frGen T, frSeq T, frPay T, 0⟩ by
        unfold contR
        by_cases hb : padB T = false
        · rw [if_pos (.inr (.inr hb)), if_pos hb]
        · rw [if_neg (by rintro (h | h | h); exact hG h; exact h7 h; exact hb h), if_neg hb])
      have HPd := Lib.hid (show padB T = (((T.take 120).drop (8 + at8 T 7)).all fun c => c == 0) by rw [List.take_of_length_le (by omega)]; rfl)
      have HPy := Lib.hid (frPay_part (T := T))
      clear hd hG
      generalize at8 T 7 = n at *
      have hnn : n ≤ 112 := by omega
      clear h7
      go_enter Try.func22, Try.ntmps22
      go_wp2_with fail
      with_reducible refine HR.out.mono ?_
      rintro e w1 ⟨b, g, rfl, hb, hgb, hgw, hA1, hB1⟩
      have HA1 := Lib.hid hA1
      have HB1 := Lib.hid hB1
      have HGB := Lib.hid hgb
      clear hA1 hB1 hgw hgb HR
      go_wp2_with fail
      refine (rdnum_any b _ g (T, 0) 1 255 _ HA1.out HGB.out (by show T.length ≤ _; omega)).mono ?_
      rintro e w2 ⟨rfl, hT2⟩
      rw [HD.out.1] at hT2
      rw [HD.out.1]
      have HT2 := Lib.hid hT2
      clear hT2
      go_wp2_with fail
      refine (rdnum_any b _ g _ 4 2147483647 _ HT2.out.1 HGB.out HT.out.1).mono ?_
      rintro e w3 ⟨rfl, hT3⟩
      rw [HD2.out] at hT3
      rw [HD2.out]
      have HT3 := Lib.hid (HT2.out.trans hT3)
      clear hT3 HT2
      go_wp2_with fail
      refine (rdnum_any b _ g _ 2 65535 _ HT3.out.1 HGB.out HT.out.2.1).mono ?_
      rintro e w4 ⟨rfl, hT4⟩
      rw [HD.out.2.2.1] at hT4
      rw [HD.out.2.2.1]
      have HT4 := Lib.hid (HT3.out.trans hT4)
      clear hT4 HT3
      go_wp2_with fail
      refine (rdnum_any b _ g _ 1 112 _ HT4.out.1 HGB.out HT.out.2.2).mono ?_
      rintro e w5 ⟨rfl, hT5⟩
      rw [HD7.out] at hT5
      rw [HD7.out]
      have HT5 := Lib.hid (HT4.out.trans hT5)
      clear hT5 HT4
      have hadd : IntKind.i64.wrap (8 + (n : Int)) = 8 + (n : Int) := IntWalk.i64_in _ (by omega)
      go_wp2_with fail
      refine (rderr_any b _ g _ _ HT5.out.1).mono ?_
      rintro e w6 ⟨rfl, rfl⟩
      have HB5 := Lib.hid (HB1.out.trans (HT5.out.2.below HB1.out.size fun k hk => by subst hk; exact hb))
      have HS5 := Lib.hid (HBs.out.below HB5.out (Nat.le_refl _))
      clear HT5 HB1 HA1 HD HD2 HD7 HN hadd
      have HPt := Lib.hid (fun V => fpart_any p 120 cap (8 + n) 120 (8 + (n : Int)) 120 V (by omega) rfl (by omega) hle)
      have HPu := Lib.hid (fun V => fpart_any p 120 cap 8 (8 + n) 8 (8 + (n : Int)) V rfl (by omega) (by omega) (by omega))
      have HBl := Lib.hid (fun V (hV : BsAt V p 120 cap T) => fblank_any _ _ _ _ V (part_bs (lo := 8 + n) (hi := 120) hV (by omega) (by omega)))
      rw [← HPd.out] at HBl
      go_wp2_with fail
      with_reducible refine (HPt.out _).mono ?_
      rintro e w7 ⟨rfl, rfl⟩
      cases hpd : padB T with
      | true =>
        rw [hpd] at HBl HC
        clear hpd
        go_wp2_with fail
        with_reducible refine (HBl.out _ HS5.out).mono ?_
        rintro e w8 ⟨rfl, rfl⟩
        go_wp2_with fail
        with_reducible refine (HPu.out _).mono ?_
        rintro e w9 ⟨rfl, rfl⟩
        go_wp2_with fail
        refine bodyPost_ret (results_tmp4 rfl _ _ _) rfl ?_
        have hc : contR T = ⟨frGen T, frSeq T, frPay T, 0⟩ := HC.out
        have hq := part_bs (lo := 8) (hi := 8 + n) HS5.out (by omega) (by omega)
        rw [HPy.out, show 8 + n - 8 = n by omega] at hq
        exact ⟨_, _, _, by rw [hc]; rfl, by rw [hc]; exact hq, partP_ge HP.out, HB5.out⟩
      | false =>
        rw [hpd] at HBl HC
        clear hpd
        go_wp2_with fail
        with_reducible refine (HBl.out _ HS5.out).mono ?_
        rintro e w8 ⟨rfl, rfl⟩
        go_wp2_with fail
        refine bodyPost_ret (results_tmp4 rfl _ _ _) rfl ?_
        have hc : contR T = ⟨0, 0, [], 3⟩ := HC.out
        exact ⟨none, 0, 0, by rw [hc]; rfl, by rw [hc]; exact bsAt_nil _, (fun _ h => by cases h), HB5.out⟩
theorem kd_ne {t : List UInt8} {g off : Nat} {w : World} (hl : t.length = 128) (h : ∀ i, (hi : i < t.length) → w.cell? ⟨g, off + i, none⟩ = some (.int .u8 (t[i].toNat : Int))) : w.cell? ⟨g, off, none⟩ = some (.int .u8 ((t.getD 0 0).toNat : Int)) := by
  have h1 := h 0 (by omega)
  rw [Nat.add_zero] at h1
  rw [h1]
  simp [List.getD, show 0 < t.length by omega]
theorem str_eq (a : List UInt8) : ((⟨a.toArray⟩ : ByteArray).toList == [0, 0, 0, 69]) = decide (a = frTail) := by
  have e : (⟨#[0, 0, 0, 69]⟩ : ByteArray).toList = [0, 0, 0, 69] := by simp
  rw [← e, ← beq_toListBytes]
  by_cases h : a = frTail
  · rw [h]; decide
  · rw [show decide (a = frTail) = false by simpa using h]
    exact str_ne (b := frTail) h

set_option maxRecDepth 100000 in
set_option maxHeartbeats 3200000 in
theorem frRead_any : FrReadC := by
  intro kd p len cap t w h h5
  have hsame := h.same
  subst hsame
  by_cases hlen : t.length = 128
  case neg =>
    have HE := Lib.hid (show frR kd t = ⟨0, 0, [], 1⟩ from by
      have he : frRE kd t = 1 := by unfold frRE; rw [if_pos hlen]
      unfold frR; rw [if_neg (by omega), he])
    have hbm : t.length ≤ 9223372036854775807 := by omega
    have d1 : ¬ ((t.length : Int) = 128) := by omega
    clear h hlen h5
    generalize t.length = n at *
    go_enter Try.func9, Try.ntmps9
    go_wp2_with fail
    refine bodyPost_ret (results_tmp4 rfl _ _ _) rfl ?_
    exact ⟨none, 0, by rw [HE.out]; rfl, by rw [HE.out]; exact ⟨bsAt_nil _, fun _ h => by cases h⟩, Below.refl _ _⟩
  case pos =>
  obtain ⟨g, off, rfl, hg, hcs⟩ : ∃ g off, p = some ⟨g, off, none⟩ ∧ g < w.heap.size ∧ ∀ i, (h : i < t.length) → w.cell? ⟨g, off + i, none⟩ = some (.int .u8 (t[i].toNat : Int)) := by
    rcases h.place with ⟨-, h2⟩ | ⟨h2, -⟩ | ⟨g', off, rfl, h3, h4⟩
    · have := h.le; omega
    · rw [h2] at hlen; simp at hlen
    · exact ⟨g', off, rfl, h3, h4⟩
  have c0 := kd_ne hlen hcs
  have hle := h.le
  have HBs := Lib.hid h
  have h0 : 0 < w.heap.size := by omega
  clear hcs h5 h
  rw [hlen] at hle HBs
  rw [hlen]
  by_cases hk : t.getD 0 0 = kd
  case neg =>
    have HE := Lib.hid (show frR kd t = ⟨0, 0, [], 3⟩ from frR_form hlen (fun h1 => hk (UInt8.toNat_inj.1 h1.1)))
    have d1 : ¬ (((t.getD 0 0).toNat : Nat) : Int) = ((kd.toNat : Nat) : Int) := by
      intro e; exact hk (UInt8.toNat_inj.1 (by omega))
    clear hk
    generalize (t.getD 0 0).toNat = x at *
    generalize kd.toNat = y at *
    go_enter Try.func9, Try.ntmps9
    go_wp2_with fail
    refine bodyPost_ret (results_tmp4 rfl _ _ _) rfl ?_
    exact ⟨none, 0, by rw [HE.out]; rfl, by rw [HE.out]; exact ⟨bsAt_nil _, fun _ h => by cases h⟩, Below.refl _ _⟩
  case pos =>
  rw [hk] at c0
  have HP1 := Lib.hid (fun V => fpart_at g off 128 cap 124 128 124 128 (off + 124) 4 V rfl rfl (by decide) (by omega) rfl rfl)
  have HP2 := Lib.hid (fun V => fpart_at g off 128 cap 0 124 0 124 off 124 V rfl rfl (by decide) (by omega) rfl rfl)
  have hb1 : BsAt w (some ⟨g, off + 124, none⟩) 4 4 (t.drop 124) := by
    have h1 := part_bs (lo := 124) (hi := 128) HBs.out (by omega) (by omega)
    rw [List.take_of_length_le (by omega)] at h1
    have e : partP (some ⟨g, off, none⟩) 124 128 = some ⟨g, off + 124, none⟩ := by
      unfold partP Addr.add; simp
    rw [e] at h1; exact h1
  have hb2 : BsAt w (some ⟨g, off, none⟩) 124 124 (t.take 124) := by
    have h1 := part_bs (lo := 0) (hi := 124) HBs.out (by omega) (by omega)
    have e : partP (some ⟨g, off, none⟩) 0 124 = some ⟨g, off, none⟩ := by
      unfold partP Addr.add; simp
    rw [e] at h1; exact h1
  have HStr := Lib.hid (run_string_bs (P := Try.prog) w 22 5 9 Try.underlying22 Try.underlying5 Try.underlying9 hb1)
  have HSe := Lib.hid (str_eq (t.drop 124))
  have HO := Lib.hid (cOpen_new _ _ _ _ w hb2 (by rw [List.length_take]; omega))
  clear hb1 hb2
  by_cases ht : t.drop 124 = frTail
  case neg =>
    have HE := Lib.hid (show frR kd t = ⟨0, 0, [], 3⟩ from frR_form hlen (fun h1 => ht ((tail_iff hlen).2 h1.2)))
    rw [show decide (t.drop 124 = frTail) = false by simpa using ht] at HSe
    have q := HStr.out
    have q2 := HSe.out
    generalize (⟨(t.drop 124).toArray⟩ : ByteArray) = S at *
    generalize kd.toNat = y at *
    clear ht HStr HSe
    go_enter Try.func9, Try.ntmps9
    go_wp2_with fail
    with_reducible refine (HP1.out _).mono ?_
    rintro e w1 ⟨rfl, rfl⟩
    go_wp2_with fail
    refine bodyPost_ret (results_tmp4 rfl _ _ _) rfl ?_
    exact ⟨none, 0, by rw [HE.out]; rfl, by rw [HE.out]; exact ⟨bsAt_nil _, fun _ h => by cases h⟩, Below.refl _ _⟩
  case pos =>
  rw [show decide (t.drop 124 = frTail) = true by simpa using ht] at HSe
  have q := HStr.out
  have q2 := HSe.out
  generalize (⟨(t.drop 124).toArray⟩ : ByteArray) = S at *
  have hl4 : (t.take 124).length = 124 := by rw [List.length_take]; omega
  have ht4 : (t.take 124).take 120 = t.take 120 := by rw [List.take_take, show min 120 124 = 120 from rfl]
  have hse : sealedB (t.take 124) = true ↔ sealL (t.take 120) = t.take 124 := by
    have := sealed_eq (t := t.take 124) (by omega)
    rw [hl4, show 124 - 4 = 120 from rfl, ht4] at this
    exact this
  cases hsd : sealedB (t.take 124) with
  | false =>
    have hne : ¬ sealL (t.take 120) = t.take 124 := fun h => by rw [hse.2 h] at hsd; cases hsd
    have HE := Lib.hid (show frR kd t = ⟨0, 0, [], 18⟩ from frR_sum hlen ⟨by unfold at8; rw [hk], (tail_iff hlen).1 ht⟩ hne)
    have he : openErr (t.take 124) = 18 := by unfold openErr; rw [if_neg (by omega), hsd]; rfl
    have HO2 := Lib.hid he
    generalize kd.toNat = y at *
    clear ht HStr HSe hse hne hsd he hl4 ht4
    go_enter Try.func9, Try.ntmps9
    go_wp2_with fail
    with_reducible refine (HP1.out _).mono ?_
    rintro e w1 ⟨rfl, rfl⟩
    go_wp2_with fail
    with_reducible refine (HP2.out _).mono ?_
    rintro e w1 ⟨rfl, rfl⟩
    go_wp2_with fail
    with_reducible refine HO.out.mono ?_
    rintro e w2 ⟨p2, n2, c2, rfl, hb2, hB2, hp2⟩
    rw [HO2.out]
    have HB2 := Lib.hid hB2
    clear hb2 hB2 hp2
    go_wp2_with fail
    refine bodyPost_ret (results_tmp4 rfl _ _ _) rfl ?_
    exact ⟨none, 0, by rw [HE.out]; rfl, by rw [HE.out]; exact ⟨bsAt_nil _, fun _ h => by cases h⟩, HB2.out⟩
  | true =>
    have HE := Lib.hid (frR_cont hlen hk ht (hse.1 hsd))
    have he : openErr (t.take 124) = 0 := by unfold openErr; rw [if_neg (by omega), hsd]; rfl
    have hol : openL (t.take 124) = t.take 120 := by unfold openL; rw [hsd, if_pos rfl, hl4, ht4]
    have hl0 : (t.take 120).length = 120 := by rw [List.length_take]; omega
    have HO2 := Lib.hid (And.intro he (And.intro hol hl0))
    generalize hkk : kd.toNat = y at *
    clear ht HStr HSe hse hsd he hl4 ht4 hol hl0
    go_enter Try.func9, Try.ntmps9
    go_wp2_with fail
    with_reducible refine (HP1.out _).mono ?_
    rintro e w1 ⟨rfl, rfl⟩
    go_wp2_with fail
    with_reducible refine (HP2.out _).mono ?_
    rintro e w1 ⟨rfl, rfl⟩
    go_wp2_with fail
    with_reducible refine HO.out.mono ?_
    rintro e w2 ⟨p2, n2, c2, rfl, hb2, hB2, hp2⟩
    rw [HO2.out.1]
    rw [HO2.out.2.1] at hb2
    have HB2 := Lib.hid hB2
    have HC := Lib.hid (fcontent_any w.heap.size p2 n2 c2 _ w2 hb2 HO2.out.2.2 (Nat.lt_of_lt_of_le h0 hB2.size) hp2)
    clear hb2 hB2 hp2
    go_wp2_with fail
    with_reducible refine HC.out.mono ?_
    rintro e w3 ⟨p3, n3, c3, rfl, hb3, hp3, hB3⟩
    have HB3 := Lib.hid (HB2.out.trans (hB3.mono HB2.out.size))
    have HS3 := Lib.hid hb3
    have HP3 := Lib.hid hp3
    clear hb3 hB3 hp3
    go_wp2_with fail
    refine bodyPost_ret (results_tmp4 rfl _ _ _) rfl ?_
    have hn := HS3.out.same
    have hs3 := HS3.out
    subst hn
    exact ⟨p3, c3, by rw [HE.out]; rfl, by rw [HE.out]; exact ⟨hs3, HP3.out⟩, HB3.out⟩
end Go.Proofs.Ytmkaglaogkadcaa

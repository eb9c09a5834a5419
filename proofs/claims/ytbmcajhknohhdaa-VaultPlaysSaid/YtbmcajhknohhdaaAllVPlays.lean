/-
  The law VaultPlays holds for every argument. Nothing of the program's variables is asked: it returns true and leaves its arguments as they were.
-/
import Derived.Test.YtbmcajhknohhdaaAllVPlaysb
import Derived.Test.YtbmcajhknohhdaaDskE
import Derived.Test.YtbmcajhknohhdaaWirW
import Derived.Test.YtbmcajhknohhdaaWirE
import Derived.Test.YtbmcajhknohhdaaCrcF
import Derived.OwnWalk
import Derived.Test.YtbmcajhknohhdaaDskH
import Derived.StillTailTactics
import Derived.Deep.DeepCutAuto
import Derived.LoopTactic
import Derived.Test.YtbmcajhknohhdaaDskF
import Derived.Test.YtbmcajhknohhdaaWirV
import Derived.Test.YtbmcajhknohhdaaRegI
import Derived.Test.YtbmcajhknohhdaaCalm
import Derived.LoopN
import Derived.Test.YtbmcajhknohhdaaArr
import Derived.WalkMore
import Derived.Test.YtbmcajhknohhdaaRows
import Derived.Test.YtbmcajhknohhdaaBlk
import Derived.ProofKit
import Derived.OpenShut
import Derived.Deep.DeepHandedRow
import Derived.LaidMore
import Derived.Stop.Joined
import Derived.Deep.Slices
import Derived.Deep.Fields
import Derived.ChangeSame
import Derived.JoinedOf
import Derived.JoinedAt
import Derived.ChangeMaps
import Derived.DataElems
import Derived.Test.YtbmcajhknohhdaaVActA
import Derived.Test.YtbmcajhknohhdaaPbA
/-! FrmL -/
namespace Go.Proofs.Ytbmcajhknohhdaa
open Go.RowKit

/-- What is read of the 120 bytes that were sealed. -/
def padB (T : List UInt8) : Bool := (T.drop (8 + at8 T 7)).all fun c => c == 0
def contR (T : List UInt8) : FrR := if 2147483647 < frGen T ∨ 112 < at8 T 7 ∨ padB T = false then ⟨0, 0, [], 3⟩ else ⟨frGen T, frSeq T, frPay T, 0⟩
theorem eight {T : List UInt8} (h : 8 ≤ T.length) : ∃ a b c d e f g i r, T = a :: b :: c :: d :: e :: f :: g :: i :: r := by
  match T, h with
  | a :: b :: c :: d :: e :: f :: g :: i :: r, _ => exact ⟨a, b, c, d, e, f, g, i, r, rfl⟩
theorem rd1 {T : List UInt8} (h : 8 ≤ T.length) : dNum (T, 0) 1 255 = (((at8 T 0 : Nat) : Int), (T.drop 1, 0)) := by
  obtain ⟨a, b, c, d, e, f, g, i, r, rfl⟩ := eight h
  have := a.toNat_lt
  have hv : valB [a] = a.toNat := by simp [valB]
  unfold dNum
  rw [if_pos (by decide)]
  have ht : tookS (a :: b :: c :: d :: e :: f :: g :: i :: r, 0) (1 : Int).toNat = [a] := by simp [tookS]
  have hs : takeS (a :: b :: c :: d :: e :: f :: g :: i :: r, 0) (1 : Int).toNat = (b :: c :: d :: e :: f :: g :: i :: r, 0) := by simp [takeS]
  rw [ht, hs, hv, if_neg (by omega)]
  rfl
theorem rd4 {T : List UInt8} (h : 8 ≤ T.length) : dNum (T.drop 1, 0) 4 2147483647 = if 2147483647 < frGen T then (0, ([], 8)) else (((frGen T : Nat) : Int), (T.drop 5, 0)) := by
  obtain ⟨a, b, c, d, e, f, g, i, r, rfl⟩ := eight h
  have hv : valB [b, c, d, e] = frGen (a :: b :: c :: d :: e :: f :: g :: i :: r) := by simp [valB, frGen, at8]; omega
  unfold dNum
  rw [if_pos (by decide)]
  have ht : tookS ((a :: b :: c :: d :: e :: f :: g :: i :: r).drop 1, 0) (4 : Int).toNat = [b, c, d, e] := by simp [tookS]
  have hs : takeS ((a :: b :: c :: d :: e :: f :: g :: i :: r).drop 1, 0) (4 : Int).toNat = (f :: g :: i :: r, 0) := by simp [takeS]; omega
  rw [ht, hs, hv]
  generalize frGen (a :: b :: c :: d :: e :: f :: g :: i :: r) = G
  by_cases hG : 2147483647 < G
  · rw [if_pos hG, if_pos (by omega)]; rfl
  · rw [if_neg hG, if_neg (by omega)]; rfl
theorem rd2 {T : List UInt8} (h : 8 ≤ T.length) : dNum (T.drop 5, 0) 2 65535 = (((frSeq T : Nat) : Int), (T.drop 7, 0)) := by
  obtain ⟨a, b, c, d, e, f, g, i, r, rfl⟩ := eight h
  have hv : valB [f, g] = frSeq (a :: b :: c :: d :: e :: f :: g :: i :: r) := by simp [valB, frSeq, at8]
  have hl : valB [f, g] < 65536 := by have := valB_lt [f, g]; simpa using this
  unfold dNum
  rw [if_pos (by decide)]
  have ht : tookS ((a :: b :: c :: d :: e :: f :: g :: i :: r).drop 5, 0) (2 : Int).toNat = [f, g] := by simp [tookS]
  have hs : takeS ((a :: b :: c :: d :: e :: f :: g :: i :: r).drop 5, 0) (2 : Int).toNat = (i :: r, 0) := by simp [takeS]; omega
  rw [ht, hs, if_neg (by omega), hv]
  rfl
theorem rd1b {T : List UInt8} (h : 8 ≤ T.length) : dNum (T.drop 7, 0) 1 112 = if 112 < at8 T 7 then (0, ([], 8)) else (((at8 T 7 : Nat) : Int), (T.drop 8, 0)) := by
  obtain ⟨a, b, c, d, e, f, g, i, r, rfl⟩ := eight h
  have hv : valB [i] = at8 (a :: b :: c :: d :: e :: f :: g :: i :: r) 7 := by simp [valB, at8]
  unfold dNum
  rw [if_pos (by decide)]
  have ht : tookS ((a :: b :: c :: d :: e :: f :: g :: i :: r).drop 7, 0) (1 : Int).toNat = [i] := by simp [tookS]
  have hs : takeS ((a :: b :: c :: d :: e :: f :: g :: i :: r).drop 7, 0) (1 : Int).toNat = (r, 0) := by simp [takeS]
  rw [ht, hs, hv]
  generalize at8 (a :: b :: c :: d :: e :: f :: g :: i :: r) 7 = G
  by_cases hG : 112 < G
  · rw [if_pos hG, if_pos (by omega)]; rfl
  · rw [if_neg hG, if_neg (by omega)]; rfl
theorem rdno (k : Nat) (h1 : 1 ≤ k) (h4 : k ≤ 4) (most : Int) (hm : 0 ≤ most) : dNum ([], 8) k most = (0, ([], 8)) := by
  have hz : sizedB (k : Int) = true := by simp [sizedB]; omega
  have ht : tookS ([], 8) k = [] := by unfold tookS; rw [if_pos (by simp; omega)]
  have hs : takeS ([], 8) k = ([], 8) := by unfold takeS; rw [if_pos (by simp; omega)]; simp [failS]
  unfold dNum
  rw [if_pos hz, Int.toNat_natCast, ht, hs, if_neg (by simp [valB]; omega)]
  rfl
theorem at8_take {t : List UInt8} {k n : Nat} (h : k < n) : at8 (t.take n) k = at8 t k := by
  unfold at8
  simp [List.getD, h]
theorem frGen_take (t : List UInt8) : frGen (t.take 120) = frGen t := by
  unfold frGen
  rw [at8_take (by omega), at8_take (by omega), at8_take (by omega), at8_take (by omega)]
theorem frSeq_take (t : List UInt8) : frSeq (t.take 120) = frSeq t := by
  unfold frSeq
  rw [at8_take (by omega), at8_take (by omega)]
theorem frPay_take {t : List UInt8} (h : at8 t 7 ≤ 112) : frPay (t.take 120) = frPay t := by
  unfold frPay
  rw [at8_take (by omega), List.drop_take, List.take_take, Nat.min_eq_left (by omega)]
theorem frSeq_lt (t : List UInt8) : frSeq t < 65536 := by
  have h1 := at8_lt t 5
  have h2 := at8_lt t 6
  unfold frSeq; omega
theorem frHead_eq {t : List UInt8} (h : 8 ≤ t.length) : frHead (t.getD 0 0) (frGen t) (frSeq t) (at8 t 7) = t.take 8 := by
  obtain ⟨a, b, c, d, e, f, g, i, r, rfl⟩ := eight h
  have hb := b.toNat_lt
  have hc := c.toNat_lt
  have hd := d.toNat_lt
  have he := e.toNat_lt
  have hf := f.toNat_lt
  have hg := g.toNat_lt
  have hi := i.toNat_lt
  unfold frHead frGen frSeq at8
  simp only [List.getD_cons_zero, List.getD_cons_succ, List.take_succ_cons, List.take_zero, List.cons.injEq, and_true, true_and]
  refine ⟨?_, ?_, ?_, ?_, ?_, ?_, ?_⟩ <;> apply UInt8.toNat_inj.1 <;> simp <;> omega
theorem frBody_eq {t : List UInt8} (hl : t.length = 128) (h7 : at8 t 7 ≤ 112) : frBody (t.getD 0 0) (frGen t) (frSeq t) (frPay t) = t.take (8 + at8 t 7) ++ zeros (112 - at8 t 7) := by
  have hp : (frPay t).length = at8 t 7 := by unfold frPay; rw [List.length_take, List.length_drop]; omega
  unfold frBody
  rw [hp, frHead_eq (by omega), List.take_add]
  rfl
/-- When is what a sealed block holds written as the same block? -/
theorem frWL_eq {t : List UInt8} (hl : t.length = 128) (ht : t.drop 124 = frTail) (hs : sealL (t.take 120) = t.take 124) (h7 : at8 t 7 ≤ 112) :
    frWL (t.getD 0 0) (frGen t) (frSeq t) (frPay t) = t ↔ frGen t ≤ 2147483647 ∧ padB (t.take 120) = true := by
  have hp : (frPay t).length = at8 t 7 := by unfold frPay; rw [List.length_take, List.length_drop]; omega
  have hS := frSeq_lt t
  have hpad : (t.take 120).drop (8 + at8 (t.take 120) 7) = (t.drop (8 + at8 t 7)).take (112 - at8 t 7) := by
    rw [at8_take (by omega), List.drop_take]; congr 1; omega
  by_cases hG : frGen t ≤ 2147483647
  · have he : frWE (frGen t) (frSeq t) (frPay t) = 0 := by unfold frWE; rw [if_neg (by omega), if_neg (by omega)]
    have hw : frWL (t.getD 0 0) (frGen t) (frSeq t) (frPay t) = frL (t.getD 0 0) (frGen t) (frSeq t) (frPay t) := by unfold frWL; rw [if_pos he]; rfl
    have h120 : t.take 120 = t.take (8 + at8 t 7) ++ (t.drop (8 + at8 t 7)).take (112 - at8 t 7) := by
      rw [← List.take_add]; congr 1; omega
    have hlen2 : ((t.drop (8 + at8 t 7)).take (112 - at8 t 7)).length = 112 - at8 t 7 := by rw [List.length_take, List.length_drop]; omega
    rw [hw]
    unfold frL padB
    rw [frBody_eq hl h7, hpad]
    constructor
    · intro h
      refine ⟨hG, ?_⟩
      have h1 := congrArg (List.take 120) h
      have hb : (t.take (8 + at8 t 7) ++ zeros (112 - at8 t 7)).length = 120 := by rw [List.length_append, List.length_take]; simp [zeros]; omega
      rw [sealL, List.append_assoc, List.take_left' hb, h120] at h1
      have h2 := List.append_cancel_left h1
      rw [← h2]
      simp [zeros]
    · rintro ⟨-, h⟩
      have h2 : (t.drop (8 + at8 t 7)).take (112 - at8 t 7) = zeros (112 - at8 t 7) := by
        unfold zeros
        rw [List.eq_replicate_iff]
        refine ⟨hlen2, fun x hx => ?_⟩
        have := List.all_eq_true.1 h x hx
        simpa using this
      rw [← h2, ← h120, hs, ← ht, List.take_append_drop]
  · have he : frWE (frGen t) (frSeq t) (frPay t) = 8 := by unfold frWE; rw [if_pos (by omega)]
    have hw : frWL (t.getD 0 0) (frGen t) (frSeq t) (frPay t) = [] := by unfold frWL; rw [he]; rfl
    rw [hw]
    constructor
    · intro h; rw [← h] at hl; simp at hl
    · rintro ⟨h, -⟩; exact absurd h hG
/-- What is read of a block whose form and sum hold. -/
theorem frR_cont {kd : UInt8} {t : List UInt8} (hl : t.length = 128) (h0 : t.getD 0 0 = kd) (ht : t.drop 124 = frTail) (hs : sealL (t.take 120) = t.take 124) : frR kd t = contR (t.take 120) := by
  subst h0
  have hm := frR_more (kd := t.getD 0 0) hl ⟨rfl, (tail_iff hl).1 ht⟩ hs
  unfold contR
  rw [frGen_take, frSeq_take, at8_take (by omega)]
  by_cases h7 : 112 < at8 t 7
  · rw [if_pos (.inr (.inl h7))]
    exact hm.1 (.inl h7)
  · have he := frWL_eq hl ht hs (by omega)
    by_cases hb : 2147483647 < frGen t ∨ 112 < at8 t 7 ∨ padB (t.take 120) = false
    · rw [if_pos hb]
      refine hm.1 (.inr fun h => ?_)
      obtain ⟨h1, h2⟩ := he.1 h
      rcases hb with hb | hb | hb
      · omega
      · exact h7 hb
      · rw [h2] at hb; cases hb
    · rw [if_neg hb, frPay_take (by omega)]
      refine hm.2 h7 (he.2 ⟨by omega, ?_⟩)
      cases hq : padB (t.take 120) with
      | true => rfl
      | false => exact absurd (.inr (.inr hq)) hb
def ContIs (B : Nat) (w : World) (T : List UInt8) (e : Ending) (w' : World) : Prop := ∃ q n c, e = .returned (.tuple #[.int .i64 (contR T).gen, .int .i64 (contR T).seq, .slice q n c, .int .i64 (contR T).e]) ∧ BsAt w' q n c (contR T).pay ∧ (∀ a, q = some a → B ≤ a.block) ∧ Below w.heap.size w w'
theorem partP_ge {p : Option Addr} {lo hi B : Nat} (h : ∀ a, p = some a → B ≤ a.block) : ∀ a, partP p lo hi = some a → B ≤ a.block := by
  intro a ha
  unfold partP at ha
  split at ha
  · exact h a ha
  · cases p with
    | none => cases ha
    | some q =>
      simp only [Option.map_some, Option.some.injEq] at ha
      rw [← ha]
      have : (q.add lo).block = q.block := by unfold Addr.add; split <;> rfl
      rw [this]; exact h q rfl
theorem frPay_part {T : List UInt8} : (T.take (8 + at8 T 7)).drop 8 = frPay T := by
  unfold frPay
  rw [List.drop_take]; congr 1; omega

set_option maxRecDepth 100000 in
set_option maxHeartbeats 3200000 in
theorem fcontent_any (B : Nat) (p : Option Addr) (len cap : Nat) (T : List UInt8) (w : World) (h : BsAt w p len cap T) (hl : T.length = 120) (h0 : 0 < w.heap.size) (hp : ∀ a, p = some a → B ≤ a.block) :
    Calls Try.prog 73 #[.slice p len cap] w (ContIs B w T) := by
  have hsame := h.same
  have HBs := Lib.hid h
  have HP := Lib.hid hp
  have HR := Lib.hid (newRd_any p len cap T w h (by omega) h0)
  have HD := Lib.hid (And.intro (rd1 (T := T) (by omega)) (And.intro (rd4 (T := T) (by omega)) (And.intro (rd2 (T := T) (by omega)) (rd1b (T := T) (by omega)))))
  have HN := Lib.hid (And.intro (show dNum ([], 8) 2 65535 = _ from rdno 2 (by omega) (by omega) 65535 (by omega)) (show dNum ([], 8) 1 112 = _ from rdno 1 (by omega) (by omega) 112 (by omega)))
  have hle : len ≤ cap := h.le
  have hT : (T.drop 1).length ≤ 1000000 ∧ (T.drop 5).length ≤ 1000000 ∧ (T.drop 7).length ≤ 1000000 := by simp only [List.length_drop]; omega
  have HT := Lib.hid hT
  obtain rfl : len = 120 := by omega
  clear h hp hT hsame
  by_cases hG : 2147483647 < frGen T
  · have HE := Lib.hid (show contR T = ⟨0, 0, [], 3⟩ by unfold contR; rw [if_pos (.inl hG)])
    have hd := HD.out.2.1
    rw [if_pos hG] at hd
    have HD2 := Lib.hid hd
    clear hd hG
    go_enter Try.func73, Try.ntmps73
    go_wp2_with fail
    with_reducible refine HR.out.mono ?_
    rintro e w1 ⟨b, g, rfl, hb, hgb, hgw, hA1, hB1⟩
    have HA1 := Lib.hid hA1
    have HB1 := Lib.hid hB1
    have HGB := Lib.hid hgb
    clear hA1 hB1 hgw hgb HR
    go_wp2_with fail
    refine (rdnum_any b _ g (T, 0) 1 255 _ HA1.out HGB.out (by show T.length ≤ _; omega)).mono ?_
    rintro e w2 ⟨rfl, hT2⟩
    rw [HD.out.1] at hT2
    rw [HD.out.1]
    have HT2 := Lib.hid hT2
    clear hT2
    go_wp2_with fail
    refine (rdnum_any b _ g _ 4 2147483647 _ HT2.out.1 HGB.out HT.out.1).mono ?_
    rintro e w3 ⟨rfl, hT3⟩
    rw [HD2.out] at hT3
    rw [HD2.out]
    have HT3 := Lib.hid (HT2.out.trans hT3)
    clear hT3 HT2
    go_wp2_with fail
    refine (rdnum_any b _ g _ 2 65535 _ HT3.out.1 HGB.out (by simp)).mono ?_
    rintro e w4 ⟨rfl, hT4⟩
    rw [HN.out.1] at hT4
    rw [HN.out.1]
    have HT4 := Lib.hid (HT3.out.trans hT4)
    clear hT4 HT3
    go_wp2_with fail
    refine (rdnum_any b _ g _ 1 112 _ HT4.out.1 HGB.out (by simp)).mono ?_
    rintro e w5 ⟨rfl, hT5⟩
    rw [HN.out.2] at hT5
    rw [HN.out.2]
    have HT5 := Lib.hid (HT4.out.trans hT5)
    clear hT5 HT4
    go_wp2_with fail
    refine (rderr_any b _ g _ _ HT5.out.1).mono ?_
    rintro e w6 ⟨rfl, rfl⟩
    go_wp2_with fail
    refine bodyPost_ret (results_tmp4 rfl _ _ _) rfl ?_
    exact ⟨none, 0, 0, by rw [HE.out]; rfl, by rw [HE.out]; exact bsAt_nil _, (fun _ h => by cases h), HB1.out.trans (HT5.out.2.below HB1.out.size fun k hk => by subst hk; exact hb)⟩
  · have hd := HD.out.2.1
    rw [if_neg hG] at hd
    have HD2 := Lib.hid hd
    clear hd
    by_cases h7 : 112 < at8 T 7
    · have HE := Lib.hid (show contR T = ⟨0, 0, [], 3⟩ by unfold contR; rw [if_pos (.inr (.inl h7))])
      have hd := HD.out.2.2.2
      rw [if_pos h7] at hd
      have HD7 := Lib.hid hd
      clear hd h7 hG
      go_enter Try.func73, Try.ntmps73
      go_wp2_with fail
      with_reducible refine HR.out.mono ?_
      rintro e w1 ⟨b, g, rfl, hb, hgb, hgw, hA1, hB1⟩
      have HA1 := Lib.hid hA1
      have HB1 := Lib.hid hB1
      have HGB := Lib.hid hgb
      clear hA1 hB1 hgw hgb HR
      go_wp2_with fail
      refine (rdnum_any b _ g (T, 0) 1 255 _ HA1.out HGB.out (by show T.length ≤ _; omega)).mono ?_
      rintro e w2 ⟨rfl, hT2⟩
      rw [HD.out.1] at hT2
      rw [HD.out.1]
      have HT2 := Lib.hid hT2
      clear hT2
      go_wp2_with fail
      refine (rdnum_any b _ g _ 4 2147483647 _ HT2.out.1 HGB.out HT.out.1).mono ?_
      rintro e w3 ⟨rfl, hT3⟩
      rw [HD2.out] at hT3
      rw [HD2.out]
      have HT3 := Lib.hid (HT2.out.trans hT3)
      clear hT3 HT2
      go_wp2_with fail
      refine (rdnum_any b _ g _ 2 65535 _ HT3.out.1 HGB.out HT.out.2.1).mono ?_
      rintro e w4 ⟨rfl, hT4⟩
      rw [HD.out.2.2.1] at hT4
      rw [HD.out.2.2.1]
      have HT4 := Lib.hid (HT3.out.trans hT4)
      clear hT4 HT3
      go_wp2_with fail
      refine (rdnum_any b _ g _ 1 112 _ HT4.out.1 HGB.out HT.out.2.2).mono ?_
      rintro e w5 ⟨rfl, hT5⟩
      rw [HD7.out] at hT5
      rw [HD7.out]
      have HT5 := Lib.hid (HT4.out.trans hT5)
      clear hT5 HT4
      go_wp2_with fail
      refine (rderr_any b _ g _ _ HT5.out.1).mono ?_
      rintro e w6 ⟨rfl, rfl⟩
      go_wp2_with fail
      refine bodyPost_ret (results_tmp4 rfl _ _ _) rfl ?_
      exact ⟨none, 0, 0, by rw [HE.out]; rfl, by rw [HE.out]; exact bsAt_nil _, (fun _ h => by cases h), HB1.out.trans (HT5.out.2.below HB1.out.size fun k hk => by subst hk; exact hb)⟩
    · have hd := HD.out.2.2.2
      rw [if_neg h7] at hd
      have HD7 := Lib.hid hd
      have HC := Lib.hid (show contR T = if padB T = false then ⟨0, 0, [], 3⟩ else ⟨frGen T, frSeq T, frPay T, 0⟩ by
        unfold contR
        by_cases hb : padB T = false
        · rw [if_pos (.inr (.inr hb)), if_pos hb]
        · rw [if_neg (by rintro (h | h | h); exact hG h; exact h7 h; exact hb h), if_neg hb])
      have HPd := Lib.hid (show padB T = (((T.take 120).drop (8 + at8 T 7)).all fun c => c == 0) by rw [List.take_of_length_le (by omega)]; rfl)
      have HPy := Lib.hid (frPay_part (T := T))
      clear hd hG
      generalize at8 T 7 = n at *
      have hnn : n ≤ 112 := by omega
      clear h7
      go_enter Try.func73, Try.ntmps73
      go_wp2_with fail
      with_reducible refine HR.out.mono ?_
      rintro e w1 ⟨b, g, rfl, hb, hgb, hgw, hA1, hB1⟩
      have HA1 := Lib.hid hA1
      have HB1 := Lib.hid hB1
      have HGB := Lib.hid hgb
      clear hA1 hB1 hgw hgb HR
      go_wp2_with fail
      refine (rdnum_any b _ g (T, 0) 1 255 _ HA1.out HGB.out (by show T.length ≤ _; omega)).mono ?_
      rintro e w2 ⟨rfl, hT2⟩
      rw [HD.out.1] at hT2
      rw [HD.out.1]
      have HT2 := Lib.hid hT2
      clear hT2
      go_wp2_with fail
      refine (rdnum_any b _ g _ 4 2147483647 _ HT2.out.1 HGB.out HT.out.1).mono ?_
      rintro e w3 ⟨rfl, hT3⟩
      rw [HD2.out] at hT3
      rw [HD2.out]
      have HT3 := Lib.hid (HT2.out.trans hT3)
      clear hT3 HT2
      go_wp2_with fail
      refine (rdnum_any b _ g _ 2 65535 _ HT3.out.1 HGB.out HT.out.2.1).mono ?_
      rintro e w4 ⟨rfl, hT4⟩
      rw [HD.out.2.2.1] at hT4
      rw [HD.out.2.2.1]
      have HT4 := Lib.hid (HT3.out.trans hT4)
      clear hT4 HT3
      go_wp2_with fail
      refine (rdnum_any b _ g _ 1 112 _ HT4.out.1 HGB.out HT.out.2.2).mono ?_
      rintro e w5 ⟨rfl, hT5⟩
      rw [HD7.out] at hT5
      rw [HD7.out]
      have HT5 := Lib.hid (HT4.out.trans hT5)
      clear hT5 HT4
      have hadd : IntKind.i64.wrap (8 + (n : Int)) = 8 + (n : Int) := IntWalk.i64_in _ (by omega)
      go_wp2_with fail
      refine (rderr_any b _ g _ _ HT5.out.1).mono ?_
      rintro e w6 ⟨rfl, rfl⟩
      have HB5 := Lib.hid (HB1.out.trans (HT5.out.2.below HB1.out.size fun k hk => by subst hk; exact hb))
      have HS5 := Lib.hid (HBs.out.below HB5.out (Nat.le_refl _))
      clear HT5 HB1 HA1 HD HD2 HD7 HN hadd
      have HPt := Lib.hid (fun V => fpart_any p 120 cap (8 + n) 120 (8 + (n : Int)) 120 V (by omega) rfl (by omega) hle)
      have HPu := Lib.hid (fun V => fpart_any p 120 cap 8 (8 + n) 8 (8 + (n : Int)) V rfl (by omega) (by omega) (by omega))
      have HBl := Lib.hid (fun V (hV : BsAt V p 120 cap T) => fblank_any _ _ _ _ V (part_bs (lo := 8 + n) (hi := 120) hV (by omega) (by omega)))
      rw [← HPd.out] at HBl
      go_wp2_with fail
      with_reducible refine (HPt.out _).mono ?_
      rintro e w7 ⟨rfl, rfl⟩
      cases hpd : padB T with
      | true =>
        rw [hpd] at HBl HC
        clear hpd
        go_wp2_with fail
        with_reducible refine (HBl.out _ HS5.out).mono ?_
        rintro e w8 ⟨rfl, rfl⟩
        go_wp2_with fail
        with_reducible refine (HPu.out _).mono ?_
        rintro e w9 ⟨rfl, rfl⟩
        go_wp2_with fail
        refine bodyPost_ret (results_tmp4 rfl _ _ _) rfl ?_
        have hc : contR T = ⟨frGen T, frSeq T, frPay T, 0⟩ := HC.out
        have hq := part_bs (lo := 8) (hi := 8 + n) HS5.out (by omega) (by omega)
        rw [HPy.out, show 8 + n - 8 = n by omega] at hq
        exact ⟨_, _, _, by rw [hc]; rfl, by rw [hc]; exact hq, partP_ge HP.out, HB5.out⟩
      | false =>
        rw [hpd] at HBl HC
        clear hpd
        go_wp2_with fail
        with_reducible refine (HBl.out _ HS5.out).mono ?_
        rintro e w8 ⟨rfl, rfl⟩
        go_wp2_with fail
        refine bodyPost_ret (results_tmp4 rfl _ _ _) rfl ?_
        have hc : contR T = ⟨0, 0, [], 3⟩ := HC.out
        exact ⟨none, 0, 0, by rw [hc]; rfl, by rw [hc]; exact bsAt_nil _, (fun _ h => by cases h), HB5.out⟩
theorem kd_ne {t : List UInt8} {g off : Nat} {w : World} (hl : t.length = 128) (h : ∀ i, (hi : i < t.length) → w.cell? ⟨g, off + i, none⟩ = some (.int .u8 (t[i].toNat : Int))) : w.cell? ⟨g, off, none⟩ = some (.int .u8 ((t.getD 0 0).toNat : Int)) := by
  have h1 := h 0 (by omega)
  rw [Nat.add_zero] at h1
  rw [h1]
  simp [List.getD, show 0 < t.length by omega]
theorem frTail_str (a : List UInt8) : ((⟨a.toArray⟩ : ByteArray).toList == [0, 0, 0, 69]) = decide (a = frTail) := by
  have e : (⟨#[0, 0, 0, 69]⟩ : ByteArray).toList = [0, 0, 0, 69] := by simp
  rw [← e, ← beq_toListBytes]
  by_cases h : a = frTail
  · rw [h]; decide
  · rw [show decide (a = frTail) = false by simpa using h]
    exact str_ne (b := frTail) h

set_option maxRecDepth 100000 in
set_option maxHeartbeats 3200000 in
theorem frRead_any : FrReadC := by
  intro kd p len cap t w h h5
  have hsame := h.same
  subst hsame
  by_cases hlen : t.length = 128
  case neg =>
    have HE := Lib.hid (show frR kd t = ⟨0, 0, [], 1⟩ from by
      have he : frRE kd t = 1 := by unfold frRE; rw [if_pos hlen]
      unfold frR; rw [if_neg (by omega), he])
    have hbm : t.length ≤ 9223372036854775807 := by omega
    have d1 : ¬ ((t.length : Int) = 128) := by omega
    clear h hlen h5
    generalize t.length = n at *
    go_enter Try.func68, Try.ntmps68
    go_wp2_with fail
    refine bodyPost_ret (results_tmp4 rfl _ _ _) rfl ?_
    exact ⟨none, 0, by rw [HE.out]; rfl, by rw [HE.out]; exact ⟨bsAt_nil _, fun _ h => by cases h⟩, Below.refl _ _⟩
  case pos =>
  obtain ⟨g, off, rfl, hg, hcs⟩ : ∃ g off, p = some ⟨g, off, none⟩ ∧ g < w.heap.size ∧ ∀ i, (h : i < t.length) → w.cell? ⟨g, off + i, none⟩ = some (.int .u8 (t[i].toNat : Int)) := by
    rcases h.place with ⟨-, h2⟩ | ⟨h2, -⟩ | ⟨g', off, rfl, h3, h4⟩
    · have := h.le; omega
    · rw [h2] at hlen; simp at hlen
    · exact ⟨g', off, rfl, h3, h4⟩
  have c0 := kd_ne hlen hcs
  have hle := h.le
  have HBs := Lib.hid h
  have h0 : 0 < w.heap.size := by omega
  clear hcs h5 h
  rw [hlen] at hle HBs
  rw [hlen]
  by_cases hk : t.getD 0 0 = kd
  case neg =>
    have HE := Lib.hid (show frR kd t = ⟨0, 0, [], 3⟩ from frR_form hlen (fun h1 => hk (UInt8.toNat_inj.1 h1.1)))
    have d1 : ¬ (((t.getD 0 0).toNat : Nat) : Int) = ((kd.toNat : Nat) : Int) := by
      intro e; exact hk (UInt8.toNat_inj.1 (by omega))
    clear hk
    generalize (t.getD 0 0).toNat = x at *
    generalize kd.toNat = y at *
    go_enter Try.func68, Try.ntmps68
    go_wp2_with fail
    refine bodyPost_ret (results_tmp4 rfl _ _ _) rfl ?_
    exact ⟨none, 0, by rw [HE.out]; rfl, by rw [HE.out]; exact ⟨bsAt_nil _, fun _ h => by cases h⟩, Below.refl _ _⟩
  case pos =>
  rw [hk] at c0
  have HP1 := Lib.hid (fun V => fpart_at g off 128 cap 124 128 124 128 (off + 124) 4 V rfl rfl (by decide) (by omega) rfl rfl)
  have HP2 := Lib.hid (fun V => fpart_at g off 128 cap 0 124 0 124 off 124 V rfl rfl (by decide) (by omega) rfl rfl)
  have hb1 : BsAt w (some ⟨g, off + 124, none⟩) 4 4 (t.drop 124) := by
    have h1 := part_bs (lo := 124) (hi := 128) HBs.out (by omega) (by omega)
    rw [List.take_of_length_le (by omega)] at h1
    have e : partP (some ⟨g, off, none⟩) 124 128 = some ⟨g, off + 124, none⟩ := by
      unfold partP Addr.add; simp
    rw [e] at h1; exact h1
  have hb2 : BsAt w (some ⟨g, off, none⟩) 124 124 (t.take 124) := by
    have h1 := part_bs (lo := 0) (hi := 124) HBs.out (by omega) (by omega)
    have e : partP (some ⟨g, off, none⟩) 0 124 = some ⟨g, off, none⟩ := by
      unfold partP Addr.add; simp
    rw [e] at h1; exact h1
  have HStr := Lib.hid (run_string_bs (P := Try.prog) w 31 5 9 Try.underlying31 Try.underlying5 Try.underlying9 hb1)
  have HSe := Lib.hid (frTail_str (t.drop 124))
  have HO := Lib.hid (cOpen_new _ _ _ _ w hb2 (by rw [List.length_take]; omega))
  clear hb1 hb2
  by_cases ht : t.drop 124 = frTail
  case neg =>
    have HE := Lib.hid (show frR kd t = ⟨0, 0, [], 3⟩ from frR_form hlen (fun h1 => ht ((tail_iff hlen).2 h1.2)))
    rw [show decide (t.drop 124 = frTail) = false by simpa using ht] at HSe
    have q := HStr.out
    have q2 := HSe.out
    generalize (⟨(t.drop 124).toArray⟩ : ByteArray) = S at *
    generalize kd.toNat = y at *
    clear ht HStr HSe
    go_enter Try.func68, Try.ntmps68
    go_wp2_with fail
    with_reducible refine (HP1.out _).mono ?_
    rintro e w1 ⟨rfl, rfl⟩
    go_wp2_with fail
    refine bodyPost_ret (results_tmp4 rfl _ _ _) rfl ?_
    exact ⟨none, 0, by rw [HE.out]; rfl, by rw [HE.out]; exact ⟨bsAt_nil _, fun _ h => by cases h⟩, Below.refl _ _⟩
  case pos =>
  rw [show decide (t.drop 124 = frTail) = true by simpa using ht] at HSe
  have q := HStr.out
  have q2 := HSe.out
  generalize (⟨(t.drop 124).toArray⟩ : ByteArray) = S at *
  have hl4 : (t.take 124).length = 124 := by rw [List.length_take]; omega
  have ht4 : (t.take 124).take 120 = t.take 120 := by rw [List.take_take, show min 120 124 = 120 from rfl]
  have hse : sealedB (t.take 124) = true ↔ sealL (t.take 120) = t.take 124 := by
    have := sealed_eq (t := t.take 124) (by omega)
    rw [hl4, show 124 - 4 = 120 from rfl, ht4] at this
    exact this
  cases hsd : sealedB (t.take 124) with
  | false =>
    have hne : ¬ sealL (t.take 120) = t.take 124 := fun h => by rw [hse.2 h] at hsd; cases hsd
    have HE := Lib.hid (show frR kd t = ⟨0, 0, [], 18⟩ from frR_sum hlen ⟨by unfold at8; rw [hk], (tail_iff hlen).1 ht⟩ hne)
    have he : openErr (t.take 124) = 18 := by unfold openErr; rw [if_neg (by omega), hsd]; rfl
    have HO2 := Lib.hid he
    generalize kd.toNat = y at *
    clear ht HStr HSe hse hne hsd he hl4 ht4
    go_enter Try.func68, Try.ntmps68
    go_wp2_with fail
    with_reducible refine (HP1.out _).mono ?_
    rintro e w1 ⟨rfl, rfl⟩
    go_wp2_with fail
    with_reducible refine (HP2.out _).mono ?_
    rintro e w1 ⟨rfl, rfl⟩
    go_wp2_with fail
    with_reducible refine HO.out.mono ?_
    rintro e w2 ⟨p2, n2, c2, rfl, hb2, hB2, hp2⟩
    rw [HO2.out]
    have HB2 := Lib.hid hB2
    clear hb2 hB2 hp2
    go_wp2_with fail
    refine bodyPost_ret (results_tmp4 rfl _ _ _) rfl ?_
    exact ⟨none, 0, by rw [HE.out]; rfl, by rw [HE.out]; exact ⟨bsAt_nil _, fun _ h => by cases h⟩, HB2.out⟩
  | true =>
    have HE := Lib.hid (frR_cont hlen hk ht (hse.1 hsd))
    have he : openErr (t.take 124) = 0 := by unfold openErr; rw [if_neg (by omega), hsd]; rfl
    have hol : openL (t.take 124) = t.take 120 := by unfold openL; rw [hsd, if_pos rfl, hl4, ht4]
    have hl0 : (t.take 120).length = 120 := by rw [List.length_take]; omega
    have HO2 := Lib.hid (And.intro he (And.intro hol hl0))
    generalize hkk : kd.toNat = y at *
    clear ht HStr HSe hse hsd he hl4 ht4 hol hl0
    go_enter Try.func68, Try.ntmps68
    go_wp2_with fail
    with_reducible refine (HP1.out _).mono ?_
    rintro e w1 ⟨rfl, rfl⟩
    go_wp2_with fail
    with_reducible refine (HP2.out _).mono ?_
    rintro e w1 ⟨rfl, rfl⟩
    go_wp2_with fail
    with_reducible refine HO.out.mono ?_
    rintro e w2 ⟨p2, n2, c2, rfl, hb2, hB2, hp2⟩
    rw [HO2.out.1]
    rw [HO2.out.2.1] at hb2
    have HB2 := Lib.hid hB2
    have HC := Lib.hid (fcontent_any w.heap.size p2 n2 c2 _ w2 hb2 HO2.out.2.2 (Nat.lt_of_lt_of_le h0 hB2.size) hp2)
    clear hb2 hB2 hp2
    go_wp2_with fail
    with_reducible refine HC.out.mono ?_
    rintro e w3 ⟨p3, n3, c3, rfl, hb3, hp3, hB3⟩
    have HB3 := Lib.hid (HB2.out.trans (hB3.mono HB2.out.size))
    have HS3 := Lib.hid hb3
    have HP3 := Lib.hid hp3
    clear hb3 hB3 hp3
    go_wp2_with fail
    refine bodyPost_ret (results_tmp4 rfl _ _ _) rfl ?_
    have hn := HS3.out.same
    have hs3 := HS3.out
    subst hn
    exact ⟨p3, c3, by rw [HE.out]; rfl, by rw [HE.out]; exact ⟨hs3, HP3.out⟩, HB3.out⟩
end Go.Proofs.Ytbmcajhknohhdaa

/-! VltP -/
namespace Go.Proofs.Ytbmcajhknohhdaa
open Go.RowKit

/-- The cells of a vault on the disk at db. -/
def vltV (db a : Nat) : Array Value := #[ptrV db, .int .i64 (a : Int)]
def theVlt : VltRel where
  At := fun w vb db a G => Blk w vb (vltV db a) 58 ∧ G = fun k => k = vb
  lt := by
    rintro w vb db a G ⟨h, rfl⟩ k rfl
    exact h.lt
  kept := by
    rintro w w' vb db a G T ⟨h, rfl⟩ hc hn
    exact ⟨hc.kept h (hn vb rfl), rfl⟩
theorem vlt_cells {w : World} {vb db a : Nat} {t : TypeId} (h : Blk w vb (vltV db a) t) :
    w.cell? ⟨vb, 0, none⟩ = some (.pointer (some ⟨db, 0, none⟩)) ∧ w.cell? ⟨vb, 1, none⟩ = some (.int .i64 (a : Int)) := ⟨h.cell 0, h.cell 1⟩
theorem vMade_any {w : World} {vb db : Nat} (k0 : w.cell? ⟨vb, 0, none⟩ = some (.pointer (some ⟨db, 0, none⟩))) :
    Calls Try.prog 28 #[ptrV vb] w fun e w' => e = .returned (.bool true) ∧ w = w' := by
  unfold ptrV
  go_enter Try.func28, Try.ntmps28
  go_wp2_with fail
  go_ret
  exact ⟨rfl, rfl⟩
theorem vMade_no {w : World} {v : Value} (h : NobVv w v) : Calls Try.prog 28 #[v] w fun e w' => e = .returned (.bool false) ∧ w = w' := by
  rcases h with rfl | ⟨b, rfl, hb⟩
  · go_enter Try.func28, Try.ntmps28
    go_wp2_with fail
    go_ret
    exact ⟨rfl, rfl⟩
  · have k0 : w.cell? ⟨b, 0, none⟩ = some (.pointer none) := hb.cell 0
    clear hb
    unfold ptrV
    go_enter Try.func28, Try.ntmps28
    go_wp2_with fail
    go_ret
    exact ⟨rfl, rfl⟩
theorem vStart_any {w : World} {vb a : Nat} (i : Nat) (k1 : w.cell? ⟨vb, 1, none⟩ = some (.int .i64 (a : Int))) (hs : a + 256 * i ≤ 1000000) :
    Calls Try.prog 43 #[ptrV vb, .int .i64 (i : Int)] w fun e w' => e = .returned (.int .i64 ((a + 256 * i : Nat) : Int)) ∧ w = w' := by
  unfold ptrV
  have h1 : IntKind.i64.wrap ((i : Int) * 256) = (i : Int) * 256 := IntWalk.i64_in _ (by omega)
  have h2 : IntKind.i64.wrap ((a : Int) + (i : Int) * 256) = (a : Int) + (i : Int) * 256 := IntWalk.i64_in _ (by omega)
  have HE := Lib.hid (show ((a + 256 * i : Nat) : Int) = (a : Int) + (i : Int) * 256 by omega)
  go_enter Try.func43, Try.ntmps43
  go_wp2_with fail
  go_ret
  exact ⟨by rw [HE.out]; rfl, rfl⟩
theorem vAreaOf_any (g : Nat) (w : World) :
    Calls Try.prog 44 #[.int .i64 (g : Int)] w fun e w' => e = .returned (.int .i64 ((g % 2 : Nat) : Int)) ∧ w = w' := by
  have HE := Lib.hid (show ((g % 2 : Nat) : Int) = (g : Int) % 2 by omega)
  go_enter Try.func44, Try.ntmps44
  go_wp2_with fail
  go_ret
  exact ⟨by rw [HE.out]; rfl, rfl⟩
theorem vBlocks_any : VBlocksC := by
  intro n w h2
  by_cases hn : n < 1
  · rw [if_pos hn]
    have d : decide (n < 1) = true := by simpa using hn
    clear hn
    go_enter Try.func25, Try.ntmps25
    go_wp2_with fail
    go_ret
    exact ⟨rfl, rfl⟩
  · rw [if_neg hn]
    obtain ⟨m, rfl⟩ : ∃ m : Nat, n = (m : Int) + 1 := ⟨(n - 1).toNat, by omega⟩
    have HE := Lib.hid (show ((blkN ((m : Int) + 1).toNat : Nat) : Int) = (m : Int) / 128 + 1 by unfold blkN; omega)
    have d : decide ((m : Int) + 1 < 1) = false := by simp; omega
    have E1 := Lib.hid (show wrap64 (m : Int) = m by unfold wrap64; omega)
    have E2 := Lib.hid (show (m : Int).tdiv 128 = (m : Int) / 128 from Int.tdiv_eq_ediv_of_nonneg (by omega))
    have E3 := Lib.hid (show wrap64 ((m : Int) / 128) = (m : Int) / 128 by unfold wrap64; omega)
    have E4 := Lib.hid (show wrap64 ((m : Int) / 128 + 1) = (m : Int) / 128 + 1 by unfold wrap64; omega)
    clear hn h2
    go_enter Try.func25, Try.ntmps25
    go_wp2_with fail
    go_ret
    exact ⟨by rw [HE.out, E1.out, E2.out, E3.out, E4.out]; rfl, rfl⟩
theorem vBlocks_nat (n : Nat) (w : World) (hn : n ≤ 9223372036854775807) :
    Calls Try.prog 25 #[.int .i64 (n : Int)] w fun e w' => e = .returned (.int .i64 ((blkN n : Nat) : Int)) ∧ w = w' :=
  (vBlocks_any n w (by omega)).mono fun e w' ⟨he, hw⟩ => ⟨by
    rw [he]
    by_cases h : (n : Int) < 1
    · rw [if_pos h, show n = 0 by omega]; rfl
    · rw [if_neg h, Int.toNat_natCast], hw⟩
theorem vNewNil_any : VNewNilC := by
  intro w
  go_enter Try.func8, Try.ntmps8
  go_wp2_with fail
  refine bodyPost_ret (results_tmp2 rfl _ _ _) rfl ?_
  exact ⟨rfl, Below.refl _ _⟩
set_option maxHeartbeats 800000 in
theorem vNew_any : VNewC theRel theVlt := by
  intro a w db S D hA hok hf
  have HL := Lib.hid (dLen_any hA)
  have HH := Lib.hid hA
  have HO := Lib.hid hok
  have HF := Lib.hid hf
  have n3 : decide ((a : Int) < 0) = false := by simp
  have hlen := hok.few
  have h3 : IntKind.i64.wrap ((S.len : Int) - 512) = (S.len : Int) - 512 := IntWalk.i64_in _ (by omega)
  have n4 : decide ((S.len : Int) - 512 < (a : Int)) = false := by simp; omega
  clear hA hok hf hlen
  unfold ptrV at *
  go_enter Try.func8, Try.ntmps8
  go_wp2_with fail
  with_reducible refine HL.out.mono ?_
  rintro e w1 ⟨rfl, hB⟩
  have HB := Lib.hid hB
  clear hB
  go_wp2_with fail
  refine bodyPost_ret (results_tmp2 rfl _ _ _) rfl ?_
  have hA1 : theRel.At w1 db S D := DiskRel.below HH.out HB.out
  have hB1 := belowNew w1 (.cells (vltV db a) 58)
  refine ⟨w1.heap.size, fun k => D k ∨ k = w1.heap.size, rfl, ⟨HO.out, HF.out, D, _, DiskRel.below hA1 hB1, ⟨Blk.new w1 _ _, rfl⟩, ?_, fun _ => Iff.rfl⟩, ?_, HB.out.trans (hB1.mono HB.out.size)⟩
  · intro k hk e
    have := (theRel.lt hA1).2 k hk
    omega
  · rintro k (hk | rfl)
    · exact .inl hk
    · exact .inr HB.out.size
set_option maxHeartbeats 800000 in
theorem vNewNo_any : VNewNoC theRel := by
  intro a w db S D hA hok hf h64 h65
  have HL := Lib.hid (dLen_any hA)
  have hlen := hok.few
  have h3 : IntKind.i64.wrap ((S.len : Int) - 512) = (S.len : Int) - 512 := IntWalk.i64_in _ (by omega)
  have hc : a < 0 ∨ (¬ a < 0 ∧ (S.len : Int) - 512 < a) := by omega
  clear hA hok hf hlen
  unfold ptrV at *
  rcases hc with n1 | ⟨n1, n2⟩
  · have d1 : decide (a < 0) = true := by simpa using n1
    clear n1 HL h3
    go_enter Try.func8, Try.ntmps8
    go_wp2_with fail
    refine bodyPost_ret (results_tmp2 rfl _ _ _) rfl ?_
    exact ⟨rfl, Below.refl _ _⟩
  · have d1 : decide (a < 0) = false := by simpa using n1
    have d2 : decide ((S.len : Int) - 512 < a) = true := by simpa using n2
    clear n1 n2
    go_enter Try.func8, Try.ntmps8
    go_wp2_with fail
    with_reducible refine HL.out.mono ?_
    rintro e w1 ⟨rfl, hB⟩
    have HB := Lib.hid hB
    clear hB
    go_wp2_with fail
    refine bodyPost_ret (results_tmp2 rfl _ _ _) rfl ?_
    exact ⟨rfl, HB.out⟩
theorem nobSave_any : NobSaveC := by
  intro w v gen p len cap h
  have HM := Lib.hid (vMade_no h)
  clear h
  go_enter Try.func12, Try.ntmps12
  go_wp2_with fail
  with_reducible refine HM.out.mono ?_
  rintro e w1 ⟨rfl, rfl⟩
  go_wp2_with fail
  go_ret
  exact ⟨rfl, Below.refl _ _⟩
theorem nobLoad_any : NobLoadC := by
  intro w v h
  have HM := Lib.hid (vMade_no h)
  clear h
  go_enter Try.func21, Try.ntmps21
  go_wp2_with fail
  with_reducible refine HM.out.mono ?_
  rintro e w1 ⟨rfl, rfl⟩
  go_wp2_with fail
  refine bodyPost_ret (results_tmp3 rfl _ _ _) rfl ?_
  exact ⟨none, 0, rfl, Below.refl _ _⟩
theorem vNilSave_any : VNilSaveC := fun p len cap w => nobSave_any w _ 0 p len cap (.inl rfl)
end Go.Proofs.Ytbmcajhknohhdaa

/-! VltQ -/
namespace Go.Proofs.Ytbmcajhknohhdaa
open Go.RowKit

/-- The first blocks of an area. -/
def imgL (g : Nat) (b : List UInt8) : List UInt8 := vheadL g b ++ fillL b
theorem imgL_length (g : Nat) (b : List UInt8) : (imgL g b).length = 128 * (1 + blkN b.length) := by unfold imgL; rw [List.length_append, vheadL_length, fillL_length]; omega
theorem imgL_head (g : Nat) (b : List UInt8) : ((imgL g b).drop (128 * 0)).take 128 = vheadL g b := by
  unfold imgL; rw [Nat.mul_zero, List.drop_zero, List.take_left' (vheadL_length g b)]
theorem imgL_chunk (g : Nat) (b : List UInt8) (k : Nat) : ((imgL g b).drop (128 * (1 + k))).take 128 = chunkL b k := by
  unfold imgL chunkL
  rw [show 128 * (1 + k) = 128 + 128 * k by omega, ← List.drop_drop, List.drop_left' (vheadL_length g b)]
theorem pay_num (b : List UInt8) (hn : b.length ≤ 32640) : wNum (wNum ([], 0) (b.length : Int) 4) ((crcSum b : Nat) : Int) 4 = (payL b, 0) := by
  have e1 : wNum ([], 0) (b.length : Int) 4 = _ := wNum_fit (l := []) (n := b.length) (k := 4) (by omega) (by omega) (by omega)
  have e2 : wNum ([] ++ be b.length 4, 0) ((crcSum b : Nat) : Int) 4 = _ := wNum_fit (l := [] ++ be b.length 4) (n := crcSum b) (k := 4) (by omega) (by omega) (by have := crcSum_lt b; simpa using this)
  rw [e1, e2]; rfl
theorem img_put1 (g : Nat) (b : List UInt8) : putL (zerosB (128 * (1 + blkN b.length))) 0 ((vheadL g b).take (128 * (1 + blkN b.length))) = vheadL g b ++ zerosB (128 * blkN b.length) := by
  have hl := vheadL_length g b
  rw [List.take_of_length_le (by omega)]
  unfold putL zerosB
  rw [hl]
  simp only [List.take_zero, List.nil_append, List.drop_replicate]
  rw [show 128 * (1 + blkN b.length) - (0 + 128) = 128 * blkN b.length by omega]
theorem img_put2 (g : Nat) (b : List UInt8) : putL (vheadL g b ++ zerosB (128 * blkN b.length)) 128 (b.take (128 * blkN b.length)) = imgL g b := by
  have hl := vheadL_length g b
  have hk := blkN_le b.length
  rw [List.take_of_length_le hk]
  unfold putL imgL fillL zerosB zeros
  rw [List.take_left' hl, ← List.drop_drop, List.drop_left' hl, List.drop_replicate]
theorem img_put0 (g : Nat) (b : List UInt8) (h0 : blkN b.length = 0) : putL (vheadL g b ++ zerosB (128 * blkN b.length)) 0 (b.take (128 * blkN b.length)) = imgL g b := by
  have hb : b = [] := List.eq_nil_of_length_eq_zero (by have := blkN_le b.length; omega)
  subst hb
  simp [putL, imgL, fillL, zerosB, zeros, blkN]

set_option maxRecDepth 100000 in
set_option maxHeartbeats 3200000 in
theorem vImage_any {w : World} {p : Option Addr} {cap : Nat} {b : List UInt8} (g : Nat) (hb : BsAt w p b.length cap b) (hg : g ≤ 2147483647) (hn : blkN b.length ≤ 255) :
    Calls Try.prog 29 #[.int .i64 (g : Int), .slice p b.length cap] w fun e w' => ∃ q c, e = .returned (.tuple #[.slice q (imgL g b).length c, .int .i64 0]) ∧ BsAt w' q (imgL g b).length c (imgL g b) ∧ (∀ x, q = some x → w.heap.size ≤ x.block) ∧ Below w.heap.size w w' := by
  have hk := blkN_le b.length
  have HN := Lib.hid (pay_num b (by omega))
  have H0 := Lib.hid (WAt.new w 85)
  have HBs := Lib.hid hb
  have HBk := Lib.hid (fun V => vBlocks_nat b.length V (by omega))
  have HL := Lib.hid (imgL_length g b)
  have HP := Lib.hid (And.intro (img_put1 g b) (And.intro (img_put2 g b) (img_put0 g b)))
  have HVl := Lib.hid (vheadL_length g b)
  have HFw := Lib.hid (show frWE (g : Int) ((blkN b.length : Nat) : Int) (payL b) = 0 ∧ frWL 86 (g : Int) ((blkN b.length : Nat) : Int) (payL b) = vheadL g b from by
    have e : frWE (g : Int) ((blkN b.length : Nat) : Int) (payL b) = 0 := by unfold frWE; rw [if_neg (by omega), if_neg (by rw [payL_length]; omega)]
    refine ⟨e, ?_⟩
    unfold frWL vheadL; rw [if_pos e, Int.toNat_natCast, Int.toNat_natCast])
  have HSum := Lib.hid (crcSum_lt b)
  have hb9 : b.length ≤ 9223372036854775807 := by omega
  have HBn := Lib.hid (show b.length ≤ 100000 by omega)
  have HPl := Lib.hid (payL_length b)
  have HSm := Lib.hid (fun (V : World) (hV : BsAt V p b.length cap b) => sumOne hV (show b.length ≤ 100000 by omega))
  have hsw : IntKind.i64.wrap ((crcSum b : Nat) : Int) = ((crcSum b : Nat) : Int) := IntWalk.i64_in _ (by have := crcSum_lt b; omega)
  have m1 : IntKind.i64.wrap (1 + ((blkN b.length : Nat) : Int)) = 1 + ((blkN b.length : Nat) : Int) := IntWalk.i64_in _ (by omega)
  have m2 : IntKind.i64.wrap (128 * (1 + ((blkN b.length : Nat) : Int))) = 128 * (1 + ((blkN b.length : Nat) : Int)) := IntWalk.i64_in _ (by omega)
  generalize hS : crcSum b = s at *
  generalize hNn : blkN b.length = n at *
  clear hS hb hk
  go_enter Try.func29, Try.ntmps29
  go_wp2_with fail
  refine (wnum_any w.heap.size w.heap.size _ _ _ _ _ _ H0.out (by simp) (by simp)).mono ?_
  rintro e w1 ⟨rfl, v1, hT1⟩
  have HT1 := Lib.hid hT1
  have HB1 := Lib.hid ((belowNew w _).trans (hT1.below H0.out (by simp) (Nat.le_refl _)))
  have hl1 := Lib.hid (wNum_le ([], 0) (b.length : Int) 4)
  have HS1 := Lib.hid (HBs.out.below HB1.out (Nat.le_refl _))
  clear hT1
  go_wp2_with fail
  refine (HSm.out _ HS1.out).mono ?_
  rintro e w2 ⟨rfl, hB2⟩
  have HB2 := Lib.hid (HB1.out.trans (hB2.mono HB1.out.size))
  have HT2 := Lib.hid (HT1.out.now.below hB2 (Nat.le_refl _))
  clear hB2 HS1
  go_wp2_with fail
  refine (wnum_any w.heap.size w.heap.size _ _ _ _ _ _ HT2.out HB2.out.size (by have := hl1.out; simp at this; omega)).mono ?_
  rintro e w3 ⟨rfl, v3, hT3⟩
  have HT3 := Lib.hid hT3
  have HB3 := Lib.hid (HB2.out.trans (hT3.below HT2.out HB2.out.size (Nat.le_refl _)))
  have hl3 := Lib.hid (wNum_le (wNum ([], 0) (b.length : Int) 4) (s : Int) 4)
  clear hT3
  go_wp2_with fail
  refine (done_any w.heap.size w.heap.size _ _ _ _ HT3.out.now (by have := hl1.out; have := hl3.out; simp at *; omega)).mono ?_
  rintro e w4 ⟨v4, rfl, hbs, hB4⟩
  have HB4 := Lib.hid (HB3.out.trans (hB4.mono HB3.out.size))
  rw [HN.out] at hbs
  rw [HN.out]
  obtain ⟨p4, n4, c4, rfl, hb4, hp4⟩ := hbs
  have HS4 := Lib.hid hb4
  clear hb4 hB4 hp4 HN HT3 HB3 HT2 HB2 HT1 HB1 H0 hl1 hl3
  go_wp2_with fail
  refine (HBk.out _).mono ?_
  rintro e w5 ⟨rfl, rfl⟩
  have HFr := Lib.hid (frWrite_any 86 (g : Int) (n : Int) p4 n4 c4 (payL b) w4 HS4.out (by rw [HPl.out]; decide))
  rw [HFw.out.1, HFw.out.2, HVl.out, show (((86 : UInt8).toNat : Nat) : Int) = 86 from rfl] at HFr
  go_wp2_with fail
  refine HFr.out.mono ?_
  rintro e w6 ⟨p6, c6, rfl, hr6, hB6⟩
  have hb6 : BsAt w6 p6 128 c6 (vheadL g b) := by
    have h1 := HVl.out
    obtain ⟨t6, hr6⟩ := hr6
    rw [← h1] at hr6
    obtain ⟨q6, d6, e6, h6⟩ := BsAt.ofRow hr6
    rw [Value.slice.injEq] at e6
    obtain ⟨rfl, -, rfl⟩ := e6
    rw [h1] at h6; exact h6
  have HB6 := Lib.hid (HB4.out.trans (hB6.mono HB4.out.size))
  have HS6 := Lib.hid hb6
  clear hb6 hr6 hB6 HFr HS4 HB4
  go_wp2_with fail
  refine (HBk.out _).mono ?_
  rintro e w7 ⟨rfl, rfl⟩
  have tok1 : True := trivial
  have HNc := Lib.hid (show 128 * (1 + (n : Int)) = ((128 * (1 + n) : Nat) : Int) by omega)
  have hsm7 : 128 * (1 + n) ≤ 140737488355328 := by omega
  go_upto_region 11 with (at_make; have _t := tok1; refine wpList_make_zeros rfl _ _ 31 rfl w6.heap.size 5 Try.underlying31 infoU8 (128 * (1 + n)) rfl rfl HNc.out HNc.out hsm7 (Nat.le_refl _) ?_; intro w8 hown hg8; have HO8 := Lib.hid hown; have HG8 := Lib.hid hg8; clear hown hg8 tok1)
  have HK8 := Lib.hid (blk_of_made HO8.out).1
  have HB8 := Lib.hid (HB6.out.grown HG8.out HB6.out.size (fun k hk => by cases hk))
  have HS8 := Lib.hid (HS6.out.below ((Below.refl w6.heap.size w6).grown HG8.out (Nat.le_refl _) (fun k hk => by cases hk)) (Nat.le_refl _))
  have hG : w.heap.size ≤ w6.heap.size := HB6.out.size
  clear HO8 HG8 HS6 HB6
  generalize w6.heap.size = q at *
  have hz8 : 0 + 128 * (1 + n) ≤ (zerosB (128 * (1 + n))).length := by rw [zerosB_length]; omega
  obtain ⟨off, hoff, u8⟩ : ∃ off, (off = 0 ∧ n = 0 ∨ off = 128) ∧ ∀ V : World, (Instr.slice 31 (.slice (some ⟨q, 0, none⟩) (128 * (1 + n)) (128 * (1 + n))) (some (.int .i64 128)) none none).run Try.prog V = .ok (.slice (some ⟨q, off, none⟩) (128 * n) (128 * n)) V := by
    by_cases h0 : n = 0
    · refine ⟨0, .inl ⟨rfl, h0⟩, fun V => ?_⟩
      have h1 := run_from V (some ⟨q, 0, none⟩) (128 * (1 + n)) (128 * (1 + n)) 128 (by omega)
      rw [if_pos (by omega), show 128 * (1 + n) - 128 = 128 * n by omega] at h1
      exact h1
    · refine ⟨128, .inr rfl, fun V => ?_⟩
      have h1 := run_from V (some ⟨q, 0, none⟩) (128 * (1 + n)) (128 * (1 + n)) 128 (by omega)
      rw [if_neg (by omega), show 128 * (1 + n) - 128 = 128 * n by omega] at h1
      simpa [Addr.add] using h1
  have HOf := Lib.hid hoff
  clear hoff
  have HZ9 := Lib.hid (show off + 128 * n ≤ (vheadL g b ++ zerosB (128 * n)).length by
    rw [List.length_append, HVl.out, zerosB_length]
    have := HOf.out
    omega)
  have tokA : True := trivial
  go_wp2_with (first
    | (have _t := tokA; refine wpList_copy_part rfl _ _ 31 31 rfl 5 Try.underlying31 infoSz1 rfl rfl HK8.out HS8.out hz8 ?_; intro w9 hw9; have HB9 := Lib.hid (HB8.out.trans (hw9.below HB8.out.size hG)); have HK9 := Lib.hid hw9.blk; rw [HP.out.1] at HK9; have HS9 := Lib.hid (HBs.out.below HB9.out (Nat.le_refl _)); clear hw9 tokA)
    | (refine wpList_copy_part rfl _ _ 31 31 rfl 5 Try.underlying31 infoSz1 rfl rfl HK9.out HS9.out HZ9.out ?_; intro w10 hw10; have HPX := Lib.hid hw10; clear hw10))
  refine bodyPost_ret (results_tmp2 rfl _ _ _) rfl ?_
  have HBX := Lib.hid (HB9.out.trans (HPX.out.below HB9.out.size hG))
  have hk : Blk w10 q (bvA (imgL g b)) 5 := by
    have h1 := HPX.out.blk
    rcases HOf.out with ⟨h2, h3⟩ | h2
    · rw [h2, HP.out.2.2 h3] at h1; exact h1
    · rw [h2, HP.out.2.1] at h1; exact h1
  have hbs := hk.bs (off := 0) (n := 128 * (1 + n)) (cap := 128 * (1 + n)) (by rw [HL.out]; omega) (Nat.le_refl _) (by unfold maxLen; omega)
  rw [List.drop_zero, List.take_of_length_le (by rw [HL.out]; exact Nat.le_refl _)] at hbs
  rw [HL.out]
  exact ⟨some ⟨q, 0, none⟩, 128 * (1 + n), rfl, hbs, fun x hx => by cases hx; exact hG, HBX.out⟩

theorem bsv_lt {w : World} {p : Option Addr} {len cap : Nat} {l : List UInt8} (h : BsAt w p len cap l) (hl : l ≠ []) : ∀ a, p = some a → a.block < w.heap.size := by
  rintro a rfl
  rcases h.place with ⟨h1, -⟩ | ⟨h1, -⟩ | ⟨g, off, h1, h2, -⟩
  · cases h1
  · exact absurd h1 hl
  · cases h1; exact h2
/-! A block of an image is written. -/
set_option maxRecDepth 100000 in
set_option maxHeartbeats 3200000 in
theorem vWrite_any {w : World} {vb db a : Nat} {S : DS} {D : Nat → Prop} {p : Option Addr} {cap : Nat} {l : List UInt8} (g i : Nat) (hb : Blk w vb (vltV db a) 58) (hA : theRel.At w db S D) (hok : DSOk S) (hwr : S.wr ≤ 1000000)
    (hl : BsAt w p l.length cap l) (hi : 128 * (i + 1) ≤ l.length) (hn : l.length ≤ 100000) (ha : a ≤ 100000) (hp : ∀ x, p = some x → ¬ D x.block) :
    Calls Try.prog 30 #[ptrV vb, .int .i64 (g : Int), .int .i64 (i : Int), .slice p l.length cap] w fun e w' => ∃ D', e = .returned (.int .i64 (writeE S ((vAt a g + i : Nat) : Int) ((l.drop (128 * i)).take 128))) ∧ theRel.At w' db (writeS S ((vAt a g + i : Nat) : Int) ((l.drop (128 * i)).take 128)) D' ∧ (∀ k, D' k → D k ∨ w.heap.size ≤ k) ∧ Chg D w w' := by
  obtain ⟨k0, k1⟩ := vlt_cells hb
  have hav : vAt a g = a + 256 * (g % 2) := rfl
  have hgm : g % 2 < 2 := Nat.mod_lt _ (by decide)
  have har : Calls Try.prog 44 #[.int .i64 (g : Int)] w.drew fun e w' => e = .returned (.int .i64 ((g % 2 : Nat) : Int)) ∧ w' = w.drew := (vAreaOf_any g w.drew).mono fun e w' ⟨h1, h2⟩ => ⟨h1, h2.symm⟩
  have hst : Calls Try.prog 43 #[ptrV vb, .int .i64 ((g % 2 : Nat) : Int)] w.drew fun e w' => e = .returned (.int .i64 ((a + 256 * (g % 2) : Nat) : Int)) ∧ w' = w.drew := (vStart_any (w := w.drew) (vb := vb) (a := a) (g % 2) k1 (by omega)).mono fun e w' ⟨h1, h2⟩ => ⟨h1, h2.symm⟩
  have HAr := Lib.hid har
  have HSt := Lib.hid hst
  clear har hst
  rw [← hav] at HSt
  have hsub := bs_range (lo := 128 * i) (hi := 128 * (i + 1)) hl (by omega) (by omega)
  have hsubP := dropP (cap := cap) (n := 128 * i) (P := fun k => ¬ D k) hp
  have u1 := fun (V : World) => run_range (w := V) (p := p) (len := l.length) (cap := cap) (lo := 128 * i) (hi := 128 * (i + 1)) (x := (i : Int) * 128) (y := ((i : Int) + 1) * 128) (by omega) (by omega) (by omega) (by have := hl.le; omega)
  rw [show 128 * (i + 1) - 128 * i = 128 by omega] at u1 hsub
  have HW := Lib.hid (dWrite_big (w := w.drew) ((vAt a g + i : Nat) : Int) (DiskRel.below hA (Below.refl w.heap.size w).drew) hok (by omega) (hsub.below (Below.refl w.heap.size w).drew (Nat.le_refl _)) hsubP)
  have m1 : IntKind.i64.wrap ((i : Int) * 128) = (i : Int) * 128 := IntWalk.i64_in _ (by omega)
  have m2 : IntKind.i64.wrap ((i : Int) + 1) = (i : Int) + 1 := IntWalk.i64_in _ (by omega)
  have m3 : IntKind.i64.wrap (((i : Int) + 1) * 128) = ((i : Int) + 1) * 128 := IntWalk.i64_in _ (by omega)
  have hva : vAt a g ≤ 200000 := by omega
  have m4 : IntKind.i64.wrap (((vAt a g : Nat) : Int) + (i : Int)) = ((vAt a g : Nat) : Int) + (i : Int) := IntWalk.i64_in _ (by omega)
  rw [show ((vAt a g + i : Nat) : Int) = ((vAt a g : Nat) : Int) + (i : Int) by omega] at HW ⊢
  clear hb hA hok hwr hsub hsubP hav hp k1 hl
  generalize (l.drop (128 * i)).take 128 = x at *
  generalize (if cap = 128 * i then p else p.map (·.add (128 * i))) = px at *
  generalize hM : vAt a g = m at *
  generalize l.length = ln at *
  generalize hR : g % 2 = r at *
  unfold ptrV at *
  go_enter Try.func30, Try.ntmps30
  go_wp2_with fail
  go_still_tail 17, (by kernel_rfl)
  still_call (HAr.out)
  repeat still_step
  still_call (HSt.out)
  repeat still_step
  refine wpStill_nil ?_
  change wpList _ _ _ _ _ w.drew
  go_wp2_with fail
  refine HW.out.mono ?_
  rintro e w1 ⟨D1, rfl, hA1, hs1, hc0⟩
  have HA1 := Lib.hid hA1
  have HS1 := Lib.hid hs1
  have HC1 := Lib.hid ((Chg.refl D w).drew.trans hc0)
  clear hA1 hs1 hc0 HW
  go_wp2_with fail
  go_ret
  exact ⟨D1, rfl, HA1.out, HS1.out, HC1.out⟩

set_option maxRecDepth 100000 in
set_option maxHeartbeats 1600000 in
theorem vSave_main {w : World} {vb db a g : Nat} {S : DS} {D : Nat → Prop} {p : Option Addr} {cap : Nat} {b : List UInt8} (hV : Blk w vb (vltV db a) 58) (hA : theRel.At w db S D) (hok : DSOk S) (hd : ¬ D vb) (hwr : S.wr ≤ 900000)
    (hb : BsAt w p b.length cap b) (hg : g ≤ 2147483647) (hn : blkN b.length ≤ 255) (ha : a + 512 ≤ S.len) :
    Calls Try.prog 12 #[ptrV vb, .int .i64 (g : Int), .slice p b.length cap] w fun e w' => ∃ D', e = .returned (.int .i64 (saveE S a (g : Int) b)) ∧ theRel.At w' db (saveD S a (g : Int) b) D' ∧ (∀ k, D' k → D k ∨ w.heap.size ≤ k) ∧ Chg D w w' := by
  obtain ⟨k0, k1⟩ := vlt_cells hV
  have hlen := hok.few
  have hsz := blk_size hn
  have eE : saveE S a (g : Int) b = (wrl S (planP (vAt a g) g b)).1 := by unfold saveE; rw [if_neg (by omega), if_neg (by omega), Int.toNat_natCast]
  have eD : saveD S a (g : Int) b = (wrl S (planP (vAt a g) g b)).2 := by unfold saveD; rw [if_neg (by omega), Int.toNat_natCast]
  have HE := Lib.hid (And.intro eE eD)
  have HMd := Lib.hid (vMade_any k0)
  have HIm := Lib.hid (vImage_any g hb hg hn)
  have HBk := Lib.hid (fun V => vBlocks_nat b.length V (by omega))
  have HV := Lib.hid hV
  have HA := Lib.hid hA
  have HO := Lib.hid hok
  have HD := Lib.hid hd
  have HDl := Lib.hid (theRel.lt hA).2
  have HIl := Lib.hid (imgL_length g b)
  have HIc := Lib.hid (And.intro (imgL_head g b) (imgL_chunk g b))
  have hl9 : b.length ≤ 9223372036854775807 := by omega
  have d1 : decide ((g : Int) < 0) = false := by simp
  have d2 : decide ((2147483647 : Int) < (g : Int)) = false := by simp; omega
  have d3 : decide ((32640 : Int) < (b.length : Int)) = false := by simp; omega
  have HAl := Lib.hid (show a ≤ 100000 by omega)
  have HGl := Lib.hid hg
  clear hV hA hok hd hb eE eD k0 k1 hlen ha hg
  generalize hN : blkN b.length = n at *
  have HNn := Lib.hid hN
  clear hN hsz
  unfold ptrV at *
  go_enter Try.func12, Try.ntmps12
  go_wp2_with fail
  with_reducible refine HMd.out.mono ?_
  rintro e w0 ⟨rfl, rfl⟩
  go_wp2_with fail
  refine HIm.out.mono ?_
  rintro e w1 ⟨q, c, rfl, hbi, hqi, hB1⟩
  have HI := Lib.hid hbi
  have HQ := Lib.hid (show ∀ x, q = some x → w.heap.size ≤ x.block ∧ x.block < w1.heap.size from fun x hx => ⟨hqi x hx, bsv_lt hbi (by intro e; have := HIl.out; rw [e] at this; simp at this; omega) x hx⟩)
  have HB1 := Lib.hid hB1
  have HV1 := Lib.hid (HV.out.below hB1 HV.out.lt)
  have HA1 := Lib.hid (DiskRel.below HA.out hB1)
  clear hbi hqi hB1 HIm HMd
  have hil := HIl.out
  generalize hil2 : (imgL g b).length = L at *
  have HL2 := Lib.hid hil2
  have HLn := Lib.hid hil
  clear hil2 hil
  go_wp2_with fail
  refine (HBk.out _).mono ?_
  rintro e w2 ⟨rfl, rfl⟩
  go_wp2_with fail
  go_loopw [35] (fun i wr => ∃ (k : Nat) (T : DS) (D' : Nat → Prop), k ≤ n ∧ i = .int .i64 k ∧ wrl S (bodyP (vAt a g) b k) = (0, T) ∧ DSOk T ∧ T.wr ≤ S.wr + k ∧ theRel.At wr db T D' ∧ (∀ k, D' k → D k ∨ w1.heap.size ≤ k) ∧ Chg D w1 wr) (fun i _ => n - (intOf i).toNat)
  case atStart => exact ⟨0, S, D, Nat.zero_le _, rfl, rfl, HO.out, by omega, HA1.out, fun k hk => .inl hk, Chg.refl _ _⟩
  case round =>
    obtain ⟨k, T, D1, hk, rfl, hP, hokT, hwT, hAT, hsT, hC⟩ := hrel
    have HP := Lib.hid hP
    have HOT := Lib.hid hokT
    have HAT := Lib.hid hAT
    have HST := Lib.hid hsT
    have HC := Lib.hid hC
    have HVr := Lib.hid (hC.kept HV1.out HD.out)
    have HIr := Lib.hid (HI.out.chg hC (fun x hx hd => by have := HDl.out _ hd; have := (HQ.out x hx).1; omega))
    have HQr := Lib.hid (show ∀ x, q = some x → ¬ D1 x.block from fun x hx hd => by
      rcases hsT _ hd with h | h
      · have := HDl.out _ h; have := (HQ.out x hx).1; omega
      · have := (HQ.out x hx).2; omega)
    have HNx := Lib.hid (show ∀ (D2 : Nat → Prop), (∀ k, D2 k → D1 k ∨ wr.heap.size ≤ k) → ∀ k, D2 k → D k ∨ w1.heap.size ≤ k from fun D2 h k hk => by
      rcases h k hk with h | h
      · exact hsT k h
      · exact .inr (Nat.le_trans hC.size h))
    have HNc := Lib.hid (show ∀ V, Chg D1 wr V → Chg D w1 V from fun V hV => hC.then hV fun i hi hd => by
      rcases hsT i hd with h | h
      · exact h
      · exact absurd hi (Nat.not_lt.2 h))
    clear hP hokT hAT hsT hC
    by_cases hlt : k < n
    · have hlt2 : k < blkN b.length := by rw [HNn.out]; exact hlt
      have HK2 := Lib.hid hlt2
      have hx := Lib.hid hlt
      have m3 : IntKind.i64.wrap (1 + (k : Int)) = 1 + (k : Int) := IntWalk.i64_in _ (by omega)
      have hwr2 := vWrite_any (w := wr) (vb := vb) (db := db) (a := a) g (1 + k) HVr.out HAT.out HOT.out (by omega) (by rw [HL2.out]; exact HIr.out) (by rw [HL2.out]; have := HLn.out; omega) (by rw [HL2.out]; have := HLn.out; omega) HAl.out HQr.out
      rw [HIc.out.2, HL2.out, show vAt a g + (1 + k) = vAt a g + 1 + k by omega, show ((1 + k : Nat) : Int) = 1 + (k : Int) by omega] at hwr2
      have HWr := Lib.hid hwr2
      have hw1 := wr_one T ((vAt a g + 1 + k : Nat) : Int) (chunkL b k)
      clear hwr2 hlt hlt2
      generalize hZ : ((vAt a g + 1 + k : Nat) : Int) = z at *
      have HZ := Lib.hid hZ
      clear hZ
      unfold ptrV at *
      go_wp2_with fail
      refine HWr.out.mono ?_
      rintro e w3 ⟨D2, rfl, hA3, hs3, hC3⟩
      have HA3 := Lib.hid hA3
      have HS3 := Lib.hid (HNx.out D2 hs3)
      have HC3 := Lib.hid (HNc.out _ hC3)
      clear hA3 hs3 hC3 HWr m3
      by_cases he : writeE T z (chunkL b k) = 0
      · have hmore := wrl_more HP.out (by rw [HZ.out]; exact he)
        rw [HZ.out] at hmore
        have HM := Lib.hid hmore
        rw [he]
        clear he hmore
        go_wp2_with fail
        go_roundw
        case rel => exact ⟨k + 1, _, D2, by have := hx.out; omega, by go_num, HM.out, HOT.out.write _ _, by omega, HA3.out, HS3.out, HC3.out⟩
        case measure => have := hx.out; simp [intOf]; omega
      · have hstop := wrl_stop (g := g) HK2.out HP.out (by rw [HZ.out]; exact he)
        rw [HZ.out] at hstop
        have HSt := Lib.hid hstop
        have d5 : (writeE T z (chunkL b k) == 0) = false := by simpa using he
        clear he hstop
        generalize hY : writeE T z (chunkL b k) = y at *
        have HY := Lib.hid hY
        clear hY
        go_wp2_with fail
        go_ret
        rw [HE.out.1, HE.out.2, HSt.out]
        exact ⟨D2, rfl, HA3.out, fun k hk => (HS3.out k hk).imp_right (Nat.le_trans HB1.out.size), (Chg.ofBelow HB1.out).trans HC3.out⟩
    · obtain rfl : k = n := by omega
      have hP := HP.out
      rw [← HNn.out] at hP
      have hend := wrl_end (g := g) hP
      have HEn := Lib.hid hend
      have hwr2 := vWrite_any (w := wr) (vb := vb) (db := db) (a := a) g 0 HVr.out HAT.out HOT.out (by omega) (by rw [HL2.out]; exact HIr.out) (by rw [HL2.out]; have := HLn.out; omega) (by rw [HL2.out]; have := HLn.out; omega) HAl.out HQr.out
      rw [HIc.out.1, HL2.out, Nat.add_zero, show ((0 : Nat) : Int) = 0 from rfl] at hwr2
      have HWr := Lib.hid hwr2
      clear hP hend hwr2
      unfold ptrV at *
      go_wp2_with fail
      refine HWr.out.mono ?_
      rintro e w4 ⟨D2, rfl, hA4, hs4, hC4⟩
      have HA4 := Lib.hid hA4
      have HS4 := Lib.hid (HNx.out D2 hs4)
      have HC4 := Lib.hid (HNc.out _ hC4)
      clear hA4 hs4 hC4 HWr
      go_wp2_with fail
      go_ret
      rw [HE.out.1, HE.out.2, HEn.out]
      exact ⟨D2, rfl, HA4.out, fun k hk => (HS4.out k hk).imp_right (Nat.le_trans HB1.out.size), (Chg.ofBelow HB1.out).trans HC4.out⟩
set_option maxRecDepth 100000 in
set_option maxHeartbeats 3200000 in
theorem vSave_any : VSaveC theRel theVlt := by
  intro w vb db S a F p len cap b gen h hwr hb hl hpf
  have hsame := hb.same
  subst hsame
  have hok := h.ok
  obtain ⟨D, G, hA, hR, hdg, hF⟩ := h.ex
  obtain ⟨hV, hG⟩ := hR
  have hd : ¬ D vb := fun hd => hdg vb hd (by rw [hG])
  have HX := Lib.hid (show ∃ G, theVlt.At w vb db a G ∧ (∀ k, D k → ¬ G k) ∧ ∀ k, F k ↔ (D k ∨ G k) from ⟨G, ⟨hV, hG⟩, hdg, hF⟩)
  have HH := Lib.hid h
  obtain ⟨k0, k1⟩ := vlt_cells hV
  have HMd := Lib.hid (vMade_any k0)
  by_cases hg : gen < 0 ∨ 2147483647 < gen
  · have HE := Lib.hid (show saveE S a gen b = 8 ∧ saveD S a gen b = S from ⟨by unfold saveE; rw [if_pos hg], by unfold saveD; rw [if_pos (.inl hg)]⟩)
    have hc : gen < 0 ∨ (¬ gen < 0 ∧ 2147483647 < gen) := by omega
    have HLe := Lib.hid hl
    clear h hok hwr hb hl hpf hg hA hdg hF hV hG hd k0 k1
    generalize b.length = n at *
    unfold ptrV at *
    rcases hc with h1 | ⟨h1, h2⟩
    · have d1 : decide (gen < 0) = true := by simpa using h1
      clear h1
      go_enter Try.func12, Try.ntmps12
      go_wp2_with fail
      with_reducible refine HMd.out.mono ?_
      rintro e w0 ⟨rfl, rfl⟩
      go_wp2_with fail
      go_ret
      exact ⟨F, by rw [HE.out.1]; rfl, by rw [HE.out.2]; exact HH.out, fun k hk => .inl hk, Chg.refl _ _⟩
    · have d1 : decide (gen < 0) = false := by simpa using h1
      have d2 : decide (2147483647 < gen) = true := by simpa using h2
      clear h1 h2
      go_enter Try.func12, Try.ntmps12
      go_wp2_with fail
      with_reducible refine HMd.out.mono ?_
      rintro e w0 ⟨rfl, rfl⟩
      go_wp2_with fail
      go_ret
      exact ⟨F, by rw [HE.out.1]; rfl, by rw [HE.out.2]; exact HH.out, fun k hk => .inl hk, Chg.refl _ _⟩
  · obtain ⟨g, rfl⟩ := Int.eq_ofNat_of_zero_le (show 0 ≤ gen by omega)
    by_cases hn : 255 < blkN b.length
    · have HE := Lib.hid (show saveE S a g b = 12 ∧ saveD S a g b = S from ⟨by unfold saveE; rw [if_neg hg, if_pos hn], by unfold saveD; rw [if_pos (.inr hn)]⟩)
      have d1 : decide ((g : Int) < 0) = false := by simp
      have d2 : decide ((2147483647 : Int) < (g : Int)) = false := by simp; omega
      have d3 : decide ((32640 : Int) < (b.length : Int)) = true := by simp; have := blkN_lt b.length; omega
      have hl9 : b.length ≤ 9223372036854775807 := by omega
      clear h hok hwr hb hl hpf hg hn hA hdg hF hV hG hd k0 k1
      generalize b.length = n at *
      unfold ptrV at *
      go_enter Try.func12, Try.ntmps12
      go_wp2_with fail
      with_reducible refine HMd.out.mono ?_
      rintro e w0 ⟨rfl, rfl⟩
      go_wp2_with fail
      go_ret
      exact ⟨F, by rw [HE.out.1]; rfl, by rw [HE.out.2]; exact HH.out, fun k hk => .inl hk, Chg.refl _ _⟩
    · have hplan : ∀ x ∈ planP (vAt a g) g b, x.1 < S.len ∧ x.2.length = 128 := plan_fit (by have := h.fits; unfold vAt; omega) (by omega)
      obtain ⟨q1, q2, -, -⟩ := wrl_keep (planP (vAt a g) g b) S hok hplan
      have eD : saveD S a (g : Int) b = (wrl S (planP (vAt a g) g b)).2 := by unfold saveD; rw [if_neg (by omega), Int.toNat_natCast]
      rw [← eD] at q1 q2
      refine (vSave_main hV hA hok hd hwr hb (by omega) (by omega) h.fits).mono fun e w' ⟨D', he, hA', hs, hc⟩ => ?_
      obtain ⟨F', h1, h2, h3⟩ := h.disk q1 q2 HX.out hA' hs hc
      exact ⟨F', he, h1, h2, h3⟩
end Go.Proofs.Ytbmcajhknohhdaa

/-! VltT -/
namespace Go.Proofs.Ytbmcajhknohhdaa
open Go.RowKit

theorem vread_on {S : DS} {m : Nat} (hm : m < S.len) (ho : S.off = false) : readE S (m : Int) = 0 ∧ readL S (m : Int) = blockL S m := by
  have h1 : readE S (m : Int) = 0 := by unfold readE; rw [hasD_iff.2 ⟨by omega, by omega⟩, ho]; rfl
  refine ⟨h1, ?_⟩
  unfold readL
  rw [if_pos h1, Int.toNat_natCast]
theorem vblock_128 {S : DS} (h : DSOk S) {m : Nat} (hm : m < S.len) : (blockL S m).length = 128 := by
  have := h.len
  unfold blockL
  rw [List.length_take, List.length_drop]; omega
/-- So many blocks in a row. -/
def runL (S : DS) (m n : Nat) : List UInt8 := (S.all.drop (128 * m)).take (128 * n)
theorem runL_length {S : DS} (h : DSOk S) {m n : Nat} (hm : m + n ≤ S.len) : (runL S m n).length = 128 * n := by
  have := h.len
  unfold runL
  rw [List.length_take, List.length_drop]; omega
theorem runL_zero (S : DS) (m : Nat) : runL S m 0 = [] := by unfold runL; simp
theorem runL_succ (S : DS) (m k : Nat) : runL S m (k + 1) = runL S m k ++ blockL S (m + k) := by
  unfold runL blockL
  rw [show 128 * (k + 1) = 128 * k + 128 by omega, List.take_add, List.drop_drop, show 128 * m + 128 * k = 128 * (m + k) by omega]
theorem runL_one (S : DS) (m : Nat) : runL S m 1 = blockL S m := by rw [runL_succ, runL_zero]; simp

set_option maxRecDepth 100000 in
set_option maxHeartbeats 1600000 in
theorem vRead_any {w : World} {vb db a : Nat} {S : DS} {D : Nat → Prop} (m n : Nat) (hb : Blk w vb (vltV db a) 58) (hA : theRel.At w db S D) (hok : DSOk S) (ho : S.off = false) (hm : m + n ≤ S.len) :
    Calls Try.prog 63 #[ptrV vb, .int .i64 (m : Int), .int .i64 (n : Int)] w fun e w' => ∃ q c, e = .returned (.tuple #[.slice q (128 * n) c, .bool true]) ∧ BsAt w' q (128 * n) c (runL S m n) ∧ (∀ x, q = some x → w.heap.size ≤ x.block) ∧ Below w.heap.size w w' := by
  have hfew := hok.few
  have HL := Lib.hid (fun k (hk : k < n) => vblock_128 hok (show m + k < S.len by omega))
  have HR := Lib.hid (fun V (hV : Below w.heap.size w V) k (hk : k < n) => dRead_any ((m + k : Nat) : Int) (DiskRel.below hA hV) hok)
  have HO := Lib.hid (fun k (hk : k < n) => vread_on (show m + k < S.len by omega) ho)
  have HK0 := Lib.hid (fun V (hV : Below w.heap.size w V) => (vlt_cells (hb.below hV hb.lt)).1)
  have HN := Lib.hid (runL_length hok hm)
  have HLk := Lib.hid (fun k (hk : k ≤ n) => runL_length hok (show m + k ≤ S.len by omega))
  have HZ := Lib.hid (And.intro (runL_zero S m) (runL_succ S m))
  have hmn : m + n ≤ 1024 := by omega
  clear hb hA hok ho hm hfew
  unfold ptrV at *
  go_enter Try.func63, Try.ntmps63
  go_wp2_with fail
  go_loopw [13, 8] (fun i v wr => ∃ (k : Nat), k ≤ n ∧ i = .int .i64 k ∧ wr.ownsRow w.heap.size 5 1 v (runL S m k).length (bvs (runL S m k)) ∧ Below w.heap.size w wr) (fun i _ _ => n - (intOf i).toNat)
  case atStart => exact ⟨0, Nat.zero_le _, rfl, by rw [HZ.out.1]; exact World.ownsRow_nil _ _ _ _, Below.refl _ _⟩
  case round =>
    obtain ⟨k, hk, rfl, hown, hB⟩ := hrel
    have HB := Lib.hid hB
    have HOw := Lib.hid hown
    by_cases hlt : k < n
    · have HKx := Lib.hid hlt
      have m1 : IntKind.i64.wrap ((m : Int) + (k : Int)) = (m : Int) + (k : Int) := IntWalk.i64_in _ (by omega)
      have k0 := HK0.out wr hB
      have hr := HR.out wr hB k hlt
      rw [(HO.out k hlt).1, (HO.out k hlt).2, HL.out k hlt, show ((m + k : Nat) : Int) = (m : Int) + (k : Int) by omega] at hr
      have HRd := Lib.hid hr
      clear hown hB hlt hr
      go_wp2_with fail
      refine HRd.out.mono ?_
      rintro e w2 ⟨q2, c2, rfl, ⟨t2, hr2⟩, hB2⟩
      have hb2 : BsAt w2 q2 128 c2 (blockL S (m + k)) := by
        have h1 := HL.out k HKx.out
        rw [← h1] at hr2
        obtain ⟨q6, d6, e6, h6⟩ := BsAt.ofRow hr2
        rw [Value.slice.injEq] at e6
        obtain ⟨rfl, -, rfl⟩ := e6
        rw [h1] at h6; exact h6
      have HS2 := Lib.hid hb2
      have HB2 := Lib.hid (HB.out.trans (hB2.mono HB.out.size))
      have hown2 := own_below HOw.out hB2 (Nat.le_refl _)
      have HQ := Lib.hid (show (runL S m k).length + (blockL S (m + k)).length ≤ 140737488355328 by rw [HLk.out k (by omega), HL.out k HKx.out]; omega)
      clear hr2 hb2 hB2 HRd HOw k0 m1
      go_wp2_with (at_builtin; refine wpList_append_bytes rfl _ _ 31 rfl w.heap.size 5 Try.underlying31 infoU8 rfl hown2 rfl HS2.out HQ.out HB2.out.size ?_; intro p3 n3 c3 w3 hrow hg3 hn3; have HR3 := Lib.hid hrow; have HB3 := Lib.hid (HB2.out.grown hg3 HB2.out.size (fun k hk => (hown2.lt k hk).1)); clear hrow hg3 hn3 hown2)
      go_roundw
      case rel => exact ⟨k + 1, by have := HKx.out; omega, by go_num, by rw [HZ.out.2]; exact HR3.out, HB3.out⟩
      case measure => have := HKx.out; simp [intOf]; omega
    · obtain rfl : k = n := by omega
      obtain ⟨p4, c4, hv⟩ := own_form hown
      rw [HN.out] at hv
      subst hv
      have HX := Lib.hid hown
      clear hown hB hlt HOw
      go_wp2_with fail
      refine bodyPost_ret (results_tmp2 rfl _ _ _) rfl ?_
      have hx := HX.out
      obtain ⟨q6, d6, e6, h6⟩ := BsAt.ofRow hx
      rw [HN.out, Value.slice.injEq] at e6
      obtain ⟨rfl, -, rfl⟩ := e6
      rw [HN.out] at h6
      exact ⟨p4, c4, rfl, h6, fun x hx2 => by subst hx2; exact (hx.lt x.block rfl).1, HB.out⟩

/-- What a head tells of. -/
def toldR (t : List UInt8) : Option (Nat × Nat) := if (frR 86 t).e = 0 ∧ 4 ≤ (frR 86 t).pay.length ∧ valB ((frR 86 t).pay.take 4) ≤ 32640 then some ((frR 86 t).gen.toNat, valB ((frR 86 t).pay.take 4)) else none
theorem frR_gen {kd : UInt8} {t : List UInt8} (h : (frR kd t).e = 0) : (frR kd t).gen = ((frR kd t).gen.toNat : Int) ∧ (frR kd t).gen.toNat ≤ 2147483647 := by
  have h1 := (frW_frR h).1
  unfold frWE at h1
  split at h1
  · cases h1
  · omega
theorem pay_le {kd : UInt8} {t : List UInt8} : (frR kd t).pay.length ≤ 255 := by
  by_cases h : (frR kd t).e = 0
  · have h1 := (frW_frR h).1
    unfold frWE at h1
    split at h1
    · cases h1
    · split at h1
      · cases h1
      · omega
  · unfold frR at *
    split at h
    · exact absurd rfl h
    · rename_i h2; rw [if_neg h2]; simp
theorem told_num (l : List UInt8) : (dNum (l, 0) 4 32640).2.2 = 0 ↔ (4 ≤ l.length ∧ valB (l.take 4) ≤ 32640) := by
  have e4 : (4 : Int).toNat = 4 := rfl
  unfold dNum
  rw [if_pos (by decide), e4]
  by_cases h : l.length < 4
  · have h1 : tookS (l, 0) 4 = [] := by unfold tookS; rw [if_pos h]
    have h2 : takeS (l, 0) 4 = ([], 4) := by unfold takeS; rw [if_pos h]; rfl
    rw [h1, h2, if_neg (by decide)]
    simp only [show ¬ 4 ≤ l.length by omega, false_and, iff_false]
    decide
  · have h1 : tookS (l, 0) 4 = l.take 4 := by unfold tookS; rw [if_neg h]
    have h2 : takeS (l, 0) 4 = (l.drop 4, 0) := by unfold takeS; rw [if_neg h]
    rw [h1, h2]
    by_cases h3 : (32640 : Int) < (valB (l.take 4) : Int)
    · rw [if_pos h3]
      have : failS (l.drop 4, 0) 8 = ([], 8) := by unfold failS; rw [if_pos ⟨rfl, by decide⟩]
      rw [this]
      simp only [show ¬ valB (l.take 4) ≤ 32640 by omega, and_false, iff_false]
      decide
    · rw [if_neg h3]
      simp only [show valB (l.take 4) ≤ 32640 by omega, show 4 ≤ l.length by omega, and_self]
theorem told_val {l : List UInt8} (h : 4 ≤ l.length ∧ valB (l.take 4) ≤ 32640) : (dNum (l, 0) 4 32640).1 = (valB (l.take 4) : Int) := by
  have e4 : (4 : Int).toNat = 4 := rfl
  have h1 : tookS (l, 0) 4 = l.take 4 := by unfold tookS; rw [if_neg (by simp only; omega)]
  unfold dNum
  rw [if_pos (by decide), e4, h1, if_neg (by omega)]
def toldV (o : Option (Nat × Nat)) : Value := match o with
  | some (g, n) => .tuple #[.int .i64 (g : Int), .int .i64 (n : Int), .bool true]
  | none => .tuple #[.int .i64 0, .int .i64 0, .bool false]

set_option maxRecDepth 100000 in
set_option maxHeartbeats 1600000 in
theorem vTold_any {w : World} {p : Option Addr} {cap : Nat} {t : List UInt8} (hb : BsAt w p 128 cap t) (hw : 0 < w.heap.size) :
    Calls Try.prog 64 #[.slice p 128 cap] w fun e w' => e = .returned (toldV (toldR t)) ∧ Below w.heap.size w w' := by
  have HFr := Lib.hid (frRead_any 86 p 128 cap t w hb (by have := hb.same; omega))
  rw [show (((86 : UInt8).toNat : Nat) : Int) = 86 from rfl] at HFr
  have HPl := Lib.hid (pay_le (kd := 86) (t := t))
  by_cases he : (frR 86 t).e = 0
  case neg =>
    have HE := Lib.hid (show toldR t = none by unfold toldR; rw [if_neg (fun h => he h.1)])
    have d0 : ((frR 86 t).e == 0) = false := by simpa using he
    clear he hb hw
    generalize frR 86 t = R at *
    obtain ⟨Rg, Rs, Rp, Re⟩ := R
    simp only at HFr d0 HPl
    go_enter Try.func64, Try.ntmps64
    go_wp2_with fail
    refine HFr.out.mono ?_
    rintro e w1 ⟨q1, c1, rfl, -, hB1⟩
    have HB1 := Lib.hid hB1
    clear hB1 HFr
    go_wp2_with fail
    refine bodyPost_ret (results_tmp3 rfl _ _ _) rfl ?_
    exact ⟨by rw [HE.out]; rfl, HB1.out⟩
  case pos =>
    have hgen := Lib.hid (frR_gen he)
    have HT := Lib.hid (show toldR t = if (4 ≤ (frR 86 t).pay.length ∧ valB ((frR 86 t).pay.take 4) ≤ 32640) then some ((frR 86 t).gen.toNat, valB ((frR 86 t).pay.take 4)) else none by
      unfold toldR
      by_cases h : 4 ≤ (frR 86 t).pay.length ∧ valB ((frR 86 t).pay.take 4) ≤ 32640
      · rw [if_pos h, if_pos ⟨he, h⟩]
      · rw [if_neg h, if_neg (fun k => h k.2)])
    have HNm := Lib.hid (And.intro (told_num (frR 86 t).pay) (fun h => told_val (l := (frR 86 t).pay) h))
    generalize frR 86 t = R at *
    obtain ⟨Rg, Rs, Rp, Re⟩ := R
    simp only at HFr he HPl hgen HT HNm
    subst he
    have HHw := Lib.hid hw
    clear hb hw
    go_enter Try.func64, Try.ntmps64
    go_wp2_with fail
    refine HFr.out.mono ?_
    rintro e w1 ⟨q1, c1, rfl, hb1, hB1⟩
    have HB1 := Lib.hid hB1
    have HRd := Lib.hid (newRd_any q1 Rp.length c1 Rp w1 hb1.1 (by have := HPl.out; omega) (Nat.lt_of_lt_of_le HHw.out hB1.size))
    clear hb1 hB1 HFr
    go_wp2_with fail
    refine HRd.out.mono ?_
    rintro e w2 ⟨b2, g2, rfl, hb2, hg2, -, hr2, hB2⟩
    have HB2 := Lib.hid (HB1.out.trans (hB2.mono HB1.out.size))
    have HNu := Lib.hid (rdnum_any b2 _ g2 _ 4 32640 _ hr2 hg2 (by have := HPl.out; simp only; omega))
    have HBb := Lib.hid (Nat.le_trans HB1.out.size hb2)
    clear hb2 hg2 hr2 hB2 HRd
    go_wp2_with fail
    refine HNu.out.mono ?_
    rintro e w3 ⟨rfl, hR3⟩
    have HB3 := Lib.hid (HB2.out.trans (hR3.2.below HB2.out.size (fun k hk => hk ▸ HBb.out)))
    have HEr := Lib.hid (rderr_any b2 _ g2 _ _ hR3.1)
    clear hR3 HNu
    by_cases hn : 4 ≤ Rp.length ∧ valB (Rp.take 4) ≤ 32640
    · have hv := HNm.out.2 hn
      have hz := HNm.out.1.2 hn
      rw [hz] at HEr
      rw [hv]
      have HT2 := Lib.hid (HT.out.trans (if_pos hn))
      clear hn hv hz HNm HT
      generalize valB (Rp.take 4) = n at *
      go_wp2_with fail
      refine HEr.out.mono ?_
      rintro e w4 ⟨rfl, rfl⟩
      go_wp2_with fail
      refine bodyPost_ret (results_tmp3 rfl _ _ _) rfl ?_
      exact ⟨by rw [HT2.out]; show _ = Ending.returned (.tuple #[.int .i64 ((Rg.toNat : Nat) : Int), .int .i64 (n : Int), .bool true]); rw [← hgen.out.1]; rfl, HB3.out⟩
    · have hz : ¬ (dNum (Rp, 0) 4 32640).2.2 = 0 := fun h => hn (HNm.out.1.1 h)
      have HT2 := Lib.hid (HT.out.trans (if_neg hn))
      have d2 : ((dNum (Rp, 0) 4 32640).2.2 == 0) = false := by simpa using hz
      clear hn hz HNm HT
      generalize dNum (Rp, 0) 4 32640 = d at *
      go_wp2_with fail
      refine HEr.out.mono ?_
      rintro e w4 ⟨rfl, rfl⟩
      go_wp2_with fail
      refine bodyPost_ret (results_tmp3 rfl _ _ _) rfl ?_
      exact ⟨by rw [HT2.out]; rfl, HB3.out⟩

set_option maxHeartbeats 800000 in
theorem bEqual_any {w : World} {p q : Option Addr} {n c m d : Nat} {l r : List UInt8} (hl : BsAt w p n c l) (hr : BsAt w q m d r) :
    Calls Try.prog 65 #[.slice p n c, .slice q m d] w fun e w' => e = .returned (.bool (decide (l = r))) ∧ w' = w := by
  have q1 := run_string_bs (P := Try.prog) w 31 5 9 Try.underlying31 Try.underlying5 Try.underlying9 hl
  have q2 := run_string_bs (P := Try.prog) w 31 5 9 Try.underlying31 Try.underlying5 Try.underlying9 hr
  clear hl hr
  go_enter Try.func65, Try.ntmps65
  go_wp2_with fail
  go_ret
  exact ⟨congrArg (fun b => Ending.returned (Value.bool b)) (by rw [Bool.eq_iff_iff]; simp), rfl⟩

/-- What an area holds, as the program tells it: whatever generation. -/
def heldR (S : DS) (m : Nat) : Option (Nat × List UInt8) := match toldR (blockL S m) with
  | some (g, n) => if runL S m (1 + blkN n) = imgL g (segL S m n) then some (g, segL S m n) else none
  | none => none
def savedV (g : Int) (v : Value) : Value := .agg #[.int .i64 g, v]

theorem vpart (V : World) (p : Option Addr) (len cap n : Nat) (h : 128 + n ≤ cap) : (Instr.slice 31 (.slice p len cap) (some (.int .i64 128)) (some (.int .i64 (128 + (n : Int)))) (some (.int .i64 (128 + (n : Int))))).run Try.prog V = .ok (.slice (partP p 128 (128 + n)) n n) V := by
  rw [show (128 + (n : Int)) = ((128 + n : Nat) : Int) by omega, run_slice_lhm V _ _ _ _ elemU8 .i64 .i64 .i64 _ _ _ (by decide) (by omega) (by omega) (by omega), sizeU8]
  simp [Result.andThen, sliced, partP]
  have e : (128 + (n : Int)).toNat = 128 + n := by omega
  rw [e]
  refine ⟨?_, by omega⟩
  by_cases h0 : n = 0
  · rw [if_pos (by omega), if_pos h0]
  · rw [if_neg (by omega), if_neg h0]
theorem vpart_bs {w : World} {p : Option Addr} {cap n N : Nat} {S : DS} {m : Nat} (h : BsAt w p (128 * N) cap (runL S m N)) (hn : n ≤ 128 * (N - 1)) (hN : 1 ≤ N) : BsAt w (partP p 128 (128 + n)) n n (segL S m n) := by
  have h1 := part_bs (lo := 128) (hi := 128 + n) h (by omega) (by omega)
  rw [show 128 + n - 128 = n by omega, List.drop_take, show 128 + n - 128 = n by omega] at h1
  unfold runL at h1
  rw [List.drop_take, List.drop_drop, List.take_take, show min n (128 * N - 128) = n by omega, show 128 * m + 128 = 128 * (m + 1) by omega] at h1
  exact h1
theorem partP_block {p : Option Addr} {lo hi : Nat} {P : Nat → Prop} (h : ∀ a, p = some a → P a.block) : ∀ a, partP p lo hi = some a → P a.block := by
  intro a ha
  unfold partP at ha
  split at ha
  · exact h a ha
  · cases p with
    | none => cases ha
    | some q =>
      simp only [Option.map_some, Option.some.injEq] at ha
      rw [← ha]
      have : (q.add lo).block = q.block := by unfold Addr.add; split <;> rfl
      rw [this]; exact h q rfl

set_option maxRecDepth 100000 in
set_option maxHeartbeats 1600000 in
theorem vHeld_any {w : World} {vb db a : Nat} {S : DS} {D : Nat → Prop} (m : Nat) (hb : Blk w vb (vltV db a) 58) (hA : theRel.At w db S D) (hok : DSOk S) (ho : S.off = false) (hm : m + 256 ≤ S.len) :
    Calls Try.prog 49 #[ptrV vb, .int .i64 (m : Int)] w fun e w' => ∃ v, e = .returned (.tuple #[v, .bool (heldR S m).isSome]) ∧
      (∃ g q n c l, v = savedV (g : Nat) (.slice q n c) ∧ BsAt w' q n c l ∧ (∀ x, q = some x → w.heap.size ≤ x.block) ∧ ∀ y, heldR S m = some y → y = (g, l)) ∧ Below w.heap.size w w' := by
  have hfew := hok.few
  have HK := Lib.hid hb
  have HA := Lib.hid hA
  have HOk := Lib.hid hok
  have HOf := Lib.hid ho
  have HR1 := Lib.hid (vRead_any (w := w.alloc (.cells #[.int .i64 0, .slice none 0 0] 76)) m 1 (hb.below (belowNew w _) hb.lt) (DiskRel.below hA (belowNew w _)) hok ho (by omega))
  rw [runL_one] at HR1
  have HRn := Lib.hid (fun V (hV : Below w.heap.size w V) n (hn : n ≤ 256) => vRead_any (w := V) m n (hb.below hV hb.lt) (DiskRel.below hA hV) hok ho (by omega))
  have hm9 : m ≤ 1024 := by omega
  have H4 := Lib.hid (Blk.new w #[.int .i64 0, .slice none 0 0] 76)
  have HB0 := Lib.hid (belowNew w (.cells #[.int .i64 0, .slice none 0 0] 76))
  have hdef : heldR S m = match toldR (blockL S m) with
    | some (g, n) => if runL S m (1 + blkN n) = imgL g (segL S m n) then some (g, segL S m n) else none
    | none => none := rfl
  have HTl := Lib.hid (show ∀ g n, toldR (blockL S m) = some (g, n) → n ≤ 32640 ∧ g ≤ 2147483647 from fun g n h => by
    unfold toldR at h
    split at h
    · rename_i h2
      cases h
      exact ⟨h2.2.2, (frR_gen h2.1).2⟩
    · cases h)
  have HSl := Lib.hid (show ∀ n, n ≤ 32640 → (segL S m n).length = n from fun n hn => by
    have := hok.len
    unfold segL; rw [List.length_take, List.length_drop]; omega)
  clear hb hA hok ho hm hfew
  unfold ptrV at *
  go_enter Try.func49, Try.ntmps49
  go_wp2_with fail
  refine HR1.out.mono ?_
  rintro e w1 ⟨q1, c1, rfl, hb1, -, hB1⟩
  have HB1 := Lib.hid (HB0.out.trans (hB1.mono HB0.out.size))
  have H41 := Lib.hid (H4.out.below hB1 H4.out.lt)
  have HTo := Lib.hid (vTold_any (cap := c1) (t := blockL S m) hb1 (Nat.lt_of_le_of_lt (Nat.zero_le _) (H4.out.below hB1 H4.out.lt).lt))
  clear hb1 hB1 HR1 H4 HB0
  cases ht : toldR (blockL S m) with
  | none =>
    rw [ht] at HTo hdef
    have HE := Lib.hid hdef
    clear hdef ht
    unfold toldV at HTo
    simp only at HTo
    go_wp2_with fail
    refine HTo.out.mono ?_
    rintro e w2 ⟨rfl, hB2⟩
    have HB2 := Lib.hid (HB1.out.trans (hB2.mono HB1.out.size))
    have H42 := Lib.hid (H41.out.below hB2 H41.out.lt)
    have k0 := H42.out.cell 0
    have k1 := H42.out.cell 1
    have f0 := H42.out.free 0
    have f1 := H42.out.free 1
    clear hB2
    go_wp2_with fail
    have r := (H42.out.set 0 (.int .i64 0)).set 1 (.slice none 0 0)
    have r0 := r.cell 0
    have r1 := r.cell 1
    simp at r0 r1
    refine bodyPost_ret (v := .tuple #[.agg #[.int .i64 0, .slice none 0 0], .bool false]) (by simp [results, Try.results49, go_sem, r0, r1]) rfl ?_
    refine ⟨_, by rw [HE.out]; rfl, ⟨0, none, 0, 0, [], rfl, bsAt_nil _, (fun x hx => by cases hx), fun y hy => by rw [HE.out] at hy; cases hy⟩, (HB2.out.setCell (Nat.le_refl _) _).setCell (Nat.le_refl _) _⟩
  | some y =>
    obtain ⟨g, n⟩ := y
    rw [ht] at HTo hdef
    simp only at hdef
    have HE := Lib.hid hdef
    obtain ⟨hn, hg⟩ := HTl.out g n ht
    have HG := Lib.hid hg
    have hblk : blkN n ≤ 255 := by unfold blkN; omega
    have hle := blkN_le n
    have HBk := Lib.hid (fun V => vBlocks_nat n V (by omega))
    have m1 : IntKind.i64.wrap (1 + ((blkN n : Nat) : Int)) = 1 + ((blkN n : Nat) : Int) := IntWalk.i64_in _ (by omega)
    have m2 : IntKind.i64.wrap (128 + (n : Int)) = 128 + (n : Int) := IntWalk.i64_in _ (by omega)
    have hsl := HSl.out n hn
    have HIm := Lib.hid (fun (V : World) (p : Option Addr) (hV : BsAt V p n n (segL S m n)) => vImage_any (w := V) (p := p) (cap := n) (b := segL S m n) g (by rw [hsl]; exact hV) hg (by rw [hsl]; exact hblk))
    have HIl := Lib.hid (imgL_length g (segL S m n))
    rw [hsl] at HIm HIl
    have HPb := Lib.hid (fun (V : World) (p : Option Addr) (c : Nat) (hV : BsAt V p (128 * (1 + blkN n)) c (runL S m (1 + blkN n))) => vpart_bs (n := n) hV (by omega) (by omega))
    clear hdef ht hn hg hsl HTl HSl
    unfold toldV at HTo
    simp only at HTo
    generalize hN : blkN n = N at *
    have hNb : 128 + n ≤ 128 * (1 + N) := by omega
    clear hN hle
    go_wp2_with fail
    refine HTo.out.mono ?_
    rintro e w2 ⟨rfl, hB2⟩
    have HB2 := Lib.hid (HB1.out.trans (hB2.mono HB1.out.size))
    have H42 := Lib.hid (H41.out.below hB2 H41.out.lt)
    have HRd := Lib.hid (HRn.out w2 HB2.out (1 + N) (by omega))
    rw [show ((1 + N : Nat) : Int) = 1 + (N : Int) by omega] at HRd
    clear hB2 HTo H41 HB1
    go_wp2_with fail
    refine (HBk.out _).mono ?_
    rintro e w3 ⟨rfl, rfl⟩
    go_wp2_with fail
    refine HRd.out.mono ?_
    rintro e w4 ⟨q4, c4, rfl, hb4, hq4, hB4⟩
    have hle4 := hb4.le
    have u4 := fun V => vpart V q4 (128 * (1 + N)) c4 n (by omega)
    have HB4 := Lib.hid (HB2.out.trans (hB4.mono HB2.out.size))
    have H44 := Lib.hid (H42.out.below hB4 H42.out.lt)
    have HS4 := Lib.hid hb4
    have HX4 := Lib.hid (HPb.out w4 q4 c4 hb4)
    have HQ4 := Lib.hid (partP_block (lo := 128) (hi := 128 + n) (P := fun k => w.heap.size < k) (fun x hx => Nat.lt_of_lt_of_le H42.out.lt (hq4 x hx)))
    clear hb4 hq4 hB4 H42 HB2 HRd
    generalize partP q4 128 (128 + n) = px at *
    go_wp2_with fail
    refine (HIm.out _ _ HX4.out).mono ?_
    rintro e w5 ⟨q5, c5, rfl, hb5, -, hB5⟩
    have HB5 := Lib.hid (HB4.out.trans (hB5.mono HB4.out.size))
    have H45 := Lib.hid (H44.out.below hB5 H44.out.lt)
    have HX5 := Lib.hid (HX4.out.below hB5 (Nat.le_refl _))
    have HEq := Lib.hid (bEqual_any (HS4.out.below hB5 (Nat.le_refl _)) hb5)
    clear hb5 hB5 H44 HB4 HIm HPb HX4 HS4
    rw [HIl.out] at HEq ⊢
    by_cases hq : runL S m (1 + N) = imgL g (segL S m n)
    · have HE2 := Lib.hid (HE.out.trans (if_pos hq))
      rw [show decide (runL S m (1 + N) = imgL g (segL S m n)) = true by simpa using hq] at HEq
      have k0 := H45.out.cell 0
      have k1 := H45.out.cell 1
      have f0 := H45.out.free 0
      have f1 := H45.out.free 1
      clear hq HE
      go_wp2_with fail
      refine HEq.out.mono ?_
      rintro e w6 ⟨rfl, rfl⟩
      go_wp2_with fail
      have r := (H45.out.set 0 (.int .i64 (g : Int))).set 1 (.slice px n n)
      have r0 := r.cell 0
      have r1 := r.cell 1
      simp at r0 r1
      have hB6 := (HB5.out.setCell (p := ⟨w.heap.size, 0, none⟩) (Nat.le_refl _) (.int .i64 (g : Int))).setCell (p := ⟨w.heap.size, 1, none⟩) (Nat.le_refl _) (.slice px n n)
      have hc := ((Chg.refl (fun k => k = w.heap.size) w6).setCell (p := ⟨w.heap.size, 0, none⟩) (fun _ => rfl) (.int .i64 (g : Int))).setCell (p := ⟨w.heap.size, 1, none⟩) (fun _ => rfl) (.slice px n n)
      have hbx := HX5.out.chg hc (fun x hx e => by have h1 := HQ4.out x hx; have h2 : x.block = w.heap.size := e; omega)
      refine bodyPost_ret (v := .tuple #[.agg #[.int .i64 (g : Int), .slice px n n], .bool true]) (by simp [results, Try.results49, go_sem, r0, r1]) rfl ?_
      exact ⟨_, by rw [HE2.out]; rfl, ⟨g, px, n, n, _, rfl, hbx, (fun x hx => Nat.le_of_lt (HQ4.out x hx)), fun y hy => by rw [HE2.out] at hy; cases hy; rfl⟩, hB6⟩
    · have HE2 := Lib.hid (HE.out.trans (if_neg hq))
      rw [show decide (runL S m (1 + N) = imgL g (segL S m n)) = false by simpa using hq] at HEq
      have k0 := H45.out.cell 0
      have k1 := H45.out.cell 1
      have f0 := H45.out.free 0
      have f1 := H45.out.free 1
      clear hq HE
      go_wp2_with fail
      refine HEq.out.mono ?_
      rintro e w6 ⟨rfl, rfl⟩
      go_wp2_with fail
      have r := (H45.out.set 0 (.int .i64 0)).set 1 (.slice none 0 0)
      have r0 := r.cell 0
      have r1 := r.cell 1
      simp at r0 r1
      refine bodyPost_ret (v := .tuple #[.agg #[.int .i64 0, .slice none 0 0], .bool false]) (by simp [results, Try.results49, go_sem, r0, r1]) rfl ?_
      refine ⟨_, by rw [HE2.out]; rfl, ⟨0, none, 0, 0, [], rfl, bsAt_nil _, (fun x hx => by cases hx), fun y hy => by rw [HE2.out] at hy; cases hy⟩, (HB5.out.setCell (Nat.le_refl _) _).setCell (Nat.le_refl _) _⟩
end Go.Proofs.Ytbmcajhknohhdaa

/-! VltL -/
namespace Go.Proofs.Ytbmcajhknohhdaa
open Go.RowKit

/-- The closure of an area. -/
def chV (B C : Nat) : Value := .func (.func 48) #[] #[.pointer (some ⟨B, 0, none⟩), .pointer (some ⟨C, 0, none⟩)]
set_option maxRecDepth 100000 in
set_option maxHeartbeats 1600000 in
theorem vChoices_any {w : World} {vb : Nat} :
    Calls Try.prog 37 #[ptrV vb] w fun e w' => ∃ B C D, e = .returned (.agg #[chV B C, chV B D]) ∧ Blk w' B #[ptrV vb] 27 ∧ Blk w' C #[.int .i64 0] 3 ∧ Blk w' D #[.int .i64 1] 3 ∧ Below w.heap.size w w' := by
  unfold ptrV chV
  go_enter Try.func37, Try.ntmps37
  go_upto_region 2 with fail
  obtain ⟨V, hV⟩ : ∃ V, V = ((w.alloc (.cells #[.pointer (some ⟨vb, 0, none⟩)] 27)).alloc (.cells #[.nilFunc, .nilFunc] 78)).alloc (.cells #[.nilFunc, .nilFunc] 78) := ⟨_, rfl⟩
  rw [← hV]
  have HB := Lib.hid (show Below w.heap.size w V by rw [hV]; exact ((belowNew w _).alloc (by simp) _).alloc (by simp; omega) _)
  have HX := Lib.hid (show Blk V w.heap.size #[.pointer (some ⟨vb, 0, none⟩)] 27 by rw [hV]; exact ((Blk.new w _ _).alloc _).alloc _)
  have HR := Lib.hid (show Blk V (w.heap.size + 1) #[.nilFunc, .nilFunc] 78 by
    rw [hV]
    have := Blk.new (w.alloc (.cells #[.pointer (some ⟨vb, 0, none⟩)] 27)) #[.nilFunc, .nilFunc] 78
    rw [show (w.alloc (.cells #[.pointer (some ⟨vb, 0, none⟩)] 27)).heap.size = w.heap.size + 1 by simp] at this
    exact this.alloc _)
  have HA := Lib.hid (show Blk V (w.heap.size + 1 + 1) #[.nilFunc, .nilFunc] 78 by
    rw [hV]
    have := Blk.new ((w.alloc (.cells #[.pointer (some ⟨vb, 0, none⟩)] 27)).alloc (.cells #[.nilFunc, .nilFunc] 78)) #[.nilFunc, .nilFunc] 78
    rw [show ((w.alloc (.cells #[.pointer (some ⟨vb, 0, none⟩)] 27)).alloc (.cells #[.nilFunc, .nilFunc] 78)).heap.size = w.heap.size + 1 + 1 by simp] at this
    exact this)
  have HN := Lib.hid (show w.heap.size ≠ w.heap.size + 1 ∧ w.heap.size ≠ w.heap.size + 1 + 1 ∧ w.heap.size + 1 ≠ w.heap.size + 1 + 1 ∧ w.heap.size ≤ w.heap.size + 1 ∧ w.heap.size ≤ w.heap.size + 1 + 1 by omega)
  clear hV
  generalize w.heap.size + 1 + 1 = A at *
  generalize w.heap.size + 1 = R at *
  generalize hBe : w.heap.size = B at *
  have HBe := Lib.hid hBe
  clear hBe
  have k0 := (HA.out.alloc (.cells #[.int .i64 0] 3)).cell 0
  have f0 := (HA.out.alloc (.cells #[.int .i64 0] 3)).free 0
  have hsf : ∀ (p : Addr) (x : Array Value) (W : World) (m : Mode), (store p (.func (.func 48) #[] x) m).run Try.prog W = stored Try.prog W p (.func (.func 48) #[] x) m := fun p x W m => run_store Try.prog W p (.func (.func 48) #[] x) m rfl
  go_wp2_with fail
  refine wp_loop_rounds 3 ?_
  rw [rounds_succ]
  go_wp2_with fail
  have HAlt := Lib.hid HA.out.lt
  obtain ⟨V2, hV2⟩ : ∃ V2, V2 = (V.alloc (.cells #[.int .i64 0] 3)).setCell ⟨A, 0, none⟩ (chV B V.heap.size) := ⟨_, rfl⟩
  have HA2 := Lib.hid (show Blk V2 A #[chV B V.heap.size, .nilFunc] 78 from hV2 ▸ (HA.out.alloc (.cells #[.int .i64 0] 3)).set 0 (chV B V.heap.size))
  have hc2 : Chg (fun k => k = A) V V2 := hV2 ▸ ((Chg.refl (fun k => k = A) V).alloc (.cells #[.int .i64 0] 3)).setCell (p := ⟨A, 0, none⟩) (fun _ => rfl) (chV B V.heap.size)
  have HC2 := Lib.hid (show Blk V2 V.heap.size #[.int .i64 0] 3 from hV2 ▸ (by
    have h1 := Blk.new V #[.int .i64 0] 3
    exact (((Chg.refl (fun k => k = A) (V.alloc (.cells #[.int .i64 0] 3))).setCell (p := ⟨A, 0, none⟩) (fun _ => rfl) (chV B V.heap.size)).kept h1 (fun e => by have := HAlt.out; omega))))
  have HX2 := Lib.hid (hc2.kept HX.out HN.out.2.1)
  have HR2 := Lib.hid (hc2.kept HR.out HN.out.2.2.1)
  have HB2 := Lib.hid (HB.out.trans (hc2.below (B := B) (by rw [← HBe.out]; exact HB.out.size) (fun k hk => by rw [hk]; exact HN.out.2.2.2.2)))
  have HCg := Lib.hid (show B ≤ V.heap.size ∧ V.heap.size ≠ A ∧ V.heap.size ≠ R from ⟨by rw [← HBe.out]; exact HB.out.size, fun e => by have := HAlt.out; omega, fun e => by have := HR.out.lt; omega⟩)
  have HA2l := Lib.hid HA2.out.lt
  unfold chV at hV2
  rw [← hV2]
  clear hV2 hc2 HB HX HR HA HAlt k0 f0
  generalize V.heap.size = C at *
  have k1 : (V2.alloc (.cells #[.int .i64 1] 3)).cell? ⟨A, 1, none⟩ = some .nilFunc := (HA2.out.alloc (.cells #[.int .i64 1] 3)).cell 1
  have f1 := (HA2.out.alloc (.cells #[.int .i64 1] 3)).free 1
  rw [rounds_succ]
  go_wp2_with fail
  obtain ⟨V3, hV3⟩ : ∃ V3, V3 = (V2.alloc (.cells #[.int .i64 1] 3)).setCell ⟨A, 1, none⟩ (chV B V2.heap.size) := ⟨_, rfl⟩
  have hA3 : Blk V3 A #[chV B C, chV B V2.heap.size] 78 := hV3 ▸ (HA2.out.alloc (.cells #[.int .i64 1] 3)).set 1 (chV B V2.heap.size)
  have hc3 : Chg (fun k => k = A) V2 V3 := hV3 ▸ ((Chg.refl (fun k => k = A) V2).alloc (.cells #[.int .i64 1] 3)).setCell (p := ⟨A, 1, none⟩) (fun _ => rfl) (chV B V2.heap.size)
  have HD3 := Lib.hid (show Blk V3 V2.heap.size #[.int .i64 1] 3 from hV3 ▸ (by
    have h1 := Blk.new V2 #[.int .i64 1] 3
    exact (((Chg.refl (fun k => k = A) (V2.alloc (.cells #[.int .i64 1] 3))).setCell (p := ⟨A, 1, none⟩) (fun _ => rfl) (chV B V2.heap.size)).kept h1 (fun e => by have := HA2l.out; omega))))
  have HX3 := Lib.hid (hc3.kept HX2.out HN.out.2.1)
  have HR3 := Lib.hid (hc3.kept HR2.out HN.out.2.2.1)
  have HC3 := Lib.hid (hc3.kept HC2.out HCg.out.2.1)
  have HB3 := Lib.hid (HB2.out.trans (hc3.below (B := B) (by rw [← HBe.out]; exact HB2.out.size) (fun k hk => by rw [hk]; exact HN.out.2.2.2.2)))
  have HDR := Lib.hid (show V2.heap.size ≠ R from fun e => by have := HR2.out.lt; omega)
  unfold chV at hV3 hA3
  rw [← hV3]
  clear hV3 hc3 HB2 HX2 HR2 HA2 HC2 HA2l k1 f1
  generalize V2.heap.size = D at *
  have k0 := hA3.cell 0
  have k1 := hA3.cell 1
  have r0 := HR3.out.cell 0
  have r1 := HR3.out.cell 1
  have f0 := HR3.out.free 0
  have f1 := HR3.out.free 1
  have HA3 := Lib.hid hA3
  clear hA3
  rw [rounds_succ]
  go_wp2_with fail
  have hr : Blk _ R #[chV B C, chV B D] 78 := (HR3.out.set 0 (chV B C)).set 1 (chV B D)
  have hc4 := ((Chg.refl (fun k => k = R) V3).setCell (p := ⟨R, 0, none⟩) (fun _ => rfl) (chV B C)).setCell (p := ⟨R, 1, none⟩) (fun _ => rfl) (chV B D)
  rw [HBe.out]
  refine bodyPost_ret (v := .agg #[chV B C, chV B D]) (results_arr rfl rfl hr Try.underlying78 rfl (by kernel_rfl)) rfl ?_
  exact ⟨B, C, D, rfl, hc4.kept HX3.out HN.out.1, hc4.kept HC3.out HCg.out.2.2, hc4.kept HD3.out HDR.out, (HB3.out.setCell HN.out.2.2.2.1 _).setCell HN.out.2.2.2.1 _⟩
/-- What a choice takes of an area, beside a generation that it was given. -/
def takesR (S : DS) (m area : Nat) (bg : Int) : Option (Nat × List UInt8) := match heldR S m with
  | some y => if y.1 % 2 = area ∧ ¬ (y.1 : Int) < bg then some y else none
  | none => none
def Chosen (B : Nat) (S : DS) (m area : Nat) (bg : Int) (bv : Value) (v : Value) (w : World) : Prop :=
  (∃ g l q c, takesR S m area bg = some (g, l) ∧ v = savedV (g : Nat) (.slice q l.length c) ∧ BsAt w q l.length c l ∧ ∀ x, q = some x → B ≤ x.block) ∨ (takesR S m area bg = none ∧ v = savedV bg bv)
/-! The region 's, ok := v.held(v.start(area))': what is known of the operations that were met. -/
def chSimple (i : Nat) : Bool := i == 0 || i == 1 || i == 2 || i == 3 || i == 7 || i == 10
def chVal (vb m area : Nat) (ok : Bool) (i : Nat) : Value := if i ≤ 1 then .pointer (some ⟨vb, 0, none⟩) else if i = 2 then .int .i64 (area : Int) else if i = 3 then .int .i64 (m : Int) else .bool ok
structure ChI (W0 : World) (vb m area : Nat) (hd : Option (Nat × List UInt8)) (L : Nat → Bool) (x : Nat → Value) (V : World) : Prop where
  below : Below W0.heap.size W0 V
  vals : ∀ i, chSimple i = true → L i = true → x i = chVal vb m area hd.isSome i
  v4 : L 4 = true → ∃ g q n c l, x 4 = .tuple #[savedV (g : Nat) (.slice q n c), .bool hd.isSome] ∧ BsAt V q n c l ∧ (∀ y, q = some y → W0.heap.size ≤ y.block) ∧ ∀ y, hd = some y → y = (g, l)
  v5 : L 5 = true → L 4 = true ∧ x 5 = x 4
  v6 : L 6 = true → L 5 = true ∧ ∀ u v, x 4 = .tuple #[u, v] → x 6 = u
  v8 : L 8 = true → W0.heap.size ≤ blkOf (x 8) ∧ x 8 = .pointer (some ⟨blkOf (x 8), 0, none⟩) ∧ (L 9 = false → Blk V (blkOf (x 8)) #[.int .i64 0, .slice none 0 0] 76) ∧ (L 9 = true → ∃ u1 u2, x 6 = .agg #[u1, u2] ∧ Blk V (blkOf (x 8)) #[u1, u2] 76)
  v9 : L 9 = true → L 8 = true ∧ L 6 = true
theorem ChI.start (W0 : World) (vb m area : Nat) (hd : Option (Nat × List UInt8)) (x : Nat → Value) : ChI W0 vb m area hd (fun _ => false) x W0 :=
  ⟨Below.refl _ _, (fun _ _ h => by cases h), (fun h => by cases h), (fun h => by cases h), (fun h => by cases h), (fun h => by cases h), (fun h => by cases h)⟩
theorem ChI.simple {W0 : World} {vb m area : Nat} {hd : Option (Nat × List UInt8)} {L : Nat → Bool} {x : Nat → Value} {V V' : World} (h : ChI W0 vb m area hd L x V) {i : Nat} (hi : chSimple i = true) (hB : Below V.heap.size V V') : ChI W0 vb m area hd (setL L i) (setX x i (chVal vb m area hd.isSome i)) V' := by
  have e4 : (4 : Nat) ≠ i := fun e => by subst e; cases hi
  have e5 : (5 : Nat) ≠ i := fun e => by subst e; cases hi
  have e6 : (6 : Nat) ≠ i := fun e => by subst e; cases hi
  have e8 : (8 : Nat) ≠ i := fun e => by subst e; cases hi
  have e9 : (9 : Nat) ≠ i := fun e => by subst e; cases hi
  refine ⟨h.below.trans (hB.mono h.below.size), fun j hj hl => ?_, fun hl => ?_, fun hl => ?_, fun hl => ?_, fun hl => ?_, fun hl => ?_⟩
  · by_cases e : j = i
    · subst e; rw [setX_same]
    · rw [setX_other _ e]; rw [setL_other e] at hl; exact h.vals j hj hl
  · rw [setL_other e4] at hl; rw [setX_other _ e4]
    obtain ⟨g, q, n, c, l, h1, h2, h3, h4⟩ := h.v4 hl
    exact ⟨g, q, n, c, l, h1, h2.below hB (Nat.le_refl _), h3, h4⟩
  · rw [setL_other e5] at hl; rw [setL_other e4, setX_other _ e4, setX_other _ e5]; exact h.v5 hl
  · rw [setL_other e6] at hl; rw [setL_other e5, setX_other _ e4, setX_other _ e6]; exact h.v6 hl
  · rw [setL_other e8] at hl; rw [setX_other _ e8, setL_other e9, setX_other _ e6]
    obtain ⟨h1, h2, h3, h4⟩ := h.v8 hl
    refine ⟨h1, h2, fun hn => (h3 hn).below hB (h3 hn).lt, fun hy => ?_⟩
    obtain ⟨u1, u2, h5, h6⟩ := h4 hy
    exact ⟨u1, u2, h5, h6.below hB h6.lt⟩
  · rw [setL_other e9] at hl; rw [setL_other e8, setL_other e6]; exact h.v9 hl
theorem ChI.held {W0 : World} {vb m area : Nat} {hd : Option (Nat × List UInt8)} {L : Nat → Bool} {x : Nat → Value} {V V' : World} (h : ChI W0 vb m area hd L x V) (hL : L 4 = false) (hB : Below V.heap.size V V') {u : Value}
    (hu : ∃ g q n c l, u = .tuple #[savedV (g : Nat) (.slice q n c), .bool hd.isSome] ∧ BsAt V' q n c l ∧ (∀ y, q = some y → V.heap.size ≤ y.block) ∧ ∀ y, hd = some y → y = (g, l)) : ChI W0 vb m area hd (setL L 4) (setX x 4 u) V' := by
  have n5 : L 5 = false := by
    cases hc : L 5 with
    | false => rfl
    | true => have := (h.v5 hc).1; rw [hL] at this; cases this
  have n6 : L 6 = false := by
    cases hc : L 6 with
    | false => rfl
    | true => have := (h.v6 hc).1; rw [n5] at this; cases this
  have n9 : L 9 = false := by
    cases hc : L 9 with
    | false => rfl
    | true => have := (h.v9 hc).2; rw [n6] at this; cases this
  refine ⟨h.below.trans (hB.mono h.below.size), fun j hj hl => ?_, fun hl => ?_, fun hl => ?_, fun hl => ?_, fun hl => ?_, fun hl => ?_⟩
  · have e : j ≠ 4 := fun e => by subst e; cases hj
    rw [setX_other _ e]; rw [setL_other e] at hl; exact h.vals j hj hl
  · rw [setX_same]
    obtain ⟨g, q, n, c, l, h1, h2, h3, h4⟩ := hu
    exact ⟨g, q, n, c, l, h1, h2, fun y hy => Nat.le_trans h.below.size (h3 y hy), h4⟩
  · rw [setL_other (by decide), n5] at hl; cases hl
  · rw [setL_other (by decide), n6] at hl; cases hl
  · rw [setL_other (by decide)] at hl; rw [setX_other _ (by decide), setL_other (by decide), setX_other _ (by decide)]
    obtain ⟨h1, h2, h3, h4⟩ := h.v8 hl
    exact ⟨h1, h2, fun hn => (h3 hn).below hB (h3 hn).lt, fun hy => by rw [n9] at hy; cases hy⟩
  · rw [setL_other (by decide), n9] at hl; cases hl
theorem ChI.moved {W0 : World} {vb m area : Nat} {hd : Option (Nat × List UInt8)} {L : Nat → Bool} {x : Nat → Value} {V : World} (h : ChI W0 vb m area hd L x V) (hL : L 4 = true) : ChI W0 vb m area hd (setL L 5) (setX x 5 (x 4)) V := by
  refine ⟨h.below, fun j hj hl => ?_, fun hl => ?_, fun hl => ?_, fun hl => ?_, fun hl => ?_, fun hl => ?_⟩
  · have e : j ≠ 5 := fun e => by subst e; cases hj
    rw [setX_other _ e]; rw [setL_other e] at hl; exact h.vals j hj hl
  · rw [setL_other (by decide)] at hl; rw [setX_other _ (by decide)]; exact h.v4 hl
  · rw [setL_other (by decide), setX_same, setX_other _ (by decide)]; exact ⟨hL, rfl⟩
  · rw [setL_other (by decide)] at hl; rw [setL_same, setX_other _ (by decide), setX_other _ (by decide)]; exact ⟨rfl, (h.v6 hl).2⟩
  · rw [setL_other (by decide)] at hl; rw [setX_other _ (by decide), setL_other (by decide), setX_other _ (by decide)]; exact h.v8 hl
  · rw [setL_other (by decide)] at hl; rw [setL_other (by decide), setL_other (by decide)]; exact h.v9 hl
theorem ChI.taken {W0 : World} {vb m area : Nat} {hd : Option (Nat × List UInt8)} {L : Nat → Bool} {x : Nat → Value} {V : World} (h : ChI W0 vb m area hd L x V) (hN : L 6 = false) (hL : L 5 = true) {u v : Value} (hx : x 4 = .tuple #[u, v]) : ChI W0 vb m area hd (setL L 6) (setX x 6 u) V := by
  have n9 : L 9 = false := by
    cases hc : L 9 with
    | false => rfl
    | true => have := (h.v9 hc).2; rw [hN] at this; cases this
  refine ⟨h.below, fun j hj hl => ?_, fun hl => ?_, fun hl => ?_, fun hl => ?_, fun hl => ?_, fun hl => ?_⟩
  · have e : j ≠ 6 := fun e => by subst e; cases hj
    rw [setX_other _ e]; rw [setL_other e] at hl; exact h.vals j hj hl
  · rw [setL_other (by decide)] at hl; rw [setX_other _ (by decide)]; exact h.v4 hl
  · rw [setL_other (by decide)] at hl; rw [setL_other (by decide), setX_other _ (by decide), setX_other _ (by decide)]; exact h.v5 hl
  · rw [setL_other (by decide), setX_other _ (by decide), setX_same]
    exact ⟨hL, fun a b hab => by rw [hx] at hab; cases hab; rfl⟩
  · rw [setL_other (by decide)] at hl; rw [setX_other _ (by decide), setL_other (by decide), setX_same]
    obtain ⟨h1, h2, h3, h4⟩ := h.v8 hl
    exact ⟨h1, h2, h3, fun hy => by rw [n9] at hy; cases hy⟩
  · rw [setL_other (by decide), n9] at hl; cases hl
theorem ChI.laid {W0 : World} {vb m area : Nat} {hd : Option (Nat × List UInt8)} {L : Nat → Bool} {x : Nat → Value} {V : World} (h : ChI W0 vb m area hd L x V) (hN : L 8 = false) : ChI W0 vb m area hd (setL L 8) (setX x 8 (.pointer (some ⟨V.heap.size, 0, none⟩))) (V.alloc (.cells #[.int .i64 0, .slice none 0 0] 76)) := by
  have hB := belowNew V (.cells #[.int .i64 0, .slice none 0 0] 76)
  have n9 : L 9 = false := by
    cases hc : L 9 with
    | false => rfl
    | true => have := (h.v9 hc).1; rw [hN] at this; cases this
  refine ⟨h.below.trans (hB.mono h.below.size), fun j hj hl => ?_, fun hl => ?_, fun hl => ?_, fun hl => ?_, fun hl => ?_, fun hl => ?_⟩
  · have e : j ≠ 8 := fun e => by subst e; cases hj
    rw [setX_other _ e]; rw [setL_other e] at hl; exact h.vals j hj hl
  · rw [setL_other (by decide)] at hl; rw [setX_other _ (by decide)]
    obtain ⟨g, q, n, c, l, h1, h2, h3, h4⟩ := h.v4 hl
    exact ⟨g, q, n, c, l, h1, h2.below hB (Nat.le_refl _), h3, h4⟩
  · rw [setL_other (by decide)] at hl; rw [setL_other (by decide), setX_other _ (by decide), setX_other _ (by decide)]; exact h.v5 hl
  · rw [setL_other (by decide)] at hl; rw [setL_other (by decide), setX_other _ (by decide), setX_other _ (by decide)]; exact h.v6 hl
  · rw [setX_same, setL_other (by decide), setX_other _ (by decide)]
    exact ⟨h.below.size, rfl, fun _ => Blk.new V _ _, fun hy => by rw [n9] at hy; cases hy⟩
  · rw [setL_other (by decide), n9] at hl; cases hl
/-- Bytes do not lie in a block of a number and a slice. -/
theorem bs_apart {V : World} {p : Option Addr} {n c g : Nat} {l : List UInt8} {z : Int} {p2 : Option Addr} {n2 c2 : Nat} {t : TypeId} (h : BsAt V p n c l) (hb : Blk V g #[.int .i64 z, .slice p2 n2 c2] t) (hl : l ≠ []) : ∀ x, p = some x → ¬ x.block = g := by
  rintro x rfl e
  rcases h.place with ⟨h1, -⟩ | ⟨h1, -⟩ | ⟨g2, off, h1, h2, h3⟩
  · cases h1
  · exact absurd h1 hl
  · cases h1
    simp only at e
    subst e
    have hpos : 0 < l.length := List.length_pos_iff.2 hl
    have h4 := h3 0 hpos
    rw [hb.cell] at h4
    rcases off with _ | _ | k <;> simp at h4
theorem ChI.stored {W0 : World} {vb m area : Nat} {hd : Option (Nat × List UInt8)} {L : Nat → Bool} {x : Nat → Value} {V V' : World} (h : ChI W0 vb m area hd L x V) (hN : L 9 = false) (hL : L 8 = true) (hL6 : L 6 = true) {u1 u2 u : Value} (hx : x 6 = .agg #[u1, u2]) (hp : Put V V' (blkOf (x 8)) #[u1, u2] 76) : ChI W0 vb m area hd (setL L 9) (setX x 9 u) V' := by
  obtain ⟨k1, k2, k3, -⟩ := h.v8 hL
  have hz := k3 hN
  refine ⟨h.below.trans (hp.chg.below h.below.size (fun k hk => by rw [hk]; exact k1)), fun j hj hl => ?_, fun hl => ?_, fun hl => ?_, fun hl => ?_, fun hl => ?_, fun hl => ?_⟩
  · have e : j ≠ 9 := fun e => by subst e; cases hj
    rw [setX_other _ e]; rw [setL_other e] at hl; exact h.vals j hj hl
  · rw [setL_other (by decide)] at hl; rw [setX_other _ (by decide)]
    obtain ⟨g, q, n, c, l, h1, h2, h3, h4⟩ := h.v4 hl
    exact ⟨g, q, n, c, l, h1, h2.chg2 hp.chg (fun y hy hne => bs_apart h2 hz hne y hy), h3, h4⟩
  · rw [setL_other (by decide)] at hl; rw [setL_other (by decide), setX_other _ (by decide), setX_other _ (by decide)]; exact h.v5 hl
  · rw [setL_other (by decide)] at hl; rw [setL_other (by decide), setX_other _ (by decide), setX_other _ (by decide)]; exact h.v6 hl
  · rw [setX_other _ (by decide), setL_same, setX_other _ (by decide)]
    exact ⟨k1, k2, (fun e => by cases e), fun _ => ⟨u1, u2, hx, hp.blk⟩⟩
  · rw [setL_other (by decide), setL_other (by decide)]; exact ⟨hL, hL6⟩

set_option maxRecDepth 100000 in
set_option maxHeartbeats 1600000 in
theorem vChoice_any {w : World} {vb db a B C area : Nat} {S : DS} {D : Nat → Prop} {bg : Int} {bp : Option Addr} {bn bc : Nat} (hx : Blk w B #[ptrV vb] 27) (hc : Blk w C #[.int .i64 (area : Int)] 3) (hV : Blk w vb (vltV db a) 58) (hA : theRel.At w db S D) (hok : DSOk S) (ho : S.off = false) (hm : a + 512 ≤ S.len) (har : area ≤ 1) :
    Calls Try.prog 48 #[savedV bg (.slice bp bn bc), .pointer (some ⟨B, 0, none⟩), .pointer (some ⟨C, 0, none⟩)] w fun e w' => ∃ v, e = .returned v ∧ Chosen w.heap.size S (a + 256 * area) area bg (.slice bp bn bc) v w' ∧ Below w.heap.size w w' := by
  have hfew := hok.few
  have HXc := Lib.hid (fun V (hV : Below w.heap.size w V) => (hx.below hV hx.lt).cell 0)
  have HCc := Lib.hid (fun V (hV : Below w.heap.size w V) => (hc.below hV hc.lt).cell 0)
  have HSt := Lib.hid (fun V (hB : Below w.heap.size w V) => vStart_any (w := V) (vb := vb) (a := a) area ((vlt_cells (hV.below hB hV.lt)).2) (by omega))
  have HHd := Lib.hid (fun V (hB : Below w.heap.size w V) => vHeld_any (w := V) (a + 256 * area) (hV.below hB hV.lt) (DiskRel.below hA hB) hok ho (by omega))
  have HB2 := Lib.hid (show Below w.heap.size w ((w.alloc (.cells #[.int .i64 bg, .slice bp bn bc] 76)).alloc (.cells #[.int .i64 0, .slice none 0 0] 76)) from (belowNew w _).alloc (by simp) _)
  have HP := Lib.hid (show Blk ((w.alloc (.cells #[.int .i64 bg, .slice bp bn bc] 76)).alloc (.cells #[.int .i64 0, .slice none 0 0] 76)) w.heap.size #[.int .i64 bg, .slice bp bn bc] 76 from (Blk.new w _ _).alloc _)
  have HR := Lib.hid (show Blk ((w.alloc (.cells #[.int .i64 bg, .slice bp bn bc] 76)).alloc (.cells #[.int .i64 0, .slice none 0 0] 76)) (w.heap.size + 1) #[.int .i64 0, .slice none 0 0] 76 by
    have := Blk.new (w.alloc (.cells #[.int .i64 bg, .slice bp bn bc] 76)) #[.int .i64 0, .slice none 0 0] 76
    rw [show (w.alloc (.cells #[.int .i64 bg, .slice bp bn bc] 76)).heap.size = w.heap.size + 1 by simp] at this
    exact this)
  have HAr := Lib.hid har
  have HTk := Lib.hid (show takesR S (a + 256 * area) area bg = match heldR S (a + 256 * area) with
    | some y => if y.1 % 2 = area ∧ ¬ (y.1 : Int) < bg then some y else none
    | none => none from rfl)
  clear hx hc hV hA hok ho hm har hfew
  generalize a + 256 * area = m at *
  unfold savedV ptrV at *
  go_enter Try.func48, Try.ntmps48
  go_upto_region 1 with fail
  generalize ((w.alloc (.cells #[.int .i64 bg, .slice bp bn bc] 76)).alloc (.cells #[.int .i64 0, .slice none 0 0] 76)) = W1 at *
  generalize hR : w.heap.size + 1 = R at *
  refine wp_region_I (ChI W1.drew vb m area (heldR S m)) (fun x => { tmps := #[.agg #[.int .i64 bg, .slice bp bn bc], .pointer (some ⟨B, 0, none⟩), .pointer (some ⟨C, 0, none⟩), .pointer (some ⟨w.heap.size, 0, none⟩), .pointer (some ⟨R, 0, none⟩), x 8, x 10, x 5, x 0, x 1, x 2, x 3, x 4, x 6, x 7, undef, undef, undef, undef, undef, undef, undef, undef, undef, undef, undef, undef, undef, undef, undef, undef, undef, undef], defers := [] }) (fun _ => undef) (by kernel_rfl) rfl (by kernel_rfl) (ChI.start _ _ _ _ _ _) ?_ ?_
  · refine ⟨⟨fun x v => rfl, fun L x V h hL hD => ?_⟩, ?_⟩
    · refine want_yes rfl ?_
      have k0 : V.cell? ⟨B, 0, none⟩ = some (.pointer (some ⟨vb, 0, none⟩)) := HXc.out V (HB2.out.drew.trans (h.below.mono HB2.out.size))
      exact leads_value (v := .pointer (some ⟨vb, 0, none⟩)) (by go_simp) (h.simple rfl (Below.refl _ _))
    refine ⟨⟨fun x v => rfl, fun L x V h hL hD => ?_⟩, ?_⟩
    · refine want_yes rfl ?_
      have k0 : V.cell? ⟨B, 0, none⟩ = some (.pointer (some ⟨vb, 0, none⟩)) := HXc.out V (HB2.out.drew.trans (h.below.mono HB2.out.size))
      exact leads_value (v := .pointer (some ⟨vb, 0, none⟩)) (by go_simp) (h.simple rfl (Below.refl _ _))
    refine ⟨⟨fun x v => rfl, fun L x V h hL hD => ?_⟩, ?_⟩
    · refine want_yes rfl ?_
      have k0 : V.cell? ⟨C, 0, none⟩ = some (.int .i64 (area : Int)) := HCc.out V (HB2.out.drew.trans (h.below.mono HB2.out.size))
      exact leads_value (v := .int .i64 (area : Int)) (by go_simp) (h.simple rfl (Below.refl _ _))
    refine ⟨⟨fun x v => rfl, fun L x V h hL hD => ?_⟩, ?_⟩
    · refine want_yes rfl ?_
      have e1 : x 1 = .pointer (some ⟨vb, 0, none⟩) := h.vals 1 rfl (hD.1 rfl)
      have e2 : x 2 = .int .i64 (area : Int) := h.vals 2 rfl (hD.2.1 rfl)
      exact leads_enter2 (by go_simp) ((HSt.out V (HB2.out.drew.trans (h.below.mono HB2.out.size))).mono fun en w'' ⟨he, hw⟩ => ⟨_, he, hw ▸ h.simple rfl (Below.refl _ _)⟩)
    refine ⟨⟨fun x v => rfl, fun L x V h hL hD => ?_⟩, ?_⟩
    · refine want_yes rfl ?_
      have e0 : x 0 = .pointer (some ⟨vb, 0, none⟩) := h.vals 0 rfl (hD.1 rfl)
      have e3 : x 3 = .int .i64 (m : Int) := h.vals 3 rfl (hD.2.1 rfl)
      exact leads_enter2 (by go_simp) ((HHd.out V (HB2.out.drew.trans (h.below.mono HB2.out.size))).mono fun en w'' ⟨v, he, ⟨g, q, n, c, l, hv, hb, hq, hy⟩, hB'⟩ => ⟨_, he, h.held hL hB' ⟨g, q, n, c, l, by rw [hv]; rfl, hb, hq, hy⟩⟩)
    refine ⟨⟨fun x v => rfl, fun L x V h hL hD => ?_⟩, ?_⟩
    · refine want_yes rfl ?_
      have hl4 : L 4 = true := hD.1 rfl
      clear hD
      exact leads_value (v := x 4) (by go_simp) (h.moved hl4)
    refine ⟨⟨fun x v => rfl, fun L x V h hL hD => ?_⟩, ?_⟩
    · refine want_yes rfl ?_
      have hl5 : L 5 = true := hD.1 rfl
      clear hD
      obtain ⟨hl4, e5⟩ := h.v5 hl5
      obtain ⟨g, q, n, c, l, e4, -⟩ := h.v4 hl4
      have e4' : x 4 = .tuple #[.agg #[.int .i64 (g : Int), .slice q n c], .bool (heldR S m).isSome] := e4
      have e := e5.trans e4'
      clear e4
      exact leads_value (v := .agg #[.int .i64 (g : Int), .slice q n c]) (by go_simp) (h.taken hL hl5 e4')
    refine ⟨⟨fun x v => rfl, fun L x V h hL hD => ?_⟩, ?_⟩
    · refine want_yes rfl ?_
      have hl5 : L 5 = true := hD.1 rfl
      clear hD
      obtain ⟨hl4, e5⟩ := h.v5 hl5
      obtain ⟨g, q, n, c, l, e4, -⟩ := h.v4 hl4
      have e : x 5 = .tuple #[.agg #[.int .i64 (g : Int), .slice q n c], .bool (heldR S m).isSome] := e5.trans e4
      exact leads_value (v := .bool (heldR S m).isSome) (by go_simp) (h.simple rfl (Below.refl _ _))
    refine ⟨⟨fun x v => rfl, fun L x V h hL hD => ?_⟩, ?_⟩
    · refine want_yes rfl ?_
      exact leads_value (v := .pointer (some ⟨V.heap.size, 0, none⟩)) (by go_simp) (h.laid hL)
    refine ⟨⟨fun x v => rfl, fun L x V h hL hD => ?_⟩, ?_⟩
    · refine want_yes rfl ?_
      have hl8 : L 8 = true := hD.1 rfl
      have hl6 : L 6 = true := hD.2.1 rfl
      clear hD
      obtain ⟨k1, k2, k3, -⟩ := h.v8 hl8
      obtain ⟨hl5, hx6⟩ := h.v6 hl6
      obtain ⟨hl4, -⟩ := h.v5 hl5
      obtain ⟨g, q, n, c, l, e4, -⟩ := h.v4 hl4
      have e6 : x 6 = .agg #[.int .i64 (g : Int), .slice q n c] := hx6 _ _ e4
      have hz := k3 hL
      refine leads_mono (leads_store_row (b := blkOf (x 8)) (new := #[.int .i64 (g : Int), .slice q n c]) rfl ?_ ?_ hz (by kernel_rfl) rfl (by simp [Value.oneCell'])) fun u V' hp => h.stored hL hl8 hl6 e6 ⟨⟨hp.os, hp.tape, hp.output, by rw [hp.size]; exact Nat.le_refl _, fun k _ hk => hp.other k hk⟩, hp.new⟩
      · generalize blkOf (x 8) = gb at *
        clear hz k3
        go_simp
      · clear hz k3 k2 e4 hx6
        go_simp
    refine ⟨⟨fun x v => rfl, fun L x V h hL hD => ?_⟩, ?_⟩
    · refine want_yes rfl ?_
      have e7 : x 7 = .bool (heldR S m).isSome := h.vals 7 rfl (hD.1 rfl)
      clear hD
      exact leads_value (v := .bool (heldR S m).isSome) (by go_simp) (h.simple rfl (Below.refl _ _))
    trivial
  · intro L x V hL hI
    have l4 := hL 4 (by decide)
    have l5 := hL 5 (by decide)
    have l6 := hL 6 (by decide)
    have l8 := hL 8 (by decide)
    have l9 := hL 9 (by decide)
    have l10 := hL 10 (by decide)
    obtain ⟨g, q, n, c, l, e4, hb, hq, hy⟩ := hI.v4 l4
    have e6 : x 6 = .agg #[.int .i64 (g : Int), .slice q n c] := (hI.v6 l6).2 _ _ e4
    have e10 : x 10 = .bool (heldR S m).isSome := hI.vals 10 rfl l10
    obtain ⟨k1, k2, -, k4⟩ := hI.v8 l8
    obtain ⟨u1, u2, k5, k6⟩ := k4 l9
    rw [e6] at k5
    cases k5
    have hBl := HB2.out.drew.trans (hI.below.mono HB2.out.size)
    have HBl := Lib.hid hBl
    have HSl := Lib.hid hb
    have HQ := Lib.hid (show ∀ y, q = some y → w.heap.size ≤ y.block from fun y hy => Nat.le_trans HB2.out.size (hq y hy))
    have HY := Lib.hid hy
    have HG := Lib.hid k6
    have HPV := Lib.hid (HP.out.below ((Below.refl W1.heap.size W1).drew.trans hI.below) HP.out.lt)
    have HRV := Lib.hid (HR.out.below ((Below.refl W1.heap.size W1).drew.trans hI.below) HR.out.lt)
    have HGl := Lib.hid (show R ≠ blkOf (x 8) from fun e => by have := HR.out.lt; have h2 : W1.heap.size ≤ blkOf (x 8) := k1; omega)
    have HRl := Lib.hid (show w.heap.size ≤ R by omega)
    have hcV := HCc.out V hBl
    rw [k2, e10]
    have g0 := HG.out.cell 0
    have g1 := HG.out.cell 1
    have p0 := HPV.out.cell 0
    have p1 := HPV.out.cell 1
    have r0 := HRV.out.cell 0
    have r1 := HRV.out.cell 1
    have rf0 := HRV.out.free 0
    have rf1 := HRV.out.free 1
    clear hL hI e4 hb hq hy e6 e10 k1 k2 k4 k6 l4 l5 l6 l8 l9 l10 hBl
    generalize blkOf (x 8) = G at *
    have HT := Lib.hid (show ∀ y, heldR S m = some y → takesR S m area bg = if g % 2 = area ∧ ¬ (g : Int) < bg then some (g, l) else none from fun y hy => by
      have e := HY.out y hy
      rw [HTk.out, hy, e])
    have HT0 := Lib.hid (show heldR S m = none → takesR S m area bg = none from fun h => by rw [HTk.out, h])
    clear HTk HY
    generalize x 0 = y0 at *
    generalize x 1 = y1 at *
    generalize x 2 = y2 at *
    generalize x 3 = y3 at *
    generalize x 4 = y4 at *
    generalize x 5 = y5 at *
    generalize x 6 = y6 at *
    generalize x 7 = y7 at *
    have c1 := calm_any (w := V) (fun W => (vAreaOf_any g W).mono fun e w' ⟨h1, h2⟩ => (⟨h1, h2 ▸ Below.refl _ _⟩ : e = Ending.returned (Value.int IntKind.i64 ((g % 2 : Nat) : Int)) ∧ Below W.heap.size W w'))
    cases hh : heldR S m with
    | none =>
      have HE := Lib.hid (HT0.out hh)
      clear hh HT HT0
      rw [show (none : Option (Nat × List UInt8)).isSome = false from rfl]
      go_wp2_with fail
      have q0 := cell_regrown hcV
      have q1 := cell_regrown g0
      have q2 := cell_regrown p0
      refine wp_region_quiet_below (by kernel_rfl) (by kernel_rfl) ?_
      repeat (first | go_big_quiet_skip | quiet_step (fail))
      refine wpQuiet_nil ?_
      intro _ hw'
      obtain ⟨⟨dq, osq⟩, hw''⟩ := hw'
      subst hw''
      have hb9 := below_regrown V dq osq
      have HB9 := Lib.hid (HBl.out.trans (hb9.mono HBl.out.size))
      have HG9 := Lib.hid (HG.out.below hb9 HG.out.lt)
      have HP9 := Lib.hid (HPV.out.below hb9 HPV.out.lt)
      have HR9 := Lib.hid (HRV.out.below hb9 HRV.out.lt)
      have HS9 := Lib.hid (HSl.out.below hb9 (Nat.le_refl _))
      clear q0 q1 q2 hb9 g0 g1 p0 p1 r0 r1 rf0 rf1 hcV HG HPV HRV HSl HBl
      generalize Sort.grow (redrawn V dq) osq = W9 at *
      have g0 := HG9.out.cell 0
      have g1 := HG9.out.cell 1
      have p0 := HP9.out.cell 0
      have p1 := HP9.out.cell 1
      have r0 := HR9.out.cell 0
      have r1 := HR9.out.cell 1
      have rf0 := HR9.out.free 0
      have rf1 := HR9.out.free 1
      go_wp2_with fail
      have hr := (HR9.out.set 0 (.int .i64 bg)).set 1 (.slice bp bn bc)
      have t0 := hr.cell 0
      have t1 := hr.cell 1
      simp at t0 t1
      have hB := (HB9.out.setCell (p := ⟨R, 0, none⟩) HRl.out (.int .i64 bg)).setCell (p := ⟨R, 1, none⟩) HRl.out (.slice bp bn bc)
      refine bodyPost_ret (v := .agg #[.int .i64 bg, .slice bp bn bc]) (by simp [results, Try.results48, go_sem, t0, t1]) rfl ?_
      exact ⟨_, rfl, .inr ⟨HE.out, rfl⟩, hB⟩
    | some y =>
      have HE0 := Lib.hid (HT.out y hh)
      clear hh HT HT0
      rw [show (some y).isSome = true from rfl]
      by_cases ha : g % 2 = area
      · have d1 : (((g % 2 : Nat) : Int) != (area : Int)) = false := by simp; omega
        by_cases hlt : (g : Int) < bg
        · have HE := Lib.hid (HE0.out.trans (if_neg (fun h => h.2 hlt)))
          have d2 : decide ((g : Int) < bg) = true := by simpa using hlt
          clear ha hlt HE0
          generalize g % 2 = ar at *
          go_wp2_with fail
          have q0 := cell_regrown hcV
          have q1 := cell_regrown g0
          have q2 := cell_regrown p0
          refine wp_region_quiet_below (by kernel_rfl) (by kernel_rfl) ?_
          repeat (first | go_big_quiet_skip | quiet_step (with_reducible exact c1 _ _))
          refine wpQuiet_nil ?_
          intro _ hw'
          obtain ⟨⟨dq, osq⟩, hw''⟩ := hw'
          subst hw''
          have hb9 := below_regrown V dq osq
          have HB9 := Lib.hid (HBl.out.trans (hb9.mono HBl.out.size))
          have HG9 := Lib.hid (HG.out.below hb9 HG.out.lt)
          have HP9 := Lib.hid (HPV.out.below hb9 HPV.out.lt)
          have HR9 := Lib.hid (HRV.out.below hb9 HRV.out.lt)
          have HS9 := Lib.hid (HSl.out.below hb9 (Nat.le_refl _))
          clear q0 q1 q2 hb9 g0 g1 p0 p1 r0 r1 rf0 rf1 hcV HG HPV HRV HSl HBl
          generalize Sort.grow (redrawn V dq) osq = W9 at *
          have g0 := HG9.out.cell 0
          have g1 := HG9.out.cell 1
          have p0 := HP9.out.cell 0
          have p1 := HP9.out.cell 1
          have r0 := HR9.out.cell 0
          have r1 := HR9.out.cell 1
          have rf0 := HR9.out.free 0
          have rf1 := HR9.out.free 1
          go_wp2_with fail
          have hr := (HR9.out.set 0 (.int .i64 bg)).set 1 (.slice bp bn bc)
          have t0 := hr.cell 0
          have t1 := hr.cell 1
          simp at t0 t1
          have hB := (HB9.out.setCell (p := ⟨R, 0, none⟩) HRl.out (.int .i64 bg)).setCell (p := ⟨R, 1, none⟩) HRl.out (.slice bp bn bc)
          refine bodyPost_ret (v := .agg #[.int .i64 bg, .slice bp bn bc]) (by simp [results, Try.results48, go_sem, t0, t1]) rfl ?_
          exact ⟨_, rfl, .inr ⟨HE.out, rfl⟩, hB⟩
        · have HE := Lib.hid (HE0.out.trans (if_pos ⟨ha, hlt⟩))
          have d2 : decide ((g : Int) < bg) = false := by simpa using hlt
          clear ha hlt HE0
          generalize g % 2 = ar at *
          go_wp2_with fail
          have q0 := cell_regrown hcV
          have q1 := cell_regrown g0
          have q2 := cell_regrown p0
          refine wp_region_quiet_below (by kernel_rfl) (by kernel_rfl) ?_
          repeat (first | go_big_quiet_skip | quiet_step (with_reducible exact c1 _ _))
          refine wpQuiet_nil ?_
          intro _ hw'
          obtain ⟨⟨dq, osq⟩, hw''⟩ := hw'
          subst hw''
          have hb9 := below_regrown V dq osq
          have HB9 := Lib.hid (HBl.out.trans (hb9.mono HBl.out.size))
          have HG9 := Lib.hid (HG.out.below hb9 HG.out.lt)
          have HP9 := Lib.hid (HPV.out.below hb9 HPV.out.lt)
          have HR9 := Lib.hid (HRV.out.below hb9 HRV.out.lt)
          have HS9 := Lib.hid (HSl.out.below hb9 (Nat.le_refl _))
          clear q0 q1 q2 hb9 g0 g1 p0 p1 r0 r1 rf0 rf1 hcV HG HPV HRV HSl HBl
          generalize Sort.grow (redrawn V dq) osq = W9 at *
          have g0 := HG9.out.cell 0
          have g1 := HG9.out.cell 1
          have p0 := HP9.out.cell 0
          have p1 := HP9.out.cell 1
          have r0 := HR9.out.cell 0
          have r1 := HR9.out.cell 1
          have rf0 := HR9.out.free 0
          have rf1 := HR9.out.free 1
          go_wp2_with fail
          have hr := (HR9.out.set 0 (.int .i64 (g : Int))).set 1 (.slice q n c)
          have t0 := hr.cell 0
          have t1 := hr.cell 1
          simp at t0 t1
          have hB := (HB9.out.setCell (p := ⟨R, 0, none⟩) HRl.out (.int .i64 (g : Int))).setCell (p := ⟨R, 1, none⟩) HRl.out (.slice q n c)
          have hc := ((Chg.refl (fun k => k = R) W9).setCell (p := ⟨R, 0, none⟩) (fun _ => rfl) (.int .i64 (g : Int))).setCell (p := ⟨R, 1, none⟩) (fun _ => rfl) (.slice q n c)
          have hbs := HS9.out.chg2 hc (fun y hy hne => bs_apart HS9.out HR9.out hne y hy)
          have hln := hbs.same
          refine bodyPost_ret (v := .agg #[.int .i64 (g : Int), .slice q n c]) (by simp [results, Try.results48, go_sem, t0, t1]) rfl ?_
          subst hln
          exact ⟨_, rfl, .inl ⟨g, l, q, c, HE.out, rfl, hbs, HQ.out⟩, hB⟩
      · have HE := Lib.hid (HE0.out.trans (if_neg (fun h => ha h.1)))
        have d1 : (((g % 2 : Nat) : Int) != (area : Int)) = true := by simp; omega
        clear ha HE0
        generalize g % 2 = ar at *
        go_wp2_with fail
        have q0 := cell_regrown hcV
        have q1 := cell_regrown g0
        have q2 := cell_regrown p0
        refine wp_region_quiet_below (by kernel_rfl) (by kernel_rfl) ?_
        repeat (first | go_big_quiet_skip | quiet_step (with_reducible exact c1 _ _))
        refine wpQuiet_nil ?_
        intro _ hw'
        obtain ⟨⟨dq, osq⟩, hw''⟩ := hw'
        subst hw''
        have hb9 := below_regrown V dq osq
        have HB9 := Lib.hid (HBl.out.trans (hb9.mono HBl.out.size))
        have HG9 := Lib.hid (HG.out.below hb9 HG.out.lt)
        have HP9 := Lib.hid (HPV.out.below hb9 HPV.out.lt)
        have HR9 := Lib.hid (HRV.out.below hb9 HRV.out.lt)
        have HS9 := Lib.hid (HSl.out.below hb9 (Nat.le_refl _))
        clear q0 q1 q2 hb9 g0 g1 p0 p1 r0 r1 rf0 rf1 hcV HG HPV HRV HSl HBl
        generalize Sort.grow (redrawn V dq) osq = W9 at *
        have g0 := HG9.out.cell 0
        have g1 := HG9.out.cell 1
        have p0 := HP9.out.cell 0
        have p1 := HP9.out.cell 1
        have r0 := HR9.out.cell 0
        have r1 := HR9.out.cell 1
        have rf0 := HR9.out.free 0
        have rf1 := HR9.out.free 1
        go_wp2_with fail
        have hr := (HR9.out.set 0 (.int .i64 bg)).set 1 (.slice bp bn bc)
        have t0 := hr.cell 0
        have t1 := hr.cell 1
        simp at t0 t1
        have hB := (HB9.out.setCell (p := ⟨R, 0, none⟩) HRl.out (.int .i64 bg)).setCell (p := ⟨R, 1, none⟩) HRl.out (.slice bp bn bc)
        refine bodyPost_ret (v := .agg #[.int .i64 bg, .slice bp bn bc]) (by simp [results, Try.results48, go_sem, t0, t1]) rfl ?_
        exact ⟨_, rfl, .inr ⟨HE.out, rfl⟩, hB⟩

/-! What is loaded. -/
theorem takes_first (S : DS) (m area : Nat) : takesR S m area (-1) = match heldR S m with
    | some y => if y.1 % 2 = area then some y else none
    | none => none := by
  unfold takesR
  cases heldR S m with
  | none => rfl
  | some y =>
    simp only
    by_cases h : y.1 % 2 = area
    · rw [if_pos ⟨h, by omega⟩, if_pos h]
    · rw [if_neg (fun k => h k.1), if_neg h]
theorem imgL_inj {x y b : List UInt8} {g : Nat} (hx : x.length = 128) : (x ++ y = imgL g b) ↔ (x = vheadL g b ∧ y = fillL b) := by
  unfold imgL
  constructor
  · intro h
    exact List.append_inj h (by rw [hx, vheadL_length])
  · rintro ⟨rfl, rfl⟩; rfl
theorem runL_split (S : DS) (m n : Nat) : runL S m (1 + n) = blockL S m ++ segL S m (128 * n) := by
  unfold runL blockL segL
  rw [show 128 * (1 + n) = 128 + 128 * n by omega, List.take_add, List.drop_drop, show 128 * m + 128 = 128 * (m + 1) by omega]
theorem segL_length {S : DS} (hok : DSOk S) {m n : Nat} (hm : m + 256 ≤ S.len) (hn : n ≤ 32640) : (segL S m n).length = n := by
  have := hok.len
  unfold segL; rw [List.length_take, List.length_drop]; omega
theorem has_held {S : DS} (hok : DSOk S) {m : Nat} (hm : m + 256 ≤ S.len) (odd : Nat) : hasV S m odd = match heldR S m with
    | some y => if y.1 % 2 = odd then some y else none
    | none => none := by
  have hbl : (blockL S m).length = 128 := vblock_128 hok (by omega)
  unfold heldR toldR
  by_cases he : (frR 86 (blockL S m)).e = 0
  case neg =>
    rw [if_neg (fun h => he h.1)]
    unfold hasV
    rw [if_neg (fun h => he h.1.1)]
  case pos =>
    obtain ⟨hg, hg2⟩ := frR_gen he
    by_cases hp : 4 ≤ (frR 86 (blockL S m)).pay.length ∧ valB ((frR 86 (blockL S m)).pay.take 4) ≤ 32640
    case neg =>
      rw [if_neg (fun h => hp h.2)]
      unfold hasV
      rw [if_neg]
      rintro ⟨⟨-, -, h8, hs⟩, hq, -, -⟩
      refine hp ⟨by omega, ?_⟩
      have hb : blkN (sizeA S m) ≤ 255 := by have : (frR 86 (blockL S m)).seq = ((blkN (sizeA S m) : Nat) : Int) := hq; omega
      exact blk_size hb
    case pos =>
      rw [if_pos ⟨he, hp⟩]
      simp only
      have hz : valB ((frR 86 (blockL S m)).pay.take 4) = sizeA S m := rfl
      rw [hz] at hp ⊢
      have hsl := segL_length hok hm hp.2
      rw [runL_split]
      by_cases hi : blockL S m ++ segL S m (128 * blkN (sizeA S m)) = imgL (frR 86 (blockL S m)).gen.toNat (segL S m (sizeA S m))
      case neg =>
        rw [if_neg hi]
        unfold hasV
        rw [if_neg]
        rintro ⟨-, -, h1, h2⟩
        exact hi ((imgL_inj hbl).2 ⟨h2.symm, h1.symm⟩)
      case pos =>
        rw [if_pos hi]
        simp only
        obtain ⟨h1, h2⟩ := (imgL_inj hbl).1 hi
        have hb255 : blkN (sizeA S m) ≤ 255 := by unfold blkN; omega
        have hr := vheadL_read (g := (frR 86 (blockL S m)).gen.toNat) (b := segL S m (sizeA S m)) hg2 (by rw [hsl]; exact hb255)
        rw [← h1, hsl] at hr
        unfold hasV
        by_cases ho : (frR 86 (blockL S m)).gen.toNat % 2 = odd
        · rw [if_pos ho, if_pos]
          refine ⟨⟨he, by rw [hg]; omega, by rw [hr]; exact payL_length _, by rw [hr]; simp only; omega⟩, by rw [hr], h2.symm, h1.symm⟩
        · rw [if_neg ho, if_neg]
          rintro ⟨⟨-, h3, -, -⟩, -⟩
          rw [hg] at h3
          omega
def gOf (o : Option (Nat × List UInt8)) : Int := match o with
  | some y => (y.1 : Int)
  | none => -1
def orR (x o : Option (Nat × List UInt8)) : Option (Nat × List UInt8) := match x with
  | some y => some y
  | none => o
def BestIs (B : Nat) (w : World) (o : Option (Nat × List UInt8)) (q : Option Addr) (n c : Nat) : Prop := match o with
  | some y => n = y.2.length ∧ BsAt w q n c y.2 ∧ ∀ x, q = some x → B ≤ x.block
  | none => q = none ∧ n = 0 ∧ c = 0
theorem BestIs.below {B : Nat} {w w' : World} {o : Option (Nat × List UInt8)} {q : Option Addr} {n c : Nat} (h : BestIs B w o q n c) (hB : Below w.heap.size w w') : BestIs B w' o q n c := by
  cases o with
  | none => exact h
  | some y => exact ⟨h.1, h.2.1.below hB (Nat.le_refl _), h.2.2⟩
theorem chosen_best {B : Nat} {S : DS} {m area : Nat} {o : Option (Nat × List UInt8)} {w w' : World} {p : Option Addr} {n c : Nat} {v : Value} (hs : B ≤ w.heap.size) (hb : BestIs B w o p n c) (hB : Below w.heap.size w w') (h : Chosen w.heap.size S m area (gOf o) (.slice p n c) v w') :
    ∃ q k d, v = .agg #[.int .i64 (gOf (orR (takesR S m area (gOf o)) o)), .slice q k d] ∧ BestIs B w' (orR (takesR S m area (gOf o)) o) q k d := by
  rcases h with ⟨g, l, q, d, h1, rfl, h2, h3⟩ | ⟨h1, rfl⟩
  · rw [h1]
    exact ⟨q, l.length, d, rfl, rfl, h2, fun x hx => Nat.le_trans hs (h3 x hx)⟩
  · rw [h1]
    exact ⟨p, n, c, rfl, hb.below hB⟩
theorem load_pickR {S : DS} (hok : DSOk S) {a : Nat} (hm : a + 512 ≤ S.len) : pickL (hasV S a 0) (hasV S (a + 256) 1) =
    match orR (takesR S (a + 256 * 1) 1 (gOf (takesR S (a + 256 * 0) 0 (-1)))) (takesR S (a + 256 * 0) 0 (-1)) with
    | some y => ⟨y.1, y.2, 0⟩
    | none => ⟨0, [], 6⟩ := by
  rw [show a + 256 * 0 = a by omega, show a + 256 * 1 = a + 256 by omega, takes_first, ← has_held hok (by omega) 0]
  have h1 := has_held hok (show a + 256 + 256 ≤ S.len by omega) 1
  cases h0 : hasV S a 0 with
  | none =>
    rw [show gOf none = -1 from rfl, takes_first, ← h1]
    cases hasV S (a + 256) 1 with
    | none => rfl
    | some y => rfl
  | some x =>
    have hx : x.1 % 2 = 0 := by
      have := has_held hok (show a + 256 ≤ S.len by omega) 0
      rw [h0] at this
      cases hh : heldR S a with
      | none => rw [hh] at this; cases this
      | some y =>
        rw [hh] at this
        simp only at this
        split at this
        · cases this; assumption
        · cases this
    rw [h1]
    obtain ⟨z, hz⟩ : ∃ z, z = gOf (some x) := ⟨_, rfl⟩
    rw [← hz]
    replace hz : z = (x.1 : Int) := hz
    unfold takesR
    cases hh : heldR S (a + 256) with
    | none => rfl
    | some y =>
      simp only
      by_cases ho : y.1 % 2 = 1
      · rw [if_pos ho]
        simp only [pickL]
        by_cases hl : x.1 < y.1
        · rw [if_pos hl, if_pos ⟨ho, by omega⟩]; rfl
        · rw [if_neg hl, if_neg (fun k => by have := k.2; omega)]; rfl
      · rw [if_neg ho, if_neg (fun k => ho k.1)]; rfl

theorem run_index_ch {x y : Value} {k : Nat} {z : Value} (h : #[x, y][k]? = some z) (hk : k < 2) (w : World) : (Instr.index 78 (.agg #[x, y]) (.int .i64 (k : Int))).run Try.prog w = .ok z w := by
  have h2 : (k : Int) < 2 := by omega
  obtain ⟨i, hi, -⟩ := Option.map_eq_some_iff.1 (show (Try.prog.info? 77).map (·.size) = some 1 by kernel_rfl)
  simp only [Instr.index, asIntOf, Sem.run_bind, Sem.run_pure, Result.andThen_ok, run_underlying Try.underlying78]
  rw [if_pos ⟨Int.natCast_nonneg k, h2⟩]
  simp only [Sem.run_bind, run_sizeOf w hi, Result.andThen_ok, show Try.prog.cellsOf 77 = 1 by kernel_rfl, Nat.mul_one, Int.toNat_natCast]
  simp [part, isAgg, run_underlying Try.underlying77, h]
theorem orR_none (x : Option (Nat × List UInt8)) : orR x none = x := by cases x <;> rfl
theorem best_store {B : Nat} {w w' : World} {o : Option (Nat × List UInt8)} {q : Option Addr} {n c P : Nat} {z : Int} {p2 : Option Addr} {n2 c2 : Nat} {t : TypeId} (h : BestIs B w o q n c) (hp : Blk w P #[.int .i64 z, .slice p2 n2 c2] t) (hc : Chg (fun k => k = P) w w') : BestIs B w' o q n c := by
  cases o with
  | none => exact h
  | some y => exact ⟨h.1, h.2.1.chg2 hc (fun x hx hne => bs_apart h.2.1 hp hne x hx), h.2.2⟩
set_option maxRecDepth 100000 in
set_option maxHeartbeats 1600000 in
theorem vLoad_any : VLoadC theRel theVlt := by
  intro w vb db S a F h
  have hok := h.ok
  have hm := h.fits
  obtain ⟨D, G, hA, ⟨hV, hG⟩, hdg, hF⟩ := h.ex
  obtain ⟨k0, k1⟩ := vlt_cells hV
  have HM := Lib.hid (vMade_any k0)
  have HOn := Lib.hid (dOn_any hA)
  cases ho : S.off with
  | true =>
    have HE := Lib.hid (show loadR S a = ⟨0, [], 19⟩ by unfold loadR; rw [if_pos ho])
    rw [ho] at HOn
    clear h hok hm hA hV hG hdg hF ho k1
    unfold ptrV at *
    go_enter Try.func21, Try.ntmps21
    go_wp2_with fail
    with_reducible refine HM.out.mono ?_
    rintro e w1 ⟨rfl, rfl⟩
    go_wp2_with fail
    refine HOn.out.mono ?_
    rintro e w2 ⟨rfl, hB2⟩
    have HB2 := Lib.hid hB2
    clear hB2
    go_wp2_with fail
    refine bodyPost_ret (results_tmp3 rfl _ _ _) rfl ?_
    exact ⟨none, 0, by rw [HE.out]; rfl, by rw [HE.out]; exact bsAt_nil _, (fun x hx => by cases hx), HB2.out⟩
  | false =>
    have HE := Lib.hid (show loadR S a = _ from (by unfold loadR; rw [if_neg (by rw [ho]; decide)] : loadR S a = pickL (hasV S a 0) (hasV S (a + 256) 1)).trans (load_pickR hok hm))
    rw [ho] at HOn
    have HCh := Lib.hid (fun V (hB : Below w.heap.size w V) (B C area : Nat) (hx : Blk V B #[ptrV vb] 27) (hc : Blk V C #[.int .i64 (area : Int)] 3) (har : area ≤ 1) (bg : Int) (bp : Option Addr) (bn bc : Nat) =>
      vChoice_any (w := V) (bg := bg) (bp := bp) (bn := bn) (bc := bc) hx hc (hV.below hB hV.lt) (DiskRel.below hA hB) hok ho hm har)
    have HCs := Lib.hid (fun V => vChoices_any (w := V) (vb := vb))
    have k0' := Lib.hid k0
    clear h hok hm hA hV hG hdg hF ho k1
    unfold ptrV at *
    go_enter Try.func21, Try.ntmps21
    go_wp2_with fail
    with_reducible refine HM.out.mono ?_
    rintro e w1 ⟨rfl, rfl⟩
    go_wp2_with fail
    refine HOn.out.mono ?_
    rintro e w2 ⟨rfl, hB2⟩
    have HB2 := Lib.hid hB2
    clear hB2
    go_wp2_with fail
    have HB2a := Lib.hid (HB2.out.alloc HB2.out.size (.cells #[.int .i64 (-1), .slice none 0 0] 76))
    have HP2 := Lib.hid (Blk.new w2 #[.int .i64 (-1), .slice none 0 0] 76)
    have HPl := Lib.hid (show w.heap.size ≤ w2.heap.size from HB2.out.size)
    refine (HCs.out _).mono ?_
    rintro e w3 ⟨B, C, D2, rfl, hX3, hC3, hD3, hB3⟩
    have HB3 := Lib.hid (HB2a.out.trans (hB3.mono HB2a.out.size))
    have HP3 := Lib.hid (HP2.out.below hB3 HP2.out.lt)
    have HX3 := Lib.hid hX3
    have HC3 := Lib.hid hC3
    have HD3 := Lib.hid hD3
    clear hX3 hC3 hD3 hB3 HB2a HP2 HB2 HCs
    generalize w2.heap.size = P at *
    have hi0 := fun V => run_index_ch (x := chV B C) (y := chV B D2) (k := 0) rfl (by decide) V
    have hi1 := fun V => run_index_ch (x := chV B C) (y := chV B D2) (k := 1) rfl (by decide) V
    rw [show ((0 : Nat) : Int) = 0 from rfl] at hi0
    rw [show ((1 : Nat) : Int) = 1 from rfl] at hi1
    unfold chV at *
    have p0 := HP3.out.cell 0
    have p1 := HP3.out.cell 1
    have hc3 := HCh.out w3 HB3.out B C 0 HX3.out HC3.out (by decide) (-1) none 0 0
    unfold savedV at hc3 HCh
    go_wp2_with fail
    refine wp_loop_rounds 3 ?_
    rw [rounds_succ]
    go_wp2_with fail
    refine hc3.mono ?_
    rintro e w4 ⟨v4, rfl, hch, hB4⟩
    obtain ⟨q4, n4, d4, rfl, hb4⟩ := chosen_best (B := w.heap.size) (o := none) HB3.out.size ⟨rfl, rfl, rfl⟩ hB4 hch
    rw [orR_none, show gOf none = -1 from rfl]
    rw [orR_none, show gOf none = -1 from rfl] at hb4
    have HB4 := Lib.hid (HB3.out.trans (hB4.mono HB3.out.size))
    have HP4 := Lib.hid (HP3.out.below hB4 HP3.out.lt)
    have HX4 := Lib.hid (HX3.out.below hB4 HX3.out.lt)
    have HD4 := Lib.hid (HD3.out.below hB4 HD3.out.lt)
    have HB4s := Lib.hid hb4
    have HPn := Lib.hid (show B ≠ P ∧ D2 ≠ P from ⟨fun e => by have h1 := HX3.out; have h2 := HP3.out; rw [e] at h1; unfold Blk at h1 h2; rw [h1] at h2; simp at h2, fun e => by have h1 := HD3.out; have h2 := HP3.out; rw [e] at h1; unfold Blk at h1 h2; rw [h1] at h2; simp at h2⟩)
    clear hch hb4 hB4 p0 p1 HP3 HX3 HC3 HD3 hc3 HB3
    generalize takesR S (a + 256 * 0) 0 (-1) = o1 at *
    generalize hg1 : gOf o1 = g1 at *
    have HG1 := Lib.hid hg1
    clear hg1
    have p0 := HP4.out.cell 0
    have p1 := HP4.out.cell 1
    have f0 := HP4.out.free 0
    have f1 := HP4.out.free 1
    go_wp2_with fail
    obtain ⟨w5, hw5⟩ : ∃ w5, w5 = (w4.setCell ⟨P, 0, none⟩ (.int .i64 g1)).setCell ⟨P, 1, none⟩ (.slice q4 n4 d4) := ⟨_, rfl⟩
    have hc5 : Chg (fun k => k = P) w4 w5 := hw5 ▸ ((Chg.refl (fun k => k = P) w4).setCell (p := ⟨P, 0, none⟩) (fun _ => rfl) _).setCell (p := ⟨P, 1, none⟩) (fun _ => rfl) _
    have HP5 := Lib.hid (show Blk w5 P #[.int .i64 g1, .slice q4 n4 d4] 76 from hw5 ▸ (HP4.out.set 0 (.int .i64 g1)).set 1 (.slice q4 n4 d4))
    have HB5s := Lib.hid (best_store HB4s.out HP4.out hc5)
    have HX5 := Lib.hid (hc5.kept HX4.out HPn.out.1)
    have HD5 := Lib.hid (hc5.kept HD4.out HPn.out.2)
    have HB5 := Lib.hid (HB4.out.trans (hc5.below (B := w.heap.size) HB4.out.size (fun k hk => by rw [hk]; exact HPl.out)))
    rw [← hw5]
    clear hw5 hc5 HP4 HB4s HX4 HD4 HB4 p0 p1 f0 f1
    have p0 := HP5.out.cell 0
    have p1 := HP5.out.cell 1
    have hc6 := HCh.out w5 HB5.out B D2 1 HX5.out HD5.out (by decide) g1 q4 n4 d4
    rw [rounds_succ]
    go_wp2_with fail
    refine hc6.mono ?_
    rintro e w6 ⟨v6, rfl, hch, hB6⟩
    rw [← HG1.out] at hch
    obtain ⟨q6, n6, d6, rfl, hb6⟩ := chosen_best (B := w.heap.size) (o := o1) HB5.out.size HB5s.out hB6 hch
    have HB6 := Lib.hid (HB5.out.trans (hB6.mono HB5.out.size))
    have HP6 := Lib.hid (HP5.out.below hB6 HP5.out.lt)
    have HB6s := Lib.hid hb6
    clear hch hb6 hB6 p0 p1 HP5 HX5 HD5 hc6 HB5 HB5s
    rw [← HG1.out] at HE
    generalize orR (takesR S (a + 256 * 1) 1 (gOf o1)) o1 = o2 at *
    generalize hg2 : gOf o2 = g2 at *
    have HG2 := Lib.hid hg2
    clear hg2 HCh hi0 hi1
    have p0 := HP6.out.cell 0
    have p1 := HP6.out.cell 1
    have f0 := HP6.out.free 0
    have f1 := HP6.out.free 1
    go_wp2_with fail
    obtain ⟨w7, hw7⟩ : ∃ w7, w7 = (w6.setCell ⟨P, 0, none⟩ (.int .i64 g2)).setCell ⟨P, 1, none⟩ (.slice q6 n6 d6) := ⟨_, rfl⟩
    have hc7 : Chg (fun k => k = P) w6 w7 := hw7 ▸ ((Chg.refl (fun k => k = P) w6).setCell (p := ⟨P, 0, none⟩) (fun _ => rfl) _).setCell (p := ⟨P, 1, none⟩) (fun _ => rfl) _
    have HP7 := Lib.hid (show Blk w7 P #[.int .i64 g2, .slice q6 n6 d6] 76 from hw7 ▸ (HP6.out.set 0 (.int .i64 g2)).set 1 (.slice q6 n6 d6))
    have HB7s := Lib.hid (best_store HB6s.out HP6.out hc7)
    have HB7 := Lib.hid (HB6.out.trans (hc7.below (B := w.heap.size) HB6.out.size (fun k hk => by rw [hk]; exact HPl.out)))
    rw [← hw7]
    clear hw7 hc7 HP6 HB6s HB6 p0 p1 f0 f1
    have p0 := HP7.out.cell 0
    have p1 := HP7.out.cell 1
    cases o2 with
    | none =>
      obtain rfl : g2 = -1 := HG2.out.symm
      rw [rounds_succ]
      go_wp2_with fail
      refine bodyPost_ret (results_tmp3 rfl _ _ _) rfl ?_
      rw [HE.out]
      exact ⟨none, 0, rfl, bsAt_nil _, (fun x hx => by cases hx), HB7.out⟩
    | some y =>
      obtain rfl : (y.1 : Int) = g2 := HG2.out
      have d1 : ((y.1 : Int) == -1) = false := by simp
      rw [rounds_succ]
      go_wp2_with fail
      have q0 := cell_regrown p0
      have q1 := cell_regrown p1
      refine wp_region_quiet_below (by kernel_rfl) (by kernel_rfl) ?_
      repeat (quiet_step (fail))
      refine wpQuiet_nil ?_
      intro _ hw'
      obtain ⟨⟨dq, osq⟩, hw''⟩ := hw'
      subst hw''
      have hb9 := below_regrown w7 dq osq
      have HB9 := Lib.hid (HB7.out.trans (hb9.mono HB7.out.size))
      have HB9s := Lib.hid (HB7s.out.below hb9)
      clear q0 q1 p0 p1 hb9 HB7 HB7s HP7
      generalize Sort.grow (redrawn w7 dq) osq = w9 at *
      go_wp2_with fail
      refine bodyPost_ret (results_tmp3 rfl _ _ _) rfl ?_
      rw [HE.out]
      obtain ⟨h1, h2, h3⟩ := HB9s.out
      subst h1
      exact ⟨q6, d6, rfl, h2, h3, HB9.out⟩
end Go.Proofs.Ytbmcajhknohhdaa

/-! PlainArg -/
namespace Go.Proofs.Ytbmcajhknohhdaa
theorem ownP : ownKnob Try.prog.godebug = none := by kernel_rfl
end Go.Proofs.Ytbmcajhknohhdaa

/-! ByteArg -/
namespace Go.Proofs.Ytbmcajhknohhdaa
open Go.ChangeShapes Go.WideShapes Go.ChangeAt Go.RowKit Go.Deep

theorem cellsBytP : Try.prog.cellsOf 5 = 1 := by kernel_rfl
theorem i64_wf {z : Int} (h : (Lit.int .i64 z).wf = true) : -9223372036854775808 ≤ z ∧ z ≤ 9223372036854775807 := by
  have b1 : IntKind.i64.min = -9223372036854775808 := rfl
  have b2 : IntKind.i64.max = 9223372036854775807 := rfl
  simp only [Lit.wf, Bool.and_eq_true, decide_eq_true_eq] at h
  omega
theorem u32_of_wf {z : Int} (h : (Lit.int .u32 z).wf = true) : ∃ n : Nat, z = (n : Int) ∧ n < 4294967296 := by
  have b1 : IntKind.u32.min = 0 := rfl
  have b2 : IntKind.u32.max = 4294967295 := rfl
  simp only [Lit.wf, Bool.and_eq_true, decide_eq_true_eq] at h
  exact ⟨z.toNat, by omega, by omega⟩
theorem plain_addr {a : Addr} (h : a.spot = none) (n : Nat) : a.add n = ⟨a.block, a.off + n, none⟩ := by
  obtain ⟨b, o, s⟩ := a
  simp only at h
  subst h
  unfold Addr.add; split <;> simp_all
theorem choose_parts {α : Type} {n : Nat} {P : Nat → α → Prop} (d : α) (h : ∀ i, i < n → ∃ q, P i q) : ∃ q : Nat → α, ∀ i, i < n → P i (q i) := by
  refine ⟨fun i => if hi : i < n then Classical.choose (h i hi) else d, fun i hi => ?_⟩
  simp only [dif_pos hi]
  exact Classical.choose_spec (h i hi)

set_option maxRecDepth 100000 in
theorem bytes_of_arg {H : Type} {enc : TypeId × Value → H} {W : World} {a0 : Option Addr} {len cap : Nat} {d : DataW H} {p : List MemPlace}
    (h : DataW.Trod enc Try.prog W 0 (fun _ => true) true 31 (.slice a0 len cap) d p) : ∃ l : List UInt8, BsAt W a0 len cap l := by
  obtain ⟨fuel, hf⟩ := h
  rcases open_slice Try.underlying31 hf with ⟨hcs, hx⟩ | ⟨a, len', cap', m, n, D, Pl, hcs, hb, hl, hm, hmm, hx, hi⟩
  · simp [Value.cells] at hcs
    obtain ⟨rfl, rfl, rfl⟩ := hcs
    exact ⟨[], bsAt_nil W⟩
  · simp [Value.cells] at hcs
    obtain ⟨rfl, rfl, rfl⟩ := hcs
    simp only [if_true] at hmm
    have each : ∀ i, i < len → ∃ q : UInt8, W.cell? (a.add i) = some (.int .u8 (q.toNat : Int)) := by
      intro i hil
      obtain ⟨cs', h1, h2⟩ := hi i (by omega)
      rw [cellsBytP, Nat.mul_one] at h1
      obtain ⟨_, hlen, hcell⟩ := World.cells?_some h1
      obtain ⟨z, e0, _, wz⟩ := DataW.trod_int Try.underlying5 h2
      have b1 : IntKind.u8.min = 0 := rfl
      have b2 : IntKind.u8.max = 255 := rfl
      simp only [Lit.wf, Bool.and_eq_true, decide_eq_true_eq] at wz
      have hc := hcell 0 (by omega)
      rw [add_add, e0] at hc
      obtain ⟨k, rfl⟩ := Int.eq_ofNat_of_zero_le (show 0 ≤ z by omega)
      refine ⟨UInt8.ofNat k, ?_⟩
      rw [Nat.add_zero] at hc
      rw [hc]
      simp
      omega
    obtain ⟨q, hq⟩ := choose_parts (0 : UInt8) each
    refine ⟨(List.range len).map q, by simp, hl, hm, ?_⟩
    by_cases hc0 : 0 < len
    · have hspot : a.spot = none := by simpa [Addr.add] using World.cell?_spot (hq 0 hc0)
      refine .inr (.inr ⟨a.block, a.off, ?_, ?_, fun i hi => ?_⟩)
      · obtain ⟨b, o, s⟩ := a
        simp only at hspot
        subst hspot; rfl
      · have := hq 0 hc0
        rw [plain_addr hspot] at this
        exact World.block_lt_of_cell? W ⟨a.block, _, none⟩ this
      · have hi' : i < len := by simpa using hi
        have := hq i hi'
        rw [plain_addr hspot] at this
        simpa using this
    · obtain rfl : len = 0 := by omega
      exact .inr (.inl ⟨rfl, by simp⟩)

end Go.Proofs.Ytbmcajhknohhdaa

/-! VActArg -/
namespace Go.Proofs.Ytbmcajhknohhdaa
open Go.ChangeShapes Go.WideShapes Go.ChangeAt Go.RowKit Go.Deep

theorem cellsVAct : Try.prog.cellsOf 36 = 6 := by kernel_rfl
theorem cellsVAct_0 : Try.prog.cellsOf 5 = 1 := by kernel_rfl
theorem cellsVAct_1 : Try.prog.cellsOf 3 = 1 := by kernel_rfl
set_option maxRecDepth 100000 in
set_option maxHeartbeats 1600000 in
theorem vActs_of_arg {H : Type} {enc : TypeId × Value → H} {W : World} {a0 : Option Addr} {len cap : Nat} {d : DataW H} {p : List MemPlace}
    (h : DataW.Trod enc Try.prog W 0 (fun _ => true) true 22 (.slice a0 len cap) d p) : ∃ l : List VActM, l.length = len ∧ VActsAt W (.slice a0 l.length cap) l := by
  obtain ⟨fuel, hf⟩ := h
  rcases open_slice Try.underlying22 hf with ⟨hcs, hx⟩ | ⟨a, len', cap', m, n, D, Pl, hcs, hb, hl, hm, hmm, hx, hi⟩
  · simp [Value.cells] at hcs
    obtain ⟨rfl, rfl, rfl⟩ := hcs
    exact ⟨[], rfl, none, 0, rfl, by simp, fun h => absurd rfl h⟩
  · simp [Value.cells] at hcs
    obtain ⟨rfl, rfl, rfl⟩ := hcs
    simp only [if_true] at hmm
    have each : ∀ i, i < len → ∃ q : VActM, q.Ok ∧ W.cell? (a.add (i * 6)) = some (.int .u8 q.kd) ∧ W.cell? (a.add (i * 6 + 1)) = some (.int .i64 q.gen) ∧ W.cell? (a.add (i * 6 + 2)) = some (.int .u8 q.b) ∧ W.cell? (a.add (i * 6 + 3)) = some (.int .i64 q.sz) ∧ W.cell? (a.add (i * 6 + 4)) = some (.int .i64 q.n) ∧ W.cell? (a.add (i * 6 + 5)) = some (.int .i64 q.kp) := by
      intro i hil
      obtain ⟨cs', h1, h2⟩ := hi i (by omega)
      rw [cellsVAct] at h1
      obtain ⟨_, hlen, hcell⟩ := World.cells?_some h1
      obtain ⟨xs, k, _, _, _, hxl, hxx⟩ := DataW.trod_struct Try.underlying36 h2
      match cs', hlen with
      | [v0, v1, v2, v3, v4, v5], _ =>
        match xs, hxl with
        | [y0, y1, y2, y3, y4, y5], _ =>
          have g0 : DataW.trod enc Try.prog W 0 (fun _ => true) true k 5 ((([v0, v1, v2, v3, v4, v5] : List Value).drop 0).take (Try.prog.cellsOf 5)) = some y0 := hxx 0 _ rfl
          rw [cellsVAct_0] at g0
          have g1 : DataW.trod enc Try.prog W 0 (fun _ => true) true k 3 ((([v0, v1, v2, v3, v4, v5] : List Value).drop 1).take (Try.prog.cellsOf 3)) = some y1 := hxx 1 _ rfl
          rw [cellsVAct_1] at g1
          have g2 : DataW.trod enc Try.prog W 0 (fun _ => true) true k 5 ((([v0, v1, v2, v3, v4, v5] : List Value).drop 2).take (Try.prog.cellsOf 5)) = some y2 := hxx 2 _ rfl
          rw [cellsVAct_0] at g2
          have g3 : DataW.trod enc Try.prog W 0 (fun _ => true) true k 3 ((([v0, v1, v2, v3, v4, v5] : List Value).drop 3).take (Try.prog.cellsOf 3)) = some y3 := hxx 3 _ rfl
          rw [cellsVAct_1] at g3
          have g4 : DataW.trod enc Try.prog W 0 (fun _ => true) true k 3 ((([v0, v1, v2, v3, v4, v5] : List Value).drop 4).take (Try.prog.cellsOf 3)) = some y4 := hxx 4 _ rfl
          rw [cellsVAct_1] at g4
          have g5 : DataW.trod enc Try.prog W 0 (fun _ => true) true k 3 ((([v0, v1, v2, v3, v4, v5] : List Value).drop 5).take (Try.prog.cellsOf 3)) = some y5 := hxx 5 _ rfl
          rw [cellsVAct_1] at g5
          simp at g0 g1 g2 g3 g4 g5
          obtain ⟨x0, e0, _, wx0⟩ := DataW.trod_int Try.underlying5 g0
          obtain ⟨x1, e1, _, wx1⟩ := DataW.trod_int Try.underlying3 g1
          obtain ⟨x2, e2, _, wx2⟩ := DataW.trod_int Try.underlying5 g2
          obtain ⟨x3, e3, _, wx3⟩ := DataW.trod_int Try.underlying3 g3
          obtain ⟨x4, e4, _, wx4⟩ := DataW.trod_int Try.underlying3 g4
          obtain ⟨x5, e5, _, wx5⟩ := DataW.trod_int Try.underlying3 g5
          simp at e0 e1 e2 e3 e4 e5
          have c0 := hcell 0 (by omega)
          have c1 := hcell 1 (by omega)
          have c2 := hcell 2 (by omega)
          have c3 := hcell 3 (by omega)
          have c4 := hcell 4 (by omega)
          have c5 := hcell 5 (by omega)
          rw [add_add] at c0 c1 c2 c3 c4 c5
          have w0 : 0 ≤ x0 ∧ x0 ≤ 255 := by
            have b1 : IntKind.u8.min = 0 := rfl
            have b2 : IntKind.u8.max = 255 := rfl
            simp only [Lit.wf, Bool.and_eq_true, decide_eq_true_eq] at wx0
            omega
          have w1 : -9223372036854775808 ≤ x1 ∧ x1 ≤ 9223372036854775807 := by
            have b1 : IntKind.i64.min = -9223372036854775808 := rfl
            have b2 : IntKind.i64.max = 9223372036854775807 := rfl
            simp only [Lit.wf, Bool.and_eq_true, decide_eq_true_eq] at wx1
            omega
          have w2 : 0 ≤ x2 ∧ x2 ≤ 255 := by
            have b1 : IntKind.u8.min = 0 := rfl
            have b2 : IntKind.u8.max = 255 := rfl
            simp only [Lit.wf, Bool.and_eq_true, decide_eq_true_eq] at wx2
            omega
          have w3 : -9223372036854775808 ≤ x3 ∧ x3 ≤ 9223372036854775807 := by
            have b1 : IntKind.i64.min = -9223372036854775808 := rfl
            have b2 : IntKind.i64.max = 9223372036854775807 := rfl
            simp only [Lit.wf, Bool.and_eq_true, decide_eq_true_eq] at wx3
            omega
          have w4 : -9223372036854775808 ≤ x4 ∧ x4 ≤ 9223372036854775807 := by
            have b1 : IntKind.i64.min = -9223372036854775808 := rfl
            have b2 : IntKind.i64.max = 9223372036854775807 := rfl
            simp only [Lit.wf, Bool.and_eq_true, decide_eq_true_eq] at wx4
            omega
          have w5 : -9223372036854775808 ≤ x5 ∧ x5 ≤ 9223372036854775807 := by
            have b1 : IntKind.i64.min = -9223372036854775808 := rfl
            have b2 : IntKind.i64.max = 9223372036854775807 := rfl
            simp only [Lit.wf, Bool.and_eq_true, decide_eq_true_eq] at wx5
            omega
          exact ⟨⟨x0, x1, x2, x3, x4, x5⟩, ⟨w0, w1, w2, w3, w4, w5⟩, by rw [← e0]; simpa using c0, by rw [← e1]; simpa using c1, by rw [← e2]; simpa using c2, by rw [← e3]; simpa using c3, by rw [← e4]; simpa using c4, by rw [← e5]; simpa using c5⟩
    obtain ⟨q, hq⟩ := choose_parts (⟨0, 0, 0, 0, 0, 0⟩ : VActM) each
    have htl : ((List.range len).map q).length = len := by simp
    refine ⟨(List.range len).map q, htl, ?_⟩
    by_cases hl0 : len = 0
    · subst hl0
      exact ⟨some a, cap, rfl, by simp, fun h => absurd rfl h⟩
    · have hspot : a.spot = none := by simpa [Addr.add] using World.cell?_spot (hq 0 (by omega)).2.1
      refine ⟨some a, cap, rfl, by rw [htl]; unfold maxLen at hm; omega, fun _ => ⟨a.block, a.off, ?_, ?_, fun i hi => ?_⟩⟩
      · obtain ⟨b, o, s⟩ := a
        simp only at hspot
        subst hspot; rfl
      · have := (hq 0 (by omega)).2.1
        rw [plain_addr hspot] at this
        exact World.block_lt_of_cell? W ⟨a.block, _, none⟩ this
      · rw [htl] at hi
        have := hq i hi
        simp only [plain_addr hspot] at this
        simp only [List.getElem_map, List.getElem_range]
        simpa only [Nat.add_assoc] using this

end Go.Proofs.Ytbmcajhknohhdaa

/-! PbArg -/
namespace Go.Proofs.Ytbmcajhknohhdaa
open Go.ChangeShapes Go.WideShapes Go.ChangeAt Go.RowKit Go.Deep

theorem cellsPb1 : Try.prog.cellsOf 5 = 1 := by kernel_rfl
theorem byte_of {z : Int} (h : (Lit.int .u8 z).wf = true) : ∃ b : UInt8, z = (b.toNat : Int) := by
  have b1 : IntKind.u8.min = 0 := rfl
  have b2 : IntKind.u8.max = 255 := rfl
  simp only [Lit.wf, Bool.and_eq_true, decide_eq_true_eq] at h
  obtain ⟨k, rfl⟩ := Int.eq_ofNat_of_zero_le (show 0 ≤ z by omega)
  exact ⟨UInt8.ofNat k, by simp; omega⟩
end Go.Proofs.Ytbmcajhknohhdaa

/-! FrmArg -/
namespace Go.Proofs.Ytbmcajhknohhdaa
open Go.ChangeShapes Go.WideShapes Go.ChangeAt Go.RowKit

theorem u16_of_wf {z : Int} (h : (Lit.int .u16 z).wf = true) : ∃ n : Nat, z = (n : Int) ∧ n < 65536 := by
  have b1 : IntKind.u16.min = 0 := rfl
  have b2 : IntKind.u16.max = 65535 := rfl
  simp only [Lit.wf, Bool.and_eq_true, decide_eq_true_eq] at h
  exact ⟨z.toNat, by omega, by omega⟩
set_option maxRecDepth 100000 in
theorem frArg_bool {H : Type} {enc : TypeId × Value → H} {W : World} {b0 : Nat} {v : Value} {d : DataW H} {p : List MemPlace} (hv : Value.okWide Try.prog W .any b0 4 v) (h : DataW.Trod enc Try.prog W 0 (fun _ => true) true 4 v d p) : ∃ s : Bool, v = .bool s := by
  obtain ⟨s, rfl, -, -⟩ := open_bool Try.underlying4 hv h
  exact ⟨s, rfl⟩
end Go.Proofs.Ytbmcajhknohhdaa

/-! SaidVPlays -/
namespace Go.Proofs.Ytbmcajhknohhdaa
open Go.ChangeShapes Go.WideShapes Go.ChangeAt Go.RowKit

theorem vplays_laidOut : laidOutB Try.prog = true := by kernel_rfl
set_option maxRecDepth 100000 in
theorem vplays_contract (H : Type) (enc : TypeId × Value → H) (W : World) (base : Nat) (args : Array Value) (ds gs : List (DataW H)) (before : List MemPlace)
    (hval : ∀ (j : Nat) t v, Try.f3.params[j]? = some t → args[j]? = some v → Value.okWide Try.prog W .any base t v)
    (hW : DataW.Whole enc Try.prog Try.f3.params.toList Rows.vaultPlaysSpec.vars false W args.toList ds gs before) :
    Calls Try.prog 3 args W fun e W' => ∃ v, e = .returned v ∧ Rows.vaultPlaysSpec.post enc Try.prog Try.f3 false true false false W args v W' := by
  have hW' := hW
  obtain ⟨p, q, hA0, hV, rfl, hfz, hnd⟩ := hW
  have hA : DataW.TrodAll enc Try.prog W 0 (fun _ => true) true Try.f3.params.toList args.toList ds p := hA0
  rw [Try.params3] at hA hval
  obtain ⟨v0, v1, d0, d1, p0, p1, rfl, rfl, rfl, h0, h1⟩ := trodAll_two hA
  obtain ⟨rfl, rfl⟩ := trodVars_none hV
  clear hA0
  simp only [List.append_nil] at hW'
  have hlt0 : ∀ x ∈ p0, x.block < W.heap.size := fun x hx => by simpa using hW'.lt x (by simp [hx])
  have hargs0 : ∀ (W' : World), Below W.heap.size W W' → DataW.Trod enc Try.prog W' 0 (fun b => decide (b < W.heap.size)) true 3 v0 d0 p0 :=
    fun W' hn => Below.trod vplays_laidOut (by kernel_rfl) (of_decide_eq_true (by kernel_rfl)) h0 hn hlt0
  have hlt1 : ∀ x ∈ p1, x.block < W.heap.size := fun x hx => by simpa using hW'.lt x (by simp [hx])
  have hargs1 : ∀ (W' : World), Below W.heap.size W W' → DataW.Trod enc Try.prog W' 0 (fun b => decide (b < W.heap.size)) true 22 v1 d1 p1 :=
    fun W' hn => Below.trod vplays_laidOut (by kernel_rfl) (of_decide_eq_true (by kernel_rfl)) h1 hn hlt1
  obtain ⟨t0, rfl, -, -, wt0⟩ := open_int Try.underlying3 (hval 0 3 v0 rfl rfl) h0
  obtain ⟨a1, n1, cap1, rfl⟩ := okWide_slice Try.underlying22 (hval 1 22 v1 rfl rfl)
  obtain ⟨l1, rfl, hI1⟩ := vActs_of_arg h1
  refine (vplays_any theRel theVlt dNew_any dWrite_any dArm_any dPower_any (fun h _ => dOn_any h) (fun h _ => dWrites_any h) vNew_any vNewNo_any vSave_any vLoad_any (valive_any theRel theVlt dNew_any dArm_any dPower_any vNew_any vNewNo_any vBlocks_any vSave_any vLoad_any vNilSave_any) t0 _ l1 W (i64_wf wt0).1 (i64_wf wt0).2 hI1).mono fun e W' ⟨he, hB⟩ => ?_
  subst he
  exact ⟨_, rfl, _, _, _, [], p0 ++ (p1), [], hW', trodAll_mk1 (shut_bool Try.underlying4 _), trodAll_mk2 (hargs0 _ hB) (hargs1 _ hB), rfl, hB.frame _, fun h => by cases h⟩

set_option maxRecDepth 100000 in
theorem vplays_lifted (os : Os) (started : os.Started) (H : Type) (enc : TypeId × Value → H) :
    ReturnsInHanded {} Try.checked os 3 .any (Rows.vaultPlaysSpec.pre6 enc Try.prog Try.f3 Rows.vaultPlaysRow.domain false) (Rows.vaultPlaysSpec.post enc Try.prog Try.f3 false true false false) := by
  refine returnsInHanded_of_change (C := Try.checked) ownP started (by kernel_rfl) Try.func3
    (ChangeSpec.witness6 (enc := enc) (C := Try.checked) false ⟨#[], #[Value.int .i64 0, .slice none 0 0], []⟩ 8 (by kernel_rfl) (by kernel_rfl) (by kernel_rfl) (by kernel_rfl)) ?_
  intro W base args ds gs before hval hW _ _
  exact vplays_contract H enc W base args ds gs before hval hW

theorem vplays_holds : Rows.VaultPlaysSaid :=
  OpenClaim.holds_of_wide 3 Try.f3 rfl rfl rfl rfl rfl rfl rfl ⟨rfl, rfl, rfl, rfl, rfl⟩ rfl rfl rfl rfl rfl (by kernel_rfl) Try.func3 (by kernel_rfl)
    (of_decide_eq_true (by kernel_rfl)) (by unfold Func.isWrapper; first | (rw [if_pos (by decide +kernel)]; kernel_rfl) | (rw [if_neg (by decide +kernel)]; exact ⟨rfl, rfl⟩))
    (fun os started H enc _ => vplays_lifted os started H enc)

end Go.Proofs.Ytbmcajhknohhdaa

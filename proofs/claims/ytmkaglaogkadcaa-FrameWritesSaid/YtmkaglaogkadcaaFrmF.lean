/-
  The program's frames: Write.
-/
import Derived.Test.YtmkaglaogkadcaaFrmE
namespace Go.Proofs.Ytmkaglaogkadcaa
open Go.RowKit

theorem infoSz1 : (Try.prog.info? 5).map (·.size) = some 1 := by kernel_rfl
theorem fresh_of_blk {w : World} {B g n : Nat} {l : List UInt8} {t : TypeId} (h : Blk w g (bvA l) t) (hl : l.length = n) (hB : B ≤ g) (hn : n ≤ maxLen) : FreshB B w (.slice (some ⟨g, 0, none⟩) n n) l :=
  ⟨t, by rw [bvs_length, hl]; omega, .inr ⟨g, n, bvA l, by rw [hl], hB, h, by rw [hl]; exact Nat.le_refl _, hn, by rw [bvA_size, hl, Nat.mul_one], by rw [Nat.mul_one, List.take_of_length_le (by simp [bvA, bvs_length])]; rfl⟩⟩
/-- The row that make made is a block of just these bytes. -/
theorem blk_of_made {w : World} {B g n : Nat} {l : List UInt8} {t : TypeId} (h : w.ownsRow B t 1 (.slice (some ⟨g, 0, none⟩) n n) l.length (bvs l)) : Blk w g (bvA l) t ∧ B ≤ g := by
  obtain ⟨h1, h2⟩ := h
  rcases h2 with ⟨h2, -⟩ | ⟨g', cap, cur, h2, hB, hg, h3, h4, h5, h6⟩
  · cases h2
  · simp only [Value.slice.injEq, Option.some.injEq, Addr.mk.injEq, and_true] at h2
    obtain ⟨rfl, h7, h8⟩ := h2
    refine ⟨?_, hB⟩
    have e : cur = bvA l := by
      apply Array.ext'
      rw [← List.take_of_length_le (l := cur.toList) (i := l.length * 1) (by simp; omega), h6]
      simp [bvA]
    rw [← e]; exact hg
/-- copy(dst, s), s a string that fits. -/
theorem wpList_copy_text {P : Program} {w : World} {ops : Array Oper} {rest : List Oper} {o : Oper} {a : Act} {Q : Exit → Act → World → Prop} (hgd : o.guard = none) (d s : Operand) (dT sT : TypeId)
    (ho : o.op = .call { callee := .builtin .copy, args := #[d, s], argTypes := #[dT, sT] }) (elem : TypeId) (hu : P.underlying dT = some (.slice elem)) (hsz : (P.info? elem).map (·.size) = some 1)
    {g off dLen dCap : Nat} {r : ByteArray} {all : List UInt8} {t : TypeId} (hd : a.eval d = .slice (some ⟨g, off, none⟩) dLen dCap) (hs : a.eval s = .string r) (h : Blk w g (bvA all) t) (hle : r.size ≤ dLen) (hfit : off + r.size ≤ all.length)
    (hK : ∀ w', Put w w' g (bvA (putL all off r.data.toList)) t → wpList P ops Q rest (a.put o.dst (goInt r.size)) w') : wpList P ops Q (o :: rest) a w := by
  refine wpList_plain hgd fun K hK' => ?_
  have hrun := Lib.run_copy_row_string (P := P) w dT sT o.type elem g off dLen dCap r (bvA all) t hu hsz h hle (by rw [bvA_size]; exact hfit)
  have e := bvs_put_row all r.data.toList off
  have hn : (bvs r.data.toList).length = r.size := by rw [bvs_length]; simp
  rw [hn] at e
  have e2 : Lib.byteCells r.data.toList = bvs r.data.toList := rfl
  rw [e2, e] at hrun
  unfold Oper.wp
  simp [execOp, ho, resolve, invoke, builtin, hd, hs, hrun, Result.andThen]
  exact hK' _ _ (hK _ (put_row h))

/-! What lies in the block, copy by copy. -/
theorem fr_put1 (kd : UInt8) (gen seq n : Nat) : putL (zerosB 128) 0 ((frHead kd gen seq n).take 8) = frHead kd gen seq n ++ zerosB 120 := by
  simp [putL, frHead, zerosB]
theorem fr_put2 (kd : UInt8) (gen seq : Nat) (b : List UInt8) (hn : b.length ≤ 112) : putL (frHead kd gen seq b.length ++ zerosB 120) 8 (b.take 112) = frBody kd gen seq b ++ zerosB 8 := by
  have e1 : b.take 112 = b := List.take_of_length_le hn
  have e2 : (frHead kd gen seq b.length).length = 8 := rfl
  unfold putL
  rw [e1, List.take_left' e2, ← List.drop_drop, List.drop_left' e2]
  unfold frBody zeros zerosB
  rw [List.drop_replicate, List.append_assoc, List.append_assoc, List.replicate_append_replicate, show 120 - b.length = 112 - b.length + 8 by omega]
theorem fr_put3 (kd : UInt8) (gen seq : Nat) (b : List UInt8) (hn : b.length ≤ 112) : putL (frBody kd gen seq b ++ zerosB 8) 0 ((sealL (frBody kd gen seq b)).take 124) = sealL (frBody kd gen seq b) ++ zerosB 4 := by
  have hl := frBody_length (kd := kd) (gen := gen) (seq := seq) hn
  have hs : (sealL (frBody kd gen seq b)).length = 124 := by rw [sealL_length, hl]
  have e : (sealL (frBody kd gen seq b)).take 124 = sealL (frBody kd gen seq b) := List.take_of_length_le (by omega)
  unfold putL
  rw [e, hs]
  simp [List.drop_append, hl, zerosB]
theorem fr_put4 (kd : UInt8) (gen seq : Nat) (b : List UInt8) (hn : b.length ≤ 112) : putL (sealL (frBody kd gen seq b) ++ zerosB 4) 124 [0, 0, 0, 69] = frL kd gen seq b := by
  have hl := frBody_length (kd := kd) (gen := gen) (seq := seq) hn
  have hs : (sealL (frBody kd gen seq b)).length = 124 := by rw [sealL_length, hl]
  unfold putL
  rw [List.take_left' hs, List.drop_of_length_le (by simp [hs, zerosB])]
  simp [frL, frTail]
theorem fr_body (kd : UInt8) (gen seq : Nat) (b : List UInt8) (hn : b.length ≤ 112) : (((frBody kd gen seq b ++ zerosB 8).drop 0).take 120) = frBody kd gen seq b := by
  rw [List.drop_zero, List.take_left' (frBody_length hn)]

set_option maxRecDepth 100000 in
set_option maxHeartbeats 3200000 in
theorem frWrite_main (kd : UInt8) (gen seq : Nat) (p : Option Addr) (cap : Nat) (b : List UInt8) (w : World) (h : BsAt w p b.length cap b) (hg : gen ≤ 2147483647) (hs : seq ≤ 65535) (hn : b.length ≤ 112) :
    Calls Try.prog 7 #[.int .u8 (kd.toNat : Int), .int .i64 (gen : Int), .int .i64 (seq : Int), .slice p b.length cap] w fun e w' => ∃ q c, e = .returned (.tuple #[.slice q 128 c, .int .i64 0]) ∧ FreshB w.heap.size w' (.slice q 128 c) (frL kd gen seq b) ∧ Below w.heap.size w w' := by
  have HBs := Lib.hid h
  have HW1 := Lib.hid (fun V => fwithin_any (gen : Int) 2147483647 V)
  have HW2 := Lib.hid (fun V => fwithin_any (seq : Int) 65535 V)
  have HN := Lib.hid (fnumbers_any kd gen seq b.length w (by omega) (by omega) (by omega))
  rw [show (decide (0 ≤ (gen : Int)) && decide ((gen : Int) ≤ 2147483647)) = true by simp; omega] at HW1
  rw [show (decide (0 ≤ (seq : Int)) && decide ((seq : Int) ≤ 65535)) = true by simp; omega] at HW2
  have HF := Lib.hid (And.intro (fr_put1 kd gen seq b.length) (And.intro (fr_put2 kd gen seq b hn) (And.intro (fr_put3 kd gen seq b hn) (And.intro (fr_put4 kd gen seq b hn) (fr_body kd gen seq b hn)))))
  have HL := Lib.hid (And.intro (frBody_length (kd := kd) (gen := gen) (seq := seq) hn) (frL_length (kd := kd) (gen := gen) (seq := seq) hn))
  have hb9 : b.length ≤ 9223372036854775807 := by omega
  have HH := Lib.hid (show (frHead kd gen seq b.length).length = 8 from rfl)
  clear h hg hs
  go_enter Try.func7, Try.ntmps7
  go_wp2_with fail
  with_reducible refine (HW1.out _).mono ?_
  rintro e w0 ⟨rfl, rfl⟩
  go_wp2_with fail
  with_reducible refine (HW2.out _).mono ?_
  rintro e w0 ⟨rfl, rfl⟩
  go_wp2_with fail
  with_reducible refine HN.out.mono ?_
  rintro e w1 ⟨v1, rfl, ⟨p1, n1, c1, rfl, hb1, -⟩, hB1⟩
  have HB1 := Lib.hid hB1
  have HS1 := Lib.hid hb1
  clear hb1 hB1 HW1 HW2 HN
  have tok1 : True := trivial
  go_upto_region 9 with (at_make; have _t := tok1; refine wpList_make_zeros rfl _ _ 22 rfl w1.heap.size 5 Try.underlying22 infoU8 128 rfl rfl rfl rfl (by decide) (Nat.le_refl _) ?_; intro w2 hown hg; have HO2 := Lib.hid hown; have HG2 := Lib.hid hg; clear hown hg tok1)
  have HK2 := Lib.hid (blk_of_made HO2.out).1
  have HB2 := Lib.hid (HB1.out.grown HG2.out HB1.out.size (fun k hk => by cases hk))
  have HS2 := Lib.hid (HS1.out.below ((Below.refl w1.heap.size w1).grown HG2.out (Nat.le_refl _) (fun k hk => by cases hk)) (Nat.le_refl _))
  have hG : w.heap.size ≤ w1.heap.size := HB1.out.size
  clear HO2 HG2 HS1
  generalize w1.heap.size = g at *
  go_wp2_with fail
  with_reducible refine (fpart_at g 0 128 128 0 8 0 8 0 8 _ rfl rfl (by decide) (by decide) rfl rfl).mono ?_
  rintro e w3 ⟨rfl, rfl⟩
  go_wp2_with (refine wpList_copy_part rfl _ _ 22 22 rfl 5 Try.underlying22 infoSz1 rfl rfl HK2.out HS2.out (by simp [zerosB]) ?_; intro w4 hw4; have HP4 := Lib.hid hw4; clear hw4)
  have HB4 := Lib.hid (HB2.out.trans (HP4.out.below HB2.out.size hG))
  have HK4 := Lib.hid HP4.out.blk
  rw [HF.out.1] at HK4
  have HS4 := Lib.hid (HBs.out.below HB4.out (Nat.le_refl _))
  clear HP4 HB2 HK2 HS2
  with_reducible refine (fpart_at g 0 128 128 8 120 8 120 8 112 _ rfl rfl (by decide) (by decide) rfl rfl).mono ?_
  rintro e w5 ⟨rfl, rfl⟩
  go_wp2_with (refine wpList_copy_part rfl _ _ 22 22 rfl 5 Try.underlying22 infoSz1 rfl rfl HK4.out HS4.out (by simp [zerosB, frHead]) ?_; intro w6 hw6; have HP6 := Lib.hid hw6; clear hw6)
  have HB6 := Lib.hid (HB4.out.trans (HP6.out.below HB4.out.size hG))
  have HK6 := Lib.hid HP6.out.blk
  rw [HF.out.2.1] at HK6
  clear HP6 HB4 HK4 HS4
  with_reducible refine (fpart_at g 0 128 128 0 124 0 124 0 124 _ rfl rfl (by decide) (by decide) rfl rfl).mono ?_
  rintro e w7 ⟨rfl, rfl⟩
  go_wp2_with fail
  with_reducible refine (fpart_at g 0 128 128 0 120 0 120 0 120 _ rfl rfl (by decide) (by decide) rfl rfl).mono ?_
  rintro e w7 ⟨rfl, rfl⟩
  have HS7 := Lib.hid (HK6.out.bs (off := 0) (n := 120) (cap := 120) (by simp [HL.out.1]) (Nat.le_refl _) (by decide))
  rw [HF.out.2.2.2.2] at HS7
  go_wp2_with fail
  refine (cSeal_any _ _ _ _ _ HS7.out (by rw [HL.out.1]; decide)).mono ?_
  rintro e w8 ⟨p8, n8, c8, rfl, hb8, hB8⟩
  have HB8 := Lib.hid (HB6.out.trans (hB8.mono HB6.out.size))
  have HK8 := Lib.hid (HK6.out.below hB8 HK6.out.lt)
  have HS8 := Lib.hid hb8
  clear hb8 hB8 HB6 HK6 HS7
  go_wp2_with (refine wpList_copy_part rfl _ _ 22 22 rfl 5 Try.underlying22 infoSz1 rfl rfl HK8.out HS8.out (by simp [zerosB, HL.out.1]) ?_; intro w9 hw9; have HP9 := Lib.hid hw9; clear hw9)
  have HB9 := Lib.hid (HB8.out.trans (HP9.out.below HB8.out.size hG))
  have HK9 := Lib.hid HP9.out.blk
  rw [HF.out.2.2.1] at HK9
  clear HP9 HB8 HK8 HS8
  with_reducible refine (fpart_at g 0 128 128 124 128 124 128 124 4 _ rfl rfl (by decide) (by decide) rfl rfl).mono ?_
  rintro e w10 ⟨rfl, rfl⟩
  have hz9 : 124 + 4 ≤ (sealL (frBody kd gen seq b) ++ zerosB 4).length := by rw [List.length_append, sealL_length, HL.out.1]; simp [zerosB]
  go_wp2_with (refine wpList_copy_text (r := ⟨#[0, 0, 0, 69]⟩) rfl _ _ 22 9 rfl 5 Try.underlying22 infoSz1 rfl rfl HK9.out (by decide) hz9 ?_; intro w11 hw11; have HP11 := Lib.hid hw11; clear hw11)
  refine bodyPost_ret (results_tmp2 rfl _ _ _) rfl ?_
  have HB11 := Lib.hid (HB9.out.trans (HP11.out.below HB9.out.size hG))
  have hk := HP11.out.blk
  rw [HF.out.2.2.2.1] at hk
  exact ⟨some ⟨g, 0, none⟩, 128, rfl, fresh_of_blk hk HL.out.2 hG (by decide), HB11.out⟩
theorem fresh_nil (B : Nat) (w : World) : FreshB B w (.slice none 0 0) [] := ⟨0, World.ownsRow_nil _ _ _ _⟩

set_option maxRecDepth 100000 in
set_option maxHeartbeats 1600000 in
theorem frWrite_any : FrWriteC := by
  intro kd gen seq p len cap b w h h5
  have hlen := h.same
  subst hlen
  by_cases h8 : gen < 0 ∨ 2147483647 < gen ∨ seq < 0 ∨ 65535 < seq
  · have he : frWE gen seq b = 8 := by unfold frWE; rw [if_pos h8]
    have HE := Lib.hid (show frWE gen seq b = 8 ∧ frWL kd gen seq b = [] from ⟨he, by unfold frWL; rw [he]; rfl⟩)
    have HW1 := Lib.hid (fun V => fwithin_any gen 2147483647 V)
    have HW2 := Lib.hid (fun V => fwithin_any seq 65535 V)
    by_cases hg : 0 ≤ gen ∧ gen ≤ 2147483647
    · rw [show (decide (0 ≤ gen) && decide (gen ≤ 2147483647)) = true by simp; omega] at HW1
      rw [show (decide (0 ≤ seq) && decide (seq ≤ 65535)) = false by simp; omega] at HW2
      clear he h h8 hg h5
      generalize b.length = n at *
      go_enter Try.func7, Try.ntmps7
      go_wp2_with fail
      with_reducible refine (HW1.out _).mono ?_
      rintro e w0 ⟨rfl, rfl⟩
      go_wp2_with fail
      with_reducible refine (HW2.out _).mono ?_
      rintro e w0 ⟨rfl, rfl⟩
      go_wp2_with fail
      refine bodyPost_ret (results_tmp2 rfl _ _ _) rfl ?_
      exact ⟨none, 0, by rw [HE.out.1, HE.out.2]; rfl, by rw [HE.out.2]; exact fresh_nil _ _, Below.refl _ _⟩
    · rw [show (decide (0 ≤ gen) && decide (gen ≤ 2147483647)) = false by simp; omega] at HW1
      clear he h h8 hg h5 HW2
      generalize b.length = n at *
      go_enter Try.func7, Try.ntmps7
      go_wp2_with fail
      with_reducible refine (HW1.out _).mono ?_
      rintro e w0 ⟨rfl, rfl⟩
      go_wp2_with fail
      refine bodyPost_ret (results_tmp2 rfl _ _ _) rfl ?_
      exact ⟨none, 0, by rw [HE.out.1, HE.out.2]; rfl, by rw [HE.out.2]; exact fresh_nil _ _, Below.refl _ _⟩
  · obtain ⟨g, rfl⟩ := Int.eq_ofNat_of_zero_le (show 0 ≤ gen by omega)
    obtain ⟨s, rfl⟩ := Int.eq_ofNat_of_zero_le (show 0 ≤ seq by omega)
    by_cases h112 : 112 < b.length
    · have he : frWE g s b = 5 := by unfold frWE; rw [if_neg h8, if_pos h112]
      have HE := Lib.hid (show frWE g s b = 5 ∧ frWL kd g s b = [] from ⟨he, by unfold frWL; rw [he]; rfl⟩)
      have HW1 := Lib.hid (fun V => fwithin_any (g : Int) 2147483647 V)
      have HW2 := Lib.hid (fun V => fwithin_any (s : Int) 65535 V)
      rw [show (decide (0 ≤ (g : Int)) && decide ((g : Int) ≤ 2147483647)) = true by simp; omega] at HW1
      rw [show (decide (0 ≤ (s : Int)) && decide ((s : Int) ≤ 65535)) = true by simp; omega] at HW2
      have hb9 : b.length ≤ 9223372036854775807 := by omega
      clear he h h8 h5
      generalize b.length = n at *
      go_enter Try.func7, Try.ntmps7
      go_wp2_with fail
      with_reducible refine (HW1.out _).mono ?_
      rintro e w0 ⟨rfl, rfl⟩
      go_wp2_with fail
      with_reducible refine (HW2.out _).mono ?_
      rintro e w0 ⟨rfl, rfl⟩
      go_wp2_with fail
      refine bodyPost_ret (results_tmp2 rfl _ _ _) rfl ?_
      exact ⟨none, 0, by rw [HE.out.1, HE.out.2]; rfl, by rw [HE.out.2]; exact fresh_nil _ _, Below.refl _ _⟩
    · have he : frWE g s b = 0 := by unfold frWE; rw [if_neg h8, if_neg h112]
      have hl : frWL kd g s b = frL kd g s b := by unfold frWL; rw [if_pos he]; rfl
      have hlen := frL_length (kd := kd) (gen := g) (seq := s) (b := b) (by omega)
      rw [he, hl, hlen]
      exact frWrite_main kd g s p cap b w h (by omega) (by omega) (by omega)
end Go.Proofs.Ytmkaglaogkadcaa

/-
  The document's frames: Write.
-/
import Derived.Test.YtbmcajhknohhdaaFrmM
import Derived.Test.YtbmcajhknohhdaaCrcS
import Derived.Test.YtbmcajhknohhdaaMkB
import Derived.Deep.DeepCutAuto
import Derived.LoopTactic
namespace Go.Proofs.Ytbmcajhknohhdaa
open Go.RowKit

theorem byte_nat (n : Nat) : (((UInt8.ofNat n).toNat : Nat) : Int) = (n : Int) % 256 := by simp
theorem head_cells (kd : UInt8) (gen seq n : Nat) (hg : gen < 4294967296) (hs : seq < 65536) (hn : n ≤ 112) :
    (#[.int .u8 (kd.toNat : Int), .int .u8 ((gen : Int) / 16777216), .int .u8 ((gen : Int) / 65536 % 256), .int .u8 ((gen : Int) / 256 % 256), .int .u8 ((gen : Int) % 256), .int .u8 ((seq : Int) / 256), .int .u8 ((seq : Int) % 256), .int .u8 (n : Int)] : Array Value).toList = bvs (frHead kd gen seq n) := by
  simp [bvs, frHead]
  omega
theorem own_base2 {w : World} {base base' size n : Nat} {e : TypeId} {v : Value} {xs : List Value} (h : w.ownsRow base e size v n xs) (hb : base' ≤ base) : w.ownsRow base' e size v n xs :=
  ⟨h.1, h.2.elim Or.inl (fun ⟨g, cap, cur, hv, hg, r⟩ => Or.inr ⟨g, cap, cur, hv, Nat.le_trans hb hg, r⟩)⟩
theorem zeros_succ (n : Nat) : zeros (n + 1) = zeros n ++ [0] := by unfold zeros; rw [List.replicate_succ']

set_option maxRecDepth 100000 in
set_option maxHeartbeats 6400000 in
theorem rfWrite_main (kd : UInt8) (gen seq : Nat) (p : Option Addr) (cap : Nat) (b : List UInt8) (w : World) (h : BsAt w p b.length cap b) (hg : gen ≤ 2147483647) (hs : seq ≤ 65535) (hn : b.length ≤ 112) :
    Calls Try.prog 47 #[.int .u8 (kd.toNat : Int), .int .i64 (gen : Int), .int .i64 (seq : Int), .slice p b.length cap] w fun e w' => ∃ q c, e = .returned (.tuple #[.slice q 128 c, .int .i64 0]) ∧ w'.ownsRow w.heap.size 5 1 (.slice q 128 c) 128 (bvs (frL kd gen seq b)) ∧ Below w.heap.size w w' := by
  have HBs := Lib.hid h
  have HH := Lib.hid (head_cells kd gen seq b.length (by omega) (by omega) hn)
  have HL := Lib.hid (frBody_length (kd := kd) (gen := gen) (seq := seq) hn)
  have HFL := Lib.hid (frL_length (kd := kd) (gen := gen) (seq := seq) hn)
  clear h
  go_enter Try.func47, Try.ntmps47
  go_upto_region 6 with fail
  have hown0 : (w.alloc (.cells #[.int .u8 (kd.toNat : Int), .int .u8 ((gen : Int) / 16777216), .int .u8 ((gen : Int) / 65536 % 256), .int .u8 ((gen : Int) / 256 % 256), .int .u8 ((gen : Int) % 256), .int .u8 ((seq : Int) / 256), .int .u8 ((seq : Int) % 256), .int .u8 (b.length : Int)] 5)).ownsRow w.heap.size 5 1 (.slice (some ⟨w.heap.size, 0, none⟩) 8 8) (frHead kd gen seq b.length).length (bvs (frHead kd gen seq b.length)) := by
    rw [← HH.out]
    exact World.ownsRow_lit w _ 8 (Nat.le_refl _) (by decide) rfl
  have HB0 := Lib.hid (belowNew w (.cells #[.int .u8 (kd.toNat : Int), .int .u8 ((gen : Int) / 16777216), .int .u8 ((gen : Int) / 65536 % 256), .int .u8 ((gen : Int) / 256 % 256), .int .u8 ((gen : Int) % 256), .int .u8 ((seq : Int) / 256), .int .u8 ((seq : Int) % 256), .int .u8 (b.length : Int)] 5))
  have HBs0 := Lib.hid (HBs.out.below HB0.out (Nat.le_refl _))
  have hq0 : (frHead kd gen seq b.length).length + b.length ≤ 140737488355328 := by show 8 + b.length ≤ _; omega
  have tok0 : True := trivial
  go_upto_region 7 with (at_builtin; have _t := tok0; refine wpList_append_bytes rfl _ _ 31 rfl w.heap.size 5 Try.underlying31 infoU8 rfl hown0 rfl HBs0.out hq0 HB0.out.size ?_; intro p1 n1 c1 w1 hrow hg1 hn1; have HR1 := Lib.hid hrow; have HB1 := Lib.hid (HB0.out.grown hg1 HB0.out.size (fun k hk => (hown0.lt k hk).1)); clear hrow hg1 hn1 tok0)
  have HT := Lib.hid (show frBody kd gen seq b = frHead kd gen seq b.length ++ b ++ zeros (112 - b.length) from rfl)
  have h8 : (frHead kd gen seq b.length ++ b).length = 8 + b.length := by rw [List.length_append]; rfl
  have HH8 := Lib.hid h8
  obtain rfl : n1 = (frHead kd gen seq b.length ++ b).length := by
    obtain ⟨pv, cv, e⟩ := own_form HR1.out
    cases e; rfl
  clear hown0 HB0 HBs0 HH h8
  generalize frHead kd gen seq b.length ++ b = T1 at *
  go_loopw [10] (fun v wr => ∃ j : Nat, j ≤ 112 - b.length ∧ wr.ownsRow w.heap.size 5 1 v (T1 ++ zeros j).length (bvs (T1 ++ zeros j)) ∧ Below w.heap.size w wr) (fun v _ => 120 - (match v with | .slice _ n _ => n | _ => 0))
  case atStart => exact ⟨0, Nat.zero_le _, by have h9 : T1 ++ zeros 0 = T1 := by simp [zeros]
                                              rw [h9]; exact HR1.out, HB1.out⟩
  case round =>
    obtain ⟨j, hj, hR, hB⟩ := hrel
    have hlen : (T1 ++ zeros j).length = 8 + b.length + j := by rw [List.length_append, HH8.out]; simp [zeros]
    have HLen := Lib.hid hlen
    obtain ⟨p2, c2, rfl⟩ := own_form hR
    have HR2 := Lib.hid hR
    have HB2 := Lib.hid hB
    clear hR hB
    by_cases hlt : j < 112 - b.length
    · have HZ := Lib.hid (show T1 ++ zeros (j + 1) = T1 ++ zeros j ++ [0] by rw [zeros_succ, List.append_assoc])
      generalize T1 ++ zeros j = T2 at *
      have hown3 := HR2.out.alloc (.cells #[.int .u8 0] 5)
      have HS3 := Lib.hid (bsAt_new wr #[.int .u8 0] 5 0 [0] (by simp [maxLen]) (fun i hi => by
        obtain rfl : i = 0 := by simp at hi; omega
        rfl))
      have HQ3 := Lib.hid (HB2.out.alloc HB2.out.size (.cells #[.int .u8 0] 5))
      have hq3 : T2.length + [(0 : UInt8)].length ≤ 140737488355328 := by have := HLen.out; simp only [List.length_cons, List.length_nil]; omega
      have hlt2 : T2.length < 120 := by have := HLen.out; omega
      have HL2 := Lib.hid (show (T2 ++ [(0 : UInt8)]).length = T2.length + 1 by simp)
      clear hlen
      go_wp2_with (at_builtin; refine wpList_append_bytes rfl _ _ 31 rfl w.heap.size 5 Try.underlying31 infoU8 rfl hown3 rfl HS3.out hq3 HQ3.out.size ?_; intro p3 n3 c3 w3 hrow hg3 hn3; have HR3 := Lib.hid hrow; have HB3 := Lib.hid (HQ3.out.grown hg3 HQ3.out.size (fun k hk => (hown3.lt k hk).1)); clear hrow hg3 hn3 hown3)
      obtain rfl : n3 = T2.length + 1 := by
        obtain ⟨pv, cv, e⟩ := own_form HR3.out
        cases e; rw [HL2.out]
      go_roundw
      case rel => exact ⟨j + 1, by omega, by rw [HZ.out]; exact HR3.out, HB3.out⟩
      case measure => simp; omega
    · obtain rfl : j = 112 - b.length := by omega
      rw [← HT.out] at HR2 HLen
      rw [← HT.out]
      have hlen2 := HL.out
      obtain ⟨q3, d3, e3, hb3⟩ := BsAt.ofRow HR2.out
      rw [Value.slice.injEq] at e3
      obtain ⟨rfl, -, rfl⟩ := e3
      have HSeal := Lib.hid (rcSeal_any p2 _ c2 _ wr hb3 (by rw [hlen2]; decide))
      have HE := Lib.hid (show frL kd gen seq b = sealL (frBody kd gen seq b) ++ [0] ++ [0] ++ [0] ++ [69] from by simp [frL, frTail])
      have HSl := Lib.hid (show (sealL (frBody kd gen seq b)).length = 124 from by simp [sealL, le4, hlen2])
      rw [hlen2] at HSeal
      rw [hlen2]
      clear hb3 hlen hlen2 HR2 HLen
      go_upto_region 9 with fail
      go_wp2_with fail
      refine HSeal.out.mono ?_
      rintro e w10 ⟨p10, c10, rfl, hR10, hB10⟩
      have HR10' := Lib.hid (own_base2 hR10 HB2.out.size)
      have HB10 := Lib.hid (HB2.out.trans (hB10.mono HB2.out.size))
      rw [HSl.out]
      clear hR10 hB10
      generalize sealL (frBody kd gen seq b) = T10 at *
      have hl10 : T10.length = 124 := HSl.out
      go_upto_region 10 with fail
      obtain ⟨n10, hn10⟩ : ∃ n10, n10 = T10.length := ⟨_, rfl⟩
      have HR10 := Lib.hid (show w10.ownsRow w.heap.size 5 1 (.slice p10 n10 c10) T10.length (bvs T10) from by rw [hn10]; exact HR10'.out)
      rw [show (124 : Nat) = n10 by omega]
      obtain rfl : n10 = (T10).length := by
        obtain ⟨pv, cv, e⟩ := own_form HR10.out
        cases e; rfl
      have hown11 := HR10.out.alloc (.cells #[.int .u8 0] 5)
      have HS11 := Lib.hid (bsAt_new w10 #[.int .u8 0] 5 0 [0] (by simp [maxLen]) (fun i hi => by
        obtain rfl : i = 0 := by simp at hi; omega
        rfl))
      have HQ11 := Lib.hid (HB10.out.alloc HB10.out.size (.cells #[.int .u8 0] 5))
      have hq11 : (T10).length + [(0 : UInt8)].length ≤ 140737488355328 := by simp only [List.length_cons, List.length_nil]; omega
      have tok11 : True := trivial
      go_upto_region 11 with (at_builtin; have _t := tok11; refine wpList_append_bytes rfl _ _ 31 rfl w.heap.size 5 Try.underlying31 infoU8 rfl hown11 rfl HS11.out hq11 HQ11.out.size ?_; intro p11 n11 c11 w11 hrow hg hn; have HR11 := Lib.hid hrow; have HB11 := Lib.hid (HQ11.out.grown hg HQ11.out.size (fun k hk => (hown11.lt k hk).1)); clear hrow hg hn tok11)
      obtain rfl : n11 = (T10 ++ [0]).length := by
        obtain ⟨pv, cv, e⟩ := own_form HR11.out
        cases e; rfl
      have hown12 := HR11.out.alloc (.cells #[.int .u8 0] 5)
      have HS12 := Lib.hid (bsAt_new w11 #[.int .u8 0] 5 0 [0] (by simp [maxLen]) (fun i hi => by
        obtain rfl : i = 0 := by simp at hi; omega
        rfl))
      have HQ12 := Lib.hid (HB11.out.alloc HB11.out.size (.cells #[.int .u8 0] 5))
      have hq12 : (T10 ++ [0]).length + [(0 : UInt8)].length ≤ 140737488355328 := by simp only [List.length_append, List.length_cons, List.length_nil]; omega
      have tok12 : True := trivial
      go_upto_region 12 with (at_builtin; have _t := tok12; refine wpList_append_bytes rfl _ _ 31 rfl w.heap.size 5 Try.underlying31 infoU8 rfl hown12 rfl HS12.out hq12 HQ12.out.size ?_; intro p12 n12 c12 w12 hrow hg hn; have HR12 := Lib.hid hrow; have HB12 := Lib.hid (HQ12.out.grown hg HQ12.out.size (fun k hk => (hown12.lt k hk).1)); clear hrow hg hn tok12)
      obtain rfl : n12 = (T10 ++ [0] ++ [0]).length := by
        obtain ⟨pv, cv, e⟩ := own_form HR12.out
        cases e; rfl
      have hown13 := HR12.out.alloc (.cells #[.int .u8 0] 5)
      have HS13 := Lib.hid (bsAt_new w12 #[.int .u8 0] 5 0 [0] (by simp [maxLen]) (fun i hi => by
        obtain rfl : i = 0 := by simp at hi; omega
        rfl))
      have HQ13 := Lib.hid (HB12.out.alloc HB12.out.size (.cells #[.int .u8 0] 5))
      have hq13 : (T10 ++ [0] ++ [0]).length + [(0 : UInt8)].length ≤ 140737488355328 := by simp only [List.length_append, List.length_cons, List.length_nil]; omega
      have tok13 : True := trivial
      go_upto_region 13 with (at_builtin; have _t := tok13; refine wpList_append_bytes rfl _ _ 31 rfl w.heap.size 5 Try.underlying31 infoU8 rfl hown13 rfl HS13.out hq13 HQ13.out.size ?_; intro p13 n13 c13 w13 hrow hg hn; have HR13 := Lib.hid hrow; have HB13 := Lib.hid (HQ13.out.grown hg HQ13.out.size (fun k hk => (hown13.lt k hk).1)); clear hrow hg hn tok13)
      obtain rfl : n13 = (T10 ++ [0] ++ [0] ++ [0]).length := by
        obtain ⟨pv, cv, e⟩ := own_form HR13.out
        cases e; rfl
      have hown14 := HR13.out.alloc (.cells #[.int .u8 69] 5)
      have HS14 := Lib.hid (bsAt_new w13 #[.int .u8 69] 5 0 [69] (by simp [maxLen]) (fun i hi => by
        obtain rfl : i = 0 := by simp at hi; omega
        rfl))
      have HQ14 := Lib.hid (HB13.out.alloc HB13.out.size (.cells #[.int .u8 69] 5))
      have hq14 : (T10 ++ [0] ++ [0] ++ [0]).length + [(69 : UInt8)].length ≤ 140737488355328 := by simp only [List.length_append, List.length_cons, List.length_nil]; omega
      have tok14 : True := trivial
      go_upto_region 14 with (at_builtin; have _t := tok14; refine wpList_append_bytes rfl _ _ 31 rfl w.heap.size 5 Try.underlying31 infoU8 rfl hown14 rfl HS14.out hq14 HQ14.out.size ?_; intro p14 n14 c14 w14 hrow hg hn; have HR14 := Lib.hid hrow; have HB14 := Lib.hid (HQ14.out.grown hg HQ14.out.size (fun k hk => (hown14.lt k hk).1)); clear hrow hg hn tok14)
      go_wp2_with fail
      obtain rfl : n14 = (T10 ++ [0] ++ [0] ++ [0] ++ [69]).length := by
        obtain ⟨pv, cv, e⟩ := own_form HR14.out
        cases e; rfl
      refine bodyPost_ret (results_tmp2 rfl _ _ _) rfl ?_
      have hR14 := HR14.out
      rw [← HE.out, HFL.out] at hR14
      exact ⟨p14, c14, by rw [← HE.out, HFL.out]; rfl, hR14, HB14.out⟩

theorem rfWrite_any (kd : UInt8) (gen seq : Int) (p : Option Addr) (len cap : Nat) (b : List UInt8) (w : World) (h : BsAt w p len cap b) :
    Calls Try.prog 47 #[.int .u8 (kd.toNat : Int), .int .i64 gen, .int .i64 seq, .slice p len cap] w fun e w' => ∃ q c, e = .returned (.tuple #[.slice q (frWL kd gen seq b).length c, .int .i64 (frWE gen seq b)]) ∧ w'.ownsRow w.heap.size 5 1 (.slice q (frWL kd gen seq b).length c) (frWL kd gen seq b).length (bvs (frWL kd gen seq b)) ∧ Below w.heap.size w w' := by
  have hlen := h.same
  subst hlen
  have hbm : b.length ≤ 9223372036854775807 := by have := h.le; have := h.small; unfold maxLen at this; omega
  by_cases h8 : gen < 0 ∨ 2147483647 < gen ∨ seq < 0 ∨ 65535 < seq
  · have he : frWE gen seq b = 8 := by unfold frWE; rw [if_pos h8]
    have HE := Lib.hid (show frWE gen seq b = 8 ∧ frWL kd gen seq b = [] from ⟨he, by unfold frWL; rw [he]; rfl⟩)
    clear he h
    generalize b.length = n at *
    have c1 : ¬ gen < 0 → ¬ 2147483647 < gen → ¬ seq < 0 → 65535 < seq := by omega
    by_cases g1 : gen < 0
    · clear h8 c1
      go_enter Try.func47, Try.ntmps47
      go_wp2_with fail
      refine bodyPost_ret (results_tmp2 rfl _ _ _) rfl ?_
      exact ⟨none, 0, by rw [HE.out.1, HE.out.2]; rfl, by rw [HE.out.2]; exact World.ownsRow_nil _ _ _ _, Below.refl _ _⟩
    · by_cases g2 : 2147483647 < gen
      · clear h8 c1
        go_enter Try.func47, Try.ntmps47
        go_wp2_with fail
        refine bodyPost_ret (results_tmp2 rfl _ _ _) rfl ?_
        exact ⟨none, 0, by rw [HE.out.1, HE.out.2]; rfl, by rw [HE.out.2]; exact World.ownsRow_nil _ _ _ _, Below.refl _ _⟩
      · by_cases g3 : seq < 0
        · clear h8 c1
          go_enter Try.func47, Try.ntmps47
          go_wp2_with fail
          refine bodyPost_ret (results_tmp2 rfl _ _ _) rfl ?_
          exact ⟨none, 0, by rw [HE.out.1, HE.out.2]; rfl, by rw [HE.out.2]; exact World.ownsRow_nil _ _ _ _, Below.refl _ _⟩
        · have g4 := c1 g1 g2 g3
          clear h8 c1
          go_enter Try.func47, Try.ntmps47
          go_wp2_with fail
          refine bodyPost_ret (results_tmp2 rfl _ _ _) rfl ?_
          exact ⟨none, 0, by rw [HE.out.1, HE.out.2]; rfl, by rw [HE.out.2]; exact World.ownsRow_nil _ _ _ _, Below.refl _ _⟩
  · by_cases h5 : 112 < b.length
    · have he : frWE gen seq b = 5 := by unfold frWE; rw [if_neg h8, if_pos h5]
      have HE := Lib.hid (show frWE gen seq b = 5 ∧ frWL kd gen seq b = [] from ⟨he, by unfold frWL; rw [he]; rfl⟩)
      clear he h
      generalize b.length = n at *
      have g1 : ¬ gen < 0 := by omega
      have g2 : ¬ 2147483647 < gen := by omega
      have g3 : ¬ seq < 0 := by omega
      have g4 : ¬ 65535 < seq := by omega
      clear h8
      go_enter Try.func47, Try.ntmps47
      go_wp2_with fail
      refine bodyPost_ret (results_tmp2 rfl _ _ _) rfl ?_
      exact ⟨none, 0, by rw [HE.out.1, HE.out.2]; rfl, by rw [HE.out.2]; exact World.ownsRow_nil _ _ _ _, Below.refl _ _⟩
    · obtain ⟨g, rfl⟩ := Int.eq_ofNat_of_zero_le (show 0 ≤ gen by omega)
      obtain ⟨s, rfl⟩ := Int.eq_ofNat_of_zero_le (show 0 ≤ seq by omega)
      have he : frWE g s b = 0 := by unfold frWE; rw [if_neg h8, if_neg h5]
      have hl : frWL kd g s b = frL kd g s b := by unfold frWL; rw [if_pos he]; rfl
      have hlen := frL_length (kd := kd) (gen := g) (seq := s) (b := b) (by omega)
      rw [he, hl, hlen]
      exact rfWrite_main kd g s p cap b w h (by omega) (by omega) (by omega)
end Go.Proofs.Ytbmcajhknohhdaa

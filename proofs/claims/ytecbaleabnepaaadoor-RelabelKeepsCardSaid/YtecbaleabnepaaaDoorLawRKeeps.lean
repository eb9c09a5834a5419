/-
  The law RelabelKeeps.
-/
import Derived.Test.YtecbaleabnepaaaDoorRelV
import Derived.Test.YtecbaleabnepaaaDoorLabJ
namespace Go.Proofs.YtecbaleabnepaaaDoor
open Go.RowKit

theorem infoLab : ∀ {x y : Value}, (Tryd.prog.info? 27).map (·.size) = some (#[x, y] : Array Value).size := fun {_ _} => by show _ = some 2; kernel_rfl
theorem labsAt_keeps {w w' : World} {v : Value} {l : List (Nat × Nat)} (h : LabsAt w v l) (hB : Below w.heap.size w w') : LabsAt w' v l := by
  obtain ⟨p, cap, hv, hl, hc⟩ := h
  refine ⟨p, cap, hv, hl, fun hne => ?_⟩
  obtain ⟨b, off, hp, hb, hcs⟩ := hc hne
  refine ⟨b, off, hp, Nat.lt_of_lt_of_le hb hB.size, fun i hi => ?_⟩
  obtain ⟨h0, h1⟩ := hcs i hi
  exact ⟨(hB.cell (p := ⟨b, off + i * 2, none⟩) hb).trans h0, (hB.cell (p := ⟨b, off + i * 2 + 1, none⟩) hb).trans h1⟩
def labsK (l : List (Nat × Nat)) : Fact := ⟨fun v w => LabsAt w v l, fun _ _ _ h hB => labsAt_keeps h hB⟩
theorem labs2 (W : World) (a b c d : Nat) : LabsAt (W.alloc (.cells #[.int .u16 a, .int .u16 b, .int .u16 c, .int .u16 d] 27)) (.slice (some ⟨W.heap.size, 0, none⟩) 2 2) [(a, b), (c, d)] := by
  refine ⟨_, 2, rfl, by simp, fun _ => ⟨W.heap.size, 0, rfl, by simp, fun i hi => ?_⟩⟩
  have h := heap_alloc_new W (.cells #[.int .u16 a, .int .u16 b, .int .u16 c, .int .u16 d] 27)
  simp only [World.cell?, h, Nat.zero_add]
  have : i = 0 ∨ i = 1 := by simp at hi; omega
  rcases this with rfl | rfl <;> exact ⟨rfl, rfl⟩
theorem joinTwice (a b : Nat) (ha : a < 65536) (hb : b < 65536) (v : Value) (W : World) (h : LabsAt W v [(a, b), (a, b)]) :
    Calls Tryd.prog 23 #[v] W fun e w' => e = .returned (.agg #[.int .u16 a, .int .u16 b]) ∧ Below W.heap.size W w' := by
  have h1 : joinS 0 [(a, b), (a, b)] = a := by show (0 ||| a) ||| a = _; rw [Nat.zero_or, Nat.or_self]
  have h2 : joinI 65535 [(a, b), (a, b)] = b := by show (65535 &&& b) &&& b = _; rw [all_and hb, Nat.and_self]
  have := lJoin_any v [(a, b), (a, b)] (fun x hx => by simp at hx; rw [hx]; exact ⟨ha, hb⟩) W h
  rw [h1, h2] at this; exact this

set_option maxRecDepth 100000 in
set_option maxHeartbeats 16000000 in
theorem rkeeps_any (p : Option Addr) (cap : Nat) (l : List (Int × Int)) (a b c d : Nat) (ha : a < 65536) (hb : b < 65536) (hc : c < 65536) (hd : d < 65536) (w : World) (hI : l.length ≤ 40 → PairsAt w (.slice p l.length cap) l) (hT : TabOk w) :
    Calls Tryd.prog 5 #[.slice p l.length cap, .agg #[.int .u16 a, .int .u16 b], .agg #[.int .u16 c, .int .u16 d]] w fun e w' => e = .returned (.bool true) ∧ Below w.heap.size w w' := by
  have HA := Lib.hid (fun V (hV : Below w.heap.size w V) => relAlive_any V (hT.below hV))
  have T0 := Lib.hid (show Held w [(w.heap.size + 1, pairO (.int .u16 (c : Nat)) (.int .u16 (d : Nat))), (w.heap.size, pairO (.int .u16 (a : Nat)) (.int .u16 (b : Nat)))] ((w.alloc (pairO (.int .u16 (a : Nat)) (.int .u16 (b : Nat)))).alloc (pairO (.int .u16 (c : Nat)) (.int .u16 (d : Nat)))) from by simpa only [World.size_alloc] using ((Held.nil w).alloc (pairO (.int .u16 (a : Nat)) (.int .u16 (b : Nat)))).alloc (pairO (.int .u16 (c : Nat)) (.int .u16 (d : Nat))))
  by_cases h40 : 40 < l.length
  · have hB := Lib.hid T0.out.below
    have d0 : decide (40 < (l.length : Int)) = true := by simp; omega
    clear hI T0 hT
    go_enter Tryd.func5, Tryd.ntmps5
    go_wp2_with fail
    refine (HA.out _ hB.out).mono ?_
    rintro e w' ⟨rfl, hB'⟩
    have hBB := Lib.hid (hB.out.trans (hB'.mono hB.out.size))
    clear hB'
    go_wp2_with fail
    go_ret
    exact ⟨rfl, hBB.out⟩
  · have hP := hI (by omega)
    have d0 : decide (40 < (l.length : Int)) = false := by simp; omega
    clear hI
    have HMade := Lib.hid (fun V (hV : Below w.heap.size w V) => rrMade_any (.slice p l.length cap) l (by omega) V (PairsAt.below hP hV (Nat.le_refl _)))
    have hgf : fineB (madeF idF l) = true := madeF_fine fine_id
    generalize madeF idF l = g at *
    have hok := fine_ok hgf
    have HGf := Lib.hid hgf
    have HLa := Lib.hid (fun V (hV : Below w.heap.size w V) => rlLabel_any g a b hok ha hb V (hT.below hV))
    have HLb := Lib.hid (fun V (hV : Below w.heap.size w V) => rlLabel_any g c d hok hc hd V (hT.below hV))
    have HLx := Lib.hid (fun V (hV : Below w.heap.size w V) => (show Calls Tryd.prog 12 #[.agg (mapC g), .agg #[.int .u16 (imgN g a : Nat), .int .u16 (imgN g b : Nat)]] V fun e w' => e = .returned (.agg #[.int .u16 (imgN g a : Nat), .int .u16 (imgN g b : Nat)]) ∧ Below V.heap.size V w' from by have h := rlLabel_any g (imgN g a) (imgN g b) hok (imgN_lt _ _) (imgN_lt _ _) V (hT.below hV); rw [img_img hgf, img_img hgf] at h; exact h))
    have HTx := Lib.hid (fun V => (show Calls Tryd.prog 16 #[.agg (mapC g), .agg #[.int .u16 (imgN g a : Nat), .int .u16 (imgN g b : Nat)]] V fun e w' => e = .returned (.bool false) ∧ Below V.heap.size V w' from by have h := rlTouches_any g (imgN g a) (imgN g b) hok (imgN_lt _ _) (imgN_lt _ _) V; rw [img_touch hgf] at h; exact h))
    have HJ := Lib.hid (fun v V => joinTwice a b ha hb v V)
    have HSo := Lib.hid (fun V (hV : Below w.heap.size w V) => (show Calls Tryd.prog 10 #[.agg (mapC g), .int .u16 (a ||| c : Nat)] V fun e w' => e = .returned (.int .u16 (imgN g a ||| imgN g c : Nat)) ∧ Below V.heap.size V w' from by have h := rlSet_any g hok (a ||| c) (or_lt ha hc) V (hT.below hV); rw [img_or] at h; exact h))
    have HMv := Lib.hid (fun V => rlMoved_any g hok V)
    have HO1 := Lib.hid (u16_or_nat a c ha hc)
    have HO2 := Lib.hid (u16_or_nat (imgN g a) (imgN g c) (imgN_lt _ _) (imgN_lt _ _))
    have HO3 := Lib.hid (show bits .and .u16 (imgN g a : Nat) (movedN g : Nat) = ((0 : Nat) : Int) by rw [u16_and_nat _ _ (imgN_lt _ _) (movedN_lt _), img_moved hgf])
    clear hgf hok hT hP
    go_enter Tryd.func5, Tryd.ntmps5
    go_wp2_with fail
    refine (HMade.out _ T0.out.below).mono ?_
    rintro e w1 ⟨rfl, hB1⟩
    have TA := Lib.hid (T0.out.step hB1)
    have hs1 := (show Pair w1 (w.heap.size + 1) (.int .u16 (c : Nat)) (.int .u16 (d : Nat)) from TA.out.at 0 rfl).lt
    clear hB1 T0
    have r1 := Row.zero w1
    go_wp2_with (with_reducible refine wpList_store_map rfl rfl _ _ rfl rfl rfl r1 ?_; intro w2 hw2)
    have T1 := Lib.hid (((TA.out.step (below_one w1 _)).wrote hw2 TA.out.below.size (fun x hx => by
      simp at hx
      rcases hx with rfl | rfl
      · show w.heap.size + 1 ≠ _; omega
      · show w.heap.size ≠ _; omega)).add (show w2.heap[w1.heap.size]? = some (rowO g) from hw2.row))
    clear r1 hw2 TA hs1
    generalize w1.heap.size = bm at *
    refine wp_region_M [.val (.agg (mapC g)), .val (.agg #[.int .u16 (a : Nat), .int .u16 (b : Nat)]), .val (.agg #[.int .u16 (imgN g a : Nat), .int .u16 (imgN g b : Nat)]), .val (.agg (mapC g)), .val (.agg #[.int .u16 (c : Nat), .int .u16 (d : Nat)]), .val (.agg #[.int .u16 (imgN g c : Nat), .int .u16 (imgN g d : Nat)]), .mk (pairO (.int .u16 0) (.int .u16 0)) 8 (pairO (.int .u16 (imgN g a : Nat)) (.int .u16 (imgN g b : Nat))), .mk (pairO (.int .u16 0) (.int .u16 0)) 9 (pairO (.int .u16 (imgN g c : Nat)) (.int .u16 (imgN g d : Nat))), .st 6, .st 7]
      (fun x => { tmps := #[.slice p l.length cap, .agg #[.int .u16 (a : Nat), .int .u16 (b : Nat)], .agg #[.int .u16 (c : Nat), .int .u16 (d : Nat)], undef, .pointer (some ⟨w.heap.size, 0, none⟩), .pointer (some ⟨w.heap.size + 1, 0, none⟩), .bool false, .pointer (some ⟨bm, 0, none⟩), x 6, x 7, .slice p l.length cap, .int .i64 (l.length : Int), .bool false, undef, .slice p l.length cap, .agg (mapC g), x 0, x 1, x 2, x 3, x 4, x 5, undef, undef, undef, undef, undef, undef, undef, undef, undef, undef, undef, undef, undef, undef, undef, undef, undef, undef, undef, undef, undef, undef, undef, undef, undef, undef, undef, undef, undef, undef, undef, undef, undef, undef, undef, undef, undef, undef, undef, undef, undef, undef, undef, undef, undef, undef, undef, undef, undef, undef, undef, undef, undef, undef, undef, undef, undef, undef, undef, undef, undef, undef, undef, undef], defers := [] }) (fun _ => undef) (by kernel_rfl) rfl rfl rfl (by kernel_rfl) ?_ ?_
    · refine ⟨ObM.of_val rfl (fun x v => rfl) (fun x V hC hD => ?_), ?_⟩
      · clear hD
        have hH := T1.out.drew.step hC
        refine want_yes rfl ?_
        have k0 : Row V bm g := hH.at 0 rfl
        exact leads_value (exec_load_map rfl rfl k0) ⟨rfl, Below.refl _ _⟩
      refine ⟨ObM.of_val rfl (fun x v => rfl) (fun x V hC hD => ?_), ?_⟩
      · clear hD
        have hH := T1.out.drew.step hC
        refine want_yes rfl ?_
        have kp : Pair V (w.heap.size) (.int .u16 (a : Nat)) (.int .u16 (b : Nat)) := hH.at 2 rfl
        have k0 := kp.cell0
        have k1 := kp.cell1
        exact leads_value (v := .agg #[.int .u16 (a : Nat), .int .u16 (b : Nat)]) (by go_simp) ⟨rfl, Below.refl _ _⟩
      refine ⟨ObM.of_val rfl (fun x v => rfl) (fun x V hC hD => ?_), ?_⟩
      · have e0 : x 0 = .agg (mapC g) := hD.1 _ rfl rfl
        have e1 : x 1 = .agg #[.int .u16 (a : Nat), .int .u16 (b : Nat)] := hD.2.1 _ rfl rfl
        clear hD
        have hH := T1.out.drew.step hC
        refine want_yes rfl ?_
        exact leads_enter (by go_simp) (HLa.out V hH.below) fun w'' hB => ⟨rfl, hB⟩
      refine ⟨ObM.of_val rfl (fun x v => rfl) (fun x V hC hD => ?_), ?_⟩
      · clear hD
        have hH := T1.out.drew.step hC
        refine want_yes rfl ?_
        have k0 : Row V bm g := hH.at 0 rfl
        exact leads_value (exec_load_map rfl rfl k0) ⟨rfl, Below.refl _ _⟩
      refine ⟨ObM.of_val rfl (fun x v => rfl) (fun x V hC hD => ?_), ?_⟩
      · clear hD
        have hH := T1.out.drew.step hC
        refine want_yes rfl ?_
        have kp : Pair V (w.heap.size + 1) (.int .u16 (c : Nat)) (.int .u16 (d : Nat)) := hH.at 1 rfl
        have k0 := kp.cell0
        have k1 := kp.cell1
        exact leads_value (v := .agg #[.int .u16 (c : Nat), .int .u16 (d : Nat)]) (by go_simp) ⟨rfl, Below.refl _ _⟩
      refine ⟨ObM.of_val rfl (fun x v => rfl) (fun x V hC hD => ?_), ?_⟩
      · have e3 : x 3 = .agg (mapC g) := hD.1 _ rfl rfl
        have e4 : x 4 = .agg #[.int .u16 (c : Nat), .int .u16 (d : Nat)] := hD.2.1 _ rfl rfl
        have e2 : x 2 = .agg #[.int .u16 (imgN g a : Nat), .int .u16 (imgN g b : Nat)] := hD.2.2.1 _ rfl rfl
        clear hD
        have hH := T1.out.drew.step hC
        refine want_yes rfl ?_
        exact leads_enter (by go_simp) (HLb.out V hH.below) fun w'' hB => ⟨rfl, hB⟩
      refine ⟨ObM.of_mk rfl (fun x v => rfl) rfl (fun x V => ?_), ?_⟩
      · exact leads_value (by go_simp) ⟨rfl, below_one _ _, by simp, Pair.new V _ _⟩
      refine ⟨ObM.of_mk rfl (fun x v => rfl) rfl (fun x V => ?_), ?_⟩
      · exact leads_value (by go_simp) ⟨rfl, below_one _ _, by simp, Pair.new V _ _⟩
      refine ⟨ObM.of_st rfl rfl (fun x v => rfl) rfl (by kernel_rfl) (fun x V gb hC hx hg hD => ?_), ?_⟩
      · have e2 : x 2 = .agg #[.int .u16 (imgN g a : Nat), .int .u16 (imgN g b : Nat)] := hD.2.1 _ rfl rfl
        have e5 : x 5 = .agg #[.int .u16 (imgN g c : Nat), .int .u16 (imgN g d : Nat)] := hD.2.2.1 _ rfl rfl
        have e0 : x 0 = .agg (mapC g) := hD.2.2.2.1 _ rfl rfl
        have e1 : x 1 = .agg #[.int .u16 (a : Nat), .int .u16 (b : Nat)] := hD.2.2.2.2.1 _ rfl rfl
        clear hD
        have hH := T1.out.drew.step hC
        exact leads_store_row rfl hx e2 hg infoLab rfl (by simp [Value.oneCell'])
      refine ⟨ObM.of_st rfl rfl (fun x v => rfl) rfl (by kernel_rfl) (fun x V gb hC hx hg hD => ?_), ?_⟩
      · have e5 : x 5 = .agg #[.int .u16 (imgN g c : Nat), .int .u16 (imgN g d : Nat)] := hD.2.1 _ rfl rfl
        have e0 : x 0 = .agg (mapC g) := hD.2.2.2.1 _ rfl rfl
        have e1 : x 1 = .agg #[.int .u16 (a : Nat), .int .u16 (b : Nat)] := hD.2.2.2.2.1 _ rfl rfl
        have e2 : x 2 = .agg #[.int .u16 (imgN g a : Nat), .int .u16 (imgN g b : Nat)] := hD.2.2.2.2.2.1 _ rfl rfl
        have e3 : x 3 = .agg (mapC g) := hD.2.2.2.2.2.2.1 _ rfl rfl
        have e4 : x 4 = .agg #[.int .u16 (c : Nat), .int .u16 (d : Nat)] := hD.2.2.2.2.2.2.2.1 _ rfl rfl
        clear hD
        have hH := T1.out.drew.step hC
        exact leads_store_row rfl hx e5 hg infoLab rfl (by simp [Value.oneCell'])
      trivial
    · intro x W2 hF
      obtain ⟨-, hx1, hx2⟩ := hF.made 6 _ _ _ (by simp) rfl rfl
      obtain ⟨-, hy1, hy2⟩ := hF.made 7 _ _ _ (by simp) rfl rfl
      have T2 := Lib.hid (((T1.out.drew.step hF.below).add (show W2.heap[blkOf (x 6)]? = some (pairO (.int .u16 (imgN g a : Nat)) (.int .u16 (imgN g b : Nat))) from hx2)).add (show W2.heap[blkOf (x 7)]? = some (pairO (.int .u16 (imgN g c : Nat)) (.int .u16 (imgN g d : Nat))) from hy2))
      clear hF hx2 hy2 T1
      generalize blkOf (x 6) = bx at *
      generalize blkOf (x 7) = by' at *
      rw [hx1, hy1]
      clear hx1 hy1
      generalize x 0 = y16
      generalize x 1 = y17
      generalize x 2 = y18
      generalize x 3 = y19
      generalize x 4 = y20
      generalize x 5 = y21
      go_wp2_with fail
      cases hfl : flowsB a b c d
      · have HF1 := Lib.hid (fun V => (show Calls Tryd.prog 22 #[.agg #[.int .u16 (a : Nat), .int .u16 (b : Nat)], .agg #[.int .u16 (c : Nat), .int .u16 (d : Nat)]] V fun e w' => e = .returned (.bool false) ∧ Below V.heap.size V w' from by have h := lFlows_any a b c d V ha hb hc hd; rw [hfl] at h; exact h))
        clear hfl
        refine wp_region_factsT 20 1 (Held w [(by', pairO (.int .u16 (imgN g c : Nat)) (.int .u16 (imgN g d : Nat))), (bx, pairO (.int .u16 (imgN g a : Nat)) (.int .u16 (imgN g b : Nat))), (bm, rowO g), (w.heap.size + 1, pairO (.int .u16 (c : Nat)) (.int .u16 (d : Nat))), (w.heap.size, pairO (.int .u16 (a : Nat)) (.int .u16 (b : Nat)))]) [Fact.is (.agg #[.int .u16 (a : Nat), .int .u16 (b : Nat)]), Fact.is (.agg #[.int .u16 (c : Nat), .int .u16 (d : Nat)]), Fact.is (.bool false), Fact.is (.bool false), Fact.is (undef), Fact.is (undef), Fact.is (undef), Fact.is (undef), Fact.is (.bool false), Fact.is (.bool false), Fact.is (.agg (mapC g)), Fact.is (.agg #[.int .u16 (imgN g a : Nat), .int .u16 (imgN g b : Nat)]), Fact.is (.agg #[.int .u16 (imgN g a : Nat), .int .u16 (imgN g b : Nat)]), Fact.is (.agg #[.int .u16 (imgN g a : Nat), .int .u16 (imgN g b : Nat)]), Fact.is (.bool false), Fact.is (.bool false), Fact.is (.bool false), Fact.is (.agg (mapC g)), Fact.is (.agg #[.int .u16 (imgN g a : Nat), .int .u16 (imgN g b : Nat)]), Fact.is (.bool false)] []
          (fun x => { tmps := #[.slice p l.length cap, .agg #[.int .u16 (a : Nat), .int .u16 (b : Nat)], .agg #[.int .u16 (c : Nat), .int .u16 (d : Nat)], undef, .pointer (some ⟨w.heap.size, 0, none⟩), .pointer (some ⟨w.heap.size + 1, 0, none⟩), .bool false, .pointer (some ⟨bm, 0, none⟩), .pointer (some ⟨bx, 0, none⟩), .pointer (some ⟨by', 0, none⟩), .slice p l.length cap, .int .i64 (l.length : Int), .bool false, undef, .slice p l.length cap, .agg (mapC g), y16, y17, y18, y19, y20, y21, x 0, x 1, x 2, x 3, x 4, x 5, x 6, x 7, x 8, x 9, x 10, x 11, x 12, x 13, x 14, x 15, x 16, x 17, x 18, x 19, undef, undef, undef, undef, undef, undef, undef, undef, undef, undef, undef, undef, undef, undef, undef, undef, undef, undef, undef, undef, undef, undef, undef, undef, undef, undef, undef, undef, undef, undef, undef, undef, undef, undef, undef, undef, undef, undef, undef, undef, undef, undef, undef, undef], defers := [] }) (fun _ => undef) (by kernel_rfl) rfl rfl (by kernel_rfl) (by kernel_rfl) (T2.out.drew) (fun u v hu hB => hu.step hB) ?_ ?_
        · simp only [List.take_succ_cons, List.take_zero]
          refine ⟨⟨fun x v => rfl, fun x V hC hD => ?_⟩, ?_⟩
          · clear hD
            refine want_yes rfl ?_
            have kp : Pair V (w.heap.size) (.int .u16 (a : Nat)) (.int .u16 (b : Nat)) := hC.at 4 rfl
            have k0 := kp.cell0
            have k1 := kp.cell1
            exact leads_value (v := .agg #[.int .u16 (a : Nat), .int .u16 (b : Nat)]) (by go_simp) ⟨Below.refl _ _, rfl, fun h => absurd h (by simp)⟩
          refine ⟨⟨fun x v => rfl, fun x V hC hD => ?_⟩, ?_⟩
          · clear hD
            refine want_yes rfl ?_
            have kp : Pair V (w.heap.size + 1) (.int .u16 (c : Nat)) (.int .u16 (d : Nat)) := hC.at 3 rfl
            have k0 := kp.cell0
            have k1 := kp.cell1
            exact leads_value (v := .agg #[.int .u16 (c : Nat), .int .u16 (d : Nat)]) (by go_simp) ⟨Below.refl _ _, rfl, fun h => absurd h (by simp)⟩
          refine ⟨⟨fun x v => rfl, fun x V hC hD => ?_⟩, ?_⟩
          · have e0 : x 0 = .agg #[.int .u16 (a : Nat), .int .u16 (b : Nat)] := hD.1 rfl
            have e1 : x 1 = .agg #[.int .u16 (c : Nat), .int .u16 (d : Nat)] := hD.2.1 rfl
            clear hD
            refine want_yes rfl ?_
            exact leads_enter (by go_simp) (HF1.out V) fun w'' hB => ⟨hB, rfl, fun h => absurd h (by simp)⟩
          refine ⟨⟨fun x v => rfl, fun x V hC hD => ?_⟩, ?_⟩
          · have e2 : x 2 = .bool false := hD.1 rfl
            clear hD
            refine want_yes rfl ?_
            exact leads_value (v := .bool false) (by go_simp) ⟨Below.refl _ _, rfl, fun h => absurd h (by simp)⟩
          refine ⟨⟨fun x v => rfl, fun x V hC hD => ?_⟩, ?_⟩
          · have e3 : x 3 = .bool false := hD.1 rfl
            clear hD
            refine want_no (by simp [Region.wanted, yielded, e3]) ?_
            exact ⟨rfl, by simp⟩
          refine ⟨⟨fun x v => rfl, fun x V hC hD => ?_⟩, ?_⟩
          · have e3 : x 3 = .bool false := hD.1 rfl
            clear hD
            refine want_no (by simp [Region.wanted, yielded, e3]) ?_
            exact ⟨rfl, by simp⟩
          refine ⟨⟨fun x v => rfl, fun x V hC hD => ?_⟩, ?_⟩
          · have e4 : x 4 = undef := hD.1 rfl
            have e5 : x 5 = undef := hD.2.1 rfl
            have e3 : x 3 = .bool false := hD.2.2.1 rfl
            clear hD
            refine want_no (by simp [Region.wanted, yielded, e3]) ?_
            exact ⟨rfl, by simp⟩
          refine ⟨⟨fun x v => rfl, fun x V hC hD => ?_⟩, ?_⟩
          · have e6 : x 6 = undef := hD.1 rfl
            have e3 : x 3 = .bool false := hD.2.1 rfl
            clear hD
            refine want_no (by simp [Region.wanted, yielded, e3]) ?_
            exact ⟨rfl, by simp⟩
          refine ⟨⟨fun x v => rfl, fun x V hC hD => ?_⟩, ?_⟩
          · have e3 : x 3 = .bool false := hD.1 rfl
            have e7 : x 7 = undef := hD.2.1 rfl
            clear hD
            refine want_yes rfl ?_
            exact leads_value (v := .bool false) (by go_simp) ⟨Below.refl _ _, rfl, fun h => absurd h (by simp)⟩
          refine ⟨⟨fun x v => rfl, fun x V hC hD => ?_⟩, ?_⟩
          · have e8 : x 8 = .bool false := hD.1 rfl
            have e6 : x 6 = undef := hD.2.1 rfl
            clear hD
            refine want_yes rfl ?_
            exact leads_value (v := .bool false) (by go_simp) ⟨Below.refl _ _, rfl, fun h => absurd h (by simp)⟩
          refine ⟨⟨fun x v => rfl, fun x V hC hD => ?_⟩, ?_⟩
          · have e9 : x 9 = .bool false := hD.1 rfl
            clear hD
            refine want_yes (by simp [Region.wanted, yielded, e9]) ?_
            have k0 : Row V (bm) g := hC.at 2 rfl
            exact leads_value (exec_load_map rfl rfl k0) ⟨Below.refl _ _, rfl, fun h => absurd h (by simp)⟩
          refine ⟨⟨fun x v => rfl, fun x V hC hD => ?_⟩, ?_⟩
          · have e9 : x 9 = .bool false := hD.1 rfl
            clear hD
            refine want_yes (by simp [Region.wanted, yielded, e9]) ?_
            have kp : Pair V (bx) (.int .u16 (imgN g a : Nat)) (.int .u16 (imgN g b : Nat)) := hC.at 1 rfl
            have k0 := kp.cell0
            have k1 := kp.cell1
            exact leads_value (v := .agg #[.int .u16 (imgN g a : Nat), .int .u16 (imgN g b : Nat)]) (by go_simp) ⟨Below.refl _ _, rfl, fun h => absurd h (by simp)⟩
          refine ⟨⟨fun x v => rfl, fun x V hC hD => ?_⟩, ?_⟩
          · have e10 : x 10 = .agg (mapC g) := hD.1 rfl
            have e11 : x 11 = .agg #[.int .u16 (imgN g a : Nat), .int .u16 (imgN g b : Nat)] := hD.2.1 rfl
            have e9 : x 9 = .bool false := hD.2.2.1 rfl
            clear hD
            refine want_yes (by simp [Region.wanted, yielded, e9]) ?_
            exact leads_enter (by go_simp) (HLx.out V hC.below) fun w'' hB => ⟨hB, rfl, fun h => absurd h (by simp)⟩
          refine ⟨⟨fun x v => rfl, fun x V hC hD => ?_⟩, ?_⟩
          · have e9 : x 9 = .bool false := hD.1 rfl
            clear hD
            refine want_yes (by simp [Region.wanted, yielded, e9]) ?_
            have kp : Pair V (bx) (.int .u16 (imgN g a : Nat)) (.int .u16 (imgN g b : Nat)) := hC.at 1 rfl
            have k0 := kp.cell0
            have k1 := kp.cell1
            exact leads_value (v := .agg #[.int .u16 (imgN g a : Nat), .int .u16 (imgN g b : Nat)]) (by go_simp) ⟨Below.refl _ _, rfl, fun h => absurd h (by simp)⟩
          refine ⟨⟨fun x v => rfl, fun x V hC hD => ?_⟩, ?_⟩
          · have e12 : x 12 = .agg #[.int .u16 (imgN g a : Nat), .int .u16 (imgN g b : Nat)] := hD.1 rfl
            have e13 : x 13 = .agg #[.int .u16 (imgN g a : Nat), .int .u16 (imgN g b : Nat)] := hD.2.1 rfl
            have e9 : x 9 = .bool false := hD.2.2.1 rfl
            clear hD
            refine want_yes (by simp [Region.wanted, yielded, e9]) ?_
            exact leads_value (v := .bool false) (by go_simp) ⟨Below.refl _ _, rfl, fun h => absurd h (by simp)⟩
          refine ⟨⟨fun x v => rfl, fun x V hC hD => ?_⟩, ?_⟩
          · have e9 : x 9 = .bool false := hD.1 rfl
            have e14 : x 14 = .bool false := hD.2.1 rfl
            clear hD
            refine want_yes rfl ?_
            exact leads_value (v := .bool false) (by go_simp) ⟨Below.refl _ _, rfl, fun h => absurd h (by simp)⟩
          refine ⟨⟨fun x v => rfl, fun x V hC hD => ?_⟩, ?_⟩
          · have e15 : x 15 = .bool false := hD.1 rfl
            have e12 : x 12 = .agg #[.int .u16 (imgN g a : Nat), .int .u16 (imgN g b : Nat)] := hD.2.1 rfl
            clear hD
            refine want_yes rfl ?_
            exact leads_value (v := .bool false) (by go_simp) ⟨Below.refl _ _, rfl, fun h => absurd h (by simp)⟩
          refine ⟨⟨fun x v => rfl, fun x V hC hD => ?_⟩, ?_⟩
          · have e16 : x 16 = .bool false := hD.1 rfl
            clear hD
            refine want_yes (by simp [Region.wanted, yielded, e16]) ?_
            have k0 : Row V (bm) g := hC.at 2 rfl
            exact leads_value (exec_load_map rfl rfl k0) ⟨Below.refl _ _, rfl, fun h => absurd h (by simp)⟩
          refine ⟨⟨fun x v => rfl, fun x V hC hD => ?_⟩, ?_⟩
          · have e16 : x 16 = .bool false := hD.1 rfl
            clear hD
            refine want_yes (by simp [Region.wanted, yielded, e16]) ?_
            have kp : Pair V (bx) (.int .u16 (imgN g a : Nat)) (.int .u16 (imgN g b : Nat)) := hC.at 1 rfl
            have k0 := kp.cell0
            have k1 := kp.cell1
            exact leads_value (v := .agg #[.int .u16 (imgN g a : Nat), .int .u16 (imgN g b : Nat)]) (by go_simp) ⟨Below.refl _ _, rfl, fun h => absurd h (by simp)⟩
          refine ⟨⟨fun x v => rfl, fun x V hC hD => ?_⟩, ?_⟩
          · have e17 : x 17 = .agg (mapC g) := hD.1 rfl
            have e18 : x 18 = .agg #[.int .u16 (imgN g a : Nat), .int .u16 (imgN g b : Nat)] := hD.2.1 rfl
            have e16 : x 16 = .bool false := hD.2.2.1 rfl
            clear hD
            refine want_yes (by simp [Region.wanted, yielded, e16]) ?_
            exact leads_enter (by go_simp) (HTx.out V) fun w'' hB => ⟨hB, rfl, fun h => absurd h (by simp)⟩
          trivial
        · intro x W3 hF
          simp only [List.drop_succ_cons, List.drop_zero]
          have e16 : x 16 = .bool false := hF.fact 16 (by decide) rfl
          have e19 : x 19 = .bool false := hF.fact 19 (by decide) rfl
          have T4 := Lib.hid hF.c
          have q0 : Row W3 bm g := T4.out.at 2 rfl
          have kp : Pair W3 w.heap.size (.int .u16 (a : Nat)) (.int .u16 (b : Nat)) := T4.out.at 4 rfl
          have k0 := kp.cell0
          have k1 := kp.cell1
          clear hF kp T2
          rw [e16, e19]
          clear e16 e19
          generalize x 0 = z22
          generalize x 1 = z23
          generalize x 2 = z24
          generalize x 3 = z25
          generalize x 4 = z26
          generalize x 5 = z27
          generalize x 6 = z28
          generalize x 7 = z29
          generalize x 8 = z30
          generalize x 9 = z31
          generalize x 10 = z32
          generalize x 11 = z33
          generalize x 12 = z34
          generalize x 13 = z35
          generalize x 14 = z36
          generalize x 15 = z37
          generalize x 17 = z39
          generalize x 18 = z40
          cases htb : touchB g a b
          · have HTa := Lib.hid (fun V => (show Calls Tryd.prog 16 #[.agg (mapC g), .agg #[.int .u16 (a : Nat), .int .u16 (b : Nat)]] V fun e w' => e = .returned (.bool false) ∧ Below V.heap.size V w' from by have h := rlTouches_any g a b (fine_ok HGf.out) ha hb V; rw [htb] at h; exact h))
            have HIa := Lib.hid (img_untouched ha hb htb)
            clear htb
            go_wp2_with (with_reducible refine wpList_load_map rfl _ rfl rfl q0 ?_)
            refine (HTa.out _).mono ?_
            rintro e W4 ⟨rfl, hB4⟩
            have T3 := Lib.hid (T4.out.step hB4)
            clear hB4 T4 q0 k0 k1
            have kp : Pair W4 w.heap.size (.int .u16 (a : Nat)) (.int .u16 (b : Nat)) := T3.out.at 4 rfl
            have k0 := kp.cell0
            have k1 := kp.cell1
            have kx : Pair W4 bx (.int .u16 (imgN g a : Nat)) (.int .u16 (imgN g b : Nat)) := T3.out.at 1 rfl
            have k2 := kx.cell0
            have k3 := kx.cell1
            rw [HIa.out.1] at k2
            rw [HIa.out.2] at k3
            clear kp kx
            go_wp2_with fail
            clear k0 k1 k2 k3
            try simp only [List.append_eq, List.cons_append, List.nil_append]
            refine wp_region_factsT 34 1 (Held w [(by', pairO (.int .u16 (imgN g c : Nat)) (.int .u16 (imgN g d : Nat))), (bx, pairO (.int .u16 (imgN g a : Nat)) (.int .u16 (imgN g b : Nat))), (bm, rowO g), (w.heap.size + 1, pairO (.int .u16 (c : Nat)) (.int .u16 (d : Nat))), (w.heap.size, pairO (.int .u16 (a : Nat)) (.int .u16 (b : Nat)))]) [Fact.is (.agg (mapC g)), Fact.is (.agg #[.int .u16 (a : Nat), .int .u16 (b : Nat)]), Fact.is (.agg #[.int .u16 (a : Nat), .int .u16 (b : Nat)]), labsK [(a, b), (a, b)], Fact.is (.agg #[.int .u16 (a : Nat), .int .u16 (b : Nat)]), Fact.is (.agg #[.int .u16 (imgN g a : Nat), .int .u16 (imgN g b : Nat)]), Fact.is (.agg #[.int .u16 (imgN g a : Nat), .int .u16 (imgN g b : Nat)]), Fact.is (.bool true), Fact.is (.bool true), Fact.is (.agg (mapC g)), Fact.is (.pointer (some ⟨w.heap.size, 0, none⟩)), Fact.is (.int .u16 (a : Nat)), Fact.is (.pointer (some ⟨w.heap.size + 1, 0, none⟩)), Fact.is (.int .u16 (c : Nat)), Fact.is (.int .u16 (a ||| c : Nat)), Fact.is (.int .u16 (imgN g a ||| imgN g c : Nat)), Fact.is (.pointer (some ⟨bx, 0, none⟩)), Fact.is (.int .u16 (imgN g a : Nat)), Fact.is (.pointer (some ⟨by', 0, none⟩)), Fact.is (.int .u16 (imgN g c : Nat)), Fact.is (.int .u16 (imgN g a ||| imgN g c : Nat)), Fact.is (.bool true), Fact.is (.bool true), Fact.is (.bool true), Fact.is (.pointer (some ⟨bx, 0, none⟩)), Fact.is (.int .u16 (imgN g a : Nat)), Fact.is (.agg (mapC g)), Fact.is (.int .u16 (movedN g : Nat)), Fact.is (.int .u16 0), Fact.is (.bool true), Fact.is (.bool true), Fact.is (.bool true), Fact.is (.bool true), Fact.is (.bool true)] []
              (fun x => { tmps := #[.slice p l.length cap, .agg #[.int .u16 (a : Nat), .int .u16 (b : Nat)], .agg #[.int .u16 (c : Nat), .int .u16 (d : Nat)], undef, .pointer (some ⟨w.heap.size, 0, none⟩), .pointer (some ⟨w.heap.size + 1, 0, none⟩), .bool false, .pointer (some ⟨bm, 0, none⟩), .pointer (some ⟨bx, 0, none⟩), .pointer (some ⟨by', 0, none⟩), .slice p l.length cap, .int .i64 (l.length : Int), .bool false, undef, .slice p l.length cap, .agg (mapC g), y16, y17, y18, y19, y20, y21, z22, z23, z24, z25, z26, z27, z28, z29, z30, z31, z32, z33, z34, z35, z36, z37, .bool false, z39, z40, .bool false, .bool false, .agg (mapC g), .agg #[.int .u16 (a : Nat), .int .u16 (b : Nat)], .bool false, .bool true, .bool true, .agg #[.int .u16 (a : Nat), .int .u16 (b : Nat)], .agg #[.int .u16 (a : Nat), .int .u16 (b : Nat)], .bool false, .bool false, x 0, x 1, x 2, x 3, x 4, x 5, x 6, x 7, x 8, x 9, x 10, x 11, x 12, x 13, x 14, x 15, x 16, x 17, x 18, x 19, x 20, x 21, x 22, x 23, x 24, x 25, x 26, x 27, x 28, x 29, x 30, x 31, x 32, x 33], defers := [] }) (fun _ => undef) (by kernel_rfl) rfl rfl (by kernel_rfl) (by kernel_rfl) (T3.out.drew) (fun u v hu hB => hu.step hB) ?_ ?_
            · simp only [List.take_succ_cons, List.take_zero]
              refine ⟨⟨fun x v => rfl, fun x V hC hD => ?_⟩, ?_⟩
              · clear hD
                refine want_yes rfl ?_
                have k0 : Row V (bm) g := hC.at 2 rfl
                exact leads_value (exec_load_map rfl rfl k0) ⟨Below.refl _ _, rfl, fun h => absurd h (by simp)⟩
              refine ⟨⟨fun x v => rfl, fun x V hC hD => ?_⟩, ?_⟩
              · clear hD
                refine want_yes rfl ?_
                have kp : Pair V (w.heap.size) (.int .u16 (a : Nat)) (.int .u16 (b : Nat)) := hC.at 4 rfl
                have k0 := kp.cell0
                have k1 := kp.cell1
                exact leads_value (v := .agg #[.int .u16 (a : Nat), .int .u16 (b : Nat)]) (by go_simp) ⟨Below.refl _ _, rfl, fun h => absurd h (by simp)⟩
              refine ⟨⟨fun x v => rfl, fun x V hC hD => ?_⟩, ?_⟩
              · clear hD
                refine want_yes rfl ?_
                have kp : Pair V (w.heap.size) (.int .u16 (a : Nat)) (.int .u16 (b : Nat)) := hC.at 4 rfl
                have k0 := kp.cell0
                have k1 := kp.cell1
                exact leads_value (v := .agg #[.int .u16 (a : Nat), .int .u16 (b : Nat)]) (by go_simp) ⟨Below.refl _ _, rfl, fun h => absurd h (by simp)⟩
              refine ⟨⟨fun x v => rfl, fun x V hC hD => ?_⟩, ?_⟩
              · have e1 : x 1 = .agg #[.int .u16 (a : Nat), .int .u16 (b : Nat)] := hD.1 rfl
                have e2 : x 2 = .agg #[.int .u16 (a : Nat), .int .u16 (b : Nat)] := hD.2.1 rfl
                clear hD
                refine want_yes rfl ?_
                exact leads_value (by go_simp) ⟨below_one _ _, labs2 V a b a b, fun h => absurd h (by simp)⟩
              refine ⟨⟨fun x v => rfl, fun x V hC hD => ?_⟩, ?_⟩
              · have e3 : LabsAt V (x 3) [(a, b), (a, b)] := hD.1 rfl
                clear hD
                refine want_yes rfl ?_
                exact leads_enter (by go_simp) (HJ.out _ V e3) fun w'' hB => ⟨hB, rfl, fun h => absurd h (by simp)⟩
              refine ⟨⟨fun x v => rfl, fun x V hC hD => ?_⟩, ?_⟩
              · have e0 : x 0 = .agg (mapC g) := hD.1 rfl
                have e4 : x 4 = .agg #[.int .u16 (a : Nat), .int .u16 (b : Nat)] := hD.2.1 rfl
                clear hD
                refine want_yes rfl ?_
                exact leads_enter (by go_simp) (HLa.out V hC.below) fun w'' hB => ⟨hB, rfl, fun h => absurd h (by simp)⟩
              refine ⟨⟨fun x v => rfl, fun x V hC hD => ?_⟩, ?_⟩
              · clear hD
                refine want_yes rfl ?_
                have kp : Pair V (bx) (.int .u16 (imgN g a : Nat)) (.int .u16 (imgN g b : Nat)) := hC.at 1 rfl
                have k0 := kp.cell0
                have k1 := kp.cell1
                exact leads_value (v := .agg #[.int .u16 (imgN g a : Nat), .int .u16 (imgN g b : Nat)]) (by go_simp) ⟨Below.refl _ _, rfl, fun h => absurd h (by simp)⟩
              refine ⟨⟨fun x v => rfl, fun x V hC hD => ?_⟩, ?_⟩
              · have e5 : x 5 = .agg #[.int .u16 (imgN g a : Nat), .int .u16 (imgN g b : Nat)] := hD.1 rfl
                have e6 : x 6 = .agg #[.int .u16 (imgN g a : Nat), .int .u16 (imgN g b : Nat)] := hD.2.1 rfl
                clear hD
                refine want_yes rfl ?_
                exact leads_value (v := .bool true) (by go_simp) ⟨Below.refl _ _, rfl, fun h => absurd h (by simp)⟩
              refine ⟨⟨fun x v => rfl, fun x V hC hD => ?_⟩, ?_⟩
              · have e7 : x 7 = .bool true := hD.1 rfl
                have e5 : x 5 = .agg #[.int .u16 (imgN g a : Nat), .int .u16 (imgN g b : Nat)] := hD.2.1 rfl
                clear hD
                refine want_yes rfl ?_
                exact leads_value (v := .bool true) (by go_simp) ⟨Below.refl _ _, rfl, fun h => absurd h (by simp)⟩
              refine ⟨⟨fun x v => rfl, fun x V hC hD => ?_⟩, ?_⟩
              · have e8 : x 8 = .bool true := hD.1 rfl
                clear hD
                refine want_yes (by simp [Region.wanted, yielded, e8]) ?_
                have k0 : Row V (bm) g := hC.at 2 rfl
                exact leads_value (exec_load_map rfl rfl k0) ⟨Below.refl _ _, rfl, fun h => absurd h (by simp)⟩
              refine ⟨⟨fun x v => rfl, fun x V hC hD => ?_⟩, ?_⟩
              · have e8 : x 8 = .bool true := hD.1 rfl
                clear hD
                refine want_yes (by simp [Region.wanted, yielded, e8]) ?_
                exact leads_value (v := .pointer (some ⟨w.heap.size, 0, none⟩)) (by go_simp) ⟨Below.refl _ _, rfl, fun h => absurd h (by simp)⟩
              refine ⟨⟨fun x v => rfl, fun x V hC hD => ?_⟩, ?_⟩
              · have e10 : x 10 = .pointer (some ⟨w.heap.size, 0, none⟩) := hD.1 rfl
                have e8 : x 8 = .bool true := hD.2.1 rfl
                clear hD
                refine want_yes (by simp [Region.wanted, yielded, e8]) ?_
                have kp : Pair V (w.heap.size) (.int .u16 (a : Nat)) (.int .u16 (b : Nat)) := hC.at 4 rfl
                have k0 := kp.cell0
                exact leads_value (v := .int .u16 (a : Nat)) (by go_simp) ⟨Below.refl _ _, rfl, fun h => absurd h (by simp)⟩
              refine ⟨⟨fun x v => rfl, fun x V hC hD => ?_⟩, ?_⟩
              · have e8 : x 8 = .bool true := hD.1 rfl
                clear hD
                refine want_yes (by simp [Region.wanted, yielded, e8]) ?_
                exact leads_value (v := .pointer (some ⟨w.heap.size + 1, 0, none⟩)) (by go_simp) ⟨Below.refl _ _, rfl, fun h => absurd h (by simp)⟩
              refine ⟨⟨fun x v => rfl, fun x V hC hD => ?_⟩, ?_⟩
              · have e12 : x 12 = .pointer (some ⟨w.heap.size + 1, 0, none⟩) := hD.1 rfl
                have e8 : x 8 = .bool true := hD.2.1 rfl
                clear hD
                refine want_yes (by simp [Region.wanted, yielded, e8]) ?_
                have kp : Pair V (w.heap.size + 1) (.int .u16 (c : Nat)) (.int .u16 (d : Nat)) := hC.at 3 rfl
                have k0 := kp.cell0
                exact leads_value (v := .int .u16 (c : Nat)) (by go_simp) ⟨Below.refl _ _, rfl, fun h => absurd h (by simp)⟩
              refine ⟨⟨fun x v => rfl, fun x V hC hD => ?_⟩, ?_⟩
              · have e11 : x 11 = .int .u16 (a : Nat) := hD.1 rfl
                have e13 : x 13 = .int .u16 (c : Nat) := hD.2.1 rfl
                have e8 : x 8 = .bool true := hD.2.2.1 rfl
                clear hD
                refine want_yes (by simp [Region.wanted, yielded, e8]) ?_
                exact leads_value (v := .int .u16 (bits .or .u16 (a : Nat) (c : Nat))) (by go_simp) ⟨Below.refl _ _, by rw [HO1.out]; rfl, fun h => absurd h (by simp)⟩
              refine ⟨⟨fun x v => rfl, fun x V hC hD => ?_⟩, ?_⟩
              · have e9 : x 9 = .agg (mapC g) := hD.1 rfl
                have e14 : x 14 = .int .u16 (a ||| c : Nat) := hD.2.1 rfl
                have e8 : x 8 = .bool true := hD.2.2.1 rfl
                clear hD
                refine want_yes (by simp [Region.wanted, yielded, e8]) ?_
                exact leads_enter (by go_simp) (HSo.out V hC.below) fun w'' hB => ⟨hB, rfl, fun h => absurd h (by simp)⟩
              refine ⟨⟨fun x v => rfl, fun x V hC hD => ?_⟩, ?_⟩
              · have e8 : x 8 = .bool true := hD.1 rfl
                clear hD
                refine want_yes (by simp [Region.wanted, yielded, e8]) ?_
                exact leads_value (v := .pointer (some ⟨bx, 0, none⟩)) (by go_simp) ⟨Below.refl _ _, rfl, fun h => absurd h (by simp)⟩
              refine ⟨⟨fun x v => rfl, fun x V hC hD => ?_⟩, ?_⟩
              · have e16 : x 16 = .pointer (some ⟨bx, 0, none⟩) := hD.1 rfl
                have e8 : x 8 = .bool true := hD.2.1 rfl
                clear hD
                refine want_yes (by simp [Region.wanted, yielded, e8]) ?_
                have kp : Pair V (bx) (.int .u16 (imgN g a : Nat)) (.int .u16 (imgN g b : Nat)) := hC.at 1 rfl
                have k0 := kp.cell0
                exact leads_value (v := .int .u16 (imgN g a : Nat)) (by go_simp) ⟨Below.refl _ _, rfl, fun h => absurd h (by simp)⟩
              refine ⟨⟨fun x v => rfl, fun x V hC hD => ?_⟩, ?_⟩
              · have e8 : x 8 = .bool true := hD.1 rfl
                clear hD
                refine want_yes (by simp [Region.wanted, yielded, e8]) ?_
                exact leads_value (v := .pointer (some ⟨by', 0, none⟩)) (by go_simp) ⟨Below.refl _ _, rfl, fun h => absurd h (by simp)⟩
              refine ⟨⟨fun x v => rfl, fun x V hC hD => ?_⟩, ?_⟩
              · have e18 : x 18 = .pointer (some ⟨by', 0, none⟩) := hD.1 rfl
                have e8 : x 8 = .bool true := hD.2.1 rfl
                clear hD
                refine want_yes (by simp [Region.wanted, yielded, e8]) ?_
                have kp : Pair V (by') (.int .u16 (imgN g c : Nat)) (.int .u16 (imgN g d : Nat)) := hC.at 0 rfl
                have k0 := kp.cell0
                exact leads_value (v := .int .u16 (imgN g c : Nat)) (by go_simp) ⟨Below.refl _ _, rfl, fun h => absurd h (by simp)⟩
              refine ⟨⟨fun x v => rfl, fun x V hC hD => ?_⟩, ?_⟩
              · have e17 : x 17 = .int .u16 (imgN g a : Nat) := hD.1 rfl
                have e19 : x 19 = .int .u16 (imgN g c : Nat) := hD.2.1 rfl
                have e8 : x 8 = .bool true := hD.2.2.1 rfl
                clear hD
                refine want_yes (by simp [Region.wanted, yielded, e8]) ?_
                exact leads_value (v := .int .u16 (bits .or .u16 (imgN g a : Nat) (imgN g c : Nat))) (by go_simp) ⟨Below.refl _ _, by rw [HO2.out]; rfl, fun h => absurd h (by simp)⟩
              refine ⟨⟨fun x v => rfl, fun x V hC hD => ?_⟩, ?_⟩
              · have e15 : x 15 = .int .u16 (imgN g a ||| imgN g c : Nat) := hD.1 rfl
                have e20 : x 20 = .int .u16 (imgN g a ||| imgN g c : Nat) := hD.2.1 rfl
                have e8 : x 8 = .bool true := hD.2.2.1 rfl
                clear hD
                refine want_yes (by simp [Region.wanted, yielded, e8]) ?_
                exact leads_value (v := .bool true) (by go_simp) ⟨Below.refl _ _, rfl, fun h => absurd h (by simp)⟩
              refine ⟨⟨fun x v => rfl, fun x V hC hD => ?_⟩, ?_⟩
              · have e8 : x 8 = .bool true := hD.1 rfl
                have e21 : x 21 = .bool true := hD.2.1 rfl
                clear hD
                refine want_yes rfl ?_
                exact leads_value (v := .bool true) (by go_simp) ⟨Below.refl _ _, rfl, fun h => absurd h (by simp)⟩
              refine ⟨⟨fun x v => rfl, fun x V hC hD => ?_⟩, ?_⟩
              · have e22 : x 22 = .bool true := hD.1 rfl
                have e15 : x 15 = .int .u16 (imgN g a ||| imgN g c : Nat) := hD.2.1 rfl
                clear hD
                refine want_yes rfl ?_
                exact leads_value (v := .bool true) (by go_simp) ⟨Below.refl _ _, rfl, fun h => absurd h (by simp)⟩
              refine ⟨⟨fun x v => rfl, fun x V hC hD => ?_⟩, ?_⟩
              · have e23 : x 23 = .bool true := hD.1 rfl
                clear hD
                refine want_yes (by simp [Region.wanted, yielded, e23]) ?_
                exact leads_value (v := .pointer (some ⟨bx, 0, none⟩)) (by go_simp) ⟨Below.refl _ _, rfl, fun h => absurd h (by simp)⟩
              refine ⟨⟨fun x v => rfl, fun x V hC hD => ?_⟩, ?_⟩
              · have e24 : x 24 = .pointer (some ⟨bx, 0, none⟩) := hD.1 rfl
                have e23 : x 23 = .bool true := hD.2.1 rfl
                clear hD
                refine want_yes (by simp [Region.wanted, yielded, e23]) ?_
                have kp : Pair V (bx) (.int .u16 (imgN g a : Nat)) (.int .u16 (imgN g b : Nat)) := hC.at 1 rfl
                have k0 := kp.cell0
                exact leads_value (v := .int .u16 (imgN g a : Nat)) (by go_simp) ⟨Below.refl _ _, rfl, fun h => absurd h (by simp)⟩
              refine ⟨⟨fun x v => rfl, fun x V hC hD => ?_⟩, ?_⟩
              · have e23 : x 23 = .bool true := hD.1 rfl
                clear hD
                refine want_yes (by simp [Region.wanted, yielded, e23]) ?_
                have k0 : Row V (bm) g := hC.at 2 rfl
                exact leads_value (exec_load_map rfl rfl k0) ⟨Below.refl _ _, rfl, fun h => absurd h (by simp)⟩
              refine ⟨⟨fun x v => rfl, fun x V hC hD => ?_⟩, ?_⟩
              · have e26 : x 26 = .agg (mapC g) := hD.1 rfl
                have e23 : x 23 = .bool true := hD.2.1 rfl
                clear hD
                refine want_yes (by simp [Region.wanted, yielded, e23]) ?_
                exact leads_enter (by go_simp) (HMv.out V) fun w'' hB => ⟨hB, rfl, fun h => absurd h (by simp)⟩
              refine ⟨⟨fun x v => rfl, fun x V hC hD => ?_⟩, ?_⟩
              · have e25 : x 25 = .int .u16 (imgN g a : Nat) := hD.1 rfl
                have e27 : x 27 = .int .u16 (movedN g : Nat) := hD.2.1 rfl
                have e23 : x 23 = .bool true := hD.2.2.1 rfl
                clear hD
                refine want_yes (by simp [Region.wanted, yielded, e23]) ?_
                exact leads_value (v := .int .u16 (bits .and .u16 (imgN g a : Nat) (movedN g : Nat))) (by go_simp) ⟨Below.refl _ _, by rw [HO3.out]; rfl, fun h => absurd h (by simp)⟩
              refine ⟨⟨fun x v => rfl, fun x V hC hD => ?_⟩, ?_⟩
              · have e28 : x 28 = .int .u16 0 := hD.1 rfl
                have e23 : x 23 = .bool true := hD.2.1 rfl
                clear hD
                refine want_yes (by simp [Region.wanted, yielded, e23]) ?_
                exact leads_value (v := .bool true) (by go_simp) ⟨Below.refl _ _, rfl, fun h => absurd h (by simp)⟩
              refine ⟨⟨fun x v => rfl, fun x V hC hD => ?_⟩, ?_⟩
              · have e23 : x 23 = .bool true := hD.1 rfl
                have e29 : x 29 = .bool true := hD.2.1 rfl
                clear hD
                refine want_yes rfl ?_
                exact leads_value (v := .bool true) (by go_simp) ⟨Below.refl _ _, rfl, fun h => absurd h (by simp)⟩
              refine ⟨⟨fun x v => rfl, fun x V hC hD => ?_⟩, ?_⟩
              · have e30 : x 30 = .bool true := hD.1 rfl
                have e27 : x 27 = .int .u16 (movedN g : Nat) := hD.2.1 rfl
                clear hD
                refine want_yes rfl ?_
                exact leads_value (v := .bool true) (by go_simp) ⟨Below.refl _ _, rfl, fun h => absurd h (by simp)⟩
              refine ⟨⟨fun x v => rfl, fun x V hC hD => ?_⟩, ?_⟩
              · have e31 : x 31 = .bool true := hD.1 rfl
                clear hD
                refine want_yes (by simp [Region.wanted, yielded, e31]) ?_
                exact leads_enter (by go_simp) (HA.out V hC.below) fun w'' hB => ⟨hB, rfl, fun h => absurd h (by simp)⟩
              refine ⟨⟨fun x v => rfl, fun x V hC hD => ?_⟩, ?_⟩
              · have e31 : x 31 = .bool true := hD.1 rfl
                have e32 : x 32 = .bool true := hD.2.1 rfl
                clear hD
                refine want_yes rfl ?_
                exact leads_value (v := .bool true) (by go_simp) ⟨Below.refl _ _, rfl, fun h => absurd h (by simp)⟩
              trivial
            · intro x W5 hF
              simp only [List.drop_succ_cons, List.drop_zero]
              have e33 : x 33 = .bool true := hF.fact 33 (by decide) rfl
              have HT := Lib.hid hF.c
              clear hF
              rw [e33]
              clear e33
              go_wp2_with fail
              go_ret
              exact ⟨rfl, HT.out.below⟩
          · have HTa := Lib.hid (fun V => (show Calls Tryd.prog 16 #[.agg (mapC g), .agg #[.int .u16 (a : Nat), .int .u16 (b : Nat)]] V fun e w' => e = .returned (.bool true) ∧ Below V.heap.size V w' from by have h := rlTouches_any g a b (fine_ok HGf.out) ha hb V; rw [htb] at h; exact h))
            clear htb
            go_wp2_with (with_reducible refine wpList_load_map rfl _ rfl rfl q0 ?_)
            refine (HTa.out _).mono ?_
            rintro e W4 ⟨rfl, hB4⟩
            have T3 := Lib.hid (T4.out.step hB4)
            clear hB4 T4 q0 k0 k1
            go_wp2_with fail
            try simp only [List.append_eq, List.cons_append, List.nil_append]
            refine wp_region_factsT 34 1 (Held w [(by', pairO (.int .u16 (imgN g c : Nat)) (.int .u16 (imgN g d : Nat))), (bx, pairO (.int .u16 (imgN g a : Nat)) (.int .u16 (imgN g b : Nat))), (bm, rowO g), (w.heap.size + 1, pairO (.int .u16 (c : Nat)) (.int .u16 (d : Nat))), (w.heap.size, pairO (.int .u16 (a : Nat)) (.int .u16 (b : Nat)))]) [Fact.is (.agg (mapC g)), Fact.is (.agg #[.int .u16 (a : Nat), .int .u16 (b : Nat)]), Fact.is (.agg #[.int .u16 (a : Nat), .int .u16 (b : Nat)]), labsK [(a, b), (a, b)], Fact.is (.agg #[.int .u16 (a : Nat), .int .u16 (b : Nat)]), Fact.is (.agg #[.int .u16 (imgN g a : Nat), .int .u16 (imgN g b : Nat)]), Fact.is (.agg #[.int .u16 (imgN g a : Nat), .int .u16 (imgN g b : Nat)]), Fact.is (.bool true), Fact.is (.bool true), Fact.is (.agg (mapC g)), Fact.is (.pointer (some ⟨w.heap.size, 0, none⟩)), Fact.is (.int .u16 (a : Nat)), Fact.is (.pointer (some ⟨w.heap.size + 1, 0, none⟩)), Fact.is (.int .u16 (c : Nat)), Fact.is (.int .u16 (a ||| c : Nat)), Fact.is (.int .u16 (imgN g a ||| imgN g c : Nat)), Fact.is (.pointer (some ⟨bx, 0, none⟩)), Fact.is (.int .u16 (imgN g a : Nat)), Fact.is (.pointer (some ⟨by', 0, none⟩)), Fact.is (.int .u16 (imgN g c : Nat)), Fact.is (.int .u16 (imgN g a ||| imgN g c : Nat)), Fact.is (.bool true), Fact.is (.bool true), Fact.is (.bool true), Fact.is (.pointer (some ⟨bx, 0, none⟩)), Fact.is (.int .u16 (imgN g a : Nat)), Fact.is (.agg (mapC g)), Fact.is (.int .u16 (movedN g : Nat)), Fact.is (.int .u16 0), Fact.is (.bool true), Fact.is (.bool true), Fact.is (.bool true), Fact.is (.bool true), Fact.is (.bool true)] []
              (fun x => { tmps := #[.slice p l.length cap, .agg #[.int .u16 (a : Nat), .int .u16 (b : Nat)], .agg #[.int .u16 (c : Nat), .int .u16 (d : Nat)], undef, .pointer (some ⟨w.heap.size, 0, none⟩), .pointer (some ⟨w.heap.size + 1, 0, none⟩), .bool false, .pointer (some ⟨bm, 0, none⟩), .pointer (some ⟨bx, 0, none⟩), .pointer (some ⟨by', 0, none⟩), .slice p l.length cap, .int .i64 (l.length : Int), .bool false, undef, .slice p l.length cap, .agg (mapC g), y16, y17, y18, y19, y20, y21, z22, z23, z24, z25, z26, z27, z28, z29, z30, z31, z32, z33, z34, z35, z36, z37, .bool false, z39, z40, .bool false, .bool false, .agg (mapC g), .agg #[.int .u16 (a : Nat), .int .u16 (b : Nat)], .bool true, .bool false, .bool false, undef, undef, undef, .bool false, x 0, x 1, x 2, x 3, x 4, x 5, x 6, x 7, x 8, x 9, x 10, x 11, x 12, x 13, x 14, x 15, x 16, x 17, x 18, x 19, x 20, x 21, x 22, x 23, x 24, x 25, x 26, x 27, x 28, x 29, x 30, x 31, x 32, x 33], defers := [] }) (fun _ => undef) (by kernel_rfl) rfl rfl (by kernel_rfl) (by kernel_rfl) (T3.out.drew) (fun u v hu hB => hu.step hB) ?_ ?_
            · simp only [List.take_succ_cons, List.take_zero]
              refine ⟨⟨fun x v => rfl, fun x V hC hD => ?_⟩, ?_⟩
              · clear hD
                refine want_yes rfl ?_
                have k0 : Row V (bm) g := hC.at 2 rfl
                exact leads_value (exec_load_map rfl rfl k0) ⟨Below.refl _ _, rfl, fun h => absurd h (by simp)⟩
              refine ⟨⟨fun x v => rfl, fun x V hC hD => ?_⟩, ?_⟩
              · clear hD
                refine want_yes rfl ?_
                have kp : Pair V (w.heap.size) (.int .u16 (a : Nat)) (.int .u16 (b : Nat)) := hC.at 4 rfl
                have k0 := kp.cell0
                have k1 := kp.cell1
                exact leads_value (v := .agg #[.int .u16 (a : Nat), .int .u16 (b : Nat)]) (by go_simp) ⟨Below.refl _ _, rfl, fun h => absurd h (by simp)⟩
              refine ⟨⟨fun x v => rfl, fun x V hC hD => ?_⟩, ?_⟩
              · clear hD
                refine want_yes rfl ?_
                have kp : Pair V (w.heap.size) (.int .u16 (a : Nat)) (.int .u16 (b : Nat)) := hC.at 4 rfl
                have k0 := kp.cell0
                have k1 := kp.cell1
                exact leads_value (v := .agg #[.int .u16 (a : Nat), .int .u16 (b : Nat)]) (by go_simp) ⟨Below.refl _ _, rfl, fun h => absurd h (by simp)⟩
              refine ⟨⟨fun x v => rfl, fun x V hC hD => ?_⟩, ?_⟩
              · have e1 : x 1 = .agg #[.int .u16 (a : Nat), .int .u16 (b : Nat)] := hD.1 rfl
                have e2 : x 2 = .agg #[.int .u16 (a : Nat), .int .u16 (b : Nat)] := hD.2.1 rfl
                clear hD
                refine want_yes rfl ?_
                exact leads_value (by go_simp) ⟨below_one _ _, labs2 V a b a b, fun h => absurd h (by simp)⟩
              refine ⟨⟨fun x v => rfl, fun x V hC hD => ?_⟩, ?_⟩
              · have e3 : LabsAt V (x 3) [(a, b), (a, b)] := hD.1 rfl
                clear hD
                refine want_yes rfl ?_
                exact leads_enter (by go_simp) (HJ.out _ V e3) fun w'' hB => ⟨hB, rfl, fun h => absurd h (by simp)⟩
              refine ⟨⟨fun x v => rfl, fun x V hC hD => ?_⟩, ?_⟩
              · have e0 : x 0 = .agg (mapC g) := hD.1 rfl
                have e4 : x 4 = .agg #[.int .u16 (a : Nat), .int .u16 (b : Nat)] := hD.2.1 rfl
                clear hD
                refine want_yes rfl ?_
                exact leads_enter (by go_simp) (HLa.out V hC.below) fun w'' hB => ⟨hB, rfl, fun h => absurd h (by simp)⟩
              refine ⟨⟨fun x v => rfl, fun x V hC hD => ?_⟩, ?_⟩
              · clear hD
                refine want_yes rfl ?_
                have kp : Pair V (bx) (.int .u16 (imgN g a : Nat)) (.int .u16 (imgN g b : Nat)) := hC.at 1 rfl
                have k0 := kp.cell0
                have k1 := kp.cell1
                exact leads_value (v := .agg #[.int .u16 (imgN g a : Nat), .int .u16 (imgN g b : Nat)]) (by go_simp) ⟨Below.refl _ _, rfl, fun h => absurd h (by simp)⟩
              refine ⟨⟨fun x v => rfl, fun x V hC hD => ?_⟩, ?_⟩
              · have e5 : x 5 = .agg #[.int .u16 (imgN g a : Nat), .int .u16 (imgN g b : Nat)] := hD.1 rfl
                have e6 : x 6 = .agg #[.int .u16 (imgN g a : Nat), .int .u16 (imgN g b : Nat)] := hD.2.1 rfl
                clear hD
                refine want_yes rfl ?_
                exact leads_value (v := .bool true) (by go_simp) ⟨Below.refl _ _, rfl, fun h => absurd h (by simp)⟩
              refine ⟨⟨fun x v => rfl, fun x V hC hD => ?_⟩, ?_⟩
              · have e7 : x 7 = .bool true := hD.1 rfl
                have e5 : x 5 = .agg #[.int .u16 (imgN g a : Nat), .int .u16 (imgN g b : Nat)] := hD.2.1 rfl
                clear hD
                refine want_yes rfl ?_
                exact leads_value (v := .bool true) (by go_simp) ⟨Below.refl _ _, rfl, fun h => absurd h (by simp)⟩
              refine ⟨⟨fun x v => rfl, fun x V hC hD => ?_⟩, ?_⟩
              · have e8 : x 8 = .bool true := hD.1 rfl
                clear hD
                refine want_yes (by simp [Region.wanted, yielded, e8]) ?_
                have k0 : Row V (bm) g := hC.at 2 rfl
                exact leads_value (exec_load_map rfl rfl k0) ⟨Below.refl _ _, rfl, fun h => absurd h (by simp)⟩
              refine ⟨⟨fun x v => rfl, fun x V hC hD => ?_⟩, ?_⟩
              · have e8 : x 8 = .bool true := hD.1 rfl
                clear hD
                refine want_yes (by simp [Region.wanted, yielded, e8]) ?_
                exact leads_value (v := .pointer (some ⟨w.heap.size, 0, none⟩)) (by go_simp) ⟨Below.refl _ _, rfl, fun h => absurd h (by simp)⟩
              refine ⟨⟨fun x v => rfl, fun x V hC hD => ?_⟩, ?_⟩
              · have e10 : x 10 = .pointer (some ⟨w.heap.size, 0, none⟩) := hD.1 rfl
                have e8 : x 8 = .bool true := hD.2.1 rfl
                clear hD
                refine want_yes (by simp [Region.wanted, yielded, e8]) ?_
                have kp : Pair V (w.heap.size) (.int .u16 (a : Nat)) (.int .u16 (b : Nat)) := hC.at 4 rfl
                have k0 := kp.cell0
                exact leads_value (v := .int .u16 (a : Nat)) (by go_simp) ⟨Below.refl _ _, rfl, fun h => absurd h (by simp)⟩
              refine ⟨⟨fun x v => rfl, fun x V hC hD => ?_⟩, ?_⟩
              · have e8 : x 8 = .bool true := hD.1 rfl
                clear hD
                refine want_yes (by simp [Region.wanted, yielded, e8]) ?_
                exact leads_value (v := .pointer (some ⟨w.heap.size + 1, 0, none⟩)) (by go_simp) ⟨Below.refl _ _, rfl, fun h => absurd h (by simp)⟩
              refine ⟨⟨fun x v => rfl, fun x V hC hD => ?_⟩, ?_⟩
              · have e12 : x 12 = .pointer (some ⟨w.heap.size + 1, 0, none⟩) := hD.1 rfl
                have e8 : x 8 = .bool true := hD.2.1 rfl
                clear hD
                refine want_yes (by simp [Region.wanted, yielded, e8]) ?_
                have kp : Pair V (w.heap.size + 1) (.int .u16 (c : Nat)) (.int .u16 (d : Nat)) := hC.at 3 rfl
                have k0 := kp.cell0
                exact leads_value (v := .int .u16 (c : Nat)) (by go_simp) ⟨Below.refl _ _, rfl, fun h => absurd h (by simp)⟩
              refine ⟨⟨fun x v => rfl, fun x V hC hD => ?_⟩, ?_⟩
              · have e11 : x 11 = .int .u16 (a : Nat) := hD.1 rfl
                have e13 : x 13 = .int .u16 (c : Nat) := hD.2.1 rfl
                have e8 : x 8 = .bool true := hD.2.2.1 rfl
                clear hD
                refine want_yes (by simp [Region.wanted, yielded, e8]) ?_
                exact leads_value (v := .int .u16 (bits .or .u16 (a : Nat) (c : Nat))) (by go_simp) ⟨Below.refl _ _, by rw [HO1.out]; rfl, fun h => absurd h (by simp)⟩
              refine ⟨⟨fun x v => rfl, fun x V hC hD => ?_⟩, ?_⟩
              · have e9 : x 9 = .agg (mapC g) := hD.1 rfl
                have e14 : x 14 = .int .u16 (a ||| c : Nat) := hD.2.1 rfl
                have e8 : x 8 = .bool true := hD.2.2.1 rfl
                clear hD
                refine want_yes (by simp [Region.wanted, yielded, e8]) ?_
                exact leads_enter (by go_simp) (HSo.out V hC.below) fun w'' hB => ⟨hB, rfl, fun h => absurd h (by simp)⟩
              refine ⟨⟨fun x v => rfl, fun x V hC hD => ?_⟩, ?_⟩
              · have e8 : x 8 = .bool true := hD.1 rfl
                clear hD
                refine want_yes (by simp [Region.wanted, yielded, e8]) ?_
                exact leads_value (v := .pointer (some ⟨bx, 0, none⟩)) (by go_simp) ⟨Below.refl _ _, rfl, fun h => absurd h (by simp)⟩
              refine ⟨⟨fun x v => rfl, fun x V hC hD => ?_⟩, ?_⟩
              · have e16 : x 16 = .pointer (some ⟨bx, 0, none⟩) := hD.1 rfl
                have e8 : x 8 = .bool true := hD.2.1 rfl
                clear hD
                refine want_yes (by simp [Region.wanted, yielded, e8]) ?_
                have kp : Pair V (bx) (.int .u16 (imgN g a : Nat)) (.int .u16 (imgN g b : Nat)) := hC.at 1 rfl
                have k0 := kp.cell0
                exact leads_value (v := .int .u16 (imgN g a : Nat)) (by go_simp) ⟨Below.refl _ _, rfl, fun h => absurd h (by simp)⟩
              refine ⟨⟨fun x v => rfl, fun x V hC hD => ?_⟩, ?_⟩
              · have e8 : x 8 = .bool true := hD.1 rfl
                clear hD
                refine want_yes (by simp [Region.wanted, yielded, e8]) ?_
                exact leads_value (v := .pointer (some ⟨by', 0, none⟩)) (by go_simp) ⟨Below.refl _ _, rfl, fun h => absurd h (by simp)⟩
              refine ⟨⟨fun x v => rfl, fun x V hC hD => ?_⟩, ?_⟩
              · have e18 : x 18 = .pointer (some ⟨by', 0, none⟩) := hD.1 rfl
                have e8 : x 8 = .bool true := hD.2.1 rfl
                clear hD
                refine want_yes (by simp [Region.wanted, yielded, e8]) ?_
                have kp : Pair V (by') (.int .u16 (imgN g c : Nat)) (.int .u16 (imgN g d : Nat)) := hC.at 0 rfl
                have k0 := kp.cell0
                exact leads_value (v := .int .u16 (imgN g c : Nat)) (by go_simp) ⟨Below.refl _ _, rfl, fun h => absurd h (by simp)⟩
              refine ⟨⟨fun x v => rfl, fun x V hC hD => ?_⟩, ?_⟩
              · have e17 : x 17 = .int .u16 (imgN g a : Nat) := hD.1 rfl
                have e19 : x 19 = .int .u16 (imgN g c : Nat) := hD.2.1 rfl
                have e8 : x 8 = .bool true := hD.2.2.1 rfl
                clear hD
                refine want_yes (by simp [Region.wanted, yielded, e8]) ?_
                exact leads_value (v := .int .u16 (bits .or .u16 (imgN g a : Nat) (imgN g c : Nat))) (by go_simp) ⟨Below.refl _ _, by rw [HO2.out]; rfl, fun h => absurd h (by simp)⟩
              refine ⟨⟨fun x v => rfl, fun x V hC hD => ?_⟩, ?_⟩
              · have e15 : x 15 = .int .u16 (imgN g a ||| imgN g c : Nat) := hD.1 rfl
                have e20 : x 20 = .int .u16 (imgN g a ||| imgN g c : Nat) := hD.2.1 rfl
                have e8 : x 8 = .bool true := hD.2.2.1 rfl
                clear hD
                refine want_yes (by simp [Region.wanted, yielded, e8]) ?_
                exact leads_value (v := .bool true) (by go_simp) ⟨Below.refl _ _, rfl, fun h => absurd h (by simp)⟩
              refine ⟨⟨fun x v => rfl, fun x V hC hD => ?_⟩, ?_⟩
              · have e8 : x 8 = .bool true := hD.1 rfl
                have e21 : x 21 = .bool true := hD.2.1 rfl
                clear hD
                refine want_yes rfl ?_
                exact leads_value (v := .bool true) (by go_simp) ⟨Below.refl _ _, rfl, fun h => absurd h (by simp)⟩
              refine ⟨⟨fun x v => rfl, fun x V hC hD => ?_⟩, ?_⟩
              · have e22 : x 22 = .bool true := hD.1 rfl
                have e15 : x 15 = .int .u16 (imgN g a ||| imgN g c : Nat) := hD.2.1 rfl
                clear hD
                refine want_yes rfl ?_
                exact leads_value (v := .bool true) (by go_simp) ⟨Below.refl _ _, rfl, fun h => absurd h (by simp)⟩
              refine ⟨⟨fun x v => rfl, fun x V hC hD => ?_⟩, ?_⟩
              · have e23 : x 23 = .bool true := hD.1 rfl
                clear hD
                refine want_yes (by simp [Region.wanted, yielded, e23]) ?_
                exact leads_value (v := .pointer (some ⟨bx, 0, none⟩)) (by go_simp) ⟨Below.refl _ _, rfl, fun h => absurd h (by simp)⟩
              refine ⟨⟨fun x v => rfl, fun x V hC hD => ?_⟩, ?_⟩
              · have e24 : x 24 = .pointer (some ⟨bx, 0, none⟩) := hD.1 rfl
                have e23 : x 23 = .bool true := hD.2.1 rfl
                clear hD
                refine want_yes (by simp [Region.wanted, yielded, e23]) ?_
                have kp : Pair V (bx) (.int .u16 (imgN g a : Nat)) (.int .u16 (imgN g b : Nat)) := hC.at 1 rfl
                have k0 := kp.cell0
                exact leads_value (v := .int .u16 (imgN g a : Nat)) (by go_simp) ⟨Below.refl _ _, rfl, fun h => absurd h (by simp)⟩
              refine ⟨⟨fun x v => rfl, fun x V hC hD => ?_⟩, ?_⟩
              · have e23 : x 23 = .bool true := hD.1 rfl
                clear hD
                refine want_yes (by simp [Region.wanted, yielded, e23]) ?_
                have k0 : Row V (bm) g := hC.at 2 rfl
                exact leads_value (exec_load_map rfl rfl k0) ⟨Below.refl _ _, rfl, fun h => absurd h (by simp)⟩
              refine ⟨⟨fun x v => rfl, fun x V hC hD => ?_⟩, ?_⟩
              · have e26 : x 26 = .agg (mapC g) := hD.1 rfl
                have e23 : x 23 = .bool true := hD.2.1 rfl
                clear hD
                refine want_yes (by simp [Region.wanted, yielded, e23]) ?_
                exact leads_enter (by go_simp) (HMv.out V) fun w'' hB => ⟨hB, rfl, fun h => absurd h (by simp)⟩
              refine ⟨⟨fun x v => rfl, fun x V hC hD => ?_⟩, ?_⟩
              · have e25 : x 25 = .int .u16 (imgN g a : Nat) := hD.1 rfl
                have e27 : x 27 = .int .u16 (movedN g : Nat) := hD.2.1 rfl
                have e23 : x 23 = .bool true := hD.2.2.1 rfl
                clear hD
                refine want_yes (by simp [Region.wanted, yielded, e23]) ?_
                exact leads_value (v := .int .u16 (bits .and .u16 (imgN g a : Nat) (movedN g : Nat))) (by go_simp) ⟨Below.refl _ _, by rw [HO3.out]; rfl, fun h => absurd h (by simp)⟩
              refine ⟨⟨fun x v => rfl, fun x V hC hD => ?_⟩, ?_⟩
              · have e28 : x 28 = .int .u16 0 := hD.1 rfl
                have e23 : x 23 = .bool true := hD.2.1 rfl
                clear hD
                refine want_yes (by simp [Region.wanted, yielded, e23]) ?_
                exact leads_value (v := .bool true) (by go_simp) ⟨Below.refl _ _, rfl, fun h => absurd h (by simp)⟩
              refine ⟨⟨fun x v => rfl, fun x V hC hD => ?_⟩, ?_⟩
              · have e23 : x 23 = .bool true := hD.1 rfl
                have e29 : x 29 = .bool true := hD.2.1 rfl
                clear hD
                refine want_yes rfl ?_
                exact leads_value (v := .bool true) (by go_simp) ⟨Below.refl _ _, rfl, fun h => absurd h (by simp)⟩
              refine ⟨⟨fun x v => rfl, fun x V hC hD => ?_⟩, ?_⟩
              · have e30 : x 30 = .bool true := hD.1 rfl
                have e27 : x 27 = .int .u16 (movedN g : Nat) := hD.2.1 rfl
                clear hD
                refine want_yes rfl ?_
                exact leads_value (v := .bool true) (by go_simp) ⟨Below.refl _ _, rfl, fun h => absurd h (by simp)⟩
              refine ⟨⟨fun x v => rfl, fun x V hC hD => ?_⟩, ?_⟩
              · have e31 : x 31 = .bool true := hD.1 rfl
                clear hD
                refine want_yes (by simp [Region.wanted, yielded, e31]) ?_
                exact leads_enter (by go_simp) (HA.out V hC.below) fun w'' hB => ⟨hB, rfl, fun h => absurd h (by simp)⟩
              refine ⟨⟨fun x v => rfl, fun x V hC hD => ?_⟩, ?_⟩
              · have e31 : x 31 = .bool true := hD.1 rfl
                have e32 : x 32 = .bool true := hD.2.1 rfl
                clear hD
                refine want_yes rfl ?_
                exact leads_value (v := .bool true) (by go_simp) ⟨Below.refl _ _, rfl, fun h => absurd h (by simp)⟩
              trivial
            · intro x W5 hF
              simp only [List.drop_succ_cons, List.drop_zero]
              have e33 : x 33 = .bool true := hF.fact 33 (by decide) rfl
              have HT := Lib.hid hF.c
              clear hF
              rw [e33]
              clear e33
              go_wp2_with fail
              go_ret
              exact ⟨rfl, HT.out.below⟩
      · have HF1 := Lib.hid (fun V => (show Calls Tryd.prog 22 #[.agg #[.int .u16 (a : Nat), .int .u16 (b : Nat)], .agg #[.int .u16 (c : Nat), .int .u16 (d : Nat)]] V fun e w' => e = .returned (.bool true) ∧ Below V.heap.size V w' from by have h := lFlows_any a b c d V ha hb hc hd; rw [hfl] at h; exact h))
        have HF2 := Lib.hid (fun V => (show Calls Tryd.prog 22 #[.agg #[.int .u16 (imgN g a : Nat), .int .u16 (imgN g b : Nat)], .agg #[.int .u16 (imgN g c : Nat), .int .u16 (imgN g d : Nat)]] V fun e w' => e = .returned (.bool true) ∧ Below V.heap.size V w' from by have h := lFlows_any (imgN g a) (imgN g b) (imgN g c) (imgN g d) V (imgN_lt _ _) (imgN_lt _ _) (imgN_lt _ _) (imgN_lt _ _); rw [img_flows hfl] at h; exact h))
        clear hfl
        refine wp_region_factsT 20 1 (Held w [(by', pairO (.int .u16 (imgN g c : Nat)) (.int .u16 (imgN g d : Nat))), (bx, pairO (.int .u16 (imgN g a : Nat)) (.int .u16 (imgN g b : Nat))), (bm, rowO g), (w.heap.size + 1, pairO (.int .u16 (c : Nat)) (.int .u16 (d : Nat))), (w.heap.size, pairO (.int .u16 (a : Nat)) (.int .u16 (b : Nat)))]) [Fact.is (.agg #[.int .u16 (a : Nat), .int .u16 (b : Nat)]), Fact.is (.agg #[.int .u16 (c : Nat), .int .u16 (d : Nat)]), Fact.is (.bool true), Fact.is (.bool true), Fact.is (.agg #[.int .u16 (imgN g a : Nat), .int .u16 (imgN g b : Nat)]), Fact.is (.agg #[.int .u16 (imgN g c : Nat), .int .u16 (imgN g d : Nat)]), Fact.is (.bool true), Fact.is (.bool false), Fact.is (.bool false), Fact.is (.bool false), Fact.is (.agg (mapC g)), Fact.is (.agg #[.int .u16 (imgN g a : Nat), .int .u16 (imgN g b : Nat)]), Fact.is (.agg #[.int .u16 (imgN g a : Nat), .int .u16 (imgN g b : Nat)]), Fact.is (.agg #[.int .u16 (imgN g a : Nat), .int .u16 (imgN g b : Nat)]), Fact.is (.bool false), Fact.is (.bool false), Fact.is (.bool false), Fact.is (.agg (mapC g)), Fact.is (.agg #[.int .u16 (imgN g a : Nat), .int .u16 (imgN g b : Nat)]), Fact.is (.bool false)] []
          (fun x => { tmps := #[.slice p l.length cap, .agg #[.int .u16 (a : Nat), .int .u16 (b : Nat)], .agg #[.int .u16 (c : Nat), .int .u16 (d : Nat)], undef, .pointer (some ⟨w.heap.size, 0, none⟩), .pointer (some ⟨w.heap.size + 1, 0, none⟩), .bool false, .pointer (some ⟨bm, 0, none⟩), .pointer (some ⟨bx, 0, none⟩), .pointer (some ⟨by', 0, none⟩), .slice p l.length cap, .int .i64 (l.length : Int), .bool false, undef, .slice p l.length cap, .agg (mapC g), y16, y17, y18, y19, y20, y21, x 0, x 1, x 2, x 3, x 4, x 5, x 6, x 7, x 8, x 9, x 10, x 11, x 12, x 13, x 14, x 15, x 16, x 17, x 18, x 19, undef, undef, undef, undef, undef, undef, undef, undef, undef, undef, undef, undef, undef, undef, undef, undef, undef, undef, undef, undef, undef, undef, undef, undef, undef, undef, undef, undef, undef, undef, undef, undef, undef, undef, undef, undef, undef, undef, undef, undef, undef, undef, undef, undef], defers := [] }) (fun _ => undef) (by kernel_rfl) rfl rfl (by kernel_rfl) (by kernel_rfl) (T2.out.drew) (fun u v hu hB => hu.step hB) ?_ ?_
        · simp only [List.take_succ_cons, List.take_zero]
          refine ⟨⟨fun x v => rfl, fun x V hC hD => ?_⟩, ?_⟩
          · clear hD
            refine want_yes rfl ?_
            have kp : Pair V (w.heap.size) (.int .u16 (a : Nat)) (.int .u16 (b : Nat)) := hC.at 4 rfl
            have k0 := kp.cell0
            have k1 := kp.cell1
            exact leads_value (v := .agg #[.int .u16 (a : Nat), .int .u16 (b : Nat)]) (by go_simp) ⟨Below.refl _ _, rfl, fun h => absurd h (by simp)⟩
          refine ⟨⟨fun x v => rfl, fun x V hC hD => ?_⟩, ?_⟩
          · clear hD
            refine want_yes rfl ?_
            have kp : Pair V (w.heap.size + 1) (.int .u16 (c : Nat)) (.int .u16 (d : Nat)) := hC.at 3 rfl
            have k0 := kp.cell0
            have k1 := kp.cell1
            exact leads_value (v := .agg #[.int .u16 (c : Nat), .int .u16 (d : Nat)]) (by go_simp) ⟨Below.refl _ _, rfl, fun h => absurd h (by simp)⟩
          refine ⟨⟨fun x v => rfl, fun x V hC hD => ?_⟩, ?_⟩
          · have e0 : x 0 = .agg #[.int .u16 (a : Nat), .int .u16 (b : Nat)] := hD.1 rfl
            have e1 : x 1 = .agg #[.int .u16 (c : Nat), .int .u16 (d : Nat)] := hD.2.1 rfl
            clear hD
            refine want_yes rfl ?_
            exact leads_enter (by go_simp) (HF1.out V) fun w'' hB => ⟨hB, rfl, fun h => absurd h (by simp)⟩
          refine ⟨⟨fun x v => rfl, fun x V hC hD => ?_⟩, ?_⟩
          · have e2 : x 2 = .bool true := hD.1 rfl
            clear hD
            refine want_yes rfl ?_
            exact leads_value (v := .bool true) (by go_simp) ⟨Below.refl _ _, rfl, fun h => absurd h (by simp)⟩
          refine ⟨⟨fun x v => rfl, fun x V hC hD => ?_⟩, ?_⟩
          · have e3 : x 3 = .bool true := hD.1 rfl
            clear hD
            refine want_yes (by simp [Region.wanted, yielded, e3]) ?_
            have kp : Pair V (bx) (.int .u16 (imgN g a : Nat)) (.int .u16 (imgN g b : Nat)) := hC.at 1 rfl
            have k0 := kp.cell0
            have k1 := kp.cell1
            exact leads_value (v := .agg #[.int .u16 (imgN g a : Nat), .int .u16 (imgN g b : Nat)]) (by go_simp) ⟨Below.refl _ _, rfl, fun h => absurd h (by simp)⟩
          refine ⟨⟨fun x v => rfl, fun x V hC hD => ?_⟩, ?_⟩
          · have e3 : x 3 = .bool true := hD.1 rfl
            clear hD
            refine want_yes (by simp [Region.wanted, yielded, e3]) ?_
            have kp : Pair V (by') (.int .u16 (imgN g c : Nat)) (.int .u16 (imgN g d : Nat)) := hC.at 0 rfl
            have k0 := kp.cell0
            have k1 := kp.cell1
            exact leads_value (v := .agg #[.int .u16 (imgN g c : Nat), .int .u16 (imgN g d : Nat)]) (by go_simp) ⟨Below.refl _ _, rfl, fun h => absurd h (by simp)⟩
          refine ⟨⟨fun x v => rfl, fun x V hC hD => ?_⟩, ?_⟩
          · have e4 : x 4 = .agg #[.int .u16 (imgN g a : Nat), .int .u16 (imgN g b : Nat)] := hD.1 rfl
            have e5 : x 5 = .agg #[.int .u16 (imgN g c : Nat), .int .u16 (imgN g d : Nat)] := hD.2.1 rfl
            have e3 : x 3 = .bool true := hD.2.2.1 rfl
            clear hD
            refine want_yes (by simp [Region.wanted, yielded, e3]) ?_
            exact leads_enter (by go_simp) (HF2.out V) fun w'' hB => ⟨hB, rfl, fun h => absurd h (by simp)⟩
          refine ⟨⟨fun x v => rfl, fun x V hC hD => ?_⟩, ?_⟩
          · have e6 : x 6 = .bool true := hD.1 rfl
            have e3 : x 3 = .bool true := hD.2.1 rfl
            clear hD
            refine want_yes (by simp [Region.wanted, yielded, e3]) ?_
            exact leads_value (v := .bool false) (by go_simp) ⟨Below.refl _ _, rfl, fun h => absurd h (by simp)⟩
          refine ⟨⟨fun x v => rfl, fun x V hC hD => ?_⟩, ?_⟩
          · have e3 : x 3 = .bool true := hD.1 rfl
            have e7 : x 7 = .bool false := hD.2.1 rfl
            clear hD
            refine want_yes rfl ?_
            exact leads_value (v := .bool false) (by go_simp) ⟨Below.refl _ _, rfl, fun h => absurd h (by simp)⟩
          refine ⟨⟨fun x v => rfl, fun x V hC hD => ?_⟩, ?_⟩
          · have e8 : x 8 = .bool false := hD.1 rfl
            have e6 : x 6 = .bool true := hD.2.1 rfl
            clear hD
            refine want_yes rfl ?_
            exact leads_value (v := .bool false) (by go_simp) ⟨Below.refl _ _, rfl, fun h => absurd h (by simp)⟩
          refine ⟨⟨fun x v => rfl, fun x V hC hD => ?_⟩, ?_⟩
          · have e9 : x 9 = .bool false := hD.1 rfl
            clear hD
            refine want_yes (by simp [Region.wanted, yielded, e9]) ?_
            have k0 : Row V (bm) g := hC.at 2 rfl
            exact leads_value (exec_load_map rfl rfl k0) ⟨Below.refl _ _, rfl, fun h => absurd h (by simp)⟩
          refine ⟨⟨fun x v => rfl, fun x V hC hD => ?_⟩, ?_⟩
          · have e9 : x 9 = .bool false := hD.1 rfl
            clear hD
            refine want_yes (by simp [Region.wanted, yielded, e9]) ?_
            have kp : Pair V (bx) (.int .u16 (imgN g a : Nat)) (.int .u16 (imgN g b : Nat)) := hC.at 1 rfl
            have k0 := kp.cell0
            have k1 := kp.cell1
            exact leads_value (v := .agg #[.int .u16 (imgN g a : Nat), .int .u16 (imgN g b : Nat)]) (by go_simp) ⟨Below.refl _ _, rfl, fun h => absurd h (by simp)⟩
          refine ⟨⟨fun x v => rfl, fun x V hC hD => ?_⟩, ?_⟩
          · have e10 : x 10 = .agg (mapC g) := hD.1 rfl
            have e11 : x 11 = .agg #[.int .u16 (imgN g a : Nat), .int .u16 (imgN g b : Nat)] := hD.2.1 rfl
            have e9 : x 9 = .bool false := hD.2.2.1 rfl
            clear hD
            refine want_yes (by simp [Region.wanted, yielded, e9]) ?_
            exact leads_enter (by go_simp) (HLx.out V hC.below) fun w'' hB => ⟨hB, rfl, fun h => absurd h (by simp)⟩
          refine ⟨⟨fun x v => rfl, fun x V hC hD => ?_⟩, ?_⟩
          · have e9 : x 9 = .bool false := hD.1 rfl
            clear hD
            refine want_yes (by simp [Region.wanted, yielded, e9]) ?_
            have kp : Pair V (bx) (.int .u16 (imgN g a : Nat)) (.int .u16 (imgN g b : Nat)) := hC.at 1 rfl
            have k0 := kp.cell0
            have k1 := kp.cell1
            exact leads_value (v := .agg #[.int .u16 (imgN g a : Nat), .int .u16 (imgN g b : Nat)]) (by go_simp) ⟨Below.refl _ _, rfl, fun h => absurd h (by simp)⟩
          refine ⟨⟨fun x v => rfl, fun x V hC hD => ?_⟩, ?_⟩
          · have e12 : x 12 = .agg #[.int .u16 (imgN g a : Nat), .int .u16 (imgN g b : Nat)] := hD.1 rfl
            have e13 : x 13 = .agg #[.int .u16 (imgN g a : Nat), .int .u16 (imgN g b : Nat)] := hD.2.1 rfl
            have e9 : x 9 = .bool false := hD.2.2.1 rfl
            clear hD
            refine want_yes (by simp [Region.wanted, yielded, e9]) ?_
            exact leads_value (v := .bool false) (by go_simp) ⟨Below.refl _ _, rfl, fun h => absurd h (by simp)⟩
          refine ⟨⟨fun x v => rfl, fun x V hC hD => ?_⟩, ?_⟩
          · have e9 : x 9 = .bool false := hD.1 rfl
            have e14 : x 14 = .bool false := hD.2.1 rfl
            clear hD
            refine want_yes rfl ?_
            exact leads_value (v := .bool false) (by go_simp) ⟨Below.refl _ _, rfl, fun h => absurd h (by simp)⟩
          refine ⟨⟨fun x v => rfl, fun x V hC hD => ?_⟩, ?_⟩
          · have e15 : x 15 = .bool false := hD.1 rfl
            have e12 : x 12 = .agg #[.int .u16 (imgN g a : Nat), .int .u16 (imgN g b : Nat)] := hD.2.1 rfl
            clear hD
            refine want_yes rfl ?_
            exact leads_value (v := .bool false) (by go_simp) ⟨Below.refl _ _, rfl, fun h => absurd h (by simp)⟩
          refine ⟨⟨fun x v => rfl, fun x V hC hD => ?_⟩, ?_⟩
          · have e16 : x 16 = .bool false := hD.1 rfl
            clear hD
            refine want_yes (by simp [Region.wanted, yielded, e16]) ?_
            have k0 : Row V (bm) g := hC.at 2 rfl
            exact leads_value (exec_load_map rfl rfl k0) ⟨Below.refl _ _, rfl, fun h => absurd h (by simp)⟩
          refine ⟨⟨fun x v => rfl, fun x V hC hD => ?_⟩, ?_⟩
          · have e16 : x 16 = .bool false := hD.1 rfl
            clear hD
            refine want_yes (by simp [Region.wanted, yielded, e16]) ?_
            have kp : Pair V (bx) (.int .u16 (imgN g a : Nat)) (.int .u16 (imgN g b : Nat)) := hC.at 1 rfl
            have k0 := kp.cell0
            have k1 := kp.cell1
            exact leads_value (v := .agg #[.int .u16 (imgN g a : Nat), .int .u16 (imgN g b : Nat)]) (by go_simp) ⟨Below.refl _ _, rfl, fun h => absurd h (by simp)⟩
          refine ⟨⟨fun x v => rfl, fun x V hC hD => ?_⟩, ?_⟩
          · have e17 : x 17 = .agg (mapC g) := hD.1 rfl
            have e18 : x 18 = .agg #[.int .u16 (imgN g a : Nat), .int .u16 (imgN g b : Nat)] := hD.2.1 rfl
            have e16 : x 16 = .bool false := hD.2.2.1 rfl
            clear hD
            refine want_yes (by simp [Region.wanted, yielded, e16]) ?_
            exact leads_enter (by go_simp) (HTx.out V) fun w'' hB => ⟨hB, rfl, fun h => absurd h (by simp)⟩
          trivial
        · intro x W3 hF
          simp only [List.drop_succ_cons, List.drop_zero]
          have e16 : x 16 = .bool false := hF.fact 16 (by decide) rfl
          have e19 : x 19 = .bool false := hF.fact 19 (by decide) rfl
          have T4 := Lib.hid hF.c
          have q0 : Row W3 bm g := T4.out.at 2 rfl
          have kp : Pair W3 w.heap.size (.int .u16 (a : Nat)) (.int .u16 (b : Nat)) := T4.out.at 4 rfl
          have k0 := kp.cell0
          have k1 := kp.cell1
          clear hF kp T2
          rw [e16, e19]
          clear e16 e19
          generalize x 0 = z22
          generalize x 1 = z23
          generalize x 2 = z24
          generalize x 3 = z25
          generalize x 4 = z26
          generalize x 5 = z27
          generalize x 6 = z28
          generalize x 7 = z29
          generalize x 8 = z30
          generalize x 9 = z31
          generalize x 10 = z32
          generalize x 11 = z33
          generalize x 12 = z34
          generalize x 13 = z35
          generalize x 14 = z36
          generalize x 15 = z37
          generalize x 17 = z39
          generalize x 18 = z40
          cases htb : touchB g a b
          · have HTa := Lib.hid (fun V => (show Calls Tryd.prog 16 #[.agg (mapC g), .agg #[.int .u16 (a : Nat), .int .u16 (b : Nat)]] V fun e w' => e = .returned (.bool false) ∧ Below V.heap.size V w' from by have h := rlTouches_any g a b (fine_ok HGf.out) ha hb V; rw [htb] at h; exact h))
            have HIa := Lib.hid (img_untouched ha hb htb)
            clear htb
            go_wp2_with (with_reducible refine wpList_load_map rfl _ rfl rfl q0 ?_)
            refine (HTa.out _).mono ?_
            rintro e W4 ⟨rfl, hB4⟩
            have T3 := Lib.hid (T4.out.step hB4)
            clear hB4 T4 q0 k0 k1
            have kp : Pair W4 w.heap.size (.int .u16 (a : Nat)) (.int .u16 (b : Nat)) := T3.out.at 4 rfl
            have k0 := kp.cell0
            have k1 := kp.cell1
            have kx : Pair W4 bx (.int .u16 (imgN g a : Nat)) (.int .u16 (imgN g b : Nat)) := T3.out.at 1 rfl
            have k2 := kx.cell0
            have k3 := kx.cell1
            rw [HIa.out.1] at k2
            rw [HIa.out.2] at k3
            clear kp kx
            go_wp2_with fail
            clear k0 k1 k2 k3
            try simp only [List.append_eq, List.cons_append, List.nil_append]
            refine wp_region_factsT 34 1 (Held w [(by', pairO (.int .u16 (imgN g c : Nat)) (.int .u16 (imgN g d : Nat))), (bx, pairO (.int .u16 (imgN g a : Nat)) (.int .u16 (imgN g b : Nat))), (bm, rowO g), (w.heap.size + 1, pairO (.int .u16 (c : Nat)) (.int .u16 (d : Nat))), (w.heap.size, pairO (.int .u16 (a : Nat)) (.int .u16 (b : Nat)))]) [Fact.is (.agg (mapC g)), Fact.is (.agg #[.int .u16 (a : Nat), .int .u16 (b : Nat)]), Fact.is (.agg #[.int .u16 (a : Nat), .int .u16 (b : Nat)]), labsK [(a, b), (a, b)], Fact.is (.agg #[.int .u16 (a : Nat), .int .u16 (b : Nat)]), Fact.is (.agg #[.int .u16 (imgN g a : Nat), .int .u16 (imgN g b : Nat)]), Fact.is (.agg #[.int .u16 (imgN g a : Nat), .int .u16 (imgN g b : Nat)]), Fact.is (.bool true), Fact.is (.bool true), Fact.is (.agg (mapC g)), Fact.is (.pointer (some ⟨w.heap.size, 0, none⟩)), Fact.is (.int .u16 (a : Nat)), Fact.is (.pointer (some ⟨w.heap.size + 1, 0, none⟩)), Fact.is (.int .u16 (c : Nat)), Fact.is (.int .u16 (a ||| c : Nat)), Fact.is (.int .u16 (imgN g a ||| imgN g c : Nat)), Fact.is (.pointer (some ⟨bx, 0, none⟩)), Fact.is (.int .u16 (imgN g a : Nat)), Fact.is (.pointer (some ⟨by', 0, none⟩)), Fact.is (.int .u16 (imgN g c : Nat)), Fact.is (.int .u16 (imgN g a ||| imgN g c : Nat)), Fact.is (.bool true), Fact.is (.bool true), Fact.is (.bool true), Fact.is (.pointer (some ⟨bx, 0, none⟩)), Fact.is (.int .u16 (imgN g a : Nat)), Fact.is (.agg (mapC g)), Fact.is (.int .u16 (movedN g : Nat)), Fact.is (.int .u16 0), Fact.is (.bool true), Fact.is (.bool true), Fact.is (.bool true), Fact.is (.bool true), Fact.is (.bool true)] []
              (fun x => { tmps := #[.slice p l.length cap, .agg #[.int .u16 (a : Nat), .int .u16 (b : Nat)], .agg #[.int .u16 (c : Nat), .int .u16 (d : Nat)], undef, .pointer (some ⟨w.heap.size, 0, none⟩), .pointer (some ⟨w.heap.size + 1, 0, none⟩), .bool false, .pointer (some ⟨bm, 0, none⟩), .pointer (some ⟨bx, 0, none⟩), .pointer (some ⟨by', 0, none⟩), .slice p l.length cap, .int .i64 (l.length : Int), .bool false, undef, .slice p l.length cap, .agg (mapC g), y16, y17, y18, y19, y20, y21, z22, z23, z24, z25, z26, z27, z28, z29, z30, z31, z32, z33, z34, z35, z36, z37, .bool false, z39, z40, .bool false, .bool false, .agg (mapC g), .agg #[.int .u16 (a : Nat), .int .u16 (b : Nat)], .bool false, .bool true, .bool true, .agg #[.int .u16 (a : Nat), .int .u16 (b : Nat)], .agg #[.int .u16 (a : Nat), .int .u16 (b : Nat)], .bool false, .bool false, x 0, x 1, x 2, x 3, x 4, x 5, x 6, x 7, x 8, x 9, x 10, x 11, x 12, x 13, x 14, x 15, x 16, x 17, x 18, x 19, x 20, x 21, x 22, x 23, x 24, x 25, x 26, x 27, x 28, x 29, x 30, x 31, x 32, x 33], defers := [] }) (fun _ => undef) (by kernel_rfl) rfl rfl (by kernel_rfl) (by kernel_rfl) (T3.out.drew) (fun u v hu hB => hu.step hB) ?_ ?_
            · simp only [List.take_succ_cons, List.take_zero]
              refine ⟨⟨fun x v => rfl, fun x V hC hD => ?_⟩, ?_⟩
              · clear hD
                refine want_yes rfl ?_
                have k0 : Row V (bm) g := hC.at 2 rfl
                exact leads_value (exec_load_map rfl rfl k0) ⟨Below.refl _ _, rfl, fun h => absurd h (by simp)⟩
              refine ⟨⟨fun x v => rfl, fun x V hC hD => ?_⟩, ?_⟩
              · clear hD
                refine want_yes rfl ?_
                have kp : Pair V (w.heap.size) (.int .u16 (a : Nat)) (.int .u16 (b : Nat)) := hC.at 4 rfl
                have k0 := kp.cell0
                have k1 := kp.cell1
                exact leads_value (v := .agg #[.int .u16 (a : Nat), .int .u16 (b : Nat)]) (by go_simp) ⟨Below.refl _ _, rfl, fun h => absurd h (by simp)⟩
              refine ⟨⟨fun x v => rfl, fun x V hC hD => ?_⟩, ?_⟩
              · clear hD
                refine want_yes rfl ?_
                have kp : Pair V (w.heap.size) (.int .u16 (a : Nat)) (.int .u16 (b : Nat)) := hC.at 4 rfl
                have k0 := kp.cell0
                have k1 := kp.cell1
                exact leads_value (v := .agg #[.int .u16 (a : Nat), .int .u16 (b : Nat)]) (by go_simp) ⟨Below.refl _ _, rfl, fun h => absurd h (by simp)⟩
              refine ⟨⟨fun x v => rfl, fun x V hC hD => ?_⟩, ?_⟩
              · have e1 : x 1 = .agg #[.int .u16 (a : Nat), .int .u16 (b : Nat)] := hD.1 rfl
                have e2 : x 2 = .agg #[.int .u16 (a : Nat), .int .u16 (b : Nat)] := hD.2.1 rfl
                clear hD
                refine want_yes rfl ?_
                exact leads_value (by go_simp) ⟨below_one _ _, labs2 V a b a b, fun h => absurd h (by simp)⟩
              refine ⟨⟨fun x v => rfl, fun x V hC hD => ?_⟩, ?_⟩
              · have e3 : LabsAt V (x 3) [(a, b), (a, b)] := hD.1 rfl
                clear hD
                refine want_yes rfl ?_
                exact leads_enter (by go_simp) (HJ.out _ V e3) fun w'' hB => ⟨hB, rfl, fun h => absurd h (by simp)⟩
              refine ⟨⟨fun x v => rfl, fun x V hC hD => ?_⟩, ?_⟩
              · have e0 : x 0 = .agg (mapC g) := hD.1 rfl
                have e4 : x 4 = .agg #[.int .u16 (a : Nat), .int .u16 (b : Nat)] := hD.2.1 rfl
                clear hD
                refine want_yes rfl ?_
                exact leads_enter (by go_simp) (HLa.out V hC.below) fun w'' hB => ⟨hB, rfl, fun h => absurd h (by simp)⟩
              refine ⟨⟨fun x v => rfl, fun x V hC hD => ?_⟩, ?_⟩
              · clear hD
                refine want_yes rfl ?_
                have kp : Pair V (bx) (.int .u16 (imgN g a : Nat)) (.int .u16 (imgN g b : Nat)) := hC.at 1 rfl
                have k0 := kp.cell0
                have k1 := kp.cell1
                exact leads_value (v := .agg #[.int .u16 (imgN g a : Nat), .int .u16 (imgN g b : Nat)]) (by go_simp) ⟨Below.refl _ _, rfl, fun h => absurd h (by simp)⟩
              refine ⟨⟨fun x v => rfl, fun x V hC hD => ?_⟩, ?_⟩
              · have e5 : x 5 = .agg #[.int .u16 (imgN g a : Nat), .int .u16 (imgN g b : Nat)] := hD.1 rfl
                have e6 : x 6 = .agg #[.int .u16 (imgN g a : Nat), .int .u16 (imgN g b : Nat)] := hD.2.1 rfl
                clear hD
                refine want_yes rfl ?_
                exact leads_value (v := .bool true) (by go_simp) ⟨Below.refl _ _, rfl, fun h => absurd h (by simp)⟩
              refine ⟨⟨fun x v => rfl, fun x V hC hD => ?_⟩, ?_⟩
              · have e7 : x 7 = .bool true := hD.1 rfl
                have e5 : x 5 = .agg #[.int .u16 (imgN g a : Nat), .int .u16 (imgN g b : Nat)] := hD.2.1 rfl
                clear hD
                refine want_yes rfl ?_
                exact leads_value (v := .bool true) (by go_simp) ⟨Below.refl _ _, rfl, fun h => absurd h (by simp)⟩
              refine ⟨⟨fun x v => rfl, fun x V hC hD => ?_⟩, ?_⟩
              · have e8 : x 8 = .bool true := hD.1 rfl
                clear hD
                refine want_yes (by simp [Region.wanted, yielded, e8]) ?_
                have k0 : Row V (bm) g := hC.at 2 rfl
                exact leads_value (exec_load_map rfl rfl k0) ⟨Below.refl _ _, rfl, fun h => absurd h (by simp)⟩
              refine ⟨⟨fun x v => rfl, fun x V hC hD => ?_⟩, ?_⟩
              · have e8 : x 8 = .bool true := hD.1 rfl
                clear hD
                refine want_yes (by simp [Region.wanted, yielded, e8]) ?_
                exact leads_value (v := .pointer (some ⟨w.heap.size, 0, none⟩)) (by go_simp) ⟨Below.refl _ _, rfl, fun h => absurd h (by simp)⟩
              refine ⟨⟨fun x v => rfl, fun x V hC hD => ?_⟩, ?_⟩
              · have e10 : x 10 = .pointer (some ⟨w.heap.size, 0, none⟩) := hD.1 rfl
                have e8 : x 8 = .bool true := hD.2.1 rfl
                clear hD
                refine want_yes (by simp [Region.wanted, yielded, e8]) ?_
                have kp : Pair V (w.heap.size) (.int .u16 (a : Nat)) (.int .u16 (b : Nat)) := hC.at 4 rfl
                have k0 := kp.cell0
                exact leads_value (v := .int .u16 (a : Nat)) (by go_simp) ⟨Below.refl _ _, rfl, fun h => absurd h (by simp)⟩
              refine ⟨⟨fun x v => rfl, fun x V hC hD => ?_⟩, ?_⟩
              · have e8 : x 8 = .bool true := hD.1 rfl
                clear hD
                refine want_yes (by simp [Region.wanted, yielded, e8]) ?_
                exact leads_value (v := .pointer (some ⟨w.heap.size + 1, 0, none⟩)) (by go_simp) ⟨Below.refl _ _, rfl, fun h => absurd h (by simp)⟩
              refine ⟨⟨fun x v => rfl, fun x V hC hD => ?_⟩, ?_⟩
              · have e12 : x 12 = .pointer (some ⟨w.heap.size + 1, 0, none⟩) := hD.1 rfl
                have e8 : x 8 = .bool true := hD.2.1 rfl
                clear hD
                refine want_yes (by simp [Region.wanted, yielded, e8]) ?_
                have kp : Pair V (w.heap.size + 1) (.int .u16 (c : Nat)) (.int .u16 (d : Nat)) := hC.at 3 rfl
                have k0 := kp.cell0
                exact leads_value (v := .int .u16 (c : Nat)) (by go_simp) ⟨Below.refl _ _, rfl, fun h => absurd h (by simp)⟩
              refine ⟨⟨fun x v => rfl, fun x V hC hD => ?_⟩, ?_⟩
              · have e11 : x 11 = .int .u16 (a : Nat) := hD.1 rfl
                have e13 : x 13 = .int .u16 (c : Nat) := hD.2.1 rfl
                have e8 : x 8 = .bool true := hD.2.2.1 rfl
                clear hD
                refine want_yes (by simp [Region.wanted, yielded, e8]) ?_
                exact leads_value (v := .int .u16 (bits .or .u16 (a : Nat) (c : Nat))) (by go_simp) ⟨Below.refl _ _, by rw [HO1.out]; rfl, fun h => absurd h (by simp)⟩
              refine ⟨⟨fun x v => rfl, fun x V hC hD => ?_⟩, ?_⟩
              · have e9 : x 9 = .agg (mapC g) := hD.1 rfl
                have e14 : x 14 = .int .u16 (a ||| c : Nat) := hD.2.1 rfl
                have e8 : x 8 = .bool true := hD.2.2.1 rfl
                clear hD
                refine want_yes (by simp [Region.wanted, yielded, e8]) ?_
                exact leads_enter (by go_simp) (HSo.out V hC.below) fun w'' hB => ⟨hB, rfl, fun h => absurd h (by simp)⟩
              refine ⟨⟨fun x v => rfl, fun x V hC hD => ?_⟩, ?_⟩
              · have e8 : x 8 = .bool true := hD.1 rfl
                clear hD
                refine want_yes (by simp [Region.wanted, yielded, e8]) ?_
                exact leads_value (v := .pointer (some ⟨bx, 0, none⟩)) (by go_simp) ⟨Below.refl _ _, rfl, fun h => absurd h (by simp)⟩
              refine ⟨⟨fun x v => rfl, fun x V hC hD => ?_⟩, ?_⟩
              · have e16 : x 16 = .pointer (some ⟨bx, 0, none⟩) := hD.1 rfl
                have e8 : x 8 = .bool true := hD.2.1 rfl
                clear hD
                refine want_yes (by simp [Region.wanted, yielded, e8]) ?_
                have kp : Pair V (bx) (.int .u16 (imgN g a : Nat)) (.int .u16 (imgN g b : Nat)) := hC.at 1 rfl
                have k0 := kp.cell0
                exact leads_value (v := .int .u16 (imgN g a : Nat)) (by go_simp) ⟨Below.refl _ _, rfl, fun h => absurd h (by simp)⟩
              refine ⟨⟨fun x v => rfl, fun x V hC hD => ?_⟩, ?_⟩
              · have e8 : x 8 = .bool true := hD.1 rfl
                clear hD
                refine want_yes (by simp [Region.wanted, yielded, e8]) ?_
                exact leads_value (v := .pointer (some ⟨by', 0, none⟩)) (by go_simp) ⟨Below.refl _ _, rfl, fun h => absurd h (by simp)⟩
              refine ⟨⟨fun x v => rfl, fun x V hC hD => ?_⟩, ?_⟩
              · have e18 : x 18 = .pointer (some ⟨by', 0, none⟩) := hD.1 rfl
                have e8 : x 8 = .bool true := hD.2.1 rfl
                clear hD
                refine want_yes (by simp [Region.wanted, yielded, e8]) ?_
                have kp : Pair V (by') (.int .u16 (imgN g c : Nat)) (.int .u16 (imgN g d : Nat)) := hC.at 0 rfl
                have k0 := kp.cell0
                exact leads_value (v := .int .u16 (imgN g c : Nat)) (by go_simp) ⟨Below.refl _ _, rfl, fun h => absurd h (by simp)⟩
              refine ⟨⟨fun x v => rfl, fun x V hC hD => ?_⟩, ?_⟩
              · have e17 : x 17 = .int .u16 (imgN g a : Nat) := hD.1 rfl
                have e19 : x 19 = .int .u16 (imgN g c : Nat) := hD.2.1 rfl
                have e8 : x 8 = .bool true := hD.2.2.1 rfl
                clear hD
                refine want_yes (by simp [Region.wanted, yielded, e8]) ?_
                exact leads_value (v := .int .u16 (bits .or .u16 (imgN g a : Nat) (imgN g c : Nat))) (by go_simp) ⟨Below.refl _ _, by rw [HO2.out]; rfl, fun h => absurd h (by simp)⟩
              refine ⟨⟨fun x v => rfl, fun x V hC hD => ?_⟩, ?_⟩
              · have e15 : x 15 = .int .u16 (imgN g a ||| imgN g c : Nat) := hD.1 rfl
                have e20 : x 20 = .int .u16 (imgN g a ||| imgN g c : Nat) := hD.2.1 rfl
                have e8 : x 8 = .bool true := hD.2.2.1 rfl
                clear hD
                refine want_yes (by simp [Region.wanted, yielded, e8]) ?_
                exact leads_value (v := .bool true) (by go_simp) ⟨Below.refl _ _, rfl, fun h => absurd h (by simp)⟩
              refine ⟨⟨fun x v => rfl, fun x V hC hD => ?_⟩, ?_⟩
              · have e8 : x 8 = .bool true := hD.1 rfl
                have e21 : x 21 = .bool true := hD.2.1 rfl
                clear hD
                refine want_yes rfl ?_
                exact leads_value (v := .bool true) (by go_simp) ⟨Below.refl _ _, rfl, fun h => absurd h (by simp)⟩
              refine ⟨⟨fun x v => rfl, fun x V hC hD => ?_⟩, ?_⟩
              · have e22 : x 22 = .bool true := hD.1 rfl
                have e15 : x 15 = .int .u16 (imgN g a ||| imgN g c : Nat) := hD.2.1 rfl
                clear hD
                refine want_yes rfl ?_
                exact leads_value (v := .bool true) (by go_simp) ⟨Below.refl _ _, rfl, fun h => absurd h (by simp)⟩
              refine ⟨⟨fun x v => rfl, fun x V hC hD => ?_⟩, ?_⟩
              · have e23 : x 23 = .bool true := hD.1 rfl
                clear hD
                refine want_yes (by simp [Region.wanted, yielded, e23]) ?_
                exact leads_value (v := .pointer (some ⟨bx, 0, none⟩)) (by go_simp) ⟨Below.refl _ _, rfl, fun h => absurd h (by simp)⟩
              refine ⟨⟨fun x v => rfl, fun x V hC hD => ?_⟩, ?_⟩
              · have e24 : x 24 = .pointer (some ⟨bx, 0, none⟩) := hD.1 rfl
                have e23 : x 23 = .bool true := hD.2.1 rfl
                clear hD
                refine want_yes (by simp [Region.wanted, yielded, e23]) ?_
                have kp : Pair V (bx) (.int .u16 (imgN g a : Nat)) (.int .u16 (imgN g b : Nat)) := hC.at 1 rfl
                have k0 := kp.cell0
                exact leads_value (v := .int .u16 (imgN g a : Nat)) (by go_simp) ⟨Below.refl _ _, rfl, fun h => absurd h (by simp)⟩
              refine ⟨⟨fun x v => rfl, fun x V hC hD => ?_⟩, ?_⟩
              · have e23 : x 23 = .bool true := hD.1 rfl
                clear hD
                refine want_yes (by simp [Region.wanted, yielded, e23]) ?_
                have k0 : Row V (bm) g := hC.at 2 rfl
                exact leads_value (exec_load_map rfl rfl k0) ⟨Below.refl _ _, rfl, fun h => absurd h (by simp)⟩
              refine ⟨⟨fun x v => rfl, fun x V hC hD => ?_⟩, ?_⟩
              · have e26 : x 26 = .agg (mapC g) := hD.1 rfl
                have e23 : x 23 = .bool true := hD.2.1 rfl
                clear hD
                refine want_yes (by simp [Region.wanted, yielded, e23]) ?_
                exact leads_enter (by go_simp) (HMv.out V) fun w'' hB => ⟨hB, rfl, fun h => absurd h (by simp)⟩
              refine ⟨⟨fun x v => rfl, fun x V hC hD => ?_⟩, ?_⟩
              · have e25 : x 25 = .int .u16 (imgN g a : Nat) := hD.1 rfl
                have e27 : x 27 = .int .u16 (movedN g : Nat) := hD.2.1 rfl
                have e23 : x 23 = .bool true := hD.2.2.1 rfl
                clear hD
                refine want_yes (by simp [Region.wanted, yielded, e23]) ?_
                exact leads_value (v := .int .u16 (bits .and .u16 (imgN g a : Nat) (movedN g : Nat))) (by go_simp) ⟨Below.refl _ _, by rw [HO3.out]; rfl, fun h => absurd h (by simp)⟩
              refine ⟨⟨fun x v => rfl, fun x V hC hD => ?_⟩, ?_⟩
              · have e28 : x 28 = .int .u16 0 := hD.1 rfl
                have e23 : x 23 = .bool true := hD.2.1 rfl
                clear hD
                refine want_yes (by simp [Region.wanted, yielded, e23]) ?_
                exact leads_value (v := .bool true) (by go_simp) ⟨Below.refl _ _, rfl, fun h => absurd h (by simp)⟩
              refine ⟨⟨fun x v => rfl, fun x V hC hD => ?_⟩, ?_⟩
              · have e23 : x 23 = .bool true := hD.1 rfl
                have e29 : x 29 = .bool true := hD.2.1 rfl
                clear hD
                refine want_yes rfl ?_
                exact leads_value (v := .bool true) (by go_simp) ⟨Below.refl _ _, rfl, fun h => absurd h (by simp)⟩
              refine ⟨⟨fun x v => rfl, fun x V hC hD => ?_⟩, ?_⟩
              · have e30 : x 30 = .bool true := hD.1 rfl
                have e27 : x 27 = .int .u16 (movedN g : Nat) := hD.2.1 rfl
                clear hD
                refine want_yes rfl ?_
                exact leads_value (v := .bool true) (by go_simp) ⟨Below.refl _ _, rfl, fun h => absurd h (by simp)⟩
              refine ⟨⟨fun x v => rfl, fun x V hC hD => ?_⟩, ?_⟩
              · have e31 : x 31 = .bool true := hD.1 rfl
                clear hD
                refine want_yes (by simp [Region.wanted, yielded, e31]) ?_
                exact leads_enter (by go_simp) (HA.out V hC.below) fun w'' hB => ⟨hB, rfl, fun h => absurd h (by simp)⟩
              refine ⟨⟨fun x v => rfl, fun x V hC hD => ?_⟩, ?_⟩
              · have e31 : x 31 = .bool true := hD.1 rfl
                have e32 : x 32 = .bool true := hD.2.1 rfl
                clear hD
                refine want_yes rfl ?_
                exact leads_value (v := .bool true) (by go_simp) ⟨Below.refl _ _, rfl, fun h => absurd h (by simp)⟩
              trivial
            · intro x W5 hF
              simp only [List.drop_succ_cons, List.drop_zero]
              have e33 : x 33 = .bool true := hF.fact 33 (by decide) rfl
              have HT := Lib.hid hF.c
              clear hF
              rw [e33]
              clear e33
              go_wp2_with fail
              go_ret
              exact ⟨rfl, HT.out.below⟩
          · have HTa := Lib.hid (fun V => (show Calls Tryd.prog 16 #[.agg (mapC g), .agg #[.int .u16 (a : Nat), .int .u16 (b : Nat)]] V fun e w' => e = .returned (.bool true) ∧ Below V.heap.size V w' from by have h := rlTouches_any g a b (fine_ok HGf.out) ha hb V; rw [htb] at h; exact h))
            clear htb
            go_wp2_with (with_reducible refine wpList_load_map rfl _ rfl rfl q0 ?_)
            refine (HTa.out _).mono ?_
            rintro e W4 ⟨rfl, hB4⟩
            have T3 := Lib.hid (T4.out.step hB4)
            clear hB4 T4 q0 k0 k1
            go_wp2_with fail
            try simp only [List.append_eq, List.cons_append, List.nil_append]
            refine wp_region_factsT 34 1 (Held w [(by', pairO (.int .u16 (imgN g c : Nat)) (.int .u16 (imgN g d : Nat))), (bx, pairO (.int .u16 (imgN g a : Nat)) (.int .u16 (imgN g b : Nat))), (bm, rowO g), (w.heap.size + 1, pairO (.int .u16 (c : Nat)) (.int .u16 (d : Nat))), (w.heap.size, pairO (.int .u16 (a : Nat)) (.int .u16 (b : Nat)))]) [Fact.is (.agg (mapC g)), Fact.is (.agg #[.int .u16 (a : Nat), .int .u16 (b : Nat)]), Fact.is (.agg #[.int .u16 (a : Nat), .int .u16 (b : Nat)]), labsK [(a, b), (a, b)], Fact.is (.agg #[.int .u16 (a : Nat), .int .u16 (b : Nat)]), Fact.is (.agg #[.int .u16 (imgN g a : Nat), .int .u16 (imgN g b : Nat)]), Fact.is (.agg #[.int .u16 (imgN g a : Nat), .int .u16 (imgN g b : Nat)]), Fact.is (.bool true), Fact.is (.bool true), Fact.is (.agg (mapC g)), Fact.is (.pointer (some ⟨w.heap.size, 0, none⟩)), Fact.is (.int .u16 (a : Nat)), Fact.is (.pointer (some ⟨w.heap.size + 1, 0, none⟩)), Fact.is (.int .u16 (c : Nat)), Fact.is (.int .u16 (a ||| c : Nat)), Fact.is (.int .u16 (imgN g a ||| imgN g c : Nat)), Fact.is (.pointer (some ⟨bx, 0, none⟩)), Fact.is (.int .u16 (imgN g a : Nat)), Fact.is (.pointer (some ⟨by', 0, none⟩)), Fact.is (.int .u16 (imgN g c : Nat)), Fact.is (.int .u16 (imgN g a ||| imgN g c : Nat)), Fact.is (.bool true), Fact.is (.bool true), Fact.is (.bool true), Fact.is (.pointer (some ⟨bx, 0, none⟩)), Fact.is (.int .u16 (imgN g a : Nat)), Fact.is (.agg (mapC g)), Fact.is (.int .u16 (movedN g : Nat)), Fact.is (.int .u16 0), Fact.is (.bool true), Fact.is (.bool true), Fact.is (.bool true), Fact.is (.bool true), Fact.is (.bool true)] []
              (fun x => { tmps := #[.slice p l.length cap, .agg #[.int .u16 (a : Nat), .int .u16 (b : Nat)], .agg #[.int .u16 (c : Nat), .int .u16 (d : Nat)], undef, .pointer (some ⟨w.heap.size, 0, none⟩), .pointer (some ⟨w.heap.size + 1, 0, none⟩), .bool false, .pointer (some ⟨bm, 0, none⟩), .pointer (some ⟨bx, 0, none⟩), .pointer (some ⟨by', 0, none⟩), .slice p l.length cap, .int .i64 (l.length : Int), .bool false, undef, .slice p l.length cap, .agg (mapC g), y16, y17, y18, y19, y20, y21, z22, z23, z24, z25, z26, z27, z28, z29, z30, z31, z32, z33, z34, z35, z36, z37, .bool false, z39, z40, .bool false, .bool false, .agg (mapC g), .agg #[.int .u16 (a : Nat), .int .u16 (b : Nat)], .bool true, .bool false, .bool false, undef, undef, undef, .bool false, x 0, x 1, x 2, x 3, x 4, x 5, x 6, x 7, x 8, x 9, x 10, x 11, x 12, x 13, x 14, x 15, x 16, x 17, x 18, x 19, x 20, x 21, x 22, x 23, x 24, x 25, x 26, x 27, x 28, x 29, x 30, x 31, x 32, x 33], defers := [] }) (fun _ => undef) (by kernel_rfl) rfl rfl (by kernel_rfl) (by kernel_rfl) (T3.out.drew) (fun u v hu hB => hu.step hB) ?_ ?_
            · simp only [List.take_succ_cons, List.take_zero]
              refine ⟨⟨fun x v => rfl, fun x V hC hD => ?_⟩, ?_⟩
              · clear hD
                refine want_yes rfl ?_
                have k0 : Row V (bm) g := hC.at 2 rfl
                exact leads_value (exec_load_map rfl rfl k0) ⟨Below.refl _ _, rfl, fun h => absurd h (by simp)⟩
              refine ⟨⟨fun x v => rfl, fun x V hC hD => ?_⟩, ?_⟩
              · clear hD
                refine want_yes rfl ?_
                have kp : Pair V (w.heap.size) (.int .u16 (a : Nat)) (.int .u16 (b : Nat)) := hC.at 4 rfl
                have k0 := kp.cell0
                have k1 := kp.cell1
                exact leads_value (v := .agg #[.int .u16 (a : Nat), .int .u16 (b : Nat)]) (by go_simp) ⟨Below.refl _ _, rfl, fun h => absurd h (by simp)⟩
              refine ⟨⟨fun x v => rfl, fun x V hC hD => ?_⟩, ?_⟩
              · clear hD
                refine want_yes rfl ?_
                have kp : Pair V (w.heap.size) (.int .u16 (a : Nat)) (.int .u16 (b : Nat)) := hC.at 4 rfl
                have k0 := kp.cell0
                have k1 := kp.cell1
                exact leads_value (v := .agg #[.int .u16 (a : Nat), .int .u16 (b : Nat)]) (by go_simp) ⟨Below.refl _ _, rfl, fun h => absurd h (by simp)⟩
              refine ⟨⟨fun x v => rfl, fun x V hC hD => ?_⟩, ?_⟩
              · have e1 : x 1 = .agg #[.int .u16 (a : Nat), .int .u16 (b : Nat)] := hD.1 rfl
                have e2 : x 2 = .agg #[.int .u16 (a : Nat), .int .u16 (b : Nat)] := hD.2.1 rfl
                clear hD
                refine want_yes rfl ?_
                exact leads_value (by go_simp) ⟨below_one _ _, labs2 V a b a b, fun h => absurd h (by simp)⟩
              refine ⟨⟨fun x v => rfl, fun x V hC hD => ?_⟩, ?_⟩
              · have e3 : LabsAt V (x 3) [(a, b), (a, b)] := hD.1 rfl
                clear hD
                refine want_yes rfl ?_
                exact leads_enter (by go_simp) (HJ.out _ V e3) fun w'' hB => ⟨hB, rfl, fun h => absurd h (by simp)⟩
              refine ⟨⟨fun x v => rfl, fun x V hC hD => ?_⟩, ?_⟩
              · have e0 : x 0 = .agg (mapC g) := hD.1 rfl
                have e4 : x 4 = .agg #[.int .u16 (a : Nat), .int .u16 (b : Nat)] := hD.2.1 rfl
                clear hD
                refine want_yes rfl ?_
                exact leads_enter (by go_simp) (HLa.out V hC.below) fun w'' hB => ⟨hB, rfl, fun h => absurd h (by simp)⟩
              refine ⟨⟨fun x v => rfl, fun x V hC hD => ?_⟩, ?_⟩
              · clear hD
                refine want_yes rfl ?_
                have kp : Pair V (bx) (.int .u16 (imgN g a : Nat)) (.int .u16 (imgN g b : Nat)) := hC.at 1 rfl
                have k0 := kp.cell0
                have k1 := kp.cell1
                exact leads_value (v := .agg #[.int .u16 (imgN g a : Nat), .int .u16 (imgN g b : Nat)]) (by go_simp) ⟨Below.refl _ _, rfl, fun h => absurd h (by simp)⟩
              refine ⟨⟨fun x v => rfl, fun x V hC hD => ?_⟩, ?_⟩
              · have e5 : x 5 = .agg #[.int .u16 (imgN g a : Nat), .int .u16 (imgN g b : Nat)] := hD.1 rfl
                have e6 : x 6 = .agg #[.int .u16 (imgN g a : Nat), .int .u16 (imgN g b : Nat)] := hD.2.1 rfl
                clear hD
                refine want_yes rfl ?_
                exact leads_value (v := .bool true) (by go_simp) ⟨Below.refl _ _, rfl, fun h => absurd h (by simp)⟩
              refine ⟨⟨fun x v => rfl, fun x V hC hD => ?_⟩, ?_⟩
              · have e7 : x 7 = .bool true := hD.1 rfl
                have e5 : x 5 = .agg #[.int .u16 (imgN g a : Nat), .int .u16 (imgN g b : Nat)] := hD.2.1 rfl
                clear hD
                refine want_yes rfl ?_
                exact leads_value (v := .bool true) (by go_simp) ⟨Below.refl _ _, rfl, fun h => absurd h (by simp)⟩
              refine ⟨⟨fun x v => rfl, fun x V hC hD => ?_⟩, ?_⟩
              · have e8 : x 8 = .bool true := hD.1 rfl
                clear hD
                refine want_yes (by simp [Region.wanted, yielded, e8]) ?_
                have k0 : Row V (bm) g := hC.at 2 rfl
                exact leads_value (exec_load_map rfl rfl k0) ⟨Below.refl _ _, rfl, fun h => absurd h (by simp)⟩
              refine ⟨⟨fun x v => rfl, fun x V hC hD => ?_⟩, ?_⟩
              · have e8 : x 8 = .bool true := hD.1 rfl
                clear hD
                refine want_yes (by simp [Region.wanted, yielded, e8]) ?_
                exact leads_value (v := .pointer (some ⟨w.heap.size, 0, none⟩)) (by go_simp) ⟨Below.refl _ _, rfl, fun h => absurd h (by simp)⟩
              refine ⟨⟨fun x v => rfl, fun x V hC hD => ?_⟩, ?_⟩
              · have e10 : x 10 = .pointer (some ⟨w.heap.size, 0, none⟩) := hD.1 rfl
                have e8 : x 8 = .bool true := hD.2.1 rfl
                clear hD
                refine want_yes (by simp [Region.wanted, yielded, e8]) ?_
                have kp : Pair V (w.heap.size) (.int .u16 (a : Nat)) (.int .u16 (b : Nat)) := hC.at 4 rfl
                have k0 := kp.cell0
                exact leads_value (v := .int .u16 (a : Nat)) (by go_simp) ⟨Below.refl _ _, rfl, fun h => absurd h (by simp)⟩
              refine ⟨⟨fun x v => rfl, fun x V hC hD => ?_⟩, ?_⟩
              · have e8 : x 8 = .bool true := hD.1 rfl
                clear hD
                refine want_yes (by simp [Region.wanted, yielded, e8]) ?_
                exact leads_value (v := .pointer (some ⟨w.heap.size + 1, 0, none⟩)) (by go_simp) ⟨Below.refl _ _, rfl, fun h => absurd h (by simp)⟩
              refine ⟨⟨fun x v => rfl, fun x V hC hD => ?_⟩, ?_⟩
              · have e12 : x 12 = .pointer (some ⟨w.heap.size + 1, 0, none⟩) := hD.1 rfl
                have e8 : x 8 = .bool true := hD.2.1 rfl
                clear hD
                refine want_yes (by simp [Region.wanted, yielded, e8]) ?_
                have kp : Pair V (w.heap.size + 1) (.int .u16 (c : Nat)) (.int .u16 (d : Nat)) := hC.at 3 rfl
                have k0 := kp.cell0
                exact leads_value (v := .int .u16 (c : Nat)) (by go_simp) ⟨Below.refl _ _, rfl, fun h => absurd h (by simp)⟩
              refine ⟨⟨fun x v => rfl, fun x V hC hD => ?_⟩, ?_⟩
              · have e11 : x 11 = .int .u16 (a : Nat) := hD.1 rfl
                have e13 : x 13 = .int .u16 (c : Nat) := hD.2.1 rfl
                have e8 : x 8 = .bool true := hD.2.2.1 rfl
                clear hD
                refine want_yes (by simp [Region.wanted, yielded, e8]) ?_
                exact leads_value (v := .int .u16 (bits .or .u16 (a : Nat) (c : Nat))) (by go_simp) ⟨Below.refl _ _, by rw [HO1.out]; rfl, fun h => absurd h (by simp)⟩
              refine ⟨⟨fun x v => rfl, fun x V hC hD => ?_⟩, ?_⟩
              · have e9 : x 9 = .agg (mapC g) := hD.1 rfl
                have e14 : x 14 = .int .u16 (a ||| c : Nat) := hD.2.1 rfl
                have e8 : x 8 = .bool true := hD.2.2.1 rfl
                clear hD
                refine want_yes (by simp [Region.wanted, yielded, e8]) ?_
                exact leads_enter (by go_simp) (HSo.out V hC.below) fun w'' hB => ⟨hB, rfl, fun h => absurd h (by simp)⟩
              refine ⟨⟨fun x v => rfl, fun x V hC hD => ?_⟩, ?_⟩
              · have e8 : x 8 = .bool true := hD.1 rfl
                clear hD
                refine want_yes (by simp [Region.wanted, yielded, e8]) ?_
                exact leads_value (v := .pointer (some ⟨bx, 0, none⟩)) (by go_simp) ⟨Below.refl _ _, rfl, fun h => absurd h (by simp)⟩
              refine ⟨⟨fun x v => rfl, fun x V hC hD => ?_⟩, ?_⟩
              · have e16 : x 16 = .pointer (some ⟨bx, 0, none⟩) := hD.1 rfl
                have e8 : x 8 = .bool true := hD.2.1 rfl
                clear hD
                refine want_yes (by simp [Region.wanted, yielded, e8]) ?_
                have kp : Pair V (bx) (.int .u16 (imgN g a : Nat)) (.int .u16 (imgN g b : Nat)) := hC.at 1 rfl
                have k0 := kp.cell0
                exact leads_value (v := .int .u16 (imgN g a : Nat)) (by go_simp) ⟨Below.refl _ _, rfl, fun h => absurd h (by simp)⟩
              refine ⟨⟨fun x v => rfl, fun x V hC hD => ?_⟩, ?_⟩
              · have e8 : x 8 = .bool true := hD.1 rfl
                clear hD
                refine want_yes (by simp [Region.wanted, yielded, e8]) ?_
                exact leads_value (v := .pointer (some ⟨by', 0, none⟩)) (by go_simp) ⟨Below.refl _ _, rfl, fun h => absurd h (by simp)⟩
              refine ⟨⟨fun x v => rfl, fun x V hC hD => ?_⟩, ?_⟩
              · have e18 : x 18 = .pointer (some ⟨by', 0, none⟩) := hD.1 rfl
                have e8 : x 8 = .bool true := hD.2.1 rfl
                clear hD
                refine want_yes (by simp [Region.wanted, yielded, e8]) ?_
                have kp : Pair V (by') (.int .u16 (imgN g c : Nat)) (.int .u16 (imgN g d : Nat)) := hC.at 0 rfl
                have k0 := kp.cell0
                exact leads_value (v := .int .u16 (imgN g c : Nat)) (by go_simp) ⟨Below.refl _ _, rfl, fun h => absurd h (by simp)⟩
              refine ⟨⟨fun x v => rfl, fun x V hC hD => ?_⟩, ?_⟩
              · have e17 : x 17 = .int .u16 (imgN g a : Nat) := hD.1 rfl
                have e19 : x 19 = .int .u16 (imgN g c : Nat) := hD.2.1 rfl
                have e8 : x 8 = .bool true := hD.2.2.1 rfl
                clear hD
                refine want_yes (by simp [Region.wanted, yielded, e8]) ?_
                exact leads_value (v := .int .u16 (bits .or .u16 (imgN g a : Nat) (imgN g c : Nat))) (by go_simp) ⟨Below.refl _ _, by rw [HO2.out]; rfl, fun h => absurd h (by simp)⟩
              refine ⟨⟨fun x v => rfl, fun x V hC hD => ?_⟩, ?_⟩
              · have e15 : x 15 = .int .u16 (imgN g a ||| imgN g c : Nat) := hD.1 rfl
                have e20 : x 20 = .int .u16 (imgN g a ||| imgN g c : Nat) := hD.2.1 rfl
                have e8 : x 8 = .bool true := hD.2.2.1 rfl
                clear hD
                refine want_yes (by simp [Region.wanted, yielded, e8]) ?_
                exact leads_value (v := .bool true) (by go_simp) ⟨Below.refl _ _, rfl, fun h => absurd h (by simp)⟩
              refine ⟨⟨fun x v => rfl, fun x V hC hD => ?_⟩, ?_⟩
              · have e8 : x 8 = .bool true := hD.1 rfl
                have e21 : x 21 = .bool true := hD.2.1 rfl
                clear hD
                refine want_yes rfl ?_
                exact leads_value (v := .bool true) (by go_simp) ⟨Below.refl _ _, rfl, fun h => absurd h (by simp)⟩
              refine ⟨⟨fun x v => rfl, fun x V hC hD => ?_⟩, ?_⟩
              · have e22 : x 22 = .bool true := hD.1 rfl
                have e15 : x 15 = .int .u16 (imgN g a ||| imgN g c : Nat) := hD.2.1 rfl
                clear hD
                refine want_yes rfl ?_
                exact leads_value (v := .bool true) (by go_simp) ⟨Below.refl _ _, rfl, fun h => absurd h (by simp)⟩
              refine ⟨⟨fun x v => rfl, fun x V hC hD => ?_⟩, ?_⟩
              · have e23 : x 23 = .bool true := hD.1 rfl
                clear hD
                refine want_yes (by simp [Region.wanted, yielded, e23]) ?_
                exact leads_value (v := .pointer (some ⟨bx, 0, none⟩)) (by go_simp) ⟨Below.refl _ _, rfl, fun h => absurd h (by simp)⟩
              refine ⟨⟨fun x v => rfl, fun x V hC hD => ?_⟩, ?_⟩
              · have e24 : x 24 = .pointer (some ⟨bx, 0, none⟩) := hD.1 rfl
                have e23 : x 23 = .bool true := hD.2.1 rfl
                clear hD
                refine want_yes (by simp [Region.wanted, yielded, e23]) ?_
                have kp : Pair V (bx) (.int .u16 (imgN g a : Nat)) (.int .u16 (imgN g b : Nat)) := hC.at 1 rfl
                have k0 := kp.cell0
                exact leads_value (v := .int .u16 (imgN g a : Nat)) (by go_simp) ⟨Below.refl _ _, rfl, fun h => absurd h (by simp)⟩
              refine ⟨⟨fun x v => rfl, fun x V hC hD => ?_⟩, ?_⟩
              · have e23 : x 23 = .bool true := hD.1 rfl
                clear hD
                refine want_yes (by simp [Region.wanted, yielded, e23]) ?_
                have k0 : Row V (bm) g := hC.at 2 rfl
                exact leads_value (exec_load_map rfl rfl k0) ⟨Below.refl _ _, rfl, fun h => absurd h (by simp)⟩
              refine ⟨⟨fun x v => rfl, fun x V hC hD => ?_⟩, ?_⟩
              · have e26 : x 26 = .agg (mapC g) := hD.1 rfl
                have e23 : x 23 = .bool true := hD.2.1 rfl
                clear hD
                refine want_yes (by simp [Region.wanted, yielded, e23]) ?_
                exact leads_enter (by go_simp) (HMv.out V) fun w'' hB => ⟨hB, rfl, fun h => absurd h (by simp)⟩
              refine ⟨⟨fun x v => rfl, fun x V hC hD => ?_⟩, ?_⟩
              · have e25 : x 25 = .int .u16 (imgN g a : Nat) := hD.1 rfl
                have e27 : x 27 = .int .u16 (movedN g : Nat) := hD.2.1 rfl
                have e23 : x 23 = .bool true := hD.2.2.1 rfl
                clear hD
                refine want_yes (by simp [Region.wanted, yielded, e23]) ?_
                exact leads_value (v := .int .u16 (bits .and .u16 (imgN g a : Nat) (movedN g : Nat))) (by go_simp) ⟨Below.refl _ _, by rw [HO3.out]; rfl, fun h => absurd h (by simp)⟩
              refine ⟨⟨fun x v => rfl, fun x V hC hD => ?_⟩, ?_⟩
              · have e28 : x 28 = .int .u16 0 := hD.1 rfl
                have e23 : x 23 = .bool true := hD.2.1 rfl
                clear hD
                refine want_yes (by simp [Region.wanted, yielded, e23]) ?_
                exact leads_value (v := .bool true) (by go_simp) ⟨Below.refl _ _, rfl, fun h => absurd h (by simp)⟩
              refine ⟨⟨fun x v => rfl, fun x V hC hD => ?_⟩, ?_⟩
              · have e23 : x 23 = .bool true := hD.1 rfl
                have e29 : x 29 = .bool true := hD.2.1 rfl
                clear hD
                refine want_yes rfl ?_
                exact leads_value (v := .bool true) (by go_simp) ⟨Below.refl _ _, rfl, fun h => absurd h (by simp)⟩
              refine ⟨⟨fun x v => rfl, fun x V hC hD => ?_⟩, ?_⟩
              · have e30 : x 30 = .bool true := hD.1 rfl
                have e27 : x 27 = .int .u16 (movedN g : Nat) := hD.2.1 rfl
                clear hD
                refine want_yes rfl ?_
                exact leads_value (v := .bool true) (by go_simp) ⟨Below.refl _ _, rfl, fun h => absurd h (by simp)⟩
              refine ⟨⟨fun x v => rfl, fun x V hC hD => ?_⟩, ?_⟩
              · have e31 : x 31 = .bool true := hD.1 rfl
                clear hD
                refine want_yes (by simp [Region.wanted, yielded, e31]) ?_
                exact leads_enter (by go_simp) (HA.out V hC.below) fun w'' hB => ⟨hB, rfl, fun h => absurd h (by simp)⟩
              refine ⟨⟨fun x v => rfl, fun x V hC hD => ?_⟩, ?_⟩
              · have e31 : x 31 = .bool true := hD.1 rfl
                have e32 : x 32 = .bool true := hD.2.1 rfl
                clear hD
                refine want_yes rfl ?_
                exact leads_value (v := .bool true) (by go_simp) ⟨Below.refl _ _, rfl, fun h => absurd h (by simp)⟩
              trivial
            · intro x W5 hF
              simp only [List.drop_succ_cons, List.drop_zero]
              have e33 : x 33 = .bool true := hF.fact 33 (by decide) rfl
              have HT := Lib.hid hF.c
              clear hF
              rw [e33]
              clear e33
              go_wp2_with fail
              go_ret
              exact ⟨rfl, HT.out.below⟩

end Go.Proofs.YtecbaleabnepaaaDoor

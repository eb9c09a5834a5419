/-
  The program's stores: Now, At, New, slices.Clone, Kept, Of.
-/
import Derived.StillTailTactics
import Derived.Test.YtimbhamdblganaaDoorWVpA
import Derived.Test.YtimbhamdblganaaDoorW1
/-! VpB -/
namespace Go.Proofs.YtimbhamdblganaaDoor
open Go.RowKit

theorem own_base {w : World} {base base' e n k : Nat} {v : Value} {xs : List Value} (h : w.ownsRow base' e k v n xs) (hb : base ≤ base') : w.ownsRow base e k v n xs := by
  obtain ⟨h1, h2 | ⟨g, cap, cur, e, hg, rest⟩⟩ := h
  · exact ⟨h1, .inl h2⟩
  · exact ⟨h1, .inr ⟨g, cap, cur, e, Nat.le_trans hb hg, rest⟩⟩
theorem wpStill_load_cells {P : Program} {w : World} {ops : Array Oper} {rest : List Oper} {o : Oper} {a : Act} {Q : Act → Prop} (hgd : o.guard = none) (ty : TypeId) (x : Operand) (ho : o.op = .load ty x)
    {b off : Nat} {new : Array Value} {d : TypeDesc} (hx : a.eval x = .pointer (some ⟨b, off, none⟩)) (h : CellsAt w b off new) (hu : P.underlying ty = some d) (hw : rowD d = true) (hi : (P.info? ty).map (·.size) = some new.size)
    (hK : wpStill P ops w Q rest (a.put o.dst (.agg new))) : wpStill P ops w Q (o :: rest) a :=
  wpStill_step fun K hK' => by
    rw [if_pos (by simp [Region.wanted, hgd])]
    unfold Oper.still
    rw [exec_load_cells ho hx h hu hw hi]
    exact ⟨rfl, hK' _ hK⟩
theorem putB_put {w V : World} {b : Nat} {cs : Array Value} {t : TypeId} (h : PutB w V b (.cells cs t (0, 0))) : Put w V b cs t := ⟨⟨h.os, h.tape, h.output, Nat.le_of_eq h.size.symm, fun k _ hk => h.other k hk⟩, h.new⟩
theorem results_pol1 {fn : Func} {p : Tmp} (h : fn.results = #[.cell p 46]) {tmps : Array Value} {w : World} {b : Nat} {P : Pol} (hp : tmps.getD p undef = .pointer (some ⟨b, 0, none⟩)) (hr : PRow w b P) :
    (results fn tmps).run Tryd.prog w = .ok (.agg (polC P)) w := by
  have hp' : tmps[p]?.getD undef = .pointer (some ⟨b, 0, none⟩) := by simpa using hp
  simp [results, h, hp', asAddr, run_loadVar_row w b _ 46 (polC P) _ _ hr Tryd.underlying46 rfl (infoPol P)]
/-- The store, and the place for a policy. -/
structure VpN (w : World) (b g : Nat) (S : Sto) (q : Pol) (V : World) : Prop where
  below : Below w.heap.size w V
  st : VpSt V b S g
  res : PRow V w.heap.size q
theorem VpN.new {w : World} {b g : Nat} {S : Sto} (h : VpSt w b S g) : VpN w b g S zeroP (w.alloc (.cells (polC zeroP) 46)) := ⟨belowNew w _, h.step (belowNew w _), PRow.new w _⟩
theorem VpN.step {w : World} {b g : Nat} {S : Sto} {q : Pol} {V V' : World} (h : VpN w b g S q V) (hB : Below V.heap.size V V') : VpN w b g S q V' := ⟨h.below.trans (hB.mono h.below.size), h.st.step hB, h.res.step hB⟩
theorem VpN.out {w : World} {b g : Nat} {S : Sto} {q : Pol} {V V' : World} {cs : Array Value} {t : TypeId} (h : VpN w b g S q V) (hp : Put V V' w.heap.size cs t) : Below w.heap.size w V' := h.below.trans (hp.below h.below.size (Nat.le_refl _))
theorem VpSt.elem {w : World} {b g : Nat} {S : Sto} (h : VpSt w b S g) {i : Nat} (hi : i < S.l.length) : CellsAt w g (i * 66) (polC S.l[i]) := by
  have h2 := (h.row.elem hi).2
  rwa [Nat.zero_add] at h2
set_option maxRecDepth 100000 in
set_option maxHeartbeats 1600000 in
theorem veNow_any : VeNowC theVer := by
  rintro w b S F ⟨g, h, rfl⟩ hok
  have hpos := sto_pos hok
  have hlt : S.l.length - 1 < S.l.length := by omega
  have HQ := Lib.hid (show nowP S = S.l[S.l.length - 1] by unfold nowP; rw [List.getD_eq_getElem?_getD, List.getElem?_eq_getElem hlt]; rfl)
  have HG := Lib.hid (VpN.new h)
  have HM := Lib.hid (veMade_any HG.out.st (show 0 < S.l.length by omega))
  have HC := Lib.hid (HG.out.st.elem hlt)
  have q1 : IntKind.i64.wrap ((S.l.length : Int) - 1) = ((S.l.length - 1 : Nat) : Int) := by rw [IntKind.wrap_i64]; omega
  have a0 : (0 : Int) ≤ ((S.l.length - 1 : Nat) : Int) := by omega
  have a1 : ((S.l.length - 1 : Nat) : Int) < (S.l.length : Int) := by omega
  clear h hok hpos
  generalize S.l[S.l.length - 1] = p at *
  clear hlt
  unfold storeV at *
  go_enter Tryd.func23, Tryd.ntmps23
  go_upto_region 1 with fail
  generalize w.alloc _ = w1 at *
  go_wp2_with fail
  with_reducible refine HM.out.mono ?_
  rintro e w2 ⟨rfl, rfl⟩
  have c1 := HG.out.st.c1
  generalize S.l.length - 1 = i at *
  generalize S.l.length = n at *
  go_wp2_with fail
  refine wp_region_still_tail 12 (by kernel_rfl) (by kernel_rfl) ?_
  simp only [List.take_succ_cons, List.take_zero, List.drop_succ_cons, List.drop_zero]
  iterate 11 still_step
  refine wpStill_load_cells rfl _ _ rfl rfl HC.out Tryd.underlying46 rfl (infoPol _) ?_
  refine wpStill_nil ?_
  change wpList _ _ _ _ _ w1.drew
  have HG2 := Lib.hid (HG.out.step (Below.drew (Below.refl _ w1)))
  generalize w1.drew = w2 at *
  have hz := HG2.out.res
  go_wp2_with (refine wpList_store_arr rfl rfl _ _ _ rfl rfl rfl hz (infoPol _) (by rw [polC_size, polC_size]) (polC_one _) ?_; intro w9 hw9)
  exact bodyPost_ret (v := .agg (polC p)) (results_pol1 rfl rfl hw9.blk) rfl ⟨by rw [HQ.out], HG2.out.out hw9⟩
set_option maxRecDepth 100000 in
set_option maxHeartbeats 1600000 in
theorem veAt_any : VeAtC theVer := by
  rintro w b S F e ⟨g, h, rfl⟩ hok h1 h2
  have hpos := sto_pos hok
  have hep := hok.ep
  have hkn := hok.len
  rw [keptN_nat hep] at hkn
  have HE := Lib.hid (show atE S e = if e < 0 ∨ (S.ep : Int) < e then 8 else if e + 8 ≤ (S.ep : Int) then 6 else 0 from rfl)
  have HPq := Lib.hid (show atP S e = if atE S e = 0 then S.l.getD (S.l.length - 1 - (S.ep - e.toNat)) zeroP else zeroP from rfl)
  have HG := Lib.hid (VpN.new h)
  have HM := Lib.hid (veMade_any HG.out.st (show 0 < S.l.length by omega))
  have HO := Lib.hid (fun V (h : VpSt V b S g) => veOldest_any h hpos.2.1 hep)
  have HL := Lib.hid h.blk.lt
  generalize atE S e = ae at *
  generalize atP S e = ap at *
  clear h hok
  unfold storeV at *
  go_enter Tryd.func19, Tryd.ntmps19
  go_upto_region 1 with fail
  generalize w.alloc _ = w1 at *
  go_wp2_with fail
  with_reducible refine HM.out.mono ?_
  rintro x w2 ⟨rfl, rfl⟩
  have c0 := HG.out.st.c0
  have hz := HG.out.res
  by_cases hn : e < 0
  · have d := decide_eq_true hn
    have HA := Lib.hid (show ae = 8 from HE.out.trans (if_pos (.inl hn)))
    have HQ := Lib.hid (show ap = zeroP from HPq.out.trans (if_neg (by rw [HA.out]; decide)))
    clear hn
    go_wp2_with fail
    simp only [store_pol hz rfl, Result.andThen_ok]
    have hw9 := put_pol (q := zeroP) hz
    generalize World.setRow _ _ _ = w9 at *
    go_wp2_with fail
    exact bodyPost_ret (v := .tuple #[.agg (polC zeroP), .int .i64 8]) (results_pol2 rfl rfl rfl hw9.blk) rfl ⟨by rw [HA.out, HQ.out], HG.out.out hw9⟩
  have d := decide_eq_false hn
  by_cases hm : (S.ep : Int) < e
  · have d2 := decide_eq_true hm
    have HA := Lib.hid (show ae = 8 from HE.out.trans (if_pos (.inr hm)))
    have HQ := Lib.hid (show ap = zeroP from HPq.out.trans (if_neg (by rw [HA.out]; decide)))
    clear hn hm
    go_wp2_with fail
    simp only [store_pol hz rfl, Result.andThen_ok]
    have hw9 := put_pol (q := zeroP) hz
    generalize World.setRow _ _ _ = w9 at *
    go_wp2_with fail
    exact bodyPost_ret (v := .tuple #[.agg (polC zeroP), .int .i64 8]) (results_pol2 rfl rfl rfl hw9.blk) rfl ⟨by rw [HA.out, HQ.out], HG.out.out hw9⟩
  have d2 := decide_eq_false hm
  have hnm : ¬ (e < 0 ∨ (S.ep : Int) < e) := by omega
  by_cases h8 : e + 8 ≤ (S.ep : Int)
  · have d3 : decide (e < (S.ep : Int) + 1 - (S.l.length : Int)) = true := by simp; omega
    have HA := Lib.hid (show ae = 6 from (HE.out.trans (if_neg hnm)).trans (if_pos h8))
    have HQ := Lib.hid (show ap = zeroP from HPq.out.trans (if_neg (by rw [HA.out]; decide)))
    clear hn hm h8 hnm hkn hpos hep
    go_wp2_with fail
    with_reducible refine (HO.out _ HG.out.st).mono ?_
    rintro x w3 ⟨rfl, hB⟩
    have HG3 := Lib.hid (HG.out.step hB)
    clear hz c0 hB
    have hz := HG3.out.res
    go_wp2_with fail
    simp only [store_pol hz rfl, Result.andThen_ok]
    have hw9 := put_pol (q := zeroP) hz
    generalize World.setRow _ _ _ = w9 at *
    go_wp2_with fail
    exact bodyPost_ret (v := .tuple #[.agg (polC zeroP), .int .i64 6]) (results_pol2 rfl rfl rfl hw9.blk) rfl ⟨by rw [HA.out, HQ.out], HG3.out.out hw9⟩
  have d3 : decide (e < (S.ep : Int) + 1 - (S.l.length : Int)) = false := by simp; omega
  have HA := Lib.hid (show ae = 0 from (HE.out.trans (if_neg hnm)).trans (if_neg h8))
  obtain ⟨i, hi⟩ : ∃ i, i = S.l.length - 1 - (S.ep - e.toNat) := ⟨_, rfl⟩
  have hil : i < S.l.length := by omega
  have q3 : IntKind.i64.wrap (e - ((S.ep : Int) + 1 - (S.l.length : Int))) = (i : Int) := by rw [IntKind.wrap_i64]; omega
  have a0 : (0 : Int) ≤ (i : Int) := by omega
  have a1 : (i : Int) < (S.l.length : Int) := by omega
  have HQ := Lib.hid (show ap = S.l[i] from (HPq.out.trans (if_pos HA.out)).trans (by rw [← hi, List.getD_eq_getElem?_getD, List.getElem?_eq_getElem hil]; rfl))
  have HC := Lib.hid (fun V (h : VpSt V b S g) => h.elem hil)
  clear HPq hn hm h8 hnm hkn hpos hep hi
  generalize S.l[i] = p at *
  clear hil
  obtain ⟨n, hnl⟩ : ∃ n, n = S.l.length := ⟨_, rfl⟩
  rw [← hnl] at HO d3 q3 a1
  have HN := Lib.hid (show S.l.length = n from hnl.symm)
  clear hnl
  go_wp2_with fail
  with_reducible refine (HO.out _ HG.out.st).mono ?_
  rintro x w3 ⟨rfl, hB⟩
  have HG3 := Lib.hid (HG.out.step hB)
  clear hz c0 hB
  go_upto_region 7 with fail
  refine wp_region_P (fun V => VpN w b g S zeroP V) (fun V => Below w.heap.size w V ∧ PRow V w.heap.size p) 10 _ [.val (.pointer (some ⟨b, 0, none⟩)), .val (.pointer (some ⟨b, 0, none⟩)), .val (.pointer (some ⟨b, 1, none⟩)), .val (.slice (some ⟨g, 0, none⟩) n n), .val (.int .i64 (e)), .val (.pointer (some ⟨b, 0, none⟩)), .val (.int .i64 ((S.ep : Int) + 1 - (n : Int))), .val (.int .i64 ((i : Int))), .val (.pointer (some ⟨g, i * 66, none⟩)), .val (.agg (polC p)), .st, .pure (.int .i64 0)]
    (fun x => { tmps := #[.pointer (some ⟨b, 0, none⟩), .int .i64 (e), undef, undef, .pointer (some ⟨w.heap.size, 0, none⟩), x 11, .bool false, .pointer (some ⟨b, 0, none⟩), .bool true, .bool false, undef, .bool false, .int .i64 (e), .bool false, .bool false, .int .i64 (e), .pointer (some ⟨b, 0, none⟩), .pointer (some ⟨b, 0, none⟩), .pointer (some ⟨b, 0, none⟩), .int .i64 ((S.ep : Int)), .bool false, .bool false, undef, .bool false, .int .i64 (e), .pointer (some ⟨b, 0, none⟩), .int .i64 ((S.ep : Int) + 1 - (n : Int)), .bool false, undef, x 0, x 1, x 2, x 3, x 4, x 5, x 6, x 7, x 8, x 9], defers := [] }) (fun i => ([undef, undef, undef, undef, undef, undef, undef, undef, undef, undef, undef, .int .i64 (0)] : List Value).getD i undef) (by kernel_rfl) rfl (by decide) rfl (by kernel_rfl) (by kernel_rfl) (HG3.out.step (Below.drew (Below.refl _ w3))) ?_ ?_
  · refine ⟨ObP.of_val rfl (fun x v => rfl) (fun x V hC hD => ?_), ?_⟩
    · clear hD
      refine want_yes rfl ?_
      exact leads_value (v := .pointer (some ⟨b, 0, none⟩)) (by go_simp) ⟨rfl, hC, Below.refl _ _⟩
    refine ⟨ObP.of_val rfl (fun x v => rfl) (fun x V hC hD => ?_), ?_⟩
    · have e0 : x 0 = .pointer (some ⟨b, 0, none⟩) := hD.1.1 _ rfl rfl
      clear hD
      refine want_yes rfl ?_
      exact leads_value (v := .pointer (some ⟨b, 0, none⟩)) (by go_simp) ⟨rfl, hC, Below.refl _ _⟩
    refine ⟨ObP.of_val rfl (fun x v => rfl) (fun x V hC hD => ?_), ?_⟩
    · have e1 : x 1 = .pointer (some ⟨b, 0, none⟩) := hD.1.1 _ rfl rfl
      clear hD
      refine want_yes rfl ?_
      exact leads_value (v := .pointer (some ⟨b, 1, none⟩)) (by go_simp) ⟨rfl, hC, Below.refl _ _⟩
    refine ⟨ObP.of_val rfl (fun x v => rfl) (fun x V hC hD => ?_), ?_⟩
    · have e2 : x 2 = .pointer (some ⟨b, 1, none⟩) := hD.1.1 _ rfl rfl
      clear hD
      refine want_yes rfl ?_
      have k1 := hC.st.c1
      rw [HN.out] at k1
      exact leads_value (v := .slice (some ⟨g, 0, none⟩) n n) (by go_simp) ⟨rfl, hC, Below.refl _ _⟩
    refine ⟨ObP.of_val rfl (fun x v => rfl) (fun x V hC hD => ?_), ?_⟩
    · clear hD
      refine want_yes rfl ?_
      exact leads_value (v := .int .i64 (e)) (by go_simp) ⟨rfl, hC, Below.refl _ _⟩
    refine ⟨ObP.of_val rfl (fun x v => rfl) (fun x V hC hD => ?_), ?_⟩
    · clear hD
      refine want_yes rfl ?_
      exact leads_value (v := .pointer (some ⟨b, 0, none⟩)) (by go_simp) ⟨rfl, hC, Below.refl _ _⟩
    refine ⟨ObP.of_val rfl (fun x v => rfl) (fun x V hC hD => ?_), ?_⟩
    · have e5 : x 5 = .pointer (some ⟨b, 0, none⟩) := hD.1.1 _ rfl rfl
      clear hD
      refine want_yes rfl ?_
      exact leads_enter2 (by go_simp) ((HO.out V hC.st).mono fun e w'' ⟨he, hB⟩ => ⟨_, he, rfl, hC.step hB, hB⟩)
    refine ⟨ObP.of_val rfl (fun x v => rfl) (fun x V hC hD => ?_), ?_⟩
    · have e4 : x 4 = .int .i64 (e) := hD.1.1 _ rfl rfl
      have e6 : x 6 = .int .i64 ((S.ep : Int) + 1 - (n : Int)) := hD.2.1.1 _ rfl rfl
      clear hD
      refine want_yes rfl ?_
      exact leads_value (v := .int .i64 ((i : Int))) (by go_simp) ⟨rfl, hC, Below.refl _ _⟩
    refine ⟨ObP.of_val rfl (fun x v => rfl) (fun x V hC hD => ?_), ?_⟩
    · have e3 : x 3 = .slice (some ⟨g, 0, none⟩) n n := hD.1.1 _ rfl rfl
      have e7 : x 7 = .int .i64 ((i : Int)) := hD.2.1.1 _ rfl rfl
      clear hD
      refine want_yes rfl ?_
      exact leads_value (v := .pointer (some ⟨g, i * 66, none⟩)) (by go_simp) ⟨rfl, hC, Below.refl _ _⟩
    refine ⟨ObP.of_val rfl (fun x v => rfl) (fun x V hC hD => ?_), ?_⟩
    · have e8 : x 8 = .pointer (some ⟨g, i * 66, none⟩) := hD.1.1 _ rfl rfl
      clear hD
      refine want_yes rfl ?_
      exact leads_value (exec_load_cells rfl e8 (HC.out _ hC.st) Tryd.underlying46 rfl (infoPol _)) ⟨rfl, hC, Below.refl _ _⟩
    refine ⟨ObP.of_st rfl (fun x v => rfl) rfl (fun x V hC hD => ?_), ?_⟩
    · have e9 : x 9 = .agg (polC p) := hD.1.1 _ rfl rfl
      clear hD
      exact leadsP_mono (leads_store_row rfl rfl e9 hC.res (infoPol _) (by rw [polC_size, polC_size]) (polC_one _)) fun u V' hp => ⟨hC.out (putB_put hp), (putB_put hp).blk⟩
    refine ⟨ObP.of_pure rfl (fun x v => rfl) (fun x V hD => ?_), ?_⟩
    · clear hD
      refine want_yes rfl ?_
      exact leads_value (v := .int .i64 0) (by go_simp) ⟨rfl, rfl⟩
    trivial
  rintro x V ⟨hB9, hR9⟩ hx
  have x11 : x 11 = .int .i64 0 := hx 11 _ (by simp) rfl
  rw [x11]
  clear hx x11
  refine wpList_nil ?_
  go_wp2_with fail
  exact bodyPost_ret (v := .tuple #[.agg (polC p), .int .i64 0]) (results_pol2 rfl rfl rfl hR9) rfl ⟨by rw [HA.out, HQ.out], hB9⟩
/-- A row of policies, and the block that names it. -/
theorem VpSt.box {w : World} {g cap : Nat} {S : Sto} (h : PolsAt w (.slice (some ⟨g, 0, none⟩) S.l.length cap) S.l) (hg : g < w.heap.size) : VpSt (w.alloc (.cells #[.int .i64 (S.ep : Int), .slice (some ⟨g, 0, none⟩) S.l.length S.l.length] 78)) w.heap.size S g :=
  ⟨Blk.new w _ _, h.cut.below (belowNew w _) (Nat.le_refl _), by simp; omega, by omega⟩
set_option maxRecDepth 100000 in
set_option maxHeartbeats 1600000 in
/-- New. -/
theorem veNew_any : VeNewC theVer := by
  intro p w hp
  have hb1 := PRow.new w p
  have HB1 := Lib.hid (belowNew w (.cells (polC p) 46))
  have hf : PolsAt ((w.alloc (.cells (polC p) 46)).alloc (.cells (flatC polC [p]).toArray 46)) (.slice (some ⟨(w.alloc (.cells (polC p) 46)).heap.size, 0, none⟩) [p].length [p].length) [p] := SlAt.ofBlk polC_size (Blk.new _ _ _) (by simp) (fun c hc => by rw [List.mem_singleton.1 hc]; exact hp)
  have HF := Lib.hid hf
  have HB2 := Lib.hid (belowNew (w.alloc (.cells (polC p) 46)) (.cells (flatC polC [p]).toArray 46))
  have HLt := Lib.hid (show (w.alloc (.cells (polC p) 46)).heap.size < ((w.alloc (.cells (polC p) 46)).alloc (.cells (flatC polC [p]).toArray 46)).heap.size by simp)
  clear hf
  go_enter Tryd.func17, Tryd.ntmps17
  go_upto_region 1 with fail
  generalize w.alloc _ = w1 at *
  go_wp2_with (first
    | (refine wpList_load_arr rfl _ _ rfl rfl hb1 Tryd.underlying46 rfl (infoPol _) ?_)
    | (refine wpList_build_flat polC_size (by decide) rfl _ 46 1 _ rfl Tryd.underlying22 infoPl [p] (by simp) rfl (by show 1 * 66 ≤ 2 ^ 24; decide) rfl ?_))
  generalize w1.alloc _ = w2 at *
  have HK := Lib.hid (veLim_any (w := w2) (g := w1.heap.size) (off := 0) (n := 1) (c := 1) (Nat.le_refl _) (by decide))
  with_reducible refine HK.out.mono ?_
  rintro e w3 ⟨rfl, rfl⟩
  go_wp2_with fail
  go_ret
  have h3 := VpSt.box (S := ⟨0, [p]⟩) HF.out HLt.out
  have hw := HB1.out.trans (HB2.out.mono HB1.out.size)
  refine ⟨_, _, rfl, ⟨_, h3, rfl⟩, fun k hk => ?_, hw.trans ((belowNew w2 _).mono hw.size)⟩
  have := HB1.out.size
  have := hw.size
  rcases hk with rfl | rfl <;> omega
set_option maxRecDepth 100000 in
set_option maxHeartbeats 1600000 in
theorem veClone_any {w : World} {v : Value} {l : List Pol} (h : PolsAt w v l) (hne : l ≠ []) (hl : l.length ≤ 8) :
    Calls Tryd.prog 43 #[v] w fun e w' => ∃ g cap, e = .returned (.slice (some ⟨g, 0, none⟩) l.length cap) ∧ w'.ownsRow w.heap.size 46 66 (.slice (some ⟨g, 0, none⟩) l.length cap) l.length (flatC polC l) ∧ w.heap.size ≤ g ∧ l.length ≤ cap ∧ cap ≤ maxLen ∧ Below w.heap.size w w' := by
  obtain ⟨g, off, cap, rfl, h1, h2, hlt⟩ := h.shape hne
  have hE : SlAt polC 66 PolOk (w.alloc (.cells #[] 46)) (.slice (some ⟨w.heap.size, 0, none⟩) ([] : List Pol).length ([] : List Pol).length) [] := ⟨_, 0, rfl, ⟨Nat.le_refl _, by decide⟩, fun h => absurd rfl h⟩
  have HE := Lib.hid hE
  have HH := Lib.hid (h.below (belowNew w (.cells #[] 46)) (Nat.le_refl _))
  have HW := Lib.hid (belowNew w (.cells #[] 46))
  have HL := Lib.hid (And.intro hne hl)
  have hnil := fun (V : World) => Lib.run_eql_slice_nil (P := Tryd.prog) V 22 46 (some ⟨g, off, none⟩) l.length cap 0 0 Tryd.underlying22
  clear h hE hne hl h1 h2 hlt
  go_enter Tryd.func43, Tryd.ntmps43
  go_wp2_with (at_builtin; refine wpList_append_full polC_size (by decide) rfl _ _ 22 rfl Tryd.underlying22 infoPl rfl rfl HE.out HH.out HL.out.1 (by have := HL.out.2; show (0 + l.length) * 116 ≤ _; omega) (by have := HL.out.2; show 0 + l.length ≤ maxLen; unfold maxLen; omega) ?_; intro c2 w2 h2 hc2 hm2 hb2; have H2 := Lib.hid h2; have HB2 := Lib.hid hb2; have HC2 := Lib.hid (And.intro hc2 hm2); clear h2 hb2 hc2 hm2)
  go_ret
  have h2 := H2.out
  have hb2 := HB2.out.mono HW.out.size
  have hc := HC2.out
  rw [List.nil_append] at h2 hc
  have e1 : (w.alloc (.cells #[] 46)).heap.size = w.heap.size + 1 := by simp
  rw [e1] at h2
  exact ⟨_, c2, rfl, own_base h2 (by omega), by omega, hc.1, hc.2, HW.out.trans hb2⟩
theorem veKept_any : VeKeptC theVer := by
  rintro w b S F ⟨g, h, rfl⟩ hok
  have hpos := sto_pos hok
  have HM := Lib.hid (veMade_any h (show 0 < S.l.length by omega))
  have HC := Lib.hid (veClone_any h.row (fun e => by rw [e] at hpos; simp at hpos) hpos.2.1)
  have c1 := h.c1
  clear h hok hpos
  unfold storeV at *
  go_enter Tryd.func21, Tryd.ntmps21
  go_wp2_with fail
  with_reducible refine HM.out.mono ?_
  rintro e w1 ⟨rfl, rfl⟩
  go_wp2_with fail
  with_reducible refine HC.out.mono ?_
  rintro e w2 ⟨g2, cap, rfl, h1, h2, h3, h4, h5⟩
  have H1 := Lib.hid (And.intro h1 h5)
  clear h1 h2 h3 h4 h5
  go_wp2_with fail
  go_ret
  exact ⟨_, rfl, H1.out.1, H1.out.2⟩
set_option maxRecDepth 100000 in
set_option maxHeartbeats 1600000 in
theorem veOf_any : VeOfC theVer := by
  intro e v l w h hk hl
  have h255 : 0 ≤ e ∧ e ≤ 255 := by
    by_cases hx : e < 0 ∨ 255 < e
    · exact absurd (if_pos hx) hk
    · omega
  have hkn := keptN_nat (e := e.toNat) (by omega)
  rw [Int.toNat_of_nonneg h255.1] at hkn
  have hl8 : l.length ≤ 8 := by omega
  have hne : l ≠ [] := fun e => by rw [e] at hl; simp at hl; omega
  obtain ⟨g, off, cap, rfl, h1, h2, hlt⟩ := h.shape hne
  have HK := Lib.hid (fun V => veCount_any e V (by omega) (by omega))
  have HC := Lib.hid (veClone_any h hne hl8)
  have HO := Lib.hid (And.intro h.oks h255)
  have d : ((keptN e : Int) == 0) = false := by rw [beq_eq_false_iff_ne]; omega
  have d0 : ¬ ((keptN e : Int) = 0) := by omega
  have HEq := Lib.hid hl.symm
  rw [← hl] at HK d d0
  clear h hk hl h255 hkn hl8 hne h1 h2 hlt
  go_enter Tryd.func20, Tryd.ntmps20
  go_wp2_with fail
  with_reducible refine (HK.out _).mono ?_
  rintro x w1 ⟨rfl, rfl⟩
  go_wp2_with fail
  with_reducible refine HC.out.mono ?_
  rintro x w2 ⟨g2, cap2, rfl, h1, h2, h3, h4, h5⟩
  have H1 := Lib.hid (And.intro h1 (And.intro h2 h5))
  have HL := Lib.hid (veLim_any (w := w2) (g := g2) (off := 0) h3 (by unfold maxLen at h4; exact h4))
  clear h1 h2 h3 h4 h5
  go_wp2_with fail
  with_reducible refine HL.out.mono ?_
  rintro x w3 ⟨rfl, rfl⟩
  go_wp2_with fail
  obtain ⟨h1, h2, h5⟩ := H1.out
  have hE : (e.toNat : Int) = e := Int.toNat_of_nonneg HO.out.2.1
  have hrow := SlAt.ofRow (ok := PolOk) polC_size h1 HO.out.1
  have hlt2 : g2 < w2.heap.size := by
    obtain ⟨-, ⟨e0, -⟩ | ⟨q, c, cur, e0, -, hq, -⟩⟩ := h1
    · cases e0
    · cases e0; exact lt_of_block hq
  have h3 := VpSt.box (S := ⟨e.toNat, l⟩) hrow hlt2
  rw [hE] at h3
  refine bodyPost_ret (v := .tuple #[storeV w2.heap.size, .int .i64 0]) (by simp [results, Tryd.results20]) rfl ⟨_, _, rfl, ⟨_, h3, rfl⟩, fun k hk => ?_, h5.trans ((belowNew w2 _).mono h5.size)⟩
  have := h5.size
  rcases hk with rfl | rfl <;> omega
theorem veOfNo_any : VeOfNoC := by
  intro e v l w h h1 h2 hno
  obtain ⟨p, cap, rfl, hc, -⟩ := h
  have HK := Lib.hid (fun V => veCount_any e V h1 h2)
  clear h1 h2
  go_enter Tryd.func20, Tryd.ntmps20
  by_cases hz : keptN e = 0
  · have HZ := Lib.hid hz
    rw [hz] at HK
    clear hz hno
    go_wp2_with fail
    with_reducible refine (HK.out _).mono ?_
    rintro x w1 ⟨rfl, rfl⟩
    go_wp2_with fail
    exact bodyPost_ret (v := .tuple #[.pointer none, .int .i64 8]) (by simp [results, Tryd.results20]) rfl ⟨rfl, Below.refl _ _⟩
  · have HZ := Lib.hid hz
    have d : ((keptN e : Int) == 0) = false := by rw [beq_eq_false_iff_ne]; omega
    have d0 : ¬ ((keptN e : Int) = 0) := by omega
    have d1 : ¬ ((keptN e : Int) = (l.length : Int)) := by omega
    have d2 : ((keptN e : Int) == (l.length : Int)) = false := by rw [beq_eq_false_iff_ne]; omega
    clear hno
    go_wp2_with fail
    with_reducible refine (HK.out _).mono ?_
    rintro x w1 ⟨rfl, rfl⟩
    go_wp2_with fail
    exact bodyPost_ret (v := .tuple #[.pointer none, .int .i64 3]) (by simp [results, Tryd.results20]) rfl ⟨rfl, Below.refl _ _⟩
end Go.Proofs.YtimbhamdblganaaDoor

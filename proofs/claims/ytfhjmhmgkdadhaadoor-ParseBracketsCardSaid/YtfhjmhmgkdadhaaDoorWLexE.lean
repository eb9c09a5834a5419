/-
  The document's pieces.
-/
import Derived.Test.YtfhjmhmgkdadhaaDoorWLexD
import Derived.Test.YtfhjmhmgkdadhaaDoorWStage
/-! LexE -/
namespace Go.Proofs.YtfhjmhmgkdadhaaDoor
open Go.RowKit

/-- Those cut so far, and what is left. -/
structure PcGo (s : List UInt8) (L : List (Pc × Nat)) (pl : Nat) : Prop where
  le : pl ≤ s.length
  is : pcsL s = (pcsF (s.length - pl + 1) pl (s.drop pl)).map (L ++ ·)
theorem pcGo_start (s : List UInt8) : PcGo s [] 0 := ⟨Nat.zero_le _, by
  unfold pcsL
  rw [List.drop_zero, Nat.sub_zero]
  cases pcsF (s.length + 1) 0 s <;> rfl⟩
theorem pcGo_blank {s : List UInt8} {L : List (Pc × Nat)} {pl : Nat} (h : PcGo s L pl) (hp : pl < s.length) (hb : s[pl] = 32) : PcGo s L (pl + 1) := ⟨hp, by
  rw [h.is, List.drop_eq_getElem_cons hp, hb, show s.length - pl + 1 = (s.length - (pl + 1) + 1) + 1 by omega]
  conv => lhs; unfold pcsF
  rw [if_pos rfl]⟩
theorem pcGo_piece {s : List UInt8} {L : List (Pc × Nat)} {pl : Nat} (h : PcGo s L pl) (hp : pl < s.length) (hb : ¬ s[pl] = 32) {x : Pc} (hx : findPc ((s.drop pl).take (cutN (s.drop pl))) = some x) : PcGo s (L ++ [(x, pl)]) (pl + cutN (s.drop pl)) := by
  have e := List.drop_eq_getElem_cons hp
  have hc1 := cut_pos (s.drop pl)
  have hc2 : cutN (s.drop pl) ≤ s.length - pl := by
    have := cut_le s[pl] (s.drop (pl + 1))
    rw [← e, List.length_drop] at this
    omega
  refine ⟨by omega, ?_⟩
  have h1 : pcsF (s.length - pl + 1) pl (s.drop pl) = (pcsF (s.length - pl) (pl + cutN (s.drop pl)) ((s.drop pl).drop (cutN (s.drop pl)))).map ((x, pl) :: ·) := by
    conv => lhs; rw [e]; unfold pcsF
    rw [if_neg hb, ← e, hx]
  rw [h.is, h1, List.drop_drop, pcsF_fuel (s.length - pl) (s.length - (pl + cutN (s.drop pl)) + 1) _ _ (by rw [List.length_drop]; omega) (by rw [List.length_drop]; omega)]
  cases pcsF (s.length - (pl + cutN (s.drop pl)) + 1) (pl + cutN (s.drop pl)) (s.drop (pl + cutN (s.drop pl))) with
  | error k => rfl
  | ok M =>
    show Except.ok (L ++ (x, pl) :: M) = Except.ok (L ++ [(x, pl)] ++ M)
    rw [List.append_assoc]; rfl
theorem pcGo_none {s : List UInt8} {L : List (Pc × Nat)} {pl : Nat} (h : PcGo s L pl) (hp : pl < s.length) (hb : ¬ s[pl] = 32) (hx : findPc ((s.drop pl).take (cutN (s.drop pl))) = none) : pcsL s = .error pl := by
  have e := List.drop_eq_getElem_cons hp
  have h1 : pcsF (s.length - pl + 1) pl (s.drop pl) = .error pl := by
    conv => lhs; rw [e]; unfold pcsF
    rw [if_neg hb, ← e, hx]
  rw [h.is, h1]
  rfl
theorem pcGo_end {s : List UInt8} {L : List (Pc × Nat)} {pl : Nat} (h : PcGo s L pl) (hp : ¬ pl < s.length) : pcsL s = .ok (L ++ [(endPc, pl)]) := by
  have := h.le
  have e : s.drop pl = [] := List.drop_of_length_le (by omega)
  rw [h.is, e]
  rfl
/-- Those of the table whose text it is. -/
def hitL (t : List UInt8) (i : Nat) : List Pc := (tabPc.take i).filter fun x => decide (x.text = t)
theorem hit_step (t : List UInt8) {i : Nat} (hi : i < tabPc.length) : hitL t (i + 1) = hitL t i ++ (if tabPc[i].text = t then [tabPc[i]] else []) := by
  unfold hitL
  rw [List.take_succ_eq_append_getElem hi, List.filter_append]
  congr 1
  by_cases h : tabPc[i].text = t
  · simp [h]
  · simp [h]
theorem filter_find (t : List UInt8) : ∀ l : List Pc, l.Pairwise (fun x y => x.text ≠ y.text) → l.filter (fun x => decide (x.text = t)) = (l.find? fun x => decide (x.text = t)).toList
  | [], _ => rfl
  | a :: r, h => by
    obtain ⟨h1, h2⟩ := List.pairwise_cons.1 h
    by_cases e : a.text = t
    · have hr : r.filter (fun x => decide (x.text = t)) = [] := List.filter_eq_nil_iff.2 fun x hx => by
        have := h1 x hx
        simp only [decide_eq_true_eq]
        intro q
        exact this (e.trans q.symm)
      simp [e, hr]
    · simp only [List.filter_cons, List.find?_cons, e, decide_false, Bool.false_eq_true, if_false]
      exact filter_find t r h2
theorem tab_distinct : tabPc.Pairwise fun x y => x.text ≠ y.text := by decide +kernel
theorem hit_all (t : List UInt8) : hitL t 47 = (findPc t).toList := by
  have h := filter_find t tabPc tab_distinct
  unfold hitL findPc
  rw [show tabPc.take 47 = tabPc from List.take_of_length_le (by rw [tab_len]; exact Nat.le_refl _)]
  exact h
theorem hit_len (t : List UInt8) (i : Nat) : (hitL t i).length ≤ 47 := by
  unfold hitL
  refine Nat.le_trans (List.length_filter_le _ _) ?_
  rw [List.length_take, tab_len]
  omega
def hitP (t : List UInt8) (i pl : Nat) : List (Pc × Nat) := (hitL t i).map fun x => (x, pl)
theorem pcsO_many {s : List UInt8} (h : 48 < s.length) : pcsO s = ([], 0, 5) := by unfold pcsO; rw [if_pos h]
theorem pcsO_ok {s : List UInt8} (h : ¬ 48 < s.length) {L : List (Pc × Nat)} (e : pcsL s = .ok L) : pcsO s = (L, 0, 0) := by unfold pcsO; rw [if_neg h, e]
theorem pcsO_not {s : List UInt8} (h : ¬ 48 < s.length) {k : Nat} (e : pcsL s = .error k) : pcsO s = ([], k, 3) := by unfold pcsO; rw [if_neg h, e]
theorem tab0_len : tab0.length = 47 := by decide +kernel
theorem tab0_get {i : Nat} (h : i < tabPc.length) (h0 : i < tab0.length) : tab0[i] = (tabPc[i], 0) := by
  have e : tab0[i]? = some (tabPc[i], 0) := by
    unfold tab0
    rw [List.getElem?_map, List.getElem?_eq_getElem h]
    rfl
  rw [List.getElem?_eq_getElem h0] at e
  exact Option.some.inj e
theorem hitP_zero (t : List UInt8) (pl : Nat) : hitP t 0 pl = [] := rfl
theorem hitP_step (t : List UInt8) {i : Nat} (hi : i < tabPc.length) (pl : Nat) : hitP t (i + 1) pl = hitP t i pl ++ (if tabPc[i].text = t then [(tabPc[i], pl)] else []) := by
  unfold hitP
  rw [hit_step t hi, List.map_append]
  congr 1
  split <;> rfl
theorem str_mid (s : List UInt8) (a b : Nat) : (⟨s.toArray⟩ : ByteArray).extract a b = ⟨((s.drop a).take (b - a)).toArray⟩ := by
  have e : ((⟨s.toArray⟩ : ByteArray).extract a b).data.toList = (s.drop a).take (b - a) := by rw [Lib.extract_data]
  generalize (⟨s.toArray⟩ : ByteArray).extract a b = z at *
  obtain ⟨⟨l⟩⟩ := z
  have e2 : l = (s.drop a).take (b - a) := e
  subst e2
  rfl
theorem infoPcS (x : Pc × Nat) : (Tryd.prog.info? 52).map (·.size) = some (pieC x).size := by rw [pieC_size]; kernel_rfl
set_option maxRecDepth 100000 in
set_option maxHeartbeats 3200000 in
theorem rlPieces_any : RPiecesC := by
  intro s w hl
  have hz : (⟨s.toArray⟩ : ByteArray).size = s.length := by simp [ByteArray.size]
  have HT := Lib.hid (fun V => rlTable_any V)
  by_cases h48 : 48 < s.length
  · have HO := Lib.hid (pcsO_many h48)
    have d48 : decide ((48 : Int) < (s.length : Int)) = true := by simp; omega
    have d48b : decide (48 < s.length) = true := by simp; omega
    clear h48
    go_enter Tryd.func20, Tryd.ntmps20
    go_wp2_with fail
    exact bodyPost_ret (v := .tuple #[.slice none 0 0, .int .i64 0, .int .i64 5]) (by simp [results, Tryd.results20, go_sem]) rfl ⟨_, by rw [HO.out]; rfl, by rw [HO.out]; exact SlAt.nil _, Below.refl _ _⟩
  · have d48 : decide ((48 : Int) < (s.length : Int)) = false := by simp; omega
    have d48b : decide (48 < s.length) = false := by simp; omega
    have HL := Lib.hid h48
    have HCut := Lib.hid (fun pl hp V => rlCut_any s (by omega) pl hp V)
    clear h48
    go_enter Tryd.func20, Tryd.ntmps20
    go_wp2_with fail
    refine (HT.out _).mono ?_
    rintro e wt ⟨tv, rfl, ht, hB⟩
    obtain ⟨g, off, cap, rfl, hcap1, hcap2, hg⟩ := (pcRow_at ht).shape (by intro h; have := tab0_len; rw [h] at this; cases this)
    have HTb := Lib.hid (pcRow_at ht)
    have HB := Lib.hid hB
    have HGg := Lib.hid hg
    rw [tab0_len] at *
    clear ht hB hg hcap1 hcap2
    have HP0 := Lib.hid (show TbW wt (.slice none 0 0) ([] : List (Pc × Nat)) wt from ⟨Below.refl _ _, World.ownsRow_nil _ _ _ _⟩)
    go_wp2_with fail
    go_loopw [6, 7] (fun v a V => ∃ (pl : Nat) (L : List (Pc × Nat)), a = .int .i64 (pl : Int) ∧ PcGo s L pl ∧ L.length ≤ pl ∧ TbW wt v L V) (fun _ a _ => s.length - (intOf a).toNat)
    case atStart => exact ⟨0, [], rfl, pcGo_start s, Nat.le_refl _, HP0.out⟩
    case round =>
      obtain ⟨pl, L, rfl, hgo, hLl, hw⟩ := hrel
      have HGo := Lib.hid hgo
      have HW := Lib.hid hw
      have HLl := Lib.hid hLl
      clear hgo hw hLl HP0
      by_cases hlt : pl < s.length
      · have dl : decide ((pl : Int) < (s.length : Int)) = true := by simp; omega
        have dl2 : decide (pl < s.length) = true := by simpa using hlt
        have hk2 : pl < (⟨s.toArray⟩ : ByteArray).size := by omega
        by_cases hb : s[pl] = 32
        · have HGn := Lib.hid (pcGo_blank HGo.out hlt hb)
          have db : (((⟨s.toArray⟩ : ByteArray)[pl].toNat : Int) == 32) = true := by rw [show (⟨s.toArray⟩ : ByteArray)[pl] = s[pl] from rfl, hb]; rfl
          have hwr : IntKind.i64.wrap ((pl : Int) + 1) = (pl : Int) + 1 := by have := HL.out; rw [IntKind.wrap_i64]; omega
          have HPl := Lib.hid hlt
          clear hb hlt
          go_wp2_with fail
          go_roundw
          case rel => exact ⟨pl + 1, L, by go_num, HGn.out, Nat.le_succ_of_le HLl.out, HW.out⟩
          case measure => have := HPl.out; simp [intOf]; omega
        · have db : (((⟨s.toArray⟩ : ByteArray)[pl].toNat : Int) == 32) = false := byte_neD hb
          have HGn := Lib.hid (fun x hx => pcGo_piece HGo.out hlt hb (x := x) hx)
          have HGx := Lib.hid (pcGo_none HGo.out hlt hb)
          have HPl := Lib.hid hlt
          clear hb hlt
          go_wp2_with fail
          refine (HCut.out pl HPl.out _).mono ?_
          rintro e w2 ⟨rfl, hB2⟩
          generalize hcN : cutN (s.drop pl) = c at *
          generalize htN : (s.drop pl).take c = t at *
          have HW2 := Lib.hid (HW.out.step hB2)
          have HCp := Lib.hid (show 0 < c from hcN ▸ cut_pos _)
          have HC2 := Lib.hid (show pl + c ≤ s.length from by
            have := cut_le s[pl] (s.drop (pl + 1))
            rw [← List.drop_eq_getElem_cons HPl.out, List.length_drop] at this
            omega)
          have HSx := Lib.hid (show (⟨s.toArray⟩ : ByteArray).extract pl ((pl : Int) + (c : Int)).toNat = ⟨t.toArray⟩ from by rw [str_mid, show ((pl : Int) + (c : Int)).toNat - pl = c by omega, htN])
          clear hB2 HW
          go_wp2_with fail
          go_loopw [6, 9, 10] (fun v f i V => ∃ (k : Nat) (b : Bool), k ≤ 47 ∧ i = .int .i64 (k : Int) ∧ f = .bool b ∧ (b = true ↔ hitL t k ≠ []) ∧ TbW wt v (L ++ hitP t k pl) V) (fun _ _ i _ => 47 - (intOf i).toNat)
          case atStart => exact ⟨0, false, by omega, rfl, rfl, ⟨fun h => by (cases h), fun h => absurd rfl h⟩, by rw [hitP_zero, List.append_nil]; exact HW2.out⟩
          case round =>
            obtain ⟨k, fb, hk, rfl, rfl, hbf, hw⟩ := hrel
            have HW := Lib.hid hw
            have HBf := Lib.hid hbf
            clear hw hbf HW2
            by_cases hlt : k < 47
            · have dk : decide ((k : Int) < 47) = true := by simp; omega
              have dk2 : decide (k < 47) = true := by simpa using hlt
              have h0 : (0 : Int) ≤ (k : Int) := by omega
              have h3 : (k : Int) < 47 := by omega
              have hwk : IntKind.i64.wrap ((k : Int) + 1) = (k : Int) + 1 := by rw [IntKind.wrap_i64]; omega
              have hkt : k < tabPc.length := by rw [tab_len]; exact hlt
              have hel := (HTb.out.elem (i := k) (by rw [tab0_len]; exact hlt)).2
              rw [tab0_get hkt] at hel
              have HCl := Lib.hid (show ∀ V, Below wr.heap.size wr V → CellsAt V g (off + k * 4) (pieC (tabPc[k], 0)) from fun V hV => hel.below (HW.out.below.trans (hV.mono HW.out.below.size)) HGg.out)
              have HSt := Lib.hid (hit_step t hkt)
              have HSp := Lib.hid (hitP_step t hkt pl)
              have HPn := Lib.hid (show (hitP t k pl).length ≤ 47 from by unfold hitP; rw [List.length_map]; exact hit_len t k)
              generalize hitL t k = h1 at *
              generalize hitP t k pl = p1 at *
              generalize hx : tabPc[k] = x at *
              obtain ⟨kd, tx, xn⟩ := x
              have HKt := Lib.hid hkt
              clear hel hlt hk hkt hx
              have HC1 := Lib.hid (show ∀ V, Below wr.heap.size wr V → V.cell? ⟨g, off + k * 4 + 1, none⟩ = some (.string ⟨tx.toArray⟩) from fun V hV => HCl.out V hV 1 _ rfl)
              obtain ⟨b, HBt⟩ : ∃ b : Bool, Hid (b = true ↔ tx = t) := ⟨decide (tx = t), Lib.hid (by simp)⟩
              have hz2 : (0 : Int) ≤ (pl : Int) := by omega
              have hz3 : (pl : Int) ≤ (pl : Int) + (c : Int) := by omega
              have hz4 : (pl : Int) + (c : Int) ≤ (s.length : Int) := by have := HC2.out; omega
              go_wp2_with fail
              refine wp_region_S (fun _ V => Below wr.heap.size wr V) 0 [.val (.slice (some ⟨g, off, none⟩) 47 cap), .val (.int .i64 (k : Int)), .val (.pointer (some ⟨g, off + k * 4, none⟩)), .val (.pointer (some ⟨g, off + k * 4 + 1, none⟩)), .val (.string ⟨tx.toArray⟩), .val (.string ⟨s.toArray⟩), .val (.int .i64 (pl : Int)), .val (.int .i64 ((pl : Int) + (c : Int))), .val (.string ⟨t.toArray⟩), .val (.bool b)]
                (fun x => { tmps := #[.string ⟨s.toArray⟩, undef, u2, u3, u4, .slice (some ⟨g, off, none⟩) 47 cap, u6, .int .i64 (pl : Int), .int .i64 ((pl : Int) + (c : Int)), .bool fb, .int .i64 (k : Int), u11, .string ⟨s.toArray⟩, .int .i64 (s.length : Int), .bool false, .slice (some ⟨g, off, none⟩) 47 cap, .int .i64 (pl : Int), .string ⟨s.toArray⟩, .int .i64 (s.length : Int), .bool true, .string ⟨s.toArray⟩, .int .i64 (pl : Int), .int .u8 (((⟨s.toArray⟩ : ByteArray)[pl]'hk2).toNat : Int), .bool false, u24, u25, .string ⟨s.toArray⟩, .int .i64 (pl : Int), .int .i64 ((pl : Int) + (c : Int)), .int .i64 (k : Int), .slice (some ⟨g, off, none⟩) 47 cap, .int .i64 47, .bool true, u33, u34, x 0, x 1, x 2, x 3, x 4, x 5, x 6, x 7, x 8, x 9, u45, u46, u47, u48, u49, u50, u51, u52, u53, u54, u55, u56, u57, u58, undef, undef, undef, undef, undef], defers := [] }) (fun i => ([u35, u36, u37, u38, u39, u40, u41, u42, u43, u44] : List Value).getD i undef) (by kernel_rfl) rfl rfl (by kernel_rfl) (by kernel_rfl) (by kernel_rfl) (by kernel_rfl) ((Below.refl _ wr).drew) ?_ ?_
              · refine ⟨ObS.of_val rfl (fun x v => rfl) (fun x V kst hC hD => ?_), ?_⟩
                · clear hD
                  refine want_yes rfl ?_
                  exact leads_value (v := .slice (some ⟨g, off, none⟩) 47 cap) (by go_simp) ⟨rfl, hC⟩
                refine ⟨ObS.of_val rfl (fun x v => rfl) (fun x V kst hC hD => ?_), ?_⟩
                · clear hD
                  refine want_yes rfl ?_
                  exact leads_value (v := .int .i64 (k : Int)) (by go_simp) ⟨rfl, hC⟩
                refine ⟨ObS.of_val rfl (fun x v => rfl) (fun x V kst hC hD => ?_), ?_⟩
                · have e0 : x 0 = .slice (some ⟨g, off, none⟩) 47 cap := hD.1 rfl
                  have e1 : x 1 = .int .i64 (k : Int) := hD.2.1 rfl
                  clear hD
                  refine want_yes rfl ?_
                  exact leads_value (v := .pointer (some ⟨g, off + k * 4, none⟩)) (by go_simp) ⟨rfl, hC⟩
                refine ⟨ObS.of_val rfl (fun x v => rfl) (fun x V kst hC hD => ?_), ?_⟩
                · have e2 : x 2 = .pointer (some ⟨g, off + k * 4, none⟩) := hD.1 rfl
                  clear hD
                  refine want_yes rfl ?_
                  exact leads_value (v := .pointer (some ⟨g, off + k * 4 + 1, none⟩)) (by go_simp) ⟨rfl, hC⟩
                refine ⟨ObS.of_val rfl (fun x v => rfl) (fun x V kst hC hD => ?_), ?_⟩
                · have e3 : x 3 = .pointer (some ⟨g, off + k * 4 + 1, none⟩) := hD.1 rfl
                  clear hD
                  refine want_yes rfl ?_
                  have k0 := HC1.out V hC
                  exact leads_value (v := .string ⟨tx.toArray⟩) (by go_simp) ⟨rfl, hC⟩
                refine ⟨ObS.of_val rfl (fun x v => rfl) (fun x V kst hC hD => ?_), ?_⟩
                · clear hD
                  refine want_yes rfl ?_
                  exact leads_value (v := .string ⟨s.toArray⟩) (by go_simp) ⟨rfl, hC⟩
                refine ⟨ObS.of_val rfl (fun x v => rfl) (fun x V kst hC hD => ?_), ?_⟩
                · clear hD
                  refine want_yes rfl ?_
                  exact leads_value (v := .int .i64 (pl : Int)) (by go_simp) ⟨rfl, hC⟩
                refine ⟨ObS.of_val rfl (fun x v => rfl) (fun x V kst hC hD => ?_), ?_⟩
                · clear hD
                  refine want_yes rfl ?_
                  exact leads_value (v := .int .i64 ((pl : Int) + (c : Int))) (by go_simp) ⟨rfl, hC⟩
                refine ⟨ObS.of_val rfl (fun x v => rfl) (fun x V kst hC hD => ?_), ?_⟩
                · have e5 : x 5 = .string ⟨s.toArray⟩ := hD.1 rfl
                  have e6 : x 6 = .int .i64 (pl : Int) := hD.2.1 rfl
                  have e7 : x 7 = .int .i64 ((pl : Int) + (c : Int)) := hD.2.2.1 rfl
                  clear hD
                  refine want_yes rfl ?_
                  exact leads_value (v := .string ⟨t.toArray⟩) (by go_simp; exact HSx.out) ⟨rfl, hC⟩
                refine ⟨ObS.of_val rfl (fun x v => rfl) (fun x V kst hC hD => ?_), ?_⟩
                · have e4 : x 4 = .string ⟨tx.toArray⟩ := hD.1 rfl
                  have e8 : x 8 = .string ⟨t.toArray⟩ := hD.2.1 rfl
                  clear hD
                  refine want_yes rfl ?_
                  exact leads_value (exec_streq (l := tx) (m := t) (b := b) rfl (by exact e4) (by exact e8) HBt.out) ⟨rfl, hC⟩
                trivial
              · intro xa V hC hx
                have e9 : xa 9 = .bool b := hx 9 (by simp)
                have HV := Lib.hid (show Below wr.heap.size wr V from hC)
                clear hx hC
                rw [e9]
                clear e9
                generalize xa 0 = y35 at *
                generalize xa 1 = y36 at *
                generalize xa 2 = y37 at *
                generalize xa 3 = y38 at *
                generalize xa 4 = y39 at *
                generalize xa 5 = y40 at *
                generalize xa 6 = y41 at *
                generalize xa 7 = y42 at *
                generalize xa 8 = y43 at *
                cases b with
                | true =>
                  have HXt := Lib.hid (HBt.out.1 rfl)
                  clear HBt
                  go_upto_region 16 with (first | (refine wpList_load_cells rfl _ _ rfl rfl (HCl.out _ HV.out) Tryd.underlying52 rfl (infoPcS _) ?_) | (refine wpList_store_arr rfl rfl _ _ _ rfl rfl rfl (Blk.new _ _ _) (infoPcS _) rfl (pieC_one _) ?_; intro w9 hw9))
                  have hf9 := hw9.blk.free 3
                  have hc9 := hw9.blk.cell 3
                  go_upto_region 17 with fail
                  have HQ := Lib.hid (show Put _ _ _ (pieC (⟨kd, tx, xn⟩, pl)) _ from hw9.set 3 (.int .i64 (pl : Int)))
                  clear hw9 hf9 hc9
                  have HW9 := Lib.hid (HW.out.step (HV.out.trans (((belowNew V _).trans (HQ.out.below (by simp) (Nat.le_refl _))).mono HV.out.size)))
                  clear HW HV
                  go_wp2_with (first | (refine wpList_build_flat pieC_size (by decide) rfl _ 52 1 _ rfl Tryd.underlying46 infoPc [(⟨kd, tx, xn⟩, pl)] (by simp) rfl (by show 1 * 4 ≤ 2 ^ 24; decide) rfl ?_) | (refine wpList_load_arr rfl _ _ rfl rfl HQ.out.blk Tryd.underlying52 rfl (infoPcS _) ?_) | (at_builtin; refine wpList_append_rows (l := [(⟨kd, tx, xn⟩, pl)]) (m := L ++ p1) pieC_size (by decide) pieC_one rfl _ _ 46 rfl wt.heap.size Tryd.underlying46 infoPc rfl rfl rfl (own_belowC HW9.out.own (belowNew _ _)) (pc_made _ [(⟨kd, tx, xn⟩, pl)] _ 1 rfl rfl (by decide)) (by have := HLl.out; have := HC2.out; have := HL.out; have := HPn.out; unfold maxLen; simp only [List.length_cons, List.length_nil, List.length_append]; omega) (by have := HLl.out; have := HC2.out; have := HL.out; have := HPn.out; simp only [List.length_cons, List.length_nil, List.length_append]; omega) (by have := HW9.out.below.size; simp at this ⊢; omega) ?_; intro v7 w7 hr7 hg7; have HG7 := Lib.hid ((HW9.out.step (belowNew _ _)).push hr7 hg7); clear hr7 hg7))
                  refine ⟨?_, ?measure⟩
                  (repeat apply Exists.intro)
                  refine ⟨?rel, rfl⟩
                  case rel => exact ⟨k + 1, true, by have := HKt.out; rw [tab_len] at this; omega, by go_num, rfl, ⟨fun _ => by rw [HSt.out, if_pos HXt.out]; simp, fun _ => rfl⟩, by rw [HSp.out, if_pos HXt.out, ← List.append_assoc]; exact HG7.out⟩
                  case measure => have := HKt.out; rw [tab_len] at this; simp [intOf]; omega
                | false =>
                  have HXf := Lib.hid (show ¬ tx = t from fun h => by (cases HBt.out.2 h))
                  clear HBt
                  go_wp2_with fail
                  refine ⟨?_, ?measure⟩
                  (repeat apply Exists.intro)
                  refine ⟨?rel, rfl⟩
                  case rel => exact ⟨k + 1, fb, by have := HKt.out; rw [tab_len] at this; omega, by go_num, rfl, by rw [HSt.out, if_neg HXf.out, List.append_nil]; exact HBf.out, by rw [HSp.out, if_neg HXf.out, List.append_nil]; exact HW.out.step HV.out⟩
                  case measure => have := HKt.out; rw [tab_len] at this; simp [intOf]; omega
            · have HK := Lib.hid (show hitL t k = (findPc t).toList ∧ hitP t k pl = (findPc t).toList.map (fun x => (x, pl)) from by
                obtain rfl : k = 47 := by omega
                exact ⟨hit_all t, by unfold hitP; rw [hit_all]⟩)
              have dk : decide ((k : Int) < 47) = false := by simp; omega
              have dk2 : decide (k < 47) = false := by simpa using hlt
              generalize hitL t k = h1 at *
              generalize hitP t k pl = p1 at *
              clear hlt hk
              cases hfp : findPc t with
              | none =>
                have hfb : fb = false := by
                  cases fb with
                  | false => rfl
                  | true => exact absurd (by rw [HK.out.1, hfp]; rfl) (HBf.out.1 rfl)
                subst hfb
                go_wp2_with fail
                exact bodyPost_ret (v := .tuple #[.slice none 0 0, .int .i64 (pl : Int), .int .i64 3]) (by simp [results, Tryd.results20, go_sem]) rfl ⟨_, by rw [pcsO_not HL.out (HGx.out hfp)]; rfl, by rw [pcsO_not HL.out (HGx.out hfp)]; exact SlAt.nil _, HB.out.trans (HW.out.below.mono HB.out.size)⟩
              | some x =>
                have hfb : fb = true := HBf.out.2 (by rw [HK.out.1, hfp]; simp)
                subst hfb
                go_wp2_with fail
                go_roundw
                case rel => exact ⟨pl + c, L ++ [(x, pl)], by go_num, HGn.out x hfp, by have := HLl.out; have := HCp.out; simp only [List.length_append, List.length_cons, List.length_nil]; omega, by have h := HW.out; rw [HK.out.2, hfp] at h; exact h⟩
                case measure => have := HCp.out; have := HC2.out; simp [intOf]; omega
      · have HE := Lib.hid (pcGo_end HGo.out hlt)
        have dl : decide ((pl : Int) < (s.length : Int)) = false := by simp; omega
        have dl2 : decide (pl < s.length) = false := by simpa using hlt
        clear hlt
        go_wp2_with (at_builtin; refine wpList_append_rows pieC_size (by decide) pieC_one rfl _ _ 46 rfl wt.heap.size Tryd.underlying46 infoPc rfl rfl rfl (own_belowC HW.out.own (belowNew _ _)) (pc_made _ [(endPc, pl)] _ 1 rfl rfl (by decide)) (by have := HLl.out; have := HGo.out.le; have := HL.out; unfold maxLen; simp only [List.length_cons, List.length_nil]; omega) (by have := HLl.out; have := HGo.out.le; have := HL.out; simp only [List.length_cons, List.length_nil]; omega) (by have := HW.out.below.size; simp; omega) ?_; intro v7 w7 hr7 hg7; have HG7 := Lib.hid ((HW.out.step (belowNew _ _)).push hr7 hg7); clear hr7 hg7)
        exact bodyPost_ret (v := .tuple #[v7, .int .i64 0, .int .i64 0]) (by simp [results, Tryd.results20, go_sem]) rfl ⟨_, by rw [pcsO_ok HL.out HE.out]; rfl, by rw [pcsO_ok HL.out HE.out]; exact pcRow_at HG7.out.own, HB.out.trans (HG7.out.below.mono HB.out.size)⟩
end Go.Proofs.YtfhjmhmgkdadhaaDoor

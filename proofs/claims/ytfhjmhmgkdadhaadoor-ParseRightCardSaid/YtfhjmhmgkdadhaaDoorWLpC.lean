/-
  The program's pieces.
-/
import Derived.Test.YtfhjmhmgkdadhaaDoorWLpB
import Derived.Test.YtfhjmhmgkdadhaaDoorWGotos
import Derived.Test.YtfhjmhmgkdadhaaDoorWKeepX
/-! LpC -/
namespace Go.Proofs.YtfhjmhmgkdadhaaDoor
open Go.RowKit

/-- The call's slots at a label. -/
def lxA (s : List UInt8) (v : Value) (g : Nat) (fr : Value) (tw : Nat) (f : Nat → Value) : Act := { tmps := #[.string ⟨s.toArray⟩, undef, .slice none 0 0, .int .i64 0, .int .i64 0, v, .pointer (some ⟨g, 0, none⟩), f 7, fr, .int .i64 (tw : Int), f 10, f 11, f 12, f 13, f 14, f 15, f 16, f 17, f 18, f 19, f 20, f 21, f 22, f 23, f 24, f 25, f 26, f 27, f 28, f 29, f 30, f 31, f 32, f 33, f 34, f 35, f 36, f 37, f 38, f 39, f 40, f 41, f 42, f 43, f 44, f 45, f 46, f 47, f 48, f 49, f 50, f 51, f 52, f 53, f 54, f 55, f 56, f 57, f 58, f 59, f 60, f 61, f 62, f 63, f 64, f 65, f 66, f 67, f 68, f 69, f 70, f 71, f 72, f 73, f 74, f 75, f 76, f 77, f 78], defers := [] }
theorem lxA_of {s : List UInt8} {v : Value} {g : Nat} {fr : Value} {tw : Nat} {a : Act} (h : a = lxA s v g fr tw fun i => a.tmps.getD i undef) : ∃ f, a = lxA s v g fr tw f := ⟨_, h⟩
/-- The rows so far, and the place of one piece. -/
structure LpW (w : World) (v : Value) (m : List (Pc × Nat)) (V : World) : Prop where
  below : Below w.heap.size w V
  own : V.ownsRow (w.heap.size + 1) 44 4 v m.length (flatC pieC m)
  blk : ∃ x, Blk V w.heap.size (pieC x) 44
theorem LpW.lt {w : World} {v : Value} {m : List (Pc × Nat)} {V : World} (h : LpW w v m V) : w.heap.size < V.heap.size := h.blk.elim fun _ h => h.lt
theorem LpW.step {w : World} {v : Value} {m : List (Pc × Nat)} {V V' : World} (h : LpW w v m V) (hB : Below V.heap.size V V') : LpW w v m V' :=
  ⟨h.below.trans (hB.mono h.below.size), own_belowC h.own hB, h.blk.elim fun x hx => ⟨x, Blk.below hx hB h.lt⟩⟩
theorem lpRow_low {V : World} {base : Nat} {v : Value} {m : List (Pc × Nat)} (h : V.ownsRow base 44 4 v m.length (flatC pieC m)) {r : Nat} (e : v.ownBlock = some r) : base ≤ r := by
  obtain ⟨-, ⟨rfl, -⟩ | ⟨g, cap, cur, rfl, hb, -⟩⟩ := h
  · cases e
  · cases e; exact hb
theorem LpW.push {w : World} {v v' : Value} {m l : List (Pc × Nat)} {V V' : World} (h : LpW w v m V) (hr : V'.ownsRow (w.heap.size + 1) 44 4 v' (m ++ l).length (flatC pieC (m ++ l))) (hg : V.grownBy V' v.ownBlock) : LpW w v' (m ++ l) V' :=
  ⟨h.below.grown hg h.below.size fun _ e => Nat.le_of_succ_le (lpRow_low h.own e), hr, h.blk.elim fun x hx => ⟨x, (hg.block w.heap.size hx.lt fun e => absurd (lpRow_low h.own e.symm) (by omega)).trans hx⟩⟩
theorem lpOwn_chg {S : Nat → Prop} {w w' : World} {base e n z : Nat} {v : Value} {xs : List Value} (h : w.ownsRow base e z v n xs) (hc : Chg S w w') (hv : ∀ k, v.ownBlock = some k → ¬ S k) : w'.ownsRow base e z v n xs := by
  obtain ⟨h1, h2⟩ := h
  refine ⟨h1, ?_⟩
  rcases h2 with h2 | ⟨g, cap, cur, rfl, hg, hgg, rest⟩
  · exact .inl h2
  · refine .inr ⟨g, cap, cur, rfl, hg, ?_, rest⟩
    rw [hc.block g (Array.getElem?_eq_some_iff.1 hgg).1 (hv g rfl)]; exact hgg
theorem LpW.put {w : World} {v : Value} {m : List (Pc × Nat)} {V V' : World} {x : Pc × Nat} (h : LpW w v m V) (hp : Put V V' w.heap.size (pieC x) 44) : LpW w v m V' :=
  ⟨h.below.trans (hp.below h.below.size (Nat.le_refl _)), lpOwn_chg h.own hp.chg fun k e hk => absurd (lpRow_low h.own e) (by subst hk; omega), x, hp.blk⟩
theorem LpW.at_ {w : World} {v : Value} {m : List (Pc × Nat)} {V : World} (h : LpW w v m V) : PiesAt V v m := SlAt.ofRow pieC_size h.own fun _ _ => trivial
theorem lp_made (V : World) (l : List (Pc × Nat)) (cs : Array Value) (n : Nat) (hn : n = l.length) (hc : cs = (flatC pieC l).toArray) (h : n ≤ 100) : RowIs pieC (V.alloc (.cells cs 44)) (.slice (some ⟨V.heap.size, 0, none⟩) n n) l := by
  subst hn; subst hc
  exact rowIs_at pieC_size (by decide) (SlAt.ofBlk pieC_size (ok := fun _ => True) (Blk.new V _ _) (by omega) fun _ _ => trivial)
/-- What holds at each label, with a measure. -/
def LxJ (s : List UInt8) (w : World) (l n : Nat) (a : Act) (V : World) : Prop := ∃ (L : List (Pc × Nat)) (v : Value) (pl tw : Nat) (fr : Value), (∃ f, a = lxA s v w.heap.size fr tw f) ∧ LpW w v L V ∧ PcGo s L pl ∧ L.length ≤ pl ∧ match l with
  | 0 => tw = pl ∧ n = 4 * (48 - tw)
  | 1 => fr = .int .i64 (pl : Int) ∧ tw = pl + 1 ∧ (∃ h : pl < s.length, s[pl] = 60) ∧ n = 4 * (48 - tw) + 2
  | 2 => fr = .int .i64 (pl : Int) ∧ tw = pl + cutN (s.drop pl) ∧ (∃ h : pl < s.length, ¬ s[pl] = 32) ∧ n = 4 * (48 - tw) + 1
  | 3 => fr = .int .i64 (pl : Int) ∧ pl < tw ∧ tw ≤ s.length ∧ (∀ t, (h : t < s.length) → pl ≤ t → t < tw → smallB s[t] = true) ∧ n = 4 * (48 - tw) + 2
  | _ => False
theorem LxJ.lt (s : List UInt8) (w : World) (l n : Nat) (a : Act) (V : World) (h : LxJ s w l n a V) : l < 4 := by
  obtain ⟨L, v, pl, tw, fr, -, -, -, -, h⟩ := h
  match l, h with
  | 0, _ => omega
  | 1, _ => omega
  | 2, _ => omega
  | 3, _ => omega
  | _ + 4, h => exact h.elim
set_option maxRecDepth 100000 in
set_option maxHeartbeats 3200000 in
theorem lxPieces_any : LPiecesC Env := by
  intro s w hE hl
  have hz : (⟨s.toArray⟩ : ByteArray).size = s.length := by simp [ByteArray.size]
  by_cases h48 : 48 < s.length
  · have HO := Lib.hid (pcsO_many h48)
    have d48 : decide ((48 : Int) < (s.length : Int)) = true := by simp; omega
    have d48b : decide (48 < s.length) = true := by simp; omega
    clear h48
    go_enter Tryd.func17, Tryd.ntmps17
    go_wp2_with fail
    go_step3
    go_wp2_with fail
    exact bodyPost_ret (v := .tuple #[.slice none 0 0, .int .i64 0, .int .i64 5]) (by simp [results, Tryd.results17, go_sem]) rfl ⟨_, by rw [HO.out]; rfl, by rw [HO.out]; exact SlAt.nil _, Below.refl _ _⟩
  have HP := Lib.hid (fun t (ht : t ≠ []) (hl : t.length ≤ 48) pl V (hV : Env V) => lxPiece_any t ht hl pl V hV)
  have HJo := Lib.hid (fun b V => lxJoins_any b V)
  have HEl := Lib.hid (And.intro hE hE.lt)
  have HL := Lib.hid h48
  have d48 : decide ((48 : Int) < (s.length : Int)) = false := by simp; omega
  have d48b : decide (48 < s.length) = false := by simp; omega
  clear h48 hE hl
  go_enter Tryd.func17, Tryd.ntmps17
  go_wp2_with fail
  refine wp_scope_four (LxJ s w) (LxJ.lt s w) rfl rfl rfl rfl ?_ ?_ ?_ ?_ ?_
  · rintro n a V ⟨L, v, pl, tw, fr, ⟨f, rfl⟩, hW, hG, hL, rfl, htw, ⟨hlt, hb⟩, rfl⟩
    have HW := Lib.hid hW
    have HG := Lib.hid (And.intro hG hL)
    have HGp := Lib.hid (fun x hx => pcGo_piece hG hlt hb (x := x) hx)
    have HGn := Lib.hid (pcGo_none hG hlt hb)
    have HC := Lib.hid (show tw ≤ s.length ∧ pl < tw from by
      have h1 := cut_le s[pl] (s.drop (pl + 1))
      rw [← List.drop_eq_getElem_cons hlt, List.length_drop] at h1
      have h2 := cut_pos (s.drop pl)
      omega)
    have HSx := Lib.hid (show (⟨s.toArray⟩ : ByteArray).extract pl tw = ⟨((s.drop pl).take (cutN (s.drop pl))).toArray⟩ from by rw [str_mid, htw, Nat.add_sub_cancel_left])
    have HT := Lib.hid (show (s.drop pl).take (cutN (s.drop pl)) ≠ [] ∧ ((s.drop pl).take (cutN (s.drop pl))).length ≤ 48 from by
      have h1 := cut_pos (s.drop pl)
      have h3 := HL.out
      constructor
      · intro e
        have := congrArg List.length e
        rw [List.length_take, List.length_drop, List.length_nil] at this
        omega
      · rw [List.length_take, List.length_drop]; omega)
    have HTw := Lib.hid htw
    have b0 : (0 : Int) ≤ (pl : Int) := by omega
    have b1 : (pl : Int) ≤ (tw : Int) := by have := HC.out.2; omega
    have b2 : (tw : Int) ≤ (s.length : Int) := by have := HC.out.1; omega
    simp only [lxA]
    clear hW hG hL hlt hb htw
    go_wp2_with fail
    rw [HSx.out]
    refine (HP.out _ HT.out.1 HT.out.2 pl V (HEl.out.1.below HW.out.below HEl.out.2)).mono ?_
    rintro e w2 ⟨rfl, hB2⟩
    have HW2 := Lib.hid (HW.out.step hB2)
    obtain ⟨x, hx⟩ := HW2.out.blk
    clear hB2
    cases hfp : findPc ((s.drop pl).take (cutN (s.drop pl))) with
    | none =>
      have HO := Lib.hid (pcsO_not HL.out (HGn.out hfp))
      rw [pieceR_none hfp]
      clear hfp
      go_wp2_with (refine wpList_store_arr (new := pieC (⟨0, [], 0⟩, 0)) rfl rfl _ _ _ rfl rfl rfl hx (infoLpS _) rfl (pieC_one _) ?_; intro w9 hw9; have HW9 := Lib.hid (HW2.out.put hw9); clear hw9)
      exact bodyPost_ret (v := .tuple #[.slice none 0 0, .int .i64 (pl : Int), .int .i64 3]) (by simp [results, Tryd.results17, go_sem]) rfl ⟨_, by rw [HO.out]; rfl, by rw [HO.out]; exact SlAt.nil _, HW9.out.below⟩
    | some y =>
      have HGy := Lib.hid (HGp.out y hfp)
      have HLn := Lib.hid (show L.length ≤ 48 from by have := HG.out.2; have := HC.out; have := HL.out; omega)
      rw [pieceR_some hfp]
      clear hfp
      go_wp2_with (first | (refine wpList_store_arr (new := pieC (y, pl)) rfl rfl _ _ _ rfl rfl rfl hx (infoLpS _) rfl (pieC_one _) ?_; intro w9 hw9; have HQ := Lib.hid hw9.blk; have HW9 := Lib.hid (HW2.out.put hw9); clear hw9) | (refine wpList_build_flat pieC_size (by decide) rfl _ 44 1 _ rfl Tryd.underlying35 infoLp [(y, pl)] (by simp) rfl (by show 1 * 4 ≤ 2 ^ 24; decide) rfl ?_) | (refine wpList_load_arr rfl _ _ rfl rfl HQ.out Tryd.underlying44 rfl (infoLpS _) ?_) | (at_builtin; refine wpList_append_rows (l := [(y, pl)]) (m := L) pieC_size (by decide) pieC_one rfl _ _ 35 rfl (w.heap.size + 1) Tryd.underlying35 infoLp rfl rfl rfl (own_belowC HW9.out.own (belowNew _ _)) (lp_made _ [(y, pl)] _ 1 rfl rfl (by decide)) (by have := HLn.out; unfold maxLen; simp only [List.length_cons, List.length_nil]; omega) (by have := HLn.out; simp only [List.length_cons, List.length_nil]; omega) (by have := HW9.out.lt; simp; omega) ?_; intro v7 w7 hr7 hg7; have HG7 := Lib.hid ((HW9.out.step (belowNew _ _)).push hr7 hg7); clear hr7 hg7))
      go_step3
      exact ⟨4 * (48 - tw), Nat.lt_succ_self _, L ++ [(y, pl)], v7, tw, tw, .int .i64 (pl : Int), lxA_of rfl, HG7.out, HTw.out ▸ HGy.out, by have := HG.out.2; have := HC.out; simp only [List.length_append, List.length_cons, List.length_nil]; omega, rfl, rfl⟩
  · intro hp2
    have HP2 := Lib.hid hp2
    clear hp2
    rintro n a V ⟨L, v, pl, tw, fr, ⟨f, rfl⟩, hW, hG, hL, rfl, htw, ⟨hlt, hb⟩, rfl⟩
    have HW := Lib.hid hW
    have HG := Lib.hid (And.intro hG hL)
    have h0 : ((s.drop pl).takeWhile smallB).length = 0 := by
      rw [List.drop_eq_getElem_cons hlt, List.takeWhile_cons, hb]
      rfl
    have HC := Lib.hid (cut_sign hlt h0)
    have HB := Lib.hid hb
    have HLt := Lib.hid hlt
    have HTw := Lib.hid htw
    have hw1 : IntKind.i64.wrap ((tw : Int) + 1) = (tw : Int) + 1 := by have := HL.out; rw [IntKind.wrap_i64]; omega
    have b0 : (0 : Int) ≤ (tw : Int) := by omega
    simp only [lxA]
    clear hW hG hL h0 hb
    by_cases h1 : tw < s.length
    · have d1 : decide ((tw : Int) < (s.length : Int)) = true := by simp; omega
      have d1b : decide (tw < s.length) = true := by simpa using h1
      have hk1 : tw < (⟨s.toArray⟩ : ByteArray).size := by omega
      by_cases h2 : s[tw] = 61
      · have HCx := Lib.hid (show cutN (s.drop pl) = 2 from by subst htw; exact HC.out.2 h1 HB.out h2)
        have d2 : (((⟨s.toArray⟩ : ByteArray)[tw].toNat : Int) == 61) = true := by rw [show (⟨s.toArray⟩ : ByteArray)[tw] = s[tw] from rfl, h2]; rfl
        clear h2 htw h1
        go_wp2_with fail
        refine wp_label ?_
        rename_i hK
        refine hK _ _ ?_
        rw [show (tw : Int) + 1 = ((tw + 1 : Nat) : Int) by omega]
        exact HP2.out.fall (m := 4 * (48 - (tw + 1)) + 1) (by omega) ⟨L, v, pl, tw + 1, .int .i64 (pl : Int), lxA_of rfl, HW.out, HG.out.1, HG.out.2, rfl, by rw [HCx.out, HTw.out], ⟨HLt.out, by rw [HB.out]; decide⟩, rfl⟩
      · have HCx := Lib.hid (show cutN (s.drop pl) = 1 from by subst htw; exact HC.out.1 fun _ _ => h2)
        have d2 : (((⟨s.toArray⟩ : ByteArray)[tw].toNat : Int) == 61) = false := byte_neD h2
        clear h2 htw h1
        go_wp2_with fail
        refine wp_label ?_
        rename_i hK
        refine hK _ _ ?_
        exact HP2.out.fall (m := 4 * (48 - tw) + 1) (by omega) ⟨L, v, pl, tw, .int .i64 (pl : Int), lxA_of rfl, HW.out, HG.out.1, HG.out.2, rfl, by rw [HCx.out, HTw.out], ⟨HLt.out, by rw [HB.out]; decide⟩, rfl⟩
    · have d1 : decide ((tw : Int) < (s.length : Int)) = false := by simp; omega
      have d1b : decide (tw < s.length) = false := by simpa using h1
      have HCx := Lib.hid (show cutN (s.drop pl) = 1 from by subst htw; exact HC.out.1 fun h _ => absurd h h1)
      clear htw h1
      go_wp2_with fail
      refine wp_label ?_
      rename_i hK
      refine hK _ _ ?_
      exact HP2.out.fall (m := 4 * (48 - tw) + 1) (by omega) ⟨L, v, pl, tw, .int .i64 (pl : Int), lxA_of rfl, HW.out, HG.out.1, HG.out.2, rfl, by rw [HCx.out, HTw.out], ⟨HLt.out, by rw [HB.out]; decide⟩, rfl⟩
  · rintro n a V ⟨L, v, pl, tw, fr, ⟨f, rfl⟩, hW, hG, hL, rfl, hpt, hts, hall, rfl⟩
    have HW := Lib.hid hW
    have HG := Lib.hid (And.intro hG hL)
    have HA := Lib.hid hall
    have HPt := Lib.hid hpt
    have hw1 : IntKind.i64.wrap ((tw : Int) + 1) = (tw : Int) + 1 := by have := HL.out; rw [IntKind.wrap_i64]; omega
    have b0 : (0 : Int) ≤ (tw : Int) := by omega
    have HBk := Lib.hid (show (∃ h : pl < s.length, ¬ s[pl] = 32) from ⟨by omega, fun e => by
      have := hall pl (by omega) (Nat.le_refl _) hpt
      rw [e] at this
      exact absurd this (by decide)⟩)
    have HCt := Lib.hid (fun (h : tw = s.length ∨ ∃ h : tw < s.length, smallB s[tw] = false) => show tw = pl + cutN (s.drop pl) from by
      have h1 : ((s.drop pl).takeWhile smallB).length = tw - pl := take_len (by rw [List.length_drop]; omega) (fun t ht htj => by
        rw [List.length_drop] at ht
        rw [List.getElem_drop]
        exact hall (pl + t) (by omega) (by omega) (by omega)) (by
        rcases h with h | ⟨h, h2⟩
        · exact .inl (by rw [List.length_drop]; omega)
        · refine .inr ⟨by rw [List.length_drop]; omega, ?_⟩
          rw [List.getElem_drop]
          simp only [show pl + (tw - pl) = tw by omega]
          exact h2)
      unfold cutN
      rw [if_pos (by omega)]
      omega)
    simp only [lxA]
    clear hW hG hL hall hpt
    by_cases h1 : tw < s.length
    · have d1 : decide ((tw : Int) < (s.length : Int)) = true := by simp; omega
      have d1b : decide (tw < s.length) = true := by simpa using h1
      have hk1 : tw < (⟨s.toArray⟩ : ByteArray).size := by omega
      have HT1 := Lib.hid h1
      cases hsm : smallB s[tw] with
      | true =>
        have HS := Lib.hid hsm
        have hsb : smallB ((⟨s.toArray⟩ : ByteArray)[tw]'hk1) = true := hsm
        clear hsm h1 hts
        go_wp2_with fail
        refine (HJo.out _ _).mono ?_
        rintro e w2 ⟨rfl, rfl⟩
        go_wp2_with fail
        go_step3
        rw [show (tw : Int) + 1 = ((tw + 1 : Nat) : Int) by omega]
        exact ⟨4 * (48 - (tw + 1)) + 2, by have := HT1.out; have := HL.out; omega, L, v, pl, tw + 1, .int .i64 (pl : Int), lxA_of rfl, HW.out, HG.out.1, HG.out.2, rfl, Nat.lt_succ_of_lt HPt.out, HT1.out, fun t ht h1 h2 => by
          by_cases e : t = tw
          · subst e; exact HS.out
          · exact HA.out t ht h1 (by omega), rfl⟩
      | false =>
        have hsb : smallB ((⟨s.toArray⟩ : ByteArray)[tw]'hk1) = false := hsm
        have HCx := Lib.hid (HCt.out (.inr ⟨h1, hsm⟩))
        clear hsm h1 hts
        go_wp2_with fail
        refine (HJo.out _ _).mono ?_
        rintro e w2 ⟨rfl, rfl⟩
        go_wp2_with fail
        go_step3
        exact ⟨4 * (48 - tw) + 1, by omega, L, v, pl, tw, .int .i64 (pl : Int), lxA_of rfl, HW.out, HG.out.1, HG.out.2, rfl, HCx.out, HBk.out, rfl⟩
    · have d1 : decide ((tw : Int) < (s.length : Int)) = false := by simp; omega
      have d1b : decide (tw < s.length) = false := by simpa using h1
      have HCx := Lib.hid (HCt.out (.inl (by omega)))
      clear h1 hts
      go_wp2_with fail
      go_step3
      exact ⟨4 * (48 - tw) + 1, by omega, L, v, pl, tw, .int .i64 (pl : Int), lxA_of rfl, HW.out, HG.out.1, HG.out.2, rfl, HCx.out, HBk.out, rfl⟩
  · intro hp3
    have HP3 := Lib.hid hp3
    clear hp3
    rintro n a V ⟨L, v, pl, tw, fr, ⟨f, rfl⟩, hW, hG, hL, rfl, rfl⟩
    have HW := Lib.hid hW
    have HG := Lib.hid (And.intro hG hL)
    simp only [lxA]
    clear hW hG hL
    by_cases h1 : tw < s.length
    · have hk1 : tw < (⟨s.toArray⟩ : ByteArray).size := by omega
      have HLt := Lib.hid h1
      have hw1 : IntKind.i64.wrap ((tw : Int) + 1) = (tw : Int) + 1 := by have := HL.out; rw [IntKind.wrap_i64]; omega
      have b0 : (0 : Int) ≤ (tw : Int) := by omega
      have d0 : ((tw : Int) == (s.length : Int)) = false := by rw [beq_eq_false_iff_ne]; omega
      have d0b : (tw == s.length) = false := by rw [beq_eq_false_iff_ne]; omega
      by_cases hb : s[tw]'h1 = 32
      · have HGb := Lib.hid (pcGo_blank HG.out.1 h1 hb)
        have d2 : ((((⟨s.toArray⟩ : ByteArray)[tw]'hk1).toNat : Int) == 32) = true := by rw [show (⟨s.toArray⟩ : ByteArray)[tw]'hk1 = s[tw]'h1 from rfl, hb]; rfl
        clear h1 hb
        go_wp2_with fail
        go_step3
        rw [show (tw : Int) + 1 = ((tw + 1 : Nat) : Int) by omega]
        exact ⟨4 * (48 - (tw + 1)), by have := HLt.out; have := HL.out; omega, L, v, tw + 1, tw + 1, .int .i64 (tw : Int), lxA_of rfl, HW.out, HGb.out, Nat.le_succ_of_le HG.out.2, rfl, rfl⟩
      have d2 : ((((⟨s.toArray⟩ : ByteArray)[tw]'hk1).toNat : Int) == 32) = false := byte_neD hb
      have HBk := Lib.hid (show ∃ h : tw < s.length, ¬ s[tw] = 32 from ⟨h1, hb⟩)
      by_cases hc : s[tw]'h1 = 60
      · have d3 : ((((⟨s.toArray⟩ : ByteArray)[tw]'hk1).toNat : Int) == 60) = true := by rw [show (⟨s.toArray⟩ : ByteArray)[tw]'hk1 = s[tw]'h1 from rfl, hc]; rfl
        have HC := Lib.hid (show ∃ h : tw < s.length, s[tw] = 60 from ⟨h1, hc⟩)
        clear h1 hb hc
        go_wp2_with fail
        go_step3
        rw [show (tw : Int) + 1 = ((tw + 1 : Nat) : Int) by omega]
        exact ⟨4 * (48 - (tw + 1)) + 2, by have := HLt.out; have := HL.out; omega, L, v, tw, tw + 1, .int .i64 (tw : Int), lxA_of rfl, HW.out, HG.out.1, HG.out.2, rfl, rfl, HC.out, rfl⟩
      have d3 : ((((⟨s.toArray⟩ : ByteArray)[tw]'hk1).toNat : Int) == 60) = false := byte_neD hc
      cases hsm : smallB (s[tw]'h1) with
      | true =>
        have hsb : smallB ((⟨s.toArray⟩ : ByteArray)[tw]'hk1) = true := hsm
        have HS := Lib.hid (show ∀ t, (h : t < s.length) → tw ≤ t → t < tw + 1 → smallB s[t] = true from fun t ht h1 h2 => by
          obtain rfl : t = tw := by omega
          exact hsm)
        clear hsm h1 hb hc
        go_wp2_with fail
        refine (HJo.out _ _).mono ?_
        rintro e w2 ⟨rfl, rfl⟩
        go_wp2_with fail
        refine wp_label ?_
        rename_i hK
        refine hK _ _ ?_
        rw [show (tw : Int) + 1 = ((tw + 1 : Nat) : Int) by omega]
        exact HP3.out.fall (m := 4 * (48 - (tw + 1)) + 2) (by have := HLt.out; have := HL.out; omega) ⟨L, v, tw, tw + 1, .int .i64 (tw : Int), lxA_of rfl, HW.out, HG.out.1, HG.out.2, rfl, Nat.lt_succ_self _, HLt.out, HS.out, rfl⟩
      | false =>
        have hsb : smallB ((⟨s.toArray⟩ : ByteArray)[tw]'hk1) = false := hsm
        have HCx := Lib.hid (show cutN (s.drop tw) = 1 from (cut_sign h1 (by rw [List.drop_eq_getElem_cons h1, List.takeWhile_cons, hsm]; rfl)).1 fun _ h => absurd h hc)
        clear hsm h1 hb hc
        go_wp2_with fail
        refine (HJo.out _ _).mono ?_
        rintro e w2 ⟨rfl, rfl⟩
        go_wp2_with fail
        go_step3
        rw [show (tw : Int) + 1 = ((tw + 1 : Nat) : Int) by omega]
        exact ⟨4 * (48 - (tw + 1)) + 1, by have := HLt.out; have := HL.out; omega, L, v, tw, tw + 1, .int .i64 (tw : Int), lxA_of rfl, HW.out, HG.out.1, HG.out.2, rfl, by rw [HCx.out], HBk.out, rfl⟩
    · have HE := Lib.hid (pcGo_end HG.out.1 h1)
      have HLn := Lib.hid (show L.length ≤ 48 from by have := HG.out.2; have := HG.out.1.le; have := HL.out; omega)
      have d0 : ((tw : Int) == (s.length : Int)) = true := by rw [beq_iff_eq]; have := HG.out.1.le; omega
      have d0b : (tw == s.length) = true := by rw [beq_iff_eq]; have := HG.out.1.le; omega
      clear h1
      go_wp2_with (at_builtin; refine wpList_append_rows (l := [(endPc, tw)]) (m := L) pieC_size (by decide) pieC_one rfl _ _ 35 rfl (w.heap.size + 1) Tryd.underlying35 infoLp rfl rfl rfl (own_belowC HW.out.own (belowNew _ _)) (lp_made _ [(endPc, tw)] _ 1 rfl rfl (by decide)) (by have := HLn.out; unfold maxLen; simp only [List.length_cons, List.length_nil]; omega) (by have := HLn.out; simp only [List.length_cons, List.length_nil]; omega) (by have := HW.out.lt; simp; omega) ?_; intro v7 w7 hr7 hg7; have HG7 := Lib.hid ((HW.out.step (belowNew _ _)).push hr7 hg7); clear hr7 hg7)
      exact bodyPost_ret (v := .tuple #[v7, .int .i64 0, .int .i64 0]) (by simp [results, Tryd.results17, go_sem]) rfl ⟨_, by rw [pcsO_ok HL.out HE.out]; rfl, by rw [pcsO_ok HL.out HE.out]; exact HG7.out.at_, HG7.out.below⟩
  · intro hp0
    have HP0 := Lib.hid hp0
    clear hp0
    have hpz : #[Value.int IntKind.i64 0, Value.string ⟨#[]⟩, Value.int IntKind.i64 0, Value.int IntKind.i64 0] = pieC (⟨0, [], 0⟩, 0) := rfl
    have HW := Lib.hid (show LpW w (.slice none 0 0) [] (w.alloc (.cells (pieC (⟨0, [], 0⟩, 0)) 44)) from ⟨belowNew _ _, World.ownsRow_nil _ _ _ _, _, Blk.new _ _ _⟩)
    go_wp2_with fail
    refine wp_label ?_
    rename_i hK
    refine hK _ _ ?_
    exact HP0.out.first (m := 4 * (48 - 0)) ⟨[], .slice none 0 0, 0, 0, _, lxA_of rfl, HW.out, pcGo_start s, Nat.le_refl _, rfl, rfl⟩
theorem keepEnv : KeepX Env := ⟨fun h hB => h.below hB h.lt⟩
end Go.Proofs.YtfhjmhmgkdadhaaDoor

/-
  The document's changes: All.
-/
import Derived.Test.YthpangacpihclaaDoorWChA
import Derived.Test.YthpangacpihclaaDoorWChOA
import Derived.Test.YthpangacpihclaaDoorW3
/-! ChP -/
namespace Go.Proofs.YthpangacpihclaaDoor
open Go.RowKit

structure AlW (w : World) (b : Nat) (q : Pol) (V : World) : Prop where
  below : Below b w V
  row : PRow V b q
  res : PRow V (b + 1) zeroP
  at_ : b = w.heap.size
theorem AlW.step {w : World} {b : Nat} {q : Pol} {V V' : World} (h : AlW w b q V) (hB : Below V.heap.size V V') : AlW w b q V' :=
  ⟨h.below.trans (hB.mono (by rw [h.at_]; exact h.below.size)), h.row.step hB, h.res.step hB, h.at_⟩
theorem AlW.all {w : World} {b : Nat} {q : Pol} {V : World} (h : AlW w b q V) : Below w.heap.size w V := by rw [← h.at_]; exact h.below
theorem AlW.new (w : World) (q : Pol) : AlW w w.heap.size q ((w.alloc (.cells (polC q) 29)).alloc (.cells (polC zeroP) 29)) := by
  refine ⟨(belowNew w _).alloc (by simp) _, (PRow.new w q).alloc _, ?_, rfl⟩
  have h := PRow.new (w.alloc (.cells (polC q) 29)) zeroP
  simp only [World.size_alloc] at h
  exact h
theorem AlW.put {w : World} {b : Nat} {q r : Pol} {V V' : World} (h : AlW w b q V) (hp : Put V V' b (polC r) 29) : AlW w b r V' :=
  ⟨h.below.trans (hp.below (by rw [h.at_]; exact h.below.size) (Nat.le_refl _)), hp.blk, hp.chg.kept h.res (by show ¬ b + 1 = b; omega), h.at_⟩
theorem AlW.out {w : World} {b : Nat} {q : Pol} {V V' : World} {cs : Array Value} {t : TypeId} (h : AlW w b q V) (hp : Put V V' (b + 1) cs t) : Below w.heap.size w V' := by
  have hb := h.below.trans (hp.below (by rw [h.at_]; exact h.below.size) (by omega))
  rw [← h.at_]; exact hb
theorem results_pol3 {fn : Func} {p q r : Tmp} (h : fn.results = #[.cell p 29, .tmp q, .tmp r]) {tmps : Array Value} {w : World} {b : Nat} {P : Pol} {v u : Value} (hp : tmps.getD p undef = .pointer (some ⟨b, 0, none⟩)) (hq : tmps.getD q undef = v) (hu : tmps.getD r undef = u) (hr : PRow w b P) :
    (results fn tmps).run Tryd.prog w = .ok (.tuple #[.agg (polC P), v, u]) w := by
  have hp' : tmps[p]?.getD undef = .pointer (some ⟨b, 0, none⟩) := by simpa using hp
  have hq' : tmps[q]?.getD undef = v := by simpa using hq
  have hu' : tmps[r]?.getD undef = u := by simpa using hu
  simp [results, h, hp', hq', hu', asAddr, run_loadVar_row w b _ 29 (polC P) _ _ hr Tryd.underlying29 rfl (infoPol P)]
def AllIs (p : Pol) (l : List Cg) (w : World) (e : Ending) (w' : World) : Prop := e = .returned (.tuple #[.agg (polC (allR p l).1), .int .i64 ((allR p l).2.1 : Nat), .int .i64 (allR p l).2.2]) ∧ Below w.heap.size w w'
theorem allR_many {p : Pol} {l : List Cg} (h : 6 < l.length) : allR p l = (zeroP, 0, 5) := by unfold allR; rw [if_neg (by omega), if_pos h]
theorem allR_some {p : Pol} {l : List Cg} (h0 : ¬ l.length = 0) (h : ¬ 6 < l.length) : allR p l = allL p 0 l := by unfold allR; rw [if_neg h0, if_neg h]
set_option maxRecDepth 100000 in
set_option maxHeartbeats 3200000 in
theorem rcAll_any (p : Pol) (v : Value) (l : List Cg) (w : World) (hp : PolOk p) (h : ChsAt w v l) :
    Calls Tryd.prog 15 #[.agg (polC p), v] w (AllIs p l w) := by
  obtain ⟨pt, cap, rfl, hm, hc⟩ := h
  unfold AllIs
  have HC := Lib.hid hc
  have HG0 := Lib.hid (AlW.new w p)
  have HP0 := Lib.hid hp
  clear hc hp
  go_enter Tryd.func15, Tryd.ntmps15
  go_upto_region 1 with (simp only [zeroPolC])
  generalize (w.alloc (.cells (polC p) 29)).alloc _ = w1 at *
  generalize hbp : w.heap.size = b at *
  have HBp := Lib.hid hbp
  clear hbp
  by_cases hn0 : l.length = 0
  · have HX := Lib.hid (show allR p l = (zeroP, 0, 1) from if_pos hn0)
    have d0 : ((l.length : Int) == 0) = true := by rw [hn0]; rfl
    clear hn0
    have hrr := HG0.out.res
    go_wp2_with fail
    simp only [store_pol hrr rfl, Result.andThen_ok]
    have hw9 := put_pol (q := zeroP) hrr
    generalize w1.setRow _ _ = w9 at *
    go_wp2_with fail
    exact bodyPost_ret (v := .tuple #[.agg (polC zeroP), .int .i64 0, .int .i64 1]) (results_pol3 rfl rfl rfl rfl hw9.blk) rfl ⟨by rw [HX.out]; rfl, HG0.out.out hw9⟩
  by_cases hn6 : 6 < l.length
  · have HX := Lib.hid (allR_many (p := p) hn6)
    have d0 : ((l.length : Int) == 0) = false := by rw [beq_eq_false_iff_ne]; omega
    have d6 : decide ((6 : Int) < (l.length : Int)) = true := by simp; omega
    have hrr := HG0.out.res
    go_wp2_with fail
    simp only [store_pol hrr rfl, Result.andThen_ok]
    have hw9 := put_pol (q := zeroP) hrr
    generalize w1.setRow _ _ = w9 at *
    go_wp2_with fail
    exact bodyPost_ret (v := .tuple #[.agg (polC zeroP), .int .i64 0, .int .i64 5]) (results_pol3 rfl rfl rfl rfl hw9.blk) rfl ⟨by rw [HX.out]; rfl, HG0.out.out hw9⟩
  have HAll := Lib.hid (allR_some (p := p) hn0 hn6)
  obtain ⟨g, off, rfl, hg, hcs⟩ := HC.out (by intro e; rw [e] at hn0; exact hn0 rfl)
  have HCs := Lib.hid hcs
  have hl6 : l.length ≤ 6 := by omega
  have d0 : ((l.length : Int) == 0) = false := by rw [beq_eq_false_iff_ne]; omega
  have d6 : decide ((6 : Int) < (l.length : Int)) = false := by simp; omega
  clear hcs HC hn0 hn6
  go_wp2_with fail
  go_loopw [7] (fun i wr => ∃ k : Nat, k ≤ l.length ∧ i = .int .i64 (k : Int) ∧ ∃ q, PolOk q ∧ allL p 0 l = allL q k (l.drop k) ∧ AlW w b q wr) (fun i _ => l.length - (intOf i).toNat)
  case atStart => exact ⟨0, by omega, rfl, p, HP0.out, rfl, HG0.out⟩
  case round =>
    obtain ⟨k, hk, rfl, q, hq, ha, hgg⟩ := hrel
    have HG := Lib.hid hgg
    have HA := Lib.hid ha
    have HQ := Lib.hid hq
    clear hgg ha hq HG0 HP0
    by_cases hlt : k < l.length
    · have dk : decide ((k : Int) < (l.length : Int)) = true := by simp; omega
      have hlt' : (k : Int) < (l.length : Int) := by omega
      have hdr := List.drop_eq_getElem_cons hlt
      obtain ⟨hco, hcc⟩ := HCs.out k hlt
      have HAl := Lib.hid (HA.out.trans (by rw [hdr]))
      clear HA hdr
      generalize l[k] = c at *
      have HCc := Lib.hid (fun V (hV : Below w.heap.size w V) => ChCells.below (c := c) (off := off + k * 5) hcc hV (by rw [HBp.out]; exact hg))
      have HOn := Lib.hid (fun V => rcOne_any q c V HQ.out hco)
      have hqo := oneP_ok HQ.out hco
      unfold OneIs at HOn
      have HQ2 := Lib.hid hqo
      clear hcc hco hqo HCs
      go_upto_region 8 with fail
      refine wp_region_M [.val (.agg (polC q)), .val (.slice (some ⟨g, off, none⟩) l.length cap), .val (.int .i64 (k : Int)), .val (.pointer (some ⟨g, off + k * 5, none⟩)), .val (.agg (chgC c)), .val (.tuple #[.agg (polC (oneP q c)), .int .i64 (oneE q c)]), .val (.tuple #[.agg (polC (oneP q c)), .int .i64 (oneE q c)]), .val (.agg (polC (oneP q c))), .val (.int .i64 (oneE q c)), .mk (polO zeroP) 10 (polO (oneP q c)), .st 9, .val (.int .i64 (oneE q c))]
        (fun x => { tmps := #[.agg (polC p), .slice (some ⟨g, off, none⟩) l.length cap, .pointer (some ⟨b, 0, none⟩), undef, .pointer (some ⟨b + 1, 0, none⟩), u5, u6, .int .i64 (k : Int), x 9, x 11, .slice (some ⟨g, off, none⟩) l.length cap, .int .i64 (l.length : Int), .bool false, undef, .slice (some ⟨g, off, none⟩) l.length cap, .int .i64 (l.length : Int), .bool false, undef, .int .i64 (k : Int), .slice (some ⟨g, off, none⟩) l.length cap, .int .i64 (l.length : Int), .bool true, u22, u23, x 6, x 0, x 1, x 2, x 3, x 4, x 5, x 7, x 8, u33, u34, u35, u36, u37, u38, undef, undef, undef], defers := [] }) (fun i => ([u25, u26, u27, u28, u29, u30, u24, u31, u32, u8, undef, u9] : List Value).getD i undef) (by kernel_rfl) rfl rfl rfl (by kernel_rfl) ?_ ?_
      · refine ⟨ObM.of_val rfl (fun x v => rfl) (fun x V hC hD => ?_), ?_⟩
        · clear hD
          have hH := (HG.out.step (Below.refl _ _).drew).step hC
          refine want_yes rfl ?_
          exact leads_value (exec_load_pol rfl rfl hH.row) ⟨rfl, Below.refl _ _⟩
        refine ⟨ObM.of_val rfl (fun x v => rfl) (fun x V hC hD => ?_), ?_⟩
        · clear hD
          have hH := (HG.out.step (Below.refl _ _).drew).step hC
          refine want_yes rfl ?_
          exact leads_value (v := .slice (some ⟨g, off, none⟩) l.length cap) (by go_simp) ⟨rfl, Below.refl _ _⟩
        refine ⟨ObM.of_val rfl (fun x v => rfl) (fun x V hC hD => ?_), ?_⟩
        · clear hD
          have hH := (HG.out.step (Below.refl _ _).drew).step hC
          refine want_yes rfl ?_
          exact leads_value (v := .int .i64 (k : Int)) (by go_simp) ⟨rfl, Below.refl _ _⟩
        refine ⟨ObM.of_val rfl (fun x v => rfl) (fun x V hC hD => ?_), ?_⟩
        · have e1 : x 1 = .slice (some ⟨g, off, none⟩) l.length cap := hD.1 _ rfl rfl
          have e2 : x 2 = .int .i64 (k : Int) := hD.2.1 _ rfl rfl
          clear hD
          have hH := (HG.out.step (Below.refl _ _).drew).step hC
          refine want_yes rfl ?_
          have hk1 := hlt'
          exact leads_value (v := .pointer (some ⟨g, off + k * 5, none⟩)) (by go_simp) ⟨rfl, Below.refl _ _⟩
        refine ⟨ObM.of_val rfl (fun x v => rfl) (fun x V hC hD => ?_), ?_⟩
        · have e3 : x 3 = .pointer (some ⟨g, off + k * 5, none⟩) := hD.1 _ rfl rfl
          clear hD
          have hH := (HG.out.step (Below.refl _ _).drew).step hC
          refine want_yes rfl ?_
          exact leads_value (exec_load_chgAt rfl e3 (HCc.out V hH.all)) ⟨rfl, Below.refl _ _⟩
        refine ⟨ObM.of_val rfl (fun x v => rfl) (fun x V hC hD => ?_), ?_⟩
        · have e0 : x 0 = .agg (polC q) := hD.1 _ rfl rfl
          have e4 : x 4 = .agg (chgC c) := hD.2.1 _ rfl rfl
          clear hD
          have hH := (HG.out.step (Below.refl _ _).drew).step hC
          refine want_yes rfl ?_
          exact leads_enter2 (by go_simp) ((HOn.out V).mono fun e w'' ⟨he, hB⟩ => ⟨_, he, rfl, hB⟩)
        refine ⟨ObM.of_val rfl (fun x v => rfl) (fun x V hC hD => ?_), ?_⟩
        · have e5 : x 5 = .tuple #[.agg (polC (oneP q c)), .int .i64 (oneE q c)] := hD.1 _ rfl rfl
          clear hD
          have hH := (HG.out.step (Below.refl _ _).drew).step hC
          refine want_yes rfl ?_
          exact leads_value (v := .tuple #[.agg (polC (oneP q c)), .int .i64 (oneE q c)]) (by go_simp) ⟨rfl, Below.refl _ _⟩
        refine ⟨ObM.of_val rfl (fun x v => rfl) (fun x V hC hD => ?_), ?_⟩
        · have e6 : x 6 = .tuple #[.agg (polC (oneP q c)), .int .i64 (oneE q c)] := hD.1 _ rfl rfl
          clear hD
          have hH := (HG.out.step (Below.refl _ _).drew).step hC
          refine want_yes rfl ?_
          exact leads_value (v := .agg (polC (oneP q c))) (by go_simp) ⟨rfl, Below.refl _ _⟩
        refine ⟨ObM.of_val rfl (fun x v => rfl) (fun x V hC hD => ?_), ?_⟩
        · have e6 : x 6 = .tuple #[.agg (polC (oneP q c)), .int .i64 (oneE q c)] := hD.1 _ rfl rfl
          clear hD
          have hH := (HG.out.step (Below.refl _ _).drew).step hC
          refine want_yes rfl ?_
          exact leads_value (v := .int .i64 (oneE q c)) (by go_simp) ⟨rfl, Below.refl _ _⟩
        refine ⟨ObM.of_mk rfl (fun x v => rfl) rfl (fun x V => ?_), ?_⟩
        · exact leads_alloc_pol rfl
        refine ⟨ObM.of_st rfl rfl (fun x v => rfl) rfl (by kernel_rfl) (fun x V gb hC hx hg hD => ?_), ?_⟩
        · have e7 : x 7 = .agg (polC (oneP q c)) := hD.2.1 _ rfl rfl
          clear hD
          have hH := (HG.out.step (Below.refl _ _).drew).step hC
          exact leads_store_row rfl hx e7 hg (infoPol _) (by rw [polC_size, polC_size]) (polC_one _)
        refine ⟨ObM.of_val rfl (fun x v => rfl) (fun x V hC hD => ?_), ?_⟩
        · have e8 : x 8 = .int .i64 (oneE q c) := hD.1 _ rfl rfl
          clear hD
          have hH := (HG.out.step (Below.refl _ _).drew).step hC
          refine want_yes rfl ?_
          exact leads_value (v := .int .i64 (oneE q c)) (by go_simp) ⟨rfl, Below.refl _ _⟩
        trivial
      · intro x V hF
        obtain ⟨-, hx1, hx2⟩ := hF.made 9 _ _ _ (by simp) rfl rfl
        have h11 : x 11 = .int .i64 (oneE q c) := hF.val 11 _ (by simp) rfl rfl
        have HG2 := Lib.hid ((HG.out.step (Below.refl _ _).drew).step hF.below)
        have HDr := Lib.hid (show PRow V (blkOf (x 9)) (oneP q c) from hx2)
        clear hF hx2 HG HOn HCc
        generalize blkOf (x 9) = bd at *
        rw [hx1, h11]
        clear hx1 h11
        have hdd := HDr.out
        by_cases he : oneE q c = 0
        · have HA2 := Lib.hid (HAl.out.trans (allL_yes he))
          have d1 : (oneE q c != 0) = false := by rw [he]; rfl
          clear he HAl
          generalize oneE q c = e1 at *
          generalize oneP q c = r at *
          have hpr := HG2.out.row
          go_wp2_with (first
            | (refine wpList_load_arr rfl _ _ rfl rfl hdd Tryd.underlying29 rfl (infoPol _) ?_)
            | (refine wpList_store_arr rfl rfl _ _ _ rfl rfl rfl hpr (infoPol _) (by rw [polC_size, polC_size]) (polC_one _) ?_; intro w9 hw9))
          go_roundw
          case rel => exact ⟨k + 1, by omega, by go_num, r, HQ2.out, HA2.out, HG2.out.put hw9⟩
          case measure => simp [intOf]; omega
        · have HX := Lib.hid (HAl.out.trans (allL_no he))
          have d1 : (oneE q c != 0) = true := by simpa using he
          clear he HAl hdd HDr HQ2
          have hrr := HG2.out.res
          generalize oneE q c = e1 at *
          go_wp2_with fail
          simp only [store_pol hrr rfl, Result.andThen_ok]
          have hw9 := put_pol (q := zeroP) hrr
          generalize V.setRow _ _ = w9 at *
          go_wp2_with fail
          exact bodyPost_ret (v := .tuple #[.agg (polC zeroP), .int .i64 (k : Int), .int .i64 e1]) (results_pol3 rfl rfl rfl rfl hw9.blk) rfl ⟨by rw [HAll.out, HX.out], HG2.out.out hw9⟩
    · have dk : decide ((k : Int) < (l.length : Int)) = false := by simp; omega
      obtain rfl : k = l.length := by omega
      have HX := Lib.hid (HA.out.trans (by rw [List.drop_length]; rfl : allL q l.length (l.drop l.length) = (q, l.length, 0)))
      clear HA
      have hpr := HG.out.row
      have hrr := HG.out.res
      go_wp2_with (first
        | (refine wpList_load_arr rfl _ _ rfl rfl hpr Tryd.underlying29 rfl (infoPol _) ?_)
        | (refine wpList_store_arr rfl rfl _ _ _ rfl rfl rfl hrr (infoPol _) (by rw [polC_size, polC_size]) (polC_one _) ?_; intro w9 hw9))
      exact bodyPost_ret (v := .tuple #[.agg (polC q), .int .i64 (l.length : Int), .int .i64 0]) (results_pol3 rfl rfl rfl rfl hw9.blk) rfl ⟨by rw [HAll.out, HX.out], HG.out.out hw9⟩
end Go.Proofs.YthpangacpihclaaDoor

/-
  The law VersionKeeps, from the program's contracts.
-/
import Derived.Deep.CutBlock
import Derived.LoopTactic
import Derived.Outline
import Derived.OneCell
import Derived.Laws.Rows
import Derived.Lib.ItoaNum
import Derived.Lib.Join
import Derived.Lib.AtoiAll
import Derived.Lib.Bytealg
import Derived.Test.YtimbhamdblganaaWVerR
import Derived.Test.YtimbhamdblganaaWFactsT
import Derived.Test.YtimbhamdblganaaWLabA
import Derived.Test.YtimbhamdblganaaWBitsM
import Derived.Test.YtimbhamdblganaaWArr
/-! LawVeKeeps -/
namespace Go.Proofs.Ytimbhamdblganaa
open Go.RowKit

/-- What was committed: the numbers' policies. -/
def histL (m : Nat) (l : List Nat) : List Pol := numP m :: l.map numP
theorem histL_length (m : Nat) (l : List Nat) : (histL m l).length = l.length + 1 := by simp [histL]
/-- The store behind so many commits. -/
def stK (m : Nat) (l : List Nat) (k : Nat) : Sto := ⟨k, lastK (histL m (l.take k)) k⟩
theorem stK_zero (m : Nat) (l : List Nat) : stK m l 0 = ⟨0, [numP m]⟩ := by
  unfold stK
  rw [List.take_zero, lastK_all rfl]
  rfl
theorem stK_next (m : Nat) {l : List Nat} {k : Nat} (hk : k < l.length) (h255 : k < 255) : comS (stK m l k) (numP l[k]) = stK m l (k + 1) := by
  unfold stK
  rw [lastK_com _ h255 (by rw [histL_length, List.length_take]; omega), List.take_succ_eq_append_getElem hk]
  unfold histL
  rw [List.map_append]
  rfl
theorem stK_com (m : Nat) {l : List Nat} {k : Nat} (h255 : k < 255) : comE (stK m l k) = 0 := if_neg (by show ¬ k = 255; omega)
/-- What is told for an epoch. -/
theorem stK_at {m : Nat} {l : List Nat} {i : Nat} (hl : l.length ≤ 255) (hi : i < l.length) : atE (stK m l l.length) ((i : Int) + 1) = (if i + 8 < l.length then 6 else 0) ∧ atP (stK m l l.length) ((i : Int) + 1) = (if i + 8 < l.length then zeroP else numP l[i]) := by
  have hk := keptN_nat hl
  have hlen : (histL m (l.take l.length)).length = l.length + 1 := by rw [List.take_length, histL_length]
  have he : atE (stK m l l.length) ((i : Int) + 1) = (if i + 8 < l.length then 6 else 0) := by
    show (if (i : Int) + 1 < 0 ∨ (l.length : Int) < (i : Int) + 1 then (8 : Int) else if (i : Int) + 1 + 8 ≤ (l.length : Int) then 6 else 0) = _
    rw [if_neg (by omega)]
    by_cases h : i + 8 < l.length
    · rw [if_pos h, if_pos (by omega)]
    · rw [if_neg h, if_neg (by omega)]
  refine ⟨he, ?_⟩
  have hp : atP (stK m l l.length) ((i : Int) + 1) = if atE (stK m l l.length) ((i : Int) + 1) = 0 then (histL m (l.take l.length)).getD ((histL m (l.take l.length)).length - 1 - (l.length - ((i : Int) + 1).toNat)) zeroP else zeroP := atP_hist hl (by rw [hlen, hk]; omega)
  rw [hp, he]
  by_cases h : i + 8 < l.length
  · rw [if_pos h, if_pos h, if_neg (by decide)]
  · rw [if_neg h, if_neg h, if_pos rfl, hlen, List.take_length, show l.length + 1 - 1 - (l.length - ((i : Int) + 1).toNat) = i + 1 by omega]
    unfold histL
    rw [List.getD_eq_getElem?_getD, List.getElem?_cons_succ, List.getElem?_map, List.getElem?_eq_getElem hi]
    rfl
/-- A whole policy without parts goes into a row. -/
theorem store_cells_mid {P : Program} {w : World} {g off : Nat} {cs new : Array Value} {t : TypeId} (h : Blk w g cs t) (hn : off + new.size ≤ cs.size) (h1 : new.all (·.oneCell') = true) :
    (storeCells ⟨g, off, none⟩ new.toList).run P w = .ok () (w.setRow g (midC cs off new)) := by
  have hst := run_storeCells_at P g off t new.toList 0 cs w h (by rw [Array.length_toList]; omega) (fun v hv => (Array.all_eq_true_iff_forall_mem.1 h1) v (by simpa using hv))
  rw [Nat.add_zero, Array.length_toList] at hst
  exact hst
theorem put_mid {w : World} {g off : Nat} {cs new : Array Value} {t : TypeId} (h : Blk w g cs t) : Put w (w.setRow g (midC cs off new)) g (midC cs off new) t := ⟨⟨rfl, rfl, rfl, by simp, fun k _ hk => setRow_other w g k _ hk⟩, setRow_heap w g _ _ _ _ h⟩
/-- The store, and the policy that was told. -/
structure KpW (K : VerRel) (w : World) (b : Nat) (S : Sto) (bp : Nat) (q : Pol) (V : World) : Prop where
  ve : VeW K w b S V
  row : PRow V bp q
theorem KpW.step {K : VerRel} {w : World} {b : Nat} {S : Sto} {bp : Nat} {q : Pol} {V V' : World} (h : KpW K w b S bp q V) (hB : Below V.heap.size V V') : KpW K w b S bp q V' := ⟨h.ve.step hB, h.row.step hB⟩
set_option maxRecDepth 100000 in
set_option maxHeartbeats 3200000 in
theorem vekeeps_any {K : VerRel} (cN : VeNewC K) (cC : VeCommitC K) (cA : VeAtC K) (cE : VeEpochC K) (cK : VeKeptC K) (cF : PFirstC) (hA : VeAliveC) (v : Value) (l : List Nat) (w : World) (hv : U16sV w v l) (hx : ∀ x ∈ l, x < 65536) :
    Calls Try.prog 5 #[v] w fun x w' => x = .returned (.bool true) ∧ Below w.heap.size w w' := by
  have HA := Lib.hid hA
  have HX := Lib.hid hx
  have HNu := Lib.hid (fun (n : Nat) V (h : n ≤ 65535) => vnum_any cF n V h)
  obtain ⟨p, cap, rfl, hll, hcs⟩ := hv
  have HC := Lib.hid hcs
  have HNe := Lib.hid cN
  have HCo := @Lib.hid (VeCommitC K) @cC
  have HAt := @Lib.hid (VeAtC K) @cA
  have HEp := @Lib.hid (VeEpochC K) @cE
  have HKe := @Lib.hid (VeKeptC K) @cK
  clear hx hcs cN cC cA cE cK cF hA
  go_enter Try.func5, Try.ntmps5
  by_cases h255 : 255 < l.length
  · have d : decide ((255 : Int) < (l.length : Int)) = true := by simp; omega
    have d2 : decide (255 < l.length) = true := by simpa using h255
    go_wp2_with fail
    refine (HA.out _).mono ?_
    rintro e w1 ⟨rfl, hB⟩
    have HB := Lib.hid hB
    clear hB
    go_wp2_with fail
    go_ret
    exact ⟨rfl, HB.out⟩
  have d : decide ((255 : Int) < (l.length : Int)) = false := by simp; omega
  have d2 : decide (255 < l.length) = false := by simpa using h255
  have HL := Lib.hid (show l.length ≤ 255 by omega)
  have H0 := Lib.hid (HNu.out 0 w (by decide))
  go_wp2_with fail
  refine H0.out.mono ?_
  rintro e w1 ⟨rfl, hB1⟩
  have h2 := Lib.hid (VeW.made HNe.out (numP_ok 0) hB1)
  clear hB1 H0 d d2 h255
  go_wp2_with fail
  refine h2.out.mono ?_
  rintro e w2 ⟨b, rfl, hG⟩
  rw [← stK_zero 0 l] at hG
  have HG0 := Lib.hid hG
  clear hG h2
  go_wp2_with fail
  go_loopw [4, 5] (fun i _ wr => ∃ k : Nat, k ≤ l.length ∧ i = .int .i64 (k : Int) ∧ VeW K w b (stK 0 l k) wr) (fun i _ _ => l.length - (intOf i).toNat)
  case atStart => exact ⟨0, by omega, rfl, HG0.out⟩
  case round =>
    obtain ⟨k, hk, rfl, hg⟩ := hrel
    have HG := Lib.hid hg
    clear hg HG0
    by_cases hlt : k < l.length
    · have dk : decide ((k : Int) < (l.length : Int)) = true := by simp; omega
      have dk2 : decide (k < l.length) = true := by simpa using hlt
      obtain ⟨g, off, rfl, hgl, hcs⟩ := HC.out (by intro e; rw [e] at hlt; cases hlt)
      have hcl := hcs k hlt
      have HXk := Lib.hid (HX.out l[k] (List.getElem_mem hlt))
      have HS := Lib.hid (stK_next 0 hlt (by have := HL.out; omega))
      have HCe := Lib.hid (stK_com 0 (l := l) (k := k) (by have := HL.out; omega))
      have HPk := Lib.hid (sto_pos HG.out.ok)
      generalize hx0 : l[k] = x0 at *
      clear hcs hx0
      have HKl := Lib.hid hlt
      have HKp := Lib.hid (HG.out.keptL HKe.out)
      go_wp2_with fail
      refine HKp.out.mono ?_
      rintro e w3 ⟨u, rfl, hr, hB3⟩
      obtain ⟨-, ⟨-, h0⟩ | ⟨g3, cap3, cur3, rfl, hb3, hg3, hn3, hm3, hs3, ht3⟩⟩ := hr
      · have := HPk.out.1; omega
      have HB3 := Lib.hid hB3
      have HR3 := Lib.hid (show Blk w3 g3 cur3 34 from hg3)
      have HQ3 := Lib.hid (And.intro hb3 (show 0 + (polC zeroP).size ≤ cur3.size by rw [polC_size, hs3]; have := HPk.out.1; omega))
      have hp3 := HPk.out.1
      generalize (stK 0 l k).l.length = n3 at *
      have d0 : ((n3 : Int) == 0) = false := by rw [beq_eq_false_iff_ne]; omega
      have d1 : (n3 == 0) = false := by rw [beq_eq_false_iff_ne]; omega
      have hp4 : (0 : Int) < (n3 : Int) := by omega
      clear hB3 hb3 hg3 hn3 hm3 hs3 ht3 HKp
      go_wp2_with fail
      simp only [store_cells_mid (P := Try.prog) HR3.out HQ3.out.2 (polC_one zeroP), Result.andThen_ok]
      have hw4 := put_mid (off := 0) (new := polC zeroP) HR3.out
      have HG4 := Lib.hid (HG.out.chg HB3.out hw4.chg (fun j hj => by have hj : j = g3 := hj; rw [hj]; exact HQ3.out.1))
      clear hw4 HR3 HQ3 HB3 HG hp3 hp4 d0 d1 HPk
      generalize World.setRow _ _ _ = w4 at *
      have hcl4 := (HG4.out.below.cell (p := ⟨g, off + k, none⟩) hgl).trans hcl
      have hk0 : (0 : Int) ≤ (k : Int) := by omega
      have hk1 : (k : Int) < (l.length : Int) := by omega
      have hwx : IntKind.i64.wrap (x0 : Int) = (x0 : Int) := by have := HXk.out; rw [IntKind.wrap_i64]; omega
      have h5 := Lib.hid (HNu.out x0 w4 (by have := HXk.out; omega))
      go_wp2_with fail
      refine h5.out.mono ?_
      rintro e w5 ⟨rfl, hB5⟩
      have HG5 := Lib.hid (HG4.out.step hB5)
      have h6 := Lib.hid (HG5.out.commit HCo.out (numP_ok x0))
      clear hB5 h5 hcl4 HG4 hcl
      rw [HCe.out, HS.out] at h6
      go_wp2_with fail
      refine h6.out.mono ?_
      rintro e w6 ⟨rfl, hG6⟩
      have HG6 := Lib.hid hG6
      clear hG6 h6 HG5
      have hwk : IntKind.i64.wrap ((k : Int) + 1) = (k : Int) + 1 := by have := HL.out; rw [IntKind.wrap_i64]; omega
      go_wp2_with fail
      go_roundw
      case rel => exact ⟨k + 1, by have := HKl.out; omega, by go_num, HG6.out⟩
      case measure => have := HKl.out; simp [intOf]; omega
    · have dk : decide ((k : Int) < (l.length : Int)) = false := by simp; omega
      have dk2 : decide (k < l.length) = false := by simpa using hlt
      obtain rfl : k = l.length := by omega
      clear hlt hk
      go_wp2_with fail
      go_loopw [6] (fun i wr => ∃ k : Nat, k ≤ l.length ∧ i = .int .i64 (k : Int) ∧ VeW K w b (stK 0 l l.length) wr) (fun i _ => l.length - (intOf i).toNat)
      case atStart => exact ⟨0, by omega, rfl, HG.out⟩
      case round =>
        obtain ⟨k, hk, rfl, hg⟩ := hrel
        have HG2 := Lib.hid hg
        clear hg HG
        by_cases hlt : k < l.length
        · have dk3 : decide ((k : Int) < (l.length : Int)) = true := by simp; omega
          have dk4 : decide (k < l.length) = true := by simpa using hlt
          obtain ⟨g, off, rfl, hgl, hcs⟩ := HC.out (by intro e; rw [e] at hlt; cases hlt)
          have HCl := Lib.hid (And.intro hgl (hcs k hlt))
          have HXk := Lib.hid (HX.out l[k] (List.getElem_mem hlt))
          have HT := Lib.hid (stK_at (m := 0) HL.out hlt)
          have HKl := Lib.hid hlt
          have hwk : IntKind.i64.wrap ((k : Int) + 1) = (k : Int) + 1 := by have := HL.out; rw [IntKind.wrap_i64]; omega
          have h3 := Lib.hid (HG2.out.at_ HAt.out ((k : Int) + 1) (by omega) (by have := HL.out; omega))
          rw [HT.out.1, HT.out.2] at h3
          generalize l[k] = x0 at *
          clear hcs hgl HT hlt
          by_cases h8 : k + 8 < l.length
          · rw [if_pos h8, if_pos h8] at h3
            obtain ⟨q, hq⟩ : ∃ q, q = zeroP := ⟨_, rfl⟩
            rw [← hq] at h3
            have HQ := Lib.hid hq
            clear hq
            go_wp2_with fail
            refine h3.out.mono ?_
            rintro e w4 ⟨rfl, hG4⟩
            have HG4 := Lib.hid hG4
            have hz := PRow.new w4 zeroP
            clear hG4 h3 HG2
            go_upto_region 19 with (refine wpList_store_arr rfl rfl _ _ _ rfl rfl rfl hz (infoPol _) (by rw [polC_size, polC_size]) (polC_one _) ?_; intro w5 hw5)
            have HR := Lib.hid (show KpW K w b (stK 0 l l.length) w4.heap.size q w5 from ⟨HG4.out.step ((belowNew w4 _).trans (hw5.below (by simp) (Nat.le_refl _))), hw5.blk⟩)
            clear hw5 hz HG4
            generalize w4.heap.size = bp at *
            have HW8 := Lib.hid (show IntKind.i64.wrap ((k : Int) + 8) = (k : Int) + 8 by have := HL.out; have := HKl.out; rw [IntKind.wrap_i64]; omega)
            have HOq := Lib.hid (show PolOk q by rw [HQ.out]; exact zeroP_ok)
            have HD := Lib.hid (show decide ((l.length : Int) ≤ (k : Int) + 8) = false by simp; omega)
            have HD2 := Lib.hid (show decide ((k : Int) + 8 < (l.length : Int)) = true by simp; omega)
            clear h8 dk3 dk4
            refine wp_region_S (fun _ V => KpW K w b (stK 0 l l.length) bp q V) 0 [.val (.int .i64 (k : Int)), .val (.int .i64 ((k : Int) + 8)), .val (.slice (some ⟨g, off, none⟩) l.length cap), .val (.int .i64 (l.length : Int)), .val (.bool false), .val (.bool false), .val undef, .val undef, .val undef, .val undef, .val undef, .val undef, .val undef, .val undef, .val undef, .val undef, .val undef, .val undef, .val (.bool false), .val (.bool false), .val (.int .i64 (k : Int)), .val (.int .i64 ((k : Int) + 8)), .val (.slice (some ⟨g, off, none⟩) l.length cap), .val (.int .i64 (l.length : Int)), .val (.bool true), .val (.bool true), .val (.int .i64 6), .val (.bool false), .val (.bool false), .val (.agg (polC q)), .val (.agg (polC q)), .val (.bool false), .val (.bool false), .val (.bool false), .val (.bool false)]
              (fun x => { tmps := #[.slice (some ⟨g, off, none⟩) l.length cap, undef, u2, storeV b, .int .i64 (l.length : Int), u5, .int .i64 (k : Int), .pointer (some ⟨bp, 0, none⟩), .int .i64 6, .slice (some ⟨g, off, none⟩) l.length cap, .int .i64 (l.length : Int), .bool false, undef, .agg (polC (numP 0)), storeV b, storeV b, .bool false, .int .i64 (l.length : Int), .slice (some ⟨g, off, none⟩) l.length cap, .int .i64 (l.length : Int), .bool false, u21, u22, u23, u24, u25, u26, u27, u28, u29, u30, u31, u32, u33, u34, u35, u36, u37, u38, u39, .int .i64 (k : Int), .slice (some ⟨g, off, none⟩) l.length cap, .int .i64 (l.length : Int), .bool true, u44, u45, .tuple #[.agg (polC q), .int .i64 6], storeV b, .int .i64 (k : Int), .int .i64 ((k : Int) + 1), .tuple #[.agg (polC q), .int .i64 6], .agg (polC q), .int .i64 6, x 0, x 1, x 2, x 3, x 4, x 5, x 6, x 7, x 8, x 9, x 10, x 11, x 12, x 13, x 14, x 15, x 16, x 17, x 18, x 19, x 20, x 21, x 22, x 23, x 24, x 25, x 26, x 27, x 28, x 29, x 30, x 31, x 32, x 33, x 34, undef, undef, undef, undef, undef, undef, undef, undef, undef, undef, undef, undef, undef, undef, undef, undef, undef, undef], defers := [] }) (fun i => ([u53, u54, u55, u56, u57, u58, u59, u60, u61, u62, u63, u64, u65, u66, u67, u68, u69, u70, u71, u72, u73, u74, u75, u76, u77, u78, u79, u80, u81, u82, u83, u84, u85, u86, u87] : List Value).getD i undef) (by kernel_rfl) rfl rfl (by kernel_rfl) (by kernel_rfl) (by kernel_rfl) (by kernel_rfl) (HR.out.step (Below.refl _ _).drew) ?_ ?_
            · refine ⟨ObS.of_val rfl (fun x v => rfl) (fun x V kst hC hD => ?_), ?_⟩
              · clear hD
                refine want_yes rfl ?_
                exact leads_value (v := .int .i64 (k : Int)) (by go_simp) ⟨rfl, hC⟩
              refine ⟨ObS.of_val rfl (fun x v => rfl) (fun x V kst hC hD => ?_), ?_⟩
              · have e0 : x 0 = .int .i64 (k : Int) := hD.1 rfl
                clear hD
                refine want_yes rfl ?_
                have hw8 := HW8.out
                exact leads_value (v := .int .i64 ((k : Int) + 8)) (by go_simp) ⟨rfl, hC⟩
              refine ⟨ObS.of_val rfl (fun x v => rfl) (fun x V kst hC hD => ?_), ?_⟩
              · clear hD
                refine want_yes rfl ?_
                exact leads_value (v := .slice (some ⟨g, off, none⟩) l.length cap) (by go_simp) ⟨rfl, hC⟩
              refine ⟨ObS.of_val rfl (fun x v => rfl) (fun x V kst hC hD => ?_), ?_⟩
              · have e2 : x 2 = .slice (some ⟨g, off, none⟩) l.length cap := hD.1 rfl
                clear hD
                refine want_yes rfl ?_
                exact leads_value (v := .int .i64 (l.length : Int)) (by go_simp) ⟨rfl, hC⟩
              refine ⟨ObS.of_val rfl (fun x v => rfl) (fun x V kst hC hD => ?_), ?_⟩
              · have e1 : x 1 = .int .i64 ((k : Int) + 8) := hD.1 rfl
                have e3 : x 3 = .int .i64 (l.length : Int) := hD.2.1 rfl
                clear hD
                refine want_yes rfl ?_
                have hd := HD.out
                exact leads_value (v := .bool false) (by go_simp) ⟨rfl, hC⟩
              refine ⟨ObS.of_val rfl (fun x v => rfl) (fun x V kst hC hD => ?_), ?_⟩
              · have e4 : x 4 = .bool false := hD.1 rfl
                clear hD
                refine want_yes rfl ?_
                exact leads_value (v := .bool false) (by go_simp) ⟨rfl, hC⟩
              refine ⟨ObS.of_val rfl (fun x v => rfl) (fun x V kst hC hD => ?_), ?_⟩
              · have e5 : x 5 = .bool false := hD.1 rfl
                clear hD
                exact want_no (by simp [Region.wanted, yielded, e5]) rfl
              refine ⟨ObS.of_val rfl (fun x v => rfl) (fun x V kst hC hD => ?_), ?_⟩
              · have e6 : x 6 = undef := hD.1 rfl
                have e5 : x 5 = .bool false := hD.2.1 rfl
                clear hD
                exact want_no (by simp [Region.wanted, yielded, e5]) rfl
              refine ⟨ObS.of_val rfl (fun x v => rfl) (fun x V kst hC hD => ?_), ?_⟩
              · have e7 : x 7 = undef := hD.1 rfl
                have e5 : x 5 = .bool false := hD.2.1 rfl
                clear hD
                exact want_no (by simp [Region.wanted, yielded, e5]) rfl
              refine ⟨ObS.of_val rfl (fun x v => rfl) (fun x V kst hC hD => ?_), ?_⟩
              · have e8 : x 8 = undef := hD.1 rfl
                clear hD
                exact want_no (by simp [Region.wanted, yielded, e8, undef]) rfl
              refine ⟨ObS.of_val rfl (fun x v => rfl) (fun x V kst hC hD => ?_), ?_⟩
              · have e8 : x 8 = undef := hD.1 rfl
                clear hD
                exact want_no (by simp [Region.wanted, yielded, e8, undef]) rfl
              refine ⟨ObS.of_val rfl (fun x v => rfl) (fun x V kst hC hD => ?_), ?_⟩
              · have e8 : x 8 = undef := hD.1 rfl
                clear hD
                exact want_no (by simp [Region.wanted, yielded, e8, undef]) rfl
              refine ⟨ObS.of_val rfl (fun x v => rfl) (fun x V kst hC hD => ?_), ?_⟩
              · have e10 : x 10 = undef := hD.1 rfl
                have e11 : x 11 = undef := hD.2.1 rfl
                have e8 : x 8 = undef := hD.2.2.1 rfl
                clear hD
                exact want_no (by simp [Region.wanted, yielded, e8, undef]) rfl
              refine ⟨ObS.of_val rfl (fun x v => rfl) (fun x V kst hC hD => ?_), ?_⟩
              · have e12 : x 12 = undef := hD.1 rfl
                have e8 : x 8 = undef := hD.2.1 rfl
                clear hD
                exact want_no (by simp [Region.wanted, yielded, e8, undef]) rfl
              refine ⟨ObS.of_val rfl (fun x v => rfl) (fun x V kst hC hD => ?_), ?_⟩
              · have e13 : x 13 = undef := hD.1 rfl
                have e8 : x 8 = undef := hD.2.1 rfl
                clear hD
                exact want_no (by simp [Region.wanted, yielded, e8, undef]) rfl
              refine ⟨ObS.of_val rfl (fun x v => rfl) (fun x V kst hC hD => ?_), ?_⟩
              · have e14 : x 14 = undef := hD.1 rfl
                have e8 : x 8 = undef := hD.2.1 rfl
                clear hD
                exact want_no (by simp [Region.wanted, yielded, e8, undef]) rfl
              refine ⟨ObS.of_val rfl (fun x v => rfl) (fun x V kst hC hD => ?_), ?_⟩
              · have e9 : x 9 = undef := hD.1 rfl
                have e15 : x 15 = undef := hD.2.1 rfl
                have e8 : x 8 = undef := hD.2.2.1 rfl
                clear hD
                exact want_no (by simp [Region.wanted, yielded, e8, undef]) rfl
              refine ⟨ObS.of_val rfl (fun x v => rfl) (fun x V kst hC hD => ?_), ?_⟩
              · have e8 : x 8 = undef := hD.1 rfl
                have e16 : x 16 = undef := hD.2.1 rfl
                have e5 : x 5 = .bool false := hD.2.2.1 rfl
                clear hD
                exact want_no (by simp [Region.wanted, yielded, e5]) rfl
              refine ⟨ObS.of_val rfl (fun x v => rfl) (fun x V kst hC hD => ?_), ?_⟩
              · have e5 : x 5 = .bool false := hD.1 rfl
                have e17 : x 17 = undef := hD.2.1 rfl
                clear hD
                refine want_yes rfl ?_
                exact leads_value (v := .bool false) (by go_simp) ⟨rfl, hC⟩
              refine ⟨ObS.of_val rfl (fun x v => rfl) (fun x V kst hC hD => ?_), ?_⟩
              · have e18 : x 18 = .bool false := hD.1 rfl
                clear hD
                refine want_yes rfl ?_
                exact leads_value (v := .bool false) (by go_simp) ⟨rfl, hC⟩
              refine ⟨ObS.of_val rfl (fun x v => rfl) (fun x V kst hC hD => ?_), ?_⟩
              · have e19 : x 19 = .bool false := hD.1 rfl
                clear hD
                refine want_yes (by simp [Region.wanted, yielded, e19]) ?_
                exact leads_value (v := .int .i64 (k : Int)) (by go_simp) ⟨rfl, hC⟩
              refine ⟨ObS.of_val rfl (fun x v => rfl) (fun x V kst hC hD => ?_), ?_⟩
              · have e20 : x 20 = .int .i64 (k : Int) := hD.1 rfl
                have e19 : x 19 = .bool false := hD.2.1 rfl
                clear hD
                refine want_yes (by simp [Region.wanted, yielded, e19]) ?_
                have hw8 := HW8.out
                exact leads_value (v := .int .i64 ((k : Int) + 8)) (by go_simp) ⟨rfl, hC⟩
              refine ⟨ObS.of_val rfl (fun x v => rfl) (fun x V kst hC hD => ?_), ?_⟩
              · have e19 : x 19 = .bool false := hD.1 rfl
                clear hD
                refine want_yes (by simp [Region.wanted, yielded, e19]) ?_
                exact leads_value (v := .slice (some ⟨g, off, none⟩) l.length cap) (by go_simp) ⟨rfl, hC⟩
              refine ⟨ObS.of_val rfl (fun x v => rfl) (fun x V kst hC hD => ?_), ?_⟩
              · have e22 : x 22 = .slice (some ⟨g, off, none⟩) l.length cap := hD.1 rfl
                have e19 : x 19 = .bool false := hD.2.1 rfl
                clear hD
                refine want_yes (by simp [Region.wanted, yielded, e19]) ?_
                exact leads_value (v := .int .i64 (l.length : Int)) (by go_simp) ⟨rfl, hC⟩
              refine ⟨ObS.of_val rfl (fun x v => rfl) (fun x V kst hC hD => ?_), ?_⟩
              · have e21 : x 21 = .int .i64 ((k : Int) + 8) := hD.1 rfl
                have e23 : x 23 = .int .i64 (l.length : Int) := hD.2.1 rfl
                have e19 : x 19 = .bool false := hD.2.2.1 rfl
                clear hD
                refine want_yes (by simp [Region.wanted, yielded, e19]) ?_
                have hd := HD2.out
                exact leads_value (v := .bool true) (by go_simp) ⟨rfl, hC⟩
              refine ⟨ObS.of_val rfl (fun x v => rfl) (fun x V kst hC hD => ?_), ?_⟩
              · have e24 : x 24 = .bool true := hD.1 rfl
                have e19 : x 19 = .bool false := hD.2.1 rfl
                clear hD
                refine want_yes (by simp [Region.wanted, yielded, e19]) ?_
                exact leads_value (v := .bool true) (by go_simp) ⟨rfl, hC⟩
              refine ⟨ObS.of_val rfl (fun x v => rfl) (fun x V kst hC hD => ?_), ?_⟩
              · have e25 : x 25 = .bool true := hD.1 rfl
                clear hD
                refine want_yes (by simp [Region.wanted, yielded, e25]) ?_
                exact leads_value (v := .int .i64 6) (by go_simp) ⟨rfl, hC⟩
              refine ⟨ObS.of_val rfl (fun x v => rfl) (fun x V kst hC hD => ?_), ?_⟩
              · have e26 : x 26 = .int .i64 6 := hD.1 rfl
                have e25 : x 25 = .bool true := hD.2.1 rfl
                clear hD
                refine want_yes (by simp [Region.wanted, yielded, e25]) ?_
                exact leads_value (v := .bool false) (by go_simp) ⟨rfl, hC⟩
              refine ⟨ObS.of_val rfl (fun x v => rfl) (fun x V kst hC hD => ?_), ?_⟩
              · have e27 : x 27 = .bool false := hD.1 rfl
                have e25 : x 25 = .bool true := hD.2.1 rfl
                clear hD
                refine want_yes (by simp [Region.wanted, yielded, e25]) ?_
                exact leads_value (v := .bool false) (by go_simp) ⟨rfl, hC⟩
              refine ⟨ObS.of_val rfl (fun x v => rfl) (fun x V kst hC hD => ?_), ?_⟩
              · have e28 : x 28 = .bool false := hD.1 rfl
                clear hD
                refine want_yes (by simp [Region.wanted, yielded, e28]) ?_
                exact leads_value (exec_load_pol rfl rfl hC.row) ⟨rfl, hC⟩
              refine ⟨ObS.of_val rfl (fun x v => rfl) (fun x V kst hC hD => ?_), ?_⟩
              · have e28 : x 28 = .bool false := hD.1 rfl
                clear hD
                refine want_yes (by simp [Region.wanted, yielded, e28]) ?_
                exact leads_value (by rw [HQ.out]; exact zero_pol rfl) ⟨rfl, hC⟩
              refine ⟨ObS.of_val rfl (fun x v => rfl) (fun x V kst hC hD => ?_), ?_⟩
              · have e29 : x 29 = .agg (polC q) := hD.1 rfl
                have e30 : x 30 = .agg (polC q) := hD.2.1 rfl
                have e28 : x 28 = .bool false := hD.2.2.1 rfl
                clear hD
                refine want_yes (by simp [Region.wanted, yielded, e28]) ?_
                exact leads_value (exec_neq_pol HOq.out rfl e29 e30) ⟨rfl, hC⟩
              refine ⟨ObS.of_val rfl (fun x v => rfl) (fun x V kst hC hD => ?_), ?_⟩
              · have e28 : x 28 = .bool false := hD.1 rfl
                have e31 : x 31 = .bool false := hD.2.1 rfl
                have e25 : x 25 = .bool true := hD.2.2.1 rfl
                clear hD
                refine want_yes (by simp [Region.wanted, yielded, e25]) ?_
                exact leads_value (v := .bool false) (by go_simp) ⟨rfl, hC⟩
              refine ⟨ObS.of_val rfl (fun x v => rfl) (fun x V kst hC hD => ?_), ?_⟩
              · have e25 : x 25 = .bool true := hD.1 rfl
                have e32 : x 32 = .bool false := hD.2.1 rfl
                have e19 : x 19 = .bool false := hD.2.2.1 rfl
                clear hD
                refine want_yes (by simp [Region.wanted, yielded, e19]) ?_
                exact leads_value (v := .bool false) (by go_simp) ⟨rfl, hC⟩
              refine ⟨ObS.of_val rfl (fun x v => rfl) (fun x V kst hC hD => ?_), ?_⟩
              · have e19 : x 19 = .bool false := hD.1 rfl
                have e33 : x 33 = .bool false := hD.2.1 rfl
                clear hD
                refine want_yes rfl ?_
                exact leads_value (v := .bool false) (by go_simp) ⟨rfl, hC⟩
              trivial
            · intro xa V hC hx
              have e34 : xa 34 = .bool false := hx 34 (by simp)
              have HV := Lib.hid (show KpW K w b (stK 0 l l.length) bp q V from hC)
              clear hx hC HR
              rw [e34]
              clear e34
              generalize xa 0 = z0
              generalize xa 1 = z1
              generalize xa 2 = z2
              generalize xa 3 = z3
              generalize xa 4 = z4
              generalize xa 5 = z5
              generalize xa 6 = z6
              generalize xa 7 = z7
              generalize xa 8 = z8
              generalize xa 9 = z9
              generalize xa 10 = z10
              generalize xa 11 = z11
              generalize xa 12 = z12
              generalize xa 13 = z13
              generalize xa 14 = z14
              generalize xa 15 = z15
              generalize xa 16 = z16
              generalize xa 17 = z17
              generalize xa 18 = z18
              generalize xa 19 = z19
              generalize xa 20 = z20
              generalize xa 21 = z21
              generalize xa 22 = z22
              generalize xa 23 = z23
              generalize xa 24 = z24
              generalize xa 25 = z25
              generalize xa 26 = z26
              generalize xa 27 = z27
              generalize xa 28 = z28
              generalize xa 29 = z29
              generalize xa 30 = z30
              generalize xa 31 = z31
              generalize xa 32 = z32
              generalize xa 33 = z33
              go_wp2_with fail
              go_roundw
              case rel => exact ⟨k + 1, by have := HKl.out; omega, by go_num, HV.out.ve⟩
              case measure => have := HKl.out; simp [intOf]; omega
          · rw [if_neg h8, if_neg h8] at h3
            obtain ⟨q, hq⟩ : ∃ q, q = numP x0 := ⟨_, rfl⟩
            rw [← hq] at h3
            have HQ := Lib.hid hq
            clear hq
            go_wp2_with fail
            refine h3.out.mono ?_
            rintro e w4 ⟨rfl, hG4⟩
            have HG4 := Lib.hid hG4
            have hz := PRow.new w4 zeroP
            clear hG4 h3 HG2
            go_upto_region 19 with (refine wpList_store_arr rfl rfl _ _ _ rfl rfl rfl hz (infoPol _) (by rw [polC_size, polC_size]) (polC_one _) ?_; intro w5 hw5)
            have HR := Lib.hid (show KpW K w b (stK 0 l l.length) w4.heap.size q w5 from ⟨HG4.out.step ((belowNew w4 _).trans (hw5.below (by simp) (Nat.le_refl _))), hw5.blk⟩)
            clear hw5 hz HG4
            generalize w4.heap.size = bp at *
            have HW8 := Lib.hid (show IntKind.i64.wrap ((k : Int) + 8) = (k : Int) + 8 by have := HL.out; have := HKl.out; rw [IntKind.wrap_i64]; omega)
            have HOq := Lib.hid (show PolOk q by rw [HQ.out]; exact numP_ok x0)
            have HD := Lib.hid (show decide ((l.length : Int) ≤ (k : Int) + 8) = true by simp; omega)
            have HD2 := Lib.hid (show decide ((k : Int) + 8 < (l.length : Int)) = false by simp; omega)
            have HNq := Lib.hid (fun V => show Calls Try.prog 9 #[.int .i64 (x0 : Int)] V fun x w' => x = .returned (.agg (polC q)) ∧ Below V.heap.size V w' by rw [HQ.out]; exact HNu.out x0 V (by have := HXk.out; omega))
            clear h8 dk3 dk4
            refine wp_region_S (fun _ V => KpW K w b (stK 0 l l.length) bp q V) 0 [.val (.int .i64 (k : Int)), .val (.int .i64 ((k : Int) + 8)), .val (.slice (some ⟨g, off, none⟩) l.length cap), .val (.int .i64 (l.length : Int)), .val (.bool true), .val (.bool true), .val (.int .i64 0), .val (.bool false), .val (.bool false), .val (.agg (polC q)), .val (.slice (some ⟨g, off, none⟩) l.length cap), .val (.int .i64 (k : Int)), .val (.pointer (some ⟨g, off + k, none⟩)), .val (.int .u16 (x0 : Int)), .val (.int .i64 (x0 : Int)), .val (.agg (polC q)), .val (.bool false), .val (.bool false), .val (.bool false), .val (.bool false), .val (.int .i64 (k : Int)), .val (.int .i64 ((k : Int) + 8)), .val (.slice (some ⟨g, off, none⟩) l.length cap), .val (.int .i64 (l.length : Int)), .val (.bool false), .val (.bool false), .val undef, .val undef, .val undef, .val undef, .val undef, .val undef, .val undef, .val (.bool false), .val (.bool false)]
              (fun x => { tmps := #[.slice (some ⟨g, off, none⟩) l.length cap, undef, u2, storeV b, .int .i64 (l.length : Int), u5, .int .i64 (k : Int), .pointer (some ⟨bp, 0, none⟩), .int .i64 0, .slice (some ⟨g, off, none⟩) l.length cap, .int .i64 (l.length : Int), .bool false, undef, .agg (polC (numP 0)), storeV b, storeV b, .bool false, .int .i64 (l.length : Int), .slice (some ⟨g, off, none⟩) l.length cap, .int .i64 (l.length : Int), .bool false, u21, u22, u23, u24, u25, u26, u27, u28, u29, u30, u31, u32, u33, u34, u35, u36, u37, u38, u39, .int .i64 (k : Int), .slice (some ⟨g, off, none⟩) l.length cap, .int .i64 (l.length : Int), .bool true, u44, u45, .tuple #[.agg (polC q), .int .i64 0], storeV b, .int .i64 (k : Int), .int .i64 ((k : Int) + 1), .tuple #[.agg (polC q), .int .i64 0], .agg (polC q), .int .i64 0, x 0, x 1, x 2, x 3, x 4, x 5, x 6, x 7, x 8, x 9, x 10, x 11, x 12, x 13, x 14, x 15, x 16, x 17, x 18, x 19, x 20, x 21, x 22, x 23, x 24, x 25, x 26, x 27, x 28, x 29, x 30, x 31, x 32, x 33, x 34, undef, undef, undef, undef, undef, undef, undef, undef, undef, undef, undef, undef, undef, undef, undef, undef, undef, undef], defers := [] }) (fun i => ([u53, u54, u55, u56, u57, u58, u59, u60, u61, u62, u63, u64, u65, u66, u67, u68, u69, u70, u71, u72, u73, u74, u75, u76, u77, u78, u79, u80, u81, u82, u83, u84, u85, u86, u87] : List Value).getD i undef) (by kernel_rfl) rfl rfl (by kernel_rfl) (by kernel_rfl) (by kernel_rfl) (by kernel_rfl) (HR.out.step (Below.refl _ _).drew) ?_ ?_
            · refine ⟨ObS.of_val rfl (fun x v => rfl) (fun x V kst hC hD => ?_), ?_⟩
              · clear hD
                refine want_yes rfl ?_
                exact leads_value (v := .int .i64 (k : Int)) (by go_simp) ⟨rfl, hC⟩
              refine ⟨ObS.of_val rfl (fun x v => rfl) (fun x V kst hC hD => ?_), ?_⟩
              · have e0 : x 0 = .int .i64 (k : Int) := hD.1 rfl
                clear hD
                refine want_yes rfl ?_
                have hw8 := HW8.out
                exact leads_value (v := .int .i64 ((k : Int) + 8)) (by go_simp) ⟨rfl, hC⟩
              refine ⟨ObS.of_val rfl (fun x v => rfl) (fun x V kst hC hD => ?_), ?_⟩
              · clear hD
                refine want_yes rfl ?_
                exact leads_value (v := .slice (some ⟨g, off, none⟩) l.length cap) (by go_simp) ⟨rfl, hC⟩
              refine ⟨ObS.of_val rfl (fun x v => rfl) (fun x V kst hC hD => ?_), ?_⟩
              · have e2 : x 2 = .slice (some ⟨g, off, none⟩) l.length cap := hD.1 rfl
                clear hD
                refine want_yes rfl ?_
                exact leads_value (v := .int .i64 (l.length : Int)) (by go_simp) ⟨rfl, hC⟩
              refine ⟨ObS.of_val rfl (fun x v => rfl) (fun x V kst hC hD => ?_), ?_⟩
              · have e1 : x 1 = .int .i64 ((k : Int) + 8) := hD.1 rfl
                have e3 : x 3 = .int .i64 (l.length : Int) := hD.2.1 rfl
                clear hD
                refine want_yes rfl ?_
                have hd := HD.out
                exact leads_value (v := .bool true) (by go_simp) ⟨rfl, hC⟩
              refine ⟨ObS.of_val rfl (fun x v => rfl) (fun x V kst hC hD => ?_), ?_⟩
              · have e4 : x 4 = .bool true := hD.1 rfl
                clear hD
                refine want_yes rfl ?_
                exact leads_value (v := .bool true) (by go_simp) ⟨rfl, hC⟩
              refine ⟨ObS.of_val rfl (fun x v => rfl) (fun x V kst hC hD => ?_), ?_⟩
              · have e5 : x 5 = .bool true := hD.1 rfl
                clear hD
                refine want_yes (by simp [Region.wanted, yielded, e5]) ?_
                exact leads_value (v := .int .i64 0) (by go_simp) ⟨rfl, hC⟩
              refine ⟨ObS.of_val rfl (fun x v => rfl) (fun x V kst hC hD => ?_), ?_⟩
              · have e6 : x 6 = .int .i64 0 := hD.1 rfl
                have e5 : x 5 = .bool true := hD.2.1 rfl
                clear hD
                refine want_yes (by simp [Region.wanted, yielded, e5]) ?_
                exact leads_value (v := .bool false) (by go_simp) ⟨rfl, hC⟩
              refine ⟨ObS.of_val rfl (fun x v => rfl) (fun x V kst hC hD => ?_), ?_⟩
              · have e7 : x 7 = .bool false := hD.1 rfl
                have e5 : x 5 = .bool true := hD.2.1 rfl
                clear hD
                refine want_yes (by simp [Region.wanted, yielded, e5]) ?_
                exact leads_value (v := .bool false) (by go_simp) ⟨rfl, hC⟩
              refine ⟨ObS.of_val rfl (fun x v => rfl) (fun x V kst hC hD => ?_), ?_⟩
              · have e8 : x 8 = .bool false := hD.1 rfl
                clear hD
                refine want_yes (by simp [Region.wanted, yielded, e8]) ?_
                exact leads_value (exec_load_pol rfl rfl hC.row) ⟨rfl, hC⟩
              refine ⟨ObS.of_val rfl (fun x v => rfl) (fun x V kst hC hD => ?_), ?_⟩
              · have e8 : x 8 = .bool false := hD.1 rfl
                clear hD
                refine want_yes (by simp [Region.wanted, yielded, e8]) ?_
                exact leads_value (v := .slice (some ⟨g, off, none⟩) l.length cap) (by go_simp) ⟨rfl, hC⟩
              refine ⟨ObS.of_val rfl (fun x v => rfl) (fun x V kst hC hD => ?_), ?_⟩
              · have e8 : x 8 = .bool false := hD.1 rfl
                clear hD
                refine want_yes (by simp [Region.wanted, yielded, e8]) ?_
                exact leads_value (v := .int .i64 (k : Int)) (by go_simp) ⟨rfl, hC⟩
              refine ⟨ObS.of_val rfl (fun x v => rfl) (fun x V kst hC hD => ?_), ?_⟩
              · have e10 : x 10 = .slice (some ⟨g, off, none⟩) l.length cap := hD.1 rfl
                have e11 : x 11 = .int .i64 (k : Int) := hD.2.1 rfl
                have e8 : x 8 = .bool false := hD.2.2.1 rfl
                clear hD
                refine want_yes (by simp [Region.wanted, yielded, e8]) ?_
                have h0 : (0 : Int) ≤ (k : Int) := by omega
                have h1 : (k : Int) < (l.length : Int) := by have := HKl.out; omega
                exact leads_value (v := .pointer (some ⟨g, off + k, none⟩)) (by go_simp) ⟨rfl, hC⟩
              refine ⟨ObS.of_val rfl (fun x v => rfl) (fun x V kst hC hD => ?_), ?_⟩
              · have e12 : x 12 = .pointer (some ⟨g, off + k, none⟩) := hD.1 rfl
                have e8 : x 8 = .bool false := hD.2.1 rfl
                clear hD
                refine want_yes (by simp [Region.wanted, yielded, e8]) ?_
                have hcl := (hC.ve.below.cell (p := ⟨g, off + k, none⟩) HCl.out.1).trans HCl.out.2
                exact leads_value (v := .int .u16 (x0 : Int)) (by go_simp) ⟨rfl, hC⟩
              refine ⟨ObS.of_val rfl (fun x v => rfl) (fun x V kst hC hD => ?_), ?_⟩
              · have e13 : x 13 = .int .u16 (x0 : Int) := hD.1 rfl
                have e8 : x 8 = .bool false := hD.2.1 rfl
                clear hD
                refine want_yes (by simp [Region.wanted, yielded, e8]) ?_
                have hwx : IntKind.i64.wrap (x0 : Int) = (x0 : Int) := by have := HXk.out; rw [IntKind.wrap_i64]; omega
                exact leads_value (v := .int .i64 (x0 : Int)) (by go_simp) ⟨rfl, hC⟩
              refine ⟨ObS.of_val rfl (fun x v => rfl) (fun x V kst hC hD => ?_), ?_⟩
              · have e14 : x 14 = .int .i64 (x0 : Int) := hD.1 rfl
                have e8 : x 8 = .bool false := hD.2.1 rfl
                clear hD
                refine want_yes (by simp [Region.wanted, yielded, e8]) ?_
                exact leads_enter2 (by go_simp) ((HNq.out V).mono fun e w'' ⟨he, hB⟩ => ⟨_, he, rfl, hC.step hB⟩)
              refine ⟨ObS.of_val rfl (fun x v => rfl) (fun x V kst hC hD => ?_), ?_⟩
              · have e9 : x 9 = .agg (polC q) := hD.1 rfl
                have e15 : x 15 = .agg (polC q) := hD.2.1 rfl
                have e8 : x 8 = .bool false := hD.2.2.1 rfl
                clear hD
                refine want_yes (by simp [Region.wanted, yielded, e8]) ?_
                exact leads_value (exec_neq_pol HOq.out rfl e9 e15) ⟨rfl, hC⟩
              refine ⟨ObS.of_val rfl (fun x v => rfl) (fun x V kst hC hD => ?_), ?_⟩
              · have e8 : x 8 = .bool false := hD.1 rfl
                have e16 : x 16 = .bool false := hD.2.1 rfl
                have e5 : x 5 = .bool true := hD.2.2.1 rfl
                clear hD
                refine want_yes (by simp [Region.wanted, yielded, e5]) ?_
                exact leads_value (v := .bool false) (by go_simp) ⟨rfl, hC⟩
              refine ⟨ObS.of_val rfl (fun x v => rfl) (fun x V kst hC hD => ?_), ?_⟩
              · have e5 : x 5 = .bool true := hD.1 rfl
                have e17 : x 17 = .bool false := hD.2.1 rfl
                clear hD
                refine want_yes rfl ?_
                exact leads_value (v := .bool false) (by go_simp) ⟨rfl, hC⟩
              refine ⟨ObS.of_val rfl (fun x v => rfl) (fun x V kst hC hD => ?_), ?_⟩
              · have e18 : x 18 = .bool false := hD.1 rfl
                clear hD
                refine want_yes rfl ?_
                exact leads_value (v := .bool false) (by go_simp) ⟨rfl, hC⟩
              refine ⟨ObS.of_val rfl (fun x v => rfl) (fun x V kst hC hD => ?_), ?_⟩
              · have e19 : x 19 = .bool false := hD.1 rfl
                clear hD
                refine want_yes (by simp [Region.wanted, yielded, e19]) ?_
                exact leads_value (v := .int .i64 (k : Int)) (by go_simp) ⟨rfl, hC⟩
              refine ⟨ObS.of_val rfl (fun x v => rfl) (fun x V kst hC hD => ?_), ?_⟩
              · have e20 : x 20 = .int .i64 (k : Int) := hD.1 rfl
                have e19 : x 19 = .bool false := hD.2.1 rfl
                clear hD
                refine want_yes (by simp [Region.wanted, yielded, e19]) ?_
                have hw8 := HW8.out
                exact leads_value (v := .int .i64 ((k : Int) + 8)) (by go_simp) ⟨rfl, hC⟩
              refine ⟨ObS.of_val rfl (fun x v => rfl) (fun x V kst hC hD => ?_), ?_⟩
              · have e19 : x 19 = .bool false := hD.1 rfl
                clear hD
                refine want_yes (by simp [Region.wanted, yielded, e19]) ?_
                exact leads_value (v := .slice (some ⟨g, off, none⟩) l.length cap) (by go_simp) ⟨rfl, hC⟩
              refine ⟨ObS.of_val rfl (fun x v => rfl) (fun x V kst hC hD => ?_), ?_⟩
              · have e22 : x 22 = .slice (some ⟨g, off, none⟩) l.length cap := hD.1 rfl
                have e19 : x 19 = .bool false := hD.2.1 rfl
                clear hD
                refine want_yes (by simp [Region.wanted, yielded, e19]) ?_
                exact leads_value (v := .int .i64 (l.length : Int)) (by go_simp) ⟨rfl, hC⟩
              refine ⟨ObS.of_val rfl (fun x v => rfl) (fun x V kst hC hD => ?_), ?_⟩
              · have e21 : x 21 = .int .i64 ((k : Int) + 8) := hD.1 rfl
                have e23 : x 23 = .int .i64 (l.length : Int) := hD.2.1 rfl
                have e19 : x 19 = .bool false := hD.2.2.1 rfl
                clear hD
                refine want_yes (by simp [Region.wanted, yielded, e19]) ?_
                have hd := HD2.out
                exact leads_value (v := .bool false) (by go_simp) ⟨rfl, hC⟩
              refine ⟨ObS.of_val rfl (fun x v => rfl) (fun x V kst hC hD => ?_), ?_⟩
              · have e24 : x 24 = .bool false := hD.1 rfl
                have e19 : x 19 = .bool false := hD.2.1 rfl
                clear hD
                refine want_yes (by simp [Region.wanted, yielded, e19]) ?_
                exact leads_value (v := .bool false) (by go_simp) ⟨rfl, hC⟩
              refine ⟨ObS.of_val rfl (fun x v => rfl) (fun x V kst hC hD => ?_), ?_⟩
              · have e25 : x 25 = .bool false := hD.1 rfl
                clear hD
                exact want_no (by simp [Region.wanted, yielded, e25]) rfl
              refine ⟨ObS.of_val rfl (fun x v => rfl) (fun x V kst hC hD => ?_), ?_⟩
              · have e26 : x 26 = undef := hD.1 rfl
                have e25 : x 25 = .bool false := hD.2.1 rfl
                clear hD
                exact want_no (by simp [Region.wanted, yielded, e25]) rfl
              refine ⟨ObS.of_val rfl (fun x v => rfl) (fun x V kst hC hD => ?_), ?_⟩
              · have e27 : x 27 = undef := hD.1 rfl
                have e25 : x 25 = .bool false := hD.2.1 rfl
                clear hD
                exact want_no (by simp [Region.wanted, yielded, e25]) rfl
              refine ⟨ObS.of_val rfl (fun x v => rfl) (fun x V kst hC hD => ?_), ?_⟩
              · have e28 : x 28 = undef := hD.1 rfl
                clear hD
                exact want_no (by simp [Region.wanted, yielded, e28, undef]) rfl
              refine ⟨ObS.of_val rfl (fun x v => rfl) (fun x V kst hC hD => ?_), ?_⟩
              · have e28 : x 28 = undef := hD.1 rfl
                clear hD
                exact want_no (by simp [Region.wanted, yielded, e28, undef]) rfl
              refine ⟨ObS.of_val rfl (fun x v => rfl) (fun x V kst hC hD => ?_), ?_⟩
              · have e29 : x 29 = undef := hD.1 rfl
                have e30 : x 30 = undef := hD.2.1 rfl
                have e28 : x 28 = undef := hD.2.2.1 rfl
                clear hD
                exact want_no (by simp [Region.wanted, yielded, e28, undef]) rfl
              refine ⟨ObS.of_val rfl (fun x v => rfl) (fun x V kst hC hD => ?_), ?_⟩
              · have e28 : x 28 = undef := hD.1 rfl
                have e31 : x 31 = undef := hD.2.1 rfl
                have e25 : x 25 = .bool false := hD.2.2.1 rfl
                clear hD
                exact want_no (by simp [Region.wanted, yielded, e25]) rfl
              refine ⟨ObS.of_val rfl (fun x v => rfl) (fun x V kst hC hD => ?_), ?_⟩
              · have e25 : x 25 = .bool false := hD.1 rfl
                have e32 : x 32 = undef := hD.2.1 rfl
                have e19 : x 19 = .bool false := hD.2.2.1 rfl
                clear hD
                refine want_yes (by simp [Region.wanted, yielded, e19]) ?_
                exact leads_value (v := .bool false) (by go_simp) ⟨rfl, hC⟩
              refine ⟨ObS.of_val rfl (fun x v => rfl) (fun x V kst hC hD => ?_), ?_⟩
              · have e19 : x 19 = .bool false := hD.1 rfl
                have e33 : x 33 = .bool false := hD.2.1 rfl
                clear hD
                refine want_yes rfl ?_
                exact leads_value (v := .bool false) (by go_simp) ⟨rfl, hC⟩
              trivial
            · intro xa V hC hx
              have e34 : xa 34 = .bool false := hx 34 (by simp)
              have HV := Lib.hid (show KpW K w b (stK 0 l l.length) bp q V from hC)
              clear hx hC HR
              rw [e34]
              clear e34
              generalize xa 0 = z0
              generalize xa 1 = z1
              generalize xa 2 = z2
              generalize xa 3 = z3
              generalize xa 4 = z4
              generalize xa 5 = z5
              generalize xa 6 = z6
              generalize xa 7 = z7
              generalize xa 8 = z8
              generalize xa 9 = z9
              generalize xa 10 = z10
              generalize xa 11 = z11
              generalize xa 12 = z12
              generalize xa 13 = z13
              generalize xa 14 = z14
              generalize xa 15 = z15
              generalize xa 16 = z16
              generalize xa 17 = z17
              generalize xa 18 = z18
              generalize xa 19 = z19
              generalize xa 20 = z20
              generalize xa 21 = z21
              generalize xa 22 = z22
              generalize xa 23 = z23
              generalize xa 24 = z24
              generalize xa 25 = z25
              generalize xa 26 = z26
              generalize xa 27 = z27
              generalize xa 28 = z28
              generalize xa 29 = z29
              generalize xa 30 = z30
              generalize xa 31 = z31
              generalize xa 32 = z32
              generalize xa 33 = z33
              go_wp2_with fail
              go_roundw
              case rel => exact ⟨k + 1, by have := HKl.out; omega, by go_num, HV.out.ve⟩
              case measure => have := HKl.out; simp [intOf]; omega
        · have dk3 : decide ((k : Int) < (l.length : Int)) = false := by simp; omega
          have dk4 : decide (k < l.length) = false := by simpa using hlt
          obtain rfl : k = l.length := by omega
          have HKp := Lib.hid (HG2.out.epoch HEp.out)
          go_wp2_with fail
          refine HKp.out.mono ?_
          rintro e w3 ⟨rfl, hG3⟩
          have HG3 := Lib.hid hG3
          have HLn := Lib.hid (show (stK 0 l l.length).l.length = min (l.length + 1) 8 by rw [HG3.out.ok.len]; exact keptN_nat HL.out)
          have HK3 := Lib.hid (HG3.out.keptL HKe.out)
          clear hG3 HG2 HKp hlt
          have d5 : ((l.length : Int) == (l.length : Int)) = true := by simp
          have d6 : (l.length == l.length) = true := by simp
          go_wp2_with fail
          refine HK3.out.mono ?_
          rintro e w4 ⟨u, rfl, hr, hB4⟩
          have HB4 := Lib.hid (HG3.out.below.trans (hB4.mono HG3.out.below.size))
          obtain ⟨-, ⟨-, h0⟩ | ⟨g3, cap3, cur3, rfl, hb3, hg3, hn3, hm3, hs3, ht3⟩⟩ := hr
          · have := HLn.out; omega
          rw [HLn.out]
          clear hb3 hg3 hn3 hm3 hs3 ht3 hB4 HK3
          have hwn : IntKind.i64.wrap ((l.length : Int) + 1) = (l.length : Int) + 1 := by have := HL.out; rw [IntKind.wrap_i64]; omega
          rcases Nat.lt_trichotomy (l.length + 1) 8 with h8 | h8 | h8
          · rw [show min (l.length + 1) 8 = l.length + 1 by omega]
            have p1 : ¬ (8 : Int) ≤ (l.length : Int) + 1 := by omega
            clear h8
            go_wp2_with fail
            refine (HA.out _).mono ?_
            rintro e w5 ⟨rfl, hB5⟩
            have HB5 := Lib.hid (HB4.out.trans (hB5.mono HB4.out.size))
            clear hB5
            go_wp2_with fail
            go_ret
            exact ⟨rfl, HB5.out⟩
          · rw [show min (l.length + 1) 8 = 8 by omega]
            have p1 : (8 : Int) ≤ (l.length : Int) + 1 := by omega
            clear h8
            go_wp2_with fail
            refine (HA.out _).mono ?_
            rintro e w5 ⟨rfl, hB5⟩
            have HB5 := Lib.hid (HB4.out.trans (hB5.mono HB4.out.size))
            clear hB5
            go_wp2_with fail
            go_ret
            exact ⟨rfl, HB5.out⟩
          · rw [show min (l.length + 1) 8 = 8 by omega]
            have p1 : (8 : Int) ≤ (l.length : Int) + 1 := by omega
            clear h8
            go_wp2_with fail
            refine (HA.out _).mono ?_
            rintro e w5 ⟨rfl, hB5⟩
            have HB5 := Lib.hid (HB4.out.trans (hB5.mono HB4.out.size))
            clear hB5
            go_wp2_with fail
            go_ret
            exact ⟨rfl, HB5.out⟩
end Go.Proofs.Ytimbhamdblganaa

/-
  The document's stores: Kept, List, Same, At, Commit; a policy that tells a number.
-/
import Derived.Deep.DeepCutAuto
import Derived.DeepKeys2
import Derived.Test.YtimbhamdblganaaWVerC
import Derived.Test.YtimbhamdblganaaWPolLb
import Derived.Test.YtimbhamdblganaaWPolD
import Derived.Test.YtimbhamdblganaaWEqR
import Derived.Test.YtimbhamdblganaaWPolC
import Derived.Test.YtimbhamdblganaaWStage
/-! VerR -/
namespace Go.Proofs.Ytimbhamdblganaa
open Go.RowKit

set_option maxRecDepth 100000 in
theorem rvKept_any (e : Int) (w : World) (h1 : -9223372036854775808 ≤ e) (h2 : e ≤ 9223372036854775807) : Calls Try.prog 20 #[.int .i64 e] w fun x w' => x = .returned (.int .i64 (keptN e : Nat)) ∧ w = w' := by
  go_enter Try.func20, Try.ntmps20
  by_cases h : e < 0
  · have d := decide_eq_true h
    have HE := Lib.hid (show keptN e = 0 from if_pos (.inl h))
    go_wp2_with fail
    go_ret
    exact ⟨by rw [HE.out]; rfl, rfl⟩
  have d := decide_eq_false h
  by_cases h3 : 255 < e
  · have d3 := decide_eq_true h3
    have HE := Lib.hid (show keptN e = 0 from if_pos (.inr h3))
    go_wp2_with fail
    go_ret
    exact ⟨by rw [HE.out]; rfl, rfl⟩
  have d3 := decide_eq_false h3
  have hz : ¬ (e < 0 ∨ 255 < e) := by omega
  by_cases h4 : 6 < e
  · have d4 := decide_eq_true h4
    have HE := Lib.hid (show keptN e = 8 from (if_neg hz).trans (if_pos h4))
    go_wp2_with fail
    go_ret
    exact ⟨by rw [HE.out]; rfl, rfl⟩
  have d4 := decide_eq_false h4
  have HE := Lib.hid (show keptN e = e.toNat + 1 from (if_neg hz).trans (if_neg h4))
  have hw : IntKind.i64.wrap (e + 1) = e + 1 := by rw [IntKind.wrap_i64]; omega
  have HZ := Lib.hid (show e + 1 = ((e.toNat + 1 : Nat) : Int) by omega)
  clear h h3 h4 hz
  go_wp2_with fail
  go_ret
  exact ⟨by rw [HE.out, ← HZ.out]; rfl, rfl⟩
/-- What is made of a policy's literal without parts. -/
theorem zero_pol {o : Oper} {a : Act} {w : World} (ho : o.op = .build 34 #[]) : (execOp a.eval o).run Try.prog w = .ok (.value (.agg (polC zeroP))) w := by
  unfold execOp
  simp only [ho]
  go_simp
theorem num_cells {n : Nat} : polC (((firstP.putO (n % 16) 16).putS 0 0).putI 0 (n % 65536)) = polC (numP n) := by
  refine polC_congr rfl (fun r _ => ⟨?_, ?_, rfl⟩) (fun t _ => ?_) rfl
  · show upd (fun _ => 0) 0 0 r = 0
    unfold upd; split <;> rfl
  · show upd (fun r => if r = 0 then 65535 else 0) 0 (n % 65536) r = if r = 0 then n % 65536 else 0
    unfold upd; split
    · rfl
    · rename_i h; exact if_neg h
  · rfl
/-- The place for the answer, and a policy of the call's own. -/
structure NuW (w : World) (b : Nat) (q : Pol) (V : World) : Prop where
  below : Below w.heap.size w V
  res : PRow V w.heap.size zeroP
  row : PRow V b q
  lt : w.heap.size < b
theorem NuW.put {w : World} {b : Nat} {q r : Pol} {V V' : World} (h : NuW w b q V) (hp : Put V V' b (polC r) 34) : NuW w b r V' :=
  ⟨h.below.trans (hp.below h.below.size (Nat.le_of_lt h.lt)), hp.chg.kept h.res (by have := h.lt; show ¬ w.heap.size = b; omega), hp.blk, h.lt⟩
theorem NuW.cell {w : World} {b : Nat} {q r : Pol} {V : World} (h : NuW w b q V) {k : Nat} {u : Value} (hr : PRow (V.setCell ⟨b, k, none⟩ u) b r) : NuW w b r (V.setCell ⟨b, k, none⟩ u) :=
  h.put ⟨(Chg.refl (fun j => j = b) V).setCell (p := ⟨b, k, none⟩) (fun _ => rfl) u, hr⟩
set_option maxRecDepth 100000 in
set_option maxHeartbeats 1600000 in
theorem vnum_any (cF : PFirstC) (n : Nat) (w : World) (hn : n ≤ 65535) : Calls Try.prog 9 #[.int .i64 (n : Int)] w fun x w' => x = .returned (.agg (polC (numP n))) ∧ Below w.heap.size w w' := by
  have HF := Lib.hid cF
  have HR := Lib.hid (PRow.new w zeroP)
  have HB := Lib.hid (belowNew w (.cells (polC zeroP) 34))
  have HN := Lib.hid (num_cells (n := n))
  have hm : n % 16 < 16 := Nat.mod_lt _ (by decide)
  have he : n % 65536 = n := Nat.mod_eq_of_lt (by omega)
  have hw : IntKind.u16.wrap (n : Int) = (n : Int) := by unfold IntKind.wrap; simp [IntKind.signed, IntKind.bits]; omega
  have hrem : (n : Int) % 16 = ((n % 16 : Nat) : Int) := by omega
  rw [he] at HN
  clear cF he
  go_enter Try.func9, Try.ntmps9
  go_upto_region 1 with fail
  generalize w.alloc _ = w1 at *
  go_wp2_with fail
  refine (HF.out _).mono ?_
  rintro e w2 ⟨rfl, hB2⟩
  have HR2 := Lib.hid (HR.out.step hB2)
  have HB2 := Lib.hid (HB.out.trans (hB2.mono HB.out.size))
  have hz := PRow.new w2 zeroP
  clear hB2 HR HB
  go_upto_region 2 with (refine wpList_store_arr rfl rfl _ _ _ rfl rfl rfl hz (infoPol _) (by rw [polC_size, polC_size]) (polC_one _) ?_; intro w3 hw3)
  have HG := Lib.hid (show NuW w w2.heap.size firstP w3 from ⟨HB2.out.trans ((belowNew w2 _).trans (hw3.below (by simp) (Nat.le_refl _)) |>.mono HB2.out.size), (HR2.out.alloc _).other hw3 (by have := HR2.out.lt; omega), hw3.blk, HR2.out.lt⟩)
  clear hw3 hz HR2 HB2
  generalize w2.heap.size = b at *
  have hm16 : ((n % 16 : Nat) : Int) < 16 := by omega
  have hm0 : (0 : Int) ≤ ((n % 16 : Nat) : Int) := by omega
  have o0 := HG.out.row.owner hm
  have f0 := Blk.free HG.out.row (49 + n % 16)
  have HG4 := Lib.hid (HG.out.cell (HG.out.row.putO hm 16))
  have HM := Lib.hid hm
  clear hm
  generalize n % 16 = k at *
  go_upto_region 3 with fail
  have HG5 := HG4
  clear HG4 HG o0 f0 hm16 hm0
  generalize w3.setCell _ _ = w5 at *
  have hrow := HG5.out.row
  go_upto_region 4 with (refine wpList_store_mid (new := #[.int .u16 0, .int .u16 (n : Int)]) rfl rfl _ _ _ rfl rfl rfl hrow (by show 1 + 0 * 2 + 2 ≤ (polC _).size; rw [polC_size]; decide) (by simp [Value.oneCell']) infoLb ?_; intro w6 hw6)
  have HG6 := Lib.hid (HG5.out.put (r := numP n) (by
    have h := hrow.putLab (a := 0) (s := 0) (by decide) hw6
    rw [HN.out] at h
    exact h))
  clear hw6 hrow HG5
  have hrow := HG6.out.row
  have hres := HG6.out.res
  go_wp2_with (first
    | (refine wpList_load_arr rfl _ _ rfl rfl hrow Try.underlying34 rfl (infoPol _) ?_)
    | (refine wpList_store_arr rfl rfl _ _ _ rfl rfl rfl hres (infoPol _) (by rw [polC_size, polC_size]) (polC_one _) ?_; intro w7 hw7))
  exact bodyPost_ret (v := .agg (polC (numP n))) (results_arr rfl rfl hw7.blk Try.underlying34 rfl (infoPol _)) rfl ⟨rfl, HG6.out.below.trans (hw7.below HG6.out.below.size (Nat.le_refl _))⟩
/-- The document's store, in a block of the call's own. -/
structure LiW (w : World) (ep g off n cap : Nat) (V : World) : Prop where
  below : Below w.heap.size w V
  st : Blk V w.heap.size #[.int .i64 (ep : Int), .slice (some ⟨g, off, none⟩) n cap] 38
theorem LiW.step {w : World} {ep g off n cap : Nat} {V V' : World} (h : LiW w ep g off n cap V) (hB : Below V.heap.size V V') : LiW w ep g off n cap V' := ⟨h.below.trans (hB.mono h.below.size), h.st.below hB h.st.lt⟩
theorem LiW.c0 {w : World} {ep g off n cap : Nat} {V : World} (h : LiW w ep g off n cap V) : V.cell? ⟨w.heap.size, 0, none⟩ = some (.int .i64 (ep : Int)) := h.st.cell 0
theorem LiW.c1 {w : World} {ep g off n cap : Nat} {V : World} (h : LiW w ep g off n cap V) : V.cell? ⟨w.heap.size, 1, none⟩ = some (.slice (some ⟨g, off, none⟩) n cap) := h.st.cell 1
set_option maxRecDepth 100000 in
set_option maxHeartbeats 1600000 in
theorem rvList_any (ep : Nat) (v : Value) (all : List Pol) (w : World) (h : PolsAt w v all) (hep : ep ≤ 255) (hk : keptN ep ≤ all.length) :
    Calls Try.prog 17 #[.agg #[.int .i64 (ep : Int), v]] w fun x w' => ∃ u, x = .returned u ∧ PolsAt w' u (lastK all ep) ∧ Below w.heap.size w w' := by
  have hpos := keptN_pos hep
  obtain ⟨g, off, cap, rfl, hc1, hc2, hlt⟩ := h.shape (fun e => by rw [e] at hk; simp at hk; omega)
  have HH := Lib.hid h
  have HLk := Lib.hid (show lastK all ep = all.drop (all.length - keptN ep) from rfl)
  have HK := Lib.hid (fun V => rvKept_any (ep : Int) V (by omega) (by omega))
  have HG := Lib.hid (show LiW w ep g off all.length cap (w.alloc (.cells #[.int .i64 (ep : Int), .slice (some ⟨g, off, none⟩) all.length cap] 38)) from ⟨belowNew w _, Blk.new w _ _⟩)
  have HCp := Lib.hid (And.intro hc1 (And.intro hc2 hpos))
  obtain ⟨d, hd⟩ : ∃ d, d = all.length - keptN ep := ⟨_, rfl⟩
  rw [← hd] at HLk
  have HN := Lib.hid (show d < all.length ∧ d ≤ all.length by omega)
  have HD := Lib.hid (show IntKind.i64.wrap ((all.length : Int) - (keptN ep : Int)) = (d : Int) by rw [IntKind.wrap_i64]; omega)
  clear h hep hk hpos hc1 hc2 hlt hd
  generalize keptN (ep : Int) = kp at *
  go_enter Try.func17, Try.ntmps17
  go_upto_region 1 with fail
  generalize w.alloc _ = w1 at *
  generalize all.length = n at *
  refine wp_region_S (fun _ V => LiW w ep g off n cap V) 0 [.val (.pointer (some ⟨w.heap.size, 1, none⟩)), .val (.slice (some ⟨g, off, none⟩) n cap), .val (.pointer (some ⟨w.heap.size, 1, none⟩)), .val (.slice (some ⟨g, off, none⟩) n cap), .val (.int .i64 (n : Int)), .val (.pointer (some ⟨w.heap.size, 0, none⟩)), .val (.int .i64 (ep : Int)), .val (.int .i64 (kp : Int)), .val (.int .i64 (d : Int)), .val (sliced (some ⟨g, off, none⟩) d n cap 66), .val (sliced (some ⟨g, off, none⟩) d n cap 66)]
    (fun x => { tmps := #[.agg #[.int .i64 (ep : Int), .slice (some ⟨g, off, none⟩) n cap], .pointer (some ⟨w.heap.size, 0, none⟩), x 10, x 0, x 1, x 2, x 3, x 4, x 5, x 6, x 7, x 8, x 9], defers := [] }) (fun i => ([undef, undef, undef, undef, undef, undef, undef, undef, undef, undef, .slice none 0 0] : List Value).getD i undef) (by kernel_rfl) rfl rfl (by kernel_rfl) (by kernel_rfl) (by kernel_rfl) (by kernel_rfl) (HG.out.step (Below.refl _ _).drew) ?_ ?_
  · refine ⟨ObS.of_val rfl (fun x v => rfl) (fun x V kst hC hD => ?_), ?_⟩
    · clear hD
      refine want_yes rfl ?_
      exact leads_value (v := .pointer (some ⟨w.heap.size, 1, none⟩)) (by go_simp) ⟨rfl, hC⟩
    refine ⟨ObS.of_val rfl (fun x v => rfl) (fun x V kst hC hD => ?_), ?_⟩
    · have e0 : x 0 = .pointer (some ⟨w.heap.size, 1, none⟩) := hD.1 rfl
      clear hD
      refine want_yes rfl ?_
      have k1 := hC.c1
      exact leads_value (v := .slice (some ⟨g, off, none⟩) n cap) (by go_simp) ⟨rfl, hC⟩
    refine ⟨ObS.of_val rfl (fun x v => rfl) (fun x V kst hC hD => ?_), ?_⟩
    · clear hD
      refine want_yes rfl ?_
      exact leads_value (v := .pointer (some ⟨w.heap.size, 1, none⟩)) (by go_simp) ⟨rfl, hC⟩
    refine ⟨ObS.of_val rfl (fun x v => rfl) (fun x V kst hC hD => ?_), ?_⟩
    · have e2 : x 2 = .pointer (some ⟨w.heap.size, 1, none⟩) := hD.1 rfl
      clear hD
      refine want_yes rfl ?_
      have k1 := hC.c1
      exact leads_value (v := .slice (some ⟨g, off, none⟩) n cap) (by go_simp) ⟨rfl, hC⟩
    refine ⟨ObS.of_val rfl (fun x v => rfl) (fun x V kst hC hD => ?_), ?_⟩
    · have e3 : x 3 = .slice (some ⟨g, off, none⟩) n cap := hD.1 rfl
      clear hD
      refine want_yes rfl ?_
      exact leads_value (v := .int .i64 (n : Int)) (by go_simp) ⟨rfl, hC⟩
    refine ⟨ObS.of_val rfl (fun x v => rfl) (fun x V kst hC hD => ?_), ?_⟩
    · clear hD
      refine want_yes rfl ?_
      exact leads_value (v := .pointer (some ⟨w.heap.size, 0, none⟩)) (by go_simp) ⟨rfl, hC⟩
    refine ⟨ObS.of_val rfl (fun x v => rfl) (fun x V kst hC hD => ?_), ?_⟩
    · have e5 : x 5 = .pointer (some ⟨w.heap.size, 0, none⟩) := hD.1 rfl
      clear hD
      refine want_yes rfl ?_
      have k0 := hC.c0
      exact leads_value (v := .int .i64 (ep : Int)) (by go_simp) ⟨rfl, hC⟩
    refine ⟨ObS.of_val rfl (fun x v => rfl) (fun x V kst hC hD => ?_), ?_⟩
    · have e6 : x 6 = .int .i64 (ep : Int) := hD.1 rfl
      clear hD
      refine want_yes rfl ?_
      exact leads_enter2 (by go_simp) ((HK.out V).mono fun e w'' ⟨he, hw⟩ => ⟨_, he, rfl, hw ▸ hC⟩)
    refine ⟨ObS.of_val rfl (fun x v => rfl) (fun x V kst hC hD => ?_), ?_⟩
    · have e4 : x 4 = .int .i64 (n : Int) := hD.1 rfl
      have e7 : x 7 = .int .i64 (kp : Int) := hD.2.1 rfl
      clear hD
      refine want_yes rfl ?_
      have hd := HD.out
      exact leads_value (v := .int .i64 (d : Int)) (by go_simp) ⟨rfl, hC⟩
    refine ⟨ObS.of_val rfl (fun x v => rfl) (fun x V kst hC hD => ?_), ?_⟩
    · have e1 : x 1 = .slice (some ⟨g, off, none⟩) n cap := hD.1 rfl
      have e8 : x 8 = .int .i64 (d : Int) := hD.2.1 rfl
      clear hD
      refine want_yes rfl ?_
      have h0 : (0 : Int) ≤ (d : Int) := by omega
      have h1 : (d : Int) ≤ (n : Int) := by have := HN.out; omega
      exact leads_value (v := sliced (some ⟨g, off, none⟩) d n cap 66) (by go_simp) ⟨rfl, hC⟩
    refine ⟨ObS.of_val rfl (fun x v => rfl) (fun x V kst hC hD => ?_), ?_⟩
    · have e9 : x 9 = sliced (some ⟨g, off, none⟩) d n cap 66 := hD.1 rfl
      clear hD
      refine want_yes rfl ?_
      exact leads_value (v := sliced (some ⟨g, off, none⟩) d n cap 66) (by go_simp) ⟨rfl, hC⟩
    trivial
  · intro xa V hC hx
    have e10 : xa 10 = sliced (some ⟨g, off, none⟩) d n cap 66 := hx 10 (by simp)
    have HV := Lib.hid (show LiW w ep g off n cap V from hC)
    clear hx hC HG HK HD
    rw [e10]
    clear e10
    have HS : Hid (sliced (some ⟨g, off, none⟩) d n cap 66 = .slice (some ⟨g, off + d * 66, none⟩) (n - d) (cap - d)) := Lib.hid (by
      unfold sliced
      rw [if_neg (by have := HN.out; have := HCp.out; omega)]
      simp only [Option.map_some]
      have hadd : (⟨g, off, none⟩ : Addr).add (d * 66) = ⟨g, off + d * 66, none⟩ := by unfold Addr.add; split <;> simp_all
      rw [hadd])
    rw [HS.out]
    go_wp2_with fail
    go_ret
    exact ⟨_, rfl, by rw [HLk.out]; exact (HH.out.below HV.out.below (Nat.le_refl _)).drop, HV.out.below⟩
set_option maxRecDepth 100000 in
set_option maxHeartbeats 1600000 in
theorem rvSame_any (v1 v2 : Value) (l : List Pol) (w : World) (h1 : PolsAt w v1 l) (h2 : PolsAt w v2 l) :
    Calls Try.prog 15 #[v1, v2] w fun x w' => x = .returned (.bool true) ∧ Below w.heap.size w w' := by
  have HOks := Lib.hid h1.oks
  have H1 := Lib.hid h1
  have H2 := Lib.hid h2
  obtain ⟨p1, cap, rfl, ⟨ha, hb⟩, -⟩ := h1
  obtain ⟨p2, cap2, rfl, ⟨hc, hd⟩, -⟩ := h2
  have hll : l.length ≤ 9223372036854775807 := by omega
  clear ha hb hc hd
  go_enter Try.func15, Try.ntmps15
  go_wp2_with fail
  go_loopw [5] (fun i wr => ∃ k : Nat, k ≤ l.length ∧ i = .int .i64 (k : Int) ∧ Below w.heap.size w wr) (fun i _ => l.length - (intOf i).toNat)
  case atStart => exact ⟨0, by omega, rfl, Below.refl _ _⟩
  case round =>
    obtain ⟨k, hk, rfl, hB⟩ := hrel
    have HB := Lib.hid hB
    clear hB
    by_cases hlt : k < l.length
    · have dk : decide ((k : Int) < (l.length : Int)) = true := by simp; omega
      have dk2 : decide (k < l.length) = true := by simpa using hlt
      obtain ⟨g, off, c1, e1, -, -, hl1⟩ := H1.out.shape (fun e => by rw [e] at hlt; cases hlt)
      cases e1
      obtain ⟨g2, off2, c2, e2, -, -, hl2⟩ := H2.out.shape (fun e => by rw [e] at hlt; cases hlt)
      cases e2
      have HKl := Lib.hid hlt
      have HC1 := Lib.hid (H1.out.elem hlt).2
      have HC2 := Lib.hid (H2.out.elem hlt).2
      have HL1 := Lib.hid hl1
      have HL2 := Lib.hid hl2
      have HOk := Lib.hid (HOks.out l[k] (List.getElem_mem hlt))
      generalize l[k] = p at *
      clear hl1 hl2 hlt
      go_upto_region 6 with fail
      refine wp_region_S (fun _ V => Below w.heap.size w V) 0 [.val (.slice (some ⟨g, off, none⟩) l.length cap), .val (.int .i64 (k : Int)), .val (.pointer (some ⟨g, off + k * 66, none⟩)), .val (.agg (polC p)), .val (.slice (some ⟨g2, off2, none⟩) l.length cap2), .val (.int .i64 (k : Int)), .val (.pointer (some ⟨g2, off2 + k * 66, none⟩)), .val (.agg (polC p)), .val (.bool false)]
        (fun x => { tmps := #[.slice (some ⟨g, off, none⟩) l.length cap, .slice (some ⟨g2, off2, none⟩) l.length cap2, undef, undef, u4, .int .i64 (k : Int), .slice (some ⟨g, off, none⟩) l.length cap, .int .i64 (l.length : Int), .slice (some ⟨g2, off2, none⟩) l.length cap2, .int .i64 (l.length : Int), .bool false, .int .i64 (k : Int), .slice (some ⟨g, off, none⟩) l.length cap, .int .i64 (l.length : Int), .bool true, u15, u16, x 0, x 1, x 2, x 3, x 4, x 5, x 6, x 7, x 8], defers := [] }) (fun i => ([u17, u18, u19, u20, u21, u22, u23, u24, u25] : List Value).getD i undef) (by kernel_rfl) rfl rfl (by kernel_rfl) (by kernel_rfl) (by kernel_rfl) (by kernel_rfl) (HB.out.drew) ?_ ?_
      · refine ⟨ObS.of_val rfl (fun x v => rfl) (fun x V kst hC hD => ?_), ?_⟩
        · clear hD
          refine want_yes rfl ?_
          exact leads_value (v := .slice (some ⟨g, off, none⟩) l.length cap) (by go_simp) ⟨rfl, hC⟩
        refine ⟨ObS.of_val rfl (fun x v => rfl) (fun x V kst hC hD => ?_), ?_⟩
        · clear hD
          refine want_yes rfl ?_
          exact leads_value (v := .int .i64 (k : Int)) (by go_simp) ⟨rfl, hC⟩
        refine ⟨ObS.of_val rfl (fun x v => rfl) (fun x V kst hC hD => ?_), ?_⟩
        · have e0 : x 0 = .slice (some ⟨g, off, none⟩) l.length cap := hD.1 rfl
          have e1 : x 1 = .int .i64 (k : Int) := hD.2.1 rfl
          clear hD
          refine want_yes rfl ?_
          have h0 : (0 : Int) ≤ (k : Int) := by omega
          have h1 : (k : Int) < (l.length : Int) := by have := HKl.out; omega
          exact leads_value (v := .pointer (some ⟨g, off + k * 66, none⟩)) (by go_simp) ⟨rfl, hC⟩
        refine ⟨ObS.of_val rfl (fun x v => rfl) (fun x V kst hC hD => ?_), ?_⟩
        · have e2 : x 2 = .pointer (some ⟨g, off + k * 66, none⟩) := hD.1 rfl
          clear hD
          refine want_yes rfl ?_
          exact leads_value (exec_load_cells rfl e2 (HC1.out.below hC HL1.out) Try.underlying34 rfl (infoPol _)) ⟨rfl, hC⟩
        refine ⟨ObS.of_val rfl (fun x v => rfl) (fun x V kst hC hD => ?_), ?_⟩
        · clear hD
          refine want_yes rfl ?_
          exact leads_value (v := .slice (some ⟨g2, off2, none⟩) l.length cap2) (by go_simp) ⟨rfl, hC⟩
        refine ⟨ObS.of_val rfl (fun x v => rfl) (fun x V kst hC hD => ?_), ?_⟩
        · clear hD
          refine want_yes rfl ?_
          exact leads_value (v := .int .i64 (k : Int)) (by go_simp) ⟨rfl, hC⟩
        refine ⟨ObS.of_val rfl (fun x v => rfl) (fun x V kst hC hD => ?_), ?_⟩
        · have e4 : x 4 = .slice (some ⟨g2, off2, none⟩) l.length cap2 := hD.1 rfl
          have e5 : x 5 = .int .i64 (k : Int) := hD.2.1 rfl
          clear hD
          refine want_yes rfl ?_
          have h0 : (0 : Int) ≤ (k : Int) := by omega
          have h1 : (k : Int) < (l.length : Int) := by have := HKl.out; omega
          exact leads_value (v := .pointer (some ⟨g2, off2 + k * 66, none⟩)) (by go_simp) ⟨rfl, hC⟩
        refine ⟨ObS.of_val rfl (fun x v => rfl) (fun x V kst hC hD => ?_), ?_⟩
        · have e6 : x 6 = .pointer (some ⟨g2, off2 + k * 66, none⟩) := hD.1 rfl
          clear hD
          refine want_yes rfl ?_
          exact leads_value (exec_load_cells rfl e6 (HC2.out.below hC HL2.out) Try.underlying34 rfl (infoPol _)) ⟨rfl, hC⟩
        refine ⟨ObS.of_val rfl (fun x v => rfl) (fun x V kst hC hD => ?_), ?_⟩
        · have e3 : x 3 = .agg (polC p) := hD.1 rfl
          have e7 : x 7 = .agg (polC p) := hD.2.1 rfl
          clear hD
          refine want_yes rfl ?_
          exact leads_value (exec_neq_pol HOk.out rfl e3 e7) ⟨rfl, hC⟩
        trivial
      · intro xa V hC hx
        have e8 : xa 8 = .bool false := hx 8 (by simp)
        have HV := Lib.hid (show Below w.heap.size w V from hC)
        clear hx hC HB
        rw [e8]
        clear e8
        generalize xa 0 = z0
        generalize xa 1 = z1
        generalize xa 2 = z2
        generalize xa 3 = z3
        generalize xa 4 = z4
        generalize xa 5 = z5
        generalize xa 6 = z6
        generalize xa 7 = z7
        have hw : IntKind.i64.wrap ((k : Int) + 1) = (k : Int) + 1 := by have := HKl.out; rw [IntKind.wrap_i64]; omega
        go_wp2_with fail
        go_roundw
        case rel => first | exact ⟨k + 1, by have := HKl.out; omega, by go_num, HV.out⟩ | ((repeat apply Exists.intro); exact ⟨⟨k + 1, by have := HKl.out; omega, by go_num, HV.out⟩, rfl⟩)
        case measure => have := HKl.out; simp [intOf]; omega
    · have dk : decide ((k : Int) < (l.length : Int)) = false := by simp; omega
      go_wp2_with fail
      go_ret
      exact ⟨rfl, HB.out⟩
end Go.Proofs.Ytimbhamdblganaa

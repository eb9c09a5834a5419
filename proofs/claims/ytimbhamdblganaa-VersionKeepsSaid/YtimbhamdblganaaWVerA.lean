/-
  The document's stores: At, Commit.
-/
import Derived.Test.YtimbhamdblganaaWVerR
/-! VerA -/
namespace Go.Proofs.Ytimbhamdblganaa
open Go.RowKit

/-- The document's store, and the place for the answer. -/
structure AtW (w : World) (ep g off n cap : Nat) (V : World) : Prop where
  li : LiW w ep g off n cap V
  res : PRow V (w.heap.size + 1) zeroP
theorem AtW.new (w : World) (ep g off n cap : Nat) : AtW w ep g off n cap ((w.alloc (.cells #[.int .i64 (ep : Int), .slice (some ⟨g, off, none⟩) n cap] 38)).alloc (.cells (polC zeroP) 34)) := by
  have h := PRow.new (w.alloc (.cells #[.int .i64 (ep : Int), .slice (some ⟨g, off, none⟩) n cap] 38)) zeroP
  simp only [World.size_alloc] at h
  exact ⟨⟨(belowNew w _).alloc (by simp) _, (Blk.new w _ _).alloc _⟩, h⟩
theorem AtW.out {w : World} {ep g off n cap : Nat} {V V' : World} {cs : Array Value} {t : TypeId} (h : AtW w ep g off n cap V) (hp : Put V V' (w.heap.size + 1) cs t) : Below w.heap.size w V' := h.li.below.trans (hp.below h.li.below.size (by omega))
set_option maxRecDepth 100000 in
set_option maxHeartbeats 1600000 in
theorem rvAt_any (ep : Nat) (v : Value) (all : List Pol) (e : Int) (w : World) (h : PolsAt w v all) (hep : ep ≤ 255) (hk : keptN ep ≤ all.length) (hl : all.length ≤ 1000000) (h1 : -9223372036854775808 ≤ e) (h2 : e ≤ 9223372036854775807) :
    Calls Try.prog 14 #[.agg #[.int .i64 (ep : Int), v], .int .i64 e] w fun x w' => x = .returned (.tuple #[.agg (polC (atP ⟨ep, lastK all ep⟩ e)), .int .i64 (atE ⟨ep, lastK all ep⟩ e)]) ∧ Below w.heap.size w w' := by
  have hpos := keptN_pos hep
  have hkn := keptN_nat hep
  have HPq := Lib.hid (atP_hist (all := all) (e := e) hep hk)
  have HE := Lib.hid (show atE ⟨ep, lastK all ep⟩ e = if e < 0 ∨ (ep : Int) < e then 8 else if e + 8 ≤ (ep : Int) then 6 else 0 from rfl)
  obtain ⟨g, off, cap, rfl, hc1, hc2, hlt⟩ := h.shape (fun e => by rw [e] at hk; simp at hk; omega)
  have HH := Lib.hid h
  have HG := Lib.hid (AtW.new w ep g off all.length cap)
  have HL := Lib.hid hlt
  generalize atE ⟨ep, lastK all ep⟩ e = ae at *
  generalize atP ⟨ep, lastK all ep⟩ e = ap at *
  clear h hc1 hc2 hlt
  go_enter Try.func14, Try.ntmps14
  go_upto_region 1 with fail
  generalize (w.alloc _).alloc _ = w1 at *
  have k0 := HG.out.li.c0
  have k1 := HG.out.li.c1
  have hz := HG.out.res
  by_cases hn : e < 0
  · have d := decide_eq_true hn
    have HA := Lib.hid (show ae = 8 from HE.out.trans (if_pos (.inl hn)))
    have HQ := Lib.hid (show ap = zeroP from HPq.out.trans (if_neg (by rw [HA.out]; decide)))
    clear hn
    go_wp2_with fail
    simp only [store_pol hz rfl, Result.andThen_ok]
    have hw9 := put_pol (q := zeroP) hz
    generalize World.setRow _ _ _ = w9 at *
    go_wp2_with fail
    exact bodyPost_ret (v := .tuple #[.agg (polC zeroP), .int .i64 8]) (results_pol2 rfl rfl rfl hw9.blk) rfl ⟨by rw [HA.out, HQ.out], HG.out.out hw9⟩
  have d := decide_eq_false hn
  by_cases hm : (ep : Int) < e
  · have d2 := decide_eq_true hm
    have HA := Lib.hid (show ae = 8 from HE.out.trans (if_pos (.inr hm)))
    have HQ := Lib.hid (show ap = zeroP from HPq.out.trans (if_neg (by rw [HA.out]; decide)))
    clear hn hm
    go_wp2_with fail
    simp only [store_pol hz rfl, Result.andThen_ok]
    have hw9 := put_pol (q := zeroP) hz
    generalize World.setRow _ _ _ = w9 at *
    go_wp2_with fail
    exact bodyPost_ret (v := .tuple #[.agg (polC zeroP), .int .i64 8]) (results_pol2 rfl rfl rfl hw9.blk) rfl ⟨by rw [HA.out, HQ.out], HG.out.out hw9⟩
  have d2 := decide_eq_false hm
  have hs : IntKind.i64.wrap ((ep : Int) - 8) = (ep : Int) - 8 := by rw [IntKind.wrap_i64]; omega
  have hnm : ¬ (e < 0 ∨ (ep : Int) < e) := by omega
  by_cases h8 : e + 8 ≤ (ep : Int)
  · have d3 : decide (e ≤ (ep : Int) - 8) = true := by simp; omega
    have HA := Lib.hid (show ae = 6 from (HE.out.trans (if_neg hnm)).trans (if_pos h8))
    have HQ := Lib.hid (show ap = zeroP from HPq.out.trans (if_neg (by rw [HA.out]; decide)))
    clear hn hm h8 hnm
    go_wp2_with fail
    simp only [store_pol hz rfl, Result.andThen_ok]
    have hw9 := put_pol (q := zeroP) hz
    generalize World.setRow _ _ _ = w9 at *
    go_wp2_with fail
    exact bodyPost_ret (v := .tuple #[.agg (polC zeroP), .int .i64 6]) (results_pol2 rfl rfl rfl hw9.blk) rfl ⟨by rw [HA.out, HQ.out], HG.out.out hw9⟩
  have d3 : decide (e ≤ (ep : Int) - 8) = false := by simp; omega
  have HA := Lib.hid (show ae = 0 from (HE.out.trans (if_neg hnm)).trans (if_neg h8))
  obtain ⟨i, hi⟩ : ∃ i, i = all.length - 1 - (ep - e.toNat) := ⟨_, rfl⟩
  have hil : i < all.length := by omega
  have q1 : IntKind.i64.wrap ((all.length : Int) - 1) = (all.length : Int) - 1 := by rw [IntKind.wrap_i64]; omega
  have q2 : IntKind.i64.wrap ((all.length : Int) - 1 - (ep : Int)) = (all.length : Int) - 1 - (ep : Int) := by rw [IntKind.wrap_i64]; omega
  have q3 : IntKind.i64.wrap ((all.length : Int) - 1 - (ep : Int) + e) = (i : Int) := by rw [IntKind.wrap_i64]; omega
  have hi0 : (0 : Int) ≤ (i : Int) := by omega
  have hi1 : (i : Int) < (all.length : Int) := by omega
  have HC := Lib.hid ((HH.out.elem hil).2.below HG.out.li.below HL.out)
  have HQ := Lib.hid (show ap = all[i] from (HPq.out.trans (if_pos HA.out)).trans (by rw [← hi, List.getD_eq_getElem?_getD, List.getElem?_eq_getElem hil]; rfl))
  clear HPq
  clear hn hm h8 hnm hi hpos hkn hk hep
  generalize all[i] = p at *
  generalize all.length = n at *
  go_wp2_with (first
    | (refine wpList_load_cells rfl _ _ rfl rfl HC.out Try.underlying34 rfl (infoPol _) ?_)
    | (refine wpList_store_arr rfl rfl _ _ _ rfl rfl rfl hz (infoPol _) (by rw [polC_size, polC_size]) (polC_one _) ?_; intro w9 hw9))
  exact bodyPost_ret (v := .tuple #[.agg (polC p), .int .i64 0]) (results_pol2 rfl rfl rfl hw9.blk) rfl ⟨by rw [HA.out, HQ.out], HG.out.out hw9⟩
theorem infoPl : (Try.prog.info? 34).map (fun i => (i.zero, i.size, i.bytes)) = some (some (.agg (polC zeroP)), 66, 116) := by kernel_rfl
theorem infoRS : (Try.prog.info? 38).map (·.size) = some 2 := by kernel_rfl
theorem results_rs2 {fn : Func} {p q : Tmp} (h : fn.results = #[.cell p 38, .tmp q]) {tmps : Array Value} {w : World} {b : Nat} {x y v : Value} (hp : tmps.getD p undef = .pointer (some ⟨b, 0, none⟩)) (hq : tmps.getD q undef = v) (hr : Blk w b #[x, y] 38) :
    (results fn tmps).run Try.prog w = .ok (.tuple #[.agg #[x, y], v]) w := by
  have hp' : tmps[p]?.getD undef = .pointer (some ⟨b, 0, none⟩) := by simpa using hp
  have hq' : tmps[q]?.getD undef = v := by simpa using hq
  simp [results, h, hp', hq', asAddr, run_loadVar_row w b _ 38 #[x, y] _ _ hr Try.underlying38 rfl infoRS]
/-- An empty row of the call's own. -/
theorem own_empty {w : World} {base e k b : Nat} (h : Blk w b #[] e) (hb : base ≤ b) : w.ownsRow base e k (.slice (some ⟨b, 0, none⟩) 0 0) 0 [] :=
  ⟨by simp, .inr ⟨b, 0, #[], rfl, hb, h, Nat.le_refl _, Nat.zero_le _, by simp, by simp⟩⟩
/-- The document's store, the policy, the place for the answer. -/
structure CoW (w : World) (x y : Value) (p : Pol) (V : World) : Prop where
  below : Below w.heap.size w V
  st : Blk V w.heap.size #[x, y] 38
  row : PRow V (w.heap.size + 1) p
  res : Blk V (w.heap.size + 1 + 1) #[.int .i64 0, .slice none 0 0] 38
section
variable {w : World} {x y x' y' : Value} {p : Pol} {V V' : World}
theorem CoW.step (h : CoW w x y p V) (hB : Below V.heap.size V V') : CoW w x y p V' := ⟨h.below.trans (hB.mono h.below.size), h.st.below hB h.st.lt, h.row.step hB, h.res.below hB h.res.lt⟩
theorem CoW.new (w : World) (x y : Value) (p : Pol) : CoW w x y p (((w.alloc (.cells #[x, y] 38)).alloc (.cells (polC p) 34)).alloc (.cells #[.int .i64 0, .slice none 0 0] 38)) := by
  have h1 := PRow.new (w.alloc (.cells #[x, y] 38)) p
  have h2 := Blk.new ((w.alloc (.cells #[x, y] 38)).alloc (.cells (polC p) 34)) #[.int .i64 0, .slice none 0 0] 38
  simp only [World.size_alloc] at h1 h2
  exact ⟨((belowNew w _).alloc (by simp) _).alloc (by simp; omega) _, ((Blk.new w _ _).alloc _).alloc _, h1.alloc _, h2⟩
theorem CoW.chg {S : Nat → Prop} (h : CoW w x y p V) (hc : Chg S V V') (hS : ∀ k, S k → w.heap.size + 1 + 1 < k) : CoW w x y p V' :=
  ⟨h.below.trans (hc.below h.below.size fun k hk => by have := hS k hk; omega), hc.kept h.st (fun hk => by have := hS _ hk; omega), hc.kept h.row (fun hk => by have := hS _ hk; omega), hc.kept h.res (fun hk => by have := hS _ hk; omega)⟩
theorem CoW.set (h : CoW w x y p V) (hp : Put V V' w.heap.size #[x', y'] 38) : CoW w x' y' p V' :=
  ⟨h.below.trans (hp.below h.below.size (Nat.le_refl _)), hp.blk, hp.chg.kept h.row (by show ¬ w.heap.size + 1 = w.heap.size; omega), hp.chg.kept h.res (by show ¬ w.heap.size + 1 + 1 = w.heap.size; omega)⟩
theorem CoW.cell (h : CoW w x y p V) {k : Nat} {u : Value} (hr : Blk (V.setCell ⟨w.heap.size, k, none⟩ u) w.heap.size #[x', y'] 38) : CoW w x' y' p (V.setCell ⟨w.heap.size, k, none⟩ u) :=
  h.set ⟨(Chg.refl (fun j => j = w.heap.size) V).setCell (p := ⟨w.heap.size, k, none⟩) (fun _ => rfl) u, hr⟩
theorem CoW.c0 (h : CoW w x y p V) : V.cell? ⟨w.heap.size, 0, none⟩ = some x := h.st.cell 0
theorem CoW.c1 (h : CoW w x y p V) : V.cell? ⟨w.heap.size, 1, none⟩ = some y := h.st.cell 1
theorem CoW.lt (h : CoW w x y p V) : w.heap.size + 1 + 1 < V.heap.size := h.res.lt
end
set_option maxRecDepth 100000 in
set_option maxHeartbeats 1600000 in
theorem rvCommit_full (v : Value) (all : List Pol) (p : Pol) (w : World) (h : PolsAt w v all) (hn : all ≠ []) :
    Calls Try.prog 10 #[.agg #[.int .i64 255, v], .agg (polC p)] w fun x w' => x = .returned (.tuple #[.agg #[.int .i64 255, v], .int .i64 15]) ∧ Below w.heap.size w w' := by
  obtain ⟨g, off, cap, rfl, hc1, hc2, hlt⟩ := h.shape hn
  have HG := Lib.hid (CoW.new w (.int .i64 255) (.slice (some ⟨g, off, none⟩) all.length cap) p)
  clear h hn hc1 hc2 hlt
  go_enter Try.func10, Try.ntmps10
  go_upto_region 1 with fail
  generalize ((w.alloc _).alloc _).alloc _ = w1 at *
  have k0 := HG.out.c0
  have hst := HG.out.st
  have hres := HG.out.res
  go_wp2_with (first
    | (refine wpList_load_arr rfl _ _ rfl rfl hst Try.underlying38 rfl infoRS ?_)
    | (refine wpList_store_arr rfl rfl _ _ _ rfl rfl rfl hres infoRS rfl (by simp [Value.oneCell']) ?_; intro w9 hw9))
  have hB := HG.out.below.trans (hw9.below HG.out.below.size (by omega))
  exact bodyPost_ret (v := .tuple #[.agg #[.int .i64 255, .slice (some ⟨g, off, none⟩) all.length cap], .int .i64 15]) (results_rs2 rfl rfl rfl hw9.blk) rfl ⟨rfl, hB⟩
set_option maxRecDepth 100000 in
set_option maxHeartbeats 1600000 in
theorem rvCommit_next (ep : Nat) (v : Value) (all : List Pol) (p : Pol) (w : World) (h : PolsAt w v all) (hep : ep < 255) (hn : all ≠ []) (hl : all.length ≤ 1000) (hp : PolOk p) :
    Calls Try.prog 10 #[.agg #[.int .i64 (ep : Int), v], .agg (polC p)] w fun x w' => ∃ u, x = .returned (.tuple #[.agg #[.int .i64 ((ep + 1 : Nat) : Int), u], .int .i64 0]) ∧ PolsAt w' u (all ++ [p]) ∧ (∀ a n c, u = .slice (some a) n c → w.heap.size ≤ a.block) ∧ Below w.heap.size w w' := by
  obtain ⟨g, off, cap, rfl, hc1, hc2, hlt⟩ := h.shape hn
  have HH := Lib.hid h
  have HL := Lib.hid (And.intro hlt (And.intro hl hp))
  have HOks := Lib.hid h.oks
  have HG := Lib.hid (CoW.new w (.int .i64 (ep : Int)) (.slice (some ⟨g, off, none⟩) all.length cap) p)
  obtain ⟨i0, hi, hx⟩ := Option.map_eq_some_iff.1 infoPl
  simp only [Prod.mk.injEq] at hx
  obtain ⟨hz0, hz1, hz2⟩ := hx
  have HI := Lib.hid (And.intro hi (And.intro hz0 (And.intro hz1 hz2)))
  have d : ((ep : Int) == 255) = false := by rw [beq_eq_false_iff_ne]; omega
  have d2 : (ep == 255) = false := by rw [beq_eq_false_iff_ne]; omega
  have hw : IntKind.i64.wrap ((ep : Int) + 1) = (ep : Int) + 1 := by rw [IntKind.wrap_i64]; omega
  clear h hn hl hp hc1 hc2 hlt hi hz0 hz1 hz2 hep
  go_enter Try.func10, Try.ntmps10
  go_upto_region 1 with fail
  generalize ((w.alloc _).alloc _).alloc _ = w1 at *
  have k0 := HG.out.c0
  have f0 := Blk.free HG.out.st 0
  have HG2 := Lib.hid (HG.out.cell (k := 0) (u := .int .i64 ((ep : Int) + 1)) (Blk.set HG.out.st 0 _))
  go_upto_region 4 with fail
  clear d d2 hw f0 k0 HG
  generalize w1.setCell _ _ = w2 at *
  have HG3 := Lib.hid (HG2.out.step (belowNew w2 (.cells #[] 34)))
  have HO := Lib.hid (own_empty (base := w.heap.size + 1 + 1 + 1) (k := 66) (Blk.new w2 #[] 34) (by have := HG2.out.lt; omega))
  have k1 := HG3.out.c1
  have HNw := Lib.hid (SlAt.news polC_size (by decide) (HH.out.below HG3.out.below (Nat.le_refl _)))
  go_upto_region 5 with (at_builtin; refine wpList_append_own_at _ rfl _ _ 36 rfl (w.heap.size + 1 + 1 + 1) 34 i0 _ 66 116 Try.underlying36 HI.out.1 HI.out.2.1 HI.out.2.2.1 HI.out.2.2.2 (polC_size zeroP) (by decide) (.slice (some ⟨w2.heap.size, 0, none⟩) 0 0) 0 [] rfl HO.out ⟨g, off, none⟩ all.length cap (flatC polC all) rfl (flatC_length polC_size all) HNw.out (flatC_cells polC_one all) (by have := HL.out.2.1; unfold maxLen; omega) (by have := HL.out.2.1; omega) (by have := HG3.out.lt; omega) ?_; intro v4 w4 hr4 hg4 hx1 hx2; have HR4 := Lib.hid hr4; have HG4 := Lib.hid (HG3.out.chg (Chg.ofGrown hg4) (fun k hk => by cases hk; exact HG2.out.lt)); clear hr4 hg4 k1 hx1 hx2)
  rw [Nat.zero_add, List.nil_append] at HR4
  clear HO HNw HG3 HG2
  have hrow := HG4.out.row
  have HG5 := Lib.hid (HG4.out.step (belowNew w4 (.cells (flatC polC [p]).toArray 34)))
  have HR5 := Lib.hid (HR4.out.alloc (.cells (flatC polC [p]).toArray 34))
  have HCn := Lib.hid (cells_madeC w4 (flatC polC [p]).toArray 34)
  go_upto_region 6 with (first
    | (refine wpList_load_arr rfl _ _ rfl rfl hrow Try.underlying34 rfl (infoPol _) ?_)
    | (refine wpList_build_flat polC_size (by decide) rfl _ 34 1 _ rfl Try.underlying36 infoPl [p] (by simp) rfl (by show 1 * 66 ≤ 2 ^ 24; decide) rfl ?_)
    | (at_builtin; refine wpList_append_own_at _ rfl _ _ 36 rfl (w.heap.size + 1 + 1 + 1) 34 i0 _ 66 116 Try.underlying36 HI.out.1 HI.out.2.1 HI.out.2.2.1 HI.out.2.2.2 (polC_size zeroP) (by decide) v4 all.length (flatC polC all) rfl HR5.out ⟨w4.heap.size, 0, none⟩ 1 1 (flatC polC [p]) rfl (flatC_length polC_size [p]) HCn.out (flatC_cells polC_one [p]) (by have := HL.out.2.1; unfold maxLen; omega) (by have := HL.out.2.1; omega) (by have := HG5.out.lt; omega) ?_; intro v5 w5 hr5 hg5 hx1 hx2; have HR6 := Lib.hid (own_snocC (c := p) (by rw [flatC_one] at hr5; exact hr5)); have HG6 := Lib.hid (HG5.out.chg (Chg.ofGrown hg5) (fun k hk => by have := (HR5.out.lt k hk).1; omega)); have hs6 := SlAt.ofRow (ok := PolOk) polC_size HR6.out (fun c hc => by rcases List.mem_append.1 hc with hc | hc; exact HOks.out c hc; rw [List.mem_singleton.1 hc]; exact HL.out.2.2); obtain ⟨g6, off6, cap6, rfl, -, -, hlt6⟩ := hs6.shape (by simp); clear hlt6; generalize (all ++ [p]).length = n6 at *; have HS6 := Lib.hid hs6; clear hs6 hr5 hg5 hx1 hx2; have c6 := HG6.out.c1; have f6 := Blk.free HG6.out.st 1))
  have hp6 := Blk.set HG6.out.st 1 (.slice (some ⟨g6, off6, none⟩) n6 cap6)
  have HG7 := Lib.hid (HG6.out.cell (k := 1) (u := .slice (some ⟨g6, off6, none⟩) n6 cap6) (x' := .int .i64 ((ep : Int) + 1)) (y' := .slice (some ⟨g6, off6, none⟩) n6 cap6) hp6)
  have hch := (Chg.refl (fun j => j = w.heap.size) w5).setCell (p := ⟨w.heap.size, 1, none⟩) (fun _ => rfl) (.slice (some ⟨g6, off6, none⟩) n6 cap6)
  have HS7 := Lib.hid (HS6.out.chg hch (fun a n c e hk => by cases e; have hk : g6 = w.heap.size := hk; have := (HR6.out.lt g6 rfl).1; omega))
  have HN9 := Lib.hid (show g6 ≠ w.heap.size + 1 + 1 ∧ w.heap.size ≤ g6 by have := (HR6.out.lt g6 rfl).1; omega)
  clear hp6 hch hrow c6 f6 HG6 HG5 HG4 HR4 HR5 HR6 HCn
  generalize w5.setCell _ _ = w7 at *
  have hst := HG7.out.st
  have hres := HG7.out.res
  go_wp2_with (first
    | (refine wpList_load_arr rfl _ _ rfl rfl hst Try.underlying38 rfl infoRS ?_)
    | (refine wpList_store_arr rfl rfl _ _ _ rfl rfl rfl hres infoRS rfl (by simp [Value.oneCell']) ?_; intro w9 hw9))
  have hB := HG7.out.below.trans (hw9.below HG7.out.below.size (by omega))
  exact bodyPost_ret (v := .tuple #[.agg #[.int .i64 ((ep : Int) + 1), .slice (some ⟨g6, off6, none⟩) n6 cap6], .int .i64 0]) (results_rs2 rfl rfl rfl hw9.blk) rfl ⟨_, rfl, HS7.out.chg hw9.chg (fun a n c e hk => by cases e; exact HN9.out.1 hk), (fun a n c e => by cases e; exact HN9.out.2), hB⟩
end Go.Proofs.Ytimbhamdblganaa

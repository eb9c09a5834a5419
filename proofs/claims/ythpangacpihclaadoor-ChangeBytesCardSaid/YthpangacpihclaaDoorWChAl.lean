/-
  alive of layer 13, from the program's contracts.
-/
import Derived.Test.YthpangacpihclaaDoorWLawQBytes
import Derived.Test.YthpangacpihclaaDoorWLawQAll
import Derived.Test.YthpangacpihclaaDoorWPolAl
import Derived.Test.YthpangacpihclaaDoorW1
/-! ChAl -/
namespace Go.Proofs.YthpangacpihclaaDoor
open Go.RowKit

def cAdd1 : Cg := ⟨1, 1, 0, 0, 0⟩
def cLnk1 : Cg := ⟨3, 1, 0, 0, 0⟩
def cRev3 : Cg := ⟨6, 3, 4, 0, 0⟩
def cAlL : List Cg := [cAdd1, cLnk1, cRev3]
def cAlP : Pol := (allR firstP cAlL).1
theorem cal_all : (allR firstP cAlL).2.1 = 3 ∧ (allR firstP cAlL).2.2 = 0 := by decide +kernel
theorem cal_two : (allR firstP [cAdd1, cAdd1]).2.1 = 1 ∧ (allR firstP [cAdd1, cAdd1]).2.2 = 7 := by decide +kernel
theorem cal_seven : oneE firstP ⟨7, 0, 0, 0, 0⟩ = 3 := by decide +kernel
theorem cal_oks : ∀ c ∈ cAlL, CgOk c ∧ cgB c = true := by
  intro c hc
  simp only [cAlL, List.mem_cons, List.not_mem_nil, or_false] at hc
  rcases hc with rfl | rfl | rfl
  · exact ⟨⟨by decide, by decide, by decide, by decide, by decide⟩, by decide +kernel⟩
  · exact ⟨⟨by decide, by decide, by decide, by decide, by decide⟩, by decide +kernel⟩
  · exact ⟨⟨by decide, by decide, by decide, by decide, by decide⟩, by decide +kernel⟩
theorem cAlP_ok : PolOk cAlP ∧ fineP cAlP = true := by
  obtain ⟨h1, h2⟩ := allR_ok firstP_ok fine_first (fun c hc => (cal_oks c hc).1)
  exact ⟨h1, h2 cal_all.2⟩
theorem cal_caps : capsN cAlP 1 65535 0 = 65527 := caps_of (d := 3) (by decide) (down_two (by decide +kernel) (by decide +kernel)) (by decide +kernel)
theorem cal_i : cAlP.i 0 = 65527 := by decide +kernel
theorem cal_map : madeF idF (movesL cAlL) 3 = 4 := by decide +kernel
/-- A literal of changes. -/
theorem lit_chs {w : World} {g : Nat} {t : TypeId} {l : List Cg} (h : Blk w g (csC l).toArray t) (hl : l.length ≤ 9223372036854775807) (hc : ∀ c ∈ l, CgOk c) : ChsAt w (.slice (some ⟨g, 0, none⟩) l.length l.length) l :=
  ⟨_, l.length, rfl, hl, fun _ => ⟨g, 0, rfl, h.lt, fun i hi => ⟨hc _ (List.getElem_mem hi), fun j u hu => by
    rw [Nat.zero_add, Blk.cell h, List.getElem?_toArray]
    exact csC_get l i hi j u hu⟩⟩⟩
theorem chs_nil (w : World) : ChsAt w (.slice none 0 0) [] := ⟨none, 0, rfl, by decide, fun h => absurd rfl h⟩
def chsN (l : List Cg) : FactN := ⟨fun v w => ChsAt w v l, fun _ _ _ _ h hc hS => h.chg hc (fun a n c e hs => hS (by rw [e]; exact hs))⟩
/-- The changes, and the policy behind them. -/
structure AQ (w : World) (bl b2 : Nat) (V : World) : Prop where
  all : Below w.heap.size w V
  chs : ChsAt V (.slice (some ⟨bl, 0, none⟩) 3 3) cAlL
  row : PRow V b2 cAlP
theorem AQ.step {w : World} {bl b2 : Nat} {V V' : World} (h : AQ w bl b2 V) (hB : Below V.heap.size V V') : AQ w bl b2 V' :=
  ⟨h.all.trans (hB.mono h.all.size), h.chs.below hB (Nat.le_refl _), h.row.step hB⟩
theorem AQ.first {w : World} {bl b2 : Nat} {V : World} (h : AQ w bl b2 V) : ChCells V bl 0 cAdd1 := fun j u hu => by
  obtain ⟨p, cap, e, -, h3⟩ := h.chs
  obtain ⟨b, off, rfl, -, h7⟩ := h3 (by simp [cAlL])
  cases e
  exact (h7 0 (by decide)).2 j u hu
theorem AQ.third {w : World} {bl b2 : Nat} {V : World} (h : AQ w bl b2 V) : ChCells V bl 10 cRev3 := fun j u hu => by
  obtain ⟨p, cap, e, -, h3⟩ := h.chs
  obtain ⟨b, off, rfl, -, h7⟩ := h3 (by simp [cAlL])
  cases e
  have := (h7 2 (by decide)).2 j u hu
  rwa [Nat.zero_add] at this
theorem AQ.put {w : World} {bl b2 : Nat} {V V' : World} {g : Nat} {cs : Array Value} {t : TypeId} (h : AQ w bl b2 V) (hp : Put V V' g cs t) (h1 : w.heap.size ≤ g) (h2 : b2 < g) (h3 : bl < g) : AQ w bl b2 V' :=
  ⟨h.all.trans (hp.chg.below h.all.size fun k hk => by have hk : k = g := hk; omega), h.chs.chg hp.chg (fun a n c e hk => by cases e; have hk : bl = g := hk; omega), hp.chg.kept h.row (fun hk => by have hk : b2 = g := hk; omega)⟩
theorem AQ.chg1 {w : World} {bl b2 g : Nat} {V V' : World} (h : AQ w bl b2 V) (hc : Chg (fun k => k = g) V V') (h1 : w.heap.size ≤ g) (h2 : b2 < g) (h3 : bl < g) : AQ w bl b2 V' :=
  ⟨h.all.trans (hc.below h.all.size fun k hk => by have hk : k = g := hk; omega), h.chs.chg hc (fun a n c e hk => by cases e; have hk : bl = g := hk; omega), hc.kept h.row (fun hk => by have hk : b2 = g := hk; omega)⟩
theorem cal_adds : ∀ c ∈ [cAdd1, cAdd1], CgOk c := fun c hc => by
  simp only [List.mem_cons, List.not_mem_nil, or_false, or_self] at hc
  subst hc; exact (cal_oks cAdd1 (by simp [cAlL])).1
theorem cal_three {f : Nat → Nat} (h : f 3 = 4) (w : World) : (Instr.index 43 (.agg (mapC f)) (.int .i64 3)).run Tryd.prog w = .ok (.int .u8 4) w := by
  have e := run_index_map f (k := 3) (by decide) w
  rw [h] at e
  exact e
theorem cal_cell {V : World} {b : Nat} (h : PRow V b cAlP) : V.cell? ⟨b, 2, none⟩ = some (.int .u16 65527) := by
  have e : V.cell? ⟨b, 1 + 0 * 2 + 1, none⟩ = some (.int .u16 (cAlP.i 0 : Int)) := h.i (show 0 < 16 by decide)
  rw [cal_i] at e
  exact e
/-- .. and the Reader, and what was read. -/
structure AR (w : World) (bl b2 br g : Nat) (v : Value) (V : World) : Prop where
  q : AQ w bl b2 V
  rd : RAt V br 91 g ([], 0)
  back : ChsAt V v cAlL
theorem AR.step {w : World} {bl b2 br g : Nat} {v : Value} {V V' : World} (h : AR w bl b2 br g v V) (hB : Below V.heap.size V V') : AR w bl b2 br g v V' :=
  ⟨h.q.step hB, h.rd.below hB (Nat.le_refl _), h.back.below hB (Nat.le_refl _)⟩
set_option maxRecDepth 100000 in
set_option maxHeartbeats 3200000 in
theorem qalive_any (cI : PFirstC) (cC : PCapsC) (cF : CFineC) (cO : COneC) (cA : CAllC) (cM : CMapC) (cB : CBytesC) (cR : CReadC) : CAliveC := by
  intro w hT
  have HI := Lib.hid cI
  have HA1 := Lib.hid (fun v V (hV : Since w V) (h : ChsAt V v cAlL) => cA firstP v cAlL V (hT.since hV) firstP_ok fine_first h)
  have HA2 := Lib.hid (fun v V (hV : Since w V) (h : ChsAt V v [cAdd1, cAdd1]) => cA firstP v [cAdd1, cAdd1] V (hT.since hV) firstP_ok fine_first h)
  have HA3 := Lib.hid (fun V (hV : Since w V) => cA firstP _ [] V (hT.since hV) firstP_ok fine_first (chs_nil V))
  have HO := Lib.hid (fun V (hV : Since w V) => cO firstP ⟨7, 0, 0, 0, 0⟩ V (hT.since hV) firstP_ok fine_first ⟨by decide, by decide, by decide, by decide, by decide⟩)
  unfold AllIs at HA1 HA2 HA3
  unfold OneIs at HO
  rw [cal_all.1, cal_all.2, show (allR firstP cAlL).1 = cAlP from rfl] at HA1
  rw [cal_two.1, cal_two.2] at HA2
  rw [show allR firstP [] = (zeroP, 0, 1) from if_pos rfl] at HA3
  have HA1 : Hid (∀ v V, Since w V → ChsAt V v cAlL → Calls Tryd.prog 14 #[.agg (polC firstP), v] V fun e w' => e = .returned (.tuple #[.agg (polC cAlP), .int .i64 3, .int .i64 0]) ∧ Below V.heap.size V w') := HA1
  have HA2 : Hid (∀ v V, Since w V → ChsAt V v [cAdd1, cAdd1] → Calls Tryd.prog 14 #[.agg (polC firstP), v] V fun e w' => e = .returned (.tuple #[.agg (polC (allR firstP [cAdd1, cAdd1]).1), .int .i64 1, .int .i64 7]) ∧ Below V.heap.size V w') := HA2
  have HA3 : Hid (∀ V, Since w V → Calls Tryd.prog 14 #[.agg (polC firstP), .slice none 0 0] V fun e w' => e = .returned (.tuple #[.agg (polC zeroP), .int .i64 0, .int .i64 1]) ∧ Below V.heap.size V w') := HA3
  rw [cal_seven] at HO
  have HO : Hid (∀ V, Since w V → Calls Tryd.prog 9 #[.agg (polC firstP), .agg #[.int .i64 7, .int .i64 0, .int .i64 0, .int .u16 0, .int .u16 0]] V fun e w' => e = .returned (.tuple #[.agg (polC (oneP firstP ⟨7, 0, 0, 0, 0⟩)), .int .i64 3]) ∧ Below V.heap.size V w') := HO
  obtain ⟨p3, HA3⟩ : ∃ p3, Hid (∀ V, Since w V → Calls Tryd.prog 14 #[.agg (polC firstP), .slice none 0 0] V fun e w' => e = .returned (.tuple #[.agg (polC p3), .int .i64 0, .int .i64 1]) ∧ Below V.heap.size V w') := ⟨zeroP, HA3⟩
  have HC := Lib.hid (fun V (hV : Since w V) => cC cAlP 1 65535 0 V (hT.since hV) cAlP_ok.1 cAlP_ok.2 (by decide) (by decide) (by decide) (by decide))
  rw [cal_caps] at HC
  have HC : Hid (∀ V, Since w V → Calls Tryd.prog 31 #[.agg (polC cAlP), .int .i64 1, .agg #[.int .u16 65535, .int .u16 0]] V fun e w' => e = .returned (.int .u16 65527) ∧ Below V.heap.size V w') := HC
  have HF := Lib.hid (fun V => cF cRev3 V (cal_oks cRev3 (by simp [cAlL])).1)
  rw [(cal_oks cRev3 (by simp [cAlL])).2] at HF
  have HF : Hid (∀ V, Calls Tryd.prog 11 #[.agg #[.int .i64 6, .int .i64 3, .int .i64 4, .int .u16 0, .int .u16 0]] V fun e w' => e = .returned (.bool true) ∧ Below V.heap.size V w') := HF
  have HM := Lib.hid (fun v V (h : ChsAt V v cAlL) => cM v cAlL V h (by decide) (fun c hc => (cal_oks c hc).2))
  have HM3 := Lib.hid cal_map
  have HB := Lib.hid (fun v V (hV : Since w V) (h : ChsAt V v cAlL) => cB v cAlL V (hT.since hV) h (by decide) (by decide) (fun c hc => (cal_oks c hc).2))
  have hrb := rd_bytes (l := cAlL) (by decide) (by decide) cal_oks []
  have HBl := Lib.hid (show (bytesQ cAlL).length ≤ 43 by decide +kernel)
  rw [List.append_nil] at hrb
  have HRb := Lib.hid hrb
  have HCR := Lib.hid (fun b t g s V (hV : Since w V) => cR b t g s V (hT.since hV))
  have HS0 := Lib.hid (Nat.lt_of_le_of_lt (Nat.zero_le _) hT.2)
  have HCh0 := Lib.hid (lit_chs (l := cAlL) (w := w.alloc (.cells (csC cAlL).toArray 31)) (Blk.new w _ _) (by decide) (fun c hc => (cal_oks c hc).1))
  have HB0 := Lib.hid (belowNew w (.cells (csC cAlL).toArray 31))
  clear cI cC cF cO cA cM cB cR hT hrb
  generalize madeF idF (movesL cAlL) = f at *
  generalize bytesQ cAlL = B at *
  generalize (allR firstP [cAdd1, cAdd1]).1 = p2 at *
  generalize oneP firstP ⟨7, 0, 0, 0, 0⟩ = p4 at *
  go_enter Tryd.func13, Tryd.ntmps13
  go_upto_region 2 with fail
  have HQ0 := Lib.hid (show Below w.heap.size w (w.alloc (.cells #[.int .i64 1, .int .i64 1, .int .i64 0, .int .u16 0, .int .u16 0, .int .i64 3, .int .i64 1, .int .i64 0, .int .u16 0, .int .u16 0, .int .i64 6, .int .i64 3, .int .i64 4, .int .u16 0, .int .u16 0] 31)) ∧ ChsAt (w.alloc (.cells #[.int .i64 1, .int .i64 1, .int .i64 0, .int .u16 0, .int .u16 0, .int .i64 3, .int .i64 1, .int .i64 0, .int .u16 0, .int .u16 0, .int .i64 6, .int .i64 3, .int .i64 4, .int .u16 0, .int .u16 0] 31)) (.slice (some ⟨w.heap.size, 0, none⟩) 3 3) cAlL ∧ w.heap.size < (w.alloc (.cells #[.int .i64 1, .int .i64 1, .int .i64 0, .int .u16 0, .int .u16 0, .int .i64 3, .int .i64 1, .int .i64 0, .int .u16 0, .int .u16 0, .int .i64 6, .int .i64 3, .int .i64 4, .int .u16 0, .int .u16 0] 31)).heap.size from ⟨HB0.out, HCh0.out, by simp⟩)
  clear HB0 HCh0
  generalize w.alloc _ = w1 at *
  go_wp2_with fail
  refine (HI.out _).mono ?_
  rintro e w2 ⟨rfl, hB2⟩
  have HQ2 := Lib.hid (show Below w.heap.size w w2 ∧ ChsAt w2 (.slice (some ⟨w.heap.size, 0, none⟩) 3 3) cAlL ∧ w.heap.size < w2.heap.size from ⟨HQ0.out.1.trans (hB2.mono HQ0.out.1.size), HQ0.out.2.1.below hB2 (Nat.le_refl _), Nat.lt_of_lt_of_le HQ0.out.2.2 hB2.size⟩)
  clear hB2 HQ0
  go_wp2_with fail
  refine (HA1.out _ _ HQ2.out.1 HQ2.out.2.1).mono ?_
  rintro e w3 ⟨rfl, hB3⟩
  have HQ3 := Lib.hid (show Below w.heap.size w w3 ∧ ChsAt w3 (.slice (some ⟨w.heap.size, 0, none⟩) 3 3) cAlL ∧ w.heap.size < w3.heap.size from ⟨HQ2.out.1.trans (hB3.mono HQ2.out.1.size), HQ2.out.2.1.below hB3 (Nat.le_refl _), Nat.lt_of_lt_of_le HQ2.out.2.2 hB3.size⟩)
  clear hB3 HQ2 HA1
  have hz := PRow.new w3 zeroP
  go_upto_region 3 with (refine wpList_store_arr rfl rfl _ _ _ rfl rfl rfl hz (infoPol _) (by rw [polC_size, polC_size]) (polC_one _) ?_; intro w4 hw4)
  have HQ4 := Lib.hid (show AQ w w.heap.size w3.heap.size w4 from ⟨HQ3.out.1.trans (((belowNew w3 _).trans (hw4.below (by simp) (Nat.le_refl _))).mono HQ3.out.1.size), HQ3.out.2.1.below ((belowNew w3 _).trans (hw4.below (by simp) (Nat.le_refl _))) (Nat.le_refl _), hw4.blk⟩)
  have HL4 := Lib.hid (show w.heap.size < w4.heap.size ∧ w3.heap.size < w4.heap.size ∧ w.heap.size < w3.heap.size from ⟨Nat.lt_of_lt_of_le HQ3.out.2.2 (Nat.le_of_lt hw4.blk.lt), hw4.blk.lt, HQ3.out.2.2⟩)
  clear hw4 hz HQ3
  generalize w3.heap.size = b2 at *
  refine wp_region_N [.val (.agg (polC firstP)), .val (.slice (some ⟨w.heap.size, 0, none⟩) 3 3), .val (.pointer (some ⟨w.heap.size, 0, none⟩)), .val (.agg #[.int .i64 1, .int .i64 1, .int .i64 0, .int .u16 0, .int .u16 0]), .val (.slice (some ⟨w.heap.size, 0, none⟩) 3 3), .val (.pointer (some ⟨w.heap.size, 0, none⟩)), .val (.agg #[.int .i64 1, .int .i64 1, .int .i64 0, .int .u16 0, .int .u16 0]), .fact (chsN [cAdd1, cAdd1]), .val (.tuple #[.agg (polC p2), .int .i64 1, .int .i64 7]), .val (.tuple #[.agg (polC p2), .int .i64 1, .int .i64 7]), .val (.agg (polC p2)), .val (.int .i64 1), .val (.int .i64 7), .mk (polO zeroP) 14 (polO p2), .st 13, .val (.int .i64 1), .val (.int .i64 7)]
    (fun x => { tmps := #[.bool false, .slice (some ⟨w.heap.size, 0, none⟩) 3 3, .pointer (some ⟨b2, 0, none⟩), .int .i64 3, .int .i64 0, x 13, x 15, x 16, undef, undef, undef, undef, undef, undef, undef, .agg #[.int .i64 1, .int .i64 1, .int .i64 0, .int .u16 0, .int .u16 0], .agg #[.int .i64 3, .int .i64 1, .int .i64 0, .int .u16 0, .int .u16 0], .agg #[.int .i64 6, .int .i64 3, .int .i64 4, .int .u16 0, .int .u16 0], .slice (some ⟨w.heap.size, 0, none⟩) 3 3, .tuple #[.agg (polC cAlP), .int .i64 3, .int .i64 0], .agg (polC firstP), .slice (some ⟨w.heap.size, 0, none⟩) 3 3, .tuple #[.agg (polC cAlP), .int .i64 3, .int .i64 0], .agg (polC cAlP), .int .i64 3, .int .i64 0, x 9, x 0, x 1, x 2, x 3, x 4, x 5, x 6, x 7, x 8, x 10, x 11, x 12, undef, undef, undef, undef, undef, undef, undef, undef, undef, undef, undef, undef, undef, undef, undef, undef, undef, undef, undef, undef, undef, undef, undef, undef, undef, undef, undef, undef, undef, undef, undef, undef, undef, undef, undef, undef, undef, undef, undef, undef, undef, undef, undef, undef, undef, undef, undef, undef, undef, undef, undef, undef, undef, undef, undef, undef, undef, undef, undef, undef, undef, undef, undef, undef, undef, undef, undef, undef, undef, undef, undef, undef, undef, undef], defers := [] }) (fun _ => undef) (by kernel_rfl) rfl rfl rfl (by kernel_rfl) ?_ ?_
  · refine ⟨ObN.of_val rfl (fun x v => rfl) (fun x V hC hD => ?_), ?_⟩
    · clear hD
      have hH := (HQ4.out.step (Below.refl _ _).drew).step hC
      refine want_yes rfl ?_
      exact leads_enter2 (by go_simp) ((HI.out V).mono fun e w'' ⟨he, hB⟩ => ⟨_, he, rfl, hB⟩)
    refine ⟨ObN.of_val rfl (fun x v => rfl) (fun x V hC hD => ?_), ?_⟩
    · clear hD
      have hH := (HQ4.out.step (Below.refl _ _).drew).step hC
      refine want_yes rfl ?_
      exact leads_value (v := .slice (some ⟨w.heap.size, 0, none⟩) 3 3) (by go_simp) ⟨rfl, Below.refl _ _⟩
    refine ⟨ObN.of_val rfl (fun x v => rfl) (fun x V hC hD => ?_), ?_⟩
    · have e1 : x 1 = .slice (some ⟨w.heap.size, 0, none⟩) 3 3 := hD.1.1 _ rfl rfl
      clear hD
      have hH := (HQ4.out.step (Below.refl _ _).drew).step hC
      refine want_yes rfl ?_
      exact leads_value (v := .pointer (some ⟨w.heap.size, 0, none⟩)) (by go_simp) ⟨rfl, Below.refl _ _⟩
    refine ⟨ObN.of_val rfl (fun x v => rfl) (fun x V hC hD => ?_), ?_⟩
    · have e2 : x 2 = .pointer (some ⟨w.heap.size, 0, none⟩) := hD.1.1 _ rfl rfl
      clear hD
      have hH := (HQ4.out.step (Below.refl _ _).drew).step hC
      refine want_yes rfl ?_
      have hf := hH.first
      exact leads_value (exec_load_chgAt (b := w.heap.size) (off := 0) (c := cAdd1) rfl e2 hf) ⟨rfl, Below.refl _ _⟩
    refine ⟨ObN.of_val rfl (fun x v => rfl) (fun x V hC hD => ?_), ?_⟩
    · clear hD
      have hH := (HQ4.out.step (Below.refl _ _).drew).step hC
      refine want_yes rfl ?_
      exact leads_value (v := .slice (some ⟨w.heap.size, 0, none⟩) 3 3) (by go_simp) ⟨rfl, Below.refl _ _⟩
    refine ⟨ObN.of_val rfl (fun x v => rfl) (fun x V hC hD => ?_), ?_⟩
    · have e4 : x 4 = .slice (some ⟨w.heap.size, 0, none⟩) 3 3 := hD.1.1 _ rfl rfl
      clear hD
      have hH := (HQ4.out.step (Below.refl _ _).drew).step hC
      refine want_yes rfl ?_
      exact leads_value (v := .pointer (some ⟨w.heap.size, 0, none⟩)) (by go_simp) ⟨rfl, Below.refl _ _⟩
    refine ⟨ObN.of_val rfl (fun x v => rfl) (fun x V hC hD => ?_), ?_⟩
    · have e5 : x 5 = .pointer (some ⟨w.heap.size, 0, none⟩) := hD.1.1 _ rfl rfl
      clear hD
      have hH := (HQ4.out.step (Below.refl _ _).drew).step hC
      refine want_yes rfl ?_
      have hf := hH.first
      exact leads_value (exec_load_chgAt (b := w.heap.size) (off := 0) (c := cAdd1) rfl e5 hf) ⟨rfl, Below.refl _ _⟩
    refine ⟨ObN.of_fact rfl (fun x v => rfl) rfl (fun x V hC hD => ?_), ?_⟩
    · have e3 : x 3 = .agg #[.int .i64 1, .int .i64 1, .int .i64 0, .int .u16 0, .int .u16 0] := hD.1.1 _ rfl rfl
      have e6 : x 6 = .agg #[.int .i64 1, .int .i64 1, .int .i64 0, .int .u16 0, .int .u16 0] := hD.2.1.1 _ rfl rfl
      clear hD
      have hH := (HQ4.out.step (Below.refl _ _).drew).step hC
      exact leads_value (v := .slice (some ⟨V.heap.size, 0, none⟩) 2 2) (w' := V.alloc (.cells #[.int .i64 1, .int .i64 1, .int .i64 0, .int .u16 0, .int .u16 0, .int .i64 1, .int .i64 1, .int .i64 0, .int .u16 0, .int .u16 0] 31)) (by go_simp) ⟨belowNew V _, (show ChsAt (V.alloc (.cells (csC [cAdd1, cAdd1]).toArray 31)) (.slice (some ⟨V.heap.size, 0, none⟩) 2 2) [cAdd1, cAdd1] from lit_chs (l := [cAdd1, cAdd1]) (Blk.new V _ _) (by decide) cal_adds), Nat.le_refl _, by simp [blkOf]⟩
    refine ⟨ObN.of_val rfl (fun x v => rfl) (fun x V hC hD => ?_), ?_⟩
    · have e0 : x 0 = .agg (polC firstP) := hD.1.1 _ rfl rfl
      have e7 : ChsAt V (x 7) [cAdd1, cAdd1] := hD.2.1.2 _ rfl rfl
      clear hD
      have hH := (HQ4.out.step (Below.refl _ _).drew).step hC
      refine want_yes rfl ?_
      exact leads_enter2 (by go_simp) ((HA2.out (x 7) V hH.all e7).mono fun e w'' ⟨he, hB⟩ => ⟨_, he, rfl, hB⟩)
    refine ⟨ObN.of_val rfl (fun x v => rfl) (fun x V hC hD => ?_), ?_⟩
    · have e8 : x 8 = .tuple #[.agg (polC p2), .int .i64 1, .int .i64 7] := hD.1.1 _ rfl rfl
      clear hD
      have hH := (HQ4.out.step (Below.refl _ _).drew).step hC
      refine want_yes rfl ?_
      exact leads_value (v := .tuple #[.agg (polC p2), .int .i64 1, .int .i64 7]) (by go_simp) ⟨rfl, Below.refl _ _⟩
    refine ⟨ObN.of_val rfl (fun x v => rfl) (fun x V hC hD => ?_), ?_⟩
    · have e9 : x 9 = .tuple #[.agg (polC p2), .int .i64 1, .int .i64 7] := hD.1.1 _ rfl rfl
      clear hD
      have hH := (HQ4.out.step (Below.refl _ _).drew).step hC
      refine want_yes rfl ?_
      exact leads_value (v := .agg (polC p2)) (by go_simp) ⟨rfl, Below.refl _ _⟩
    refine ⟨ObN.of_val rfl (fun x v => rfl) (fun x V hC hD => ?_), ?_⟩
    · have e9 : x 9 = .tuple #[.agg (polC p2), .int .i64 1, .int .i64 7] := hD.1.1 _ rfl rfl
      clear hD
      have hH := (HQ4.out.step (Below.refl _ _).drew).step hC
      refine want_yes rfl ?_
      exact leads_value (v := .int .i64 1) (by go_simp) ⟨rfl, Below.refl _ _⟩
    refine ⟨ObN.of_val rfl (fun x v => rfl) (fun x V hC hD => ?_), ?_⟩
    · have e9 : x 9 = .tuple #[.agg (polC p2), .int .i64 1, .int .i64 7] := hD.1.1 _ rfl rfl
      clear hD
      have hH := (HQ4.out.step (Below.refl _ _).drew).step hC
      refine want_yes rfl ?_
      exact leads_value (v := .int .i64 7) (by go_simp) ⟨rfl, Below.refl _ _⟩
    refine ⟨ObN.of_mk rfl (fun x v => rfl) rfl (fun x V => ?_), ?_⟩
    · exact leads_alloc_pol rfl
    refine ⟨ObN.of_st rfl rfl (fun x v => rfl) rfl (by kernel_rfl) (fun x V gb hC hx hg hD => ?_), ?_⟩
    · have e10 : x 10 = .agg (polC p2) := hD.2.1.1 _ rfl rfl
      clear hD
      have hH := (HQ4.out.step (Below.refl _ _).drew).step hC
      exact leads_store_row rfl hx e10 hg (infoPol _) (by rw [polC_size, polC_size]) (polC_one _)
    refine ⟨ObN.of_val rfl (fun x v => rfl) (fun x V hC hD => ?_), ?_⟩
    · have e11 : x 11 = .int .i64 1 := hD.1.1 _ rfl rfl
      clear hD
      have hH := (HQ4.out.step (Below.refl _ _).drew).step hC
      refine want_yes rfl ?_
      exact leads_value (v := .int .i64 1) (by go_simp) ⟨rfl, Below.refl _ _⟩
    refine ⟨ObN.of_val rfl (fun x v => rfl) (fun x V hC hD => ?_), ?_⟩
    · have e12 : x 12 = .int .i64 7 := hD.1.1 _ rfl rfl
      clear hD
      have hH := (HQ4.out.step (Below.refl _ _).drew).step hC
      refine want_yes rfl ?_
      exact leads_value (v := .int .i64 7) (by go_simp) ⟨rfl, Below.refl _ _⟩
    trivial
  · intro L x W hL hF
    have e15 : x 15 = .int .i64 1 := hF.val 15 _ rfl (hL 15 (by simp))
    have e16 : x 16 = .int .i64 7 := hF.val 16 _ rfl (hL 16 (by simp))
    have HQ5 := Lib.hid ((HQ4.out.step (Below.refl _ _).drew).step hF.below)
    clear hF hL HQ4 HA2
    rw [e15, e16]
    clear e15 e16
    generalize x 0 = x0
    generalize x 1 = x1
    generalize x 2 = x2
    generalize x 3 = x3
    generalize x 4 = x4
    generalize x 5 = x5
    generalize x 6 = x6
    generalize x 7 = x7
    generalize x 8 = x8
    generalize x 9 = x9
    generalize x 10 = x10
    generalize x 11 = x11
    generalize x 12 = x12
    generalize x 13 = x13
    have HQ6 := HQ5
    clear HQ5
    go_wp2_with fail
    refine (HI.out _).mono ?_
    rintro e w6 ⟨rfl, hB6⟩
    have HQ7 := Lib.hid (HQ6.out.step hB6)
    clear hB6 HQ6
    go_wp2_with fail
    refine (HA3.out _ HQ7.out.all).mono ?_
    rintro e w7 ⟨rfl, hB7⟩
    have HQ8 := Lib.hid (HQ7.out.step hB7)
    clear hB7 HQ7 HA3
    have hz := PRow.new w7 zeroP
    go_upto_region 5 with (refine wpList_store_arr rfl rfl _ _ _ rfl rfl rfl hz (infoPol _) (by rw [polC_size, polC_size]) (polC_one _) ?_; intro w8 hw8)
    have HQ9 := Lib.hid (HQ8.out.step ((belowNew w7 _).trans (hw8.below (by simp) (Nat.le_refl _))))
    clear hw8 hz HQ8
    go_wp2_with fail
    refine (HI.out _).mono ?_
    rintro e w9 ⟨rfl, hB9⟩
    have HQ10 := Lib.hid (HQ9.out.step hB9)
    clear hB9 HQ9 HI
    go_wp2_with fail
    refine (HO.out _ HQ10.out.all).mono ?_
    rintro e w10 ⟨rfl, hB10⟩
    have HQ11 := Lib.hid (HQ10.out.step hB10)
    clear hB10 HQ10 HO
    have hz := PRow.new w10 zeroP
    go_upto_region 6 with (refine wpList_store_arr rfl rfl _ _ _ rfl rfl rfl hz (infoPol _) (by rw [polC_size, polC_size]) (polC_one _) ?_; intro w11 hw11)
    have HQ12 := Lib.hid (HQ11.out.step ((belowNew w10 _).trans (hw11.below (by simp) (Nat.le_refl _))))
    clear hw11 hz HQ11
    generalize w7.heap.size = b8 at *
    generalize w10.heap.size = b11 at *
    go_wp2_with fail
    refine (HB.out _ _ HQ12.out.all HQ12.out.chs).mono ?_
    rintro e w12 ⟨u, rfl, ho, hB12⟩
    obtain ⟨p10, c10, rfl, hbs⟩ := BsAt.ofRow ho
    have HQ13 := Lib.hid (HQ12.out.step hB12)
    clear hB12 HQ12 HB ho
    go_wp2_with fail
    refine (newRd2_any _ _ _ _ _ hbs (by have := HBl.out; omega) (by have := HS0.out; have := HQ13.out.all.size; omega)).mono ?_
    rintro e w13 ⟨br, g, rfl, hbr, hg1, ⟨-, hg2⟩, hr, hB13⟩
    have HQ14 := Lib.hid (HQ13.out.step hB13)
    have HR14 := Lib.hid hr
    have HN14 := Lib.hid (show g ≠ br ∧ g < w13.heap.size ∧ w.heap.size ≤ br ∧ b2 < br ∧ w.heap.size < br from ⟨hg1, hg2, Nat.le_trans HQ13.out.all.size hbr, Nat.lt_of_lt_of_le HQ13.out.row.lt hbr, by have := HL4.out; have := HQ13.out.row.lt; omega⟩)
    clear hr hB13 hbr hg1 hg2 hbs HQ13
    go_wp2_with fail
    refine (HCR.out br _ g (B, 0) _ HQ14.out.all HR14.out HN14.out.1 HN14.out.2.1 (by have := HBl.out; show B.length ≤ _; omega) (fun h => absurd rfl h)).mono ?_
    rintro e w14 ⟨v14, rfl, hn14, hR14⟩
    rw [HRb.out.1] at hn14
    rw [HRb.out.2] at hR14
    have HZ := Lib.hid (show AR w w.heap.size b2 br g v14 w14 from ⟨HQ14.out.chg1 hR14.2 HN14.out.2.2.1 HN14.out.2.2.2.1 HN14.out.2.2.2.2, hR14.1, hn14.at_⟩)
    clear hn14 hR14 HR14 HN14 HQ14 HRb HBl HCR
    go_upto_region 8 with fail
    refine wp_region_S (fun _ V => AR w w.heap.size b2 br g v14 V) 0 [.val (.int .i64 3), .val (.bool true), .val (.bool true), .val (.int .i64 0), .val (.bool true), .val (.bool true), .val (.bool true), .val (.agg (polC cAlP)), .val (.agg #[.int .u16 65535, .int .u16 0]), .val (.int .u16 65527), .val (.bool true), .val (.bool true), .val (.bool true), .val (.int .i64 1), .val (.bool true), .val (.bool true), .val (.bool true), .val (.int .i64 7), .val (.bool true), .val (.bool true), .val (.bool true), .val (.int .i64 1), .val (.bool true), .val (.bool true), .val (.bool true), .val (.int .i64 3), .val (.bool true), .val (.bool true), .val (.bool true), .val (.slice (some ⟨w.heap.size, 0, none⟩) 3 3), .val (.agg (mapC f)), .val (.int .u8 4), .val (.bool true), .val (.bool true), .val (.bool true), .val (.slice (some ⟨w.heap.size, 0, none⟩) 3 3), .val (v14), .val (.bool true), .val (.bool true), .val (.bool true), .val (.pointer (some ⟨br, 0, none⟩)), .val (.int .i64 0), .val (.bool true), .val (.bool true), .val (.bool true), .val (.slice (some ⟨w.heap.size, 0, none⟩) 3 3), .val (.pointer (some ⟨w.heap.size, 10, none⟩)), .val (.agg #[.int .i64 6, .int .i64 3, .int .i64 4, .int .u16 0, .int .u16 0]), .val (.bool true), .val (.bool true), .val (.bool true), .val (.pointer (some ⟨b2, 1, none⟩)), .val (.pointer (some ⟨b2, 1, none⟩)), .val (.pointer (some ⟨b2, 2, none⟩)), .val (.int .u16 65527), .val (.bool true), .val (.bool true), .val (.bool true)]
      (fun x => { tmps := #[x 57, .slice (some ⟨w.heap.size, 0, none⟩) 3 3, .pointer (some ⟨b2, 0, none⟩), .int .i64 3, .int .i64 0, x13, .int .i64 1, .int .i64 7, .pointer (some ⟨b8, 0, none⟩), .int .i64 0, .int .i64 1, .pointer (some ⟨b11, 0, none⟩), .int .i64 3, .pointer (some ⟨br, 0, none⟩), v14, .agg #[.int .i64 1, .int .i64 1, .int .i64 0, .int .u16 0, .int .u16 0], .agg #[.int .i64 3, .int .i64 1, .int .i64 0, .int .u16 0, .int .u16 0], .agg #[.int .i64 6, .int .i64 3, .int .i64 4, .int .u16 0, .int .u16 0], .slice (some ⟨w.heap.size, 0, none⟩) 3 3, .tuple #[.agg (polC cAlP), .int .i64 3, .int .i64 0], .agg (polC firstP), .slice (some ⟨w.heap.size, 0, none⟩) 3 3, .tuple #[.agg (polC cAlP), .int .i64 3, .int .i64 0], .agg (polC cAlP), .int .i64 3, .int .i64 0, x9, x0, x1, x2, x3, x4, x5, x6, x7, x8, x10, x11, x12, .tuple #[.agg (polC p3), .int .i64 0, .int .i64 1], .agg (polC firstP), .tuple #[.agg (polC p3), .int .i64 0, .int .i64 1], .agg (polC p3), .int .i64 0, .int .i64 1, .tuple #[.agg (polC p4), .int .i64 3], .agg (polC firstP), .agg #[.int .i64 7, .int .i64 0, .int .i64 0, .int .u16 0, .int .u16 0], .tuple #[.agg (polC p4), .int .i64 3], .agg (polC p4), .int .i64 3, .slice (some ⟨w.heap.size, 0, none⟩) 3 3, .slice p10 B.length c10, .pointer (some ⟨br, 0, none⟩), .pointer (some ⟨br, 0, none⟩), v14, x 0, x 1, x 2, x 3, x 4, x 5, x 6, x 7, x 8, x 9, x 10, x 11, x 12, x 13, x 14, x 15, x 16, x 17, x 18, x 19, x 20, x 21, x 22, x 23, x 24, x 25, x 26, x 27, x 28, x 29, x 30, x 31, x 32, x 33, x 34, x 35, x 36, x 37, x 38, x 39, x 40, x 41, x 42, x 43, x 44, x 45, x 46, x 47, x 48, x 49, x 50, x 51, x 52, x 53, x 54, x 55, x 56], defers := [] }) (fun i => ([undef, undef, undef, undef, undef, undef, undef, undef, undef, undef, undef, undef, undef, undef, undef, undef, undef, undef, undef, undef, undef, undef, undef, undef, undef, undef, undef, undef, undef, undef, undef, undef, undef, undef, undef, undef, undef, undef, undef, undef, undef, undef, undef, undef, undef, undef, undef, undef, undef, undef, undef, undef, undef, undef, undef, undef, undef, .bool false] : List Value).getD i undef) (by kernel_rfl) rfl rfl (by kernel_rfl) (by kernel_rfl) (by kernel_rfl) (by kernel_rfl) (HZ.out.step (Below.refl _ _).drew) ?_ ?_
    · refine ⟨ObS.of_val rfl (fun x v => rfl) (fun x V kst hC hD => ?_), ?_⟩
      · clear hD
        refine want_yes rfl ?_
        exact leads_value (v := .int .i64 3) (by go_simp) ⟨rfl, hC⟩
      refine ⟨ObS.of_val rfl (fun x v => rfl) (fun x V kst hC hD => ?_), ?_⟩
      · have e0 : x 0 = .int .i64 3 := hD.1 rfl
        clear hD
        refine want_yes rfl ?_
        exact leads_value (v := .bool true) (by go_simp) ⟨rfl, hC⟩
      refine ⟨ObS.of_val rfl (fun x v => rfl) (fun x V kst hC hD => ?_), ?_⟩
      · have e1 : x 1 = .bool true := hD.1 rfl
        clear hD
        refine want_yes rfl ?_
        exact leads_value (v := .bool true) (by go_simp) ⟨rfl, hC⟩
      refine ⟨ObS.of_val rfl (fun x v => rfl) (fun x V kst hC hD => ?_), ?_⟩
      · have e2 : x 2 = .bool true := hD.1 rfl
        clear hD
        refine want_yes (by simp [Region.wanted, yielded, e2]) ?_
        exact leads_value (v := .int .i64 0) (by go_simp) ⟨rfl, hC⟩
      refine ⟨ObS.of_val rfl (fun x v => rfl) (fun x V kst hC hD => ?_), ?_⟩
      · have e3 : x 3 = .int .i64 0 := hD.1 rfl
        have e2 : x 2 = .bool true := hD.2.1 rfl
        clear hD
        refine want_yes (by simp [Region.wanted, yielded, e2]) ?_
        exact leads_value (v := .bool true) (by go_simp) ⟨rfl, hC⟩
      refine ⟨ObS.of_val rfl (fun x v => rfl) (fun x V kst hC hD => ?_), ?_⟩
      · have e2 : x 2 = .bool true := hD.1 rfl
        have e4 : x 4 = .bool true := hD.2.1 rfl
        clear hD
        refine want_yes rfl ?_
        exact leads_value (v := .bool true) (by go_simp) ⟨rfl, hC⟩
      refine ⟨ObS.of_val rfl (fun x v => rfl) (fun x V kst hC hD => ?_), ?_⟩
      · have e5 : x 5 = .bool true := hD.1 rfl
        clear hD
        refine want_yes rfl ?_
        exact leads_value (v := .bool true) (by go_simp) ⟨rfl, hC⟩
      refine ⟨ObS.of_val rfl (fun x v => rfl) (fun x V kst hC hD => ?_), ?_⟩
      · have e6 : x 6 = .bool true := hD.1 rfl
        clear hD
        refine want_yes (by simp [Region.wanted, yielded, e6]) ?_
        exact leads_value (exec_load_pol rfl rfl hC.q.row) ⟨rfl, hC⟩
      refine ⟨ObS.of_val rfl (fun x v => rfl) (fun x V kst hC hD => ?_), ?_⟩
      · have e6 : x 6 = .bool true := hD.1 rfl
        clear hD
        refine want_yes (by simp [Region.wanted, yielded, e6]) ?_
        exact leads_enter2 (by go_simp) ((lTop_any V).mono fun e w'' ⟨he, hB⟩ => ⟨_, he, rfl, hC.step hB⟩)
      refine ⟨ObS.of_val rfl (fun x v => rfl) (fun x V kst hC hD => ?_), ?_⟩
      · have e7 : x 7 = .agg (polC cAlP) := hD.1 rfl
        have e8 : x 8 = .agg #[.int .u16 65535, .int .u16 0] := hD.2.1 rfl
        have e6 : x 6 = .bool true := hD.2.2.2.1 rfl
        clear hD
        refine want_yes (by simp [Region.wanted, yielded, e6]) ?_
        exact leads_enter2 (by go_simp) ((HC.out V hC.q.all).mono fun e w'' ⟨he, hB⟩ => ⟨_, he, rfl, hC.step hB⟩)
      refine ⟨ObS.of_val rfl (fun x v => rfl) (fun x V kst hC hD => ?_), ?_⟩
      · have e9 : x 9 = .int .u16 65527 := hD.1 rfl
        have e6 : x 6 = .bool true := hD.2.1 rfl
        clear hD
        refine want_yes (by simp [Region.wanted, yielded, e6]) ?_
        exact leads_value (v := .bool true) (by go_simp) ⟨rfl, hC⟩
      refine ⟨ObS.of_val rfl (fun x v => rfl) (fun x V kst hC hD => ?_), ?_⟩
      · have e6 : x 6 = .bool true := hD.1 rfl
        have e10 : x 10 = .bool true := hD.2.1 rfl
        clear hD
        refine want_yes rfl ?_
        exact leads_value (v := .bool true) (by go_simp) ⟨rfl, hC⟩
      refine ⟨ObS.of_val rfl (fun x v => rfl) (fun x V kst hC hD => ?_), ?_⟩
      · have e11 : x 11 = .bool true := hD.1 rfl
        clear hD
        refine want_yes rfl ?_
        exact leads_value (v := .bool true) (by go_simp) ⟨rfl, hC⟩
      refine ⟨ObS.of_val rfl (fun x v => rfl) (fun x V kst hC hD => ?_), ?_⟩
      · have e12 : x 12 = .bool true := hD.1 rfl
        clear hD
        refine want_yes (by simp [Region.wanted, yielded, e12]) ?_
        exact leads_value (v := .int .i64 1) (by go_simp) ⟨rfl, hC⟩
      refine ⟨ObS.of_val rfl (fun x v => rfl) (fun x V kst hC hD => ?_), ?_⟩
      · have e13 : x 13 = .int .i64 1 := hD.1 rfl
        have e12 : x 12 = .bool true := hD.2.1 rfl
        clear hD
        refine want_yes (by simp [Region.wanted, yielded, e12]) ?_
        exact leads_value (v := .bool true) (by go_simp) ⟨rfl, hC⟩
      refine ⟨ObS.of_val rfl (fun x v => rfl) (fun x V kst hC hD => ?_), ?_⟩
      · have e12 : x 12 = .bool true := hD.1 rfl
        have e14 : x 14 = .bool true := hD.2.1 rfl
        clear hD
        refine want_yes rfl ?_
        exact leads_value (v := .bool true) (by go_simp) ⟨rfl, hC⟩
      refine ⟨ObS.of_val rfl (fun x v => rfl) (fun x V kst hC hD => ?_), ?_⟩
      · have e15 : x 15 = .bool true := hD.1 rfl
        clear hD
        refine want_yes rfl ?_
        exact leads_value (v := .bool true) (by go_simp) ⟨rfl, hC⟩
      refine ⟨ObS.of_val rfl (fun x v => rfl) (fun x V kst hC hD => ?_), ?_⟩
      · have e16 : x 16 = .bool true := hD.1 rfl
        clear hD
        refine want_yes (by simp [Region.wanted, yielded, e16]) ?_
        exact leads_value (v := .int .i64 7) (by go_simp) ⟨rfl, hC⟩
      refine ⟨ObS.of_val rfl (fun x v => rfl) (fun x V kst hC hD => ?_), ?_⟩
      · have e17 : x 17 = .int .i64 7 := hD.1 rfl
        have e16 : x 16 = .bool true := hD.2.1 rfl
        clear hD
        refine want_yes (by simp [Region.wanted, yielded, e16]) ?_
        exact leads_value (v := .bool true) (by go_simp) ⟨rfl, hC⟩
      refine ⟨ObS.of_val rfl (fun x v => rfl) (fun x V kst hC hD => ?_), ?_⟩
      · have e16 : x 16 = .bool true := hD.1 rfl
        have e18 : x 18 = .bool true := hD.2.1 rfl
        clear hD
        refine want_yes rfl ?_
        exact leads_value (v := .bool true) (by go_simp) ⟨rfl, hC⟩
      refine ⟨ObS.of_val rfl (fun x v => rfl) (fun x V kst hC hD => ?_), ?_⟩
      · have e19 : x 19 = .bool true := hD.1 rfl
        clear hD
        refine want_yes rfl ?_
        exact leads_value (v := .bool true) (by go_simp) ⟨rfl, hC⟩
      refine ⟨ObS.of_val rfl (fun x v => rfl) (fun x V kst hC hD => ?_), ?_⟩
      · have e20 : x 20 = .bool true := hD.1 rfl
        clear hD
        refine want_yes (by simp [Region.wanted, yielded, e20]) ?_
        exact leads_value (v := .int .i64 1) (by go_simp) ⟨rfl, hC⟩
      refine ⟨ObS.of_val rfl (fun x v => rfl) (fun x V kst hC hD => ?_), ?_⟩
      · have e21 : x 21 = .int .i64 1 := hD.1 rfl
        have e20 : x 20 = .bool true := hD.2.1 rfl
        clear hD
        refine want_yes (by simp [Region.wanted, yielded, e20]) ?_
        exact leads_value (v := .bool true) (by go_simp) ⟨rfl, hC⟩
      refine ⟨ObS.of_val rfl (fun x v => rfl) (fun x V kst hC hD => ?_), ?_⟩
      · have e20 : x 20 = .bool true := hD.1 rfl
        have e22 : x 22 = .bool true := hD.2.1 rfl
        clear hD
        refine want_yes rfl ?_
        exact leads_value (v := .bool true) (by go_simp) ⟨rfl, hC⟩
      refine ⟨ObS.of_val rfl (fun x v => rfl) (fun x V kst hC hD => ?_), ?_⟩
      · have e23 : x 23 = .bool true := hD.1 rfl
        clear hD
        refine want_yes rfl ?_
        exact leads_value (v := .bool true) (by go_simp) ⟨rfl, hC⟩
      refine ⟨ObS.of_val rfl (fun x v => rfl) (fun x V kst hC hD => ?_), ?_⟩
      · have e24 : x 24 = .bool true := hD.1 rfl
        clear hD
        refine want_yes (by simp [Region.wanted, yielded, e24]) ?_
        exact leads_value (v := .int .i64 3) (by go_simp) ⟨rfl, hC⟩
      refine ⟨ObS.of_val rfl (fun x v => rfl) (fun x V kst hC hD => ?_), ?_⟩
      · have e25 : x 25 = .int .i64 3 := hD.1 rfl
        have e24 : x 24 = .bool true := hD.2.1 rfl
        clear hD
        refine want_yes (by simp [Region.wanted, yielded, e24]) ?_
        exact leads_value (v := .bool true) (by go_simp) ⟨rfl, hC⟩
      refine ⟨ObS.of_val rfl (fun x v => rfl) (fun x V kst hC hD => ?_), ?_⟩
      · have e24 : x 24 = .bool true := hD.1 rfl
        have e26 : x 26 = .bool true := hD.2.1 rfl
        clear hD
        refine want_yes rfl ?_
        exact leads_value (v := .bool true) (by go_simp) ⟨rfl, hC⟩
      refine ⟨ObS.of_val rfl (fun x v => rfl) (fun x V kst hC hD => ?_), ?_⟩
      · have e27 : x 27 = .bool true := hD.1 rfl
        clear hD
        refine want_yes rfl ?_
        exact leads_value (v := .bool true) (by go_simp) ⟨rfl, hC⟩
      refine ⟨ObS.of_val rfl (fun x v => rfl) (fun x V kst hC hD => ?_), ?_⟩
      · have e28 : x 28 = .bool true := hD.1 rfl
        clear hD
        refine want_yes (by simp [Region.wanted, yielded, e28]) ?_
        exact leads_value (v := .slice (some ⟨w.heap.size, 0, none⟩) 3 3) (by go_simp) ⟨rfl, hC⟩
      refine ⟨ObS.of_val rfl (fun x v => rfl) (fun x V kst hC hD => ?_), ?_⟩
      · have e29 : x 29 = .slice (some ⟨w.heap.size, 0, none⟩) 3 3 := hD.1 rfl
        have e28 : x 28 = .bool true := hD.2.1 rfl
        clear hD
        refine want_yes (by simp [Region.wanted, yielded, e28]) ?_
        exact leads_enter2 (by go_simp) ((HM.out _ V hC.q.chs).mono fun e w'' ⟨he, hB⟩ => ⟨_, he, rfl, hC.step hB⟩)
      refine ⟨ObS.of_val rfl (fun x v => rfl) (fun x V kst hC hD => ?_), ?_⟩
      · have e30 : x 30 = .agg (mapC f) := hD.1 rfl
        have e28 : x 28 = .bool true := hD.2.1 rfl
        clear hD
        refine want_yes (by simp [Region.wanted, yielded, e28]) ?_
        have hget : (Instr.index 43 (.agg (mapC f)) (.int .i64 3)).run Tryd.prog V = .ok (.int .u8 4) V := cal_three HM3.out V
        exact leads_value (v := .int .u8 4) (by go_simp) ⟨rfl, hC⟩
      refine ⟨ObS.of_val rfl (fun x v => rfl) (fun x V kst hC hD => ?_), ?_⟩
      · have e31 : x 31 = .int .u8 4 := hD.1 rfl
        have e28 : x 28 = .bool true := hD.2.1 rfl
        clear hD
        refine want_yes (by simp [Region.wanted, yielded, e28]) ?_
        exact leads_value (v := .bool true) (by go_simp) ⟨rfl, hC⟩
      refine ⟨ObS.of_val rfl (fun x v => rfl) (fun x V kst hC hD => ?_), ?_⟩
      · have e28 : x 28 = .bool true := hD.1 rfl
        have e32 : x 32 = .bool true := hD.2.1 rfl
        clear hD
        refine want_yes rfl ?_
        exact leads_value (v := .bool true) (by go_simp) ⟨rfl, hC⟩
      refine ⟨ObS.of_val rfl (fun x v => rfl) (fun x V kst hC hD => ?_), ?_⟩
      · have e33 : x 33 = .bool true := hD.1 rfl
        clear hD
        refine want_yes rfl ?_
        exact leads_value (v := .bool true) (by go_simp) ⟨rfl, hC⟩
      refine ⟨ObS.of_val rfl (fun x v => rfl) (fun x V kst hC hD => ?_), ?_⟩
      · have e34 : x 34 = .bool true := hD.1 rfl
        clear hD
        refine want_yes (by simp [Region.wanted, yielded, e34]) ?_
        exact leads_value (v := .slice (some ⟨w.heap.size, 0, none⟩) 3 3) (by go_simp) ⟨rfl, hC⟩
      refine ⟨ObS.of_val rfl (fun x v => rfl) (fun x V kst hC hD => ?_), ?_⟩
      · have e34 : x 34 = .bool true := hD.1 rfl
        clear hD
        refine want_yes (by simp [Region.wanted, yielded, e34]) ?_
        exact leads_value (v := v14) (by go_simp) ⟨rfl, hC⟩
      refine ⟨ObS.of_val rfl (fun x v => rfl) (fun x V kst hC hD => ?_), ?_⟩
      · have e35 : x 35 = .slice (some ⟨w.heap.size, 0, none⟩) 3 3 := hD.1 rfl
        have e36 : x 36 = v14 := hD.2.1 rfl
        have e34 : x 34 = .bool true := hD.2.2.1 rfl
        clear hD
        refine want_yes (by simp [Region.wanted, yielded, e34]) ?_
        exact leads_enter2 (by go_simp) ((rcSame_any _ v14 _ V hC.q.chs hC.back).mono fun e w'' ⟨he, hB⟩ => ⟨_, he, rfl, hC.step hB⟩)
      refine ⟨ObS.of_val rfl (fun x v => rfl) (fun x V kst hC hD => ?_), ?_⟩
      · have e34 : x 34 = .bool true := hD.1 rfl
        have e37 : x 37 = .bool true := hD.2.1 rfl
        clear hD
        refine want_yes rfl ?_
        exact leads_value (v := .bool true) (by go_simp) ⟨rfl, hC⟩
      refine ⟨ObS.of_val rfl (fun x v => rfl) (fun x V kst hC hD => ?_), ?_⟩
      · have e38 : x 38 = .bool true := hD.1 rfl
        clear hD
        refine want_yes rfl ?_
        exact leads_value (v := .bool true) (by go_simp) ⟨rfl, hC⟩
      refine ⟨ObS.of_val rfl (fun x v => rfl) (fun x V kst hC hD => ?_), ?_⟩
      · have e39 : x 39 = .bool true := hD.1 rfl
        clear hD
        refine want_yes (by simp [Region.wanted, yielded, e39]) ?_
        exact leads_value (v := .pointer (some ⟨br, 0, none⟩)) (by go_simp) ⟨rfl, hC⟩
      refine ⟨ObS.of_val rfl (fun x v => rfl) (fun x V kst hC hD => ?_), ?_⟩
      · have e40 : x 40 = .pointer (some ⟨br, 0, none⟩) := hD.1 rfl
        have e39 : x 39 = .bool true := hD.2.1 rfl
        clear hD
        refine want_yes (by simp [Region.wanted, yielded, e39]) ?_
        exact leads_enter2 (by go_simp) ((rderr_any br _ g ([], 0) V hC.rd).mono fun e w'' ⟨he, hw⟩ => ⟨_, he, rfl, hw ▸ hC⟩)
      refine ⟨ObS.of_val rfl (fun x v => rfl) (fun x V kst hC hD => ?_), ?_⟩
      · have e41 : x 41 = .int .i64 0 := hD.1 rfl
        have e39 : x 39 = .bool true := hD.2.1 rfl
        clear hD
        refine want_yes (by simp [Region.wanted, yielded, e39]) ?_
        exact leads_value (v := .bool true) (by go_simp) ⟨rfl, hC⟩
      refine ⟨ObS.of_val rfl (fun x v => rfl) (fun x V kst hC hD => ?_), ?_⟩
      · have e39 : x 39 = .bool true := hD.1 rfl
        have e42 : x 42 = .bool true := hD.2.1 rfl
        clear hD
        refine want_yes rfl ?_
        exact leads_value (v := .bool true) (by go_simp) ⟨rfl, hC⟩
      refine ⟨ObS.of_val rfl (fun x v => rfl) (fun x V kst hC hD => ?_), ?_⟩
      · have e43 : x 43 = .bool true := hD.1 rfl
        clear hD
        refine want_yes rfl ?_
        exact leads_value (v := .bool true) (by go_simp) ⟨rfl, hC⟩
      refine ⟨ObS.of_val rfl (fun x v => rfl) (fun x V kst hC hD => ?_), ?_⟩
      · have e44 : x 44 = .bool true := hD.1 rfl
        clear hD
        refine want_yes (by simp [Region.wanted, yielded, e44]) ?_
        exact leads_value (v := .slice (some ⟨w.heap.size, 0, none⟩) 3 3) (by go_simp) ⟨rfl, hC⟩
      refine ⟨ObS.of_val rfl (fun x v => rfl) (fun x V kst hC hD => ?_), ?_⟩
      · have e45 : x 45 = .slice (some ⟨w.heap.size, 0, none⟩) 3 3 := hD.1 rfl
        have e44 : x 44 = .bool true := hD.2.1 rfl
        clear hD
        refine want_yes (by simp [Region.wanted, yielded, e44]) ?_
        exact leads_value (v := .pointer (some ⟨w.heap.size, 10, none⟩)) (by go_simp) ⟨rfl, hC⟩
      refine ⟨ObS.of_val rfl (fun x v => rfl) (fun x V kst hC hD => ?_), ?_⟩
      · have e46 : x 46 = .pointer (some ⟨w.heap.size, 10, none⟩) := hD.1 rfl
        have e44 : x 44 = .bool true := hD.2.1 rfl
        clear hD
        refine want_yes (by simp [Region.wanted, yielded, e44]) ?_
        exact leads_value (exec_load_chgAt (c := cRev3) rfl e46 hC.q.third) ⟨rfl, hC⟩
      refine ⟨ObS.of_val rfl (fun x v => rfl) (fun x V kst hC hD => ?_), ?_⟩
      · have e47 : x 47 = .agg #[.int .i64 6, .int .i64 3, .int .i64 4, .int .u16 0, .int .u16 0] := hD.1 rfl
        have e44 : x 44 = .bool true := hD.2.1 rfl
        clear hD
        refine want_yes (by simp [Region.wanted, yielded, e44]) ?_
        exact leads_enter2 (by go_simp) ((HF.out V).mono fun e w'' ⟨he, hB⟩ => ⟨_, he, rfl, hC.step hB⟩)
      refine ⟨ObS.of_val rfl (fun x v => rfl) (fun x V kst hC hD => ?_), ?_⟩
      · have e44 : x 44 = .bool true := hD.1 rfl
        have e48 : x 48 = .bool true := hD.2.1 rfl
        clear hD
        refine want_yes rfl ?_
        exact leads_value (v := .bool true) (by go_simp) ⟨rfl, hC⟩
      refine ⟨ObS.of_val rfl (fun x v => rfl) (fun x V kst hC hD => ?_), ?_⟩
      · have e49 : x 49 = .bool true := hD.1 rfl
        clear hD
        refine want_yes rfl ?_
        exact leads_value (v := .bool true) (by go_simp) ⟨rfl, hC⟩
      refine ⟨ObS.of_val rfl (fun x v => rfl) (fun x V kst hC hD => ?_), ?_⟩
      · have e50 : x 50 = .bool true := hD.1 rfl
        clear hD
        refine want_yes (by simp [Region.wanted, yielded, e50]) ?_
        exact leads_value (v := .pointer (some ⟨b2, 1, none⟩)) (by go_simp) ⟨rfl, hC⟩
      refine ⟨ObS.of_val rfl (fun x v => rfl) (fun x V kst hC hD => ?_), ?_⟩
      · have e51 : x 51 = .pointer (some ⟨b2, 1, none⟩) := hD.1 rfl
        have e50 : x 50 = .bool true := hD.2.1 rfl
        clear hD
        refine want_yes (by simp [Region.wanted, yielded, e50]) ?_
        exact leads_value (v := .pointer (some ⟨b2, 1, none⟩)) (by go_simp) ⟨rfl, hC⟩
      refine ⟨ObS.of_val rfl (fun x v => rfl) (fun x V kst hC hD => ?_), ?_⟩
      · have e52 : x 52 = .pointer (some ⟨b2, 1, none⟩) := hD.1 rfl
        have e50 : x 50 = .bool true := hD.2.1 rfl
        clear hD
        refine want_yes (by simp [Region.wanted, yielded, e50]) ?_
        exact leads_value (v := .pointer (some ⟨b2, 2, none⟩)) (by go_simp) ⟨rfl, hC⟩
      refine ⟨ObS.of_val rfl (fun x v => rfl) (fun x V kst hC hD => ?_), ?_⟩
      · have e53 : x 53 = .pointer (some ⟨b2, 2, none⟩) := hD.1 rfl
        have e50 : x 50 = .bool true := hD.2.1 rfl
        clear hD
        refine want_yes (by simp [Region.wanted, yielded, e50]) ?_
        have k0 := cal_cell hC.q.row
        exact leads_value (v := .int .u16 65527) (by go_simp) ⟨rfl, hC⟩
      refine ⟨ObS.of_val rfl (fun x v => rfl) (fun x V kst hC hD => ?_), ?_⟩
      · have e54 : x 54 = .int .u16 65527 := hD.1 rfl
        have e50 : x 50 = .bool true := hD.2.1 rfl
        clear hD
        refine want_yes (by simp [Region.wanted, yielded, e50]) ?_
        exact leads_value (v := .bool true) (by go_simp) ⟨rfl, hC⟩
      refine ⟨ObS.of_val rfl (fun x v => rfl) (fun x V kst hC hD => ?_), ?_⟩
      · have e50 : x 50 = .bool true := hD.1 rfl
        have e55 : x 55 = .bool true := hD.2.1 rfl
        clear hD
        refine want_yes rfl ?_
        exact leads_value (v := .bool true) (by go_simp) ⟨rfl, hC⟩
      refine ⟨ObS.of_val rfl (fun x v => rfl) (fun x V kst hC hD => ?_), ?_⟩
      · have e56 : x 56 = .bool true := hD.1 rfl
        clear hD
        refine want_yes rfl ?_
        exact leads_value (v := .bool true) (by go_simp) ⟨rfl, hC⟩
      trivial
    · intro xa V hC hx
      have e57 : xa 57 = .bool true := hx 57 (by simp)
      have HV := Lib.hid (show AR w w.heap.size b2 br g v14 V from hC)
      clear hx hC
      rw [e57]
      clear e57
      go_wp2_with fail
      go_ret
      exact ⟨rfl, HV.out.q.all⟩
end Go.Proofs.YthpangacpihclaaDoor

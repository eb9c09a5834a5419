/-
  The document's graphs: Up, Turn, Cut.
-/
import Derived.Test.YtajilnoebhipbaaDoorGraR
import Derived.Test.YtajilnoebhipbaaDoorStage
namespace Go.Proofs.YtajilnoebhipbaaDoor
open Go.RowKit

set_option maxRecDepth 100000 in
set_option maxHeartbeats 3200000 in
theorem raUp_any (f : Nat → Nat) (t W : Nat) (w : World) (hf : GrOk f) (ht : t < 65536) (hW : W < 65536) :
    Calls Tryd.prog 10 #[.agg (grC f), .int .u16 (t : Int), .int .u16 (W : Int)] w fun e w' => e = .returned (.int .u16 (upN f t W : Nat)) ∧ Below w.heap.size w w' := by
  have HG0 := Lib.hid (GW.new w f)
  have HD := Lib.hid (fun V s (hs : s < 65536) => raDown_any f s W V hf hs hW)
  have HN := Lib.hid (show upN f t W = upG f t W 16 from rfl)
  have HT := Lib.hid ht
  rw [HN.out]
  clear hf hW HN ht
  go_enter Tryd.func10, Tryd.ntmps10
  go_wp2_with fail
  generalize w.alloc (.cells (grC f) 23) = w1 at *
  generalize w.heap.size = bg at *
  go_loopw [7, 8] (fun o i wr => ∃ k : Nat, k ≤ 16 ∧ i = .int .i64 (k : Int) ∧ o = .int .u16 (upG f t W k : Nat) ∧ GW w bg f wr) (fun _ i _ => 16 - (intOf i).toNat)
  case atStart => exact ⟨0, by omega, rfl, rfl, HG0.out⟩
  case round =>
    obtain ⟨k, hk, rfl, rfl, hg⟩ := hrel
    have HG := Lib.hid hg
    clear hg HG0
    by_cases hlt : k < 16
    · have dk : decide ((k : Int) < 16) = true := by simp; omega
      have HU := Lib.hid (upG_lt f t W (k := k) (by omega))
      have hone : withN 0 k < 65536 := withN_lt (by decide) hlt
      have HWi0 := Lib.hid (fun V => rWith_yes 0 (k : Int) V (by decide) (by omega) (by omega))
      rw [Int.toNat_natCast] at HWi0
      have HDn := Lib.hid (fun V => HD.out V (withN 0 k) hone)
      have hdn : downN f (withN 0 k) W < 65536 := downN_lt f W hone
      have HAn := Lib.hid (fun V => rAnd_any (downN f (withN 0 k) W) t V hdn HT.out)
      have HS := Lib.hid (show upG f t W (k + 1) = if downN f (withN 0 k) W &&& t ≠ 0 then withN (upG f t W k) k else upG f t W k from rfl)
      generalize upG f t W k = U at *
      generalize downN f (withN 0 k) W &&& t = an at *
      generalize downN f (withN 0 k) W = dn at *
      generalize withN 0 k = one at *
      have HWi := Lib.hid (fun V => rWith_yes U (k : Int) V HU.out (by omega) (by omega))
      rw [Int.toNat_natCast] at HWi
      clear hone hdn
      by_cases ha : an = 0
      · have HE := Lib.hid (show upG f t W (k + 1) = U by rw [HS.out, if_neg (by simpa using ha)])
        subst ha
        clear HS
        go_upto_region 5 with fail
        refine wp_region_S (fun _ V => GW w bg f V) 0 [.val (.agg (grC f)), .val (.int .i64 (k : Int)), .val (.int .u16 (one : Int)), .val (.int .u16 (W : Int)), .val (.int .u16 (dn : Int)), .val (.int .u16 (t : Int)), .val (.int .u16 ((0 : Nat) : Int)), .val (.bool false)]
          (fun x => { tmps := #[.agg (grC f), .int .u16 (t : Int), .int .u16 (W : Int), .pointer (some ⟨bg, 0, none⟩), undef, undef, .int .u16 0, .int .u16 (U : Int), .int .i64 (k : Int), .int .i64 (k : Int), .bool true, u11, u12, x 0, x 1, x 2, x 3, x 4, x 5, x 6, x 7, u21, u22, u23, undef], defers := [] }) (fun i => ([u13, u14, u15, u16, u17, u18, u19, u20] : List Value).getD i undef) (by kernel_rfl) rfl rfl (by kernel_rfl) (by kernel_rfl) (by kernel_rfl) (by kernel_rfl) (HG.out.drew) ?_ ?_
        · refine ⟨ObS.of_val rfl (fun x v => rfl) (fun x V kst hC hD => ?_), ?_⟩
          · clear hD
            refine want_yes rfl ?_
            exact leads_value (exec_load_gr rfl rfl hC.row) ⟨rfl, hC⟩
          refine ⟨ObS.of_val rfl (fun x v => rfl) (fun x V kst hC hD => ?_), ?_⟩
          · clear hD
            refine want_yes rfl ?_
            exact leads_value (v := .int .i64 (k : Int)) (by go_simp) ⟨rfl, hC⟩
          refine ⟨ObS.of_val rfl (fun x v => rfl) (fun x V kst hC hD => ?_), ?_⟩
          · have e1 : x 1 = .int .i64 (k : Int) := hD.1 rfl
            clear hD
            refine want_yes rfl ?_
            exact leads_enter2 (by go_simp) ((HWi0.out V).mono fun e w'' ⟨he, hB⟩ => ⟨_, he, rfl, hB ▸ hC⟩)
          refine ⟨ObS.of_val rfl (fun x v => rfl) (fun x V kst hC hD => ?_), ?_⟩
          · clear hD
            refine want_yes rfl ?_
            exact leads_value (v := .int .u16 (W : Int)) (by go_simp) ⟨rfl, hC⟩
          refine ⟨ObS.of_val rfl (fun x v => rfl) (fun x V kst hC hD => ?_), ?_⟩
          · have e0 : x 0 = .agg (grC f) := hD.1 rfl
            have e2 : x 2 = .int .u16 (one : Int) := hD.2.1 rfl
            have e3 : x 3 = .int .u16 (W : Int) := hD.2.2.1 rfl
            clear hD
            refine want_yes rfl ?_
            exact leads_enter2 (by go_simp) ((HDn.out V).mono fun e w'' ⟨he, hB⟩ => ⟨_, he, rfl, hC.step hB⟩)
          refine ⟨ObS.of_val rfl (fun x v => rfl) (fun x V kst hC hD => ?_), ?_⟩
          · clear hD
            refine want_yes rfl ?_
            exact leads_value (v := .int .u16 (t : Int)) (by go_simp) ⟨rfl, hC⟩
          refine ⟨ObS.of_val rfl (fun x v => rfl) (fun x V kst hC hD => ?_), ?_⟩
          · have e4 : x 4 = .int .u16 (dn : Int) := hD.1 rfl
            have e5 : x 5 = .int .u16 (t : Int) := hD.2.1 rfl
            clear hD
            refine want_yes rfl ?_
            exact leads_enter2 (by go_simp) ((HAn.out V).mono fun e w'' ⟨he, hB⟩ => ⟨_, he, rfl, hB ▸ hC⟩)
          refine ⟨ObS.of_val rfl (fun x v => rfl) (fun x V kst hC hD => ?_), ?_⟩
          · have e6 : x 6 = .int .u16 ((0 : Nat) : Int) := hD.1 rfl
            clear hD
            refine want_yes rfl ?_
            exact leads_value (v := .bool false) (by go_simp) ⟨rfl, hC⟩
          trivial
        · intro xa V hC hx
          have e7 : xa 7 = .bool false := hx 7 (by simp)
          have HV := Lib.hid (show GW w bg f V from hC)
          clear hx hC
          rw [e7]
          clear e7
          go_wp2_with fail
          go_roundw
          case rel => first | exact ⟨k + 1, by omega, by go_num, by rw [HE.out], HV.out⟩ | ((repeat apply Exists.intro); exact ⟨⟨k + 1, by omega, by go_num, by rw [HE.out], HV.out⟩, rfl⟩)
          case measure => simp [intOf]; omega
      · have HE := Lib.hid (show upG f t W (k + 1) = withN U k by rw [HS.out, if_pos (by simpa using ha)])
        have HNb := Lib.hid (show ((an : Int) != 0) = true by simp; omega)
        clear HS ha
        go_upto_region 5 with fail
        refine wp_region_S (fun _ V => GW w bg f V) 0 [.val (.agg (grC f)), .val (.int .i64 (k : Int)), .val (.int .u16 (one : Int)), .val (.int .u16 (W : Int)), .val (.int .u16 (dn : Int)), .val (.int .u16 (t : Int)), .val (.int .u16 (an : Int)), .val (.bool true)]
          (fun x => { tmps := #[.agg (grC f), .int .u16 (t : Int), .int .u16 (W : Int), .pointer (some ⟨bg, 0, none⟩), undef, undef, .int .u16 0, .int .u16 (U : Int), .int .i64 (k : Int), .int .i64 (k : Int), .bool true, u11, u12, x 0, x 1, x 2, x 3, x 4, x 5, x 6, x 7, u21, u22, u23, undef], defers := [] }) (fun i => ([u13, u14, u15, u16, u17, u18, u19, u20] : List Value).getD i undef) (by kernel_rfl) rfl rfl (by kernel_rfl) (by kernel_rfl) (by kernel_rfl) (by kernel_rfl) (HG.out.drew) ?_ ?_
        · refine ⟨ObS.of_val rfl (fun x v => rfl) (fun x V kst hC hD => ?_), ?_⟩
          · clear hD
            refine want_yes rfl ?_
            exact leads_value (exec_load_gr rfl rfl hC.row) ⟨rfl, hC⟩
          refine ⟨ObS.of_val rfl (fun x v => rfl) (fun x V kst hC hD => ?_), ?_⟩
          · clear hD
            refine want_yes rfl ?_
            exact leads_value (v := .int .i64 (k : Int)) (by go_simp) ⟨rfl, hC⟩
          refine ⟨ObS.of_val rfl (fun x v => rfl) (fun x V kst hC hD => ?_), ?_⟩
          · have e1 : x 1 = .int .i64 (k : Int) := hD.1 rfl
            clear hD
            refine want_yes rfl ?_
            exact leads_enter2 (by go_simp) ((HWi0.out V).mono fun e w'' ⟨he, hB⟩ => ⟨_, he, rfl, hB ▸ hC⟩)
          refine ⟨ObS.of_val rfl (fun x v => rfl) (fun x V kst hC hD => ?_), ?_⟩
          · clear hD
            refine want_yes rfl ?_
            exact leads_value (v := .int .u16 (W : Int)) (by go_simp) ⟨rfl, hC⟩
          refine ⟨ObS.of_val rfl (fun x v => rfl) (fun x V kst hC hD => ?_), ?_⟩
          · have e0 : x 0 = .agg (grC f) := hD.1 rfl
            have e2 : x 2 = .int .u16 (one : Int) := hD.2.1 rfl
            have e3 : x 3 = .int .u16 (W : Int) := hD.2.2.1 rfl
            clear hD
            refine want_yes rfl ?_
            exact leads_enter2 (by go_simp) ((HDn.out V).mono fun e w'' ⟨he, hB⟩ => ⟨_, he, rfl, hC.step hB⟩)
          refine ⟨ObS.of_val rfl (fun x v => rfl) (fun x V kst hC hD => ?_), ?_⟩
          · clear hD
            refine want_yes rfl ?_
            exact leads_value (v := .int .u16 (t : Int)) (by go_simp) ⟨rfl, hC⟩
          refine ⟨ObS.of_val rfl (fun x v => rfl) (fun x V kst hC hD => ?_), ?_⟩
          · have e4 : x 4 = .int .u16 (dn : Int) := hD.1 rfl
            have e5 : x 5 = .int .u16 (t : Int) := hD.2.1 rfl
            clear hD
            refine want_yes rfl ?_
            exact leads_enter2 (by go_simp) ((HAn.out V).mono fun e w'' ⟨he, hB⟩ => ⟨_, he, rfl, hB ▸ hC⟩)
          refine ⟨ObS.of_val rfl (fun x v => rfl) (fun x V kst hC hD => ?_), ?_⟩
          · have e6 : x 6 = .int .u16 (an : Int) := hD.1 rfl
            clear hD
            refine want_yes rfl ?_
            have hb := HNb.out
            exact leads_value (v := .bool true) (by go_simp) ⟨rfl, hC⟩
          trivial
        · intro xa V hC hx
          have e7 : xa 7 = .bool true := hx 7 (by simp)
          have HV := Lib.hid (show GW w bg f V from hC)
          clear hx hC
          rw [e7]
          clear e7
          go_wp2_with fail
          with_reducible refine (HWi.out _).mono ?_
          rintro e wx ⟨rfl, rfl⟩
          go_wp2_with fail
          go_roundw
          case rel => first | exact ⟨k + 1, by omega, by go_num, by rw [HE.out], HV.out⟩ | ((repeat apply Exists.intro); exact ⟨⟨k + 1, by omega, by go_num, by rw [HE.out], HV.out⟩, rfl⟩)
          case measure => simp [intOf]; omega
    · obtain rfl : k = 16 := by omega
      go_wp2_with fail
      go_ret
      exact ⟨rfl, HG.out.all⟩

/-! Turn. -/
/-- What is there behind a rows whole, and b places of the next one. -/
def turnT (f : Nat → Nat) (a b t : Nat) : Nat := if t < b then turnG f t (a + 1) else turnG f t a
theorem turnT_all (f : Nat → Nat) (a t : Nat) (h : t < 16) : turnT f a 16 t = turnT f (a + 1) 0 t := by unfold turnT; rw [if_pos h, if_neg (by omega)]
theorem turnT_no {f : Nat → Nat} {a b : Nat} (h : (f a).testBit b = false) (t : Nat) : turnT f a b t = turnT f a (b + 1) t := by
  unfold turnT
  by_cases e : t = b
  · subst e; rw [if_neg (by omega), if_pos (by omega), turnG, if_neg (by rw [h]; simp)]
  · by_cases h1 : t < b
    · rw [if_pos h1, if_pos (by omega)]
    · rw [if_neg h1, if_neg (by omega)]
theorem turnT_yes {f : Nat → Nat} {a b : Nat} (h : (f a).testBit b = true) (t : Nat) : setF (turnT f a b) b (withN (turnT f a b b) a) t = turnT f a (b + 1) t := by
  unfold setF turnT
  by_cases e : t = b
  · subst e; rw [if_pos rfl, if_neg (by omega), if_pos (by omega), turnG, if_pos h]
  · rw [if_neg e]
    by_cases h1 : t < b
    · rw [if_pos h1, if_pos (by omega)]
    · rw [if_neg h1, if_neg (by omega)]
/-- A graph, and two arrays of the call's own behind it. -/
structure G3 (w : World) (b : Nat) (f r o : Nat → Nat) (V : World) : Prop where
  gw : GW w b f V
  r : GRow V (b + 1) r
  o : GRow V (b + 2) o
theorem G3.step {w : World} {b : Nat} {f r o : Nat → Nat} {V V' : World} (h : G3 w b f r o V) (hB : Below V.heap.size V V') : G3 w b f r o V' := ⟨h.gw.step hB, h.r.step hB, h.o.step hB⟩
theorem G3.congr {w : World} {b : Nat} {f r o p : Nat → Nat} {V : World} (h : G3 w b f r o V) (hc : ∀ t, t < 16 → o t = p t) : G3 w b f r p V := ⟨h.gw, h.r, h.o.congr hc⟩
theorem G3.set {w : World} {b : Nat} {f r o p : Nat → Nat} {V : World} (h : G3 w b f r o V) {k : Nat} (hk : k < 16) (v : Nat) (hc : ∀ t, t < 16 → setF o k v t = p t) : G3 w b f r p (V.setCell ⟨b + 2, k, none⟩ (.int .u16 (v : Int))) :=
  ⟨⟨h.gw.below.trans (by
      have hc : Chg (fun k => k = b + 2) V (V.setCell ⟨b + 2, k, none⟩ (.int .u16 (v : Int))) := (Chg.refl (fun k => k = b + 2) V).setCell (p := ⟨b + 2, k, none⟩) (fun _ => rfl) _
      exact hc.below (by rw [h.gw.at_]; exact h.gw.below.size) fun j hj => by subst hj; omega), h.gw.row.other (by simp) _, h.gw.at_⟩, h.r.other (by simp) _, (h.o.set hk v).congr hc⟩
theorem G3.new (w : World) (f : Nat → Nat) : G3 w w.heap.size f (fun _ => 0) (fun _ => 0) (((w.alloc (.cells (grC f) 23)).alloc (.cells #[.int .u16 0, .int .u16 0, .int .u16 0, .int .u16 0, .int .u16 0, .int .u16 0, .int .u16 0, .int .u16 0, .int .u16 0, .int .u16 0, .int .u16 0, .int .u16 0, .int .u16 0, .int .u16 0, .int .u16 0, .int .u16 0] 23)).alloc (.cells #[.int .u16 0, .int .u16 0, .int .u16 0, .int .u16 0, .int .u16 0, .int .u16 0, .int .u16 0, .int .u16 0, .int .u16 0, .int .u16 0, .int .u16 0, .int .u16 0, .int .u16 0, .int .u16 0, .int .u16 0, .int .u16 0] 23)) := by
  refine ⟨((GW.new w f).step (belowNew _ _)).step (belowNew _ _), ?_, ?_⟩
  · have h := (GRow.zero (w.alloc (.cells (grC f) 23))).alloc (.cells #[.int .u16 0, .int .u16 0, .int .u16 0, .int .u16 0, .int .u16 0, .int .u16 0, .int .u16 0, .int .u16 0, .int .u16 0, .int .u16 0, .int .u16 0, .int .u16 0, .int .u16 0, .int .u16 0, .int .u16 0, .int .u16 0] 23)
    simp only [World.size_alloc] at h
    exact h
  · have h := GRow.zero ((w.alloc (.cells (grC f) 23)).alloc (.cells #[.int .u16 0, .int .u16 0, .int .u16 0, .int .u16 0, .int .u16 0, .int .u16 0, .int .u16 0, .int .u16 0, .int .u16 0, .int .u16 0, .int .u16 0, .int .u16 0, .int .u16 0, .int .u16 0, .int .u16 0, .int .u16 0] 23))
    simp only [World.size_alloc] at h
    exact h
theorem G3.put {w : World} {b : Nat} {f r o : Nat → Nat} {V V' : World} (h : G3 w b f r o V) (hp : Put V V' (b + 1) (grC o) 23) : Below w.heap.size w V' := by
  have h1 := hp.chg.below (B := b) (by rw [h.gw.at_]; exact h.gw.below.size) fun j hj => by subst hj; omega
  have := h.gw.below.trans h1
  rw [← h.gw.at_]; exact this
set_option maxRecDepth 100000 in
set_option maxHeartbeats 3200000 in
theorem raTurn_any (f : Nat → Nat) (w : World) (hf : GrOk f) :
    Calls Tryd.prog 13 #[.agg (grC f)] w fun e w' => e = .returned (.agg (grC (turnF f))) ∧ Below w.heap.size w w' := by
  have HG0 := Lib.hid (G3.new w f)
  have HF := Lib.hid hf
  clear hf
  go_enter Tryd.func13, Tryd.ntmps13
  go_wp2_with fail
  generalize ((w.alloc (.cells (grC f) 23)).alloc _).alloc _ = w1 at *
  obtain ⟨bg, hbg⟩ : ∃ bg, bg = w.heap.size := ⟨_, rfl⟩
  have HBg := Lib.hid hbg
  simp only [← hbg] at HG0 ⊢
  clear hbg
  go_loopw [4] (fun i wr => ∃ a : Nat, a ≤ 16 ∧ i = .int .i64 (a : Int) ∧ G3 w bg f (fun _ => 0) (turnT f a 0) wr) (fun i _ => 16 - (intOf i).toNat)
  case atStart => exact ⟨0, by omega, rfl, HG0.out.congr fun t _ => by simp [turnT, turnG]⟩
  case round =>
    obtain ⟨a, ha, rfl, hg⟩ := hrel
    have HG := Lib.hid hg
    clear hg HG0
    by_cases hla : a < 16
    · have da : decide ((a : Int) < 16) = true := by simp; omega
      go_wp2_with fail
      go_loopw [5] (fun i wr => ∃ b : Nat, b ≤ 16 ∧ i = .int .i64 (b : Int) ∧ G3 w bg f (fun _ => 0) (turnT f a b) wr) (fun i _ => 16 - (intOf i).toNat)
      case atStart => exact ⟨0, by omega, rfl, HG.out⟩
      case round =>
        obtain ⟨b, hb, rfl, hg⟩ := hrel
        have HH := Lib.hid hg
        by_cases hlb : b < 16
        · have db : decide ((b : Int) < 16) = true := by simp; omega
          have k0 := hg.gw.row.cell hla
          have HHas := Lib.hid (fun V => gHas_any (f a) b V (HF.out a hla))
          cases h1 : (f a).testBit b with
          | false =>
            rw [h1] at HHas
            have HC := Lib.hid (turnT_no h1)
            clear hg h1
            generalize f a = fa at *
            go_wp2_with fail
            with_reducible refine (HHas.out _).mono ?_
            rintro e wx ⟨rfl, rfl⟩
            go_wp2_with fail
            go_roundw
            case rel => first | exact ⟨b + 1, by omega, by go_num, HH.out.congr fun t _ => HC.out t⟩ | ((repeat apply Exists.intro); exact ⟨⟨b + 1, by omega, by go_num, HH.out.congr fun t _ => HC.out t⟩, rfl⟩)
            case measure => simp [intOf]; omega
          | true =>
            rw [h1] at HHas
            have HC := Lib.hid (turnT_yes h1)
            have k1 := hg.o.cell hlb
            have f1 := hg.o.free b
            have hlt : turnT f a b b < 65536 := by unfold turnT; split; exact turnG_lt f b (by omega); exact turnG_lt f b (by omega)
            clear hg h1
            generalize f a = fa at *
            generalize hx : turnT f a b b = x at *
            have HX := Lib.hid hx
            have HWi := Lib.hid (fun V => rWith_yes x (a : Int) V hlt (by omega) (by omega))
            rw [Int.toNat_natCast] at HWi
            clear hx
            go_wp2_with fail
            with_reducible refine (HHas.out _).mono ?_
            rintro e wx ⟨rfl, rfl⟩
            go_wp2_with fail
            with_reducible refine (HWi.out _).mono ?_
            rintro e wx ⟨rfl, rfl⟩
            go_wp2_with fail
            go_roundw
            case rel => first | exact ⟨b + 1, by omega, by go_num, HH.out.set hlb _ fun t _ => HC.out t⟩ | ((repeat apply Exists.intro); exact ⟨⟨b + 1, by omega, by go_num, HH.out.set hlb _ fun t _ => HC.out t⟩, rfl⟩)
            case measure => simp [intOf]; omega
        · obtain rfl : b = 16 := by omega
          clear hg
          go_wp2_with fail
          go_roundw
          case rel => first | exact ⟨a + 1, by omega, by go_num, HH.out.congr fun t ht => turnT_all f a t ht⟩ | ((repeat apply Exists.intro); exact ⟨⟨a + 1, by omega, by go_num, HH.out.congr fun t ht => turnT_all f a t ht⟩, rfl⟩)
          case measure => simp [intOf]; omega
    · obtain rfl : a = 16 := by omega
      have HQ := Lib.hid (HG.out.congr (p := turnF f) fun t _ => by unfold turnT turnF; rw [if_neg (by omega)])
      clear HG
      go_wp2_with (first | (with_reducible refine wpList_load_gr rfl _ rfl rfl HQ.out.o ?_) | (with_reducible refine wpList_store_gr rfl rfl _ _ rfl rfl rfl HQ.out.r ?_; intro w2 hw2))
      exact bodyPost_ret (v := .agg (grC (turnF f))) (results_gr rfl rfl hw2.blk) rfl ⟨rfl, HQ.out.put hw2⟩

/-! Cut. -/
def cutT (f : Nat → Nat) (W a b t : Nat) : Nat := if t < a then cutF f W t else if t = a then lowN (cutF f W a) b else 0
theorem cutT_zero (f : Nat → Nat) (W t : Nat) : cutT f W 0 0 t = 0 := by
  unfold cutT
  rw [if_neg (by omega)]
  split
  · exact lowN_zero _
  · rfl
theorem cutT_all {f : Nat → Nat} {W a : Nat} (h : cutF f W a < 65536) (t : Nat) : cutT f W a 16 t = cutT f W (a + 1) 0 t := by
  unfold cutT
  by_cases e : t = a
  · subst e; rw [if_neg (by omega), if_pos rfl, if_pos (by omega), lowN_all h]
  · by_cases h1 : t < a
    · rw [if_pos h1, if_pos (by omega)]
    · rw [if_neg h1, if_neg e, if_neg (by omega)]
      split
      · exact (lowN_zero _).symm
      · rfl
theorem cutT_no {f : Nat → Nat} {W a b : Nat} (h : (cutF f W a).testBit b = false) (t : Nat) : cutT f W a b t = cutT f W a (b + 1) t := by
  unfold cutT
  rw [lowN_no h]
theorem cutT_yes {f : Nat → Nat} {W a b : Nat} (h : (cutF f W a).testBit b = true) (t : Nat) : setF (cutT f W a b) a (withN (cutT f W a b a) b) t = cutT f W a (b + 1) t := by
  unfold setF cutT
  by_cases e : t = a
  · subst e
    rw [if_pos rfl, if_neg (by omega), if_pos rfl, if_neg (by omega), if_pos rfl, lowN_yes h]
  · rw [if_neg e, if_neg e]
    by_cases h1 : t < a
    · rw [if_pos h1, if_pos h1]
    · rw [if_neg h1, if_neg e, if_neg h1]
set_option maxRecDepth 100000 in
set_option maxHeartbeats 3200000 in
theorem raCut_any (f : Nat → Nat) (W : Nat) (w : World) (hf : GrOk f) (hW : W < 65536) :
    Calls Tryd.prog 15 #[.agg (grC f), .int .u16 (W : Int)] w fun e w' => e = .returned (.agg (grC (cutF f W))) ∧ Below w.heap.size w w' := by
  have HG0 := Lib.hid (G3.new w f)
  have HF := Lib.hid (fun t (ht : t < 16) => cutF_lt W (hf t ht))
  have HAt := Lib.hid (fun V a b (ha : a < 16) => raAt_any f a b W V hf ha hW)
  clear hf hW
  go_enter Tryd.func15, Tryd.ntmps15
  go_wp2_with fail
  generalize ((w.alloc (.cells (grC f) 23)).alloc _).alloc _ = w1 at *
  obtain ⟨bg, hbg⟩ : ∃ bg, bg = w.heap.size := ⟨_, rfl⟩
  have HBg := Lib.hid hbg
  simp only [← hbg] at HG0 ⊢
  clear hbg
  go_loopw [6] (fun i wr => ∃ a : Nat, a ≤ 16 ∧ i = .int .i64 (a : Int) ∧ G3 w bg f (fun _ => 0) (cutT f W a 0) wr) (fun i _ => 16 - (intOf i).toNat)
  case atStart => exact ⟨0, by omega, rfl, HG0.out.congr fun t _ => (cutT_zero f W t).symm⟩
  case round =>
    obtain ⟨a, ha, rfl, hg⟩ := hrel
    have HG := Lib.hid hg
    clear hg HG0
    by_cases hla : a < 16
    · have da : decide ((a : Int) < 16) = true := by simp; omega
      go_wp2_with fail
      go_loopw [7] (fun i wr => ∃ b : Nat, b ≤ 16 ∧ i = .int .i64 (b : Int) ∧ G3 w bg f (fun _ => 0) (cutT f W a b) wr) (fun i _ => 16 - (intOf i).toNat)
      case atStart => exact ⟨0, by omega, rfl, HG.out⟩
      case round =>
        obtain ⟨b, hb, rfl, hg⟩ := hrel
        have HH := Lib.hid hg
        by_cases hlb : b < 16
        · have db : decide ((b : Int) < 16) = true := by simp; omega
          have HA := Lib.hid (HAt.out wr a b hla)
          cases h1 : edgeB f W a b with
          | false =>
            rw [h1] at HA
            have HC := Lib.hid (cutT_no (f := f) (W := W) (a := a) (b := b) (by rw [cutF_bit]; exact h1))
            clear hg h1
            go_wp2_with (refine wpList_load_gr rfl _ rfl rfl HH.out.gw.row ?_)
            with_reducible refine HA.out.mono ?_
            rintro e wx ⟨rfl, hBx⟩
            have HX := Lib.hid (HH.out.step hBx)
            clear hBx
            go_wp2_with fail
            go_roundw
            case rel => first | exact ⟨b + 1, by omega, by go_num, HX.out.congr fun t _ => HC.out t⟩ | ((repeat apply Exists.intro); exact ⟨⟨b + 1, by omega, by go_num, HX.out.congr fun t _ => HC.out t⟩, rfl⟩)
            case measure => simp [intOf]; omega
          | true =>
            rw [h1] at HA
            have HC := Lib.hid (cutT_yes (f := f) (W := W) (a := a) (b := b) (by rw [cutF_bit]; exact h1))
            have hlt : cutT f W a b a < 65536 := by unfold cutT; rw [if_neg (by omega), if_pos rfl]; exact lowN_lt b (HF.out a hla)
            clear hg h1
            generalize hx : cutT f W a b a = x at *
            have HXe := Lib.hid hx
            have HWi := Lib.hid (fun V => rWith_yes x (b : Int) V hlt (by omega) (by omega))
            rw [Int.toNat_natCast] at HWi
            clear hx
            go_wp2_with (refine wpList_load_gr rfl _ rfl rfl HH.out.gw.row ?_)
            with_reducible refine HA.out.mono ?_
            rintro e wx ⟨rfl, hBx⟩
            have HX := Lib.hid (HH.out.step hBx)
            have k1 := HX.out.o.cell hla
            have f1 := HX.out.o.free a
            rw [HXe.out] at k1
            clear hBx
            go_wp2_with fail
            with_reducible refine (HWi.out _).mono ?_
            rintro e wy ⟨rfl, rfl⟩
            go_wp2_with fail
            go_roundw
            case rel => first | exact ⟨b + 1, by omega, by go_num, HX.out.set hla _ fun t _ => HC.out t⟩ | ((repeat apply Exists.intro); exact ⟨⟨b + 1, by omega, by go_num, HX.out.set hla _ fun t _ => HC.out t⟩, rfl⟩)
            case measure => simp [intOf]; omega
        · obtain rfl : b = 16 := by omega
          have HC := Lib.hid (cutT_all (HF.out a hla))
          clear hg
          go_wp2_with fail
          go_roundw
          case rel => first | exact ⟨a + 1, by omega, by go_num, HH.out.congr fun t _ => HC.out t⟩ | ((repeat apply Exists.intro); exact ⟨⟨a + 1, by omega, by go_num, HH.out.congr fun t _ => HC.out t⟩, rfl⟩)
          case measure => simp [intOf]; omega
    · obtain rfl : a = 16 := by omega
      have HQ := Lib.hid (HG.out.congr (p := cutF f W) fun t ht => by unfold cutT; rw [if_pos ht])
      clear HG
      go_wp2_with (first | (with_reducible refine wpList_load_gr rfl _ rfl rfl HQ.out.o ?_) | (with_reducible refine wpList_store_gr rfl rfl _ _ rfl rfl rfl HQ.out.r ?_; intro w2 hw2))
      exact bodyPost_ret (v := .agg (grC (cutF f W))) (results_gr rfl rfl hw2.blk) rfl ⟨rfl, HQ.out.put hw2⟩
end Go.Proofs.YtajilnoebhipbaaDoor

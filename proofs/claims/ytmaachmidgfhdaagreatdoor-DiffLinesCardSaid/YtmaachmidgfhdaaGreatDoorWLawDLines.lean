/-
  The law DiffLines, from the program's contracts.
-/
import Derived.Test.YtmaachmidgfhdaaGreatDoorWDifC
import Derived.Test.YtmaachmidgfhdaaGreatDoorWDifL
import Derived.Test.YtmaachmidgfhdaaGreatDoorWDifQ
import Derived.Test.YtmaachmidgfhdaaGreatDoorWPolTwo
import Derived.Test.YtmaachmidgfhdaaGreatDoorW3
import Derived.Test.YtmaachmidgfhdaaGreatDoorW2
import Derived.Test.YtmaachmidgfhdaaGreatDoorW1
/-! LawDLines -/
namespace Go.Proofs.YtmaachmidgfhdaaGreatDoor
open Go.RowKit

/-- The answers so far hold the same strings. -/
def DlC (K : World → Prop) (ls : List (List UInt8)) (vs : List Value) (V : World) : Prop := K V ∧ ∀ a ∈ vs, StrsAt V a ls
theorem DlC_val {K : World → Prop} {ls : List (List UInt8)} {vs : List Value} {V : World} {k : Nat} (hk : k < vs.length) (h : DlC K ls vs V) : StrsAt V (vs.getD k undef) ls := by
  rw [List.getD_eq_getElem?_getD, List.getElem?_eq_getElem hk]
  exact h.2 _ (List.getElem_mem hk)
theorem DlC_step {K : World → Prop} {ls : List (List UInt8)} {vs : List Value} {V V' : World} (hK : K V → K V') (hB : Below V.heap.size V V') (h : DlC K ls vs V) : DlC K ls vs V' := ⟨hK h.1, fun a ha => (h.2 a ha).below hB (Nat.le_refl _)⟩
theorem DlC_more {K : World → Prop} {ls : List (List UInt8)} {vs : List Value} {V V' : World} {u : Value} (hK : K V → K V') (hB : Below V.heap.size V V') (h : DlC K ls vs V) (hu : StrsAt V' u ls) : DlC K ls (vs ++ [u]) V' :=
  ⟨hK h.1, fun a ha => by
    rcases List.mem_append.1 ha with ha | ha
    · exact (h.2 a ha).below hB (Nat.le_refl _)
    · rw [List.mem_singleton.1 ha]; exact hu⟩
set_option maxRecDepth 100000 in
set_option maxHeartbeats 3200000 in
theorem dlines_any {G : World → Prop} (gK : GoodC G) (cL : DLinesC G) (cT : RTextC) (hA : DAliveC G) (p q : Pol) (w : World) (hw : G w) (hp : PolOk p) (hq : PolOk q) : Calls Tryz.prog 3 #[.agg (polC p), .agg (polC q)] w fun e w' => e = .returned (.bool true) ∧ Below w.heap.size w w' := by
  have HMp := Lib.hid (fun V => rpMend_any p V hp)
  have HMq := Lib.hid (fun V => rpMend_any q V hq)
  have HG := Lib.hid (SoW.new w p q)
  have HLn := Lib.hid (fun V (hV : Below w.heap.size w V) => cL (mendN p) (mendN q) V (gK.keep hw hV) (mendN_ok hp) (mendN_ok hq) (mend_fine hp) (mend_fine hq))
  have HRl := Lib.hid (fun V => rdLines_any cT (mendN p) (mendN q) (mendN_ok hp) (mendN_ok hq) V)
  have HAl := Lib.hid (fun V (hV : Below w.heap.size w V) => hA V (gK.keep hw hV))
  clear gK cL cT hA hw hp hq
  generalize linesL (mendN p) (mendN q) = ls at *
  go_enter Tryz.func3, Tryz.ntmps3
  go_upto_region 1 with fail
  generalize (w.alloc _).alloc _ = w1 at *
  refine wp_region_I (MqI w (w.heap.size) (w.heap.size + 1) p q (mendN p) (mendN q)) (fun x => { tmps := #[.agg (polC p), .agg (polC q), .pointer (some ⟨w.heap.size, 0, none⟩), .pointer (some ⟨w.heap.size + 1, 0, none⟩), .bool false, x 0, x 1, x 2, x 3, undef, undef, undef, undef, undef, undef, undef, undef, undef, undef], defers := [] }) (fun i => ([undef, undef, undef, undef, undef, undef] : List Value).getD i undef) (by kernel_rfl) rfl (by kernel_rfl) (MqI.start _ (HG.out.below.trans ((Below.refl w1.heap.size w1).drew.mono HG.out.below.size)) (HG.out.pr.step (Below.refl _ _).drew) (HG.out.qr.step (Below.refl _ _).drew)) ?_ ?_
  · refine ⟨⟨fun x v => rfl, fun L x V h hL hD => ?_⟩, ?_⟩
    · refine want_yes rfl ?_
      exact leads_value (exec_load_pol rfl rfl (h.p1 (h.early (.inl hL)).1)) (h.meet (i := 0) (by decide) hL _ (Below.refl _ _) (fun _ => rfl) (fun e => by cases e) (fun e => by cases e) (fun e => by cases e))
    refine ⟨⟨fun x v => rfl, fun L x V h hL hD => ?_⟩, ?_⟩
    · refine want_yes rfl ?_
      have h0 := hD.1 rfl
      have e0 := h.v0 h0
      exact leads_enter2 (by go_simp) ((HMp.out V).mono fun en w'' ⟨he, hB⟩ => ⟨_, he, h.meet (i := 1) (by decide) hL _ hB (fun e => by cases e) (fun _ => ⟨rfl, h0⟩) (fun e => by cases e) (fun e => by cases e)⟩)
    refine ⟨⟨fun x v => rfl, fun L x V h hL hD => ?_⟩, ?_⟩
    · refine want_yes rfl ?_
      exact leads_value (exec_load_pol rfl rfl (h.q1 (h.early (.inr (.inr (.inl hL)))).2)) (h.meet (i := 2) (by decide) hL _ (Below.refl _ _) (fun e => by cases e) (fun e => by cases e) (fun _ => rfl) (fun e => by cases e))
    refine ⟨⟨fun x v => rfl, fun L x V h hL hD => ?_⟩, ?_⟩
    · refine want_yes rfl ?_
      have h2 := hD.1 rfl
      have h1 := hD.2.1 rfl
      have e2 := h.v2 h2
      exact leads_enter2 (by go_simp) ((HMq.out V).mono fun en w'' ⟨he, hB⟩ => ⟨_, he, h.meet (i := 3) (by decide) hL _ hB (fun e => by cases e) (fun e => by cases e) (fun e => by cases e) (fun _ => ⟨rfl, h1, h2⟩)⟩)
    refine ⟨⟨fun x v => rfl, fun L x V h hL hD => ?_⟩, ?_⟩
    · refine want_yes rfl ?_
      have h1 := hD.1 rfl
      have h3 := hD.2.1 rfl
      have e1 := h.v1 h1
      exact leadsP_mono (leads_store_row rfl rfl e1 (h.p1 hL) (infoPol _) (by rw [polC_size, polC_size]) (polC_one _)) fun u V' hp => h.store1 (Nat.le_refl _) (by omega) hL h3 (putB_put2 hp) u
    refine ⟨⟨fun x v => rfl, fun L x V h hL hD => ?_⟩, ?_⟩
    · refine want_yes rfl ?_
      have h3 := hD.1 rfl
      have h4 := hD.2.1 rfl
      have e3 := h.v3 h3
      exact leadsP_mono (leads_store_row rfl rfl e3 (h.q1 hL) (infoPol _) (by rw [polC_size, polC_size]) (polC_one _)) fun u V' hp => h.store2 (by omega) (by omega) h4 (putB_put2 hp) u
    trivial
  intro L x V hL hI
  have HG2 := Lib.hid (show SoW w (mendN p) (mendN q) V from ⟨hI.below, hI.p2 (hL 4 (by decide)), hI.q2 (hL 5 (by decide))⟩)
  clear hI hL HG HMp HMq
  generalize x 0 = y0
  generalize x 1 = y1
  generalize x 2 = y2
  generalize x 3 = y3
  go_upto_region 2 with fail
  refine wp_region_L (DlC (fun V => SoW w (mendN p) (mendN q) V) ls) 2 [.val (.agg (polC (mendN p))), .val (.agg (polC (mendN q))), .turn 0, .val (.agg (polC (mendN p))), .val (.agg (polC (mendN q))), .turn 1, .val (.bool true), .val (.bool true), .val (.bool true), .val (.bool true), .val (.bool true)]
    (fun x => { tmps := #[.agg (polC p), .agg (polC q), .pointer (some ⟨w.heap.size, 0, none⟩), .pointer (some ⟨w.heap.size + 1, 0, none⟩), x 10, y0, y1, y2, y3, x 0, x 1, x 2, x 3, x 4, x 5, x 6, x 7, x 8, x 9], defers := [] }) (fun i => ([undef, undef, undef, undef, undef, undef, undef, undef, undef, undef, .bool false] : List Value).getD i undef) (by kernel_rfl) rfl rfl (by kernel_rfl) (by kernel_rfl) (by kernel_rfl) (by kernel_rfl) (⟨HG2.out.step (Below.refl _ _).drew, fun a ha => by cases ha⟩) ?_ ?_
  · refine ⟨ObL.of_val rfl (fun x v => rfl) (fun x V vs hC hD => ?_), ?_⟩
    · clear hD
      refine want_yes rfl ?_
      exact leads_value (exec_load_pol rfl rfl hC.1.pr) ⟨rfl, hC⟩
    refine ⟨ObL.of_val rfl (fun x v => rfl) (fun x V vs hC hD => ?_), ?_⟩
    · clear hD
      refine want_yes rfl ?_
      exact leads_value (exec_load_pol rfl rfl hC.1.qr) ⟨rfl, hC⟩
    refine ⟨ObL.of_turn rfl (fun x v => rfl) (fun x V vs hl hC hD => ?_), ?_⟩
    · obtain rfl := len_zero hl
      have e0 : x 0 = .agg (polC (mendN p)) := (hD.1 rfl).1
      have e1 : x 1 = .agg (polC (mendN q)) := (hD.2.1 rfl).1
      clear hD
      refine want_yes rfl ?_
      refine leads_enter2 (by go_simp) ((HLn.out V hC.1.below).mono fun e w'' hO => ?_)
      obtain ⟨u, he, hr, hB⟩ := hO
      exact ⟨_, he, DlC_more (fun h => SoW.step h hB) hB hC (strsRow_at hr)⟩
    refine ⟨ObL.of_val rfl (fun x v => rfl) (fun x V vs hC hD => ?_), ?_⟩
    · clear hD
      refine want_yes rfl ?_
      exact leads_value (exec_load_pol rfl rfl hC.1.pr) ⟨rfl, hC⟩
    refine ⟨ObL.of_val rfl (fun x v => rfl) (fun x V vs hC hD => ?_), ?_⟩
    · clear hD
      refine want_yes rfl ?_
      exact leads_value (exec_load_pol rfl rfl hC.1.qr) ⟨rfl, hC⟩
    refine ⟨ObL.of_turn rfl (fun x v => rfl) (fun x V vs hl hC hD => ?_), ?_⟩
    · obtain ⟨a0, rfl⟩ := len_one hl
      have e3 : x 3 = .agg (polC (mendN p)) := (hD.1 rfl).1
      have e4 : x 4 = .agg (polC (mendN q)) := (hD.2.1 rfl).1
      clear hD
      refine want_yes rfl ?_
      refine leads_enter2 (by go_simp) ((HRl.out V).mono fun e w'' hO => ?_)
      obtain ⟨u, he, hr, hB⟩ := hO
      exact ⟨_, he, DlC_more (fun h => SoW.step h hB) hB hC (strsRow_at hr)⟩
    refine ⟨ObL.of_val rfl (fun x v => rfl) (fun x V vs hC hD => ?_), ?_⟩
    · have e2 : x 2 = vs.getD 0 undef := (hD.1 rfl).1
      have n2 : 0 < vs.length := (hD.1 rfl).2
      have e5 : x 5 = vs.getD 1 undef := (hD.2.1 rfl).1
      have n5 : 1 < vs.length := (hD.2.1 rfl).2
      clear hD
      refine want_yes rfl ?_
      have s2 := DlC_val n2 hC
      have s5 := DlC_val n5 hC
      clear n2 n5
      generalize vs.getD 0 undef = y0 at *
      generalize vs.getD 1 undef = y1 at *
      exact leads_enter2 (by go_simp) ((sameS_any _ _ ls V s2 s5).mono fun e w'' ⟨he, hB⟩ => ⟨_, he, rfl, DlC_step (fun h => SoW.step h hB) hB hC⟩)
    refine ⟨ObL.of_val rfl (fun x v => rfl) (fun x V vs hC hD => ?_), ?_⟩
    · have e6 : x 6 = .bool true := (hD.1 rfl).1
      clear hD
      refine want_yes rfl ?_
      exact leads_value (v := .bool true) (by go_simp) ⟨rfl, hC⟩
    refine ⟨ObL.of_val rfl (fun x v => rfl) (fun x V vs hC hD => ?_), ?_⟩
    · have e7 : x 7 = .bool true := (hD.1 rfl).1
      clear hD
      refine want_yes (by simp [Region.wanted, yielded, e7]) ?_
      exact leads_enter2 (by go_simp) ((HAl.out V hC.1.below).mono fun e w'' ⟨he, hB⟩ => ⟨_, he, rfl, DlC_step (fun h => SoW.step h hB) hB hC⟩)
    refine ⟨ObL.of_val rfl (fun x v => rfl) (fun x V vs hC hD => ?_), ?_⟩
    · have e7 : x 7 = .bool true := (hD.1 rfl).1
      have e8 : x 8 = .bool true := (hD.2.1 rfl).1
      clear hD
      refine want_yes rfl ?_
      exact leads_value (v := .bool true) (by go_simp) ⟨rfl, hC⟩
    refine ⟨ObL.of_val rfl (fun x v => rfl) (fun x V vs hC hD => ?_), ?_⟩
    · have e9 : x 9 = .bool true := (hD.1 rfl).1
      clear hD
      refine want_yes rfl ?_
      exact leads_value (v := .bool true) (by go_simp) ⟨rfl, hC⟩
    trivial
  · intro xb V vs hl hC hx
    have e10 : xb 10 = .bool true := hx 10 (by simp)
    have HV := Lib.hid hC.1.below
    clear hx hC hl
    rw [e10]
    clear e10
    go_wp2_with fail
    go_ret
    exact ⟨rfl, HV.out⟩
end Go.Proofs.YtmaachmidgfhdaaGreatDoor

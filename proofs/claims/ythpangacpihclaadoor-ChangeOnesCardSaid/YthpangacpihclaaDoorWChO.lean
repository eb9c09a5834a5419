/-
  The document's changes: drop, tag, One.
-/
import Derived.Test.YthpangacpihclaaDoorWChR
import Derived.Test.YthpangacpihclaaDoorW3
import Derived.Test.YthpangacpihclaaDoorW2
import Derived.Test.YthpangacpihclaaDoorW1
/-! ChO -/
namespace Go.Proofs.YthpangacpihclaaDoor
open Go.RowKit

/-- The policy, the change, and the place for the answer. -/
structure OnW (w : World) (b : Nat) (p : Pol) (c : Cg) (V : World) : Prop where
  below : Below b w V
  row : PRow V b p
  cg : Blk V (b + 1) (chgC c) 31
  res : PRow V (b + 1 + 1) zeroP
  at_ : b = w.heap.size
theorem OnW.step {w : World} {b : Nat} {p : Pol} {c : Cg} {V V' : World} (h : OnW w b p c V) (hB : Below V.heap.size V V') : OnW w b p c V' :=
  ⟨h.below.trans (hB.mono (by rw [h.at_]; exact h.below.size)), h.row.step hB, h.cg.below hB h.cg.lt, h.res.step hB, h.at_⟩
theorem OnW.all {w : World} {b : Nat} {p : Pol} {c : Cg} {V : World} (h : OnW w b p c V) : Below w.heap.size w V := by rw [← h.at_]; exact h.below
theorem OnW.new (w : World) (p : Pol) (c : Cg) : OnW w w.heap.size p c (((w.alloc (.cells (polC p) 29)).alloc (.cells (chgC c) 31)).alloc (.cells (polC zeroP) 29)) := by
  refine ⟨((belowNew w _).alloc (by simp) _).alloc (by simp; omega) _, ((PRow.new w p).alloc _).alloc _, ?_, ?_, rfl⟩
  · have h := Blk.new (w.alloc (.cells (polC p) 29)) (chgC c) 31
    simp only [World.size_alloc] at h
    exact h.alloc _
  · have h := PRow.new ((w.alloc (.cells (polC p) 29)).alloc (.cells (chgC c) 31)) zeroP
    simp only [World.size_alloc] at h
    exact h
theorem OnW.cell {w : World} {b : Nat} {p q : Pol} {c : Cg} {V : World} (h : OnW w b p c V) {k : Nat} {u : Value} (hr : PRow (V.setCell ⟨b, k, none⟩ u) b q) : OnW w b q c (V.setCell ⟨b, k, none⟩ u) :=
  ⟨h.below.setCell (by simp) _, hr, Blk.set_other h.cg (by show ¬ b = b + 1; omega) _, Blk.set_other h.res (by show ¬ b = b + 1 + 1; omega) _, h.at_⟩
theorem OnW.put {w : World} {b : Nat} {p q : Pol} {c : Cg} {V V' : World} (h : OnW w b p c V) (hp : Put V V' b (polC q) 29) : OnW w b q c V' :=
  ⟨h.below.trans (hp.below (by rw [h.at_]; exact h.below.size) (Nat.le_refl _)), hp.blk, hp.chg.kept h.cg (by show ¬ b + 1 = b; omega), hp.chg.kept h.res (by show ¬ b + 1 + 1 = b; omega), h.at_⟩
theorem OnW.out {w : World} {b : Nat} {p : Pol} {c : Cg} {V V' : World} {cs : Array Value} {t : TypeId} (h : OnW w b p c V) (hp : Put V V' (b + 1 + 1) cs t) : Below w.heap.size w V' := by
  have hb := h.below.trans (hp.below (by rw [h.at_]; exact h.below.size) (by omega))
  rw [← h.at_]; exact hb
theorem OnW.c0 {w : World} {b : Nat} {p : Pol} {c : Cg} {V : World} (h : OnW w b p c V) : V.cell? ⟨b + 1, 0, none⟩ = some (.int .i64 c.kind) := h.cg.cell 0
theorem OnW.c1 {w : World} {b : Nat} {p : Pol} {c : Cg} {V : World} (h : OnW w b p c V) : V.cell? ⟨b + 1, 1, none⟩ = some (.int .i64 c.a) := h.cg.cell 1
theorem OnW.c2 {w : World} {b : Nat} {p : Pol} {c : Cg} {V : World} (h : OnW w b p c V) : V.cell? ⟨b + 1, 2, none⟩ = some (.int .i64 c.b) := h.cg.cell 2
theorem OnW.c3 {w : World} {b : Nat} {p : Pol} {c : Cg} {V : World} (h : OnW w b p c V) : V.cell? ⟨b + 1, 3, none⟩ = some (.int .u16 (c.s : Int)) := h.cg.cell 3
theorem OnW.c4 {w : World} {b : Nat} {p : Pol} {c : Cg} {V : World} (h : OnW w b p c V) : V.cell? ⟨b + 1, 4, none⟩ = some (.int .u16 (c.i : Int)) := h.cg.cell 4
/-- A whole policy is stored. -/
theorem put_pol {w : World} {b : Nat} {p q : Pol} (h : PRow w b p) : Put w (w.setRow b (polC q)) b (polC q) 29 := ⟨⟨rfl, rfl, rfl, by simp, fun k _ hk => setRow_other w b k _ hk⟩, setRow_heap w b _ _ _ _ h⟩
def OneIs (p : Pol) (c : Cg) (w : World) (e : Ending) (w' : World) : Prop := e = .returned (.tuple #[.agg (polC (oneP p c)), .int .i64 (oneE p c)]) ∧ Below w.heap.size w w'
theorem results_pol2 {fn : Func} {p q : Tmp} (h : fn.results = #[.cell p 29, .tmp q]) {tmps : Array Value} {w : World} {b : Nat} {P : Pol} {v : Value} (hp : tmps.getD p undef = .pointer (some ⟨b, 0, none⟩)) (hq : tmps.getD q undef = v) (hr : PRow w b P) :
    (results fn tmps).run Tryd.prog w = .ok (.tuple #[.agg (polC P), v]) w := by
  have hp' : tmps[p]?.getD undef = .pointer (some ⟨b, 0, none⟩) := by simpa using hp
  have hq' : tmps[q]?.getD undef = v := by simpa using hq
  simp [results, h, hp', hq', asAddr, run_loadVar_row w b _ 29 (polC P) _ _ hr Tryd.underlying29 rfl (infoPol P)]
theorem cg_ok {k : Int} {a b s i : Nat} (hk1 : 0 ≤ k) (hk2 : k ≤ 6) (ha : a < 16) (hb : b ≤ 16) (hs : s < 65536) (hi : i < 65536) : CgOk ⟨k, a, b, s, i⟩ :=
  ⟨⟨by show _ ≤ k; omega, by show k ≤ _; omega⟩, ⟨by show _ ≤ (a : Int); omega, by show (a : Int) ≤ _; omega⟩, ⟨by show _ ≤ (b : Int); omega, by show (b : Int) ≤ _; omega⟩, hs, hi⟩
theorem one_is {p : Pol} {k : Nat} {a b s i : Nat} {e : Int} (hc : cgB ⟨(k : Int), a, b, s, i⟩ = true) (h : effE p k a b s i = e) : oneE p ⟨(k : Int), a, b, s, i⟩ = e ∧ oneP p ⟨(k : Int), a, b, s, i⟩ = if e = 0 then effP p k a b s i else zeroP := by
  have h1 : oneE p ⟨(k : Int), a, b, s, i⟩ = e := by unfold oneE; rw [if_pos hc]; exact h
  refine ⟨h1, ?_⟩
  unfold oneP
  rw [h1]; rfl
theorem one_ok {p q : Pol} {k : Nat} {a b s i : Nat} (hc : cgB ⟨(k : Int), a, b, s, i⟩ = true) (h : effE p k a b s i = 0) (hq : effP p k a b s i = q) : oneE p ⟨(k : Int), a, b, s, i⟩ = 0 ∧ oneP p ⟨(k : Int), a, b, s, i⟩ = q := by
  obtain ⟨h1, h2⟩ := one_is hc h
  exact ⟨h1, by rw [h2, if_pos rfl, hq]⟩
theorem one_no {p : Pol} {k : Nat} {a b s i : Nat} {e : Int} (hc : cgB ⟨(k : Int), a, b, s, i⟩ = true) (he : e ≠ 0) (h : effE p k a b s i = e) : oneE p ⟨(k : Int), a, b, s, i⟩ = e ∧ oneP p ⟨(k : Int), a, b, s, i⟩ = zeroP := by
  obtain ⟨h1, h2⟩ := one_is hc h
  exact ⟨h1, by rw [h2, if_neg he]⟩
theorem with_zero (V : World) {a : Nat} (ha : a < 16) : Calls Tryd.prog 36 #[.int .u16 0, .int .i64 (a : Int)] V fun e w' => e = .returned (.int .u16 (withN 0 a : Nat)) ∧ V = w' := by
  have h := rWith_yes 0 (a : Int) V (by decide) (by omega) (by omega)
  rw [Int.toNat_natCast] at h
  exact h
/-- A policy ahead of the store, and behind it. -/
def turnA (p : Pol) (a v n : Nat) : Pol := if n < 2 then p else p.putA a v
/-- drop's policy, behind the load and behind the store. -/
def drpP (p : Pol) (nl n : Nat) : Pol := if n < 2 then p else { p with live := nl }
set_option maxRecDepth 100000 in
set_option maxHeartbeats 3200000 in
theorem rcDrop_any (p : Pol) (a : Nat) (w : World) (hp : PolOk p) (ha : a < 16) :
    Calls Tryd.prog 40 #[.agg (polC p), .int .i64 (a : Int)] w fun e w' => e = .returned (.agg (polC (dropP p a))) ∧ Below w.heap.size w w' := by
  have HG := Lib.hid (MW.new w p)
  have HW := Lib.hid (fun V => with_zero V ha)
  have HL := Lib.hid (fun V => rLess_any p.live (withN 0 a) V hp.live (withN_lt (by decide) ha))
  have hq : PolOk { p with live := lessN p.live (withN 0 a) } := ⟨lessN_lt _ hp.live, hp.active, hp.s, hp.i, hp.acts, hp.owner⟩
  have HM := Lib.hid (fun V => rpMend_any { p with live := lessN p.live (withN 0 a) } V hq)
  have HD := Lib.hid (show dropP p a = mendN { p with live := lessN p.live (withN 0 a) } from rfl)
  rw [HD.out]
  clear hp hq HD
  generalize hone : withN 0 a = one at *
  clear hone
  generalize hnl : lessN p.live one = nl at *
  clear hnl
  go_enter Tryd.func40, Tryd.ntmps40
  go_upto_region 1 with fail
  generalize (w.alloc (.cells (polC p) 29)).alloc _ = w1 at *
  obtain ⟨bp, hbp⟩ : ∃ b, b = w.heap.size := ⟨_, rfl⟩
  rw [← hbp] at HG ⊢
  have HBp := Lib.hid hbp
  clear hbp
  refine wp_region_S (fun n V => MW w bp (drpP p nl n) V) 2 [.val (.pointer (some ⟨bp, 0, none⟩)), .turn 0 (.int .u16 (p.live : Int)), .val (.int .i64 (a : Int)), .val (.int .u16 (one : Int)), .val (.int .u16 (nl : Int)), .val (.pointer (some ⟨bp, 0, none⟩)), .turn 1 (undef)]
    (fun x => { tmps := #[.agg (polC p), .int .i64 (a : Int), .pointer (some ⟨bp, 0, none⟩), undef, .pointer (some ⟨bp + 1, 0, none⟩), x 0, x 1, x 2, x 3, x 4, x 5, undef, undef], defers := [] }) (fun i => ([undef, undef, undef, undef, undef, undef, undef] : List Value).getD i undef) (by kernel_rfl) rfl rfl (by kernel_rfl) (by kernel_rfl) (by kernel_rfl) (by kernel_rfl) (HG.out.step (Below.refl _ _).drew) ?_ ?_
  · refine ⟨ObS.of_val rfl (fun x v => rfl) (fun x V kst hC hD => ?_), ?_⟩
    · clear hD
      refine want_yes rfl ?_
      exact leads_value (v := .pointer (some ⟨bp, 0, none⟩)) (by go_simp) ⟨rfl, hC⟩
    refine ⟨ObS.of_turn rfl (fun x v => rfl) (fun x V hC hD => ?_), ?_⟩
    · have e0 : x 0 = .pointer (some ⟨bp, 0, none⟩) := hD.1 rfl
      clear hD
      refine want_yes rfl ?_
      have k0 : V.cell? ⟨bp, 0, none⟩ = some (.int .u16 (p.live : Int)) := hC.row.live
      exact leads_value (v := .int .u16 (p.live : Int)) (by go_simp) ⟨rfl, hC⟩
    refine ⟨ObS.of_val rfl (fun x v => rfl) (fun x V kst hC hD => ?_), ?_⟩
    · clear hD
      refine want_yes rfl ?_
      exact leads_value (v := .int .i64 (a : Int)) (by go_simp) ⟨rfl, hC⟩
    refine ⟨ObS.of_val rfl (fun x v => rfl) (fun x V kst hC hD => ?_), ?_⟩
    · have e2 : x 2 = .int .i64 (a : Int) := hD.1 rfl
      clear hD
      refine want_yes rfl ?_
      exact leads_enter2 (by go_simp) ((HW.out V).mono fun e w'' ⟨he, hB⟩ => ⟨_, he, rfl, hB ▸ hC⟩)
    refine ⟨ObS.of_val rfl (fun x v => rfl) (fun x V kst hC hD => ?_), ?_⟩
    · have e1 : x 1 = .int .u16 (p.live : Int) := hD.1 rfl
      have e3 : x 3 = .int .u16 (one : Int) := hD.2.1 rfl
      clear hD
      refine want_yes rfl ?_
      exact leads_enter2 (by go_simp) ((HL.out V).mono fun e w'' ⟨he, hB⟩ => ⟨_, he, rfl, hB ▸ hC⟩)
    refine ⟨ObS.of_val rfl (fun x v => rfl) (fun x V kst hC hD => ?_), ?_⟩
    · clear hD
      refine want_yes rfl ?_
      exact leads_value (v := .pointer (some ⟨bp, 0, none⟩)) (by go_simp) ⟨rfl, hC⟩
    refine ⟨ObS.of_turn rfl (fun x v => rfl) (fun x V hC hD => ?_), ?_⟩
    · have e5 : x 5 = .pointer (some ⟨bp, 0, none⟩) := hD.1 rfl
      have e4 : x 4 = .int .u16 (nl : Int) := hD.2.1 rfl
      clear hD
      refine want_yes rfl ?_
      have k0 := hC.row.live
      have f0 := Blk.free hC.row 0
      exact leads_skipP (w' := V.setCell ⟨bp, 0, none⟩ (.int .u16 (nl : Int))) (by go_simp) ⟨rfl, hC.cell (hC.row.putL nl)⟩
    trivial
  · intro xa V hC hx
    have HV := Lib.hid (show MW w bp (drpP p nl 2) V from hC)
    clear hx hC HG
    have hrow := HV.out.row
    have hres := HV.out.res
    go_wp2_with (refine wpList_load_arr rfl _ _ rfl rfl hrow Tryd.underlying29 rfl (infoPol _) ?_)
    refine (HM.out _).mono ?_
    rintro e w3 ⟨rfl, hB3⟩
    have HV3 := Lib.hid (HV.out.step hB3)
    have hres := HV3.out.res
    clear hB3 hrow HV
    go_wp2_with (refine wpList_store_arr rfl rfl _ _ _ rfl rfl rfl hres (infoPol _) (by rw [polC_size, polC_size]) (polC_one _) ?_; intro w9 hw9)
    exact bodyPost_ret (results_arr rfl rfl hw9.blk Tryd.underlying29 rfl (infoPol _)) rfl ⟨rfl, by rw [← HBp.out]; exact HV3.out.below.trans (hw9.below (Nat.le_of_lt HV3.out.row.lt) (by omega))⟩
end Go.Proofs.YthpangacpihclaaDoor

/-
  The program's parser: what is left, the nodes so far; first, next, take, add, leading.
-/
import Derived.Test.YtfhjmhmgkdadhaaDoorWPpA
/-! PpB -/
namespace Go.Proofs.YtfhjmhmgkdadhaaDoor
open Go.RowKit

def prsC (L O : Value) : Array Value := #[L, O]
theorem infoPp (x : Pc × Nat) : (Tryd.prog.info? 44).map (·.size) = some (pieC x).size := by rw [pieC_size]; kernel_rfl
abbrev OwnPp (b : Nat) (V : World) (O : Value) (out : List Qn) : Prop := V.ownsRow (b + 1) 34 2 O out.length (flatC nodC out)
/-- The parser at a place of its own. -/
structure PrW (b : Nat) (T : Toks) (out : List Qn) (L O : Value) (V : World) : Prop where
  blk : Blk V b (prsC L O) 41
  pcs : PiesAt V L T
  low : ∀ a n c, L = .slice (some a) n c → a.block < b
  own : OwnPp b V O out
  toks : ToksEnd T
theorem PrW.lt {b : Nat} {T : Toks} {out : List Qn} {L O : Value} {V : World} (h : PrW b T out L O V) : b < V.heap.size := h.blk.lt
theorem PrW.step {b : Nat} {T : Toks} {out : List Qn} {L O : Value} {V V' : World} (h : PrW b T out L O V) (hB : Below V.heap.size V V') : PrW b T out L O V' :=
  ⟨Blk.below h.blk hB h.lt, h.pcs.below hB (Nat.le_refl _), h.low, own_belowC h.own hB, h.toks⟩
theorem ToksEnd.ne {T : Toks} (h : ToksEnd T) : ∃ x r, T = x :: r := by
  obtain ⟨T0, k, rfl, -⟩ := h
  cases T0 with
  | nil => exact ⟨_, _, rfl⟩
  | cons x r => exact ⟨_, _, rfl⟩
theorem ToksEnd.rest {x : Pc × Nat} {r : Toks} (h : ToksEnd (x :: r)) (hx : ¬ x.1.kind = 5) : ToksEnd r := by
  obtain ⟨T0, k, e, h2⟩ := h
  cases T0 with
  | nil =>
    rw [List.nil_append] at e
    obtain ⟨rfl, -⟩ := List.cons.inj e
    exact absurd rfl hx
  | cons y T1 =>
    obtain ⟨rfl, e2⟩ := List.cons.inj e
    exact ⟨T1, k, e2, fun z hz => h2 z (List.mem_cons_of_mem _ hz)⟩
theorem ToksEnd.five {x : Pc × Nat} {r : Toks} (h : ToksEnd (x :: r)) (hx : x.1.text ≠ []) : ¬ x.1.kind = 5 := h.text (I := 0) (by simp) hx
/-- The next piece's cells. -/
theorem PrW.cell {b : Nat} {x : Pc × Nat} {r : Toks} {out : List Qn} {L O : Value} {V : World} (h : PrW b (x :: r) out L O V) : ∃ g off cap, L = .slice (some ⟨g, off, none⟩) (r.length + 1) cap ∧ g < b ∧ r.length + 1 ≤ cap ∧ cap ≤ 9223372036854775807 ∧ CellsAt V g off (pieC x) := by
  obtain ⟨g, off, cap, rfl, h1, h2, -⟩ := h.pcs.shape (by simp)
  refine ⟨g, off, cap, rfl, h.low _ _ _ rfl, h1, h2, ?_⟩
  have := (h.pcs.elem (i := 0) (by simp)).2
  rwa [Nat.zero_mul, Nat.add_zero] at this
theorem OwnPp.grown {b : Nat} {V : World} {O : Value} {out : List Qn} (h : OwnPp b V O out) {r : Nat} (e : O.ownBlock = some r) : b < r := ndRow_low h e
set_option maxRecDepth 100000 in
set_option maxHeartbeats 1600000 in
theorem ppFirst_any {b : Nat} {x : Pc × Nat} {r : Toks} {out : List Qn} {L O : Value} {V : World} (h : PrW b (x :: r) out L O V) : Calls Tryd.prog 19 #[.pointer (some ⟨b, 0, none⟩)] V fun e w' => e = .returned (.agg (pieC x)) ∧ Below V.heap.size V w' := by
  obtain ⟨g, off, cap, rfl, hg, hc1, hc2, hc⟩ := h.cell
  have HW := Lib.hid (show ∀ cs W, W = V.alloc (.cells cs 44) → Below V.heap.size V W ∧ Blk W V.heap.size cs 44 from fun cs W e => by subst e; exact ⟨belowNew V _, Blk.new V _ _⟩)
  have HP := Lib.hid h
  have HC := Lib.hid (fun W (hW : Below V.heap.size V W) => hc.below hW (Nat.lt_trans hg h.lt))
  have i0 : (0 : Int) < ((r.length + 1 : Nat) : Int) := by omega
  generalize r.length + 1 = n at *
  clear hc h hg
  go_enter Tryd.func19, Tryd.ntmps19
  go_upto_region 1 with fail
  obtain ⟨W, hWe⟩ : ∃ W, W = V.alloc (.cells #[.int .i64 0, .string ⟨#[]⟩, .int .i64 0, .int .i64 0] 44) := ⟨_, rfl⟩
  have HB := Lib.hid (HW.out _ W hWe).1
  have HK := Lib.hid (HW.out _ W hWe).2
  rw [← hWe]
  have c0 : W.cell? ⟨b, 0, none⟩ = some (.slice (some ⟨g, off, none⟩) n cap) := (HP.out.step HB.out).blk.cell 0
  clear hWe HW
  go_wp2_with (first | (refine wpList_load_cells rfl _ _ rfl rfl (HC.out _ HB.out) Tryd.underlying44 rfl (infoPp _) ?_) | (refine wpList_store_arr (new := pieC x) rfl rfl _ _ _ rfl rfl rfl HK.out (infoPp _) rfl (pieC_one _) ?_; intro w9 hw9; have HK9 := Lib.hid hw9.blk; have HB9 := Lib.hid (HB.out.trans (hw9.below HB.out.size (Nat.le_refl _))); clear hw9))
  exact bodyPost_ret (v := .agg (pieC x)) (results_arr rfl rfl HK9.out Tryd.underlying44 rfl (infoPp _)) rfl ⟨rfl, HB9.out⟩
theorem prsC_put0 (L O u : Value) : (prsC L O).setIfInBounds 0 u = prsC u O := rfl
theorem prsC_put1 (L O u : Value) : (prsC L O).setIfInBounds 1 u = prsC L u := rfl
theorem PrW.put0 {b : Nat} {x : Pc × Nat} {r : Toks} {out : List Qn} {g off n c : Nat} {O : Value} {V : World} (h : PrW b (x :: r) out (.slice (some ⟨g, off, none⟩) n c) O V) (hx : ¬ x.1.kind = 5) : PrW b r out (.slice (some ⟨g, off + 1 * 4, none⟩) (n - 1) (c - 1)) O (V.setCell ⟨b, 0, none⟩ (.slice (some ⟨g, off + 1 * 4, none⟩) (n - 1) (c - 1))) := by
  have hg : g < b := h.low _ _ _ rfl
  have hc : Chg (fun k => k = b) V (V.setCell ⟨b, 0, none⟩ (.slice (some ⟨g, off + 1 * 4, none⟩) (n - 1) (c - 1))) := (Chg.refl (fun k => k = b) V).setCell (p := ⟨b, 0, none⟩) (fun _ => rfl) _
  have hp := h.pcs.drop (d := 1)
  rw [List.drop_one, List.tail_cons] at hp
  exact ⟨by have := h.blk.set 0 (.slice (some ⟨g, off + 1 * 4, none⟩) (n - 1) (c - 1)); rwa [prsC_put0] at this, hp.chg hc fun a _ _ e hk => by cases e; simp only at hk; omega, fun a _ _ e => by cases e; exact hg, ndOwn_chg h.own hc fun k e hk => by have := h.own.grown e; omega, h.toks.rest hx⟩
set_option maxRecDepth 100000 in
set_option maxHeartbeats 1600000 in
theorem ppNext_any {b : Nat} {x : Pc × Nat} {r : Toks} {out : List Qn} {L O : Value} {V : World} (h : PrW b (x :: r) out L O V) (hx : ¬ x.1.kind = 5) : Calls Tryd.prog 44 #[.pointer (some ⟨b, 0, none⟩)] V fun e w' => ∃ L', e = .returned (.tuple #[]) ∧ PrW b r out L' O w' ∧ Below b V w' := by
  obtain ⟨g, off, cap, rfl, hg, hc1, hc2, hc⟩ := h.cell
  have HP := Lib.hid (h.put0 hx)
  have HB := Lib.hid (fun u => ((Below.refl b V).setCell (p := ⟨b, 0, none⟩) (Nat.le_refl _) u))
  have c0 : V.cell? ⟨b, 0, none⟩ = some (.slice (some ⟨g, off, none⟩) (r.length + 1) cap) := h.blk.cell 0
  have f0 := h.blk.free 0
  have hcap : ¬ cap = 1 := by
    obtain ⟨y, r2, rfl⟩ := (h.toks.rest hx).ne
    rw [List.length_cons] at hc1
    omega
  have hn1 : 1 ≤ r.length + 1 := by omega
  generalize r.length + 1 = n at *
  clear hc h hg
  go_enter Tryd.func44, Tryd.ntmps44
  go_wp2_with fail
  go_end0
  exact ⟨_, rfl, HP.out, HB.out _⟩
theorem fldPp0 (kd : Int) (tx : ByteArray) (xn pl : Int) (w : World) : (Instr.field 44 (.agg #[.int .i64 kd, .string tx, .int .i64 xn, .int .i64 pl]) 0).run Tryd.prog w = .ok (.int .i64 kd) w := by kernel_rfl
theorem fldPp1 (kd : Int) (tx : ByteArray) (xn pl : Int) (w : World) : (Instr.field 44 (.agg #[.int .i64 kd, .string tx, .int .i64 xn, .int .i64 pl]) 1).run Tryd.prog w = .ok (.string tx) w := by kernel_rfl
theorem fldPp2 (kd : Int) (tx : ByteArray) (xn pl : Int) (w : World) : (Instr.field 44 (.agg #[.int .i64 kd, .string tx, .int .i64 xn, .int .i64 pl]) 2).run Tryd.prog w = .ok (.int .i64 xn) w := by kernel_rfl
theorem fldPp3 (kd : Int) (tx : ByteArray) (xn pl : Int) (w : World) : (Instr.field 44 (.agg #[.int .i64 kd, .string tx, .int .i64 xn, .int .i64 pl]) 3).run Tryd.prog w = .ok (.int .i64 pl) w := by kernel_rfl
/-- What take leaves. -/
def takeQ (t : List UInt8) (T : Toks) : Toks := if headT T = t then T.tail else T
set_option maxRecDepth 100000 in
set_option maxHeartbeats 1600000 in
theorem ppTake_any {b : Nat} {T : Toks} {out : List Qn} {L O : Value} {V : World} (h : PrW b T out L O V) (t : List UInt8) (ht : t ≠ []) : Calls Tryd.prog 35 #[.pointer (some ⟨b, 0, none⟩), .string ⟨t.toArray⟩] V fun e w' => ∃ L', e = .returned (.bool (decide (headT T = t))) ∧ PrW b (takeQ t T) out L' O w' ∧ Below b V w' := by
  obtain ⟨x, r, rfl⟩ := h.toks.ne
  obtain ⟨⟨kd, tx, xn⟩, pl⟩ := x
  have HP := Lib.hid h
  have HF := Lib.hid (show Calls Tryd.prog 19 #[.pointer (some ⟨b, 0, none⟩)] V fun e w' => e = .returned (.agg #[.int .i64 (kd : Int), .string ⟨tx.toArray⟩, .int .i64 (xn : Int), .int .i64 (pl : Int)]) ∧ Below V.heap.size V w' from ppFirst_any h)
  have HN := Lib.hid (fun W (hW : PrW b ((⟨kd, tx, xn⟩, pl) :: r) out L O W) (hx : ¬ kd = 5) => ppNext_any hW hx)
  have H5 := Lib.hid (show tx = t → ¬ kd = 5 from fun e => h.toks.five (by show tx ≠ []; rw [e]; exact ht))
  have hlt := h.lt
  have hf1 := fldPp1 kd ⟨tx.toArray⟩ xn pl
  rw [show headT ((⟨kd, tx, xn⟩, pl) :: r) = tx from rfl]
  have HTk := Lib.hid (show takeQ t ((⟨kd, tx, xn⟩, pl) :: r) = if tx = t then r else (⟨kd, tx, xn⟩, pl) :: r from rfl)
  clear h
  by_cases hx : tx = t
  · have d1 : (tx == t) = true := by rw [beq_iff_eq]; exact hx
    have d2 : (tx != t) = false := by simpa using hx
    have HD := Lib.hid (show decide (tx = t) = true from decide_eq_true hx)
    have HR := Lib.hid (HTk.out.trans (if_pos hx))
    have HK := Lib.hid (H5.out hx)
    clear hx
    go_enter Tryd.func35, Tryd.ntmps35
    go_wp2_with fail
    refine HF.out.mono ?_
    rintro e w2 ⟨rfl, hB2⟩
    have HN2 := Lib.hid (HN.out w2 (HP.out.step hB2) HK.out)
    have HB2 := Lib.hid (show Below b V w2 from hB2.mono (Nat.le_of_lt hlt))
    clear hB2 HF HN
    go_wp2_with fail
    refine HN2.out.mono ?_
    rintro e w3 ⟨L3, rfl, hP3, hB3⟩
    have HP3 := Lib.hid hP3
    have HB3 := Lib.hid (HB2.out.trans hB3)
    clear hP3 hB3
    go_wp2_with fail
    go_ret
    exact ⟨L3, by rw [HD.out]; rfl, by rw [HR.out]; exact HP3.out, HB3.out⟩
  · have d1 : (tx == t) = false := by rw [beq_eq_false_iff_ne]; exact hx
    have d2 : (tx != t) = true := by simpa using hx
    have HD := Lib.hid (show decide (tx = t) = false from decide_eq_false hx)
    have HR := Lib.hid (HTk.out.trans (if_neg hx))
    clear hx
    go_enter Tryd.func35, Tryd.ntmps35
    go_wp2_with fail
    refine HF.out.mono ?_
    rintro e w2 ⟨rfl, hB2⟩
    have HP2 := Lib.hid (HP.out.step hB2)
    have HB2 := Lib.hid (show Below b V w2 from hB2.mono (Nat.le_of_lt hlt))
    clear hB2 HF HN
    go_wp2_with fail
    go_ret
    exact ⟨L, by rw [HD.out]; rfl, by rw [HR.out]; exact HP2.out, HB2.out⟩
theorem ppNorm {V : World} {B : Nat} {p : Option Addr} {c : Nat} {out : List Qn} {x : Qn} (h : V.ownsRow B 34 2 (.slice p (out ++ [x]).length c) (out ++ [x]).length (flatC nodC (out ++ [x]))) : V.ownsRow B 34 2 (.slice p (out.length + 1) c) (out ++ [x]).length (flatC nodC (out ++ [x])) := by
  rwa [show (out ++ [x]).length = out.length + 1 by simp] at *
theorem PrW.grown {b : Nat} {T : Toks} {out : List Qn} {L O : Value} {V V' : World} (h : PrW b T out L O V) (hg : V.grownBy V' O.ownBlock) : Blk V' b (prsC L O) 41 ∧ PiesAt V' L T ∧ Below b V V' :=
  ⟨(hg.block b h.lt fun e => by have := h.own.grown e.symm; omega).trans h.blk, h.pcs.chg (Chg.ofGrown hg) fun a n c e hk => by have := h.own.grown hk; have := h.low a n c e; omega, (Below.refl b V).grown hg (Nat.le_of_lt h.lt) fun r e => Nat.le_of_lt (h.own.grown e)⟩
theorem PrW.put1 {b : Nat} {T : Toks} {o2 : List Qn} {L O O2 : Value} {V : World} (hb : Blk V b (prsC L O) 41) (hp : PiesAt V L T) (hl : ∀ a n c, L = .slice (some a) n c → a.block < b) (ho : OwnPp b V O2 o2) (ht : ToksEnd T) : PrW b T o2 L O2 (V.setCell ⟨b, 1, none⟩ O2) := by
  have hc : Chg (fun k => k = b) V (V.setCell ⟨b, 1, none⟩ O2) := (Chg.refl (fun k => k = b) V).setCell (p := ⟨b, 1, none⟩) (fun _ => rfl) _
  exact ⟨by have := hb.set 1 O2; rwa [prsC_put1] at this, hp.chg hc fun a n c e hk => by have := hl a n c e; omega, hl, ndOwn_chg ho hc fun k e hk => by have := ho.grown e; omega, ht⟩
set_option maxRecDepth 100000 in
set_option maxHeartbeats 1600000 in
theorem ppAdd_any {b : Nat} {T : Toks} {out : List Qn} {L O : Value} {V : World} (h : PrW b T out L O V) (hl : out.length ≤ 1000) (k n : Int) : Calls Tryd.prog 36 #[.pointer (some ⟨b, 0, none⟩), .int .i64 k, .int .i64 n] V fun e w' => ∃ O', e = .returned (.tuple #[]) ∧ PrW b T (out ++ [⟨k, n⟩]) L O' w' ∧ Below b V w' := by
  have HP := Lib.hid h
  have HL := Lib.hid hl
  have c1 : V.cell? ⟨b, 1, none⟩ = some O := h.blk.cell 1
  have hlt := h.lt
  clear h hl
  go_enter Tryd.func36, Tryd.ntmps36
  go_wp2_with (at_builtin; refine wpList_append_rows (l := [⟨k, n⟩]) (m := out) nodC_size (by decide) nodC_one rfl _ _ 23 rfl (b + 1) Tryd.underlying23 infoNod rfl rfl rfl (HP.out.step (belowNew _ _)).own (nd_made _ [⟨k, n⟩] _ 1 rfl rfl (by decide)) (by have := HL.out; unfold maxLen; simp only [List.length_cons, List.length_nil]; omega) (by have := HL.out; simp only [List.length_cons, List.length_nil]; omega) (by have := hlt; simp; omega) ?_; intro v8 w8 hr8 hg8; have HG8 := Lib.hid ((HP.out.step (belowNew _ _)).grown hg8); obtain ⟨p8, q8, rfl⟩ := nd_form hr8; have HO8 := Lib.hid (ppNorm hr8); clear hg8 hr8; have c8 : w8.cell? ⟨b, 1, none⟩ = some O := HG8.out.1.cell 1; have f8 := HG8.out.1.free 1)
  go_end0
  exact ⟨_, rfl, PrW.put1 HG8.out.1 HG8.out.2.1 HP.out.low HO8.out HP.out.toks, ((((Below.refl b V).alloc (Nat.le_of_lt hlt) _).trans HG8.out.2.2).setCell (p := ⟨b, 1, none⟩) (Nat.le_refl _) _)⟩
/-- The kind of the node that a piece begins. -/
def leadN (x : Pc) : Nat := if x.kind = 2 then 4 else if x.kind = 3 then 5 else wordQ x.text
set_option maxRecDepth 100000 in
set_option maxHeartbeats 1600000 in
theorem ppLeading_any (x : Pc × Nat) (V : World) : Calls Tryd.prog 57 #[.agg (pieC x)] V fun e w' => e = .returned (.int .i64 (leadN x.1 : Int)) ∧ Below V.heap.size V w' := by
  obtain ⟨⟨kd, tx, xn⟩, pl⟩ := x
  have HW := Lib.hid (show ∀ W, W = V.alloc (.cells (pieC (⟨kd, tx, xn⟩, pl)) 44) → Below V.heap.size V W ∧ Blk W V.heap.size (pieC (⟨kd, tx, xn⟩, pl)) 44 from fun W e => by subst e; exact ⟨belowNew V _, Blk.new V _ _⟩)
  by_cases h2 : kd = 2
  · have e2 : ((kd : Int) == 2) = true := by rw [beq_iff_eq]; omega
    have HF := Lib.hid (show leadN ⟨kd, tx, xn⟩ = 4 from if_pos h2)
    clear h2
    go_enter Tryd.func57, Tryd.ntmps57
    go_upto_region 1 with fail
    obtain ⟨W, hWe⟩ : ∃ W, W = V.alloc (.cells (pieC (⟨kd, tx, xn⟩, pl)) 44) := ⟨_, rfl⟩
    have HB := Lib.hid (HW.out W hWe).1
    have k0 : W.cell? ⟨V.heap.size, 0, none⟩ = some (.int .i64 (kd : Int)) := ((HW.out W hWe).2.cell 0).trans rfl
    have k1 : W.cell? ⟨V.heap.size, 1, none⟩ = some (.string ⟨tx.toArray⟩) := ((HW.out W hWe).2.cell 1).trans rfl
    rw [← hWe]
    clear hWe HW
    go_wp2_with fail
    go_ret
    exact ⟨by rw [HF.out]; rfl, HB.out⟩
  have e2 : ((kd : Int) == 2) = false := by rw [beq_eq_false_iff_ne]; omega
  by_cases h3 : kd = 3
  · have e3 : ((kd : Int) == 3) = true := by rw [beq_iff_eq]; omega
    have HF := Lib.hid (show leadN ⟨kd, tx, xn⟩ = 5 from (if_neg h2).trans (if_pos h3))
    clear h2 h3
    go_enter Tryd.func57, Tryd.ntmps57
    go_upto_region 1 with fail
    obtain ⟨W, hWe⟩ : ∃ W, W = V.alloc (.cells (pieC (⟨kd, tx, xn⟩, pl)) 44) := ⟨_, rfl⟩
    have HB := Lib.hid (HW.out W hWe).1
    have k0 : W.cell? ⟨V.heap.size, 0, none⟩ = some (.int .i64 (kd : Int)) := ((HW.out W hWe).2.cell 0).trans rfl
    have k1 : W.cell? ⟨V.heap.size, 1, none⟩ = some (.string ⟨tx.toArray⟩) := ((HW.out W hWe).2.cell 1).trans rfl
    rw [← hWe]
    clear hWe HW
    go_wp2_with fail
    go_ret
    exact ⟨by rw [HF.out]; rfl, HB.out⟩
  have e3 : ((kd : Int) == 3) = false := by rw [beq_eq_false_iff_ne]; omega
  have HF := Lib.hid (show leadN ⟨kd, tx, xn⟩ = wordQ tx from (if_neg h2).trans (if_neg h3))
  clear h2 h3
  by_cases t0 : tx = [97, 108, 108]
  · subst t0
    go_enter Tryd.func57, Tryd.ntmps57
    go_upto_region 1 with fail
    obtain ⟨W, hWe⟩ : ∃ W, W = V.alloc (.cells (pieC (⟨kd, [97, 108, 108], xn⟩, pl)) 44) := ⟨_, rfl⟩
    have HB := Lib.hid (HW.out W hWe).1
    have k0 : W.cell? ⟨V.heap.size, 0, none⟩ = some (.int .i64 (kd : Int)) := ((HW.out W hWe).2.cell 0).trans rfl
    have k1 : W.cell? ⟨V.heap.size, 1, none⟩ = some (.string ⟨#[97, 108, 108]⟩) := ((HW.out W hWe).2.cell 1).trans rfl
    rw [← hWe]
    clear hWe HW
    go_wp2_with fail
    go_ret
    exact ⟨by rw [HF.out]; rfl, HB.out⟩
  by_cases t1 : tx = [108, 105, 118, 101]
  · subst t1
    clear t0
    go_enter Tryd.func57, Tryd.ntmps57
    go_upto_region 1 with fail
    obtain ⟨W, hWe⟩ : ∃ W, W = V.alloc (.cells (pieC (⟨kd, [108, 105, 118, 101], xn⟩, pl)) 44) := ⟨_, rfl⟩
    have HB := Lib.hid (HW.out W hWe).1
    have k0 : W.cell? ⟨V.heap.size, 0, none⟩ = some (.int .i64 (kd : Int)) := ((HW.out W hWe).2.cell 0).trans rfl
    have k1 : W.cell? ⟨V.heap.size, 1, none⟩ = some (.string ⟨#[108, 105, 118, 101]⟩) := ((HW.out W hWe).2.cell 1).trans rfl
    rw [← hWe]
    clear hWe HW
    go_wp2_with fail
    go_ret
    exact ⟨by rw [HF.out]; rfl, HB.out⟩
  by_cases t2 : tx = [109, 105, 110, 101]
  · subst t2
    clear t0 t1
    go_enter Tryd.func57, Tryd.ntmps57
    go_upto_region 1 with fail
    obtain ⟨W, hWe⟩ : ∃ W, W = V.alloc (.cells (pieC (⟨kd, [109, 105, 110, 101], xn⟩, pl)) 44) := ⟨_, rfl⟩
    have HB := Lib.hid (HW.out W hWe).1
    have k0 : W.cell? ⟨V.heap.size, 0, none⟩ = some (.int .i64 (kd : Int)) := ((HW.out W hWe).2.cell 0).trans rfl
    have k1 : W.cell? ⟨V.heap.size, 1, none⟩ = some (.string ⟨#[109, 105, 110, 101]⟩) := ((HW.out W hWe).2.cell 1).trans rfl
    rw [← hWe]
    clear hWe HW
    go_wp2_with fail
    go_ret
    exact ⟨by rw [HF.out]; rfl, HB.out⟩
  by_cases t3 : tx = [117, 112]
  · subst t3
    clear t0 t1 t2
    go_enter Tryd.func57, Tryd.ntmps57
    go_upto_region 1 with fail
    obtain ⟨W, hWe⟩ : ∃ W, W = V.alloc (.cells (pieC (⟨kd, [117, 112], xn⟩, pl)) 44) := ⟨_, rfl⟩
    have HB := Lib.hid (HW.out W hWe).1
    have k0 : W.cell? ⟨V.heap.size, 0, none⟩ = some (.int .i64 (kd : Int)) := ((HW.out W hWe).2.cell 0).trans rfl
    have k1 : W.cell? ⟨V.heap.size, 1, none⟩ = some (.string ⟨#[117, 112]⟩) := ((HW.out W hWe).2.cell 1).trans rfl
    rw [← hWe]
    clear hWe HW
    go_wp2_with fail
    go_ret
    exact ⟨by rw [HF.out]; rfl, HB.out⟩
  by_cases t4 : tx = [100, 111, 119, 110]
  · subst t4
    clear t0 t1 t2 t3
    go_enter Tryd.func57, Tryd.ntmps57
    go_upto_region 1 with fail
    obtain ⟨W, hWe⟩ : ∃ W, W = V.alloc (.cells (pieC (⟨kd, [100, 111, 119, 110], xn⟩, pl)) 44) := ⟨_, rfl⟩
    have HB := Lib.hid (HW.out W hWe).1
    have k0 : W.cell? ⟨V.heap.size, 0, none⟩ = some (.int .i64 (kd : Int)) := ((HW.out W hWe).2.cell 0).trans rfl
    have k1 : W.cell? ⟨V.heap.size, 1, none⟩ = some (.string ⟨#[100, 111, 119, 110]⟩) := ((HW.out W hWe).2.cell 1).trans rfl
    rw [← hWe]
    clear hWe HW
    go_wp2_with fail
    go_ret
    exact ⟨by rw [HF.out]; rfl, HB.out⟩
  by_cases t5 : tx = [116, 97, 103, 115]
  · subst t5
    clear t0 t1 t2 t3 t4
    go_enter Tryd.func57, Tryd.ntmps57
    go_upto_region 1 with fail
    obtain ⟨W, hWe⟩ : ∃ W, W = V.alloc (.cells (pieC (⟨kd, [116, 97, 103, 115], xn⟩, pl)) 44) := ⟨_, rfl⟩
    have HB := Lib.hid (HW.out W hWe).1
    have k0 : W.cell? ⟨V.heap.size, 0, none⟩ = some (.int .i64 (kd : Int)) := ((HW.out W hWe).2.cell 0).trans rfl
    have k1 : W.cell? ⟨V.heap.size, 1, none⟩ = some (.string ⟨#[116, 97, 103, 115]⟩) := ((HW.out W hWe).2.cell 1).trans rfl
    rw [← hWe]
    clear hWe HW
    go_wp2_with fail
    go_ret
    exact ⟨by rw [HF.out]; rfl, HB.out⟩
  by_cases t6 : tx = [111, 119, 110, 101, 114, 115]
  · subst t6
    clear t0 t1 t2 t3 t4 t5
    go_enter Tryd.func57, Tryd.ntmps57
    go_upto_region 1 with fail
    obtain ⟨W, hWe⟩ : ∃ W, W = V.alloc (.cells (pieC (⟨kd, [111, 119, 110, 101, 114, 115], xn⟩, pl)) 44) := ⟨_, rfl⟩
    have HB := Lib.hid (HW.out W hWe).1
    have k0 : W.cell? ⟨V.heap.size, 0, none⟩ = some (.int .i64 (kd : Int)) := ((HW.out W hWe).2.cell 0).trans rfl
    have k1 : W.cell? ⟨V.heap.size, 1, none⟩ = some (.string ⟨#[111, 119, 110, 101, 114, 115]⟩) := ((HW.out W hWe).2.cell 1).trans rfl
    rw [← hWe]
    clear hWe HW
    go_wp2_with fail
    go_ret
    exact ⟨by rw [HF.out]; rfl, HB.out⟩
  by_cases t7 : tx = [99, 111, 117, 110, 116]
  · subst t7
    clear t0 t1 t2 t3 t4 t5 t6
    go_enter Tryd.func57, Tryd.ntmps57
    go_upto_region 1 with fail
    obtain ⟨W, hWe⟩ : ∃ W, W = V.alloc (.cells (pieC (⟨kd, [99, 111, 117, 110, 116], xn⟩, pl)) 44) := ⟨_, rfl⟩
    have HB := Lib.hid (HW.out W hWe).1
    have k0 : W.cell? ⟨V.heap.size, 0, none⟩ = some (.int .i64 (kd : Int)) := ((HW.out W hWe).2.cell 0).trans rfl
    have k1 : W.cell? ⟨V.heap.size, 1, none⟩ = some (.string ⟨#[99, 111, 117, 110, 116]⟩) := ((HW.out W hWe).2.cell 1).trans rfl
    rw [← hWe]
    clear hWe HW
    go_wp2_with fail
    go_ret
    exact ⟨by rw [HF.out]; rfl, HB.out⟩
  by_cases t8 : tx = [115, 111, 109, 101]
  · subst t8
    clear t0 t1 t2 t3 t4 t5 t6 t7
    go_enter Tryd.func57, Tryd.ntmps57
    go_upto_region 1 with fail
    obtain ⟨W, hWe⟩ : ∃ W, W = V.alloc (.cells (pieC (⟨kd, [115, 111, 109, 101], xn⟩, pl)) 44) := ⟨_, rfl⟩
    have HB := Lib.hid (HW.out W hWe).1
    have k0 : W.cell? ⟨V.heap.size, 0, none⟩ = some (.int .i64 (kd : Int)) := ((HW.out W hWe).2.cell 0).trans rfl
    have k1 : W.cell? ⟨V.heap.size, 1, none⟩ = some (.string ⟨#[115, 111, 109, 101]⟩) := ((HW.out W hWe).2.cell 1).trans rfl
    rw [← hWe]
    clear hWe HW
    go_wp2_with fail
    go_ret
    exact ⟨by rw [HF.out]; rfl, HB.out⟩
  have n0 : (tx == [97, 108, 108]) = false := by rw [beq_eq_false_iff_ne]; exact t0
  have n1 : (tx == [108, 105, 118, 101]) = false := by rw [beq_eq_false_iff_ne]; exact t1
  have n2 : (tx == [109, 105, 110, 101]) = false := by rw [beq_eq_false_iff_ne]; exact t2
  have n3 : (tx == [117, 112]) = false := by rw [beq_eq_false_iff_ne]; exact t3
  have n4 : (tx == [100, 111, 119, 110]) = false := by rw [beq_eq_false_iff_ne]; exact t4
  have n5 : (tx == [116, 97, 103, 115]) = false := by rw [beq_eq_false_iff_ne]; exact t5
  have n6 : (tx == [111, 119, 110, 101, 114, 115]) = false := by rw [beq_eq_false_iff_ne]; exact t6
  have n7 : (tx == [99, 111, 117, 110, 116]) = false := by rw [beq_eq_false_iff_ne]; exact t7
  have n8 : (tx == [115, 111, 109, 101]) = false := by rw [beq_eq_false_iff_ne]; exact t8
  have HF := Lib.hid (HF.out.trans (show wordQ tx = 0 from by unfold wordQ; simp only [t0, t1, t2, t3, t4, t5, t6, t7, t8, if_false]))
  clear t0 t1 t2 t3 t4 t5 t6 t7 t8
  go_enter Tryd.func57, Tryd.ntmps57
  go_upto_region 1 with fail
  obtain ⟨W, hWe⟩ : ∃ W, W = V.alloc (.cells (pieC (⟨kd, tx, xn⟩, pl)) 44) := ⟨_, rfl⟩
  have HB := Lib.hid (HW.out W hWe).1
  have k0 : W.cell? ⟨V.heap.size, 0, none⟩ = some (.int .i64 (kd : Int)) := ((HW.out W hWe).2.cell 0).trans rfl
  have k1 : W.cell? ⟨V.heap.size, 1, none⟩ = some (.string ⟨tx.toArray⟩) := ((HW.out W hWe).2.cell 1).trans rfl
  rw [← hWe]
  clear hWe HW
  go_wp2_with fail
  go_ret
  exact ⟨by rw [HF.out]; rfl, HB.out⟩
end Go.Proofs.YtfhjmhmgkdadhaaDoor

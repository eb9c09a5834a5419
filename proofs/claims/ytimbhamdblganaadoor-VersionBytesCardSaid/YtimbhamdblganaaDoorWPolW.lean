/-
  The document's policies: Read.
-/
import Derived.Deep.DeepCutAuto
import Derived.Test.YtimbhamdblganaaDoorWPolX
import Derived.Test.YtimbhamdblganaaDoorWPolS
import Derived.Test.YtimbhamdblganaaDoorW2
import Derived.Test.YtimbhamdblganaaDoorW1
/-! PolW -/
namespace Go.Proofs.YtimbhamdblganaaDoor
open Go.RowKit

/-! Reading in plain terms: a policy and what is left. -/
abbrev RdSt := Pol × WSt
def rdLive (s : WSt) : RdSt := ({ zeroP with live := (dNum s 2 65535).1.toNat }, (dNum s 2 65535).2)
def rdS (x : RdSt) (k : Nat) : RdSt := (x.1.putS k (dNum x.2 2 65535).1.toNat, (dNum x.2 2 65535).2)
def rdI (x : RdSt) (k : Nat) : RdSt := (x.1.putI k (dNum x.2 2 65535).1.toNat, (dNum x.2 2 65535).2)
def rdG (x : RdSt) (k : Nat) : RdSt := (x.1.putA k (dNum x.2 2 65535).1.toNat, (dNum x.2 2 65535).2)
def rdA (x : RdSt) : RdSt := ({ x.1 with active := (dNum x.2 2 65535).1.toNat }, (dNum x.2 2 65535).2)
def rdO (x : RdSt) (t : Nat) : RdSt := (x.1.putO t (dNum x.2 1 16).1.toNat, (dNum x.2 1 16).2)
def rdRole (x : RdSt) (k : Nat) : RdSt := if x.1.live.testBit k = true then rdG (rdI (rdS x k) k) k else x
def rdR (s : WSt) : Nat → RdSt
  | 0 => rdLive s
  | k + 1 => rdRole (rdR s k) k
def rdT (s : WSt) : Nat → RdSt
  | 0 => rdA (rdR s 16)
  | t + 1 => rdO (rdT s t) t
/-- The error at the end, and the policy that is answered. -/
def rdE (s : WSt) : WSt := if (rdT s 16).2.2 = 0 ∧ fineP (rdT s 16).1 = false then ([], 3) else (rdT s 16).2
def rdPo (s : WSt) : Pol := if (rdE s).2 = 0 then (rdT s 16).1 else zeroP
theorem dNum_most (s : WSt) (size : Int) {most : Nat} : (dNum s size most).1.toNat ≤ most := by
  unfold dNum; split
  · split
    · simp
    · simp only [Int.toNat_natCast]; omega
  · simp
theorem dNum_cast (s : WSt) (size most : Int) : (((dNum s size most).1.toNat : Nat) : Int) = (dNum s size most).1 := Int.toNat_of_nonneg (by
  unfold dNum; split
  · split
    · exact Int.le_refl _
    · exact Int.natCast_nonneg _
  · exact Int.le_refl _)
theorem dNum_lt (s : WSt) : (dNum s 2 65535).1.toNat < 65536 := Nat.lt_succ_of_le (dNum_most s 2 (most := 65535))
theorem rdRole_ok {x : RdSt} (h : PolOk x.1) (k : Nat) : PolOk (rdRole x k).1 := by
  unfold rdRole; split
  · exact ⟨h.live, h.active, upd_lt h.s (dNum_lt _), upd_lt h.i (dNum_lt _), upd_lt h.acts (dNum_lt _), h.owner⟩
  · exact h
theorem rdR_ok (s : WSt) (k : Nat) : PolOk (rdR s k).1 := by
  induction k with
  | zero => exact ⟨dNum_lt _, zeroP_ok.active, zeroP_ok.s, zeroP_ok.i, zeroP_ok.acts, zeroP_ok.owner⟩
  | succ k ih => exact rdRole_ok ih k
theorem rdT_ok (s : WSt) (t : Nat) : PolOk (rdT s t).1 := by
  induction t with
  | zero =>
    have h := rdR_ok s 16
    exact ⟨h.live, dNum_lt _, h.s, h.i, h.acts, h.owner⟩
  | succ t ih => exact ⟨ih.live, ih.active, ih.s, ih.i, ih.acts, upd_lt ih.owner (Nat.lt_of_le_of_lt (dNum_most _ 1 (most := 16)) (by decide))⟩
theorem rdPo_ok (s : WSt) : PolOk (rdPo s) := by
  unfold rdPo; split
  · exact rdT_ok s 16
  · exact zeroP_ok
theorem rdR_live (s : WSt) (k : Nat) : (rdR s k).1.live = (dNum s 2 65535).1.toNat := by
  induction k with
  | zero => rfl
  | succ k ih =>
    rw [← ih]
    show (rdRole _ _).1.live = _
    unfold rdRole; split <;> rfl

/-- A Reader, the policy that is read, and the place for the answer. -/
structure QW (w : World) (b : Nat) (ty : TypeId) (g : Nat) (L : List UInt8) (c : Nat) (x : RdSt) (V : World) : Prop where
  rd : XRd V b ty g L x.2
  row : PRow V c x.1
  res : PRow V w.heap.size zeroP
  chg : Chg (fun k => k = b) w V
  lt : w.heap.size < c
theorem QW.read {w : World} {b : Nat} {ty : TypeId} {g : Nat} {L : List UInt8} {c : Nat} {x : RdSt} {V V' : World} {s : WSt} (h : QW w b ty g L c x V) (hb : b < w.heap.size) (hx : XTo V b ty g L s V') : QW w b ty g L c (x.1, s) V' :=
  ⟨hx.1, hx.2.kept h.row (by have := h.lt; omega), hx.2.kept h.res (by omega), h.chg.trans hx.2, h.lt⟩
theorem QW.step {w : World} {b : Nat} {ty : TypeId} {g : Nat} {L : List UInt8} {c : Nat} {x : RdSt} {V V' : World} (h : QW w b ty g L c x V) (hB : Below V.heap.size V V') : QW w b ty g L c x V' :=
  ⟨h.rd.below hB (Nat.le_refl _), h.row.step hB, h.res.step hB, h.chg.trans (Chg.ofBelow hB), h.lt⟩
theorem QW.cell {w : World} {b : Nat} {ty : TypeId} {g : Nat} {L : List UInt8} {c : Nat} {x : RdSt} {q : Pol} {V : World} (h : QW w b ty g L c x V) (hb : b < w.heap.size) (hg : g < w.heap.size) {k : Nat} {u : Value} (hr : PRow (V.setCell ⟨c, k, none⟩ u) c q) : QW w b ty g L c (q, x.2) (V.setCell ⟨c, k, none⟩ u) := by
  have h1 := h.lt
  have hc := (Chg.refl (fun k => k = c) V).setCell (p := ⟨c, k, none⟩) (fun _ => rfl) u
  exact ⟨h.rd.kept hc (by show ¬ b = c; omega) (by show ¬ g = c; omega), hr, Blk.set_other h.res (by show c ≠ _; omega) _, h.chg.setCell (fun hk => by have h2 : c < w.heap.size := hk; omega) u, h.lt⟩
theorem PRow.putV {w : World} {b : Nat} {p : Pol} (h : PRow w b p) (v : Nat) : PRow (w.setCell ⟨b, 65, none⟩ (.int .u16 (v : Int))) b { p with active := v } := by
  refine h.put fun j hj => ?_
  by_cases e : j = 65
  · subst e; rfl
  · rw [if_neg e]
    unfold polAt
    by_cases h0 : j = 0
    · rw [if_pos h0, if_pos h0]
    · rw [if_neg h0, if_neg h0]
      by_cases h1 : j < 33
      · rw [if_pos h1, if_pos h1]
      · rw [if_neg h1, if_neg h1]
        by_cases h2 : j < 49
        · rw [if_pos h2, if_pos h2]
        · rw [if_neg h2, if_neg h2, if_pos (by omega : j < 65), if_pos (by omega : j < 65)]
theorem XRd.err {w : World} {b : Nat} {t : TypeId} {g : Nat} {L : List UInt8} {s : List UInt8 × Int} (h : XRd w b t g L s) : w.cell? ⟨b, 2, none⟩ = some (.int .i64 s.2) ∧ w.frozen? ⟨b, 2, none⟩ = false := by
  obtain ⟨p, c, k, h1, -⟩ := h
  exact ⟨h1.cell 2, h1.free 2⟩
theorem live_pol (v : Nat) : (polC zeroP).toList.set 0 (.int .u16 (v : Int)) = (polC { zeroP with live := v }).toList := by
  rw [← Array.toList_setIfInBounds, polC_put (q := { zeroP with live := v }) (fun j _ => by
    by_cases e : j = 0
    · subst e; rfl
    · rw [if_neg e]; unfold polAt; rw [if_neg e, if_neg e])]
theorem QW.out {w : World} {b : Nat} {ty : TypeId} {g : Nat} {L : List UInt8} {c : Nat} {x : RdSt} {V V' : World} {cs : Array Value} {t : TypeId} (h : QW w b ty g L c x V) (hb : b < w.heap.size) (hg : g < w.heap.size) (hp : Put V V' w.heap.size cs t) : XTo w b ty g L x.2 V' :=
  ⟨h.rd.kept hp.chg (by show ¬ b = _; omega) (by show ¬ g = _; omega), h.chg.then hp.chg (fun i hi he => by have h2 : i = w.heap.size := he; omega)⟩
def ReadIs (w : World) (b : Nat) (ty : TypeId) (g : Nat) (L : List UInt8) (s : WSt) (e : Ending) (w' : World) : Prop := e = .returned (.agg (polC (rdPo s))) ∧ XTo w b ty g L (rdE s) w'
set_option maxRecDepth 100000 in
set_option maxHeartbeats 1600000 in
theorem rpRead_any (b : Nat) (ty : TypeId) (g : Nat) (L : List UInt8) (s : WSt) (w : World) (h : XRd w b ty g L s) (hg : g ≠ b) (hgl : g < w.heap.size) (hL : L.length ≤ 1000000) :
    Calls Tryd.prog 29 #[.pointer (some ⟨b, 0, none⟩)] w (ReadIs w b ty g L s) := by
  have hbl : b < w.heap.size := by obtain ⟨p, c, k, h1, -⟩ := h; exact h1.lt
  have HX := Lib.hid h
  have HH := Lib.hid (And.intro hg (And.intro hgl (And.intro hL hbl)))
  have HB0 := Lib.hid (belowNew w (.cells (polC zeroP) 46))
  have HR0 := Lib.hid (PRow.new w zeroP)
  have HNm := Lib.hid (fun V s2 (size most : Int) (hx : XRd V b ty g L s2) => xnum_any b ty g L s2 size most V hx hg hL)
  clear h hg hgl hL hbl
  go_enter Tryd.func29, Tryd.ntmps29
  go_upto_region 1 with (simp only [zeroPol, Result.andThen_ok])
  have HX1 := Lib.hid (HX.out.below HB0.out (Nat.le_refl _))
  go_wp2_with fail
  refine (HNm.out _ _ _ _ HX1.out).mono ?_
  rintro e w2 ⟨rfl, hX2⟩
  have hv := dNum_lt s
  have hs2 : (rdLive s).2 = (dNum s 2 65535).2 := rfl
  have hp2 : (rdLive s).1 = { zeroP with live := (dNum s 2 65535).1.toNat } := rfl
  rw [← hs2] at hX2
  rw [← dNum_cast s 2 65535]
  have HW2 := Lib.hid hX2
  have HL2 := Lib.hid hp2
  have HR2 := Lib.hid (show PRow w2 w.heap.size zeroP from hX2.2.kept HR0.out (by have := HH.out.2.2.2; omega))
  have HC2 := Lib.hid ((Chg.ofBelow (S := fun k => k = b) HB0.out).trans hX2.2)
  have HS2 := Lib.hid (show w.heap.size < w2.heap.size from HR2.out.lt)
  clear hX2 hs2 hp2 HX1
  generalize (dNum s 2 65535).1.toNat = v at *
  have hw1 : IntKind.u16.wrap (v : Int) = (v : Int) := by unfold IntKind.wrap; simp [IntKind.signed, IntKind.bits]; omega
  go_wp2_with fail
  have hB := PRow.new w2 zeroP
  simp only [store_pol hB (live_pol v), Result.andThen_ok]
  have hM : PRow ((w2.alloc (.cells (polC zeroP) 46)).setRow w2.heap.size (polC { zeroP with live := v })) w2.heap.size { zeroP with live := v } := setRow_heap _ _ _ _ _ _ hB
  have hbl2 : Below w2.heap.size w2 ((w2.alloc (.cells (polC zeroP) 46)).setRow w2.heap.size (polC { zeroP with live := v })) := (belowNew w2 _).trans (below_row (Nat.le_refl _))
  have HQ := Lib.hid (show QW w b ty g L w2.heap.size (rdR s 0) ((w2.alloc (.cells (polC zeroP) 46)).setRow w2.heap.size (polC { zeroP with live := v })) from
    ⟨HW2.out.1.below hbl2 (Nat.le_refl _), by show PRow _ _ (rdLive s).1; rw [HL2.out]; exact hM, HR2.out.step hbl2, HC2.out.trans (Chg.ofBelow hbl2), HS2.out⟩)
  have HLv := Lib.hid (show ∀ k, (rdR s k).1.live = v from fun k => by rw [rdR_live]; exact congrArg (fun q : Pol => q.live) HL2.out)
  clear hM hB hbl2 HW2 HL2 HR2 HC2 HS2 hw1 HX HB0 HR0
  generalize (w2.alloc (.cells (polC zeroP) 46)).setRow _ _ = w3 at *
  generalize w2.heap.size = c at *
  have HHl := Lib.hid (fun V (r : Nat) => gHas_any v r V hv)
  go_wp2_with fail
  go_loopw [4] (fun i wr => ∃ k : Nat, k ≤ 16 ∧ i = .int .i64 (k : Int) ∧ QW w b ty g L c (rdR s k) wr) (fun i _ => 16 - (intOf i).toNat)
  case atStart => exact ⟨0, by omega, rfl, HQ.out⟩
  case round =>
    obtain ⟨k, hk, rfl, hz⟩ := hrel
    have HG := Lib.hid hz
    clear hz HQ
    by_cases hlt : k < 16
    · have dk : decide ((k : Int) < 16) = true := by simp; omega
      have hk16 : (k : Int) < 16 := by omega
      have HHk := Lib.hid (fun V => HHl.out V k)
      have k0 := HG.out.row.live
      rw [HLv.out k] at k0
      have HLk := Lib.hid (HLv.out k)
      cases hl : v.testBit k with
      | false =>
        rw [hl] at HHk
        have HE := Lib.hid (show rdR s (k + 1) = rdR s k by
          show rdRole (rdR s k) k = _
          unfold rdRole; rw [HLk.out, if_neg (by rw [hl]; simp)])
        clear hl
        go_wp2_with fail
        refine (HHk.out _).mono ?_
        rintro e wx ⟨rfl, rfl⟩
        go_wp2_with fail
        rw [← HE.out] at HG
        go_roundw
        case rel => first | exact ⟨k + 1, by omega, by go_num, HG.out⟩ | ((repeat apply Exists.intro); exact ⟨⟨k + 1, by omega, by go_num, HG.out⟩, rfl⟩)
        case measure => simp [intOf]; omega
      | true =>
        rw [hl] at HHk
        have HE := Lib.hid (show rdG (rdI (rdS (rdR s k) k) k) k = rdR s (k + 1) by
          show _ = rdRole (rdR s k) k
          unfold rdRole; rw [HLk.out, if_pos hl])
        clear hl
        go_wp2_with fail
        refine (HHk.out _).mono ?_
        rintro e wx ⟨rfl, rfl⟩
        clear k0 HLk
        generalize rdR s k = x at *
        go_wp2_with fail
        refine (HNm.out _ _ _ _ HG.out.rd).mono ?_
        rintro e w4 ⟨rfl, hX4⟩
        have HG4 := Lib.hid (HG.out.read HH.out.2.2.2 hX4)
        have hv4 := dNum_lt x.2
        rw [← dNum_cast x.2 2 65535]
        clear hX4
        have k4 := HG4.out.row.s hlt
        have f4 := Blk.free HG4.out.row (1 + k * 2)
        have HG5 := Lib.hid (show QW w b ty g L c (rdS x k) (w4.setCell ⟨c, 1 + k * 2, none⟩ (.int .u16 ((dNum x.2 2 65535).1.toNat : Int))) from HG4.out.cell HH.out.2.2.2 HH.out.2.1 (HG4.out.row.putS hlt _))
        generalize hvv : (dNum x.2 2 65535).1.toNat = v4 at hv4 HG5 ⊢
        have hw4 : IntKind.u16.wrap (v4 : Int) = (v4 : Int) := by unfold IntKind.wrap; simp [IntKind.signed, IntKind.bits]; omega
        clear hvv HG4 HG
        go_upto_region 7 with fail
        clear k4 f4 hw4
        generalize w4.setCell _ _ = V5 at *
        go_wp2_with fail
        refine (HNm.out _ _ _ _ HG5.out.rd).mono ?_
        rintro e w6 ⟨rfl, hX6⟩
        have HG6 := Lib.hid (HG5.out.read HH.out.2.2.2 hX6)
        have hv6 := dNum_lt (rdS x k).2
        rw [← dNum_cast (rdS x k).2 2 65535]
        clear hX6
        have k6 := HG6.out.row.i hlt
        have f6 := Blk.free HG6.out.row (1 + k * 2 + 1)
        have HG7 := Lib.hid (show QW w b ty g L c (rdI (rdS x k) k) (w6.setCell ⟨c, 1 + k * 2 + 1, none⟩ (.int .u16 ((dNum (rdS x k).2 2 65535).1.toNat : Int))) from HG6.out.cell HH.out.2.2.2 HH.out.2.1 (HG6.out.row.putI hlt _))
        generalize hvv : (dNum (rdS x k).2 2 65535).1.toNat = v6 at hv6 HG7 ⊢
        have hw6 : IntKind.u16.wrap (v6 : Int) = (v6 : Int) := by unfold IntKind.wrap; simp [IntKind.signed, IntKind.bits]; omega
        clear hvv HG6 HG5
        go_upto_region 8 with fail
        clear k6 f6 hw6
        generalize w6.setCell _ _ = V7 at *
        go_wp2_with fail
        refine (HNm.out _ _ _ _ HG7.out.rd).mono ?_
        rintro e w8 ⟨rfl, hX8⟩
        have HG8 := Lib.hid (HG7.out.read HH.out.2.2.2 hX8)
        have hv8 := dNum_lt (rdI (rdS x k) k).2
        rw [← dNum_cast (rdI (rdS x k) k).2 2 65535]
        clear hX8
        have k8 := HG8.out.row.acts hlt
        have f8 := Blk.free HG8.out.row (33 + k)
        have HG9 := Lib.hid (show QW w b ty g L c (rdG (rdI (rdS x k) k) k) (w8.setCell ⟨c, 33 + k, none⟩ (.int .u16 ((dNum (rdI (rdS x k) k).2 2 65535).1.toNat : Int))) from HG8.out.cell HH.out.2.2.2 HH.out.2.1 (HG8.out.row.putA hlt _))
        generalize hvv : (dNum (rdI (rdS x k) k).2 2 65535).1.toNat = v8 at hv8 HG9 ⊢
        have hw8 : IntKind.u16.wrap (v8 : Int) = (v8 : Int) := by unfold IntKind.wrap; simp [IntKind.signed, IntKind.bits]; omega
        clear hvv HG8 HG7
        go_wp2_with fail
        rw [HE.out] at HG9
        go_roundw
        case rel => first | exact ⟨k + 1, by omega, by go_num, HG9.out⟩ | ((repeat apply Exists.intro); exact ⟨⟨k + 1, by omega, by go_num, HG9.out⟩, rfl⟩)
        case measure => simp [intOf]; omega
    · obtain rfl : k = 16 := by omega
      go_wp2_with fail
      refine (HNm.out _ _ _ _ HG.out.rd).mono ?_
      rintro e w4 ⟨rfl, hX4⟩
      have HG4 := Lib.hid (HG.out.read HH.out.2.2.2 hX4)
      have hv4 := dNum_lt (rdR s 16).2
      rw [← dNum_cast (rdR s 16).2 2 65535]
      clear hX4
      have k4 := HG4.out.row.active
      have f4 := Blk.free HG4.out.row 65
      have HG5 := Lib.hid (show QW w b ty g L c (rdT s 0) (w4.setCell ⟨c, 65, none⟩ (.int .u16 ((dNum (rdR s 16).2 2 65535).1.toNat : Int))) from HG4.out.cell HH.out.2.2.2 HH.out.2.1 (HG4.out.row.putV _))
      generalize hvv : (dNum (rdR s 16).2 2 65535).1.toNat = v4 at hv4 HG5 ⊢
      have hw4 : IntKind.u16.wrap (v4 : Int) = (v4 : Int) := by unfold IntKind.wrap; simp [IntKind.signed, IntKind.bits]; omega
      clear hvv HG4 HG
      go_upto_region 10 with fail
      clear k4 f4 hw4
      generalize w4.setCell _ _ = V5 at *
      go_wp2_with fail
      go_loopw [5] (fun i wr => ∃ t : Nat, t ≤ 16 ∧ i = .int .i64 (t : Int) ∧ QW w b ty g L c (rdT s t) wr) (fun i _ => 16 - (intOf i).toNat)
      case atStart => exact ⟨0, by omega, rfl, HG5.out⟩
      case round =>
        obtain ⟨t, ht, rfl, hz⟩ := hrel
        have HG := Lib.hid hz
        clear hz HG5
        by_cases htt : t < 16
        · have dk : decide ((t : Int) < 16) = true := by simp; omega
          have ht16 : (t : Int) < 16 := by omega
          have HE := Lib.hid (show rdO (rdT s t) t = rdT s (t + 1) from rfl)
          generalize rdT s t = x at *
          go_wp2_with fail
          refine (HNm.out _ _ _ _ HG.out.rd).mono ?_
          rintro e w6 ⟨rfl, hX6⟩
          have HG6 := Lib.hid (HG.out.read HH.out.2.2.2 hX6)
          have hv6 : (dNum x.2 1 16).1.toNat ≤ 16 := dNum_most x.2 1 (most := 16)
          rw [← dNum_cast x.2 1 16]
          clear hX6
          have k6 := HG6.out.row.owner htt
          have f6 := Blk.free HG6.out.row (49 + t)
          have HG7 := Lib.hid (show QW w b ty g L c (rdO x t) (w6.setCell ⟨c, 49 + t, none⟩ (.int .u8 ((dNum x.2 1 16).1.toNat : Int))) from HG6.out.cell HH.out.2.2.2 HH.out.2.1 (HG6.out.row.putO htt _))
          generalize hvv : (dNum x.2 1 16).1.toNat = v6 at hv6 HG7 ⊢
          have hw6 : IntKind.u8.wrap (v6 : Int) = (v6 : Int) := by unfold IntKind.wrap; simp [IntKind.signed, IntKind.bits]; omega
          clear hvv HG6 HG
          go_wp2_with fail
          rw [HE.out] at HG7
          go_roundw
          case rel => first | exact ⟨t + 1, by omega, by go_num, HG7.out⟩ | ((repeat apply Exists.intro); exact ⟨⟨t + 1, by omega, by go_num, HG7.out⟩, rfl⟩)
          case measure => simp [intOf]; omega
        · obtain rfl : t = 16 := by omega
          have HOk := Lib.hid (rdT_ok s 16)
          have HFi := Lib.hid (fun V => rpFine_any (rdT s 16).1 V HOk.out)
          have HEe := Lib.hid (show rdE s = if (rdT s 16).2.2 = 0 ∧ fineP (rdT s 16).1 = false then ([], 3) else (rdT s 16).2 from rfl)
          have HEp := Lib.hid (show rdPo s = if (rdE s).2 = 0 then (rdT s 16).1 else zeroP from rfl)
          clear HOk
          generalize rdT s 16 = x at *
          obtain ⟨k2, f2⟩ := HG.out.rd.err
          have hrow := HG.out.row
          have hres := HG.out.res
          by_cases he : x.2.2 = 0
          · cases hf : fineP x.1 with
            | true =>
              have hE : rdE s = x.2 := by rw [HEe.out, if_neg (by rw [hf]; simp)]
              have HE2 := Lib.hid (show rdE s = x.2 ∧ rdPo s = x.1 from ⟨hE, by rw [HEp.out, hE, if_pos he]⟩)
              rw [hf] at HFi
              rw [he] at k2
              have HKe := Lib.hid he
              clear hE hf he
              go_upto_region 14 with fail
              go_wp2_with (refine wpList_load_mid (by kernel_rfl) _ _ rfl (new := polC x.1) rfl hrow (fun i _ => by rw [Nat.zero_add]) Tryd.underlying46 rfl (infoPol _) ?_)
              refine (HFi.out _).mono ?_
              rintro e w7 ⟨rfl, hB7⟩
              have HG7 := Lib.hid (HG.out.step hB7)
              obtain ⟨k7, -⟩ := HG7.out.rd.err
              rw [HKe.out] at k7
              have hrow2 := HG7.out.row
              have hres2 := HG7.out.res
              clear hB7 k2 f2 hrow hres HG
              go_wp2_with (first
                | (refine wpList_load_mid (by kernel_rfl) _ _ rfl (new := polC x.1) rfl hrow2 (fun i _ => by rw [Nat.zero_add]) Tryd.underlying46 rfl (infoPol _) ?_)
                | (refine wpList_store_arr rfl rfl _ _ _ rfl rfl rfl hres2 (infoPol _) (by rw [polC_size, polC_size]) (polC_one _) ?_; intro w8 hw8))
              refine bodyPost_ret (results_arr rfl rfl hw8.blk Tryd.underlying46 rfl (infoPol _)) rfl ⟨by rw [HE2.out.2], by rw [HE2.out.1]; exact HG7.out.out HH.out.2.2.2 HH.out.2.1 hw8⟩
            | false =>
              have hE : rdE s = ([], 3) := by rw [HEe.out, if_pos ⟨he, hf⟩]
              have HE2 := Lib.hid (show rdE s = ([], 3) ∧ rdPo s = zeroP from ⟨hE, by rw [HEp.out, hE, if_neg (by decide)]⟩)
              rw [hf] at HFi
              rw [he] at k2
              clear hE hf he
              go_upto_region 14 with fail
              go_wp2_with (refine wpList_load_mid (by kernel_rfl) _ _ rfl (new := polC x.1) rfl hrow (fun i _ => by rw [Nat.zero_add]) Tryd.underlying46 rfl (infoPol _) ?_)
              refine (HFi.out _).mono ?_
              rintro e w7 ⟨rfl, hB7⟩
              have HG7 := Lib.hid (HG.out.step hB7)
              obtain ⟨k7, f7⟩ := HG7.out.rd.err
              have hX8 := HG7.out.rd.set HH.out.1 (c := 3) (by decide)
              have HG8 := Lib.hid (show QW w b ty g L c (x.1, ([], 3)) (w7.setCell ⟨b, 2, none⟩ (.int .i64 3)) from HG7.out.read HH.out.2.2.2 hX8)
              obtain ⟨k8, -⟩ := HG8.out.rd.err
              have hres2 := HG8.out.res
              clear hB7 k2 f2 hrow hres HG hX8
              go_upto_region 16 with fail
              clear k7 f7 HG7
              generalize w7.setCell _ _ = V8 at *
              go_wp2_with fail
              simp only [store_pol hres2 rfl, Result.andThen_ok]
              have hw8 : Put V8 (V8.setRow w.heap.size (polC zeroP)) w.heap.size (polC zeroP) 46 := ⟨⟨rfl, rfl, rfl, by simp, fun k _ hk => setRow_other V8 w.heap.size k _ hk⟩, setRow_heap V8 w.heap.size _ _ _ _ hres2⟩
              generalize V8.setRow _ _ = V9 at *
              go_wp2_with fail
              refine bodyPost_ret (results_arr rfl rfl hw8.blk Tryd.underlying46 rfl (infoPol _)) rfl ⟨by rw [HE2.out.2], by rw [HE2.out.1]; exact HG8.out.out HH.out.2.2.2 HH.out.2.1 hw8⟩
          · have hE : rdE s = x.2 := by rw [HEe.out, if_neg (fun h => he h.1)]
            have HE2 := Lib.hid (show rdE s = x.2 ∧ rdPo s = zeroP from ⟨hE, by rw [HEp.out, hE, if_neg he]⟩)
            have d1 : (x.2.2 == 0) = false := by simpa using he
            have d2 : (x.2.2 != 0) = true := by simpa using he
            clear hE he
            go_upto_region 14 with fail
            go_wp2_with fail
            simp only [store_pol hres rfl, Result.andThen_ok]
            have hw8 : Put wr (wr.setRow w.heap.size (polC zeroP)) w.heap.size (polC zeroP) 46 := ⟨⟨rfl, rfl, rfl, by simp, fun k _ hk => setRow_other wr w.heap.size k _ hk⟩, setRow_heap wr w.heap.size _ _ _ _ hres⟩
            generalize wr.setRow _ _ = V9 at *
            go_wp2_with fail
            refine bodyPost_ret (results_arr rfl rfl hw8.blk Tryd.underlying46 rfl (infoPol _)) rfl ⟨by rw [HE2.out.2], by rw [HE2.out.1]; exact HG.out.out HH.out.2.2.2 HH.out.2.1 hw8⟩
end Go.Proofs.YtimbhamdblganaaDoor

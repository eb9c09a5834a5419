/-
  The program's policies: Read.
-/
import Derived.Test.YtimbhamdblganaaDoorWPolG
import Derived.Test.YtimbhamdblganaaDoorW2
import Derived.Test.YtimbhamdblganaaDoorWPolW
/-! PolP -/
namespace Go.Proofs.YtimbhamdblganaaDoor
open Go.RowKit

theorem RAt.past {w w' : World} {b : Nat} {t : TypeId} {g c : Nat} {s : List UInt8 × Int} (h : RAt w b t g s) (hc : Chg (fun k => k = c) w w') (hb : b ≠ c) (hg : s.1 ≠ [] → g ≠ c) : RAt w' b t g s := by
  obtain ⟨p, n, cap, h1, h2, h3⟩ := h
  refine ⟨p, n, cap, hc.kept h1 hb, ?_, h3⟩
  by_cases e : s.1 = []
  · refine ⟨h2.same, h2.le, h2.small, ?_⟩
    rcases h2.place with q | q | ⟨g2, off, q, -⟩
    · exact .inl q
    · exact .inr (.inl q)
    · exact .inr (.inl ⟨e, by rw [q]; simp⟩)
  · exact h2.chg hc fun a ha => by rw [h3 a ha]; exact hg e
set_option maxHeartbeats 800000 in
theorem pReadSet_any (b : Nat) (t : TypeId) (g : Nat) (s : List UInt8 × Int) (w : World) (h : RAt w b t g s) (hg : g ≠ b) (hsm : s.1.length ≤ 1000000) :
    Calls Tryd.prog 47 #[.pointer (some ⟨b, 0, none⟩)] w fun e w' => e = .returned (.int .u16 ((dNum s 2 65535).1.toNat : Int)) ∧ RTo w b t g (dNum s 2 65535).2 w' := by
  have HN := Lib.hid (rdnum_any b t g s 2 65535 w h hg hsm)
  have hv := dNum_lt s
  have HC := Lib.hid (dNum_cast s 2 65535)
  clear h hg hsm
  generalize (dNum s 2 65535).1.toNat = v at *
  have hw1 : IntKind.u16.wrap (v : Int) = (v : Int) := by unfold IntKind.wrap; simp [IntKind.signed, IntKind.bits]; omega
  go_enter Tryd.func47, Tryd.ntmps47
  go_wp2_with fail
  refine HN.out.mono ?_
  rintro e w' ⟨rfl, hw⟩
  have HW := Lib.hid hw
  rw [← HC.out]
  clear hw HN HC
  go_wp2_with fail
  go_ret
  exact ⟨rfl, HW.out⟩
/-- A Reader, the policy that is read, and the place for the answer. -/
structure RPW (w : World) (b : Nat) (ty : TypeId) (g c : Nat) (n : Nat) (x : RdSt) (V : World) : Prop where
  rd : RAt V b ty g x.2
  row : PRow V c x.1
  res : PRow V w.heap.size zeroP
  chg : Chg (fun k => k = b) w V
  lt : w.heap.size < c
  le : x.2.1.length ≤ n
theorem RPW.read {w : World} {b : Nat} {ty : TypeId} {g c n : Nat} {x : RdSt} {V V' : World} {s : WSt} (h : RPW w b ty g c n x V) (hb : b < w.heap.size) (hx : RTo V b ty g s V') (hl : s.1.length ≤ x.2.1.length) : RPW w b ty g c n (x.1, s) V' :=
  ⟨hx.1, hx.2.kept h.row (by have := h.lt; omega), hx.2.kept h.res (by omega), h.chg.trans hx.2, h.lt, Nat.le_trans hl h.le⟩
theorem RPW.step {w : World} {b : Nat} {ty : TypeId} {g c n : Nat} {x : RdSt} {V V' : World} (h : RPW w b ty g c n x V) (hB : Below V.heap.size V V') : RPW w b ty g c n x V' :=
  ⟨h.rd.below hB (Nat.le_refl _), h.row.step hB, h.res.step hB, h.chg.trans (Chg.ofBelow hB), h.lt, h.le⟩
theorem RPW.cell {w : World} {b : Nat} {ty : TypeId} {g c n : Nat} {x : RdSt} {q : Pol} {V : World} (h : RPW w b ty g c n x V) (hb : b < w.heap.size) (hg : n ≠ 0 → g < w.heap.size) {k : Nat} {u : Value} (hr : PRow (V.setCell ⟨c, k, none⟩ u) c q) : RPW w b ty g c n (q, x.2) (V.setCell ⟨c, k, none⟩ u) := by
  have h1 := h.lt
  have hc := (Chg.refl (fun k => k = c) V).setCell (p := ⟨c, k, none⟩) (fun _ => rfl) u
  refine ⟨h.rd.past hc (by omega) (fun hne => ?_), hr, Blk.set_other h.res (by show c ≠ _; omega) _, h.chg.setCell (fun hk => by have h2 : c < w.heap.size := hk; omega) u, h.lt, h.le⟩
  have h2 := h.le
  have h3 : x.2.1.length ≠ 0 := fun e => hne (List.eq_nil_of_length_eq_zero e)
  have h4 := hg (by omega)
  omega
theorem RPW.out {w : World} {b : Nat} {ty : TypeId} {g c n : Nat} {x : RdSt} {V V' : World} {cs : Array Value} {t : TypeId} (h : RPW w b ty g c n x V) (hb : b < w.heap.size) (hg : n ≠ 0 → g < w.heap.size) (hp : Put V V' w.heap.size cs t) : RTo w b ty g x.2 V' := by
  refine ⟨h.rd.past hp.chg (by omega) (fun hne => ?_), h.chg.then hp.chg (fun i hi he => by have h2 : i = w.heap.size := he; omega)⟩
  have h2 := h.le
  have h3 : x.2.1.length ≠ 0 := fun e => hne (List.eq_nil_of_length_eq_zero e)
  have h4 := hg (by omega)
  omega
theorem RAt.in_ {w : World} {b : Nat} {t : TypeId} {g : Nat} {s : List UInt8 × Int} (h : RAt w b t g s) : b < w.heap.size ∧ (s.1.length ≠ 0 → g < w.heap.size) := by
  obtain ⟨p, n, c, h1, h2, h3⟩ := h
  refine ⟨h1.lt, fun hn => ?_⟩
  rcases h2.place with ⟨q, q2⟩ | ⟨q, -⟩ | ⟨g2, off, q, h4, -⟩
  · have := h2.le; have := h2.same; omega
  · rw [q] at hn; exact absurd rfl hn
  · rw [← h3 _ q]; exact h4
/-- What is answered where Fine says fb. -/
def rdEW (fb : Bool) (s : WSt) : WSt := if fb = true then (rdT s 16).2 else failS (rdT s 16).2 3
def rdPoW (fb : Bool) (s : WSt) : Pol := if (rdEW fb s).2 = 0 then (rdT s 16).1 else zeroP
set_option maxRecDepth 100000 in
set_option maxHeartbeats 3200000 in
theorem pRead_of (b : Nat) (ty : TypeId) (g : Nat) (s : WSt) (w : World) (fb : Bool) (cF : ∀ V, TabOk V → Calls Tryd.prog 49 #[.agg (polC (rdT s 16).1)] V fun e w' => e = .returned (.bool fb) ∧ Below V.heap.size V w')
    (hTb : ∀ V, Chg (fun k => k = b) w V → TabOk V) (h : RAt w b ty g s) (hg : g ≠ b) (hL : s.1.length ≤ 1000000) :
    Calls Tryd.prog 27 #[.pointer (some ⟨b, 0, none⟩)] w fun e w' => e = .returned (.agg (polC (rdPoW fb s))) ∧ RTo w b ty g (rdEW fb s) w' := by
  obtain ⟨hbl, hgl⟩ := h.in_
  have HX := Lib.hid h
  have HH := Lib.hid (And.intro hg (And.intro hgl (And.intro hL hbl)))
  have HB0 := Lib.hid (belowNew w (.cells (polC zeroP) 46))
  have HR0 := Lib.hid (PRow.new w zeroP)
  have HNs := Lib.hid (fun V s2 (hx : RAt V b ty g s2) (hl : s2.1.length ≤ s.1.length) => pReadSet_any b ty g s2 V hx hg (Nat.le_trans hl hL))
  have HNo := Lib.hid (fun V s2 (hx : RAt V b ty g s2) (hl : s2.1.length ≤ s.1.length) => rdnum_any b ty g s2 1 16 V hx hg (Nat.le_trans hl hL))
  have HFi := Lib.hid (fun V (hV : Chg (fun k => k = b) w V) => cF V (hTb V hV))
  clear h hg hgl hL hbl cF hTb
  go_enter Tryd.func27, Tryd.ntmps27
  go_upto_region 1 with fail
  have HX1 := Lib.hid (HX.out.below HB0.out (Nat.le_refl _))
  go_wp2_with fail
  refine (HNs.out _ _ HX1.out (Nat.le_refl _)).mono ?_
  rintro e w2 ⟨rfl, hX2⟩
  have hv := dNum_lt s
  have hs2 : (rdLive s).2 = (dNum s 2 65535).2 := rfl
  have hp2 : (rdLive s).1 = { zeroP with live := (dNum s 2 65535).1.toNat } := rfl
  have hle : (rdLive s).2.1.length ≤ s.1.length := dNum_le s 2 65535
  rw [← hs2] at hX2
  have HW2 := Lib.hid hX2
  have HL2 := Lib.hid hp2
  have HE2 := Lib.hid hle
  have HR2 := Lib.hid (show PRow w2 w.heap.size zeroP from hX2.2.kept HR0.out (by have := HH.out.2.2.2; omega))
  have HC2 := Lib.hid ((Chg.ofBelow (S := fun k => k = b) HB0.out).trans hX2.2)
  have HS2 := Lib.hid (show w.heap.size < w2.heap.size from HR2.out.lt)
  clear hX2 hs2 hp2 hle HX1
  generalize (dNum s 2 65535).1.toNat = v at *
  go_wp2_with fail
  have hB := PRow.new w2 zeroP
  simp only [store_pol hB (live_pol v), Result.andThen_ok]
  have hM : PRow ((w2.alloc (.cells (polC zeroP) 46)).setRow w2.heap.size (polC { zeroP with live := v })) w2.heap.size { zeroP with live := v } := setRow_heap _ _ _ _ _ _ hB
  have hbl2 : Below w2.heap.size w2 ((w2.alloc (.cells (polC zeroP) 46)).setRow w2.heap.size (polC { zeroP with live := v })) := (belowNew w2 _).trans (below_row (Nat.le_refl _))
  have HQ := Lib.hid (show RPW w b ty g w2.heap.size s.1.length (rdR s 0) ((w2.alloc (.cells (polC zeroP) 46)).setRow w2.heap.size (polC { zeroP with live := v })) from
    ⟨HW2.out.1.below hbl2 (Nat.le_refl _), by show PRow _ _ (rdLive s).1; rw [HL2.out]; exact hM, HR2.out.step hbl2, HC2.out.trans (Chg.ofBelow hbl2), HS2.out, HE2.out⟩)
  have HLv := Lib.hid (show ∀ k, (rdR s k).1.live = v from fun k => by rw [rdR_live]; exact congrArg (fun q : Pol => q.live) HL2.out)
  clear hM hB hbl2 HW2 HL2 HR2 HC2 HS2 HE2 HX HB0 HR0
  generalize (w2.alloc (.cells (polC zeroP) 46)).setRow _ _ = w3 at *
  generalize w2.heap.size = c at *
  have HHl := Lib.hid (fun V (r : Nat) => Has_any v (r : Int) V hv)
  go_wp2_with fail
  go_loopw [9] (fun i wr => ∃ k : Nat, k ≤ 16 ∧ i = .int .i64 (k : Int) ∧ RPW w b ty g c s.1.length (rdR s k) wr) (fun i _ => 16 - (intOf i).toNat)
  case atStart => exact ⟨0, by omega, rfl, HQ.out⟩
  case round =>
    obtain ⟨k, hk, rfl, hz⟩ := hrel
    have HG := Lib.hid hz
    clear hz HQ
    by_cases hlt : k < 16
    · have dk : decide ((k : Int) < 16) = true := by simp; omega
      have hk16 : (k : Int) < 16 := by omega
      have hk0 : (0 : Int) ≤ (k : Int) := by omega
      have HHk := Lib.hid (fun V => HHl.out V k)
      rw [hasB_bit] at HHk
      have k0 := HG.out.row.live
      rw [HLv.out k] at k0
      have HLk := Lib.hid (HLv.out k)
      cases hl : v.testBit k with
      | false =>
        rw [hl] at HHk
        have HE := Lib.hid (show rdR s (k + 1) = rdR s k by
          show rdRole (rdR s k) k = _
          unfold rdRole; rw [HLk.out, if_neg (by rw [hl]; simp)])
        clear hl
        go_wp2_with fail
        with_reducible refine (HHk.out _).mono ?_
        rintro e wx ⟨rfl, rfl⟩
        go_wp2_with fail
        rw [← HE.out] at HG
        go_roundw
        case rel => first | exact ⟨k + 1, by omega, by go_num, HG.out⟩ | ((repeat apply Exists.intro); exact ⟨⟨k + 1, by omega, by go_num, HG.out⟩, rfl⟩)
        case measure => simp [intOf]; omega
      | true =>
        rw [hl] at HHk
        have HE := Lib.hid (show rdG (rdI (rdS (rdR s k) k) k) k = rdR s (k + 1) by
          show _ = rdRole (rdR s k) k
          unfold rdRole; rw [HLk.out, if_pos hl])
        clear hl
        go_wp2_with fail
        with_reducible refine (HHk.out _).mono ?_
        rintro e wx ⟨rfl, rfl⟩
        clear k0 HLk
        generalize rdR s k = x at *
        go_wp2_with fail
        refine (HNs.out _ _ HG.out.rd HG.out.le).mono ?_
        rintro e w4 ⟨rfl, hX4⟩
        have HG4 := Lib.hid (HG.out.read HH.out.2.2.2 hX4 (dNum_le x.2 2 65535))
        clear hX4 HG
        generalize hv4 : (dNum x.2 2 65535).1.toNat = v4
        have HV4 := Lib.hid hv4
        clear hv4
        go_wp2_with fail
        refine (HNs.out _ _ HG4.out.rd HG4.out.le).mono ?_
        rintro e w6 ⟨rfl, hX6⟩
        have HG6 := Lib.hid (HG4.out.read HH.out.2.2.2 hX6 (dNum_le _ 2 65535))
        clear hX6 HG4
        have k6 := HG6.out.row.s hlt
        have k7 := HG6.out.row.i hlt
        have f6 := Blk.free HG6.out.row (1 + k * 2)
        have f7 := Blk.free HG6.out.row (1 + k * 2 + 1)
        have hS : PRow (w6.setCell ⟨c, 1 + k * 2, none⟩ (.int .u16 (v4 : Int))) c (x.1.putS k v4) := HG6.out.row.putS hlt _
        have h7 := (HG6.out.cell HH.out.2.2.2 HH.out.2.1 hS).cell HH.out.2.2.2 HH.out.2.1 (hS.putI hlt (dNum (dNum x.2 2 65535).2 2 65535).1.toNat)
        have HG7 := Lib.hid (show RPW w b ty g c s.1.length (rdI (rdS x k) k) _ from (show rdI (rdS x k) k = ((x.1.putS k v4).putI k (dNum (dNum x.2 2 65535).2 2 65535).1.toNat, (dNum (dNum x.2 2 65535).2 2 65535).2) by unfold rdI rdS; rw [HV4.out]) ▸ h7)
        clear hS h7 HG6
        generalize (dNum (dNum x.2 2 65535).2 2 65535).1.toNat = v6 at HG7 ⊢
        go_upto_region 7 with fail
        clear k6 f6 k7 f7
        generalize (w6.setCell _ _).setCell _ _ = V7 at *
        go_wp2_with fail
        refine (HNs.out _ _ HG7.out.rd HG7.out.le).mono ?_
        rintro e w8 ⟨rfl, hX8⟩
        have HG8 := Lib.hid (HG7.out.read HH.out.2.2.2 hX8 (dNum_le _ 2 65535))
        clear hX8
        have k8 := HG8.out.row.acts hlt
        have f8 := Blk.free HG8.out.row (33 + k)
        have HG9 := Lib.hid (show RPW w b ty g c s.1.length (rdG (rdI (rdS x k) k) k) (w8.setCell ⟨c, 33 + k, none⟩ (.int .u16 ((dNum (rdI (rdS x k) k).2 2 65535).1.toNat : Int))) from HG8.out.cell HH.out.2.2.2 HH.out.2.1 (HG8.out.row.putA hlt _))
        generalize (dNum (rdI (rdS x k) k).2 2 65535).1.toNat = v8 at HG9 ⊢
        clear HG8 HG7
        go_wp2_with fail
        rw [HE.out] at HG9
        go_roundw
        case rel => first | exact ⟨k + 1, by omega, by go_num, HG9.out⟩ | ((repeat apply Exists.intro); exact ⟨⟨k + 1, by omega, by go_num, HG9.out⟩, rfl⟩)
        case measure => simp [intOf]; omega
    · obtain rfl : k = 16 := by omega
      go_wp2_with fail
      refine (HNs.out _ _ HG.out.rd HG.out.le).mono ?_
      rintro e w4 ⟨rfl, hX4⟩
      have HG4 := Lib.hid (HG.out.read HH.out.2.2.2 hX4 (dNum_le _ 2 65535))
      clear hX4
      have k4 := HG4.out.row.active
      have f4 := Blk.free HG4.out.row 65
      have HG5 := Lib.hid (show RPW w b ty g c s.1.length (rdT s 0) (w4.setCell ⟨c, 65, none⟩ (.int .u16 ((dNum (rdR s 16).2 2 65535).1.toNat : Int))) from HG4.out.cell HH.out.2.2.2 HH.out.2.1 (HG4.out.row.putV _))
      generalize (dNum (rdR s 16).2 2 65535).1.toNat = v4 at HG5 ⊢
      clear HG4 HG
      go_upto_region 10 with fail
      clear k4 f4
      generalize w4.setCell _ _ = V5 at *
      go_wp2_with fail
      go_loopw [33] (fun i wr => ∃ t : Nat, t ≤ 16 ∧ i = .int .i64 (t : Int) ∧ RPW w b ty g c s.1.length (rdT s t) wr) (fun i _ => 16 - (intOf i).toNat)
      case atStart => exact ⟨0, by omega, rfl, HG5.out⟩
      case round =>
        obtain ⟨t, ht, rfl, hz⟩ := hrel
        have HG := Lib.hid hz
        clear hz HG5
        by_cases htt : t < 16
        · have dk : decide ((t : Int) < 16) = true := by simp; omega
          have ht16 : (t : Int) < 16 := by omega
          have ht0 : (0 : Int) ≤ (t : Int) := by omega
          have HE := Lib.hid (show rdO (rdT s t) t = rdT s (t + 1) from rfl)
          generalize rdT s t = x at *
          go_wp2_with fail
          refine (HNo.out _ _ HG.out.rd HG.out.le).mono ?_
          rintro e w6 ⟨rfl, hX6⟩
          have HG6 := Lib.hid (HG.out.read HH.out.2.2.2 hX6 (dNum_le _ 1 16))
          have hv6 : (dNum x.2 1 16).1.toNat ≤ 16 := dNum_most x.2 1 (most := 16)
          rw [← dNum_cast x.2 1 16]
          clear hX6
          have k6 := HG6.out.row.owner htt
          have f6 := Blk.free HG6.out.row (49 + t)
          have HG7 := Lib.hid (show RPW w b ty g c s.1.length (rdO x t) (w6.setCell ⟨c, 49 + t, none⟩ (.int .u8 ((dNum x.2 1 16).1.toNat : Int))) from HG6.out.cell HH.out.2.2.2 HH.out.2.1 (HG6.out.row.putO htt _))
          generalize hvv : (dNum x.2 1 16).1.toNat = v6 at hv6 HG7 ⊢
          have hw6 : IntKind.u8.wrap (v6 : Int) = (v6 : Int) := by unfold IntKind.wrap; simp [IntKind.signed, IntKind.bits]; omega
          clear hvv HG6 HG
          go_wp2_with fail
          rw [HE.out] at HG7
          go_roundw
          case rel => first | exact ⟨t + 1, by omega, by go_num, HG7.out⟩ | ((repeat apply Exists.intro); exact ⟨⟨t + 1, by omega, by go_num, HG7.out⟩, rfl⟩)
          case measure => simp [intOf]; omega
        · obtain rfl : t = 16 := by omega
          have HEe := Lib.hid (show rdEW fb s = if fb = true then (rdT s 16).2 else failS (rdT s 16).2 3 from rfl)
          have HEp := Lib.hid (show rdPoW fb s = if (rdEW fb s).2 = 0 then (rdT s 16).1 else zeroP from rfl)
          generalize rdT s 16 = x at *
          have hrow := HG.out.row
          go_wp2_with (refine wpList_load_mid (by kernel_rfl) _ _ rfl (new := polC x.1) rfl hrow (fun i _ => by rw [Nat.zero_add]) Tryd.underlying46 rfl (infoPol _) ?_)
          refine (HFi.out _ HG.out.chg).mono ?_
          rintro e w7 ⟨rfl, hB7⟩
          have HG7 := Lib.hid (HG.out.step hB7)
          clear hB7 hrow HG
          cases hfb : fb with
          | true =>
            have hEW : rdEW fb s = x.2 := by rw [HEe.out, if_pos hfb]
            clear hfb
            by_cases he : x.2.2 = 0
            · have HE2 := Lib.hid (show rdEW fb s = x.2 ∧ rdPoW fb s = x.1 from ⟨hEW, by rw [HEp.out, hEW, if_pos he]⟩)
              clear hEW
              have HErr := Lib.hid (fun V (hx : RAt V b ty g x.2) => rderr_any b ty g x.2 V hx)
              rw [he] at HErr
              clear he
              go_wp2_with fail
              refine (HErr.out _ HG7.out.rd).mono ?_
              rintro e wx ⟨rfl, rfl⟩
              have hrow2 := HG7.out.row
              have hres2 := HG7.out.res
              go_wp2_with (first
                | (refine wpList_load_mid (by kernel_rfl) _ _ rfl (new := polC x.1) rfl hrow2 (fun i _ => by rw [Nat.zero_add]) Tryd.underlying46 rfl (infoPol _) ?_)
                | (refine wpList_store_arr rfl rfl _ _ _ rfl rfl rfl hres2 (infoPol _) (by rw [polC_size, polC_size]) (polC_one _) ?_; intro w8 hw8))
              refine bodyPost_ret (results_arr rfl rfl hw8.blk Tryd.underlying46 rfl (infoPol _)) rfl ⟨by rw [HE2.out.2], by rw [HE2.out.1]; exact HG7.out.out HH.out.2.2.2 HH.out.2.1 hw8⟩
            · have HE2 := Lib.hid (show rdEW fb s = x.2 ∧ rdPoW fb s = zeroP from ⟨hEW, by rw [HEp.out, hEW, if_neg he]⟩)
              clear hEW
              have HErr := Lib.hid (fun V (hx : RAt V b ty g x.2) => rderr_any b ty g x.2 V hx)
              have d1 : (x.2.2 == 0) = false := by simpa using he
              have d2 : (x.2.2 != 0) = true := by simpa using he
              have hres := HG7.out.res
              clear he
              go_wp2_with fail
              refine (HErr.out _ HG7.out.rd).mono ?_
              rintro e wx ⟨rfl, rfl⟩
              go_wp2_with fail
              simp only [store_pol hres rfl, Result.andThen_ok]
              have hw8 : Put w7 (w7.setRow w.heap.size (polC zeroP)) w.heap.size (polC zeroP) 46 := ⟨⟨rfl, rfl, rfl, by simp, fun k _ hk => setRow_other w7 w.heap.size k _ hk⟩, setRow_heap w7 w.heap.size _ _ _ _ hres⟩
              generalize w7.setRow _ _ = V9 at *
              go_wp2_with fail
              refine bodyPost_ret (results_arr rfl rfl hw8.blk Tryd.underlying46 rfl (infoPol _)) rfl ⟨by rw [HE2.out.2], by rw [HE2.out.1]; exact HG7.out.out HH.out.2.2.2 HH.out.2.1 hw8⟩
          | false =>
            have hEW : rdEW fb s = failS x.2 3 := by rw [HEe.out, if_neg (by rw [hfb]; simp)]
            clear hfb
            have hne : (failS x.2 3).2 ≠ 0 := by
              unfold failS; split
              · decide
              · rename_i h; intro e; exact h ⟨e, by decide⟩
            have HE2 := Lib.hid (show rdEW fb s = failS x.2 3 ∧ rdPoW fb s = zeroP from ⟨hEW, by rw [HEp.out, hEW, if_neg hne]⟩)
            clear hEW
            have hle : (failS x.2 3).1.length ≤ x.2.1.length := by unfold failS; split <;> simp
            have HF := Lib.hid (fun V (hx : RAt V b ty g x.2) => rdfail_any b ty g x.2 3 V hx HH.out.1)
            have HErr := Lib.hid (fun V (hx : RAt V b ty g (failS x.2 3)) => rderr_any b ty g (failS x.2 3) V hx)
            have d1 : ((failS x.2 3).2 == 0) = false := by simpa using hne
            have d2 : ((failS x.2 3).2 != 0) = true := by simpa using hne
            have HLe := Lib.hid hle
            clear hne hle
            generalize failS x.2 3 = fs at *
            go_wp2_with fail
            refine (HF.out _ HG7.out.rd).mono ?_
            rintro e w8 ⟨rfl, hX8⟩
            have HG8 := Lib.hid (HG7.out.read HH.out.2.2.2 hX8 HLe.out)
            have hres := HG8.out.res
            clear hX8
            go_wp2_with fail
            refine (HErr.out _ HG8.out.rd).mono ?_
            rintro e wx ⟨rfl, rfl⟩
            go_wp2_with fail
            simp only [store_pol hres rfl, Result.andThen_ok]
            have hw8 : Put w8 (w8.setRow w.heap.size (polC zeroP)) w.heap.size (polC zeroP) 46 := ⟨⟨rfl, rfl, rfl, by simp, fun k _ hk => setRow_other w8 w.heap.size k _ hk⟩, setRow_heap w8 w.heap.size _ _ _ _ hres⟩
            generalize w8.setRow _ _ = V9 at *
            go_wp2_with fail
            refine bodyPost_ret (results_arr rfl rfl hw8.blk Tryd.underlying46 rfl (infoPol _)) rfl ⟨by rw [HE2.out.2], by rw [HE2.out.1]; exact HG8.out.out HH.out.2.2.2 HH.out.2.1 hw8⟩
end Go.Proofs.YtimbhamdblganaaDoor

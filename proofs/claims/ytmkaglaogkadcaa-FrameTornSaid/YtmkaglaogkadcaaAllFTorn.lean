/-
  The law FrameTorn holds for every argument. Nothing of the program's variables is asked: it returns true and leaves its arguments as they were.
-/
import Derived.Test.YtmkaglaogkadcaaLawFReads
import Derived.Test.YtmkaglaogkadcaaLawDTears
import Derived.Test.YtmkaglaogkadcaaCrcV
import Derived.Test.YtmkaglaogkadcaaCrcT
import Derived.Test.YtmkaglaogkadcaaDskV
import Derived.Test.YtmkaglaogkadcaaFrmC
import Derived.Test.YtmkaglaogkadcaaWirV
import Derived.Test.YtmkaglaogkadcaaCrcG
import Derived.Test.YtmkaglaogkadcaaRowB
import Derived.Lib.BufferWrite
import Derived.Test.YtmkaglaogkadcaaRows
import Derived.Test.YtmkaglaogkadcaaBlk
import Derived.ProofKit
import Derived.OpenShut
import Derived.Deep.DeepHandedRow
import Derived.LaidMore
import Derived.Stop.Joined
import Derived.Deep.Slices
import Derived.Deep.Fields
import Derived.ChangeSame
import Derived.JoinedOf
import Derived.JoinedAt
import Derived.ChangeMaps
import Derived.DataElems
import Derived.Test.YtmkaglaogkadcaaPbA
import Derived.Test.YtmkaglaogkadcaaDskF
import Derived.Test.YtmkaglaogkadcaaDskH
/-! LawFTorn -/
namespace Go.Proofs.Ytmkaglaogkadcaa
open Go.RowKit

/-- A disk, and bytes that lie apart from it. -/
structure TBk (K : DiskRel) (w : World) (b : Nat) (S : DS) (F : Nat → Prop) (p : Option Addr) (cap : Nat) (l : List UInt8) (V : World) : Prop where
  at_ : K.At V b S F
  bs : BsAt V p l.length cap l
  apart : ∀ a, p = some a → ¬ F a.block ∧ a.block < V.heap.size
  below : Below w.heap.size w V
  own : ∀ k, F k → w.heap.size ≤ k
theorem TBk.step {K : DiskRel} {w : World} {b : Nat} {S : DS} {F : Nat → Prop} {p : Option Addr} {cap : Nat} {l : List UInt8} {V V' : World} (h : TBk K w b S F p cap l V) (hB : Below V.heap.size V V') : TBk K w b S F p cap l V' :=
  ⟨DiskRel.below h.at_ hB, h.bs.below hB (Nat.le_refl _), fun a ha => ⟨(h.apart a ha).1, Nat.lt_of_lt_of_le (h.apart a ha).2 hB.size⟩, h.below.trans (hB.mono h.below.size), h.own⟩
theorem TBk.to {K : DiskRel} {w : World} {b : Nat} {S S' : DS} {F F' : Nat → Prop} {p : Option Addr} {cap : Nat} {l : List UInt8} {V V' : World} (h : TBk K w b S F p cap l V) (hA : K.At V' b S' F') (hs : ∀ k, F' k → F k ∨ V.heap.size ≤ k) (hc : Chg F V V') : TBk K w b S' F' p cap l V' :=
  ⟨hA, h.bs.chg hc fun a ha => (h.apart a ha).1, fun a ha => ⟨fun hf => by
    rcases hs _ hf with h1 | h1
    · exact (h.apart a ha).1 h1
    · have := (h.apart a ha).2; omega, Nat.lt_of_lt_of_le (h.apart a ha).2 hc.size⟩, h.below.trans (hc.below h.below.size h.own), fun k hk => by
    rcases hs k hk with h1 | h1
    · exact h.own k h1
    · have := h.below.size; omega⟩
theorem bs_block {w : World} {p : Option Addr} {len cap : Nat} {l : List UInt8} (h : BsAt w p len cap l) (hl : 0 < l.length) : ∀ a, p = some a → a.block < w.heap.size := by
  rintro a rfl
  rcases h.place with ⟨h1, -⟩ | ⟨rfl, -⟩ | ⟨g, off, h1, h2, -⟩
  · cases h1
  · simp at hl
  · cases h1; exact h2
theorem torn_all {l : List UInt8} (h : l.length = 128) : tornL 128 l = l := by
  unfold tornL
  rw [show (128 : Int).toNat = 128 from rfl, List.take_of_length_le (by omega), h]; simp
theorem torn_fr {kd : UInt8} {l : List UInt8} {k : Nat} (h : l.length = 128) (hk : k < 128) : frR kd (tornL k l) = ⟨0, 0, [], 3⟩ := by
  have h1 : frRE kd (tornL k l) = 3 := by
    refine torn_none (by rw [tornL_length (by omega), h]) ?_
    rw [tornL_get (by omega) (by omega), if_pos (by omega)]
  unfold frR
  rw [if_neg (by omega), h1]

set_option maxRecDepth 100000 in
set_option maxHeartbeats 12800000 in
theorem ftorn_any (K : DiskRel) (dN : DNewC K) (dW : DWriteC K) (dR : DReadC K) (dA : DArmC K) (dP : DPowerC K) (hW : FrWriteC) (hR : FrReadC) (hA : FrAliveC) (gg ss ke : Nat) (p : Option Addr) (len cap : Nat) (b : List UInt8) (w : World) (h : BsAt w p len cap b) (hg : gg < 4294967296) (hs : ss < 65536) (hke : ke < 256) :
    Calls Try.prog 5 #[.int .u32 (gg : Int), .int .u16 (ss : Int), .slice p len cap, .int .u8 (ke : Int)] w fun e w' => e = .returned (.bool true) ∧ Below w.heap.size w w' := by
  have hl := h.same
  subst hl
  have hbm : b.length ≤ 9223372036854775807 := by have := h.le; have := h.small; unfold maxLen at this; omega
  have HA := Lib.hid hA
  have HR := Lib.hid hR
  clear hA hR
  by_cases hlen : 112 < b.length
  · have d1 : (112 : Int) < (b.length : Int) := by omega
    clear h hlen hW HR
    generalize b.length = n at *
    go_enter Try.func5, Try.ntmps5
    go_wp2_with fail
    refine (HA.out _).mono ?_
    rintro e w1 ⟨rfl, hB1⟩
    have HB1 := Lib.hid hB1
    clear hB1
    go_wp2_with fail
    go_ret
    exact ⟨rfl, HB1.out⟩
  · have d1 : ¬ (112 : Int) < (b.length : Int) := by omega
    have HBs := Lib.hid h
    obtain ⟨kk, hkk⟩ : ∃ kk, ke % 129 = kk := ⟨_, rfl⟩
    have hkk2 : (ke : Int) % 129 = (kk : Int) := by omega
    have hkk8 : kk ≤ 128 := by omega
    obtain ⟨z, hz⟩ : ∃ z, gg / 2 = z := ⟨_, rfl⟩
    have hz2 : (gg : Int) / 2 = (z : Int) := by omega
    have hz3 : z ≤ 2147483647 := by omega
    have hE : frWE (z : Int) (ss : Int) b = 0 := by
      unfold frWE
      rw [if_neg (by omega), if_neg (by omega)]
    have hWr := hW 82 (z : Int) (ss : Int) p _ cap b w h (by omega)
    have hLL := frWL_length (kd := 82) hE
    have hFR := frR_frW (kd := 82) hE
    rw [hE, hLL, show (((82 : UInt8).toNat : Nat) : Int) = 82 from rfl] at hWr
    have HWr := Lib.hid hWr
    have HLL := Lib.hid hLL
    have HFR := Lib.hid hFR
    have HRd := Lib.hid (show ∀ V p cap t, BsAt V p 128 cap t → _ from fun V p cap t hV => HR.out 82 p 128 cap t V hV (by have := hV.same; omega))
    clear hkk hz hE hWr hLL hFR hW h hlen HR
    generalize frWL 82 (z : Int) (ss : Int) b = L at *
    go_enter Try.func5, Try.ntmps5
    go_wp2_with fail
    with_reducible refine HWr.out.mono ?_
    rintro e w1 ⟨q1, c1, rfl, hf1, hB1⟩
    have hb1 : BsAt w1 q1 L.length c1 L := FreshB.bs (B := w.heap.size) (by rw [HLL.out]; exact hf1)
    have HBk1 := Lib.hid (bs_block hb1 (by rw [HLL.out]; decide))
    have Hb1 := Lib.hid hb1
    have HB1 := Lib.hid hB1
    clear hf1 hb1 hB1 HWr
    go_wp2_with fail
    refine (dN 1 w1 (by decide) (by decide)).mono ?_
    rintro e w2 ⟨bb, F, rfl, hA2, hF2, hB2⟩
    have HT2 := Lib.hid (show TBk K w bb (DS.new 1) F q1 c1 L w2 from ⟨hA2, Hb1.out.below hB2 (Nat.le_refl _), fun a ha => ⟨fun hf => by have := hF2 _ hf; have := HBk1.out a ha; omega, Nat.lt_of_lt_of_le (HBk1.out a ha) hB2.size⟩, HB1.out.trans (hB2.mono HB1.out.size), fun k hk => Nat.le_trans HB1.out.size (hF2 k hk)⟩)
    have HOk2 := Lib.hid (DSOk.new (n := 1) (by decide))
    have hrd := torn_read (S := DS.new 1) (DSOk.new (by decide)) (i := 0) (kk := kk) (n := 0) (l := L) (by rw [DS.new_len]; decide) (by rw [DS.new_len]; decide) HLL.out rfl hkk8
    have HRe := Lib.hid (show readE (powerS (writeS (armS (DS.new 1) 0 kk) 0 L)) 0 = 0 from hrd.1)
    have HRl := Lib.hid (show readL (powerS (writeS (armS (DS.new 1) 0 kk) 0 L)) 0 = tornL kk L from hrd.2.1.trans (if_pos rfl))
    have HWr3 := Lib.hid (show (armS (DS.new 1) 0 kk).wr ≤ 1000000 by unfold armS; split <;> simp [DS.new])
    have HTl := Lib.hid (show (tornL (kk : Int) L).length = 128 by rw [tornL_length (by rw [HLL.out]; omega), HLL.out])
    clear hA2 hF2 hB2 hrd Hb1 HB1 HBk1
    unfold ptrV
    go_wp2_with fail
    try rw [hkk2]
    refine (dA 0 kk HT2.out.at_ HOk2.out (by decide)).mono ?_
    rintro e w3 ⟨F3, rfl, hA3, hs3, hc3⟩
    have HT3 := Lib.hid (HT2.out.to hA3 hs3 hc3)
    have HOk3 := Lib.hid (HOk2.out.arm 0 kk (by decide))
    have hW3 := dW 0 HT3.out.at_ HOk3.out HWr3.out HT3.out.bs (fun a ha => (HT3.out.apart a ha).1)
    rw [HLL.out] at hW3
    have HW3 := Lib.hid hW3
    clear hA3 hs3 hc3 hW3 HT2
    go_wp2_with fail
    refine HW3.out.mono ?_
    rintro e w4 ⟨F4, rfl, hA4, hs4, hc4⟩
    have HT4 := Lib.hid (HT3.out.to hA4 hs4 hc4)
    have HOk4 := Lib.hid (HOk3.out.write 0 L)
    clear hA4 hs4 hc4 HT3 HW3
    go_wp2_with fail
    refine (dP HT4.out.at_ HOk4.out).mono ?_
    rintro e w5 ⟨F5, rfl, hA5, hs5, hc5⟩
    have HT5 := Lib.hid (HT4.out.to hA5 hs5 hc5)
    have HOk5 := Lib.hid HOk4.out.power
    clear hA5 hs5 hc5 HT4
    go_wp2_with fail
    refine (dR 0 HT5.out.at_ HOk5.out).mono ?_
    rintro e w6 ⟨p6, c6, rfl, hf6, hB6⟩
    rw [HRl.out] at hf6
    have HB6 := Lib.hid (HT5.out.below.trans (hB6.mono HT5.out.below.size))
    have hb6 := FreshB.bs hf6
    rw [HTl.out] at hb6
    have HR6 := Lib.hid (HRd.out w6 p6 c6 _ hb6)
    rw [HRl.out, HRe.out, HTl.out]
    clear hf6 hB6 hb6 HT5 HRl HRe HOk2 HOk3 HOk4 HOk5 HWr3 HRd
    by_cases hk : kk = 128
    · subst hk
      have e9 : tornL ((128 : Nat) : Int) L = L := torn_all HLL.out
      rw [e9, HFR.out] at HR6
      clear e9 HTl HLL HFR
      go_wp2_with fail
      refine HR6.out.mono ?_
      rintro e w7 ⟨q7, c7, rfl, ⟨hb7, -⟩, hB7⟩
      have HB7 := Lib.hid (HB6.out.trans (hB7.mono HB6.out.size))
      have s1 := run_string_bs (P := Try.prog) w7 22 5 9 Try.underlying22 Try.underlying5 Try.underlying9 hb7
      have s2 := run_string_bs (P := Try.prog) w7 22 5 9 Try.underlying22 Try.underlying5 Try.underlying9 (HBs.out.below HB7.out (Nat.le_refl _))
      have hsn : (b == b) = true := by simp
      clear hB7 hb7
      go_wp2_with fail
      refine (HA.out _).mono ?_
      rintro e w9 ⟨rfl, hB9⟩
      have HB9 := Lib.hid (HB7.out.trans (hB9.mono HB7.out.size))
      clear hB9
      go_wp2_with fail
      go_ret
      exact ⟨rfl, HB9.out⟩
    · rw [torn_fr HLL.out (show kk < 128 by omega)] at HR6
      have dk : ¬ ((kk : Int) = 128) := by omega
      clear hk HTl HLL HFR
      go_wp2_with fail
      refine HR6.out.mono ?_
      rintro e w7 ⟨q7, c7, rfl, -, hB7⟩
      have HB7 := Lib.hid (HB6.out.trans (hB7.mono HB6.out.size))
      clear hB7
      go_wp2_with fail
      refine (HA.out _).mono ?_
      rintro e w9 ⟨rfl, hB9⟩
      have HB9 := Lib.hid (HB7.out.trans (hB9.mono HB7.out.size))
      clear hB9
      go_wp2_with fail
      go_ret
      exact ⟨rfl, HB9.out⟩
end Go.Proofs.Ytmkaglaogkadcaa

/-! FrmV -/
namespace Go.Proofs.Ytmkaglaogkadcaa
open Go.RowKit

def aF : List UInt8 := frWL 67 1 2 [120, 121]
def aG : List UInt8 := aF.set 9 120
theorem aF_e : frWE 1 2 [120, 121] = 0 := by decide
theorem aF_len : aF.length = 128 := frWL_length aF_e
theorem aG_len : aG.length = 128 := by unfold aG; rw [List.length_set, aF_len]
theorem aF_r : frR 67 aF = ⟨1, 2, [120, 121], 0⟩ := frR_frW aF_e
theorem aF_c : frR 82 aF = ⟨0, 0, [], 3⟩ := by
  have h : frRE 82 aF = 3 := by decide +kernel
  unfold frR; rw [if_neg (by omega), h]
theorem aG_r : frR 67 aG = ⟨0, 0, [], 18⟩ := by
  have h : frRE 67 aG = 18 := by decide +kernel
  unfold frR; rw [if_neg (by omega), h]
theorem aF_9 : aF[9]? = some 121 := by decide +kernel
theorem aG_8 : aG.take 8 = [67, 0, 0, 0, 1, 0, 2, 2] := by decide +kernel
theorem aG_127 : aG[127]? = some 69 := by decide +kernel
theorem aN_e : frWE (-1) 0 [] = 8 := by decide
theorem aN_l : frWL 82 (-1) 0 [] = [] := by unfold frWL; rw [aN_e]; rfl
theorem frw_lit (hW : FrWriteC) (W : World) (cs : Array Value) (fr : Nat × Nat) (h : cs.toList = bvs [120, 121]) :
    Calls Try.prog 7 #[.int .u8 67, .int .i64 1, .int .i64 2, .slice (some ⟨W.heap.size, 0, none⟩) 2 2] (W.alloc (.cells cs 5 fr)) fun e w' => ∃ q c, e = .returned (.tuple #[.slice q 128 c, .int .i64 0]) ∧ FreshB W.heap.size w' (.slice q aF.length c) aF ∧ Below W.heap.size W w' :=
  (hW 67 1 2 _ 2 2 [120, 121] _ (bs_mark W cs fr _ h (by decide)) (by decide)).mono fun e w' ⟨q, c, he, ⟨t, h1⟩, hB⟩ => by
    rw [aF_e, show (frWL 67 1 2 [120, 121]).length = 128 from aF_len] at he
    exact ⟨q, c, he, ⟨t, own_base2 h1 (by simp)⟩, (below_mark W cs fr).trans (hB.mono (by simp))⟩
theorem frr_lit (hR : FrReadC) {kd : UInt8} {t : List UInt8} {g s : Int} {P : List UInt8} {x z : Int} (hr : frR kd t = ⟨g, s, P, z⟩) (hx : (kd.toNat : Int) = x) (p : Option Addr) (len cap : Nat) (V : World) (hV : BsAt V p len cap t) (ht : t.length = 128) :
    Calls Try.prog 9 #[.int .u8 x, .slice p len cap] V fun e w' => ∃ q c, e = .returned (.tuple #[.int .i64 g, .int .i64 s, .slice q P.length c, .int .i64 z]) ∧ NewB V.heap.size w' q c P ∧ Below V.heap.size V w' := by
  have h := hR kd p len cap t V hV (by omega)
  rw [hr, hx] at h
  exact h

set_option maxRecDepth 100000 in
set_option maxHeartbeats 6400000 in
theorem fralive_any (hW : FrWriteC) (hR : FrReadC) : FrAliveC := by
  intro w
  have kc := fun (w : World) (C : Array Value) (n c : Nat) => Lib.run_convert_bytes_const (P := Try.prog) w 22 5 C n c Try.underlying22 Try.underlying5
  go_enter Try.func6, Try.ntmps6
  go_wp2_with fail
  refine (frw_lit hW w _ _ rfl).mono ?_
  rintro e w1 ⟨q1, c1, rfl, ⟨t1, hr1⟩, hB1⟩
  obtain ⟨g, rfl, -⟩ := row_byte hr1 (by rw [aF_len]; decide)
  have hg := (hr1.lt g rfl).2
  have HB1 := Lib.hid hB1
  have HR1 := Lib.hid hr1
  have hb1 := FreshB.bs ⟨t1, hr1⟩
  rw [aF_len] at hb1
  have hc8 : 128 ≤ c1 := hb1.le
  have HRd := Lib.hid (fun V hV => frr_lit hR aF_r (x := 67) rfl (some ⟨g, 0, none⟩) 128 c1 V hV aF_len)
  have HRc := Lib.hid (fun V hV => frr_lit hR aF_c (x := 82) rfl (some ⟨g, 0, none⟩) 128 c1 V hV aF_len)
  have HRg := Lib.hid (fun V hV => frr_lit hR aG_r (x := 67) rfl (some ⟨g, 0, none⟩) 128 c1 V hV aG_len)
  have Hb1 := Lib.hid hb1
  clear hr1 hB1 hb1 kc hR
  go_wp2_with fail
  refine (HRd.out w1 Hb1.out).mono ?_
  rintro e w2 ⟨q2, c2, rfl, ⟨hp2, hn2⟩, hB2⟩
  have HB2 := Lib.hid (HB1.out.trans (hB2.mono HB1.out.size))
  have HR2 := Lib.hid (own_below HR1.out hB2 (Nat.le_refl _))
  have Hb2 := Lib.hid (Hb1.out.below hB2 (Nat.le_refl _))
  have HP2 := Lib.hid hp2
  have HN2 := Lib.hid hn2
  have hg2 : g < w2.heap.size := Nat.lt_of_lt_of_le hg hB2.size
  clear hp2 hn2 hB2 HB1 HR1 Hb1 HRd
  go_wp2_with fail
  refine (HRc.out w2 Hb2.out).mono ?_
  rintro e w3 ⟨q3, c3, rfl, -, hB3⟩
  have HB3 := Lib.hid (HB2.out.trans (hB3.mono HB2.out.size))
  have hR3 := own_below HR2.out hB3 (Nat.le_refl _)
  have HR3 := Lib.hid hR3
  have HP3 := Lib.hid (HP2.out.below hB3 (Nat.le_refl _))
  have hcell : w3.cell? ⟨g, 9, none⟩ = some (.int .u8 121) := by
    obtain ⟨g', e, hby⟩ := row_byte hR3 (by rw [aF_len]; decide)
    cases e
    exact hby 9 121 aF_9
  have hfree := hR3.frozenAt 9
  clear hR3 hB3 HB2 HR2 Hb2 HRc HP2
  go_wp2_with fail
  rw [show bits BinOp.xor IntKind.u8 121 1 = 120 by decide]
  have hst := HR3.out.stored 9 (.int .u8 120)
  have e1 : (bvs aF).set 9 (.int .u8 120) = bvs aG := by unfold aG; rw [bvs_set]; rfl
  rw [e1, show aF.length = aG.length by rw [aF_len, aG_len]] at hst
  generalize w3.setCell ⟨g, 9, none⟩ (.int .u8 120) = w4 at *
  have HB4 := Lib.hid (HB3.out.grown hst.2 HB3.out.size (fun k hk => by cases hk; exact (HR3.out.lt g rfl).1))
  have HP4 := Lib.hid (HP3.out.kept hst.2.size (fun a ha hlt => hst.2.block a.block hlt (fun e => by
    cases e
    have := HN2.out a ha
    omega)))
  have HR4 := Lib.hid hst.1
  have hb4 := FreshB.bs ⟨t1, hst.1⟩
  rw [aG_len] at hb4
  clear hst hcell hfree HB3 HR3 HP3 HN2 e1
  refine (HRg.out w4 hb4).mono ?_
  rintro e w5 ⟨q5, c5, rfl, -, hB5⟩
  have HB5 := Lib.hid (HB4.out.trans (hB5.mono HB4.out.size))
  have HR5 := Lib.hid (own_below HR4.out hB5 (Nat.le_refl _))
  have HP5 := Lib.hid (HP4.out.below hB5 (Nat.le_refl _))
  have h6 := hW 82 (-1) 0 none 0 0 [] w5 (bsAt_nil _) (by decide)
  rw [aN_e, aN_l] at h6
  have H6 := Lib.hid h6
  clear hb4 hB5 HB4 HR4 HP4 HRg h6 hW
  go_wp2_with fail
  refine H6.out.mono ?_
  rintro e w6 ⟨q6, c6, rfl, -, hB6⟩
  have HB6 := Lib.hid (HB5.out.trans (hB6.mono HB5.out.size))
  have hR6 := own_below HR5.out hB6 (Nat.le_refl _)
  have hp6 : BsAt w6 q2 2 c2 [120, 121] := HP5.out.below hB6 (Nat.le_refl _)
  have hb6 := FreshB.bs ⟨t1, hR6⟩
  rw [aG_len] at hb6
  have u8' := run_upto w6 (some ⟨g, 0, none⟩) 128 c1 8 (by omega)
  have s1 := run_string_bs (P := Try.prog) w6 22 5 9 Try.underlying22 Try.underlying5 Try.underlying9 (bs_take hb6 (n := 8) (by rw [aG_len]; decide))
  rw [aG_8] at s1
  have s2 := run_string_bs (P := Try.prog) w6 22 5 9 Try.underlying22 Try.underlying5 Try.underlying9 hp6
  have c127 : w6.cell? ⟨g, 127, none⟩ = some (.int .u8 69) := by
    obtain ⟨g', e, hby⟩ := row_byte hR6 (by rw [aG_len]; decide)
    cases e
    exact hby 127 69 aG_127
  have hc : (8 : Int) ≤ (c1 : Int) := by omega
  clear hR6 hp6 hb6 hB6 H6 HB5 HR5 HP5
  go_wp2_with fail
  go_ret
  exact ⟨rfl, HB6.out⟩
end Go.Proofs.Ytmkaglaogkadcaa

/-! FrmE -/
namespace Go.Proofs.Ytmkaglaogkadcaa
open Go.RowKit

/-- Where a part of a block lies. -/
def partP (p : Option Addr) (lo hi : Nat) : Option Addr := if hi = lo then p else p.map (·.add lo)
set_option maxHeartbeats 400000 in
theorem fpart_any (p : Option Addr) (len cap lo hi : Nat) (x y : Int) (w : World) (hx : x = (lo : Int)) (hy : y = (hi : Int)) (h1 : lo ≤ hi) (h2 : hi ≤ cap) :
    Calls Try.prog 19 #[.slice p len cap, .int .i64 x, .int .i64 y] w fun e w' => e = .returned (.slice (partP p lo hi) (hi - lo) (hi - lo)) ∧ w = w' := by
  have q : ∀ V, (Instr.slice 22 (.slice p len cap) (some (.int .i64 x)) (some (.int .i64 y)) (some (.int .i64 y))).run Try.prog V = .ok (.slice (partP p lo hi) (hi - lo) (hi - lo)) V := by
    intro V
    rw [run_slice_lhm V _ _ _ _ elemU8 .i64 .i64 .i64 _ _ _ (by omega) (by omega) (by omega) (by omega), sizeU8]
    subst hx; subst hy
    simp [Result.andThen, sliced, partP]
  clear hx hy h1 h2
  go_enter Try.func19, Try.ntmps19
  go_wp2_with fail
  go_ret
  exact ⟨rfl, rfl⟩
/-- A part that is not empty, of a block that has an address. -/
theorem fpart_at (g off len cap lo hi : Nat) (x y : Int) (o n : Nat) (w : World) (hx : x = (lo : Int)) (hy : y = (hi : Int)) (h1 : lo < hi) (h2 : hi ≤ cap) (ho : off + lo = o) (hn : hi - lo = n) :
    Calls Try.prog 19 #[.slice (some ⟨g, off, none⟩) len cap, .int .i64 x, .int .i64 y] w fun e w' => e = .returned (.slice (some ⟨g, o, none⟩) n n) ∧ w = w' := by
  refine (fpart_any (some ⟨g, off, none⟩) len cap lo hi x y w hx hy (by omega) h2).mono fun e w' ⟨he, hw⟩ => ⟨?_, hw⟩
  subst ho; subst hn
  rw [he, partP, if_neg (by omega)]
  have : (⟨g, off, none⟩ : Addr).add lo = ⟨g, off + lo, none⟩ := by unfold Addr.add; split <;> simp_all
  simp [this]
/-- A part reads as the bytes there. -/
theorem part_bs {w : World} {p : Option Addr} {len cap lo hi : Nat} {l : List UInt8} (h : BsAt w p len cap l) (h1 : lo ≤ hi) (h2 : hi ≤ len) : BsAt w (partP p lo hi) (hi - lo) (hi - lo) ((l.take hi).drop lo) := by
  have hl := h.same
  have ht := bs_take (n := hi) h (by omega)
  have hc : BsAt w p hi hi (l.take hi) := by
    refine ⟨ht.same, Nat.le_refl _, by have := h.le; have := h.small; omega, ?_⟩
    rcases ht.place with ⟨h3, h4⟩ | h3 | h3
    · exact .inl ⟨h3, by have := h.le; omega⟩
    · exact .inr (.inl h3)
    · exact .inr (.inr h3)
  have hd := bs_drop (n := lo) hc (by rw [List.length_take]; omega)
  exact hd

set_option maxHeartbeats 400000 in
theorem fwithin_any (n most : Int) (w : World) : Calls Try.prog 17 #[.int .i64 n, .int .i64 most] w fun e w' => e = .returned (.bool (decide (0 ≤ n) && decide (n ≤ most))) ∧ w = w' := by
  by_cases h1 : 0 ≤ n
  · by_cases h2 : n ≤ most
    · have b1 : decide (0 ≤ n) = true := by simpa using h1
      have b2 : decide (n ≤ most) = true := by simpa using h2
      go_enter Try.func17, Try.ntmps17
      go_wp2_with fail
      go_ret
      exact ⟨by rw [b1, b2]; rfl, rfl⟩
    · have b1 : decide (0 ≤ n) = true := by simpa using h1
      have b2 : decide (n ≤ most) = false := by simpa using h2
      clear h1 h2
      go_enter Try.func17, Try.ntmps17
      go_wp2_with fail
      go_ret
      exact ⟨by rw [b1, b2]; rfl, rfl⟩
  · have b1 : decide (0 ≤ n) = false := by simpa using h1
    clear h1
    go_enter Try.func17, Try.ntmps17
    go_wp2_with fail
    go_ret
    exact ⟨by rw [b1]; rfl, rfl⟩

theorem wNum_fit {l : List UInt8} {n : Nat} {k : Nat} (h1 : 1 ≤ k) (h4 : k ≤ 4) (hn : n < 256 ^ k) : wNum (l, 0) (n : Int) (k : Int) = (l ++ be n k, 0) := by
  have ho : okN (n : Int) (k : Int) = true := by
    rw [okN_iff]
    refine ⟨by omega, by omega, by omega, ?_⟩
    have e : (256 : Int) ^ k = ((256 ^ k : Nat) : Int) := (Int.natCast_pow 256 k).symm
    rw [Int.toNat_natCast, e]
    exact Int.ofNat_lt.2 hn
  unfold wNum addS
  rw [if_pos ho, if_pos rfl, Int.toNat_natCast, Int.toNat_natCast]
theorem head_num (kd : UInt8) (gen seq n : Nat) (hg : gen < 4294967296) (hs : seq < 65536) (hn : n < 256) :
    wNum (wNum (wNum (wNum ([], 0) (kd.toNat : Int) 1) (gen : Int) 4) (seq : Int) 2) (n : Int) 1 = (frHead kd gen seq n, 0) := by
  have e1 : wNum ([], 0) (kd.toNat : Int) 1 = _ := wNum_fit (l := []) (n := kd.toNat) (k := 1) (by omega) (by omega) (by have := kd.toNat_lt; simpa using this)
  have e2 : wNum ([] ++ be kd.toNat 1, 0) (gen : Int) 4 = _ := wNum_fit (l := [] ++ be kd.toNat 1) (n := gen) (k := 4) (by omega) (by omega) (by simpa using hg)
  have e3 : wNum ([] ++ be kd.toNat 1 ++ be gen 4, 0) (seq : Int) 2 = _ := wNum_fit (l := [] ++ be kd.toNat 1 ++ be gen 4) (n := seq) (k := 2) (by omega) (by omega) (by simpa using hs)
  have e4 : wNum ([] ++ be kd.toNat 1 ++ be gen 4 ++ be seq 2, 0) (n : Int) 1 = _ := wNum_fit (l := [] ++ be kd.toNat 1 ++ be gen 4 ++ be seq 2) (n := n) (k := 1) (by omega) (by omega) (by simpa using hn)
  rw [e1, e2, e3, e4]
  simp [be, frHead, Nat.div_div_eq_div_mul]

set_option maxRecDepth 100000 in
set_option maxHeartbeats 1600000 in
theorem fnumbers_any (kd : UInt8) (gen seq n : Nat) (w : World) (hg : gen < 4294967296) (hs : seq < 65536) (hn : n < 256) :
    Calls Try.prog 18 #[.int .u8 (kd.toNat : Int), .int .i64 (gen : Int), .int .i64 (seq : Int), .int .i64 (n : Int)] w fun e w' => ∃ v, e = .returned (.tuple #[v, .int .i64 0]) ∧ BsNew w (frHead kd gen seq n) v w' ∧ Below w.heap.size w w' := by
  have HN := Lib.hid (head_num kd gen seq n hg hs hn)
  have H0 := Lib.hid (WAt.new w 59)
  have hk := kd.toNat_lt
  generalize kd.toNat = k at *
  have hkw : IntKind.i64.wrap (k : Int) = (k : Int) := IntWalk.i64_in _ (by omega)
  go_enter Try.func18, Try.ntmps18
  go_wp2_with fail
  refine (wnum_any w.heap.size w.heap.size _ _ _ _ _ _ H0.out (by simp) (by simp)).mono ?_
  rintro e w1 ⟨rfl, v1, hT1⟩
  have HT1 := Lib.hid hT1
  have HB1 := Lib.hid ((belowNew w _).trans (hT1.below H0.out (by simp) (Nat.le_refl _)))
  have hl1 := wNum_le ([], 0) (k : Int) 1
  clear hT1
  go_wp2_with fail
  refine (wnum_any w.heap.size w.heap.size _ _ _ _ _ _ HT1.out.now HB1.out.size (by simp at hl1; omega)).mono ?_
  rintro e w2 ⟨rfl, v2, hT2⟩
  have HT2 := Lib.hid hT2
  have HB2 := Lib.hid (HB1.out.trans (hT2.below HT1.out.now HB1.out.size (Nat.le_refl _)))
  have hl2 := wNum_le (wNum ([], 0) (k : Int) 1) (gen : Int) 4
  clear hT2
  go_wp2_with fail
  refine (wnum_any w.heap.size w.heap.size _ _ _ _ _ _ HT2.out.now HB2.out.size (by simp at hl1; omega)).mono ?_
  rintro e w3 ⟨rfl, v3, hT3⟩
  have HT3 := Lib.hid hT3
  have HB3 := Lib.hid (HB2.out.trans (hT3.below HT2.out.now HB2.out.size (Nat.le_refl _)))
  have hl3 := wNum_le (wNum (wNum ([], 0) (k : Int) 1) (gen : Int) 4) (seq : Int) 2
  clear hT3
  go_wp2_with fail
  refine (wnum_any w.heap.size w.heap.size _ _ _ _ _ _ HT3.out.now HB3.out.size (by simp at hl1; omega)).mono ?_
  rintro e w4 ⟨rfl, v4, hT4⟩
  have HT4 := Lib.hid hT4
  have HB4 := Lib.hid (HB3.out.trans (hT4.below HT3.out.now HB3.out.size (Nat.le_refl _)))
  have hl4 := wNum_le (wNum (wNum (wNum ([], 0) (k : Int) 1) (gen : Int) 4) (seq : Int) 2) (n : Int) 1
  clear hT4
  go_wp2_with fail
  refine (done_any w.heap.size w.heap.size _ _ _ _ HT4.out.now (by simp at hl1; omega)).mono ?_
  rintro e w5 ⟨v5, rfl, hbs, hB5⟩
  have HB5 := Lib.hid (HB4.out.trans (hB5.mono HB4.out.size))
  have HS5 := Lib.hid (hbs.older HB4.out.size)
  rw [HN.out] at HS5
  rw [HN.out]
  clear hbs hB5 HN
  go_wp2_with fail
  refine bodyPost_ret (results_tmp2 rfl _ _ _) rfl ?_
  exact ⟨_, rfl, HS5.out, HB5.out⟩

set_option maxHeartbeats 1600000 in
theorem fblank_any (p : Option Addr) (len cap : Nat) (l : List UInt8) (w : World) (h : BsAt w p len cap l) :
    Calls Try.prog 33 #[.slice p len cap] w fun e w' => e = .returned (.bool (l.all fun c => c == 0)) ∧ w = w' := by
  have hlen := h.same
  subst hlen
  have hm : l.length ≤ 9223372036854775807 := by have := h.le; have := h.small; unfold maxLen at this; omega
  have HB := Lib.hid h
  clear h
  go_enter Try.func33, Try.ntmps33
  go_wp2_with fail
  go_loop [7] (fun i => ∃ j : Nat, j ≤ l.length ∧ i = .int .i64 j ∧ (l.take j).all (fun c => c == 0) = true) (fun i => l.length - (intOf i).toNat)
  case atStart => exact ⟨0, Nat.zero_le _, rfl, by simp⟩
  case round =>
    obtain ⟨j, hj, rfl, ha⟩ := hrel
    have HA := Lib.hid ha
    clear ha
    by_cases hlt : j < l.length
    · obtain ⟨g', off, rfl, hc⟩ : ∃ g' off, p = some ⟨g', off, none⟩ ∧ w.cell? ⟨g', off + j, none⟩ = some (.int .u8 (l[j].toNat : Int)) := by
        rcases HB.out.place with ⟨-, h2⟩ | ⟨h2, -⟩ | ⟨g', off, rfl, -, h3⟩
        · have := HB.out.le; omega
        · rw [h2] at hlt; simp at hlt
        · exact ⟨g', off, rfl, h3 j hlt⟩
      by_cases hz : l[j] = 0
      · have hx : ((l[j].toNat : Nat) : Int) = 0 := by rw [hz]; rfl
        rw [hx] at hc
        have HA2 := Lib.hid (show (l.take (j + 1)).all (fun c => c == 0) = true by rw [List.take_succ_eq_append_getElem hlt, List.all_append, HA.out, hz]; rfl)
        clear hz hx
        go_wp2_with fail
        go_round
        case rel => exact ⟨j + 1, by omega, by go_num, HA2.out⟩
        case measure => simp [intOf]; omega
      · have HE := Lib.hid (show (l.all fun c => c == 0) = false by
          rw [List.all_eq_false]
          exact ⟨l[j], List.getElem_mem hlt, by simpa using hz⟩)
        have hx : ¬ ((l[j].toNat : Nat) : Int) = 0 := by
          intro e
          exact hz (UInt8.toNat_inj.1 (by simpa using e))
        generalize l[j].toNat = x at *
        clear hz
        go_wp2_with fail
        go_ret
        exact ⟨by rw [HE.out]; rfl, rfl⟩
    · have HE := Lib.hid (show (l.all fun c => c == 0) = true by rw [← HA.out, List.take_of_length_le (by omega)])
      go_wp2_with fail
      go_ret
      exact ⟨by rw [HE.out]; rfl, rfl⟩
end Go.Proofs.Ytmkaglaogkadcaa

/-! FrmF -/
namespace Go.Proofs.Ytmkaglaogkadcaa
open Go.RowKit

theorem infoSz1 : (Try.prog.info? 5).map (·.size) = some 1 := by kernel_rfl
theorem fresh_of_blk {w : World} {B g n : Nat} {l : List UInt8} {t : TypeId} (h : Blk w g (bvA l) t) (hl : l.length = n) (hB : B ≤ g) (hn : n ≤ maxLen) : FreshB B w (.slice (some ⟨g, 0, none⟩) n n) l :=
  ⟨t, by rw [bvs_length, hl]; omega, .inr ⟨g, n, bvA l, by rw [hl], hB, h, by rw [hl]; exact Nat.le_refl _, hn, by rw [bvA_size, hl, Nat.mul_one], by rw [Nat.mul_one, List.take_of_length_le (by simp [bvA, bvs_length])]; rfl⟩⟩
/-- The row that make made is a block of just these bytes. -/
theorem blk_of_made {w : World} {B g n : Nat} {l : List UInt8} {t : TypeId} (h : w.ownsRow B t 1 (.slice (some ⟨g, 0, none⟩) n n) l.length (bvs l)) : Blk w g (bvA l) t ∧ B ≤ g := by
  obtain ⟨h1, h2⟩ := h
  rcases h2 with ⟨h2, -⟩ | ⟨g', cap, cur, h2, hB, hg, h3, h4, h5, h6⟩
  · cases h2
  · simp only [Value.slice.injEq, Option.some.injEq, Addr.mk.injEq, and_true] at h2
    obtain ⟨rfl, h7, h8⟩ := h2
    refine ⟨?_, hB⟩
    have e : cur = bvA l := by
      apply Array.ext'
      rw [← List.take_of_length_le (l := cur.toList) (i := l.length * 1) (by simp; omega), h6]
      simp [bvA]
    rw [← e]; exact hg
/-- copy(dst, s), s a string that fits. -/
theorem wpList_copy_text {P : Program} {w : World} {ops : Array Oper} {rest : List Oper} {o : Oper} {a : Act} {Q : Exit → Act → World → Prop} (hgd : o.guard = none) (d s : Operand) (dT sT : TypeId)
    (ho : o.op = .call { callee := .builtin .copy, args := #[d, s], argTypes := #[dT, sT] }) (elem : TypeId) (hu : P.underlying dT = some (.slice elem)) (hsz : (P.info? elem).map (·.size) = some 1)
    {g off dLen dCap : Nat} {r : ByteArray} {all : List UInt8} {t : TypeId} (hd : a.eval d = .slice (some ⟨g, off, none⟩) dLen dCap) (hs : a.eval s = .string r) (h : Blk w g (bvA all) t) (hle : r.size ≤ dLen) (hfit : off + r.size ≤ all.length)
    (hK : ∀ w', Put w w' g (bvA (putL all off r.data.toList)) t → wpList P ops Q rest (a.put o.dst (goInt r.size)) w') : wpList P ops Q (o :: rest) a w := by
  refine wpList_plain hgd fun K hK' => ?_
  have hrun := Lib.run_copy_row_string (P := P) w dT sT o.type elem g off dLen dCap r (bvA all) t hu hsz h hle (by rw [bvA_size]; exact hfit)
  have e := bvs_put_row all r.data.toList off
  have hn : (bvs r.data.toList).length = r.size := by rw [bvs_length]; simp
  rw [hn] at e
  have e2 : Lib.byteCells r.data.toList = bvs r.data.toList := rfl
  rw [e2, e] at hrun
  unfold Oper.wp
  simp [execOp, ho, resolve, invoke, builtin, hd, hs, hrun, Result.andThen]
  exact hK' _ _ (hK _ (put_row h))

/-! What lies in the block, copy by copy. -/
theorem fr_put1 (kd : UInt8) (gen seq n : Nat) : putL (zerosB 128) 0 ((frHead kd gen seq n).take 8) = frHead kd gen seq n ++ zerosB 120 := by
  simp [putL, frHead, zerosB]
theorem fr_put2 (kd : UInt8) (gen seq : Nat) (b : List UInt8) (hn : b.length ≤ 112) : putL (frHead kd gen seq b.length ++ zerosB 120) 8 (b.take 112) = frBody kd gen seq b ++ zerosB 8 := by
  have e1 : b.take 112 = b := List.take_of_length_le hn
  have e2 : (frHead kd gen seq b.length).length = 8 := rfl
  unfold putL
  rw [e1, List.take_left' e2, ← List.drop_drop, List.drop_left' e2]
  unfold frBody zeros zerosB
  rw [List.drop_replicate, List.append_assoc, List.append_assoc, List.replicate_append_replicate, show 120 - b.length = 112 - b.length + 8 by omega]
theorem fr_put3 (kd : UInt8) (gen seq : Nat) (b : List UInt8) (hn : b.length ≤ 112) : putL (frBody kd gen seq b ++ zerosB 8) 0 ((sealL (frBody kd gen seq b)).take 124) = sealL (frBody kd gen seq b) ++ zerosB 4 := by
  have hl := frBody_length (kd := kd) (gen := gen) (seq := seq) hn
  have hs : (sealL (frBody kd gen seq b)).length = 124 := by rw [sealL_length, hl]
  have e : (sealL (frBody kd gen seq b)).take 124 = sealL (frBody kd gen seq b) := List.take_of_length_le (by omega)
  unfold putL
  rw [e, hs]
  simp [List.drop_append, hl, zerosB]
theorem fr_put4 (kd : UInt8) (gen seq : Nat) (b : List UInt8) (hn : b.length ≤ 112) : putL (sealL (frBody kd gen seq b) ++ zerosB 4) 124 [0, 0, 0, 69] = frL kd gen seq b := by
  have hl := frBody_length (kd := kd) (gen := gen) (seq := seq) hn
  have hs : (sealL (frBody kd gen seq b)).length = 124 := by rw [sealL_length, hl]
  unfold putL
  rw [List.take_left' hs, List.drop_of_length_le (by simp [hs, zerosB])]
  simp [frL, frTail]
theorem fr_body (kd : UInt8) (gen seq : Nat) (b : List UInt8) (hn : b.length ≤ 112) : (((frBody kd gen seq b ++ zerosB 8).drop 0).take 120) = frBody kd gen seq b := by
  rw [List.drop_zero, List.take_left' (frBody_length hn)]

set_option maxRecDepth 100000 in
set_option maxHeartbeats 3200000 in
theorem frWrite_main (kd : UInt8) (gen seq : Nat) (p : Option Addr) (cap : Nat) (b : List UInt8) (w : World) (h : BsAt w p b.length cap b) (hg : gen ≤ 2147483647) (hs : seq ≤ 65535) (hn : b.length ≤ 112) :
    Calls Try.prog 7 #[.int .u8 (kd.toNat : Int), .int .i64 (gen : Int), .int .i64 (seq : Int), .slice p b.length cap] w fun e w' => ∃ q c, e = .returned (.tuple #[.slice q 128 c, .int .i64 0]) ∧ FreshB w.heap.size w' (.slice q 128 c) (frL kd gen seq b) ∧ Below w.heap.size w w' := by
  have HBs := Lib.hid h
  have HW1 := Lib.hid (fun V => fwithin_any (gen : Int) 2147483647 V)
  have HW2 := Lib.hid (fun V => fwithin_any (seq : Int) 65535 V)
  have HN := Lib.hid (fnumbers_any kd gen seq b.length w (by omega) (by omega) (by omega))
  rw [show (decide (0 ≤ (gen : Int)) && decide ((gen : Int) ≤ 2147483647)) = true by simp; omega] at HW1
  rw [show (decide (0 ≤ (seq : Int)) && decide ((seq : Int) ≤ 65535)) = true by simp; omega] at HW2
  have HF := Lib.hid (And.intro (fr_put1 kd gen seq b.length) (And.intro (fr_put2 kd gen seq b hn) (And.intro (fr_put3 kd gen seq b hn) (And.intro (fr_put4 kd gen seq b hn) (fr_body kd gen seq b hn)))))
  have HL := Lib.hid (And.intro (frBody_length (kd := kd) (gen := gen) (seq := seq) hn) (frL_length (kd := kd) (gen := gen) (seq := seq) hn))
  have hb9 : b.length ≤ 9223372036854775807 := by omega
  have HH := Lib.hid (show (frHead kd gen seq b.length).length = 8 from rfl)
  clear h hg hs
  go_enter Try.func7, Try.ntmps7
  go_wp2_with fail
  with_reducible refine (HW1.out _).mono ?_
  rintro e w0 ⟨rfl, rfl⟩
  go_wp2_with fail
  with_reducible refine (HW2.out _).mono ?_
  rintro e w0 ⟨rfl, rfl⟩
  go_wp2_with fail
  with_reducible refine HN.out.mono ?_
  rintro e w1 ⟨v1, rfl, ⟨p1, n1, c1, rfl, hb1, -⟩, hB1⟩
  have HB1 := Lib.hid hB1
  have HS1 := Lib.hid hb1
  clear hb1 hB1 HW1 HW2 HN
  have tok1 : True := trivial
  go_upto_region 9 with (at_make; have _t := tok1; refine wpList_make_zeros rfl _ _ 22 rfl w1.heap.size 5 Try.underlying22 infoU8 128 rfl rfl rfl rfl (by decide) (Nat.le_refl _) ?_; intro w2 hown hg; have HO2 := Lib.hid hown; have HG2 := Lib.hid hg; clear hown hg tok1)
  have HK2 := Lib.hid (blk_of_made HO2.out).1
  have HB2 := Lib.hid (HB1.out.grown HG2.out HB1.out.size (fun k hk => by cases hk))
  have HS2 := Lib.hid (HS1.out.below ((Below.refl w1.heap.size w1).grown HG2.out (Nat.le_refl _) (fun k hk => by cases hk)) (Nat.le_refl _))
  have hG : w.heap.size ≤ w1.heap.size := HB1.out.size
  clear HO2 HG2 HS1
  generalize w1.heap.size = g at *
  go_wp2_with fail
  with_reducible refine (fpart_at g 0 128 128 0 8 0 8 0 8 _ rfl rfl (by decide) (by decide) rfl rfl).mono ?_
  rintro e w3 ⟨rfl, rfl⟩
  go_wp2_with (refine wpList_copy_part rfl _ _ 22 22 rfl 5 Try.underlying22 infoSz1 rfl rfl HK2.out HS2.out (by simp [zerosB]) ?_; intro w4 hw4; have HP4 := Lib.hid hw4; clear hw4)
  have HB4 := Lib.hid (HB2.out.trans (HP4.out.below HB2.out.size hG))
  have HK4 := Lib.hid HP4.out.blk
  rw [HF.out.1] at HK4
  have HS4 := Lib.hid (HBs.out.below HB4.out (Nat.le_refl _))
  clear HP4 HB2 HK2 HS2
  with_reducible refine (fpart_at g 0 128 128 8 120 8 120 8 112 _ rfl rfl (by decide) (by decide) rfl rfl).mono ?_
  rintro e w5 ⟨rfl, rfl⟩
  go_wp2_with (refine wpList_copy_part rfl _ _ 22 22 rfl 5 Try.underlying22 infoSz1 rfl rfl HK4.out HS4.out (by simp [zerosB, frHead]) ?_; intro w6 hw6; have HP6 := Lib.hid hw6; clear hw6)
  have HB6 := Lib.hid (HB4.out.trans (HP6.out.below HB4.out.size hG))
  have HK6 := Lib.hid HP6.out.blk
  rw [HF.out.2.1] at HK6
  clear HP6 HB4 HK4 HS4
  with_reducible refine (fpart_at g 0 128 128 0 124 0 124 0 124 _ rfl rfl (by decide) (by decide) rfl rfl).mono ?_
  rintro e w7 ⟨rfl, rfl⟩
  go_wp2_with fail
  with_reducible refine (fpart_at g 0 128 128 0 120 0 120 0 120 _ rfl rfl (by decide) (by decide) rfl rfl).mono ?_
  rintro e w7 ⟨rfl, rfl⟩
  have HS7 := Lib.hid (HK6.out.bs (off := 0) (n := 120) (cap := 120) (by simp [HL.out.1]) (Nat.le_refl _) (by decide))
  rw [HF.out.2.2.2.2] at HS7
  go_wp2_with fail
  refine (cSeal_any _ _ _ _ _ HS7.out (by rw [HL.out.1]; decide)).mono ?_
  rintro e w8 ⟨p8, n8, c8, rfl, hb8, hB8⟩
  have HB8 := Lib.hid (HB6.out.trans (hB8.mono HB6.out.size))
  have HK8 := Lib.hid (HK6.out.below hB8 HK6.out.lt)
  have HS8 := Lib.hid hb8
  clear hb8 hB8 HB6 HK6 HS7
  go_wp2_with (refine wpList_copy_part rfl _ _ 22 22 rfl 5 Try.underlying22 infoSz1 rfl rfl HK8.out HS8.out (by simp [zerosB, HL.out.1]) ?_; intro w9 hw9; have HP9 := Lib.hid hw9; clear hw9)
  have HB9 := Lib.hid (HB8.out.trans (HP9.out.below HB8.out.size hG))
  have HK9 := Lib.hid HP9.out.blk
  rw [HF.out.2.2.1] at HK9
  clear HP9 HB8 HK8 HS8
  with_reducible refine (fpart_at g 0 128 128 124 128 124 128 124 4 _ rfl rfl (by decide) (by decide) rfl rfl).mono ?_
  rintro e w10 ⟨rfl, rfl⟩
  have hz9 : 124 + 4 ≤ (sealL (frBody kd gen seq b) ++ zerosB 4).length := by rw [List.length_append, sealL_length, HL.out.1]; simp [zerosB]
  go_wp2_with (refine wpList_copy_text (r := ⟨#[0, 0, 0, 69]⟩) rfl _ _ 22 9 rfl 5 Try.underlying22 infoSz1 rfl rfl HK9.out (by decide) hz9 ?_; intro w11 hw11; have HP11 := Lib.hid hw11; clear hw11)
  refine bodyPost_ret (results_tmp2 rfl _ _ _) rfl ?_
  have HB11 := Lib.hid (HB9.out.trans (HP11.out.below HB9.out.size hG))
  have hk := HP11.out.blk
  rw [HF.out.2.2.2.1] at hk
  exact ⟨some ⟨g, 0, none⟩, 128, rfl, fresh_of_blk hk HL.out.2 hG (by decide), HB11.out⟩
theorem fresh_nil (B : Nat) (w : World) : FreshB B w (.slice none 0 0) [] := ⟨0, World.ownsRow_nil _ _ _ _⟩

set_option maxRecDepth 100000 in
set_option maxHeartbeats 1600000 in
theorem frWrite_any : FrWriteC := by
  intro kd gen seq p len cap b w h h5
  have hlen := h.same
  subst hlen
  by_cases h8 : gen < 0 ∨ 2147483647 < gen ∨ seq < 0 ∨ 65535 < seq
  · have he : frWE gen seq b = 8 := by unfold frWE; rw [if_pos h8]
    have HE := Lib.hid (show frWE gen seq b = 8 ∧ frWL kd gen seq b = [] from ⟨he, by unfold frWL; rw [he]; rfl⟩)
    have HW1 := Lib.hid (fun V => fwithin_any gen 2147483647 V)
    have HW2 := Lib.hid (fun V => fwithin_any seq 65535 V)
    by_cases hg : 0 ≤ gen ∧ gen ≤ 2147483647
    · rw [show (decide (0 ≤ gen) && decide (gen ≤ 2147483647)) = true by simp; omega] at HW1
      rw [show (decide (0 ≤ seq) && decide (seq ≤ 65535)) = false by simp; omega] at HW2
      clear he h h8 hg h5
      generalize b.length = n at *
      go_enter Try.func7, Try.ntmps7
      go_wp2_with fail
      with_reducible refine (HW1.out _).mono ?_
      rintro e w0 ⟨rfl, rfl⟩
      go_wp2_with fail
      with_reducible refine (HW2.out _).mono ?_
      rintro e w0 ⟨rfl, rfl⟩
      go_wp2_with fail
      refine bodyPost_ret (results_tmp2 rfl _ _ _) rfl ?_
      exact ⟨none, 0, by rw [HE.out.1, HE.out.2]; rfl, by rw [HE.out.2]; exact fresh_nil _ _, Below.refl _ _⟩
    · rw [show (decide (0 ≤ gen) && decide (gen ≤ 2147483647)) = false by simp; omega] at HW1
      clear he h h8 hg h5 HW2
      generalize b.length = n at *
      go_enter Try.func7, Try.ntmps7
      go_wp2_with fail
      with_reducible refine (HW1.out _).mono ?_
      rintro e w0 ⟨rfl, rfl⟩
      go_wp2_with fail
      refine bodyPost_ret (results_tmp2 rfl _ _ _) rfl ?_
      exact ⟨none, 0, by rw [HE.out.1, HE.out.2]; rfl, by rw [HE.out.2]; exact fresh_nil _ _, Below.refl _ _⟩
  · obtain ⟨g, rfl⟩ := Int.eq_ofNat_of_zero_le (show 0 ≤ gen by omega)
    obtain ⟨s, rfl⟩ := Int.eq_ofNat_of_zero_le (show 0 ≤ seq by omega)
    by_cases h112 : 112 < b.length
    · have he : frWE g s b = 5 := by unfold frWE; rw [if_neg h8, if_pos h112]
      have HE := Lib.hid (show frWE g s b = 5 ∧ frWL kd g s b = [] from ⟨he, by unfold frWL; rw [he]; rfl⟩)
      have HW1 := Lib.hid (fun V => fwithin_any (g : Int) 2147483647 V)
      have HW2 := Lib.hid (fun V => fwithin_any (s : Int) 65535 V)
      rw [show (decide (0 ≤ (g : Int)) && decide ((g : Int) ≤ 2147483647)) = true by simp; omega] at HW1
      rw [show (decide (0 ≤ (s : Int)) && decide ((s : Int) ≤ 65535)) = true by simp; omega] at HW2
      have hb9 : b.length ≤ 9223372036854775807 := by omega
      clear he h h8 h5
      generalize b.length = n at *
      go_enter Try.func7, Try.ntmps7
      go_wp2_with fail
      with_reducible refine (HW1.out _).mono ?_
      rintro e w0 ⟨rfl, rfl⟩
      go_wp2_with fail
      with_reducible refine (HW2.out _).mono ?_
      rintro e w0 ⟨rfl, rfl⟩
      go_wp2_with fail
      refine bodyPost_ret (results_tmp2 rfl _ _ _) rfl ?_
      exact ⟨none, 0, by rw [HE.out.1, HE.out.2]; rfl, by rw [HE.out.2]; exact fresh_nil _ _, Below.refl _ _⟩
    · have he : frWE g s b = 0 := by unfold frWE; rw [if_neg h8, if_neg h112]
      have hl : frWL kd g s b = frL kd g s b := by unfold frWL; rw [if_pos he]; rfl
      have hlen := frL_length (kd := kd) (gen := g) (seq := s) (b := b) (by omega)
      rw [he, hl, hlen]
      exact frWrite_main kd g s p cap b w h (by omega) (by omega) (by omega)
end Go.Proofs.Ytmkaglaogkadcaa

/-! FrmL -/
namespace Go.Proofs.Ytmkaglaogkadcaa
open Go.RowKit

/-- What is read of the 120 bytes that were sealed. -/
def padB (T : List UInt8) : Bool := (T.drop (8 + at8 T 7)).all fun c => c == 0
def contR (T : List UInt8) : FrR := if 2147483647 < frGen T ∨ 112 < at8 T 7 ∨ padB T = false then ⟨0, 0, [], 3⟩ else ⟨frGen T, frSeq T, frPay T, 0⟩
theorem eight {T : List UInt8} (h : 8 ≤ T.length) : ∃ a b c d e f g i r, T = a :: b :: c :: d :: e :: f :: g :: i :: r := by
  match T, h with
  | a :: b :: c :: d :: e :: f :: g :: i :: r, _ => exact ⟨a, b, c, d, e, f, g, i, r, rfl⟩
theorem rd1 {T : List UInt8} (h : 8 ≤ T.length) : dNum (T, 0) 1 255 = (((at8 T 0 : Nat) : Int), (T.drop 1, 0)) := by
  obtain ⟨a, b, c, d, e, f, g, i, r, rfl⟩ := eight h
  have := a.toNat_lt
  have hv : valB [a] = a.toNat := by simp [valB]
  unfold dNum
  rw [if_pos (by decide)]
  have ht : tookS (a :: b :: c :: d :: e :: f :: g :: i :: r, 0) (1 : Int).toNat = [a] := by simp [tookS]
  have hs : takeS (a :: b :: c :: d :: e :: f :: g :: i :: r, 0) (1 : Int).toNat = (b :: c :: d :: e :: f :: g :: i :: r, 0) := by simp [takeS]
  rw [ht, hs, hv, if_neg (by omega)]
  rfl
theorem rd4 {T : List UInt8} (h : 8 ≤ T.length) : dNum (T.drop 1, 0) 4 2147483647 = if 2147483647 < frGen T then (0, ([], 8)) else (((frGen T : Nat) : Int), (T.drop 5, 0)) := by
  obtain ⟨a, b, c, d, e, f, g, i, r, rfl⟩ := eight h
  have hv : valB [b, c, d, e] = frGen (a :: b :: c :: d :: e :: f :: g :: i :: r) := by simp [valB, frGen, at8]; omega
  unfold dNum
  rw [if_pos (by decide)]
  have ht : tookS ((a :: b :: c :: d :: e :: f :: g :: i :: r).drop 1, 0) (4 : Int).toNat = [b, c, d, e] := by simp [tookS]
  have hs : takeS ((a :: b :: c :: d :: e :: f :: g :: i :: r).drop 1, 0) (4 : Int).toNat = (f :: g :: i :: r, 0) := by simp [takeS]; omega
  rw [ht, hs, hv]
  generalize frGen (a :: b :: c :: d :: e :: f :: g :: i :: r) = G
  by_cases hG : 2147483647 < G
  · rw [if_pos hG, if_pos (by omega)]; rfl
  · rw [if_neg hG, if_neg (by omega)]; rfl
theorem rd2 {T : List UInt8} (h : 8 ≤ T.length) : dNum (T.drop 5, 0) 2 65535 = (((frSeq T : Nat) : Int), (T.drop 7, 0)) := by
  obtain ⟨a, b, c, d, e, f, g, i, r, rfl⟩ := eight h
  have hv : valB [f, g] = frSeq (a :: b :: c :: d :: e :: f :: g :: i :: r) := by simp [valB, frSeq, at8]
  have hl : valB [f, g] < 65536 := by have := valB_lt [f, g]; simpa using this
  unfold dNum
  rw [if_pos (by decide)]
  have ht : tookS ((a :: b :: c :: d :: e :: f :: g :: i :: r).drop 5, 0) (2 : Int).toNat = [f, g] := by simp [tookS]
  have hs : takeS ((a :: b :: c :: d :: e :: f :: g :: i :: r).drop 5, 0) (2 : Int).toNat = (i :: r, 0) := by simp [takeS]; omega
  rw [ht, hs, if_neg (by omega), hv]
  rfl
theorem rd1b {T : List UInt8} (h : 8 ≤ T.length) : dNum (T.drop 7, 0) 1 112 = if 112 < at8 T 7 then (0, ([], 8)) else (((at8 T 7 : Nat) : Int), (T.drop 8, 0)) := by
  obtain ⟨a, b, c, d, e, f, g, i, r, rfl⟩ := eight h
  have hv : valB [i] = at8 (a :: b :: c :: d :: e :: f :: g :: i :: r) 7 := by simp [valB, at8]
  unfold dNum
  rw [if_pos (by decide)]
  have ht : tookS ((a :: b :: c :: d :: e :: f :: g :: i :: r).drop 7, 0) (1 : Int).toNat = [i] := by simp [tookS]
  have hs : takeS ((a :: b :: c :: d :: e :: f :: g :: i :: r).drop 7, 0) (1 : Int).toNat = (r, 0) := by simp [takeS]
  rw [ht, hs, hv]
  generalize at8 (a :: b :: c :: d :: e :: f :: g :: i :: r) 7 = G
  by_cases hG : 112 < G
  · rw [if_pos hG, if_pos (by omega)]; rfl
  · rw [if_neg hG, if_neg (by omega)]; rfl
theorem rdno (k : Nat) (h1 : 1 ≤ k) (h4 : k ≤ 4) (most : Int) (hm : 0 ≤ most) : dNum ([], 8) k most = (0, ([], 8)) := by
  have hz : sizedB (k : Int) = true := by simp [sizedB]; omega
  have ht : tookS ([], 8) k = [] := by unfold tookS; rw [if_pos (by simp; omega)]
  have hs : takeS ([], 8) k = ([], 8) := by unfold takeS; rw [if_pos (by simp; omega)]; simp [failS]
  unfold dNum
  rw [if_pos hz, Int.toNat_natCast, ht, hs, if_neg (by simp [valB]; omega)]
  rfl
theorem at8_take {t : List UInt8} {k n : Nat} (h : k < n) : at8 (t.take n) k = at8 t k := by
  unfold at8
  simp [List.getD, h]
theorem frGen_take (t : List UInt8) : frGen (t.take 120) = frGen t := by
  unfold frGen
  rw [at8_take (by omega), at8_take (by omega), at8_take (by omega), at8_take (by omega)]
theorem frSeq_take (t : List UInt8) : frSeq (t.take 120) = frSeq t := by
  unfold frSeq
  rw [at8_take (by omega), at8_take (by omega)]
theorem frPay_take {t : List UInt8} (h : at8 t 7 ≤ 112) : frPay (t.take 120) = frPay t := by
  unfold frPay
  rw [at8_take (by omega), List.drop_take, List.take_take, Nat.min_eq_left (by omega)]
theorem frSeq_lt (t : List UInt8) : frSeq t < 65536 := by
  have h1 := at8_lt t 5
  have h2 := at8_lt t 6
  unfold frSeq; omega
theorem frHead_eq {t : List UInt8} (h : 8 ≤ t.length) : frHead (t.getD 0 0) (frGen t) (frSeq t) (at8 t 7) = t.take 8 := by
  obtain ⟨a, b, c, d, e, f, g, i, r, rfl⟩ := eight h
  have hb := b.toNat_lt
  have hc := c.toNat_lt
  have hd := d.toNat_lt
  have he := e.toNat_lt
  have hf := f.toNat_lt
  have hg := g.toNat_lt
  have hi := i.toNat_lt
  unfold frHead frGen frSeq at8
  simp only [List.getD_cons_zero, List.getD_cons_succ, List.take_succ_cons, List.take_zero, List.cons.injEq, and_true, true_and]
  refine ⟨?_, ?_, ?_, ?_, ?_, ?_, ?_⟩ <;> apply UInt8.toNat_inj.1 <;> simp <;> omega
theorem frBody_eq {t : List UInt8} (hl : t.length = 128) (h7 : at8 t 7 ≤ 112) : frBody (t.getD 0 0) (frGen t) (frSeq t) (frPay t) = t.take (8 + at8 t 7) ++ zeros (112 - at8 t 7) := by
  have hp : (frPay t).length = at8 t 7 := by unfold frPay; rw [List.length_take, List.length_drop]; omega
  unfold frBody
  rw [hp, frHead_eq (by omega), List.take_add]
  rfl
/-- When is what a sealed block holds written as the same block? -/
theorem frWL_eq {t : List UInt8} (hl : t.length = 128) (ht : t.drop 124 = frTail) (hs : sealL (t.take 120) = t.take 124) (h7 : at8 t 7 ≤ 112) :
    frWL (t.getD 0 0) (frGen t) (frSeq t) (frPay t) = t ↔ frGen t ≤ 2147483647 ∧ padB (t.take 120) = true := by
  have hp : (frPay t).length = at8 t 7 := by unfold frPay; rw [List.length_take, List.length_drop]; omega
  have hS := frSeq_lt t
  have hpad : (t.take 120).drop (8 + at8 (t.take 120) 7) = (t.drop (8 + at8 t 7)).take (112 - at8 t 7) := by
    rw [at8_take (by omega), List.drop_take]; congr 1; omega
  by_cases hG : frGen t ≤ 2147483647
  · have he : frWE (frGen t) (frSeq t) (frPay t) = 0 := by unfold frWE; rw [if_neg (by omega), if_neg (by omega)]
    have hw : frWL (t.getD 0 0) (frGen t) (frSeq t) (frPay t) = frL (t.getD 0 0) (frGen t) (frSeq t) (frPay t) := by unfold frWL; rw [if_pos he]; rfl
    have h120 : t.take 120 = t.take (8 + at8 t 7) ++ (t.drop (8 + at8 t 7)).take (112 - at8 t 7) := by
      rw [← List.take_add]; congr 1; omega
    have hlen2 : ((t.drop (8 + at8 t 7)).take (112 - at8 t 7)).length = 112 - at8 t 7 := by rw [List.length_take, List.length_drop]; omega
    rw [hw]
    unfold frL padB
    rw [frBody_eq hl h7, hpad]
    constructor
    · intro h
      refine ⟨hG, ?_⟩
      have h1 := congrArg (List.take 120) h
      have hb : (t.take (8 + at8 t 7) ++ zeros (112 - at8 t 7)).length = 120 := by rw [List.length_append, List.length_take]; simp [zeros]; omega
      rw [sealL, List.append_assoc, List.take_left' hb, h120] at h1
      have h2 := List.append_cancel_left h1
      rw [← h2]
      simp [zeros]
    · rintro ⟨-, h⟩
      have h2 : (t.drop (8 + at8 t 7)).take (112 - at8 t 7) = zeros (112 - at8 t 7) := by
        unfold zeros
        rw [List.eq_replicate_iff]
        refine ⟨hlen2, fun x hx => ?_⟩
        have := List.all_eq_true.1 h x hx
        simpa using this
      rw [← h2, ← h120, hs, ← ht, List.take_append_drop]
  · have he : frWE (frGen t) (frSeq t) (frPay t) = 8 := by unfold frWE; rw [if_pos (by omega)]
    have hw : frWL (t.getD 0 0) (frGen t) (frSeq t) (frPay t) = [] := by unfold frWL; rw [he]; rfl
    rw [hw]
    constructor
    · intro h; rw [← h] at hl; simp at hl
    · rintro ⟨h, -⟩; exact absurd h hG
/-- What is read of a block whose form and sum hold. -/
theorem frR_cont {kd : UInt8} {t : List UInt8} (hl : t.length = 128) (h0 : t.getD 0 0 = kd) (ht : t.drop 124 = frTail) (hs : sealL (t.take 120) = t.take 124) : frR kd t = contR (t.take 120) := by
  subst h0
  have hm := frR_more (kd := t.getD 0 0) hl ⟨rfl, (tail_iff hl).1 ht⟩ hs
  unfold contR
  rw [frGen_take, frSeq_take, at8_take (by omega)]
  by_cases h7 : 112 < at8 t 7
  · rw [if_pos (.inr (.inl h7))]
    exact hm.1 (.inl h7)
  · have he := frWL_eq hl ht hs (by omega)
    by_cases hb : 2147483647 < frGen t ∨ 112 < at8 t 7 ∨ padB (t.take 120) = false
    · rw [if_pos hb]
      refine hm.1 (.inr fun h => ?_)
      obtain ⟨h1, h2⟩ := he.1 h
      rcases hb with hb | hb | hb
      · omega
      · exact h7 hb
      · rw [h2] at hb; cases hb
    · rw [if_neg hb, frPay_take (by omega)]
      refine hm.2 h7 (he.2 ⟨by omega, ?_⟩)
      cases hq : padB (t.take 120) with
      | true => rfl
      | false => exact absurd (.inr (.inr hq)) hb
def ContIs (B : Nat) (w : World) (T : List UInt8) (e : Ending) (w' : World) : Prop := ∃ q n c, e = .returned (.tuple #[.int .i64 (contR T).gen, .int .i64 (contR T).seq, .slice q n c, .int .i64 (contR T).e]) ∧ BsAt w' q n c (contR T).pay ∧ (∀ a, q = some a → B ≤ a.block) ∧ Below w.heap.size w w'
theorem partP_ge {p : Option Addr} {lo hi B : Nat} (h : ∀ a, p = some a → B ≤ a.block) : ∀ a, partP p lo hi = some a → B ≤ a.block := by
  intro a ha
  unfold partP at ha
  split at ha
  · exact h a ha
  · cases p with
    | none => cases ha
    | some q =>
      simp only [Option.map_some, Option.some.injEq] at ha
      rw [← ha]
      have : (q.add lo).block = q.block := by unfold Addr.add; split <;> rfl
      rw [this]; exact h q rfl
theorem frPay_part {T : List UInt8} : (T.take (8 + at8 T 7)).drop 8 = frPay T := by
  unfold frPay
  rw [List.drop_take]; congr 1; omega

set_option maxRecDepth 100000 in
set_option maxHeartbeats 3200000 in
theorem fcontent_any (B : Nat) (p : Option Addr) (len cap : Nat) (T : List UInt8) (w : World) (h : BsAt w p len cap T) (hl : T.length = 120) (h0 : 0 < w.heap.size) (hp : ∀ a, p = some a → B ≤ a.block) :
    Calls Try.prog 22 #[.slice p len cap] w (ContIs B w T) := by
  have hsame := h.same
  have HBs := Lib.hid h
  have HP := Lib.hid hp
  have HR := Lib.hid (newRd_any p len cap T w h (by omega) h0)
  have HD := Lib.hid (And.intro (rd1 (T := T) (by omega)) (And.intro (rd4 (T := T) (by omega)) (And.intro (rd2 (T := T) (by omega)) (rd1b (T := T) (by omega)))))
  have HN := Lib.hid (And.intro (show dNum ([], 8) 2 65535 = _ from rdno 2 (by omega) (by omega) 65535 (by omega)) (show dNum ([], 8) 1 112 = _ from rdno 1 (by omega) (by omega) 112 (by omega)))
  have hle : len ≤ cap := h.le
  have hT : (T.drop 1).length ≤ 1000000 ∧ (T.drop 5).length ≤ 1000000 ∧ (T.drop 7).length ≤ 1000000 := by simp only [List.length_drop]; omega
  have HT := Lib.hid hT
  obtain rfl : len = 120 := by omega
  clear h hp hT hsame
  by_cases hG : 2147483647 < frGen T
  · have HE := Lib.hid (show contR T = ⟨0, 0, [], 3⟩ by unfold contR; rw [if_pos (.inl hG)])
    have hd := HD.out.2.1
    rw [if_pos hG] at hd
    have HD2 := Lib.hid hd
    clear hd hG
    go_enter Try.func22, Try.ntmps22
    go_wp2_with fail
    with_reducible refine HR.out.mono ?_
    rintro e w1 ⟨b, g, rfl, hb, hgb, hgw, hA1, hB1⟩
    have HA1 := Lib.hid hA1
    have HB1 := Lib.hid hB1
    have HGB := Lib.hid hgb
    clear hA1 hB1 hgw hgb HR
    go_wp2_with fail
    refine (rdnum_any b _ g (T, 0) 1 255 _ HA1.out HGB.out (by show T.length ≤ _; omega)).mono ?_
    rintro e w2 ⟨rfl, hT2⟩
    rw [HD.out.1] at hT2
    rw [HD.out.1]
    have HT2 := Lib.hid hT2
    clear hT2
    go_wp2_with fail
    refine (rdnum_any b _ g _ 4 2147483647 _ HT2.out.1 HGB.out HT.out.1).mono ?_
    rintro e w3 ⟨rfl, hT3⟩
    rw [HD2.out] at hT3
    rw [HD2.out]
    have HT3 := Lib.hid (HT2.out.trans hT3)
    clear hT3 HT2
    go_wp2_with fail
    refine (rdnum_any b _ g _ 2 65535 _ HT3.out.1 HGB.out (by simp)).mono ?_
    rintro e w4 ⟨rfl, hT4⟩
    rw [HN.out.1] at hT4
    rw [HN.out.1]
    have HT4 := Lib.hid (HT3.out.trans hT4)
    clear hT4 HT3
    go_wp2_with fail
    refine (rdnum_any b _ g _ 1 112 _ HT4.out.1 HGB.out (by simp)).mono ?_
    rintro e w5 ⟨rfl, hT5⟩
    rw [HN.out.2] at hT5
    rw [HN.out.2]
    have HT5 := Lib.hid (HT4.out.trans hT5)
    clear hT5 HT4
    go_wp2_with fail
    refine (rderr_any b _ g _ _ HT5.out.1).mono ?_
    rintro e w6 ⟨rfl, rfl⟩
    go_wp2_with fail
    refine bodyPost_ret (results_tmp4 rfl _ _ _) rfl ?_
    exact ⟨none, 0, 0, by rw [HE.out]; rfl, by rw [HE.out]; exact bsAt_nil _, (fun _ h => by cases h), HB1.out.trans (HT5.out.2.below HB1.out.size fun k hk => by subst hk; exact hb)⟩
  · have hd := HD.out.2.1
    rw [if_neg hG] at hd
    have HD2 := Lib.hid hd
    clear hd
    by_cases h7 : 112 < at8 T 7
    · have HE := Lib.hid (show contR T = ⟨0, 0, [], 3⟩ by unfold contR; rw [if_pos (.inr (.inl h7))])
      have hd := HD.out.2.2.2
      rw [if_pos h7] at hd
      have HD7 := Lib.hid hd
      clear hd h7 hG
      go_enter Try.func22, Try.ntmps22
      go_wp2_with fail
      with_reducible refine HR.out.mono ?_
      rintro e w1 ⟨b, g, rfl, hb, hgb, hgw, hA1, hB1⟩
      have HA1 := Lib.hid hA1
      have HB1 := Lib.hid hB1
      have HGB := Lib.hid hgb
      clear hA1 hB1 hgw hgb HR
      go_wp2_with fail
      refine (rdnum_any b _ g (T, 0) 1 255 _ HA1.out HGB.out (by show T.length ≤ _; omega)).mono ?_
      rintro e w2 ⟨rfl, hT2⟩
      rw [HD.out.1] at hT2
      rw [HD.out.1]
      have HT2 := Lib.hid hT2
      clear hT2
      go_wp2_with fail
      refine (rdnum_any b _ g _ 4 2147483647 _ HT2.out.1 HGB.out HT.out.1).mono ?_
      rintro e w3 ⟨rfl, hT3⟩
      rw [HD2.out] at hT3
      rw [HD2.out]
      have HT3 := Lib.hid (HT2.out.trans hT3)
      clear hT3 HT2
      go_wp2_with fail
      refine (rdnum_any b _ g _ 2 65535 _ HT3.out.1 HGB.out HT.out.2.1).mono ?_
      rintro e w4 ⟨rfl, hT4⟩
      rw [HD.out.2.2.1] at hT4
      rw [HD.out.2.2.1]
      have HT4 := Lib.hid (HT3.out.trans hT4)
      clear hT4 HT3
      go_wp2_with fail
      refine (rdnum_any b _ g _ 1 112 _ HT4.out.1 HGB.out HT.out.2.2).mono ?_
      rintro e w5 ⟨rfl, hT5⟩
      rw [HD7.out] at hT5
      rw [HD7.out]
      have HT5 := Lib.hid (HT4.out.trans hT5)
      clear hT5 HT4
      go_wp2_with fail
      refine (rderr_any b _ g _ _ HT5.out.1).mono ?_
      rintro e w6 ⟨rfl, rfl⟩
      go_wp2_with fail
      refine bodyPost_ret (results_tmp4 rfl _ _ _) rfl ?_
      exact ⟨none, 0, 0, by rw [HE.out]; rfl, by rw [HE.out]; exact bsAt_nil _, (fun _ h => by cases h), HB1.out.trans (HT5.out.2.below HB1.out.size fun k hk => by subst hk; exact hb)⟩
    · have hd := HD.out.2.2.2
      rw [if_neg h7] at hd
      have HD7 := Lib.hid hd
      have HC := Lib.hid (show contR T = if padB T = false then ⟨0, 0, [], 3⟩ else ⟨frGen T, frSeq T, frPay T, 0⟩ by
        unfold contR
        by_cases hb : padB T = false
        · rw [if_pos (.inr (.inr hb)), if_pos hb]
        · rw [if_neg (by rintro (h | h | h); exact hG h; exact h7 h; exact hb h), if_neg hb])
      have HPd := Lib.hid (show padB T = (((T.take 120).drop (8 + at8 T 7)).all fun c => c == 0) by rw [List.take_of_length_le (by omega)]; rfl)
      have HPy := Lib.hid (frPay_part (T := T))
      clear hd hG
      generalize at8 T 7 = n at *
      have hnn : n ≤ 112 := by omega
      clear h7
      go_enter Try.func22, Try.ntmps22
      go_wp2_with fail
      with_reducible refine HR.out.mono ?_
      rintro e w1 ⟨b, g, rfl, hb, hgb, hgw, hA1, hB1⟩
      have HA1 := Lib.hid hA1
      have HB1 := Lib.hid hB1
      have HGB := Lib.hid hgb
      clear hA1 hB1 hgw hgb HR
      go_wp2_with fail
      refine (rdnum_any b _ g (T, 0) 1 255 _ HA1.out HGB.out (by show T.length ≤ _; omega)).mono ?_
      rintro e w2 ⟨rfl, hT2⟩
      rw [HD.out.1] at hT2
      rw [HD.out.1]
      have HT2 := Lib.hid hT2
      clear hT2
      go_wp2_with fail
      refine (rdnum_any b _ g _ 4 2147483647 _ HT2.out.1 HGB.out HT.out.1).mono ?_
      rintro e w3 ⟨rfl, hT3⟩
      rw [HD2.out] at hT3
      rw [HD2.out]
      have HT3 := Lib.hid (HT2.out.trans hT3)
      clear hT3 HT2
      go_wp2_with fail
      refine (rdnum_any b _ g _ 2 65535 _ HT3.out.1 HGB.out HT.out.2.1).mono ?_
      rintro e w4 ⟨rfl, hT4⟩
      rw [HD.out.2.2.1] at hT4
      rw [HD.out.2.2.1]
      have HT4 := Lib.hid (HT3.out.trans hT4)
      clear hT4 HT3
      go_wp2_with fail
      refine (rdnum_any b _ g _ 1 112 _ HT4.out.1 HGB.out HT.out.2.2).mono ?_
      rintro e w5 ⟨rfl, hT5⟩
      rw [HD7.out] at hT5
      rw [HD7.out]
      have HT5 := Lib.hid (HT4.out.trans hT5)
      clear hT5 HT4
      have hadd : IntKind.i64.wrap (8 + (n : Int)) = 8 + (n : Int) := IntWalk.i64_in _ (by omega)
      go_wp2_with fail
      refine (rderr_any b _ g _ _ HT5.out.1).mono ?_
      rintro e w6 ⟨rfl, rfl⟩
      have HB5 := Lib.hid (HB1.out.trans (HT5.out.2.below HB1.out.size fun k hk => by subst hk; exact hb))
      have HS5 := Lib.hid (HBs.out.below HB5.out (Nat.le_refl _))
      clear HT5 HB1 HA1 HD HD2 HD7 HN hadd
      have HPt := Lib.hid (fun V => fpart_any p 120 cap (8 + n) 120 (8 + (n : Int)) 120 V (by omega) rfl (by omega) hle)
      have HPu := Lib.hid (fun V => fpart_any p 120 cap 8 (8 + n) 8 (8 + (n : Int)) V rfl (by omega) (by omega) (by omega))
      have HBl := Lib.hid (fun V (hV : BsAt V p 120 cap T) => fblank_any _ _ _ _ V (part_bs (lo := 8 + n) (hi := 120) hV (by omega) (by omega)))
      rw [← HPd.out] at HBl
      go_wp2_with fail
      with_reducible refine (HPt.out _).mono ?_
      rintro e w7 ⟨rfl, rfl⟩
      cases hpd : padB T with
      | true =>
        rw [hpd] at HBl HC
        clear hpd
        go_wp2_with fail
        with_reducible refine (HBl.out _ HS5.out).mono ?_
        rintro e w8 ⟨rfl, rfl⟩
        go_wp2_with fail
        with_reducible refine (HPu.out _).mono ?_
        rintro e w9 ⟨rfl, rfl⟩
        go_wp2_with fail
        refine bodyPost_ret (results_tmp4 rfl _ _ _) rfl ?_
        have hc : contR T = ⟨frGen T, frSeq T, frPay T, 0⟩ := HC.out
        have hq := part_bs (lo := 8) (hi := 8 + n) HS5.out (by omega) (by omega)
        rw [HPy.out, show 8 + n - 8 = n by omega] at hq
        exact ⟨_, _, _, by rw [hc]; rfl, by rw [hc]; exact hq, partP_ge HP.out, HB5.out⟩
      | false =>
        rw [hpd] at HBl HC
        clear hpd
        go_wp2_with fail
        with_reducible refine (HBl.out _ HS5.out).mono ?_
        rintro e w8 ⟨rfl, rfl⟩
        go_wp2_with fail
        refine bodyPost_ret (results_tmp4 rfl _ _ _) rfl ?_
        have hc : contR T = ⟨0, 0, [], 3⟩ := HC.out
        exact ⟨none, 0, 0, by rw [hc]; rfl, by rw [hc]; exact bsAt_nil _, (fun _ h => by cases h), HB5.out⟩
theorem kd_ne {t : List UInt8} {g off : Nat} {w : World} (hl : t.length = 128) (h : ∀ i, (hi : i < t.length) → w.cell? ⟨g, off + i, none⟩ = some (.int .u8 (t[i].toNat : Int))) : w.cell? ⟨g, off, none⟩ = some (.int .u8 ((t.getD 0 0).toNat : Int)) := by
  have h1 := h 0 (by omega)
  rw [Nat.add_zero] at h1
  rw [h1]
  simp [List.getD, show 0 < t.length by omega]
theorem str_eq (a : List UInt8) : ((⟨a.toArray⟩ : ByteArray).toList == [0, 0, 0, 69]) = decide (a = frTail) := by
  have e : (⟨#[0, 0, 0, 69]⟩ : ByteArray).toList = [0, 0, 0, 69] := by simp
  rw [← e, ← beq_toListBytes]
  by_cases h : a = frTail
  · rw [h]; decide
  · rw [show decide (a = frTail) = false by simpa using h]
    exact str_ne (b := frTail) h

set_option maxRecDepth 100000 in
set_option maxHeartbeats 3200000 in
theorem frRead_any : FrReadC := by
  intro kd p len cap t w h h5
  have hsame := h.same
  subst hsame
  by_cases hlen : t.length = 128
  case neg =>
    have HE := Lib.hid (show frR kd t = ⟨0, 0, [], 1⟩ from by
      have he : frRE kd t = 1 := by unfold frRE; rw [if_pos hlen]
      unfold frR; rw [if_neg (by omega), he])
    have hbm : t.length ≤ 9223372036854775807 := by omega
    have d1 : ¬ ((t.length : Int) = 128) := by omega
    clear h hlen h5
    generalize t.length = n at *
    go_enter Try.func9, Try.ntmps9
    go_wp2_with fail
    refine bodyPost_ret (results_tmp4 rfl _ _ _) rfl ?_
    exact ⟨none, 0, by rw [HE.out]; rfl, by rw [HE.out]; exact ⟨bsAt_nil _, fun _ h => by cases h⟩, Below.refl _ _⟩
  case pos =>
  obtain ⟨g, off, rfl, hg, hcs⟩ : ∃ g off, p = some ⟨g, off, none⟩ ∧ g < w.heap.size ∧ ∀ i, (h : i < t.length) → w.cell? ⟨g, off + i, none⟩ = some (.int .u8 (t[i].toNat : Int)) := by
    rcases h.place with ⟨-, h2⟩ | ⟨h2, -⟩ | ⟨g', off, rfl, h3, h4⟩
    · have := h.le; omega
    · rw [h2] at hlen; simp at hlen
    · exact ⟨g', off, rfl, h3, h4⟩
  have c0 := kd_ne hlen hcs
  have hle := h.le
  have HBs := Lib.hid h
  have h0 : 0 < w.heap.size := by omega
  clear hcs h5 h
  rw [hlen] at hle HBs
  rw [hlen]
  by_cases hk : t.getD 0 0 = kd
  case neg =>
    have HE := Lib.hid (show frR kd t = ⟨0, 0, [], 3⟩ from frR_form hlen (fun h1 => hk (UInt8.toNat_inj.1 h1.1)))
    have d1 : ¬ (((t.getD 0 0).toNat : Nat) : Int) = ((kd.toNat : Nat) : Int) := by
      intro e; exact hk (UInt8.toNat_inj.1 (by omega))
    clear hk
    generalize (t.getD 0 0).toNat = x at *
    generalize kd.toNat = y at *
    go_enter Try.func9, Try.ntmps9
    go_wp2_with fail
    refine bodyPost_ret (results_tmp4 rfl _ _ _) rfl ?_
    exact ⟨none, 0, by rw [HE.out]; rfl, by rw [HE.out]; exact ⟨bsAt_nil _, fun _ h => by cases h⟩, Below.refl _ _⟩
  case pos =>
  rw [hk] at c0
  have HP1 := Lib.hid (fun V => fpart_at g off 128 cap 124 128 124 128 (off + 124) 4 V rfl rfl (by decide) (by omega) rfl rfl)
  have HP2 := Lib.hid (fun V => fpart_at g off 128 cap 0 124 0 124 off 124 V rfl rfl (by decide) (by omega) rfl rfl)
  have hb1 : BsAt w (some ⟨g, off + 124, none⟩) 4 4 (t.drop 124) := by
    have h1 := part_bs (lo := 124) (hi := 128) HBs.out (by omega) (by omega)
    rw [List.take_of_length_le (by omega)] at h1
    have e : partP (some ⟨g, off, none⟩) 124 128 = some ⟨g, off + 124, none⟩ := by
      unfold partP Addr.add; simp
    rw [e] at h1; exact h1
  have hb2 : BsAt w (some ⟨g, off, none⟩) 124 124 (t.take 124) := by
    have h1 := part_bs (lo := 0) (hi := 124) HBs.out (by omega) (by omega)
    have e : partP (some ⟨g, off, none⟩) 0 124 = some ⟨g, off, none⟩ := by
      unfold partP Addr.add; simp
    rw [e] at h1; exact h1
  have HStr := Lib.hid (run_string_bs (P := Try.prog) w 22 5 9 Try.underlying22 Try.underlying5 Try.underlying9 hb1)
  have HSe := Lib.hid (str_eq (t.drop 124))
  have HO := Lib.hid (cOpen_new _ _ _ _ w hb2 (by rw [List.length_take]; omega))
  clear hb1 hb2
  by_cases ht : t.drop 124 = frTail
  case neg =>
    have HE := Lib.hid (show frR kd t = ⟨0, 0, [], 3⟩ from frR_form hlen (fun h1 => ht ((tail_iff hlen).2 h1.2)))
    rw [show decide (t.drop 124 = frTail) = false by simpa using ht] at HSe
    have q := HStr.out
    have q2 := HSe.out
    generalize (⟨(t.drop 124).toArray⟩ : ByteArray) = S at *
    generalize kd.toNat = y at *
    clear ht HStr HSe
    go_enter Try.func9, Try.ntmps9
    go_wp2_with fail
    with_reducible refine (HP1.out _).mono ?_
    rintro e w1 ⟨rfl, rfl⟩
    go_wp2_with fail
    refine bodyPost_ret (results_tmp4 rfl _ _ _) rfl ?_
    exact ⟨none, 0, by rw [HE.out]; rfl, by rw [HE.out]; exact ⟨bsAt_nil _, fun _ h => by cases h⟩, Below.refl _ _⟩
  case pos =>
  rw [show decide (t.drop 124 = frTail) = true by simpa using ht] at HSe
  have q := HStr.out
  have q2 := HSe.out
  generalize (⟨(t.drop 124).toArray⟩ : ByteArray) = S at *
  have hl4 : (t.take 124).length = 124 := by rw [List.length_take]; omega
  have ht4 : (t.take 124).take 120 = t.take 120 := by rw [List.take_take, show min 120 124 = 120 from rfl]
  have hse : sealedB (t.take 124) = true ↔ sealL (t.take 120) = t.take 124 := by
    have := sealed_eq (t := t.take 124) (by omega)
    rw [hl4, show 124 - 4 = 120 from rfl, ht4] at this
    exact this
  cases hsd : sealedB (t.take 124) with
  | false =>
    have hne : ¬ sealL (t.take 120) = t.take 124 := fun h => by rw [hse.2 h] at hsd; cases hsd
    have HE := Lib.hid (show frR kd t = ⟨0, 0, [], 18⟩ from frR_sum hlen ⟨by unfold at8; rw [hk], (tail_iff hlen).1 ht⟩ hne)
    have he : openErr (t.take 124) = 18 := by unfold openErr; rw [if_neg (by omega), hsd]; rfl
    have HO2 := Lib.hid he
    generalize kd.toNat = y at *
    clear ht HStr HSe hse hne hsd he hl4 ht4
    go_enter Try.func9, Try.ntmps9
    go_wp2_with fail
    with_reducible refine (HP1.out _).mono ?_
    rintro e w1 ⟨rfl, rfl⟩
    go_wp2_with fail
    with_reducible refine (HP2.out _).mono ?_
    rintro e w1 ⟨rfl, rfl⟩
    go_wp2_with fail
    with_reducible refine HO.out.mono ?_
    rintro e w2 ⟨p2, n2, c2, rfl, hb2, hB2, hp2⟩
    rw [HO2.out]
    have HB2 := Lib.hid hB2
    clear hb2 hB2 hp2
    go_wp2_with fail
    refine bodyPost_ret (results_tmp4 rfl _ _ _) rfl ?_
    exact ⟨none, 0, by rw [HE.out]; rfl, by rw [HE.out]; exact ⟨bsAt_nil _, fun _ h => by cases h⟩, HB2.out⟩
  | true =>
    have HE := Lib.hid (frR_cont hlen hk ht (hse.1 hsd))
    have he : openErr (t.take 124) = 0 := by unfold openErr; rw [if_neg (by omega), hsd]; rfl
    have hol : openL (t.take 124) = t.take 120 := by unfold openL; rw [hsd, if_pos rfl, hl4, ht4]
    have hl0 : (t.take 120).length = 120 := by rw [List.length_take]; omega
    have HO2 := Lib.hid (And.intro he (And.intro hol hl0))
    generalize hkk : kd.toNat = y at *
    clear ht HStr HSe hse hsd he hl4 ht4 hol hl0
    go_enter Try.func9, Try.ntmps9
    go_wp2_with fail
    with_reducible refine (HP1.out _).mono ?_
    rintro e w1 ⟨rfl, rfl⟩
    go_wp2_with fail
    with_reducible refine (HP2.out _).mono ?_
    rintro e w1 ⟨rfl, rfl⟩
    go_wp2_with fail
    with_reducible refine HO.out.mono ?_
    rintro e w2 ⟨p2, n2, c2, rfl, hb2, hB2, hp2⟩
    rw [HO2.out.1]
    rw [HO2.out.2.1] at hb2
    have HB2 := Lib.hid hB2
    have HC := Lib.hid (fcontent_any w.heap.size p2 n2 c2 _ w2 hb2 HO2.out.2.2 (Nat.lt_of_lt_of_le h0 hB2.size) hp2)
    clear hb2 hB2 hp2
    go_wp2_with fail
    with_reducible refine HC.out.mono ?_
    rintro e w3 ⟨p3, n3, c3, rfl, hb3, hp3, hB3⟩
    have HB3 := Lib.hid (HB2.out.trans (hB3.mono HB2.out.size))
    have HS3 := Lib.hid hb3
    have HP3 := Lib.hid hp3
    clear hb3 hB3 hp3
    go_wp2_with fail
    refine bodyPost_ret (results_tmp4 rfl _ _ _) rfl ?_
    have hn := HS3.out.same
    have hs3 := HS3.out
    subst hn
    exact ⟨p3, c3, by rw [HE.out]; rfl, by rw [HE.out]; exact ⟨hs3, HP3.out⟩, HB3.out⟩
end Go.Proofs.Ytmkaglaogkadcaa

/-! PlainArg -/
namespace Go.Proofs.Ytmkaglaogkadcaa
theorem ownP : ownKnob Try.prog.godebug = none := by kernel_rfl
end Go.Proofs.Ytmkaglaogkadcaa

/-! ByteArg -/
namespace Go.Proofs.Ytmkaglaogkadcaa
open Go.ChangeShapes Go.WideShapes Go.ChangeAt Go.RowKit Go.Deep

theorem cellsBytP : Try.prog.cellsOf 5 = 1 := by kernel_rfl
theorem i64_wf {z : Int} (h : (Lit.int .i64 z).wf = true) : -9223372036854775808 ≤ z ∧ z ≤ 9223372036854775807 := by
  have b1 : IntKind.i64.min = -9223372036854775808 := rfl
  have b2 : IntKind.i64.max = 9223372036854775807 := rfl
  simp only [Lit.wf, Bool.and_eq_true, decide_eq_true_eq] at h
  omega
theorem u32_of_wf {z : Int} (h : (Lit.int .u32 z).wf = true) : ∃ n : Nat, z = (n : Int) ∧ n < 4294967296 := by
  have b1 : IntKind.u32.min = 0 := rfl
  have b2 : IntKind.u32.max = 4294967295 := rfl
  simp only [Lit.wf, Bool.and_eq_true, decide_eq_true_eq] at h
  exact ⟨z.toNat, by omega, by omega⟩
theorem plain_addr {a : Addr} (h : a.spot = none) (n : Nat) : a.add n = ⟨a.block, a.off + n, none⟩ := by
  obtain ⟨b, o, s⟩ := a
  simp only at h
  subst h
  unfold Addr.add; split <;> simp_all
theorem choose_parts {α : Type} {n : Nat} {P : Nat → α → Prop} (d : α) (h : ∀ i, i < n → ∃ q, P i q) : ∃ q : Nat → α, ∀ i, i < n → P i (q i) := by
  refine ⟨fun i => if hi : i < n then Classical.choose (h i hi) else d, fun i hi => ?_⟩
  simp only [dif_pos hi]
  exact Classical.choose_spec (h i hi)

set_option maxRecDepth 100000 in
theorem bytes_of_arg {H : Type} {enc : TypeId × Value → H} {W : World} {a0 : Option Addr} {len cap : Nat} {d : DataW H} {p : List MemPlace}
    (h : DataW.Trod enc Try.prog W 0 (fun _ => true) true 22 (.slice a0 len cap) d p) : ∃ l : List UInt8, BsAt W a0 len cap l := by
  obtain ⟨fuel, hf⟩ := h
  rcases open_slice Try.underlying22 hf with ⟨hcs, hx⟩ | ⟨a, len', cap', m, n, D, Pl, hcs, hb, hl, hm, hmm, hx, hi⟩
  · simp [Value.cells] at hcs
    obtain ⟨rfl, rfl, rfl⟩ := hcs
    exact ⟨[], bsAt_nil W⟩
  · simp [Value.cells] at hcs
    obtain ⟨rfl, rfl, rfl⟩ := hcs
    simp only [if_true] at hmm
    have each : ∀ i, i < len → ∃ q : UInt8, W.cell? (a.add i) = some (.int .u8 (q.toNat : Int)) := by
      intro i hil
      obtain ⟨cs', h1, h2⟩ := hi i (by omega)
      rw [cellsBytP, Nat.mul_one] at h1
      obtain ⟨_, hlen, hcell⟩ := World.cells?_some h1
      obtain ⟨z, e0, _, wz⟩ := DataW.trod_int Try.underlying5 h2
      have b1 : IntKind.u8.min = 0 := rfl
      have b2 : IntKind.u8.max = 255 := rfl
      simp only [Lit.wf, Bool.and_eq_true, decide_eq_true_eq] at wz
      have hc := hcell 0 (by omega)
      rw [add_add, e0] at hc
      obtain ⟨k, rfl⟩ := Int.eq_ofNat_of_zero_le (show 0 ≤ z by omega)
      refine ⟨UInt8.ofNat k, ?_⟩
      rw [Nat.add_zero] at hc
      rw [hc]
      simp
      omega
    obtain ⟨q, hq⟩ := choose_parts (0 : UInt8) each
    refine ⟨(List.range len).map q, by simp, hl, hm, ?_⟩
    by_cases hc0 : 0 < len
    · have hspot : a.spot = none := by simpa [Addr.add] using World.cell?_spot (hq 0 hc0)
      refine .inr (.inr ⟨a.block, a.off, ?_, ?_, fun i hi => ?_⟩)
      · obtain ⟨b, o, s⟩ := a
        simp only at hspot
        subst hspot; rfl
      · have := hq 0 hc0
        rw [plain_addr hspot] at this
        exact World.block_lt_of_cell? W ⟨a.block, _, none⟩ this
      · have hi' : i < len := by simpa using hi
        have := hq i hi'
        rw [plain_addr hspot] at this
        simpa using this
    · obtain rfl : len = 0 := by omega
      exact .inr (.inl ⟨rfl, by simp⟩)

end Go.Proofs.Ytmkaglaogkadcaa

/-! PbArg -/
namespace Go.Proofs.Ytmkaglaogkadcaa
open Go.ChangeShapes Go.WideShapes Go.ChangeAt Go.RowKit Go.Deep

theorem cellsPb1 : Try.prog.cellsOf 5 = 1 := by kernel_rfl
theorem byte_of {z : Int} (h : (Lit.int .u8 z).wf = true) : ∃ b : UInt8, z = (b.toNat : Int) := by
  have b1 : IntKind.u8.min = 0 := rfl
  have b2 : IntKind.u8.max = 255 := rfl
  simp only [Lit.wf, Bool.and_eq_true, decide_eq_true_eq] at h
  obtain ⟨k, rfl⟩ := Int.eq_ofNat_of_zero_le (show 0 ≤ z by omega)
  exact ⟨UInt8.ofNat k, by simp; omega⟩
end Go.Proofs.Ytmkaglaogkadcaa

/-! FrmArg -/
namespace Go.Proofs.Ytmkaglaogkadcaa
open Go.ChangeShapes Go.WideShapes Go.ChangeAt Go.RowKit

theorem u16_of_wf {z : Int} (h : (Lit.int .u16 z).wf = true) : ∃ n : Nat, z = (n : Int) ∧ n < 65536 := by
  have b1 : IntKind.u16.min = 0 := rfl
  have b2 : IntKind.u16.max = 65535 := rfl
  simp only [Lit.wf, Bool.and_eq_true, decide_eq_true_eq] at h
  exact ⟨z.toNat, by omega, by omega⟩
theorem frArg_bool {H : Type} {enc : TypeId × Value → H} {W : World} {b0 : Nat} {v : Value} {d : DataW H} {p : List MemPlace} (hv : Value.okWide Try.prog W .any b0 4 v) (h : DataW.Trod enc Try.prog W 0 (fun _ => true) true 4 v d p) : ∃ s : Bool, v = .bool s := by
  obtain ⟨s, rfl, -, -⟩ := open_bool Try.underlying4 hv h
  exact ⟨s, rfl⟩
end Go.Proofs.Ytmkaglaogkadcaa

/-! SaidFTorn -/
namespace Go.Proofs.Ytmkaglaogkadcaa
open Go.ChangeShapes Go.WideShapes Go.ChangeAt Go.RowKit

theorem ftorn_laidOut : laidOutB Try.prog = true := by kernel_rfl
set_option maxRecDepth 100000 in
theorem ftorn_contract (H : Type) (enc : TypeId × Value → H) (W : World) (base : Nat) (args : Array Value) (ds gs : List (DataW H)) (before : List MemPlace)
    (hval : ∀ (j : Nat) t v, Try.f5.params[j]? = some t → args[j]? = some v → Value.okWide Try.prog W .any base t v)
    (hW : DataW.Whole enc Try.prog Try.f5.params.toList Rows.frameTornSpec.vars false W args.toList ds gs before) :
    Calls Try.prog 5 args W fun e W' => ∃ v, e = .returned v ∧ Rows.frameTornSpec.post enc Try.prog Try.f5 false true false false W args v W' := by
  have hW' := hW
  obtain ⟨p, q, hA0, hV, rfl, hfz, hnd⟩ := hW
  have hA : DataW.TrodAll enc Try.prog W 0 (fun _ => true) true Try.f5.params.toList args.toList ds p := hA0
  rw [Try.params5] at hA hval
  obtain ⟨v0, v1, v2, v3, d0, d1, d2, d3, p0, p1, p2, p3, rfl, rfl, rfl, h0, h1, h2, h3⟩ := trodAll_four hA
  obtain ⟨rfl, rfl⟩ := trodVars_none hV
  clear hA0
  simp only [List.append_nil] at hW'
  have hlt0 : ∀ x ∈ p0, x.block < W.heap.size := fun x hx => by simpa using hW'.lt x (by simp [hx])
  have hargs0 : ∀ (W' : World), Below W.heap.size W W' → DataW.Trod enc Try.prog W' 0 (fun b => decide (b < W.heap.size)) true 32 v0 d0 p0 :=
    fun W' hn => Below.trod ftorn_laidOut (by kernel_rfl) (of_decide_eq_true (by kernel_rfl)) h0 hn hlt0
  have hlt1 : ∀ x ∈ p1, x.block < W.heap.size := fun x hx => by simpa using hW'.lt x (by simp [hx])
  have hargs1 : ∀ (W' : World), Below W.heap.size W W' → DataW.Trod enc Try.prog W' 0 (fun b => decide (b < W.heap.size)) true 33 v1 d1 p1 :=
    fun W' hn => Below.trod ftorn_laidOut (by kernel_rfl) (of_decide_eq_true (by kernel_rfl)) h1 hn hlt1
  have hlt2 : ∀ x ∈ p2, x.block < W.heap.size := fun x hx => by simpa using hW'.lt x (by simp [hx])
  have hargs2 : ∀ (W' : World), Below W.heap.size W W' → DataW.Trod enc Try.prog W' 0 (fun b => decide (b < W.heap.size)) true 22 v2 d2 p2 :=
    fun W' hn => Below.trod ftorn_laidOut (by kernel_rfl) (of_decide_eq_true (by kernel_rfl)) h2 hn hlt2
  have hlt3 : ∀ x ∈ p3, x.block < W.heap.size := fun x hx => by simpa using hW'.lt x (by simp [hx])
  have hargs3 : ∀ (W' : World), Below W.heap.size W W' → DataW.Trod enc Try.prog W' 0 (fun b => decide (b < W.heap.size)) true 5 v3 d3 p3 :=
    fun W' hn => Below.trod ftorn_laidOut (by kernel_rfl) (of_decide_eq_true (by kernel_rfl)) h3 hn hlt3
  obtain ⟨z0, rfl, -, -, wa0⟩ := open_int Try.underlying32 (hval 0 32 v0 rfl rfl) h0
  obtain ⟨m0, rfl, hm0⟩ := u32_of_wf wa0
  obtain ⟨z1, rfl, -, -, wa1⟩ := open_int Try.underlying33 (hval 1 33 v1 rfl rfl) h1
  obtain ⟨m1, rfl, hm1⟩ := u16_of_wf wa1
  obtain ⟨a2, n2, cap2, rfl⟩ := okWide_slice Try.underlying22 (hval 2 22 v2 rfl rfl)
  obtain ⟨l2, hl2⟩ := bytes_of_arg h2
  obtain ⟨z3, rfl, -, -, wa3⟩ := open_int Try.underlying5 (hval 3 5 v3 rfl rfl) h3
  obtain ⟨m3, rfl⟩ := byte_of wa3
  refine (ftorn_any theRel dNew_any dWrite_any dRead_any dArm_any dPower_any frWrite_any frRead_any (fralive_any frWrite_any frRead_any) m0 m1 m3.toNat a2 n2 cap2 l2 W hl2 hm0 hm1 m3.toNat_lt).mono fun e W' ⟨he, hB⟩ => ?_
  subst he
  exact ⟨_, rfl, _, _, _, [], p0 ++ (p1 ++ (p2 ++ (p3))), [], hW', trodAll_mk1 (shut_bool Try.underlying4 _), trodAll_mk4 (hargs0 _ hB) (hargs1 _ hB) (hargs2 _ hB) (hargs3 _ hB), rfl, hB.frame _, fun h => by cases h⟩

set_option maxRecDepth 100000 in
theorem ftorn_lifted (os : Os) (started : os.Started) (H : Type) (enc : TypeId × Value → H) :
    ReturnsInHanded {} Try.checked os 5 .any (Rows.frameTornSpec.pre6 enc Try.prog Try.f5 Rows.frameTornRow.domain false) (Rows.frameTornSpec.post enc Try.prog Try.f5 false true false false) := by
  refine returnsInHanded_of_change (C := Try.checked) ownP started (by kernel_rfl) Try.func5
    (ChangeSpec.witness6 (enc := enc) (C := Try.checked) false ⟨#[], #[Value.int .u32 0, .int .u16 0, .slice none 0 0, .int .u8 0], []⟩ 8 (by kernel_rfl) (by kernel_rfl) (by kernel_rfl) (by kernel_rfl)) ?_
  intro W base args ds gs before hval hW _ _
  exact ftorn_contract H enc W base args ds gs before hval hW

theorem ftorn_holds : Rows.FrameTornSaid :=
  OpenClaim.holds_of_wide 5 Try.f5 rfl rfl rfl rfl rfl rfl rfl ⟨rfl, rfl, rfl, rfl, rfl⟩ rfl rfl rfl rfl rfl (by kernel_rfl) Try.func5 (by kernel_rfl)
    (of_decide_eq_true (by kernel_rfl)) (by unfold Func.isWrapper; first | (rw [if_pos (by decide +kernel)]; kernel_rfl) | (rw [if_neg (by decide +kernel)]; exact ⟨rfl, rfl⟩))
    (fun os started H enc _ => ftorn_lifted os started H enc)

end Go.Proofs.Ytmkaglaogkadcaa

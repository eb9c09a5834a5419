/-
  What every law of layer 8 ends with, from the contracts: a commit.
-/
import Derived.Test.YtmkaglaogkadcaaLawFReads
import Derived.Test.YtmkaglaogkadcaaCrcV
import Derived.Test.YtmkaglaogkadcaaCrcT
import Derived.Test.YtmkaglaogkadcaaDskV
namespace Go.Proofs.Ytmkaglaogkadcaa
open Go.RowKit

def aF : List UInt8 := frWL 67 1 2 [120, 121]
def aG : List UInt8 := aF.set 9 120
theorem aF_e : frWE 1 2 [120, 121] = 0 := by decide
theorem aF_len : aF.length = 128 := frWL_length aF_e
theorem aG_len : aG.length = 128 := by unfold aG; rw [List.length_set, aF_len]
theorem aF_r : frR 67 aF = ⟨1, 2, [120, 121], 0⟩ := frR_frW aF_e
theorem aF_c : frR 82 aF = ⟨0, 0, [], 3⟩ := by
  have h : frRE 82 aF = 3 := by decide +kernel
  unfold frR; rw [if_neg (by omega), h]
theorem aG_r : frR 67 aG = ⟨0, 0, [], 18⟩ := by
  have h : frRE 67 aG = 18 := by decide +kernel
  unfold frR; rw [if_neg (by omega), h]
theorem aF_9 : aF[9]? = some 121 := by decide +kernel
theorem aG_8 : aG.take 8 = [67, 0, 0, 0, 1, 0, 2, 2] := by decide +kernel
theorem aG_127 : aG[127]? = some 69 := by decide +kernel
theorem aN_e : frWE (-1) 0 [] = 8 := by decide
theorem aN_l : frWL 82 (-1) 0 [] = [] := by unfold frWL; rw [aN_e]; rfl
theorem frw_lit (hW : FrWriteC) (W : World) (cs : Array Value) (fr : Nat × Nat) (h : cs.toList = bvs [120, 121]) :
    Calls Try.prog 7 #[.int .u8 67, .int .i64 1, .int .i64 2, .slice (some ⟨W.heap.size, 0, none⟩) 2 2] (W.alloc (.cells cs 5 fr)) fun e w' => ∃ q c, e = .returned (.tuple #[.slice q 128 c, .int .i64 0]) ∧ FreshB W.heap.size w' (.slice q aF.length c) aF ∧ Below W.heap.size W w' :=
  (hW 67 1 2 _ 2 2 [120, 121] _ (bs_mark W cs fr _ h (by decide)) (by decide)).mono fun e w' ⟨q, c, he, ⟨t, h1⟩, hB⟩ => by
    rw [aF_e, show (frWL 67 1 2 [120, 121]).length = 128 from aF_len] at he
    exact ⟨q, c, he, ⟨t, own_base2 h1 (by simp)⟩, (below_mark W cs fr).trans (hB.mono (by simp))⟩
theorem frr_lit (hR : FrReadC) {kd : UInt8} {t : List UInt8} {g s : Int} {P : List UInt8} {x z : Int} (hr : frR kd t = ⟨g, s, P, z⟩) (hx : (kd.toNat : Int) = x) (p : Option Addr) (len cap : Nat) (V : World) (hV : BsAt V p len cap t) (ht : t.length = 128) :
    Calls Try.prog 9 #[.int .u8 x, .slice p len cap] V fun e w' => ∃ q c, e = .returned (.tuple #[.int .i64 g, .int .i64 s, .slice q P.length c, .int .i64 z]) ∧ NewB V.heap.size w' q c P ∧ Below V.heap.size V w' := by
  have h := hR kd p len cap t V hV (by omega)
  rw [hr, hx] at h
  exact h

set_option maxRecDepth 100000 in
set_option maxHeartbeats 6400000 in
theorem fralive_any (hW : FrWriteC) (hR : FrReadC) : FrAliveC := by
  intro w
  have kc := fun (w : World) (C : Array Value) (n c : Nat) => Lib.run_convert_bytes_const (P := Try.prog) w 22 5 C n c Try.underlying22 Try.underlying5
  go_enter Try.func6, Try.ntmps6
  go_wp2_with fail
  refine (frw_lit hW w _ _ rfl).mono ?_
  rintro e w1 ⟨q1, c1, rfl, ⟨t1, hr1⟩, hB1⟩
  obtain ⟨g, rfl, -⟩ := row_byte hr1 (by rw [aF_len]; decide)
  have hg := (hr1.lt g rfl).2
  have HB1 := Lib.hid hB1
  have HR1 := Lib.hid hr1
  have hb1 := FreshB.bs ⟨t1, hr1⟩
  rw [aF_len] at hb1
  have hc8 : 128 ≤ c1 := hb1.le
  have HRd := Lib.hid (fun V hV => frr_lit hR aF_r (x := 67) rfl (some ⟨g, 0, none⟩) 128 c1 V hV aF_len)
  have HRc := Lib.hid (fun V hV => frr_lit hR aF_c (x := 82) rfl (some ⟨g, 0, none⟩) 128 c1 V hV aF_len)
  have HRg := Lib.hid (fun V hV => frr_lit hR aG_r (x := 67) rfl (some ⟨g, 0, none⟩) 128 c1 V hV aG_len)
  have Hb1 := Lib.hid hb1
  clear hr1 hB1 hb1 kc hR
  go_wp2_with fail
  refine (HRd.out w1 Hb1.out).mono ?_
  rintro e w2 ⟨q2, c2, rfl, ⟨hp2, hn2⟩, hB2⟩
  have HB2 := Lib.hid (HB1.out.trans (hB2.mono HB1.out.size))
  have HR2 := Lib.hid (own_below HR1.out hB2 (Nat.le_refl _))
  have Hb2 := Lib.hid (Hb1.out.below hB2 (Nat.le_refl _))
  have HP2 := Lib.hid hp2
  have HN2 := Lib.hid hn2
  have hg2 : g < w2.heap.size := Nat.lt_of_lt_of_le hg hB2.size
  clear hp2 hn2 hB2 HB1 HR1 Hb1 HRd
  go_wp2_with fail
  refine (HRc.out w2 Hb2.out).mono ?_
  rintro e w3 ⟨q3, c3, rfl, -, hB3⟩
  have HB3 := Lib.hid (HB2.out.trans (hB3.mono HB2.out.size))
  have hR3 := own_below HR2.out hB3 (Nat.le_refl _)
  have HR3 := Lib.hid hR3
  have HP3 := Lib.hid (HP2.out.below hB3 (Nat.le_refl _))
  have hcell : w3.cell? ⟨g, 9, none⟩ = some (.int .u8 121) := by
    obtain ⟨g', e, hby⟩ := row_byte hR3 (by rw [aF_len]; decide)
    cases e
    exact hby 9 121 aF_9
  have hfree := hR3.frozenAt 9
  clear hR3 hB3 HB2 HR2 Hb2 HRc HP2
  go_wp2_with fail
  rw [show bits BinOp.xor IntKind.u8 121 1 = 120 by decide]
  have hst := HR3.out.stored 9 (.int .u8 120)
  have e1 : (bvs aF).set 9 (.int .u8 120) = bvs aG := by unfold aG; rw [bvs_set]; rfl
  rw [e1, show aF.length = aG.length by rw [aF_len, aG_len]] at hst
  generalize w3.setCell ⟨g, 9, none⟩ (.int .u8 120) = w4 at *
  have HB4 := Lib.hid (HB3.out.grown hst.2 HB3.out.size (fun k hk => by cases hk; exact (HR3.out.lt g rfl).1))
  have HP4 := Lib.hid (HP3.out.kept hst.2.size (fun a ha hlt => hst.2.block a.block hlt (fun e => by
    cases e
    have := HN2.out a ha
    omega)))
  have HR4 := Lib.hid hst.1
  have hb4 := FreshB.bs ⟨t1, hst.1⟩
  rw [aG_len] at hb4
  clear hst hcell hfree HB3 HR3 HP3 HN2 e1
  refine (HRg.out w4 hb4).mono ?_
  rintro e w5 ⟨q5, c5, rfl, -, hB5⟩
  have HB5 := Lib.hid (HB4.out.trans (hB5.mono HB4.out.size))
  have HR5 := Lib.hid (own_below HR4.out hB5 (Nat.le_refl _))
  have HP5 := Lib.hid (HP4.out.below hB5 (Nat.le_refl _))
  have h6 := hW 82 (-1) 0 none 0 0 [] w5 (bsAt_nil _) (by decide)
  rw [aN_e, aN_l] at h6
  have H6 := Lib.hid h6
  clear hb4 hB5 HB4 HR4 HP4 HRg h6 hW
  go_wp2_with fail
  refine H6.out.mono ?_
  rintro e w6 ⟨q6, c6, rfl, -, hB6⟩
  have HB6 := Lib.hid (HB5.out.trans (hB6.mono HB5.out.size))
  have hR6 := own_below HR5.out hB6 (Nat.le_refl _)
  have hp6 : BsAt w6 q2 2 c2 [120, 121] := HP5.out.below hB6 (Nat.le_refl _)
  have hb6 := FreshB.bs ⟨t1, hR6⟩
  rw [aG_len] at hb6
  have u8' := run_upto w6 (some ⟨g, 0, none⟩) 128 c1 8 (by omega)
  have s1 := run_string_bs (P := Try.prog) w6 22 5 9 Try.underlying22 Try.underlying5 Try.underlying9 (bs_take hb6 (n := 8) (by rw [aG_len]; decide))
  rw [aG_8] at s1
  have s2 := run_string_bs (P := Try.prog) w6 22 5 9 Try.underlying22 Try.underlying5 Try.underlying9 hp6
  have c127 : w6.cell? ⟨g, 127, none⟩ = some (.int .u8 69) := by
    obtain ⟨g', e, hby⟩ := row_byte hR6 (by rw [aG_len]; decide)
    cases e
    exact hby 127 69 aG_127
  have hc : (8 : Int) ≤ (c1 : Int) := by omega
  clear hR6 hp6 hb6 hB6 H6 HB5 HR5 HP5
  go_wp2_with fail
  go_ret
  exact ⟨rfl, HB6.out⟩
end Go.Proofs.Ytmkaglaogkadcaa

/-
  The law ParseBrackets, from the program's contracts.
-/
import Derived.Test.YtfhjmhmgkdadhaaDoorWParC
import Derived.Test.YtfhjmhmgkdadhaaDoorWLawYParts
/-! LawYBrackets -/
namespace Go.Proofs.YtfhjmhmgkdadhaaDoor
open Go.RowKit

set_option maxRecDepth 100000 in
set_option maxHeartbeats 6400000 in
theorem ybrackets_any {G : World → Prop} (gK : KeepX G) (cQ : YQueryC G) (hA : YAliveC G) (s : List UInt8) (hs : s.length ≤ 9223372036854775807) (w : World) (hw : G w) : Calls Tryd.prog 5 #[.string ⟨s.toArray⟩] w fun e w' => e = .returned (.bool true) ∧ Below w.heap.size w w' := by
  have hz : (⟨s.toArray⟩ : ByteArray).size = s.length := by simp [ByteArray.size]
  have HG := Lib.hid (fun V (hV : Below w.heap.size w V) => gK.keep hw hV)
  have HAl := Lib.hid (fun V (hV : Below w.heap.size w V) => hA V (HG.out V hV))
  have HQ := Lib.hid (cQ s w hw hs)
  have HQs := Lib.hid (fun t V (hV : Below w.heap.size w V) ht => cQ t V (HG.out V hV) ht)
  obtain ⟨l, at_, er, hq⟩ : ∃ l a e, queryQ s = (l, a, e) := ⟨_, _, _, rfl⟩
  have HIn := Lib.hid (show ∀ x ∈ l, IntQ x from by have h := queryQ_ints s; rw [hq] at h; exact h)
  have HLn := Lib.hid (show l.length ≤ 24 from by have h := queryQ_len s; rw [hq] at h; exact h)
  have HNo := Lib.hid (show ¬ er = 0 → l = [] from fun h => by have h2 := queryQ_none (s := s) (by rw [hq]; exact h); rw [hq] at h2; exact h2)
  unfold QryIs at HQ
  rw [hq] at HQ
  simp only at HQ
  clear gK cQ hA hw hs
  by_cases he : er = 0
  · obtain rfl : er = 0 := he
    have HW3 := Lib.hid (query_word hq)
    have HB3 := Lib.hid (query_brackets hq)
    have h48 : s.length ≤ 48 := by obtain ⟨-, -, h, -⟩ := query_inner hq; omega
    have HS48 := Lib.hid h48
    have c1 : ([40] : List UInt8).length + s.length ≤ 1000 := by simp; omega
    have c2 : (40 :: s : List UInt8).length + ([41] : List UInt8).length ≤ 1000 := by simp; omega
    have c3 : ([115, 111, 109, 101, 40] : List UInt8).length + s.length ≤ 1000 := by simp; omega
    have c4 : (115 :: 111 :: 109 :: 101 :: 40 :: s : List UInt8).length + ([41] : List UInt8).length ≤ 1000 := by simp; omega
    have hlw : IntKind.i64.wrap ((l.length : Int) + 1) = (l.length : Int) + 1 := by have := HLn.out; rw [IntKind.wrap_i64]; omega
    have HQ2 := Lib.hid (fun V (hV : Below w.heap.size w V) => HQs.out (40 :: (s ++ [41])) V hV (by simp; omega))
    have HQ3 := Lib.hid (fun V (hV : Below w.heap.size w V) => HQs.out (115 :: 111 :: 109 :: 101 :: 40 :: (s ++ [41])) V hV (by simp; omega))
    unfold QryIs at HQ2 HQ3
    have HC1 := Lib.hid c1
    have HC2 := Lib.hid c2
    have HC3 := Lib.hid c3
    have HC4 := Lib.hid c4
    clear hq h48 HQs HNo c1 c2 c3 c4
    go_enter Tryd.func5, Tryd.ntmps5
    go_wp2_with fail
    refine HQ.out.mono ?_
    rintro e w1 ⟨v1, rfl, hv1, hB1⟩
    have HB1 := Lib.hid hB1
    have HV1 := Lib.hid hv1
    clear hv1 hB1 HQ
    go_wp2_with (first | (refine wpList_of rfl (exec_cat (l := [40]) (m := s) rfl rfl rfl HC1.out) ?_) | (refine wpList_of rfl (exec_cat (l := 40 :: s) (m := [41]) rfl rfl rfl HC2.out) ?_))
    refine (HQ2.out w1 HB1.out).mono ?_
    rintro e w2 ⟨v2, rfl, hv2, hB2⟩
    have HB2 := Lib.hid (HB1.out.trans (hB2.mono HB1.out.size))
    have HV1 := Lib.hid (HV1.out.below hB2 (Nat.le_refl _))
    have HV2 := Lib.hid hv2
    clear hv2 hB2 HB1 HQ2
    go_wp2_with (first | (refine wpList_of rfl (exec_cat (l := [115, 111, 109, 101, 40]) (m := s) rfl rfl rfl HC3.out) ?_) | (refine wpList_of rfl (exec_cat (l := 115 :: 111 :: 109 :: 101 :: 40 :: s) (m := [41]) rfl rfl rfl HC4.out) ?_))
    refine (HQ3.out w2 HB2.out).mono ?_
    rintro e w3 ⟨v3, rfl, hv3, hB3⟩
    have HB3w := Lib.hid (HB2.out.trans (hB3.mono HB2.out.size))
    have HV1 := Lib.hid (HV1.out.below hB3 (Nat.le_refl _))
    have HV2 := Lib.hid (HV2.out.below hB3 (Nat.le_refl _))
    have HV3 := Lib.hid hv3
    clear hv3 hB3 HB2 HQ3
    obtain ⟨p1, k1, e1, hk1, -⟩ := id HV1.out
    cases e1
    obtain ⟨p3, k3, e3, hk3, -⟩ := id HV3.out
    cases e3
    generalize queryQ (40 :: (s ++ [41])) = r2 at *
    generalize queryQ (115 :: 111 :: 109 :: 101 :: 40 :: (s ++ [41])) = r3 at *
    have HR3 := HW3
    rcases HB3.out with hf | ⟨h47, hf⟩ | ⟨kf, hf⟩
    · subst hf
      simp only at HV2
      have HSa := Lib.hid (rqSame_any _ v2 l w3 HV1.out HV2.out HIn.out)
      clear HB3 HW3
      go_wp2_with fail
      refine HSa.out.mono ?_
      rintro e w4 ⟨rfl, hB4⟩
      have HB4 := Lib.hid (HB3w.out.trans (hB4.mono HB3w.out.size))
      have HV1 := Lib.hid (HV1.out.below hB4 (Nat.le_refl _))
      have HV3 := Lib.hid (HV3.out.below hB4 (Nat.le_refl _))
      clear hB4 HB3w HSa HV2
      rcases HR3.out with hg | ⟨kg, hg⟩ | ⟨kg, hg⟩
      · subst hg
        simp only at HV3 hk3
        have hlen : (l ++ [(⟨11, 0⟩ : Qn)]).length = l.length + 1 := by simp
        rw [hlen] at HV3 hk3
        have HT := Lib.hid (show NodesAt w4 (.slice p3 l.length k3) l from by have h := slAt_take HV3.out (m := l.length) (by rw [hlen]; omega); rwa [List.take_left'] at h; rfl)
        have HE := Lib.hid (show ∃ g off, p3 = some ⟨g, off, none⟩ ∧ CellsAt w4 g (off + l.length * 2) (nodC ⟨11, 0⟩) from by
          obtain ⟨g, off, cp, hs1, -, -, hg⟩ := HV3.out.shape (by simp)
          rw [hlen] at hs1
          cases hs1
          have h := (HV3.out.elem (i := l.length) (by rw [hlen]; omega)).2
          rw [List.getElem_append_right (Nat.le_refl _)] at h
          exact ⟨g, off, rfl, by simpa using h⟩)
        obtain ⟨g, off, rfl, hcell⟩ := HE.out
        have HCe := Lib.hid hcell
        have HSb := Lib.hid (rqSame_any _ _ l w4 HT.out HV1.out HIn.out)
        have i0 : (0 : Int) ≤ (l.length : Int) := by omega
        have i1 : (l.length : Int) < (l.length : Int) + 1 := by omega
        have i2 : (l.length : Int) ≤ (k3 : Int) := by have := hk3.1; omega
        have i3 : (l.length : Int) ≤ (l.length : Int) + 1 := by omega
        have HBz := Lib.hid (And.intro trivial (show g < w4.heap.size from by obtain ⟨g5, o5, c5, h5, -, -, h6⟩ := HV3.out.shape (by simp); rw [hlen] at h5; cases h5; exact h6))
        clear hcell HE HT
        go_wp2_with fail
        refine HSb.out.mono ?_
        rintro e w5 ⟨rfl, hB5⟩
        have HB5 := Lib.hid (HB4.out.trans (hB5.mono HB4.out.size))
        have HC5 := Lib.hid (HCe.out.below hB5 HBz.out.2)
        clear hB5 HB4 HSb HBz
        go_wp2_with (first | (refine wpList_load_cells rfl _ _ rfl rfl HC5.out Tryd.underlying34 rfl (infoNodS _) ?_) | (refine wpList_of rfl (exec_neqNd (x := ⟨11, 0⟩) ⟨⟨by decide, by decide⟩, by decide, by decide⟩ rfl rfl rfl) ?_))
        refine (HAl.out _ HB5.out).mono ?_
        rintro e w9 ⟨rfl, hB9⟩
        have HB9 := Lib.hid (HB5.out.trans (hB9.mono HB5.out.size))
        clear hB9 HB5
        go_wp2_with fail
        go_ret
        exact ⟨rfl, HB9.out⟩
      · subst hg
        simp only at HV3 hk3
        go_wp2_with fail
        refine (HAl.out _ HB4.out).mono ?_
        rintro e w9 ⟨rfl, hB9⟩
        have HB9 := Lib.hid (HB4.out.trans (hB9.mono HB4.out.size))
        clear hB9 HB4
        go_wp2_with fail
        go_ret
        exact ⟨rfl, HB9.out⟩
      · subst hg
        simp only at HV3 hk3
        go_wp2_with fail
        refine (HAl.out _ HB4.out).mono ?_
        rintro e w9 ⟨rfl, hB9⟩
        have HB9 := Lib.hid (HB4.out.trans (hB9.mono HB4.out.size))
        clear hB9 HB4
        go_wp2_with fail
        go_ret
        exact ⟨rfl, HB9.out⟩
    · subst hf
      simp only at HV2
      have d47 : decide ((s.length : Int) < 47) = false := by simp; omega
      have d47b : decide (s.length < 47) = false := by simp; omega
      clear h47
      clear HB3 HW3
      have HB4 := HB3w
      clear HB3w HV2
      rcases HR3.out with hg | ⟨kg, hg⟩ | ⟨kg, hg⟩
      · subst hg
        simp only at HV3 hk3
        have hlen : (l ++ [(⟨11, 0⟩ : Qn)]).length = l.length + 1 := by simp
        rw [hlen] at HV3 hk3
        have HT := Lib.hid (show NodesAt w3 (.slice p3 l.length k3) l from by have h := slAt_take HV3.out (m := l.length) (by rw [hlen]; omega); rwa [List.take_left'] at h; rfl)
        have HE := Lib.hid (show ∃ g off, p3 = some ⟨g, off, none⟩ ∧ CellsAt w3 g (off + l.length * 2) (nodC ⟨11, 0⟩) from by
          obtain ⟨g, off, cp, hs1, -, -, hg⟩ := HV3.out.shape (by simp)
          rw [hlen] at hs1
          cases hs1
          have h := (HV3.out.elem (i := l.length) (by rw [hlen]; omega)).2
          rw [List.getElem_append_right (Nat.le_refl _)] at h
          exact ⟨g, off, rfl, by simpa using h⟩)
        obtain ⟨g, off, rfl, hcell⟩ := HE.out
        have HCe := Lib.hid hcell
        have HSb := Lib.hid (rqSame_any _ _ l w3 HT.out HV1.out HIn.out)
        have i0 : (0 : Int) ≤ (l.length : Int) := by omega
        have i1 : (l.length : Int) < (l.length : Int) + 1 := by omega
        have i2 : (l.length : Int) ≤ (k3 : Int) := by have := hk3.1; omega
        have i3 : (l.length : Int) ≤ (l.length : Int) + 1 := by omega
        have HBz := Lib.hid (And.intro trivial (show g < w3.heap.size from by obtain ⟨g5, o5, c5, h5, -, -, h6⟩ := HV3.out.shape (by simp); rw [hlen] at h5; cases h5; exact h6))
        clear hcell HE HT
        go_wp2_with fail
        refine HSb.out.mono ?_
        rintro e w5 ⟨rfl, hB5⟩
        have HB5 := Lib.hid (HB4.out.trans (hB5.mono HB4.out.size))
        have HC5 := Lib.hid (HCe.out.below hB5 HBz.out.2)
        clear hB5 HB4 HSb HBz
        go_wp2_with (first | (refine wpList_load_cells rfl _ _ rfl rfl HC5.out Tryd.underlying34 rfl (infoNodS _) ?_) | (refine wpList_of rfl (exec_neqNd (x := ⟨11, 0⟩) ⟨⟨by decide, by decide⟩, by decide, by decide⟩ rfl rfl rfl) ?_))
        refine (HAl.out _ HB5.out).mono ?_
        rintro e w9 ⟨rfl, hB9⟩
        have HB9 := Lib.hid (HB5.out.trans (hB9.mono HB5.out.size))
        clear hB9 HB5
        go_wp2_with fail
        go_ret
        exact ⟨rfl, HB9.out⟩
      · subst hg
        simp only at HV3 hk3
        go_wp2_with fail
        refine (HAl.out _ HB4.out).mono ?_
        rintro e w9 ⟨rfl, hB9⟩
        have HB9 := Lib.hid (HB4.out.trans (hB9.mono HB4.out.size))
        clear hB9 HB4
        go_wp2_with fail
        go_ret
        exact ⟨rfl, HB9.out⟩
      · subst hg
        simp only at HV3 hk3
        go_wp2_with fail
        refine (HAl.out _ HB4.out).mono ?_
        rintro e w9 ⟨rfl, hB9⟩
        have HB9 := Lib.hid (HB4.out.trans (hB9.mono HB4.out.size))
        clear hB9 HB4
        go_wp2_with fail
        go_ret
        exact ⟨rfl, HB9.out⟩
    · subst hf
      simp only at HV2
      clear HB3 HW3
      have HB4 := HB3w
      clear HB3w HV2
      rcases HR3.out with hg | ⟨kg, hg⟩ | ⟨kg, hg⟩
      · subst hg
        simp only at HV3 hk3
        have hlen : (l ++ [(⟨11, 0⟩ : Qn)]).length = l.length + 1 := by simp
        rw [hlen] at HV3 hk3
        have HT := Lib.hid (show NodesAt w3 (.slice p3 l.length k3) l from by have h := slAt_take HV3.out (m := l.length) (by rw [hlen]; omega); rwa [List.take_left'] at h; rfl)
        have HE := Lib.hid (show ∃ g off, p3 = some ⟨g, off, none⟩ ∧ CellsAt w3 g (off + l.length * 2) (nodC ⟨11, 0⟩) from by
          obtain ⟨g, off, cp, hs1, -, -, hg⟩ := HV3.out.shape (by simp)
          rw [hlen] at hs1
          cases hs1
          have h := (HV3.out.elem (i := l.length) (by rw [hlen]; omega)).2
          rw [List.getElem_append_right (Nat.le_refl _)] at h
          exact ⟨g, off, rfl, by simpa using h⟩)
        obtain ⟨g, off, rfl, hcell⟩ := HE.out
        have HCe := Lib.hid hcell
        have HSb := Lib.hid (rqSame_any _ _ l w3 HT.out HV1.out HIn.out)
        have i0 : (0 : Int) ≤ (l.length : Int) := by omega
        have i1 : (l.length : Int) < (l.length : Int) + 1 := by omega
        have i2 : (l.length : Int) ≤ (k3 : Int) := by have := hk3.1; omega
        have i3 : (l.length : Int) ≤ (l.length : Int) + 1 := by omega
        have HBz := Lib.hid (And.intro trivial (show g < w3.heap.size from by obtain ⟨g5, o5, c5, h5, -, -, h6⟩ := HV3.out.shape (by simp); rw [hlen] at h5; cases h5; exact h6))
        clear hcell HE HT
        go_wp2_with fail
        refine HSb.out.mono ?_
        rintro e w5 ⟨rfl, hB5⟩
        have HB5 := Lib.hid (HB4.out.trans (hB5.mono HB4.out.size))
        have HC5 := Lib.hid (HCe.out.below hB5 HBz.out.2)
        clear hB5 HB4 HSb HBz
        go_wp2_with (first | (refine wpList_load_cells rfl _ _ rfl rfl HC5.out Tryd.underlying34 rfl (infoNodS _) ?_) | (refine wpList_of rfl (exec_neqNd (x := ⟨11, 0⟩) ⟨⟨by decide, by decide⟩, by decide, by decide⟩ rfl rfl rfl) ?_))
        refine (HAl.out _ HB5.out).mono ?_
        rintro e w9 ⟨rfl, hB9⟩
        have HB9 := Lib.hid (HB5.out.trans (hB9.mono HB5.out.size))
        clear hB9 HB5
        go_wp2_with fail
        go_ret
        exact ⟨rfl, HB9.out⟩
      · subst hg
        simp only at HV3 hk3
        go_wp2_with fail
        refine (HAl.out _ HB4.out).mono ?_
        rintro e w9 ⟨rfl, hB9⟩
        have HB9 := Lib.hid (HB4.out.trans (hB9.mono HB4.out.size))
        clear hB9 HB4
        go_wp2_with fail
        go_ret
        exact ⟨rfl, HB9.out⟩
      · subst hg
        simp only at HV3 hk3
        go_wp2_with fail
        refine (HAl.out _ HB4.out).mono ?_
        rintro e w9 ⟨rfl, hB9⟩
        have HB9 := Lib.hid (HB4.out.trans (hB9.mono HB4.out.size))
        clear hB9 HB4
        go_wp2_with fail
        go_ret
        exact ⟨rfl, HB9.out⟩
  · have hl := HNo.out he
    subst hl
    have q0 : ((er : Int) == 0) = false := by rw [beq_eq_false_iff_ne]; omega
    have q1 : ¬ (er : Int) = 0 := by omega
    clear he hq
    go_enter Tryd.func5, Tryd.ntmps5
    go_wp2_with fail
    refine HQ.out.mono ?_
    rintro e w1 ⟨v1, rfl, hv1, hB1⟩
    have HB1 := Lib.hid hB1
    obtain ⟨p1, k1, e1, -, -⟩ := hv1
    cases e1
    clear hB1 HQ
    go_wp2_with fail
    refine (HAl.out _ HB1.out).mono ?_
    rintro e w9 ⟨rfl, hB9⟩
    have HB9 := Lib.hid (HB1.out.trans (hB9.mono HB1.out.size))
    clear hB9 HB1
    go_wp2_with fail
    go_ret
    exact ⟨rfl, HB9.out⟩
end Go.Proofs.YtfhjmhmgkdadhaaDoor

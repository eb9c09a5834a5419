/-
  The law's last check: known queries.
-/
import Derived.Test.YtfhjmhmgkdadhaaDoorWParC
import Derived.Test.YtfhjmhmgkdadhaaDoorWLawYParts
/-! ParV -/
namespace Go.Proofs.YtfhjmhmgkdadhaaDoor
open Go.RowKit

def nodes5 : List Qn := [⟨4, 1⟩, ⟨4, 2⟩, ⟨6, 0⟩, ⟨13, 0⟩, ⟨10, 0⟩]
theorem query_a : queryQ [99, 111, 117, 110, 116, 32, 40, 114, 49, 32, 124, 32, 117, 112, 32, 114, 50, 41] = (nodes5, 0, 0) := by decide +kernel
theorem query_b : queryQ [114, 49, 32, 124] = ([], 4, 3) := by decide +kernel
theorem query_c : queryQ [40, 40, 40, 40, 40, 40, 40, 40, 40, 40, 114, 49, 41, 41, 41, 41, 41, 41, 41, 41, 41, 41] = ([], 9, 17) := by decide +kernel
theorem nodes5_right : rightQ nodes5 := by
  have h := queryQ_right (s := [99, 111, 117, 110, 116, 32, 40, 114, 49, 32, 124, 32, 117, 112, 32, 114, 50, 41]) (by rw [query_a])
  rwa [query_a] at h
theorem nodes4_not : ¬ rightQ (nodes5.drop 1) := fun h => by
  have h2 := (rightQ_iff.1 h).2.2.2
  revert h2
  decide +kernel
theorem nodes5_beg : begQ nodes5 3 = some 0 ∧ begQ nodes5 2 = some 1 := by decide +kernel
theorem nodes5_ints : ∀ x ∈ nodes5, IntQ x := fun x hx => fine_int (nodes5_right.1 x hx)
set_option maxRecDepth 100000 in
set_option maxHeartbeats 6400000 in
theorem yalive_any {G : World → Prop} (gK : KeepX G) (cA : YArgsC G) (cR : YRightC G) (cB : YBeginC G) (cQ : YQueryC G) : YAliveC G := by
  intro w hw
  have HG := Lib.hid (fun V (hV : Below w.heap.size w V) => gK.keep hw hV)
  have HQa := Lib.hid (cQ [99, 111, 117, 110, 116, 32, 40, 114, 49, 32, 124, 32, 117, 112, 32, 114, 50, 41] w hw (by decide))
  have HQb := Lib.hid (fun V (hV : Below w.heap.size w V) => cQ [114, 49, 32, 124] V (HG.out V hV) (by decide))
  have HQc := Lib.hid (fun V (hV : Below w.heap.size w V) => cQ [40, 40, 40, 40, 40, 40, 40, 40, 40, 40, 114, 49, 41, 41, 41, 41, 41, 41, 41, 41, 41, 41] V (HG.out V hV) (by decide))
  have HAr := Lib.hid (fun k h1 h2 V (hV : Below w.heap.size w V) => cA k V (HG.out V hV) h1 h2)
  have HRr := Lib.hid (fun m u V (hV : Below w.heap.size w V) hu hm hl => cR m u V (HG.out V hV) hu hm hl)
  have HBr := Lib.hid (fun i v V (hV : Below w.heap.size w V) hv (hi : i < nodes5.length) => cB nodes5 i v V (HG.out V hV) hv nodes5_right hi)
  unfold QryIs at HQa HQb HQc
  rw [query_a] at HQa
  simp only [query_b] at HQb
  simp only [query_c] at HQc
  simp only at HQa
  clear gK cA cR cB cQ hw
  go_enter Tryd.func7, Tryd.ntmps7
  go_wp2_with fail
  refine HQa.out.mono ?_
  rintro e w1 ⟨v1, rfl, hv1, hB1⟩
  have HB1 := Lib.hid hB1
  have HV1 := Lib.hid hv1
  clear hv1 hB1 HQa
  go_wp2_with fail
  refine (HQb.out w1 HB1.out).mono ?_
  rintro e w2 ⟨v2, rfl, -, hB2⟩
  have HB2 := Lib.hid (HB1.out.trans (hB2.mono HB1.out.size))
  have HV1 := Lib.hid (HV1.out.below hB2 (Nat.le_refl _))
  clear hB2 HB1 HQb
  go_wp2_with fail
  refine (HQc.out w2 HB2.out).mono ?_
  rintro e w3 ⟨v3, rfl, -, hB3⟩
  have HB3 := Lib.hid (HB2.out.trans (hB3.mono HB2.out.size))
  have HV1 := Lib.hid (HV1.out.below hB3 (Nat.le_refl _))
  clear hB3 HB2 HQc
  obtain ⟨g, off, cp, hs1, hcp1, hcp2, hg⟩ := HV1.out.shape (by decide)
  have hs5 : v1 = .slice (some ⟨g, off, none⟩) 5 cp := hs1
  clear hs1
  subst hs5
  have h5 : 5 ≤ cp := hcp1
  have hc1 : ¬ cp = 1 := by omega
  have hc2 : (1 : Int) ≤ (cp : Int) := by omega
  have hc3 : (5 : Int) ≤ (cp : Int) := by omega
  clear hcp1 hcp2 hg
  go_upto_region 4 with fail
  go_wp2_with fail
  have HBl := Lib.hid (show NodesAt (w3.alloc (.cells (flatC nodC nodes5).toArray 34)) (.slice (some ⟨w3.heap.size, 0, none⟩) 5 5) nodes5 from SlAt.ofBlk nodC_size (ok := fun _ => True) (Blk.new _ _ _) (by decide) fun _ _ => trivial)
  have HV4 := Lib.hid (HV1.out.below (belowNew w3 (.cells (flatC nodC nodes5).toArray 34)) (Nat.le_refl _))
  have HB4 := Lib.hid (HB3.out.trans ((belowNew w3 (.cells (flatC nodC nodes5).toArray 34)).mono HB3.out.size))
  have HSm := Lib.hid (rqSame_any _ _ nodes5 _ HV4.out HBl.out nodes5_ints)
  have hlit : (flatC nodC nodes5).toArray = #[Value.int .i64 4, .int .i64 1, .int .i64 4, .int .i64 2, .int .i64 6, .int .i64 0, .int .i64 13, .int .i64 0, .int .i64 10, .int .i64 0] := rfl
  rw [hlit] at HSm HBl HV4 HB4
  clear hlit
  generalize w3.alloc (.cells #[Value.int .i64 4, .int .i64 1, .int .i64 4, .int .i64 2, .int .i64 6, .int .i64 0, .int .i64 13, .int .i64 0, .int .i64 10, .int .i64 0] 34) = w4 at *
  refine (HSm.out).mono ?_
  rintro e w5 ⟨rfl, hB5⟩
  have HB5 := Lib.hid (HB4.out.trans (hB5.mono HB4.out.size))
  have HV4 := Lib.hid (HV4.out.below hB5 (Nat.le_refl _))
  clear hB5
  go_wp2_with fail
  refine (HAr.out 12 (by decide) (by decide) w5 HB5.out).mono ?_
  rintro e w6 ⟨rfl, hB6⟩
  have HB6 := Lib.hid (HB5.out.trans (hB6.mono HB5.out.size))
  have HV4 := Lib.hid (HV4.out.below hB6 (Nat.le_refl _))
  clear hB6
  rw [show argN 12 = 2 from rfl]
  go_wp2_with fail
  refine (HAr.out 0 (by decide) (by decide) w6 HB6.out).mono ?_
  rintro e w7 ⟨rfl, hB7⟩
  have HB7 := Lib.hid (HB6.out.trans (hB7.mono HB6.out.size))
  have HV4 := Lib.hid (HV4.out.below hB7 (Nat.le_refl _))
  clear hB7
  rw [show argN 0 = -1 from rfl]
  go_wp2_with fail
  refine (HRr.out nodes5 _ w7 HB7.out HV4.out nodes5_ints (by decide)).mono ?_
  rintro e w8 ⟨b8, rfl, hb, hB8⟩
  obtain rfl : b8 = true := hb.2 nodes5_right
  have HB8 := Lib.hid (HB7.out.trans (hB8.mono HB7.out.size))
  have HV4 := Lib.hid (HV4.out.below hB8 (Nat.le_refl _))
  clear hB8 hb
  go_wp2_with fail
  have HD8 := Lib.hid (show NodesAt w8 (.slice (some ⟨g, off + 1 * 2, none⟩) (5 - 1) (cp - 1)) (nodes5.drop 1) from SlAt.drop HV4.out)
  refine (HRr.out (nodes5.drop 1) _ w8 HB8.out HD8.out (fun x hx => nodes5_ints x (List.mem_of_mem_drop hx)) (by decide)).mono ?_
  rintro e w9 ⟨b9, rfl, hb, hB9⟩
  obtain rfl : b9 = false := by cases b9 with | false => rfl | true => exact absurd (hb.1 rfl) nodes4_not
  have HB9 := Lib.hid (HB8.out.trans (hB9.mono HB8.out.size))
  have HV4 := Lib.hid (HV4.out.below hB9 (Nat.le_refl _))
  clear hB9 hb
  go_wp2_with fail
  refine (HBr.out 3 _ w9 HB9.out HV4.out (by decide)).mono ?_
  rintro e w10 ⟨rfl, hB10⟩
  have HB10 := Lib.hid (HB9.out.trans (hB10.mono HB9.out.size))
  have HV4 := Lib.hid (HV4.out.below hB10 (Nat.le_refl _))
  clear hB10
  rw [nodes5_beg.1, show begI (some 0) = 0 from rfl]
  go_wp2_with fail
  refine (HBr.out 2 _ w10 HB10.out HV4.out (by decide)).mono ?_
  rintro e w11 ⟨rfl, hB11⟩
  have HB11 := Lib.hid (HB10.out.trans (hB11.mono HB10.out.size))
  have HV4 := Lib.hid (HV4.out.below hB11 (Nat.le_refl _))
  clear hB11
  rw [nodes5_beg.2, show begI (some 1) = 1 from rfl]
  go_wp2_with fail
  go_ret
  exact ⟨rfl, HB11.out⟩
end Go.Proofs.YtfhjmhmgkdadhaaDoor

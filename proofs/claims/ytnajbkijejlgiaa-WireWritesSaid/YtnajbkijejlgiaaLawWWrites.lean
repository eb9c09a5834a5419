/-
  The law WireWrites: what is written is as the document says.
-/
import Derived.Test.YtnajbkijejlgiaaPartA
import Derived.Test.YtnajbkijejlgiaaWirB
import Derived.Test.YtnajbkijejlgiaaLate
namespace Go.Proofs.Ytnajbkijejlgiaa
open Go.RowKit

theorem same_foldl (l : List PartM) : ∀ s r : WSt, Same s r → Same (l.foldl wPart s) (l.foldl rPart r) := by
  induction l with
  | nil => intro s r h; exact h
  | cons p l ih => intro s r h; exact ih _ _ (same_part h p)
theorem same_all (l : List PartM) : Same (wAll l) (rAll l) := same_foldl l _ _ Same.refl

set_option maxRecDepth 100000 in
set_option maxHeartbeats 8000000 in
theorem wwrites_near (v : Value) (l : List PartM) (w : World) (h : PartsAt w v l) (hf : farB l = false) : Calls Try.prog 3 #[v] w fun e w' => e = .returned (.bool true) ∧ Below w.heap.size w w' := by
  obtain ⟨h40, hlong⟩ := farB_not hf
  have HF := Lib.hid (far_any v l w h)
  rw [hf] at HF
  obtain ⟨p, cap, rfl, hm, hc⟩ := h
  have HC := Lib.hid hc
  have HG := Lib.hid hlong
  have H1 := Lib.hid (((WAt.new w 30).below (belowNew _ (.cells #[.slice none 0 0, .int .i64 0] 33)) (Nat.le_refl _)))
  have H2 := Lib.hid (show WAt 5 w.heap.size ((w.alloc (.cells #[.slice none 0 0, .int .i64 0] 30)).alloc (.cells #[.slice none 0 0, .int .i64 0] 33)) (w.heap.size + 1) 33 (.slice none 0 0) ([], 0) from ⟨by have := Blk.new (w.alloc (.cells #[.slice none 0 0, .int .i64 0] 30)) #[.slice none 0 0, .int .i64 0] 33; simpa using this, World.ownsRow_nil _ _ _ _, fun e => by cases e⟩)
  have HB0 := Lib.hid ((belowNew w (.cells #[.slice none 0 0, .int .i64 0] 30)).trans ((belowNew (w.alloc (.cells #[.slice none 0 0, .int .i64 0] 30)) (.cells #[.slice none 0 0, .int .i64 0] 33)).mono (by simp)))
  clear hc hlong hf
  go_enter Try.func3, Try.ntmps3
  go_wp2_with fail
  refine HF.out.mono ?_
  rintro e w' ⟨rfl, rfl⟩
  clear HF
  go_wp2_with fail
  go_loopw [5] (fun i wr => ∃ (k : Nat) (v1 v2 : Value), k ≤ l.length ∧ i = .int .i64 k ∧ WAt 5 w.heap.size wr w.heap.size 30 v1 (wAll (l.take k)) ∧ WAt 5 w.heap.size wr (w.heap.size + 1) 33 v2 (rAll (l.take k)) ∧ Apart w.heap.size v1 (w.heap.size + 1) v2 ∧ Below w.heap.size w wr) (fun i _ => l.length - (intOf i).toNat)
  case atStart => exact ⟨0, _, _, Nat.zero_le _, rfl, H1.out, H2.out, ⟨by omega, (fun e => by cases e), (fun e => by cases e), fun _ e => by cases e⟩, HB0.out⟩
  case round =>
    obtain ⟨k, v1, v2, hk, rfl, hW1, hW2, hA, hB⟩ := hrel
    have HW1 := Lib.hid hW1
    have HW2 := Lib.hid hW2
    have HA := Lib.hid hA
    have HB := Lib.hid hB
    have HZ := Lib.hid (wAll_le h40 k)
    have HY := Lib.hid (rAll_le h40 k)
    clear hW1 hW2 hA
    by_cases hlt : k < l.length
    · obtain ⟨b, off, rfl, hb, hcs⟩ := HC.out (by intro e; rw [e] at hlt; simp at hlt)
      obtain ⟨⟨-, hn⟩, c0, c1, c2, c3, c4⟩ := hcs k hlt
      have hs3 := longB_at HG.out k hlt
      have HC4 := Lib.hid (fun V (hV : Below w.heap.size w V) => (hV.cell (p := ⟨b, off + k * 5 + 4, none⟩) hb).trans c4)
      have HC1 := Lib.hid (fun V (hV : Below w.heap.size w V) => (hV.cell (p := ⟨b, off + k * 5 + 1, none⟩) hb).trans c1)
      have HC2 := Lib.hid (fun V (hV : Below w.heap.size w V) => (hV.cell (p := ⟨b, off + k * 5 + 2, none⟩) hb).trans c2)
      replace c0 := (hB.cell (p := ⟨b, off + k * 5, none⟩) hb).trans c0
      have HT := Lib.hid (wAll_take hlt)
      have HU := Lib.hid (rAll_take hlt)
      clear hcs c1 c2 c3 c4 hB
      generalize wAll (l.take k) = s at *
      generalize rAll (l.take k) = r at *
      generalize l[k] = q at *
      obtain ⟨qt, qn, qz, qm, qs⟩ := q
      simp only at c0 hs3 hn
      have d4 := HC4.out wr HB.out
      have d1 := HC1.out wr HB.out
      have d2 := HC2.out wr HB.out
      simp only at d1 d2 d4
      cases qt with
      | true =>
        go_wp2_with fail
        refine (wtext_any w.heap.size w.heap.size _ _ _ qs _ HW1.out HB.out.size (by have := HZ.out; omega) (by omega)).mono ?_
        rintro e w2 ⟨rfl, v3, hT⟩
        have HT1 := Lib.hid hT
        have HO := Lib.hid (hT.other HW2.out HA.out)
        have HB2 := Lib.hid (HB.out.trans (hT.below HW1.out HB.out.size (Nat.le_refl _)))
        clear hT d1 d2 d4 c0
        have d4 := HC4.out w2 HB2.out
        go_wp2_with fail
        refine (rwtext_any w.heap.size _ _ _ _ qs _ HO.out.1 HB2.out.size (by have := HY.out; omega) (by omega)).mono ?_
        rintro e w3 ⟨rfl, v4, hT⟩
        have HT2 := Lib.hid hT
        have HO2 := Lib.hid (hT.other HT1.out.now HO.out.2.symm)
        have HB3 := Lib.hid (HB2.out.trans (hT.below HO.out.1 HB2.out.size (by omega)))
        clear hT d4
        go_wp2_with fail
        go_roundw
        case rel => exact ⟨k + 1, v3, v4, by omega, by go_num, by rw [HT.out, wPart_t rfl]; exact HO2.out.1, by rw [HU.out, rPart_t rfl]; exact HT2.out.now, HO2.out.2.symm, HB3.out⟩
        case measure => simp [intOf]; omega
      | false =>
        go_wp2_with fail
        go_still_tail 10, (by kernel_rfl)
        change wpList _ _ _ _ _ (World.drew _)
        go_wp2_with fail
        refine (wnum_any w.heap.size w.heap.size _ _ _ qn qz _ (HW1.out.below (Below.refl wr.heap.size wr).drew (Nat.le_refl _)) HB.out.size (by have := HZ.out; omega)).mono ?_
        rintro e w2 ⟨rfl, v3, hT⟩
        have hT' := hT.after (Below.refl wr.heap.size wr).drew
        have HT1 := Lib.hid hT'
        have HO := Lib.hid (hT'.other HW2.out HA.out)
        have HB2 := Lib.hid (HB.out.trans (hT'.below HW1.out HB.out.size (Nat.le_refl _)))
        clear hT hT' d1 d2 d4 c0
        have d1 := HC1.out w2 HB2.out
        have d2 := HC2.out w2 HB2.out
        go_wp2_with fail
        go_still_tail 11, (by kernel_rfl)
        change wpList _ _ _ _ _ (World.drew _)
        go_wp2_with fail
        refine (rwnum_any w.heap.size _ _ _ _ qn qz _ (HO.out.1.below (Below.refl w2.heap.size w2).drew (Nat.le_refl _)) HB2.out.size (by have := HY.out; omega) hn).mono ?_
        rintro e w3 ⟨rfl, v4, hT⟩
        have hT' := hT.after (Below.refl w2.heap.size w2).drew
        have HT2 := Lib.hid hT'
        have HO2 := Lib.hid (hT'.other HT1.out.now HO.out.2.symm)
        have HB3 := Lib.hid (HB2.out.trans (hT'.below HO.out.1 HB2.out.size (by omega)))
        clear hT hT' d1 d2
        go_wp2_with fail
        go_roundw
        case rel => exact ⟨k + 1, v3, v4, by omega, by go_num, by rw [HT.out, wPart_f rfl]; exact HO2.out.1, by rw [HU.out, rPart_f rfl]; exact HT2.out.now, HO2.out.2.symm, HB3.out⟩
        case measure => simp [intOf]; omega
    · have hT : l.take k = l := List.take_of_length_le (by omega)
      have HS := Lib.hid (same_all l)
      rw [hT] at HW1 HW2 HZ HY
      clear hT hB
      generalize wAll l = s at *
      generalize rAll l = r at *
      obtain ⟨r1, r2⟩ := r
      obtain ⟨s1, s2⟩ := s
      obtain ⟨hs1, hs2, hs3⟩ := HS.out
      simp only at hs1 hs2
      subst hs1
      have HS2 := Lib.hid hs2
      have HS3 := Lib.hid hs3
      clear hs2 hs3 HS
      go_wp2_with fail
      refine (done_any w.heap.size w.heap.size _ _ _ _ HW1.out (Nat.le_trans HZ.out (by decide))).mono ?_
      rintro e w2 ⟨v3, rfl, hn2, hB2⟩
      obtain ⟨p2, n2, k2, rfl, hb2, hp2⟩ := hn2
      have hW2 := HW2.out.below hB2 (Nat.le_refl _)
      obtain ⟨p3, k3, rfl, hb3⟩ := BsAt.ofRow hW2.row
      have e0 : w2.cell? ⟨w.heap.size + 1, 0, none⟩ = some (.slice p3 r1.length k3) := hW2.blk.cell 0
      have e1 : w2.cell? ⟨w.heap.size + 1, 1, none⟩ = some (.int .i64 s2) := hW2.blk.cell 1
      have hlt3 : w.heap.size + 1 < w2.heap.size := hW2.blk.lt
      have HE0 := Lib.hid (fun V (hV : Below w2.heap.size w2 V) => (hV.cell (p := ⟨w.heap.size + 1, 0, none⟩) hlt3).trans e0)
      have HK2 := Lib.hid (fun V (hV : Below w2.heap.size w2 V) => run_string_bs (P := Try.prog) V 25 5 9 Try.underlying25 Try.underlying5 Try.underlying9 (hb2.below hV (Nat.le_refl _)))
      have HK3 := Lib.hid (fun V (hV : Below w2.heap.size w2 V) => run_string_bs (P := Try.prog) V 25 5 9 Try.underlying25 Try.underlying5 Try.underlying9 (hb3.below hV (Nat.le_refl _)))
      have HL := Lib.hid hb2.same
      have HB2 := Lib.hid (HB.out.trans (hB2.mono HB.out.size))
      clear hB2 hb2 hp2 hb3 hW2 HW1 HW2 HB hlt3 e0 HA
      generalize r1.length = n3 at *
      by_cases he : s2 = 0
      · subst he
        obtain rfl := HS2.out rfl
        clear HS2 HS3
        go_wp2_with fail
        refine wp_region_F (fun V => Below w2.heap.size w2 V) [Fact.is (.int .i64 0), Fact.is (.bool true), Fact.is (.bool true), Fact.is (.slice p2 n2 k2), Fact.is (.string ⟨s1.toArray⟩), Fact.is (.pointer (some ⟨w.heap.size + 1, 0, none⟩)), Fact.is (.pointer (some ⟨w.heap.size + 1, 0, none⟩)), Fact.is (.pointer (some ⟨w.heap.size + 1, 0, none⟩)), Fact.is (.slice p3 n3 k3), Fact.is (.string ⟨s1.toArray⟩), Fact.is (.bool true), Fact.is (.bool true), Fact.is (.bool true), Fact.is undef, Fact.is undef, Fact.is undef, Fact.is undef, Fact.is undef, Fact.is undef, Fact.is undef, Fact.is (.bool true), Fact.is (.bool true), Fact.is (.bool true), Fact.is (.bool true), Fact.is (.bool true)]
          (fun x => { tmps := #[.slice p l.length cap, undef, x 24, .pointer (some ⟨w.heap.size, 0, none⟩), .pointer (some ⟨w.heap.size + 1, 0, none⟩), .int .i64 (k : Int), .slice p2 n2 k2, .int .i64 0, .slice p l.length cap, .bool false, undef, .agg #[.slice none 0 0, .int .i64 0], .pointer (some ⟨w.heap.size + 1, 0, none⟩), .int .i64 (k : Int), .slice p l.length cap, .int .i64 (l.length : Int), .bool false, u17, u18, u19, u20, u21, u22, u23, u24, u25, u26, u27, u28, u29, u30, u31, u32, u33, u34, u35, u36, u37, u38, u39, u40, u41, u42, u43, u44, u45, u46, u47, u48, u49, u50, u51, u52, u53, u54, u55, u56, u57, u58, u59, .tuple #[.slice p2 n2 k2, .int .i64 0], .tuple #[.slice p2 n2 k2, .int .i64 0], .slice p2 n2 k2, .int .i64 0, .int .i64 0, .pointer (some ⟨w.heap.size + 1, 0, none⟩), .pointer (some ⟨w.heap.size + 1, 0, none⟩), .pointer (some ⟨w.heap.size + 1, 1, none⟩), .int .i64 0, .bool false, x 0, x 1, x 2, x 3, x 4, x 5, x 6, x 7, x 8, x 9, x 10, x 11, x 12, x 13, x 14, x 15, x 16, x 17, x 18, x 19, x 20, x 21, x 22, x 23], defers := [] }) (fun i => ([undef, undef, undef, undef, undef, undef, undef, undef, undef, undef, undef, undef, undef, undef, undef, undef, undef, undef, undef, undef, undef, undef, undef, undef, .bool false] : List Value).getD i undef) (by kernel_rfl) rfl rfl (by kernel_rfl) ((Below.refl _ _).drew) (fun u v hu hB => hu.trans (hB.mono hu.size)) ?_ ?_
        · refine ⟨⟨fun x v => rfl, fun x V hC hD => ?_⟩, ?_⟩
          · clear hD
            refine want_yes rfl ?_
            exact leads_value (v := .int .i64 0) (by go_simp) ⟨Below.refl _ _, rfl⟩
          refine ⟨⟨fun x v => rfl, fun x V hC hD => ?_⟩, ?_⟩
          · have e0 : (x 0) = .int .i64 0 := hD.1 rfl
            clear hD
            refine want_yes rfl ?_
            exact leads_value (v := .bool true) (by go_simp) ⟨Below.refl _ _, rfl⟩
          refine ⟨⟨fun x v => rfl, fun x V hC hD => ?_⟩, ?_⟩
          · have e1 : (x 1) = .bool true := hD.1 rfl
            clear hD
            refine want_yes rfl ?_
            exact leads_value (v := .bool true) (by go_simp) ⟨Below.refl _ _, rfl⟩
          refine ⟨⟨fun x v => rfl, fun x V hC hD => ?_⟩, ?_⟩
          · have e2 : (x 2) = .bool true := hD.1 rfl
            clear hD
            refine want_yes (by simp [Region.wanted, yielded, e2]) ?_
            exact leads_value (v := .slice p2 n2 k2) (by go_simp) ⟨Below.refl _ _, rfl⟩
          refine ⟨⟨fun x v => rfl, fun x V hC hD => ?_⟩, ?_⟩
          · have e3 : (x 3) = .slice p2 n2 k2 := hD.1 rfl
            have e2 : (x 2) = .bool true := hD.2.1 rfl
            clear hD
            refine want_yes (by simp [Region.wanted, yielded, e2]) ?_
            have k0 := HK2.out V hC
            exact leads_value (v := .string ⟨s1.toArray⟩) (by go_simp) ⟨Below.refl _ _, rfl⟩
          refine ⟨⟨fun x v => rfl, fun x V hC hD => ?_⟩, ?_⟩
          · have e2 : (x 2) = .bool true := hD.1 rfl
            clear hD
            refine want_yes (by simp [Region.wanted, yielded, e2]) ?_
            exact leads_value (v := .pointer (some ⟨w.heap.size + 1, 0, none⟩)) (by go_simp) ⟨Below.refl _ _, rfl⟩
          refine ⟨⟨fun x v => rfl, fun x V hC hD => ?_⟩, ?_⟩
          · have e5 : (x 5) = .pointer (some ⟨w.heap.size + 1, 0, none⟩) := hD.1 rfl
            have e2 : (x 2) = .bool true := hD.2.1 rfl
            clear hD
            refine want_yes (by simp [Region.wanted, yielded, e2]) ?_
            exact leads_value (v := .pointer (some ⟨w.heap.size + 1, 0, none⟩)) (by go_simp) ⟨Below.refl _ _, rfl⟩
          refine ⟨⟨fun x v => rfl, fun x V hC hD => ?_⟩, ?_⟩
          · have e6 : (x 6) = .pointer (some ⟨w.heap.size + 1, 0, none⟩) := hD.1 rfl
            have e2 : (x 2) = .bool true := hD.2.1 rfl
            clear hD
            refine want_yes (by simp [Region.wanted, yielded, e2]) ?_
            exact leads_value (v := .pointer (some ⟨w.heap.size + 1, 0, none⟩)) (by go_simp) ⟨Below.refl _ _, rfl⟩
          refine ⟨⟨fun x v => rfl, fun x V hC hD => ?_⟩, ?_⟩
          · have e7 : (x 7) = .pointer (some ⟨w.heap.size + 1, 0, none⟩) := hD.1 rfl
            have e2 : (x 2) = .bool true := hD.2.1 rfl
            clear hD
            refine want_yes (by simp [Region.wanted, yielded, e2]) ?_
            have k0 := HE0.out V hC
            exact leads_value (v := .slice p3 n3 k3) (by go_simp) ⟨Below.refl _ _, rfl⟩
          refine ⟨⟨fun x v => rfl, fun x V hC hD => ?_⟩, ?_⟩
          · have e8 : (x 8) = .slice p3 n3 k3 := hD.1 rfl
            have e2 : (x 2) = .bool true := hD.2.1 rfl
            clear hD
            refine want_yes (by simp [Region.wanted, yielded, e2]) ?_
            have k0 := HK3.out V hC
            exact leads_value (v := .string ⟨s1.toArray⟩) (by go_simp) ⟨Below.refl _ _, rfl⟩
          refine ⟨⟨fun x v => rfl, fun x V hC hD => ?_⟩, ?_⟩
          · have e4 : (x 4) = .string ⟨s1.toArray⟩ := hD.1 rfl
            have e9 : (x 9) = .string ⟨s1.toArray⟩ := hD.2.1 rfl
            have e2 : (x 2) = .bool true := hD.2.2.1 rfl
            clear hD
            refine want_yes (by simp [Region.wanted, yielded, e2]) ?_
            exact leads_value (v := .bool true) (by go_simp) ⟨Below.refl _ _, rfl⟩
          refine ⟨⟨fun x v => rfl, fun x V hC hD => ?_⟩, ?_⟩
          · have e2 : (x 2) = .bool true := hD.1 rfl
            have e10 : (x 10) = .bool true := hD.2.1 rfl
            clear hD
            refine want_yes rfl ?_
            exact leads_value (v := .bool true) (by go_simp) ⟨Below.refl _ _, rfl⟩
          refine ⟨⟨fun x v => rfl, fun x V hC hD => ?_⟩, ?_⟩
          · have e11 : (x 11) = .bool true := hD.1 rfl
            have e2 : (x 2) = .bool true := hD.2.1 rfl
            clear hD
            refine want_yes rfl ?_
            exact leads_value (v := .bool true) (by go_simp) ⟨Below.refl _ _, rfl⟩
          refine ⟨⟨fun x v => rfl, fun x V hC hD => ?_⟩, ?_⟩
          · have e12 : (x 12) = .bool true := hD.1 rfl
            clear hD
            exact want_no (by simp [Region.wanted, yielded, e12]) rfl
          refine ⟨⟨fun x v => rfl, fun x V hC hD => ?_⟩, ?_⟩
          · have e13 : (x 13) = undef := hD.1 rfl
            have e12 : (x 12) = .bool true := hD.2.1 rfl
            clear hD
            exact want_no (by simp [Region.wanted, yielded, e12]) rfl
          refine ⟨⟨fun x v => rfl, fun x V hC hD => ?_⟩, ?_⟩
          · have e14 : (x 14) = undef := hD.1 rfl
            have e12 : (x 12) = .bool true := hD.2.1 rfl
            clear hD
            exact want_no (by simp [Region.wanted, yielded, e12]) rfl
          refine ⟨⟨fun x v => rfl, fun x V hC hD => ?_⟩, ?_⟩
          · have e15 : (x 15) = undef := hD.1 rfl
            clear hD
            exact want_no (by simp [Region.wanted, yielded, e15, undef]) rfl
          refine ⟨⟨fun x v => rfl, fun x V hC hD => ?_⟩, ?_⟩
          · have e16 : (x 16) = undef := hD.1 rfl
            have e15 : (x 15) = undef := hD.2.1 rfl
            clear hD
            exact want_no (by simp [Region.wanted, yielded, e15, undef]) rfl
          refine ⟨⟨fun x v => rfl, fun x V hC hD => ?_⟩, ?_⟩
          · have e17 : (x 17) = undef := hD.1 rfl
            have e15 : (x 15) = undef := hD.2.1 rfl
            clear hD
            exact want_no (by simp [Region.wanted, yielded, e15, undef]) rfl
          refine ⟨⟨fun x v => rfl, fun x V hC hD => ?_⟩, ?_⟩
          · have e15 : (x 15) = undef := hD.1 rfl
            have e18 : (x 18) = undef := hD.2.1 rfl
            have e12 : (x 12) = .bool true := hD.2.2.1 rfl
            clear hD
            exact want_no (by simp [Region.wanted, yielded, e12]) rfl
          refine ⟨⟨fun x v => rfl, fun x V hC hD => ?_⟩, ?_⟩
          · have e12 : (x 12) = .bool true := hD.1 rfl
            have e19 : (x 19) = undef := hD.2.1 rfl
            clear hD
            refine want_yes rfl ?_
            exact leads_value (v := .bool true) (by go_simp) ⟨Below.refl _ _, rfl⟩
          refine ⟨⟨fun x v => rfl, fun x V hC hD => ?_⟩, ?_⟩
          · have e20 : (x 20) = .bool true := hD.1 rfl
            have e15 : (x 15) = undef := hD.2.1 rfl
            clear hD
            refine want_yes rfl ?_
            exact leads_value (v := .bool true) (by go_simp) ⟨Below.refl _ _, rfl⟩
          refine ⟨⟨fun x v => rfl, fun x V hC hD => ?_⟩, ?_⟩
          · have e21 : (x 21) = .bool true := hD.1 rfl
            clear hD
            refine want_yes (by simp [Region.wanted, yielded, e21]) ?_
            exact leads_enter2 (by go_simp) ((wireAlive_any V).mono fun e w'' ⟨he, hB⟩ => ⟨_, he, hB, rfl⟩)
          refine ⟨⟨fun x v => rfl, fun x V hC hD => ?_⟩, ?_⟩
          · have e21 : (x 21) = .bool true := hD.1 rfl
            have e22 : (x 22) = .bool true := hD.2.1 rfl
            clear hD
            refine want_yes rfl ?_
            exact leads_value (v := .bool true) (by go_simp) ⟨Below.refl _ _, rfl⟩
          refine ⟨⟨fun x v => rfl, fun x V hC hD => ?_⟩, ?_⟩
          · have e23 : (x 23) = .bool true := hD.1 rfl
            have e22 : (x 22) = .bool true := hD.2.1 rfl
            have e0 : (x 0) = .int .i64 0 := hD.2.2.1 rfl
            have e1 : (x 1) = .bool true := hD.2.2.2.1 rfl
            have e2 : (x 2) = .bool true := hD.2.2.2.2.1 rfl
            have e3 : (x 3) = .slice p2 n2 k2 := hD.2.2.2.2.2.1 rfl
            have e4 : (x 4) = .string ⟨s1.toArray⟩ := hD.2.2.2.2.2.2.1 rfl
            have e5 : (x 5) = .pointer (some ⟨w.heap.size + 1, 0, none⟩) := hD.2.2.2.2.2.2.2.1 rfl
            have e6 : (x 6) = .pointer (some ⟨w.heap.size + 1, 0, none⟩) := hD.2.2.2.2.2.2.2.2.1 rfl
            have e7 : (x 7) = .pointer (some ⟨w.heap.size + 1, 0, none⟩) := hD.2.2.2.2.2.2.2.2.2.1 rfl
            have e8 : (x 8) = .slice p3 n3 k3 := hD.2.2.2.2.2.2.2.2.2.2.1 rfl
            have e9 : (x 9) = .string ⟨s1.toArray⟩ := hD.2.2.2.2.2.2.2.2.2.2.2.1 rfl
            have e10 : (x 10) = .bool true := hD.2.2.2.2.2.2.2.2.2.2.2.2.1 rfl
            have e11 : (x 11) = .bool true := hD.2.2.2.2.2.2.2.2.2.2.2.2.2.1 rfl
            have e12 : (x 12) = .bool true := hD.2.2.2.2.2.2.2.2.2.2.2.2.2.2.1 rfl
            have e13 : (x 13) = undef := hD.2.2.2.2.2.2.2.2.2.2.2.2.2.2.2.1 rfl
            have e14 : (x 14) = undef := hD.2.2.2.2.2.2.2.2.2.2.2.2.2.2.2.2.1 rfl
            have e15 : (x 15) = undef := hD.2.2.2.2.2.2.2.2.2.2.2.2.2.2.2.2.2.1 rfl
            have e16 : (x 16) = undef := hD.2.2.2.2.2.2.2.2.2.2.2.2.2.2.2.2.2.2.1 rfl
            have e17 : (x 17) = undef := hD.2.2.2.2.2.2.2.2.2.2.2.2.2.2.2.2.2.2.2.1 rfl
            have e18 : (x 18) = undef := hD.2.2.2.2.2.2.2.2.2.2.2.2.2.2.2.2.2.2.2.2.1 rfl
            have e19 : (x 19) = undef := hD.2.2.2.2.2.2.2.2.2.2.2.2.2.2.2.2.2.2.2.2.2.1 rfl
            have e20 : (x 20) = .bool true := hD.2.2.2.2.2.2.2.2.2.2.2.2.2.2.2.2.2.2.2.2.2.2.1 rfl
            have e21 : (x 21) = .bool true := hD.2.2.2.2.2.2.2.2.2.2.2.2.2.2.2.2.2.2.2.2.2.2.2.1 rfl
            clear hD
            refine want_yes rfl ?_
            exact leads_value (v := .bool true) (by go_simp) ⟨Below.refl _ _, rfl⟩
          trivial
        · intro x V hC hF
          have e23 : x 23 = .bool true := hF 23 (by simp)
          have e24 : x 24 = .bool true := hF 24 (by simp)
          have HCC := Lib.hid (HB2.out.trans (hC.mono HB2.out.size))
          clear hF hC
          rw [e24]
          clear e23 e24
          go_wp2_with fail
          go_ret
          exact ⟨rfl, HCC.out⟩
      · have hb0 : (s2 != 0) = true := by simpa using he
        have hb1 : (s2 == 0) = false := by simpa using he
        have hn0 : n2 = 0 := by rw [HL.out, HS3.out he]; rfl
        clear HS2 he HL
        subst hn0
        go_wp2_with fail
        refine wp_region_F (fun V => Below w2.heap.size w2 V) [Fact.is (.int .i64 s2), Fact.is (.bool false), Fact.is (.bool false), Fact.is undef, Fact.is undef, Fact.is undef, Fact.is undef, Fact.is undef, Fact.is undef, Fact.is undef, Fact.is undef, Fact.is (.bool false), Fact.is (.bool false), Fact.is (.int .i64 s2), Fact.is (.bool true), Fact.is (.bool true), Fact.is (.slice p2 0 k2), Fact.is (.int .i64 0), Fact.is (.bool true), Fact.is (.bool true), Fact.is (.bool true), Fact.is (.bool true), Fact.is (.bool true), Fact.is (.bool true), Fact.is (.bool true)]
          (fun x => { tmps := #[.slice p l.length cap, undef, x 24, .pointer (some ⟨w.heap.size, 0, none⟩), .pointer (some ⟨w.heap.size + 1, 0, none⟩), .int .i64 (k : Int), .slice p2 0 k2, .int .i64 s2, .slice p l.length cap, .bool false, undef, .agg #[.slice none 0 0, .int .i64 0], .pointer (some ⟨w.heap.size + 1, 0, none⟩), .int .i64 (k : Int), .slice p l.length cap, .int .i64 (l.length : Int), .bool false, u17, u18, u19, u20, u21, u22, u23, u24, u25, u26, u27, u28, u29, u30, u31, u32, u33, u34, u35, u36, u37, u38, u39, u40, u41, u42, u43, u44, u45, u46, u47, u48, u49, u50, u51, u52, u53, u54, u55, u56, u57, u58, u59, .tuple #[.slice p2 0 k2, .int .i64 s2], .tuple #[.slice p2 0 k2, .int .i64 s2], .slice p2 0 k2, .int .i64 s2, .int .i64 s2, .pointer (some ⟨w.heap.size + 1, 0, none⟩), .pointer (some ⟨w.heap.size + 1, 0, none⟩), .pointer (some ⟨w.heap.size + 1, 1, none⟩), .int .i64 s2, .bool false, x 0, x 1, x 2, x 3, x 4, x 5, x 6, x 7, x 8, x 9, x 10, x 11, x 12, x 13, x 14, x 15, x 16, x 17, x 18, x 19, x 20, x 21, x 22, x 23], defers := [] }) (fun i => ([undef, undef, undef, undef, undef, undef, undef, undef, undef, undef, undef, undef, undef, undef, undef, undef, undef, undef, undef, undef, undef, undef, undef, undef, .bool false] : List Value).getD i undef) (by kernel_rfl) rfl rfl (by kernel_rfl) ((Below.refl _ _).drew) (fun u v hu hB => hu.trans (hB.mono hu.size)) ?_ ?_
        · refine ⟨⟨fun x v => rfl, fun x V hC hD => ?_⟩, ?_⟩
          · clear hD
            refine want_yes rfl ?_
            exact leads_value (v := .int .i64 s2) (by go_simp) ⟨Below.refl _ _, rfl⟩
          refine ⟨⟨fun x v => rfl, fun x V hC hD => ?_⟩, ?_⟩
          · have e0 : (x 0) = .int .i64 s2 := hD.1 rfl
            clear hD
            refine want_yes rfl ?_
            exact leads_value (v := .bool false) (by go_simp) ⟨Below.refl _ _, rfl⟩
          refine ⟨⟨fun x v => rfl, fun x V hC hD => ?_⟩, ?_⟩
          · have e1 : (x 1) = .bool false := hD.1 rfl
            clear hD
            refine want_yes rfl ?_
            exact leads_value (v := .bool false) (by go_simp) ⟨Below.refl _ _, rfl⟩
          refine ⟨⟨fun x v => rfl, fun x V hC hD => ?_⟩, ?_⟩
          · have e2 : (x 2) = .bool false := hD.1 rfl
            clear hD
            exact want_no (by simp [Region.wanted, yielded, e2]) rfl
          refine ⟨⟨fun x v => rfl, fun x V hC hD => ?_⟩, ?_⟩
          · have e3 : (x 3) = undef := hD.1 rfl
            have e2 : (x 2) = .bool false := hD.2.1 rfl
            clear hD
            exact want_no (by simp [Region.wanted, yielded, e2]) rfl
          refine ⟨⟨fun x v => rfl, fun x V hC hD => ?_⟩, ?_⟩
          · have e2 : (x 2) = .bool false := hD.1 rfl
            clear hD
            exact want_no (by simp [Region.wanted, yielded, e2]) rfl
          refine ⟨⟨fun x v => rfl, fun x V hC hD => ?_⟩, ?_⟩
          · have e5 : (x 5) = undef := hD.1 rfl
            have e2 : (x 2) = .bool false := hD.2.1 rfl
            clear hD
            exact want_no (by simp [Region.wanted, yielded, e2]) rfl
          refine ⟨⟨fun x v => rfl, fun x V hC hD => ?_⟩, ?_⟩
          · have e6 : (x 6) = undef := hD.1 rfl
            have e2 : (x 2) = .bool false := hD.2.1 rfl
            clear hD
            exact want_no (by simp [Region.wanted, yielded, e2]) rfl
          refine ⟨⟨fun x v => rfl, fun x V hC hD => ?_⟩, ?_⟩
          · have e7 : (x 7) = undef := hD.1 rfl
            have e2 : (x 2) = .bool false := hD.2.1 rfl
            clear hD
            exact want_no (by simp [Region.wanted, yielded, e2]) rfl
          refine ⟨⟨fun x v => rfl, fun x V hC hD => ?_⟩, ?_⟩
          · have e8 : (x 8) = undef := hD.1 rfl
            have e2 : (x 2) = .bool false := hD.2.1 rfl
            clear hD
            exact want_no (by simp [Region.wanted, yielded, e2]) rfl
          refine ⟨⟨fun x v => rfl, fun x V hC hD => ?_⟩, ?_⟩
          · have e4 : (x 4) = undef := hD.1 rfl
            have e9 : (x 9) = undef := hD.2.1 rfl
            have e2 : (x 2) = .bool false := hD.2.2.1 rfl
            clear hD
            exact want_no (by simp [Region.wanted, yielded, e2]) rfl
          refine ⟨⟨fun x v => rfl, fun x V hC hD => ?_⟩, ?_⟩
          · have e2 : (x 2) = .bool false := hD.1 rfl
            have e10 : (x 10) = undef := hD.2.1 rfl
            clear hD
            refine want_yes rfl ?_
            exact leads_value (v := .bool false) (by go_simp) ⟨Below.refl _ _, rfl⟩
          refine ⟨⟨fun x v => rfl, fun x V hC hD => ?_⟩, ?_⟩
          · have e11 : (x 11) = .bool false := hD.1 rfl
            have e2 : (x 2) = .bool false := hD.2.1 rfl
            clear hD
            refine want_yes rfl ?_
            exact leads_value (v := .bool false) (by go_simp) ⟨Below.refl _ _, rfl⟩
          refine ⟨⟨fun x v => rfl, fun x V hC hD => ?_⟩, ?_⟩
          · have e12 : (x 12) = .bool false := hD.1 rfl
            clear hD
            refine want_yes (by simp [Region.wanted, yielded, e12]) ?_
            exact leads_value (v := .int .i64 s2) (by go_simp) ⟨Below.refl _ _, rfl⟩
          refine ⟨⟨fun x v => rfl, fun x V hC hD => ?_⟩, ?_⟩
          · have e13 : (x 13) = .int .i64 s2 := hD.1 rfl
            have e12 : (x 12) = .bool false := hD.2.1 rfl
            clear hD
            refine want_yes (by simp [Region.wanted, yielded, e12]) ?_
            exact leads_value (v := .bool true) (by go_simp) ⟨Below.refl _ _, rfl⟩
          refine ⟨⟨fun x v => rfl, fun x V hC hD => ?_⟩, ?_⟩
          · have e14 : (x 14) = .bool true := hD.1 rfl
            have e12 : (x 12) = .bool false := hD.2.1 rfl
            clear hD
            refine want_yes (by simp [Region.wanted, yielded, e12]) ?_
            exact leads_value (v := .bool true) (by go_simp) ⟨Below.refl _ _, rfl⟩
          refine ⟨⟨fun x v => rfl, fun x V hC hD => ?_⟩, ?_⟩
          · have e15 : (x 15) = .bool true := hD.1 rfl
            clear hD
            refine want_yes (by simp [Region.wanted, yielded, e15]) ?_
            exact leads_value (v := .slice p2 0 k2) (by go_simp) ⟨Below.refl _ _, rfl⟩
          refine ⟨⟨fun x v => rfl, fun x V hC hD => ?_⟩, ?_⟩
          · have e16 : (x 16) = .slice p2 0 k2 := hD.1 rfl
            have e15 : (x 15) = .bool true := hD.2.1 rfl
            clear hD
            refine want_yes (by simp [Region.wanted, yielded, e15]) ?_
            exact leads_value (v := .int .i64 0) (by go_simp) ⟨Below.refl _ _, rfl⟩
          refine ⟨⟨fun x v => rfl, fun x V hC hD => ?_⟩, ?_⟩
          · have e17 : (x 17) = .int .i64 0 := hD.1 rfl
            have e15 : (x 15) = .bool true := hD.2.1 rfl
            clear hD
            refine want_yes (by simp [Region.wanted, yielded, e15]) ?_
            exact leads_value (v := .bool true) (by go_simp) ⟨Below.refl _ _, rfl⟩
          refine ⟨⟨fun x v => rfl, fun x V hC hD => ?_⟩, ?_⟩
          · have e15 : (x 15) = .bool true := hD.1 rfl
            have e18 : (x 18) = .bool true := hD.2.1 rfl
            have e12 : (x 12) = .bool false := hD.2.2.1 rfl
            clear hD
            refine want_yes (by simp [Region.wanted, yielded, e12]) ?_
            exact leads_value (v := .bool true) (by go_simp) ⟨Below.refl _ _, rfl⟩
          refine ⟨⟨fun x v => rfl, fun x V hC hD => ?_⟩, ?_⟩
          · have e12 : (x 12) = .bool false := hD.1 rfl
            have e19 : (x 19) = .bool true := hD.2.1 rfl
            clear hD
            refine want_yes rfl ?_
            exact leads_value (v := .bool true) (by go_simp) ⟨Below.refl _ _, rfl⟩
          refine ⟨⟨fun x v => rfl, fun x V hC hD => ?_⟩, ?_⟩
          · have e20 : (x 20) = .bool true := hD.1 rfl
            have e15 : (x 15) = .bool true := hD.2.1 rfl
            clear hD
            refine want_yes rfl ?_
            exact leads_value (v := .bool true) (by go_simp) ⟨Below.refl _ _, rfl⟩
          refine ⟨⟨fun x v => rfl, fun x V hC hD => ?_⟩, ?_⟩
          · have e21 : (x 21) = .bool true := hD.1 rfl
            clear hD
            refine want_yes (by simp [Region.wanted, yielded, e21]) ?_
            exact leads_enter2 (by go_simp) ((wireAlive_any V).mono fun e w'' ⟨he, hB⟩ => ⟨_, he, hB, rfl⟩)
          refine ⟨⟨fun x v => rfl, fun x V hC hD => ?_⟩, ?_⟩
          · have e21 : (x 21) = .bool true := hD.1 rfl
            have e22 : (x 22) = .bool true := hD.2.1 rfl
            clear hD
            refine want_yes rfl ?_
            exact leads_value (v := .bool true) (by go_simp) ⟨Below.refl _ _, rfl⟩
          refine ⟨⟨fun x v => rfl, fun x V hC hD => ?_⟩, ?_⟩
          · have e23 : (x 23) = .bool true := hD.1 rfl
            have e22 : (x 22) = .bool true := hD.2.1 rfl
            have e0 : (x 0) = .int .i64 s2 := hD.2.2.1 rfl
            have e1 : (x 1) = .bool false := hD.2.2.2.1 rfl
            have e2 : (x 2) = .bool false := hD.2.2.2.2.1 rfl
            have e3 : (x 3) = undef := hD.2.2.2.2.2.1 rfl
            have e4 : (x 4) = undef := hD.2.2.2.2.2.2.1 rfl
            have e5 : (x 5) = undef := hD.2.2.2.2.2.2.2.1 rfl
            have e6 : (x 6) = undef := hD.2.2.2.2.2.2.2.2.1 rfl
            have e7 : (x 7) = undef := hD.2.2.2.2.2.2.2.2.2.1 rfl
            have e8 : (x 8) = undef := hD.2.2.2.2.2.2.2.2.2.2.1 rfl
            have e9 : (x 9) = undef := hD.2.2.2.2.2.2.2.2.2.2.2.1 rfl
            have e10 : (x 10) = undef := hD.2.2.2.2.2.2.2.2.2.2.2.2.1 rfl
            have e11 : (x 11) = .bool false := hD.2.2.2.2.2.2.2.2.2.2.2.2.2.1 rfl
            have e12 : (x 12) = .bool false := hD.2.2.2.2.2.2.2.2.2.2.2.2.2.2.1 rfl
            have e13 : (x 13) = .int .i64 s2 := hD.2.2.2.2.2.2.2.2.2.2.2.2.2.2.2.1 rfl
            have e14 : (x 14) = .bool true := hD.2.2.2.2.2.2.2.2.2.2.2.2.2.2.2.2.1 rfl
            have e15 : (x 15) = .bool true := hD.2.2.2.2.2.2.2.2.2.2.2.2.2.2.2.2.2.1 rfl
            have e16 : (x 16) = .slice p2 0 k2 := hD.2.2.2.2.2.2.2.2.2.2.2.2.2.2.2.2.2.2.1 rfl
            have e17 : (x 17) = .int .i64 0 := hD.2.2.2.2.2.2.2.2.2.2.2.2.2.2.2.2.2.2.2.1 rfl
            have e18 : (x 18) = .bool true := hD.2.2.2.2.2.2.2.2.2.2.2.2.2.2.2.2.2.2.2.2.1 rfl
            have e19 : (x 19) = .bool true := hD.2.2.2.2.2.2.2.2.2.2.2.2.2.2.2.2.2.2.2.2.2.1 rfl
            have e20 : (x 20) = .bool true := hD.2.2.2.2.2.2.2.2.2.2.2.2.2.2.2.2.2.2.2.2.2.2.1 rfl
            have e21 : (x 21) = .bool true := hD.2.2.2.2.2.2.2.2.2.2.2.2.2.2.2.2.2.2.2.2.2.2.2.1 rfl
            clear hD
            refine want_yes rfl ?_
            exact leads_value (v := .bool true) (by go_simp) ⟨Below.refl _ _, rfl⟩
          trivial
        · intro x V hC hF
          have e24 : x 24 = .bool true := hF 24 (by simp)
          have HCC := Lib.hid (HB2.out.trans (hC.mono HB2.out.size))
          clear hF hC
          rw [e24]
          clear e24
          go_wp2_with fail
          go_ret
          exact ⟨rfl, HCC.out⟩

set_option maxHeartbeats 800000 in
theorem wwrites_any (v : Value) (l : List PartM) (w : World) (h : PartsAt w v l) : Calls Try.prog 3 #[v] w fun e w' => e = .returned (.bool true) ∧ Below w.heap.size w w' := by
  cases hf : farB l with
  | false => exact wwrites_near v l w h hf
  | true =>
    have HF := Lib.hid (far_any v l w h)
    rw [hf] at HF
    clear h hf
    go_enter Try.func3, Try.ntmps3
    go_wp2_with fail
    refine HF.out.mono ?_
    rintro e w' ⟨rfl, rfl⟩
    go_wp2_with fail
    refine (wireAlive_any _).mono ?_
    rintro e w' ⟨rfl, hB⟩
    have HB := Lib.hid hB
    clear hB
    go_wp2_with fail
    go_ret
    exact ⟨rfl, HB.out⟩

end Go.Proofs.Ytnajbkijejlgiaa

/-
  The law LexTells, from the program's contracts.
-/
import Derived.Test.YtcbphjdhafnkmaaDoorLexE
import Derived.Test.YtcbphjdhafnkmaaDoorLexF
import Derived.Test.YtcbphjdhafnkmaaDoorStage
namespace Go.Proofs.YtcbphjdhafnkmaaDoor
open Go.RowKit

/-- What is kept, as memory grows. -/
structure KeepX (G : World → Prop) : Prop where
  keep : ∀ {w w' : World}, G w → Below w.heap.size w w' → G w'
theorem infoLxS (x : Pc × Nat) : (Tryd.prog.info? 32).map (·.size) = some (pieC x).size := by rw [pieC_size]; kernel_rfl
set_option maxRecDepth 100000 in
set_option maxHeartbeats 3200000 in
theorem xtells_any {G : World → Prop} (gK : KeepX G) (cP : LPiecesC G) (hA : LxAliveC G) (s : List UInt8) (w : World) (hw : G w) (hl : s.length ≤ 9223372036854775807) : Calls Tryd.prog 3 #[.string ⟨s.toArray⟩] w fun e w' => e = .returned (.bool true) ∧ Below w.heap.size w w' := by
  have hz : (⟨s.toArray⟩ : ByteArray).size = s.length := by simp [ByteArray.size]
  have HAl := Lib.hid (fun V (hV : Below w.heap.size w V) => hA V (gK.keep hw hV))
  have HP := Lib.hid (cP s w hw hl)
  have HR := Lib.hid (fun V => rlPieces_any s V hl)
  have HSm := Lib.hid (pcsO_small s)
  have HLn := Lib.hid (pcsO_len s)
  clear gK cP hA hw hl
  by_cases h100 : 100 < s.length
  · have d1 : decide ((100 : Int) < (s.length : Int)) = true := by simp; omega
    have d2 : decide (100 < s.length) = true := by simp; omega
    go_enter Tryd.func3, Tryd.ntmps3
    go_wp2_with fail
    refine (HAl.out w (Below.refl _ _)).mono ?_
    rintro e w' ⟨rfl, hB⟩
    go_wp2_with fail
    go_ret
    exact ⟨rfl, hB⟩
  · have d1 : decide ((100 : Int) < (s.length : Int)) = false := by simp; omega
    have d2 : decide (100 < s.length) = false := by simp; omega
    unfold PcsIs at HP HR
    generalize pcsO s = o at *
    obtain ⟨l, at_, er⟩ := o
    go_enter Tryd.func3, Tryd.ntmps3
    go_wp2_with fail
    refine HP.out.mono ?_
    rintro e w1 ⟨v, rfl, hv, hB1⟩
    have HB1 := Lib.hid hB1
    have HV1 := Lib.hid hv
    obtain ⟨p1, c1, rfl, hv'⟩ := hv
    clear hv' hB1
    go_wp2_with fail
    refine (HR.out w1).mono ?_
    rintro e w2 ⟨v, rfl, hv, hB2⟩
    have HB2 := Lib.hid (HB1.out.trans (hB2.mono HB1.out.size))
    have HV1' := Lib.hid (HV1.out.below hB2 (Nat.le_refl _))
    have HV2 := Lib.hid hv
    obtain ⟨p2, c2, rfl, hv'⟩ := hv
    clear hv' hB2 HV1 HB1
    go_wp2_with fail
    go_loopw [9] (fun i V => ∃ k : Nat, k ≤ l.length ∧ i = .int .i64 (k : Int) ∧ Below w2.heap.size w2 V) (fun i _ => l.length - (intOf i).toNat)
    case atStart => exact ⟨0, Nat.zero_le _, rfl, Below.refl _ _⟩
    case round =>
      obtain ⟨k, hk, rfl, hB⟩ := hrel
      have HB := Lib.hid hB
      clear hB
      by_cases hlt : k < l.length
      · have d3 : decide ((k : Int) < (l.length : Int)) = true := by simp; omega
        have d4 : decide (k < l.length) = true := by simpa using hlt
        have hne : l ≠ [] := by intro e; rw [e] at hlt; cases hlt
        have h0 : (0 : Int) ≤ (k : Int) := by omega
        have h3 : (k : Int) < (l.length : Int) := by omega
        have hwk : IntKind.i64.wrap ((k : Int) + 1) = (k : Int) + 1 := by have := HLn.out; rw [IntKind.wrap_i64]; omega
        obtain ⟨g1, o1, k1, e1, -, -, hg1⟩ := HV1'.out.shape hne
        obtain ⟨g2, o2, k2, e2, -, -, hg2⟩ := HV2.out.shape hne
        simp only [Value.slice.injEq] at e1 e2
        obtain ⟨rfl, -, rfl⟩ := e1
        obtain ⟨rfl, -, rfl⟩ := e2
        have HE1 := Lib.hid (fun V (hV : Below w2.heap.size w2 V) => (HV1'.out.elem hlt).2.below hV hg1)
        have HE2 := Lib.hid (fun V (hV : Below w2.heap.size w2 V) => (HV2.out.elem hlt).2.below hV hg2)
        have HX := Lib.hid (HSm.out _ (List.getElem_mem hlt))
        generalize hxx : l[k] = pc at *
        have HKl := Lib.hid hlt
        clear hxx hne hg1 hg2 hlt hk
        go_wp2_with fail
        refine wp_region_S (fun _ V => Below wr.heap.size wr V) 0 [.val (.slice (some ⟨g1, o1, none⟩) l.length c1), .val (.int .i64 (k : Int)), .val (.pointer (some ⟨g1, o1 + k * 4, none⟩)), .val (.agg (pieC pc)), .val (.slice (some ⟨g2, o2, none⟩) l.length c2), .val (.int .i64 (k : Int)), .val (.pointer (some ⟨g2, o2 + k * 4, none⟩)), .val (.agg (pieC pc)), .val (.bool false)]
          (fun x => { tmps := #[.string ⟨s.toArray⟩, undef, u2, .slice (some ⟨g1, o1, none⟩) l.length c1, .int .i64 (at_ : Int), .int .i64 (er : Int), .slice (some ⟨g2, o2, none⟩) l.length c2, .int .i64 (at_ : Int), .int .i64 (er : Int), .int .i64 (k : Int), .string ⟨s.toArray⟩, .int .i64 (s.length : Int), .bool false, undef, .tuple #[.slice (some ⟨g1, o1, none⟩) l.length c1, .int .i64 (at_ : Int), .int .i64 (er : Int)], .string ⟨s.toArray⟩, .tuple #[.slice (some ⟨g1, o1, none⟩) l.length c1, .int .i64 (at_ : Int), .int .i64 (er : Int)], .slice (some ⟨g1, o1, none⟩) l.length c1, .int .i64 (at_ : Int), .int .i64 (er : Int), .tuple #[.slice (some ⟨g2, o2, none⟩) l.length c2, .int .i64 (at_ : Int), .int .i64 (er : Int)], .string ⟨s.toArray⟩, .tuple #[.slice (some ⟨g2, o2, none⟩) l.length c2, .int .i64 (at_ : Int), .int .i64 (er : Int)], .slice (some ⟨g2, o2, none⟩) l.length c2, .int .i64 (at_ : Int), .int .i64 (er : Int), .slice (some ⟨g1, o1, none⟩) l.length c1, .int .i64 (l.length : Int), .slice (some ⟨g2, o2, none⟩) l.length c2, .int .i64 (l.length : Int), .bool false, .bool false, .int .i64 (at_ : Int), .int .i64 (at_ : Int), .bool false, .bool false, .bool false, .int .i64 (er : Int), .int .i64 (er : Int), .bool false, .bool false, .int .i64 (k : Int), .slice (some ⟨g1, o1, none⟩) l.length c1, .int .i64 (l.length : Int), .bool true, u45, u46, x 0, x 1, x 2, x 3, x 4, x 5, x 6, x 7, x 8, undef], defers := [] }) (fun i => ([u47, u48, u49, u50, u51, u52, u53, u54, u55] : List Value).getD i undef) (by kernel_rfl) rfl rfl (by kernel_rfl) (by kernel_rfl) (by kernel_rfl) (by kernel_rfl) ((Below.refl _ wr).drew) ?_ ?_
        · refine ⟨ObS.of_val rfl (fun x v => rfl) (fun x V kst hC hD => ?_), ?_⟩
          · clear hD
            refine want_yes rfl ?_
            exact leads_value (v := .slice (some ⟨g1, o1, none⟩) l.length c1) (by go_simp) ⟨rfl, hC⟩
          refine ⟨ObS.of_val rfl (fun x v => rfl) (fun x V kst hC hD => ?_), ?_⟩
          · clear hD
            refine want_yes rfl ?_
            exact leads_value (v := .int .i64 (k : Int)) (by go_simp) ⟨rfl, hC⟩
          refine ⟨ObS.of_val rfl (fun x v => rfl) (fun x V kst hC hD => ?_), ?_⟩
          · have e0 : x 0 = .slice (some ⟨g1, o1, none⟩) l.length c1 := hD.1 rfl
            have e1 : x 1 = .int .i64 (k : Int) := hD.2.1 rfl
            clear hD
            refine want_yes rfl ?_
            exact leads_value (v := .pointer (some ⟨g1, o1 + k * 4, none⟩)) (by go_simp) ⟨rfl, hC⟩
          refine ⟨ObS.of_val rfl (fun x v => rfl) (fun x V kst hC hD => ?_), ?_⟩
          · have e2 : x 2 = .pointer (some ⟨g1, o1 + k * 4, none⟩) := hD.1 rfl
            clear hD
            refine want_yes rfl ?_
            exact leads_value (exec_load_cells rfl (by exact e2) (HE1.out V (HB.out.trans (hC.mono HB.out.size))) Tryd.underlying32 rfl (infoLxS _)) ⟨rfl, hC⟩
          refine ⟨ObS.of_val rfl (fun x v => rfl) (fun x V kst hC hD => ?_), ?_⟩
          · clear hD
            refine want_yes rfl ?_
            exact leads_value (v := .slice (some ⟨g2, o2, none⟩) l.length c2) (by go_simp) ⟨rfl, hC⟩
          refine ⟨ObS.of_val rfl (fun x v => rfl) (fun x V kst hC hD => ?_), ?_⟩
          · clear hD
            refine want_yes rfl ?_
            exact leads_value (v := .int .i64 (k : Int)) (by go_simp) ⟨rfl, hC⟩
          refine ⟨ObS.of_val rfl (fun x v => rfl) (fun x V kst hC hD => ?_), ?_⟩
          · have e4 : x 4 = .slice (some ⟨g2, o2, none⟩) l.length c2 := hD.1 rfl
            have e5 : x 5 = .int .i64 (k : Int) := hD.2.1 rfl
            clear hD
            refine want_yes rfl ?_
            exact leads_value (v := .pointer (some ⟨g2, o2 + k * 4, none⟩)) (by go_simp) ⟨rfl, hC⟩
          refine ⟨ObS.of_val rfl (fun x v => rfl) (fun x V kst hC hD => ?_), ?_⟩
          · have e6 : x 6 = .pointer (some ⟨g2, o2 + k * 4, none⟩) := hD.1 rfl
            clear hD
            refine want_yes rfl ?_
            exact leads_value (exec_load_cells rfl (by exact e6) (HE2.out V (HB.out.trans (hC.mono HB.out.size))) Tryd.underlying31 rfl (infoPcS _)) ⟨rfl, hC⟩
          refine ⟨ObS.of_val rfl (fun x v => rfl) (fun x V kst hC hD => ?_), ?_⟩
          · have e3 : x 3 = .agg (pieC pc) := hD.1 rfl
            have e7 : x 7 = .agg (pieC pc) := hD.2.1 rfl
            clear hD
            refine want_yes rfl ?_
            exact leads_value (exec_neqLx HX.out rfl (by exact e3) (by exact e7)) ⟨rfl, hC⟩
          trivial
        · intro xa V hC hx
          have e8 : xa 8 = .bool false := hx 8 (by simp)
          have HB3 := Lib.hid (show Below w2.heap.size w2 V from HB.out.trans (hC.mono HB.out.size))
          clear hx hC HB
          rw [e8]
          clear e8
          generalize xa 0 = y47 at *
          generalize xa 1 = y48 at *
          generalize xa 2 = y49 at *
          generalize xa 3 = y50 at *
          generalize xa 4 = y51 at *
          generalize xa 5 = y52 at *
          generalize xa 6 = y53 at *
          generalize xa 7 = y54 at *
          go_wp2_with fail
          go_roundw
          case rel => exact ⟨k + 1, HKl.out, by go_num, HB3.out⟩
          case measure => have := HKl.out; simp [intOf]; omega
      · have d3 : decide ((k : Int) < (l.length : Int)) = false := by simp; omega
        have d4 : decide (k < l.length) = false := by simpa using hlt
        clear hlt hk
        go_wp2_with fail
        refine (HAl.out _ (HB2.out.trans (HB.out.mono HB2.out.size))).mono ?_
        rintro e w' ⟨rfl, hB⟩
        go_wp2_with fail
        go_ret
        have h := HB2.out.trans (HB.out.mono HB2.out.size)
        exact ⟨rfl, h.trans (hB.mono h.size)⟩
end Go.Proofs.YtcbphjdhafnkmaaDoor

/-
  The document's graphs: at, Down, Up, Turn, Cut.
-/
import Derived.Test.YtajilnoebhipbaaDoorGphA
namespace Go.Proofs.YtajilnoebhipbaaDoor
open Go.RowKit

set_option maxHeartbeats 800000 in
theorem raAt_any (f : Nat → Nat) (a b W : Nat) (w : World) (hf : GrOk f) (ha : a < 16) (hW : W < 65536) :
    Calls Tryd.prog 22 #[.agg (grC f), .int .i64 (a : Int), .int .i64 (b : Int), .int .u16 (W : Int)] w fun e w' => e = .returned (.bool (edgeB f W a b)) ∧ Below w.heap.size w w' := by
  have HB := Lib.hid (belowNew w (.cells (grC f) 23))
  have HR := Lib.hid (GRow.new w f)
  have k0 := (GRow.new w f).cell ha
  have H1 := Lib.hid (fun V => gHas_any W a V hW)
  have H2 := Lib.hid (fun V => gHas_any W b V hW)
  have H3 := Lib.hid (fun V => gHas_any (f a) b V (hf a ha))
  have HE := Lib.hid (show edgeB f W a b = (W.testBit a && W.testBit b && (f a).testBit b) from rfl)
  have ha2 : (a : Int) < 16 := by omega
  rw [HE.out]
  clear HE hf hW
  generalize f a = x at *
  cases h1 : W.testBit a with
  | false =>
    rw [h1] at H1
    go_enter Tryd.func22, Tryd.ntmps22
    go_wp2_with fail
    with_reducible refine (H1.out _).mono ?_
    rintro e w1 ⟨rfl, rfl⟩
    go_wp2_with fail
    go_ret
    exact ⟨rfl, HB.out⟩
  | true =>
    rw [h1] at H1
    cases h2 : W.testBit b with
    | false =>
      rw [h2] at H2
      go_enter Tryd.func22, Tryd.ntmps22
      go_wp2_with fail
      with_reducible refine (H1.out _).mono ?_
      rintro e w1 ⟨rfl, rfl⟩
      go_wp2_with fail
      with_reducible refine (H2.out _).mono ?_
      rintro e w1 ⟨rfl, rfl⟩
      go_wp2_with fail
      go_ret
      exact ⟨rfl, HB.out⟩
    | true =>
      rw [h2] at H2
      go_enter Tryd.func22, Tryd.ntmps22
      go_wp2_with fail
      with_reducible refine (H1.out _).mono ?_
      rintro e w1 ⟨rfl, rfl⟩
      go_wp2_with fail
      with_reducible refine (H2.out _).mono ?_
      rintro e w1 ⟨rfl, rfl⟩
      go_wp2_with fail
      with_reducible refine (H3.out _).mono ?_
      rintro e w1 ⟨rfl, rfl⟩
      go_wp2_with fail
      go_ret
      exact ⟨by simp, HB.out⟩
set_option maxHeartbeats 3200000 in
theorem raDown_any (f : Nat → Nat) (s W : Nat) (w : World) (hf : GrOk f) (hs : s < 65536) (hW : W < 65536) :
    Calls Tryd.prog 8 #[.agg (grC f), .int .u16 (s : Int), .int .u16 (W : Int)] w fun e w' => e = .returned (.int .u16 (downN f s W : Nat)) ∧ Below w.heap.size w w' := by
  have HB0 := Lib.hid (belowNew w (.cells (grC f) 23))
  have HR0 := Lib.hid (GRow.new w f)
  have HAnd := Lib.hid (fun V => rAnd_any s W V hs hW)
  have HAt := Lib.hid (fun V a b (ha : a < 16) => raAt_any f a b W V hf ha hW)
  have HN := Lib.hid (show downN f s W = downG f W (s &&& W) 16 from rfl)
  have HL := Lib.hid (and_lt W hs)
  clear hf hs hW
  rw [HN.out]
  clear HN
  generalize s &&& W = o0 at *
  go_enter Tryd.func8, Tryd.ntmps8
  go_wp2_with fail
  with_reducible refine (HAnd.out _).mono ?_
  rintro e w1 ⟨rfl, rfl⟩
  generalize hw1 : w.alloc (.cells (grC f) 23) = w1 at *
  clear hw1 HAnd
  obtain ⟨bg, hbg⟩ : ∃ bg, bg = w.heap.size := ⟨_, rfl⟩
  have HBg := Lib.hid hbg
  rw [← hbg] at HR0 ⊢
  clear hbg
  go_wp2_with fail
  go_loopw [7, 8] (fun o i wr => ∃ k : Nat, k ≤ 16 ∧ i = .int .i64 (k : Int) ∧ o = .int .u16 (downG f W o0 k : Nat) ∧ GRow wr bg f ∧ Below bg w wr) (fun _ i _ => 16 - (intOf i).toNat)
  case atStart => exact ⟨0, by omega, rfl, rfl, HR0.out, by rw [HBg.out]; exact HB0.out⟩
  case round =>
    obtain ⟨k, hk, rfl, rfl, hr, hb⟩ := hrel
    have HR1 := Lib.hid hr
    have HB1 := Lib.hid hb
    have HD1 := Lib.hid (downG_lt (f := f) (W := W) HL.out k)
    have HS1 := Lib.hid (show downG f W o0 (k + 1) = sweepG f W (downG f W o0 k) 16 from rfl)
    clear hr hb HR0 HB0
    by_cases hlt : k < 16
    · have dk : decide ((k : Int) < 16) = true := by simp; omega
      generalize downG f W o0 k = o1 at *
      go_wp2_with fail
      go_loopw [7, 9] (fun o i wr => ∃ a : Nat, a ≤ 16 ∧ i = .int .i64 (a : Int) ∧ o = .int .u16 (sweepG f W o1 a : Nat) ∧ GRow wr bg f ∧ Below bg w wr) (fun _ i _ => 16 - (intOf i).toNat)
      case atStart => exact ⟨0, by omega, rfl, rfl, HR1.out, HB1.out⟩
      case round =>
        obtain ⟨a, ha, rfl, rfl, hr, hb⟩ := hrel
        have HR2 := Lib.hid hr
        have HB2 := Lib.hid hb
        have HD2 := Lib.hid (sweepG_lt (f := f) (W := W) HD1.out a)
        have HS2 := Lib.hid (show sweepG f W o1 (a + 1) = rowG f W (sweepG f W o1 a) a 16 from rfl)
        clear hr hb
        by_cases hla : a < 16
        · have da : decide ((a : Int) < 16) = true := by simp; omega
          generalize sweepG f W o1 a = o2 at *
          go_wp2_with fail
          go_loopw [7, 10] (fun o i wr => ∃ b : Nat, b ≤ 16 ∧ i = .int .i64 (b : Int) ∧ o = .int .u16 (rowG f W o2 a b : Nat) ∧ GRow wr bg f ∧ Below bg w wr) (fun _ i _ => 16 - (intOf i).toNat)
          case atStart => exact ⟨0, by omega, rfl, rfl, HR2.out, HB2.out⟩
          case round =>
            obtain ⟨b, hb, rfl, rfl, hr, hbw⟩ := hrel
            have HR3 := Lib.hid hr
            have HB3 := Lib.hid hbw
            by_cases hlb : b < 16
            · have db : decide ((b : Int) < 16) = true := by simp; omega
              have HD3 := Lib.hid (rowG_lt (f := f) (W := W) (a := a) HD2.out (k := b) (by omega))
              have HS3 := Lib.hid (show rowG f W o2 a (b + 1) = stepG f W (rowG f W o2 a b) a b from rfl)
              generalize rowG f W o2 a b = o3 at *
              have HHas := Lib.hid (gHas_any o3 a wr HD3.out)
              cases h1 : o3.testBit a with
              | false =>
                rw [h1] at HHas
                have HE := Lib.hid (show stepG f W o3 a b = o3 by unfold stepG; rw [h1]; rfl)
                clear hr hbw
                go_wp2_with fail
                with_reducible refine HHas.out.mono ?_
                rintro e wx ⟨rfl, rfl⟩
                go_wp2_with fail
                go_roundw
                case rel => first | exact ⟨b + 1, by omega, by go_num, by rw [HS3.out, HE.out], HR3.out, HB3.out⟩ | ((repeat apply Exists.intro); exact ⟨⟨b + 1, by omega, by go_num, by rw [HS3.out, HE.out], HR3.out, HB3.out⟩, rfl⟩)
                case measure => simp [intOf]; omega
              | true =>
                rw [h1] at HHas
                have HA := Lib.hid (HAt.out wr a b hla)
                cases h2 : edgeB f W a b with
                | false =>
                  rw [h2] at HA
                  have HE := Lib.hid (show stepG f W o3 a b = o3 by unfold stepG; rw [h1, h2]; rfl)
                  clear hr hbw
                  go_wp2_with fail
                  with_reducible refine HHas.out.mono ?_
                  rintro e wx ⟨rfl, rfl⟩
                  go_wp2_with (refine wpList_load_gr rfl _ rfl rfl HR3.out ?_)
                  with_reducible refine HA.out.mono ?_
                  rintro e wx ⟨rfl, hBx⟩
                  have HBx := Lib.hid hBx
                  clear hBx
                  go_wp2_with fail
                  go_roundw
                  case rel => first | exact ⟨b + 1, by omega, by go_num, by rw [HS3.out, HE.out], HR3.out.step HBx.out, HB3.out.trans (HBx.out.mono (by rw [HBg.out]; exact HB3.out.size))⟩ | ((repeat apply Exists.intro); exact ⟨⟨b + 1, by omega, by go_num, by rw [HS3.out, HE.out], HR3.out.step HBx.out, HB3.out.trans (HBx.out.mono (by rw [HBg.out]; exact HB3.out.size))⟩, rfl⟩)
                  case measure => simp [intOf]; omega
                | true =>
                  rw [h2] at HA
                  have HE := Lib.hid (show stepG f W o3 a b = withN o3 b by unfold stepG; rw [h1, h2]; rfl)
                  clear hr hbw
                  go_wp2_with fail
                  with_reducible refine HHas.out.mono ?_
                  rintro e wx ⟨rfl, rfl⟩
                  go_wp2_with (refine wpList_load_gr rfl _ rfl rfl HR3.out ?_)
                  with_reducible refine HA.out.mono ?_
                  rintro e wx ⟨rfl, hBx⟩
                  have HBx := Lib.hid hBx
                  have HWi := Lib.hid (rWith_yes o3 (b : Int) wx HD3.out (by omega) (by omega))
                  clear hBx
                  rw [Int.toNat_natCast] at HWi
                  go_wp2_with fail
                  with_reducible refine HWi.out.mono ?_
                  rintro e wx ⟨rfl, rfl⟩
                  go_wp2_with fail
                  go_roundw
                  case rel => first | exact ⟨b + 1, by omega, by go_num, by rw [HS3.out, HE.out], HR3.out.step HBx.out, HB3.out.trans (HBx.out.mono (by rw [HBg.out]; exact HB3.out.size))⟩ | ((repeat apply Exists.intro); exact ⟨⟨b + 1, by omega, by go_num, by rw [HS3.out, HE.out], HR3.out.step HBx.out, HB3.out.trans (HBx.out.mono (by rw [HBg.out]; exact HB3.out.size))⟩, rfl⟩)
                  case measure => simp [intOf]; omega
            · obtain rfl : b = 16 := by omega
              clear hr hbw
              go_wp2_with fail
              go_roundw
              case rel => first | exact ⟨a + 1, by omega, by go_num, by rw [HS2.out], HR3.out, HB3.out⟩ | ((repeat apply Exists.intro); exact ⟨⟨a + 1, by omega, by go_num, by rw [HS2.out], HR3.out, HB3.out⟩, rfl⟩)
              case measure => simp [intOf]; omega
        · obtain rfl : a = 16 := by omega
          go_wp2_with fail
          go_roundw
          case rel => first | exact ⟨k + 1, by omega, by go_num, by rw [HS1.out], HR2.out, HB2.out⟩ | ((repeat apply Exists.intro); exact ⟨⟨k + 1, by omega, by go_num, by rw [HS1.out], HR2.out, HB2.out⟩, rfl⟩)
          case measure => simp [intOf]; omega
    · obtain rfl : k = 16 := by omega
      go_wp2_with fail
      go_ret
      exact ⟨rfl, by rw [← HBg.out]; exact HB1.out⟩
end Go.Proofs.YtajilnoebhipbaaDoor

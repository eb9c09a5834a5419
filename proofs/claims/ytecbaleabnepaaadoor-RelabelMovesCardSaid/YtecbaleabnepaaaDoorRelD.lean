/-
  The reference's image of a set.
-/
import Derived.Test.YtecbaleabnepaaaDoorRelC
namespace Go.Proofs.YtecbaleabnepaaaDoor
open Go.RowKit

/-- The image so far: all below u, and of u what the tags below t say. -/
def imgTo (f : Nat → Nat) (s u t : Nat) : Nat := setB fun v => (decide (v < u) && hitB f s v) || (decide (v = u) && anyB t fun x => s.testBit x && f x == u)
theorem imgTo_lt (f : Nat → Nat) (s u t : Nat) : imgTo f s u t < 65536 := setB_lt _
theorem imgTo_zero (f : Nat → Nat) (s : Nat) : imgTo f s 0 0 = 0 := setB_zero fun v _ => by simp [anyB_zero]
theorem imgTo_all (f : Nat → Nat) (s : Nat) : imgTo f s 16 0 = imgN f s := setB_congr fun v hv => by simp [anyB_zero, hv]
theorem imgTo_next (f : Nat → Nat) (s u : Nat) : imgTo f s u 16 = imgTo f s (u + 1) 0 := setB_congr fun v _ => by
  rw [anyB_zero, Bool.and_false, Bool.or_false]
  by_cases e : v = u
  · subst e; simp [hitB]
  · simp [e, show v < u + 1 ↔ v < u by omega]
theorem imgTo_yes {f : Nat → Nat} {s u t : Nat} (hu : u < 16) (h1 : s.testBit t = true) (h2 : f t = u) : withN (imgTo f s u t) u = imgTo f s u (t + 1) := setB_add hu fun v _ => by
  rw [anyB_succ]
  by_cases e : v = u
  · subst e; simp [h1, h2]
  · simp [e]
theorem imgTo_no {f : Nat → Nat} {s u t : Nat} (h : ¬ (s.testBit t = true ∧ f t = u)) : imgTo f s u t = imgTo f s u (t + 1) := setB_congr fun v _ => by
  rw [anyB_succ]
  have : (s.testBit t && f t == u) = false := by
    cases hb : s.testBit t
    · rfl
    · have : ¬ f t = u := fun e => h ⟨hb, e⟩
      simp [this]
  rw [this, Bool.or_false]

set_option maxHeartbeats 4000000 in
theorem rrSet_any (f : Nat → Nat) (s : Nat) (hf : MapOk f) (hs : s < 65536) (w : World) :
    Calls Tryd.prog 11 #[.agg (mapC f), .int .u16 s] w fun e w' => e = .returned (.int .u16 (imgN f s : Nat)) ∧ Below w.heap.size w w' := by
  have hB0 := below_one w (.cells (mapC f) 23)
  have r0 := Row.new w f
  have HZ := Lib.hid (imgTo_zero f s)
  have HA := Lib.hid (imgTo_all f s)
  go_enter Tryd.func11, Tryd.ntmps11
  go_wp2_with fail
  generalize (w.alloc _ : World) = w1 at *
  go_loop [5, 6] (fun o i => ∃ u : Nat, u ≤ 16 ∧ i = .int .i64 u ∧ o = .int .u16 (imgTo f s u 0 : Nat)) (fun _ i => 16 - (intOf i).toNat)
  case atStart => exact ⟨0, by omega, rfl, by rw [HZ.out]; rfl⟩
  case round =>
    obtain ⟨u, hu, rfl, rfl⟩ := hrel
    by_cases hlu : u < 16
    · have HN := Lib.hid (imgTo_next f s u)
      go_wp2_with fail
      go_loop [5, 7] (fun o i => ∃ t : Nat, t ≤ 16 ∧ i = .int .i64 t ∧ o = .int .u16 (imgTo f s u t : Nat)) (fun _ i => 16 - (intOf i).toNat)
      case atStart => exact ⟨0, by omega, rfl, rfl⟩
      case round =>
        obtain ⟨t, ht, rfl, rfl⟩ := hrel
        by_cases hlt : t < 16
        · have hL := imgTo_lt f s u t
          have c0 := r0.cell hlt
          have hft := hf t hlt
          cases hb : s.testBit t
          · have HB := Lib.hid (show hasB (s : Int) (t : Int) = false by simpa [hasB] using hb)
            have HS := Lib.hid (imgTo_no (f := f) (s := s) (u := u) (t := t) fun h => by rw [hb] at h; cases h.1)
            generalize imgTo f s u t = S at *
            clear hb
            go_wp2_with fail
            refine (rHas_has s t false hs HB.out _).mono ?_
            rintro e w' ⟨rfl, rfl⟩
            go_wp2_with fail
            go_round
            case rel => exact ⟨t + 1, by omega, by go_num, by rw [HS.out]⟩
            case measure => simp [intOf]; omega
          · have HB := Lib.hid (show hasB (s : Int) (t : Int) = true by simpa [hasB] using hb)
            by_cases he : f t = u
            · have HS := Lib.hid (imgTo_yes (f := f) (s := s) (t := t) hlu hb he)
              generalize imgTo f s u t = S at *
              generalize f t = x at *
              obtain rfl : x = u := he
              clear hb
              go_wp2_with fail
              refine (rHas_has s t true hs HB.out _).mono ?_
              rintro e w' ⟨rfl, rfl⟩
              go_wp2_with fail
              refine (rWith_yes S x _ hL (by omega) (by omega)).mono ?_
              rintro e w' ⟨rfl, rfl⟩
              go_wp2_with fail
              go_round
              case rel => exact ⟨t + 1, by omega, by go_num, by rw [← HS.out]⟩
              case measure => simp [intOf]; omega
            · have HS := Lib.hid (imgTo_no (f := f) (s := s) (u := u) (t := t) fun h => he h.2)
              generalize imgTo f s u t = S at *
              generalize f t = x at *
              have dm : ((x : Int) == (u : Int)) = false := by simp; omega
              clear hb
              go_wp2_with fail
              refine (rHas_has s t true hs HB.out _).mono ?_
              rintro e w' ⟨rfl, rfl⟩
              go_wp2_with fail
              go_round
              case rel => exact ⟨t + 1, by omega, by go_num, by rw [HS.out]⟩
              case measure => simp [intOf]; omega
        · have HK := Lib.hid (show t = 16 by omega)
          go_wp2_with fail
          go_round
          case rel => exact ⟨u + 1, by omega, by go_num, by rw [HK.out, HN.out]⟩
          case measure => simp [intOf]; omega
    · have HK := Lib.hid (show u = 16 by omega)
      go_wp2_with fail
      go_ret
      exact ⟨by rw [HK.out, HA.out]; rfl, hB0⟩

end Go.Proofs.YtecbaleabnepaaaDoor

/-
  The law JournalGens, from the program's contracts.
-/
import Derived.Test.YtlbdpoolhmbgaaaJrnS
import Derived.Test.YtlbdpoolhmbgaaaRowsC
import Derived.Deep.DeepCutAuto
import Derived.LoopTactic
namespace Go.Proofs.Ytlbdpoolhmbgaaa
open Go.RowKit

theorem JW.forget {K : DiskRel} {R : JrnRel} {w : World} {jb db : Nat} {S : DS} {J : JS} {rs ss : List (Value × List (List UInt8))} {V : World} (h : JW K R w jb db S J rs V) (hs : ∀ r ∈ ss, r ∈ rs) : JW K R w jb db S J ss V := by
  obtain ⟨F, h1, h2, h3⟩ := h.ex
  exact ⟨h.below, F, h1, h2, fun r hr => h3 r (hs r hr)⟩
/-- Open, on a disk that is on. -/
theorem JW.openOn {K : DiskRel} {R : JrnRel} {w : World} {jb db : Nat} {S : DS} {J : JS} {rs : List (Value × List (List UInt8))} {V : World} (c : JOpenC K R) (h : JW K R w jb db S J rs V) (g : Nat) (hg : g ≤ 65535) (ho : S.off = false) {l : List (List UInt8)} (hs : stepsL S J.at_ g J.room = l) :
    Calls Try.prog 13 #[ptrV jb, .int .i64 (g : Int)] V fun e w' => ∃ v, e = .returned (.tuple #[v, .int .i64 0]) ∧ JW K R w jb db S ⟨J.at_, J.room, g, l.length⟩ ((v, l) :: rs) w' := by
  obtain ⟨e1, e2, e3⟩ := open_is hg ho hs
  have := h.opens c (g : Int)
  rw [e1, e2, e3] at this
  exact this
set_option maxRecDepth 100000 in
set_option maxHeartbeats 6400000 in
theorem jgens_any (K : DiskRel) (R : JrnRel) (dN : DNewC K) (jN : JNewC K R) (jA : JAddC K R) (jO : JOpenC K R) (jG : JGenC K R) (hA : JAliveC) (v u : Value) (l m : List (List UInt8)) (gen next : Nat) (w : World) (hl : RowsAt w v l) (hm : RowsAt w u m) (hg : gen < 65536) (hn : next < 65536) :
    Calls Try.prog 4 #[v, u, .int .u16 (gen : Int), .int .u16 (next : Int)] w fun e w' => e = .returned (.bool true) ∧ Below w.heap.size w w' := by
  have HLr := Lib.hid hl
  have HMr := Lib.hid hm
  obtain ⟨lp, lc, rfl, ll, lb, lo, lx, ly⟩ := hl.each
  obtain ⟨mp, mc, rfl, ml, mb, mo, mx, my⟩ := hm.each
  have HA := Lib.hid hA
  have HLx := Lib.hid lx
  have HLy := Lib.hid ly
  have HMx := Lib.hid mx
  have HMy := Lib.hid my
  clear hl hm hA lx ly mx my
  by_cases hfar : 10 < l.length ∨ 10 < m.length ∨ gen = next
  · have hc : (10 < l.length) ∨ (¬ 10 < l.length ∧ 10 < m.length) ∨ (¬ 10 < l.length ∧ ¬ 10 < m.length ∧ gen = next) := by omega
    clear hfar HLr HMr HLx HLy HMx HMy
    generalize l.length = a at *
    generalize m.length = b at *
    rcases hc with h1 | ⟨h1, h2⟩ | ⟨h1, h2, rfl⟩
    · go_enter Try.func4, Try.ntmps4
      go_wp2_with fail
      refine (HA.out _).mono ?_
      rintro e w1 ⟨rfl, hB⟩
      have HB := Lib.hid hB
      clear hB
      go_wp2_with fail
      go_ret
      exact ⟨rfl, HB.out⟩
    · go_enter Try.func4, Try.ntmps4
      go_wp2_with fail
      refine (HA.out _).mono ?_
      rintro e w1 ⟨rfl, hB⟩
      have HB := Lib.hid hB
      clear hB
      go_wp2_with fail
      go_ret
      exact ⟨rfl, HB.out⟩
    · go_enter Try.func4, Try.ntmps4
      go_wp2_with fail
      refine (HA.out _).mono ?_
      rintro e w1 ⟨rfl, hB⟩
      have HB := Lib.hid hB
      clear hB
      go_wp2_with fail
      go_ret
      exact ⟨rfl, HB.out⟩
  have h1 : ¬ 10 < l.length := fun h => hfar (.inl h)
  have h2 : ¬ 10 < m.length := fun h => hfar (.inr (.inl h))
  have h3 : ¬ gen = next := fun h => hfar (.inr (.inr h))
  have H10 := Lib.hid (And.intro h1 h2)
  have HNe := Lib.hid h3
  have d3 : ((gen : Int) == (next : Int)) = false := by simp; omega
  have HN : Hid (Calls Try.prog 7 #[.int .i64 20] w fun e w' => ∃ b F, e = .returned (.tuple #[ptrV b, .int .i64 0]) ∧ K.At w' b (DS.new 20) F ∧ (∀ k, F k → w.heap.size ≤ k) ∧ Below w.heap.size w w') := Lib.hid (dN 20 w (by omega) (by omega))
  have hgw : IntKind.i64.wrap (gen : Int) = (gen : Int) := IntWalk.i64_in _ (by omega)
  have hnw : IntKind.i64.wrap (next : Int) = (next : Int) := IntWalk.i64_in _ (by omega)
  obtain ⟨a, ha⟩ : ∃ a, a = l.length := ⟨_, rfl⟩
  obtain ⟨b, hb⟩ : ∃ b, b = m.length := ⟨_, rfl⟩
  have HLa := Lib.hid ha
  have HMb := Lib.hid hb
  rw [← ha] at h1 ll ⊢
  rw [← hb] at h2 ml ⊢
  have d1 : decide ((10 : Int) < (a : Int)) = false := by simp; omega
  have d2 : decide ((10 : Int) < (b : Int)) = false := by simp; omega
  clear hfar h3 ha hb h1 h2
  go_enter Try.func4, Try.ntmps4
  go_wp2_with fail
  refine HN.out.mono ?_
  rintro e V1 ⟨db, D, rfl, hD, hown, hB1⟩
  have HJ : Hid (Calls Try.prog 8 #[ptrV db, .int .i64 0, .int .i64 10] V1 fun e w' => ∃ jb, e = .returned (.tuple #[ptrV jb, .int .i64 0]) ∧ JW K R w jb db (DS.new 20) ⟨0, 10, 0, 0⟩ [] w') := Lib.hid (JW.made jN hD hown hB1 0 10 (by omega) (by omega) (by omega) (by omega))
  clear hD hown hB1 HN
  unfold ptrV at *
  go_wp2_with fail
  refine HJ.out.mono ?_
  rintro e V2 ⟨jb, rfl, hW⟩
  have HW := Lib.hid hW
  clear hW HJ
  unfold ptrV at *
  go_wp2_with fail
  have HO := Lib.hid (HW.out.openOn jO gen (by omega) rfl (NG.new gen).steps)
  refine HO.out.mono ?_
  rintro e V3 ⟨v3, rfl, hW3⟩
  have HW3 := Lib.hid (hW3.forget (ss := []) (fun r hr => by cases hr))
  clear hW3 HO HW
  go_wp2_with fail
  go_loopw [13] (fun i wr => ∃ (k : Nat) (S : DS) (J : JS), k ≤ a ∧ i = .int .i64 k ∧ GI 0 gen l k S J ∧ NG next S ∧ JW K R w jb db S J [] wr) (fun i _ => a - (intOf i).toNat)
  case atStart => exact ⟨0, _, _, Nat.zero_le _, rfl, (NG.new gen).gi (DSOk.new (by omega)) (DS.new_len 20) rfl rfl (Int.le_refl _) l, NG.new next, HW3.out⟩
  case round =>
    obtain ⟨k, S, J, hk, rfl, hG, hNG, hW⟩ := hrel
    have HW := Lib.hid hW
    clear hW HW3
    by_cases hlt : k < a
    · have hk2 : k < l.length := by rw [← HLa.out]; exact hlt
      have hne : l ≠ [] := by intro e; rw [e] at hk2; simp at hk2
      have hp := HLx.out hne
      obtain ⟨q, c, hx⟩ := HLy.out k hk2
      have HX := Lib.hid hx
      have hsm := (hx w (Below.refl _ _)).2.small
      have hle := (hx w (Below.refl _ _)).2.le
      have hn9 : l[k].length ≤ 9223372036854775807 := by unfold maxLen at hsm; omega
      have k0 := (hx wr HW.out.below).1
      have HG := Lib.hid hG
      have HNG := Lib.hid hNG
      obtain ⟨n, hn⟩ : ∃ n, n = l[k].length := ⟨_, rfl⟩
      have HNn := Lib.hid hn
      rw [← hn] at k0 hn9
      subst hp
      clear hx hsm hle hG hNG hn hne
      by_cases h112 : 112 < n
      · have d112 : decide ((112 : Int) < (n : Int)) = true := by simp; omega
        clear h112
        go_wp2_with fail
        refine (HA.out _).mono ?_
        rintro e w1 ⟨rfl, hB⟩
        have HB := Lib.hid (HW.out.below.trans (hB.mono HW.out.below.size))
        clear hB
        go_wp2_with fail
        go_ret
        exact ⟨rfl, HB.out⟩
      · have d112 : decide ((112 : Int) < (n : Int)) = false := by simp; omega
        have hadd := HG.out.add (by omega) (by have := H10.out; omega) hk2 (by have := HNn.out; omega)
        have HAd := Lib.hid hadd
        have hwr := HG.out.wr
        have HC := Lib.hid (HW.out.add jA (by have := H10.out; have := HLa.out; have := HMb.out; omega) (HX.out w (Below.refl _ _)).2 (by have := HNn.out; omega))
        rw [← HNn.out, HAd.out.1] at HC
        clear hadd h112
        go_wp2_with fail
        refine HC.out.mono ?_
        rintro e w1 ⟨rfl, hW1⟩
        have HW1 := Lib.hid hW1
        clear hW1
        go_wp2_with fail
        go_roundw
        case rel => exact ⟨k + 1, _, _, by omega, by go_num, HAd.out.2.1, HAd.out.2.2 next (fun e => HNe.out e.symm) HNG.out, HW1.out⟩
        case measure => simp [intOf]; omega
    · obtain rfl : k = a := by omega
      have HG := Lib.hid hG
      have HNG := Lib.hid hNG
      have hl10 : l.length ≤ 10 := by have := H10.out; omega
      have hJ := hG.j
      have hGa := hG
      rw [HLa.out] at hGa
      have hst := hGa.steps hl10
      have HG2 := Lib.hid hGa
      clear hG hNG hGa hlt
      subst hJ
      have HO1 := Lib.hid (HW.out.openOn jO next (by omega) HG.out.off HNG.out.steps)
      go_wp2_with fail
      refine HO1.out.mono ?_
      rintro e V4 ⟨v4, rfl, hW4⟩
      have HW4 := Lib.hid hW4
      clear hW4 HO1
      have HO2 := Lib.hid (HW4.out.openOn jO gen (by omega) HG.out.off hst)
      go_wp2_with fail
      refine HO2.out.mono ?_
      rintro e V5 ⟨v5, rfl, hW5⟩
      obtain ⟨p4, c4, rfl, -⟩ := hW5.row (v := v4) (l := []) (by simp)
      have HS5 := Lib.hid (rows_same _ _ l l V5 (hW5.row (v := v5) (l := l) (by simp)) (HLr.out.below hW5.below (Nat.le_refl _)))
      rw [show decide (l = l) = true by simp, ← HLa.out] at HS5
      have HW5 := Lib.hid hW5
      clear hW5 HO2 HW4
      go_wp2_with fail
      refine HS5.out.mono ?_
      rintro e V6 ⟨rfl, hB6⟩
      have HW6 := Lib.hid ((HW5.out.step hB6).forget (ss := []) (fun r hr => by cases hr))
      have HO3 := Lib.hid (HW6.out.openOn jO next (by omega) HG.out.off HNG.out.steps)
      clear hB6 HS5 HW5
      go_wp2_with fail
      refine HO3.out.mono ?_
      rintro e V7 ⟨v7, rfl, hW7⟩
      have HW7 := Lib.hid (hW7.forget (ss := []) (fun r hr => by cases hr))
      have hwr0 := HG.out.wr
      clear hW7 HO3 HW6 hst
      go_wp2_with fail
      go_loopw [18] (fun i wr => ∃ (k : Nat) (S : DS) (J : JS), k ≤ b ∧ i = .int .i64 k ∧ GI 20 next m k S J ∧ JW K R w jb db S J [] wr) (fun i _ => b - (intOf i).toNat)
      case atStart => exact ⟨0, _, _, Nat.zero_le _, rfl, HNG.out.gi HG.out.ok HG.out.len HG.out.off HG.out.fuse (by have := H10.out; have := HLa.out; omega) m, HW7.out⟩
      case round =>
        obtain ⟨k, S, J, hk, rfl, hG, hW⟩ := hrel
        have HW := Lib.hid hW
        clear hW HW7 HG HNG HG2
        by_cases hlt : k < b
        · have hk2 : k < m.length := by rw [← HMb.out]; exact hlt
          have hne : m ≠ [] := by intro e; rw [e] at hk2; simp at hk2
          have hp := HMx.out hne
          obtain ⟨q, c, hx⟩ := HMy.out k hk2
          have HX := Lib.hid hx
          have hsm := (hx w (Below.refl _ _)).2.small
          have hle := (hx w (Below.refl _ _)).2.le
          have hn9 : m[k].length ≤ 9223372036854775807 := by unfold maxLen at hsm; omega
          have k0 := (hx wr HW.out.below).1
          have HG := Lib.hid hG
          obtain ⟨n, hn⟩ : ∃ n, n = m[k].length := ⟨_, rfl⟩
          have HNn := Lib.hid hn
          rw [← hn] at k0 hn9
          subst hp
          clear hx hsm hle hG hn hne
          by_cases h112 : 112 < n
          · have d112 : decide ((112 : Int) < (n : Int)) = true := by simp; omega
            clear h112
            go_wp2_with fail
            refine (HA.out _).mono ?_
            rintro e w1 ⟨rfl, hB⟩
            have HB := Lib.hid (HW.out.below.trans (hB.mono HW.out.below.size))
            clear hB
            go_wp2_with fail
            go_ret
            exact ⟨rfl, HB.out⟩
          · have d112 : decide ((112 : Int) < (n : Int)) = false := by simp; omega
            have hadd := HG.out.add (by omega) (by have := H10.out; omega) hk2 (by have := HNn.out; omega)
            have HAd := Lib.hid hadd
            have hwr := HG.out.wr
            have HC := Lib.hid (HW.out.add jA (by have := H10.out; have := HLa.out; have := HMb.out; omega) (HX.out w (Below.refl _ _)).2 (by have := HNn.out; omega))
            rw [← HNn.out, HAd.out.1] at HC
            clear hadd h112
            go_wp2_with fail
            refine HC.out.mono ?_
            rintro e w1 ⟨rfl, hW1⟩
            have HW1 := Lib.hid hW1
            clear hW1
            go_wp2_with fail
            go_roundw
            case rel => exact ⟨k + 1, _, _, by omega, by go_num, HAd.out.2.1, HW1.out⟩
            case measure => simp [intOf]; omega
        · obtain rfl : k = b := by omega
          have HG := Lib.hid hG
          have hm10 : m.length ≤ 10 := by have := H10.out; omega
          have hJ := hG.j
          have hGa := hG
          rw [HMb.out] at hGa
          have hst := hGa.steps hm10
          clear hG hGa hlt
          subst hJ
          have HO1 := Lib.hid (HW.out.openOn jO next (by omega) HG.out.off hst)
          go_wp2_with fail
          refine HO1.out.mono ?_
          rintro e V8 ⟨v8, rfl, hW8⟩
          have HS8 := Lib.hid (rows_same _ _ m m V8 (hW8.row (v := v8) (l := m) (by simp)) (HMr.out.below hW8.below (Nat.le_refl _)))
          rw [show decide (m = m) = true by simp, ← HMb.out] at HS8
          have HW8 := Lib.hid hW8
          clear hW8 HO1 HW
          go_wp2_with fail
          refine HS8.out.mono ?_
          rintro e V9 ⟨rfl, hB9⟩
          have HW9 := Lib.hid (HW8.out.step hB9)
          have HGe := Lib.hid (HW9.out.gen jG)
          clear hB9 HS8 HW8
          go_wp2_with fail
          refine HGe.out.mono ?_
          rintro e V10 ⟨rfl, hW10⟩
          have HB10 := Lib.hid hW10.below
          clear hW10 HGe HW9
          go_wp2_with fail
          refine (HA.out _).mono ?_
          rintro e V11 ⟨rfl, hB11⟩
          have HB11 := Lib.hid (HB10.out.trans (hB11.mono HB10.out.size))
          clear hB11
          go_wp2_with fail
          go_ret
          exact ⟨rfl, HB11.out⟩
end Go.Proofs.Ytlbdpoolhmbgaaa

/-
  The program's Open.
-/
import Derived.Test.YtbmcajhknohhdaaCrcF
import Derived.IntWalk
namespace Go.Proofs.Ytbmcajhknohhdaa
open Go.RowKit

theorem four_bytes {t : List UInt8} (h : t.length = 4) : ∃ a b c d : UInt8, t = [a, b, c, d] := by
  match t, h with
  | [a, b, c, d], _ => exact ⟨a, b, c, d, rfl⟩
/-- The last four bytes as a number: are they the sum of the others? -/
theorem sealed_num {l : List UInt8} {N : Nat} {a b c d : UInt8} (hN : l.length = N + 4) (h : l.drop N = [a, b, c, d]) :
    sealedB l = decide (a.toNat + b.toNat * 256 + c.toNat * 65536 + d.toNat * 16777216 = crcSum (l.take N)) := by
  have e : l.length - 4 = N := by omega
  unfold sealedB
  rw [e, h]
  have ha := a.toNat_lt
  have hb := b.toNat_lt
  have hc := c.toNat_lt
  have hd := d.toNat_lt
  have hx : leN [a, b, c, d] = a.toNat + b.toNat * 256 + c.toNat * 65536 + d.toNat * 16777216 := by simp [leN]; omega
  have hs := crcSum_lt (l.take N)
  rw [show decide (4 ≤ l.length) = true by simp; omega, Bool.true_and, Bool.eq_iff_iff, beq_iff_eq, decide_eq_true_eq, ← hx]
  constructor
  · intro h1; rw [h1, leN_le4 hs]
  · intro h1
    exact leN_inj rfl (by rw [leN_le4 hs]; exact h1)

/-- What Open answers lies in memory made since. -/
def OpenNew (w : World) (t : List UInt8) (e : Ending) (w' : World) : Prop := ∃ p n c, e = .returned (.tuple #[.slice p n c, .int .i64 (openErr t)]) ∧ BsAt w' p n c (openL t) ∧ Below w.heap.size w w' ∧ ∀ a, p = some a → w.heap.size ≤ a.block
set_option maxRecDepth 100000 in
set_option maxHeartbeats 3200000 in
theorem cOpen_new (p : Option Addr) (len cap : Nat) (l : List UInt8) (w : World) (h : BsAt w p len cap l) (hl : l.length ≤ 100000) : Calls Try.prog 72 #[.slice p len cap] w (OpenNew w l) := by
  have hlen := h.same
  subst hlen
  have HH := Lib.hid h
  by_cases h4 : l.length < 4
  · have HR := Lib.hid (show openErr l = 4 ∧ openL l = [] from by
      refine ⟨by unfold openErr; rw [if_pos h4], ?_⟩
      unfold openL sealedB
      rw [if_neg]
      simp; omega)
    clear h
    generalize l.length = M at *
    go_enter Try.func72, Try.ntmps72
    go_wp2_with fail
    refine bodyPost_ret (results_tmp2 rfl _ _ _) rfl ?_
    exact ⟨none, 0, 0, by rw [HR.out.1]; rfl, by rw [HR.out.2]; exact bsAt_nil _, Below.refl _ _, fun _ h => by cases h⟩
  · obtain ⟨N, hN⟩ : ∃ N, l.length = N + 4 := ⟨l.length - 4, by omega⟩
    obtain ⟨a, b, c, d, hd⟩ := four_bytes (t := l.drop N) (by rw [List.length_drop]; omega)
    obtain ⟨g, off, rfl, hg, hcs⟩ : ∃ g off, p = some ⟨g, off, none⟩ ∧ g < w.heap.size ∧ ∀ i, (h : i < l.length) → w.cell? ⟨g, off + i, none⟩ = some (.int .u8 (l[i].toNat : Int)) := by
      rcases h.place with ⟨-, h2⟩ | ⟨h2, -⟩ | ⟨g', off, rfl, h3, h4⟩
      · have := h.le; omega
      · rw [h2] at hN; simp at hN
      · exact ⟨g', off, rfl, h3, h4⟩
    have hget : ∀ i, (hi : i < 4) → l[N + i]'(by omega) = [a, b, c, d][i]'(by simpa using hi) := fun i hi => by
      have : (l.drop N)[i]'(by rw [List.length_drop]; omega) = [a, b, c, d][i]'(by simpa using hi) := by simp only [hd]
      rw [← this, List.getElem_drop]
    have k0 : w.cell? ⟨g, off + N, none⟩ = some (.int .u8 (a.toNat : Int)) := by rw [hcs N (by omega)]; have := hget 0 (by omega); simp at this; rw [this]
    have k1 : w.cell? ⟨g, off + (N + 1), none⟩ = some (.int .u8 (b.toNat : Int)) := by rw [hcs (N + 1) (by omega)]; have := hget 1 (by omega); simp at this; rw [this]
    have k2 : w.cell? ⟨g, off + (N + 2), none⟩ = some (.int .u8 (c.toNat : Int)) := by rw [hcs (N + 2) (by omega)]; have := hget 2 (by omega); simp at this; rw [this]
    have k3 : w.cell? ⟨g, off + (N + 3), none⟩ = some (.int .u8 (d.toNat : Int)) := by rw [hcs (N + 3) (by omega)]; have := hget 3 (by omega); simp at this; rw [this]
    have HSd := Lib.hid (sealed_num hN hd)
    have hb0 := a.toNat_lt
    have hb1 := b.toNat_lt
    have hb2 := c.toNat_lt
    have hb3 := d.toNat_lt
    have hHT := bs_take h (n := N) (by omega)
    have HT := Lib.hid hHT
    have hO : openErr l = if sealedB l then 0 else 18 := by unfold openErr; rw [if_neg h4]
    have hOL : openL l = if sealedB l then l.take N else [] := by unfold openL; rw [show l.length - 4 = N by omega]
    have HO := Lib.hid hO
    have HOL := Lib.hid hOL
    have hTl : (l.take N).length ≤ 100000 := by rw [List.length_take]; omega
    have hTN := Lib.hid (show (l.take N).length = N by rw [List.length_take]; omega)
    clear hget hcs hd hO hOL h hHT
    generalize a.toNat = b0 at *
    generalize b.toNat = b1 at *
    generalize c.toNat = b2 at *
    generalize d.toNat = b3 at *
    generalize l.take N = T at *
    have HJ1 := Lib.hid (u32_or8 (b0 : Int) ((b1 : Int) * 256) (by omega) (by omega) (by omega) (by omega) (by omega))
    have HJ2 := Lib.hid (u32_or16 ((b0 : Int) + (b1 : Int) * 256) ((b2 : Int) * 65536) (by omega) (by omega) (by omega) (by omega) (by omega))
    have HJ3 := Lib.hid (u32_or24 ((b0 : Int) + (b1 : Int) * 256 + (b2 : Int) * 65536) ((b3 : Int) * 16777216) (by omega) (by omega) (by omega) (by omega) (by omega))
    have HC0 := Lib.hid (fun V (hV : Below w.heap.size w V) => (hV.cell (p := ⟨g, off + N, none⟩) hg).trans k0)
    have HC1 := Lib.hid (fun V (hV : Below w.heap.size w V) => (hV.cell (p := ⟨g, off + (N + 1), none⟩) hg).trans k1)
    have HC2 := Lib.hid (fun V (hV : Below w.heap.size w V) => (hV.cell (p := ⟨g, off + (N + 2), none⟩) hg).trans k2)
    have HC3 := Lib.hid (fun V (hV : Below w.heap.size w V) => (hV.cell (p := ⟨g, off + (N + 3), none⟩) hg).trans k3)
    generalize hM : l.length = M at *
    have hMN : (M : Int) - 4 = (N : Int) := by omega
    have hNM : N + 4 ≤ M := by omega
    have HU0 := Lib.hid (u32_wrap_id (b0 : Int) (by omega) (by omega))
    have HU1 := Lib.hid (u32_wrap_id (b1 : Int) (by omega) (by omega))
    have HU2 := Lib.hid (u32_wrap_id (b2 : Int) (by omega) (by omega))
    have HU3 := Lib.hid (u32_wrap_id (b3 : Int) (by omega) (by omega))
    have HV1 := Lib.hid (u32_wrap_id ((b1 : Int) * 256) (by omega) (by omega))
    have HV2 := Lib.hid (u32_wrap_id ((b2 : Int) * 65536) (by omega) (by omega))
    have HV3 := Lib.hid (u32_wrap_id ((b3 : Int) * 16777216) (by omega) (by omega))
    have HA1 := Lib.hid (IntWalk.i64_in ((N : Int) + 1) (by omega))
    have HA2 := Lib.hid (IntWalk.i64_in ((N : Int) + 2) (by omega))
    have HA3 := Lib.hid (IntWalk.i64_in ((N : Int) + 3) (by omega))
    have HI0 := Lib.hid (show (N : Int) < (M : Int) ∧ ¬ M ≤ N from ⟨by omega, by omega⟩)
    have HI1 := Lib.hid (show (0 : Int) ≤ (N : Int) + 1 ∧ (N : Int) + 1 < (M : Int) ∧ ((N : Int) + 1).toNat = N + 1 from ⟨by omega, by omega, by omega⟩)
    have HI2 := Lib.hid (show (0 : Int) ≤ (N : Int) + 2 ∧ (N : Int) + 2 < (M : Int) ∧ ((N : Int) + 2).toNat = N + 2 from ⟨by omega, by omega, by omega⟩)
    have HI3 := Lib.hid (show (0 : Int) ≤ (N : Int) + 3 ∧ (N : Int) + 3 < (M : Int) ∧ ((N : Int) + 3).toNat = N + 3 from ⟨by omega, by omega, by omega⟩)
    clear k0 k1 k2 k3 hN
    have hM2 : ¬ ((M : Int) - 4 < 0) := by omega
    go_enter Try.func72, Try.ntmps72
    go_wp2_with fail
    refine wp_region_S (fun _ V => Below w.heap.size w V) 0 [.val (.slice (some ⟨g, off, none⟩) M cap), .val (.int .i64 (N : Int)), .val (.pointer (some ⟨g, off + N, none⟩)), .val (.int .u8 (b0 : Int)), .val (.int .u32 (b0 : Int)), .val (.slice (some ⟨g, off, none⟩) M cap), .val (.int .i64 (N : Int)), .val (.int .i64 ((N : Int) + 1)), .val (.pointer (some ⟨g, off + (N + 1), none⟩)), .val (.int .u8 (b1 : Int)), .val (.int .u32 (b1 : Int)), .val (.int .u32 ((b1 : Int) * 256)), .val (.int .u32 ((b0 : Int) + (b1 : Int) * 256)), .val (.slice (some ⟨g, off, none⟩) M cap), .val (.int .i64 (N : Int)), .val (.int .i64 ((N : Int) + 2)), .val (.pointer (some ⟨g, off + (N + 2), none⟩)), .val (.int .u8 (b2 : Int)), .val (.int .u32 (b2 : Int)), .val (.int .u32 ((b2 : Int) * 65536)), .val (.int .u32 ((b0 : Int) + (b1 : Int) * 256 + (b2 : Int) * 65536)), .val (.slice (some ⟨g, off, none⟩) M cap), .val (.int .i64 (N : Int)), .val (.int .i64 ((N : Int) + 3)), .val (.pointer (some ⟨g, off + (N + 3), none⟩)), .val (.int .u8 (b3 : Int)), .val (.int .u32 (b3 : Int)), .val (.int .u32 ((b3 : Int) * 16777216)), .val (.int .u32 ((b0 : Int) + (b1 : Int) * 256 + (b2 : Int) * 65536 + (b3 : Int) * 16777216)), .val (.int .u32 ((b0 : Int) + (b1 : Int) * 256 + (b2 : Int) * 65536 + (b3 : Int) * 16777216))]
      (fun x => { tmps := #[.slice (some ⟨g, off, none⟩) M cap, undef, .slice none 0 0, .int .i64 0, .int .i64 (N : Int), x 29, .slice (some ⟨g, off, none⟩) M cap, .int .i64 (M : Int), .int .i64 (N : Int), .int .i64 (N : Int), .bool (decide ((N : Int) < 0)), x 0, x 1, x 2, x 3, x 4, x 5, x 6, x 7, x 8, x 9, x 10, x 11, x 12, x 13, x 14, x 15, x 16, x 17, x 18, x 19, x 20, x 21, x 22, x 23, x 24, x 25, x 26, x 27, x 28, undef, undef, undef, undef, undef, undef, undef, undef, undef, undef, undef], defers := [] }) (fun i => ([undef, undef, undef, undef, undef, undef, undef, undef, undef, undef, undef, undef, undef, undef, undef, undef, undef, undef, undef, undef, undef, undef, undef, undef, undef, undef, undef, undef, undef, undef] : List Value).getD i undef) (by kernel_rfl) rfl rfl (by kernel_rfl) (by kernel_rfl) (by kernel_rfl) (by kernel_rfl) ((Below.refl _ w).drew) ?_ ?_
    · refine ⟨ObS.of_val rfl (fun x v => rfl) (fun x V kst hC hD => ?_), ?_⟩
      · clear hD
        refine want_yes rfl ?_
        exact leads_value (v := .slice (some ⟨g, off, none⟩) M cap) (by go_simp) ⟨rfl, hC⟩
      refine ⟨ObS.of_val rfl (fun x v => rfl) (fun x V kst hC hD => ?_), ?_⟩
      · clear hD
        refine want_yes rfl ?_
        exact leads_value (v := .int .i64 (N : Int)) (by go_simp) ⟨rfl, hC⟩
      refine ⟨ObS.of_val rfl (fun x v => rfl) (fun x V kst hC hD => ?_), ?_⟩
      · have e0 : x 0 = .slice (some ⟨g, off, none⟩) M cap := hD.1 rfl
        have e1 : x 1 = .int .i64 (N : Int) := hD.2.1 rfl
        clear hD
        refine want_yes rfl ?_
        have q0 := HI0.out.1
        have q1 := HI0.out.2
        exact leads_value (v := .pointer (some ⟨g, off + N, none⟩)) (by go_simp) ⟨rfl, hC⟩
      refine ⟨ObS.of_val rfl (fun x v => rfl) (fun x V kst hC hD => ?_), ?_⟩
      · have e2 : x 2 = .pointer (some ⟨g, off + N, none⟩) := hD.1 rfl
        clear hD
        refine want_yes rfl ?_
        have k0 := HC0.out V hC
        exact leads_value (v := .int .u8 (b0 : Int)) (by go_simp) ⟨rfl, hC⟩
      refine ⟨ObS.of_val rfl (fun x v => rfl) (fun x V kst hC hD => ?_), ?_⟩
      · have e3 : x 3 = .int .u8 (b0 : Int) := hD.1 rfl
        clear hD
        refine want_yes rfl ?_
        have q := HU0.out
        exact leads_value (v := .int .u32 (b0 : Int)) (by go_simp) ⟨rfl, hC⟩
      refine ⟨ObS.of_val rfl (fun x v => rfl) (fun x V kst hC hD => ?_), ?_⟩
      · clear hD
        refine want_yes rfl ?_
        exact leads_value (v := .slice (some ⟨g, off, none⟩) M cap) (by go_simp) ⟨rfl, hC⟩
      refine ⟨ObS.of_val rfl (fun x v => rfl) (fun x V kst hC hD => ?_), ?_⟩
      · clear hD
        refine want_yes rfl ?_
        exact leads_value (v := .int .i64 (N : Int)) (by go_simp) ⟨rfl, hC⟩
      refine ⟨ObS.of_val rfl (fun x v => rfl) (fun x V kst hC hD => ?_), ?_⟩
      · have e6 : x 6 = .int .i64 (N : Int) := hD.1 rfl
        clear hD
        refine want_yes rfl ?_
        have q := HA1.out
        exact leads_value (v := .int .i64 ((N : Int) + 1)) (by go_simp) ⟨rfl, hC⟩
      refine ⟨ObS.of_val rfl (fun x v => rfl) (fun x V kst hC hD => ?_), ?_⟩
      · have e5 : x 5 = .slice (some ⟨g, off, none⟩) M cap := hD.1 rfl
        have e7 : x 7 = .int .i64 ((N : Int) + 1) := hD.2.1 rfl
        clear hD
        refine want_yes rfl ?_
        have q0 := HI1.out.1
        have q1 := HI1.out.2.1
        have q2 := HI1.out.2.2
        exact leads_value (v := .pointer (some ⟨g, off + (N + 1), none⟩)) (by go_simp) ⟨rfl, hC⟩
      refine ⟨ObS.of_val rfl (fun x v => rfl) (fun x V kst hC hD => ?_), ?_⟩
      · have e8 : x 8 = .pointer (some ⟨g, off + (N + 1), none⟩) := hD.1 rfl
        clear hD
        refine want_yes rfl ?_
        have k0 := HC1.out V hC
        exact leads_value (v := .int .u8 (b1 : Int)) (by go_simp) ⟨rfl, hC⟩
      refine ⟨ObS.of_val rfl (fun x v => rfl) (fun x V kst hC hD => ?_), ?_⟩
      · have e9 : x 9 = .int .u8 (b1 : Int) := hD.1 rfl
        clear hD
        refine want_yes rfl ?_
        have q := HU1.out
        exact leads_value (v := .int .u32 (b1 : Int)) (by go_simp) ⟨rfl, hC⟩
      refine ⟨ObS.of_val rfl (fun x v => rfl) (fun x V kst hC hD => ?_), ?_⟩
      · have e10 : x 10 = .int .u32 (b1 : Int) := hD.1 rfl
        clear hD
        refine want_yes rfl ?_
        have q := HV1.out
        exact leads_value (v := .int .u32 ((b1 : Int) * 256)) (by go_simp) ⟨rfl, hC⟩
      refine ⟨ObS.of_val rfl (fun x v => rfl) (fun x V kst hC hD => ?_), ?_⟩
      · have e4 : x 4 = .int .u32 (b0 : Int) := hD.1 rfl
        have e11 : x 11 = .int .u32 ((b1 : Int) * 256) := hD.2.1 rfl
        clear hD
        refine want_yes rfl ?_
        have q := HJ1.out
        exact leads_value (v := .int .u32 ((b0 : Int) + (b1 : Int) * 256)) (by go_simp) ⟨rfl, hC⟩
      refine ⟨ObS.of_val rfl (fun x v => rfl) (fun x V kst hC hD => ?_), ?_⟩
      · clear hD
        refine want_yes rfl ?_
        exact leads_value (v := .slice (some ⟨g, off, none⟩) M cap) (by go_simp) ⟨rfl, hC⟩
      refine ⟨ObS.of_val rfl (fun x v => rfl) (fun x V kst hC hD => ?_), ?_⟩
      · clear hD
        refine want_yes rfl ?_
        exact leads_value (v := .int .i64 (N : Int)) (by go_simp) ⟨rfl, hC⟩
      refine ⟨ObS.of_val rfl (fun x v => rfl) (fun x V kst hC hD => ?_), ?_⟩
      · have e14 : x 14 = .int .i64 (N : Int) := hD.1 rfl
        clear hD
        refine want_yes rfl ?_
        have q := HA2.out
        exact leads_value (v := .int .i64 ((N : Int) + 2)) (by go_simp) ⟨rfl, hC⟩
      refine ⟨ObS.of_val rfl (fun x v => rfl) (fun x V kst hC hD => ?_), ?_⟩
      · have e13 : x 13 = .slice (some ⟨g, off, none⟩) M cap := hD.1 rfl
        have e15 : x 15 = .int .i64 ((N : Int) + 2) := hD.2.1 rfl
        clear hD
        refine want_yes rfl ?_
        have q0 := HI2.out.1
        have q1 := HI2.out.2.1
        have q2 := HI2.out.2.2
        exact leads_value (v := .pointer (some ⟨g, off + (N + 2), none⟩)) (by go_simp) ⟨rfl, hC⟩
      refine ⟨ObS.of_val rfl (fun x v => rfl) (fun x V kst hC hD => ?_), ?_⟩
      · have e16 : x 16 = .pointer (some ⟨g, off + (N + 2), none⟩) := hD.1 rfl
        clear hD
        refine want_yes rfl ?_
        have k0 := HC2.out V hC
        exact leads_value (v := .int .u8 (b2 : Int)) (by go_simp) ⟨rfl, hC⟩
      refine ⟨ObS.of_val rfl (fun x v => rfl) (fun x V kst hC hD => ?_), ?_⟩
      · have e17 : x 17 = .int .u8 (b2 : Int) := hD.1 rfl
        clear hD
        refine want_yes rfl ?_
        have q := HU2.out
        exact leads_value (v := .int .u32 (b2 : Int)) (by go_simp) ⟨rfl, hC⟩
      refine ⟨ObS.of_val rfl (fun x v => rfl) (fun x V kst hC hD => ?_), ?_⟩
      · have e18 : x 18 = .int .u32 (b2 : Int) := hD.1 rfl
        clear hD
        refine want_yes rfl ?_
        have q := HV2.out
        exact leads_value (v := .int .u32 ((b2 : Int) * 65536)) (by go_simp) ⟨rfl, hC⟩
      refine ⟨ObS.of_val rfl (fun x v => rfl) (fun x V kst hC hD => ?_), ?_⟩
      · have e12 : x 12 = .int .u32 ((b0 : Int) + (b1 : Int) * 256) := hD.1 rfl
        have e19 : x 19 = .int .u32 ((b2 : Int) * 65536) := hD.2.1 rfl
        clear hD
        refine want_yes rfl ?_
        have q := HJ2.out
        exact leads_value (v := .int .u32 ((b0 : Int) + (b1 : Int) * 256 + (b2 : Int) * 65536)) (by go_simp) ⟨rfl, hC⟩
      refine ⟨ObS.of_val rfl (fun x v => rfl) (fun x V kst hC hD => ?_), ?_⟩
      · clear hD
        refine want_yes rfl ?_
        exact leads_value (v := .slice (some ⟨g, off, none⟩) M cap) (by go_simp) ⟨rfl, hC⟩
      refine ⟨ObS.of_val rfl (fun x v => rfl) (fun x V kst hC hD => ?_), ?_⟩
      · clear hD
        refine want_yes rfl ?_
        exact leads_value (v := .int .i64 (N : Int)) (by go_simp) ⟨rfl, hC⟩
      refine ⟨ObS.of_val rfl (fun x v => rfl) (fun x V kst hC hD => ?_), ?_⟩
      · have e22 : x 22 = .int .i64 (N : Int) := hD.1 rfl
        clear hD
        refine want_yes rfl ?_
        have q := HA3.out
        exact leads_value (v := .int .i64 ((N : Int) + 3)) (by go_simp) ⟨rfl, hC⟩
      refine ⟨ObS.of_val rfl (fun x v => rfl) (fun x V kst hC hD => ?_), ?_⟩
      · have e21 : x 21 = .slice (some ⟨g, off, none⟩) M cap := hD.1 rfl
        have e23 : x 23 = .int .i64 ((N : Int) + 3) := hD.2.1 rfl
        clear hD
        refine want_yes rfl ?_
        have q0 := HI3.out.1
        have q1 := HI3.out.2.1
        have q2 := HI3.out.2.2
        exact leads_value (v := .pointer (some ⟨g, off + (N + 3), none⟩)) (by go_simp) ⟨rfl, hC⟩
      refine ⟨ObS.of_val rfl (fun x v => rfl) (fun x V kst hC hD => ?_), ?_⟩
      · have e24 : x 24 = .pointer (some ⟨g, off + (N + 3), none⟩) := hD.1 rfl
        clear hD
        refine want_yes rfl ?_
        have k0 := HC3.out V hC
        exact leads_value (v := .int .u8 (b3 : Int)) (by go_simp) ⟨rfl, hC⟩
      refine ⟨ObS.of_val rfl (fun x v => rfl) (fun x V kst hC hD => ?_), ?_⟩
      · have e25 : x 25 = .int .u8 (b3 : Int) := hD.1 rfl
        clear hD
        refine want_yes rfl ?_
        have q := HU3.out
        exact leads_value (v := .int .u32 (b3 : Int)) (by go_simp) ⟨rfl, hC⟩
      refine ⟨ObS.of_val rfl (fun x v => rfl) (fun x V kst hC hD => ?_), ?_⟩
      · have e26 : x 26 = .int .u32 (b3 : Int) := hD.1 rfl
        clear hD
        refine want_yes rfl ?_
        have q := HV3.out
        exact leads_value (v := .int .u32 ((b3 : Int) * 16777216)) (by go_simp) ⟨rfl, hC⟩
      refine ⟨ObS.of_val rfl (fun x v => rfl) (fun x V kst hC hD => ?_), ?_⟩
      · have e20 : x 20 = .int .u32 ((b0 : Int) + (b1 : Int) * 256 + (b2 : Int) * 65536) := hD.1 rfl
        have e27 : x 27 = .int .u32 ((b3 : Int) * 16777216) := hD.2.1 rfl
        clear hD
        refine want_yes rfl ?_
        have q := HJ3.out
        exact leads_value (v := .int .u32 ((b0 : Int) + (b1 : Int) * 256 + (b2 : Int) * 65536 + (b3 : Int) * 16777216)) (by go_simp) ⟨rfl, hC⟩
      refine ⟨ObS.of_val rfl (fun x v => rfl) (fun x V kst hC hD => ?_), ?_⟩
      · have e28 : x 28 = .int .u32 ((b0 : Int) + (b1 : Int) * 256 + (b2 : Int) * 65536 + (b3 : Int) * 16777216) := hD.1 rfl
        have e0 : x 0 = .slice (some ⟨g, off, none⟩) M cap := hD.2.1 rfl
        have e1 : x 1 = .int .i64 (N : Int) := hD.2.2.1 rfl
        have e2 : x 2 = .pointer (some ⟨g, off + N, none⟩) := hD.2.2.2.1 rfl
        have e3 : x 3 = .int .u8 (b0 : Int) := hD.2.2.2.2.1 rfl
        have e4 : x 4 = .int .u32 (b0 : Int) := hD.2.2.2.2.2.1 rfl
        have e5 : x 5 = .slice (some ⟨g, off, none⟩) M cap := hD.2.2.2.2.2.2.1 rfl
        have e6 : x 6 = .int .i64 (N : Int) := hD.2.2.2.2.2.2.2.1 rfl
        have e7 : x 7 = .int .i64 ((N : Int) + 1) := hD.2.2.2.2.2.2.2.2.1 rfl
        have e8 : x 8 = .pointer (some ⟨g, off + (N + 1), none⟩) := hD.2.2.2.2.2.2.2.2.2.1 rfl
        have e9 : x 9 = .int .u8 (b1 : Int) := hD.2.2.2.2.2.2.2.2.2.2.1 rfl
        have e10 : x 10 = .int .u32 (b1 : Int) := hD.2.2.2.2.2.2.2.2.2.2.2.1 rfl
        have e11 : x 11 = .int .u32 ((b1 : Int) * 256) := hD.2.2.2.2.2.2.2.2.2.2.2.2.1 rfl
        have e12 : x 12 = .int .u32 ((b0 : Int) + (b1 : Int) * 256) := hD.2.2.2.2.2.2.2.2.2.2.2.2.2.1 rfl
        have e13 : x 13 = .slice (some ⟨g, off, none⟩) M cap := hD.2.2.2.2.2.2.2.2.2.2.2.2.2.2.1 rfl
        have e14 : x 14 = .int .i64 (N : Int) := hD.2.2.2.2.2.2.2.2.2.2.2.2.2.2.2.1 rfl
        have e15 : x 15 = .int .i64 ((N : Int) + 2) := hD.2.2.2.2.2.2.2.2.2.2.2.2.2.2.2.2.1 rfl
        have e16 : x 16 = .pointer (some ⟨g, off + (N + 2), none⟩) := hD.2.2.2.2.2.2.2.2.2.2.2.2.2.2.2.2.2.1 rfl
        have e17 : x 17 = .int .u8 (b2 : Int) := hD.2.2.2.2.2.2.2.2.2.2.2.2.2.2.2.2.2.2.1 rfl
        have e18 : x 18 = .int .u32 (b2 : Int) := hD.2.2.2.2.2.2.2.2.2.2.2.2.2.2.2.2.2.2.2.1 rfl
        have e19 : x 19 = .int .u32 ((b2 : Int) * 65536) := hD.2.2.2.2.2.2.2.2.2.2.2.2.2.2.2.2.2.2.2.2.1 rfl
        have e20 : x 20 = .int .u32 ((b0 : Int) + (b1 : Int) * 256 + (b2 : Int) * 65536) := hD.2.2.2.2.2.2.2.2.2.2.2.2.2.2.2.2.2.2.2.2.2.1 rfl
        have e21 : x 21 = .slice (some ⟨g, off, none⟩) M cap := hD.2.2.2.2.2.2.2.2.2.2.2.2.2.2.2.2.2.2.2.2.2.2.1 rfl
        have e22 : x 22 = .int .i64 (N : Int) := hD.2.2.2.2.2.2.2.2.2.2.2.2.2.2.2.2.2.2.2.2.2.2.2.1 rfl
        have e23 : x 23 = .int .i64 ((N : Int) + 3) := hD.2.2.2.2.2.2.2.2.2.2.2.2.2.2.2.2.2.2.2.2.2.2.2.2.1 rfl
        have e24 : x 24 = .pointer (some ⟨g, off + (N + 3), none⟩) := hD.2.2.2.2.2.2.2.2.2.2.2.2.2.2.2.2.2.2.2.2.2.2.2.2.2.1 rfl
        have e25 : x 25 = .int .u8 (b3 : Int) := hD.2.2.2.2.2.2.2.2.2.2.2.2.2.2.2.2.2.2.2.2.2.2.2.2.2.2.1 rfl
        have e26 : x 26 = .int .u32 (b3 : Int) := hD.2.2.2.2.2.2.2.2.2.2.2.2.2.2.2.2.2.2.2.2.2.2.2.2.2.2.2.1 rfl
        have e27 : x 27 = .int .u32 ((b3 : Int) * 16777216) := hD.2.2.2.2.2.2.2.2.2.2.2.2.2.2.2.2.2.2.2.2.2.2.2.2.2.2.2.2.1 rfl
        clear hD
        refine want_yes rfl ?_
        exact leads_value (v := .int .u32 ((b0 : Int) + (b1 : Int) * 256 + (b2 : Int) * 65536 + (b3 : Int) * 16777216)) (by go_simp) ⟨rfl, hC⟩
      trivial
    · intro xa V hD hx
      have HV := Lib.hid (show Below w.heap.size w V from hD)
      have e29 : xa 29 = .int .u32 ((b0 : Int) + (b1 : Int) * 256 + (b2 : Int) * 65536 + (b3 : Int) * 16777216) := hx 29 (by simp)
      have hX : (b0 : Int) + (b1 : Int) * 256 + (b2 : Int) * 65536 + (b3 : Int) * 16777216 = ((b0 + b1 * 256 + b2 * 65536 + b3 * 16777216 : Nat) : Int) := by omega
      rw [hX] at e29
      have hXl : b0 + b1 * 256 + b2 * 65536 + b3 * 16777216 < 4294967296 := by omega
      clear hx hD hX HJ1 HJ2 HJ3 HC0 HC1 HC2 HC3 HU0 HU1 HU2 HU3 HV1 HV2 HV3 HA1 HA2 HA3 HI0 HI1 HI2 HI3
      generalize b0 + b1 * 256 + b2 * 65536 + b3 * 16777216 = X at *
      have hcap : N ≤ cap := by have := HH.out.le; have := HH.out.same; omega
      have u1 := run_upto V (some ⟨g, off, none⟩) M cap N hcap
      have HSum := Lib.hid (sumOne (HT.out.below HV.out (Nat.le_refl _)) hTl)
      rw [e29]
      clear e29
      go_wp2_with fail
      refine HSum.out.mono ?_
      rintro e w3 ⟨rfl, hB3⟩
      have HB3 := Lib.hid (HV.out.trans (hB3.mono HV.out.size))
      have HT3 := Lib.hid (HT.out.below HB3.out (Nat.le_refl _))
      have hS := crcSum_lt T
      clear hB3 u1
      by_cases hs : X = crcSum T
      · have HE := Lib.hid (show openErr l = 0 ∧ openL l = T from by
          have : sealedB l = true := by rw [HSd.out]; simpa using hs
          refine ⟨by rw [HO.out, if_pos this], by rw [HOL.out, if_pos this]⟩)
        have u3 := run_upto w3 (some ⟨g, off, none⟩) M cap N hcap
        have hq : ([] : List UInt8).length + T.length ≤ 140737488355328 := by simp; omega
        have tok1 : True := trivial
        rw [← hs]
        clear hs HO HOL HSd
        go_wp2_with (at_builtin; have _t := tok1; refine wpList_append_bytes rfl _ _ 31 rfl w.heap.size 5 Try.underlying31 infoU8 (l := []) rfl (World.ownsRow_nil _ _ _ _) rfl HT3.out hq HB3.out.size ?_; intro p5 n5 c5 w5 hrow5 hg5 hn5; have HR5 := Lib.hid hrow5; have HB5 := Lib.hid (HB3.out.grown hg5 HB3.out.size (fun k hk => by cases hk)); clear hrow5 hg5 hn5 tok1)
        refine bodyPost_ret (results_tmp2 rfl _ _ _) rfl ?_
        have hR5 := HR5.out
        rw [List.nil_append] at hR5
        have hown5 : ∀ a, p5 = some a → w.heap.size ≤ a.block := fun a ha => (hR5.lt a.block (by rw [ha]; rfl)).1
        obtain ⟨q, d', e1, hbs⟩ := BsAt.ofRow hR5
        rw [Value.slice.injEq] at e1
        obtain ⟨rfl, rfl, rfl⟩ := e1
        exact ⟨p5, _, c5, by rw [HE.out.1]; rfl, by rw [HE.out.2]; exact hbs, HB5.out, hown5⟩
      · have HE := Lib.hid (show openErr l = 18 ∧ openL l = [] from by
          have : sealedB l = false := by rw [HSd.out]; simpa using hs
          refine ⟨by rw [HO.out, this]; rfl, by rw [HOL.out, this]; rfl⟩)
        have d1 : ((X : Int) == (crcSum T : Nat)) = false := by simp; omega
        clear hs HO HOL HSd
        generalize crcSum T = Y at *
        go_wp2_with fail
        refine bodyPost_ret (results_tmp2 rfl _ _ _) rfl ?_
        exact ⟨none, 0, 0, by rw [HE.out.1]; rfl, by rw [HE.out.2]; exact bsAt_nil _, HB3.out, fun _ h => by cases h⟩
theorem cOpen_any : OpenC := fun p len cap l w h hl => (cOpen_new p len cap l w h hl).mono fun _ _ ⟨q, n, c, he, h1, h2, _⟩ => ⟨q, n, c, he, h1, h2⟩

end Go.Proofs.Ytbmcajhknohhdaa

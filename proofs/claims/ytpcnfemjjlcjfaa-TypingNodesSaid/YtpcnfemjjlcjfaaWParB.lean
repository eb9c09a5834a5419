/-
  The document's Right.
-/
import Derived.Test.YtpcnfemjjlcjfaaWParA
/-! ParB -/
namespace Go.Proofs.Ytpcnfemjjlcjfaa
open Go.RowKit

theorem infoNd (x : Qn) : (Try.prog.info? 36).map (·.size) = some (nodC x).size := by rw [nodC_size]; kernel_rfl
theorem fineQ_iff (x : Qn) : fineQ x ↔ ¬ (argN x.kind < 0 ∨ x.n < 0 ∨ 15 < x.n ∨ (0 < x.n ∧ x.kind ≠ 4 ∧ x.kind ≠ 5)) := by
  unfold fineQ
  constructor
  · rintro ⟨h1, h2, h3, h4⟩ h
    rcases h with h | h | h | ⟨h, h5, h6⟩
    · omega
    · omega
    · omega
    · rcases h4 h with e | e
      · exact h5 e
      · exact h6 e
  · intro h
    refine ⟨by omega, by omega, by omega, fun hp => ?_⟩
    by_cases h4 : x.kind = 4
    · exact .inl h4
    · by_cases h5 : x.kind = 5
      · exact .inr h5
      · exact absurd (.inr (.inr (.inr ⟨hp, h4, h5⟩))) h
set_option maxRecDepth 100000 in
set_option maxHeartbeats 3200000 in
theorem rqRight_any (l : List Qn) (v : Value) (w : World) (hv : NodesAt w v l) (hl : l.length ≤ 1000) : Calls Try.prog 19 #[v] w fun e w' => ∃ b : Bool, e = .returned (.bool b) ∧ (b = true ↔ rightQ l) ∧ Below w.heap.size w w' := by
  have HV := Lib.hid hv
  have HL := Lib.hid hl
  obtain ⟨p, cap, rfl, -, -⟩ := hv
  clear hl
  go_enter Try.func19, Try.ntmps19
  go_wp2_with fail
  go_loopw [3] (fun i V => ∃ k : Nat, k ≤ l.length ∧ i = .int .i64 (k : Int) ∧ (∀ t, (h : t < l.length) → t < k → fineQ l[t]) ∧ Below w.heap.size w V) (fun i _ => l.length - (intOf i).toNat)
  case atStart => exact ⟨0, Nat.zero_le _, rfl, fun t _ h => absurd h (by omega), Below.refl _ _⟩
  case round =>
    obtain ⟨k, hk, rfl, hall, hB⟩ := hrel
    have HB := Lib.hid hB
    have HA := Lib.hid hall
    clear hB hall
    by_cases hlt : k < l.length
    · have d1 : decide ((k : Int) < (l.length : Int)) = true := by simp; omega
      have d2 : decide (k < l.length) = true := by simpa using hlt
      have i0 : (0 : Int) ≤ (k : Int) := by omega
      have i1 : (k : Int) < (l.length : Int) := by omega
      have hw1 : IntKind.i64.wrap ((k : Int) + 1) = (k : Int) + 1 := by have := HL.out; rw [IntKind.wrap_i64]; omega
      obtain ⟨g, off, cap2, e1, -, -, hg⟩ := HV.out.shape (by intro e; rw [e] at hlt; cases hlt)
      simp only [Value.slice.injEq] at e1
      obtain ⟨rfl, -, rfl⟩ := e1
      have HC := Lib.hid (show CellsAt wr g (off + k * 2) (nodC l[k]) from (HV.out.elem hlt).2.below HB.out hg)
      have HKl := Lib.hid hlt
      have HFi := Lib.hid (fineQ_iff l[k])
      have HAr := Lib.hid (fun V => rqArgs_any l[k].kind V)
      have HNx := Lib.hid (show fineQ l[k] → ∀ t, (h : t < l.length) → t < k + 1 → fineQ l[t] from fun hf t h ht => by
        by_cases e : t = k
        · subst e; exact hf
        · exact HA.out t h (by omega))
      have HBad := Lib.hid (show ¬ fineQ l[k] → ¬ rightQ l from fun h hr => h (hr.1 _ (List.getElem_mem hlt)))
      generalize l[k] = x at *
      obtain ⟨kd, n⟩ := x
      clear hg hlt hk HA
      go_upto_region 5 with (first | (refine wpList_load_cells rfl _ _ rfl rfl HC.out Try.underlying36 rfl (infoNd _) ?_) | (refine wpList_store_arr rfl rfl _ _ _ rfl rfl rfl (Blk.new _ _ _) (infoNd _) rfl (nodC_one _) ?_; intro w9 hw9))
      have k0 : w9.cell? ⟨wr.heap.size, 0, none⟩ = some (.int .i64 kd) := (hw9.blk.cell 0).trans rfl
      have HP := Lib.hid hw9
      have HB9 := Lib.hid (show Below w.heap.size w w9 from HB.out.trans (((belowNew wr _).trans (hw9.below (by simp) (Nat.le_refl _))).mono HB.out.size))
      clear hw9 HB HC
      go_wp2_with fail
      refine (HAr.out w9).mono ?_
      rintro e w5 ⟨rfl, hB5⟩
      have HB5 := Lib.hid (HB9.out.trans (hB5.mono HB9.out.size))
      have k1 : w5.cell? ⟨wr.heap.size, 0, none⟩ = some (.int .i64 kd) := ((HP.out.blk.below hB5 HP.out.blk.lt).cell 0).trans rfl
      have k2 : w5.cell? ⟨wr.heap.size, 1, none⟩ = some (.int .i64 n) := ((HP.out.blk.below hB5 HP.out.blk.lt).cell 1).trans rfl
      clear hB5 k0 HP HB9 HAr
      generalize argN kd = A at *
      by_cases c1 : A < 0
      · have b1 : decide (A < 0) = true := by simp; omega
        have HN := Lib.hid (show ¬ rightQ l from HBad.out fun h => HFi.out.1 h (.inl c1))
        clear c1
        go_wp2_with fail
        go_ret
        exact ⟨false, rfl, ⟨fun h => by (cases h), fun h => absurd h HN.out⟩, HB5.out⟩
      · have b1 : decide (A < 0) = false := by simp; omega
        by_cases c2 : n < 0
        · have b2 : decide (n < 0) = true := by simp; omega
          have HN := Lib.hid (show ¬ rightQ l from HBad.out fun h => HFi.out.1 h (.inr (.inl c2)))
          clear c1 c2
          go_wp2_with fail
          go_ret
          exact ⟨false, rfl, ⟨fun h => by (cases h), fun h => absurd h HN.out⟩, HB5.out⟩
        · have b2 : decide (n < 0) = false := by simp; omega
          by_cases c3 : 15 < n
          · have b3 : decide (15 < n) = true := by simp; omega
            have HN := Lib.hid (show ¬ rightQ l from HBad.out fun h => HFi.out.1 h (.inr (.inr (.inl c3))))
            clear c1 c2 c3
            go_wp2_with fail
            go_ret
            exact ⟨false, rfl, ⟨fun h => by (cases h), fun h => absurd h HN.out⟩, HB5.out⟩
          · have b3 : decide (15 < n) = false := by simp; omega
            by_cases c4 : 0 < n
            · have b4 : decide (0 < n) = true := by simp; omega
              by_cases c5 : kd = 4
              · have b5 : (kd != 4) = false := by simp; omega
                have HY := Lib.hid (HNx.out (HFi.out.2 (by omega)))
                clear c1 c2 c3 c4 c5
                go_wp2_with fail
                go_roundw
                case rel => exact ⟨k + 1, HKl.out, by go_num, HY.out, HB5.out⟩
                case measure => have := HKl.out; simp [intOf]; omega
              · have b5 : (kd != 4) = true := by simp; omega
                by_cases c6 : kd = 5
                · have b6 : (kd != 5) = false := by simp; omega
                  have HY := Lib.hid (HNx.out (HFi.out.2 (by omega)))
                  clear c1 c2 c3 c4 c5 c6
                  go_wp2_with fail
                  go_roundw
                  case rel => exact ⟨k + 1, HKl.out, by go_num, HY.out, HB5.out⟩
                  case measure => have := HKl.out; simp [intOf]; omega
                · have b6 : (kd != 5) = true := by simp; omega
                  have HN := Lib.hid (show ¬ rightQ l from HBad.out fun h => HFi.out.1 h (.inr (.inr (.inr ⟨c4, c5, c6⟩))))
                  clear c1 c2 c3 c4 c5 c6
                  go_wp2_with fail
                  go_ret
                  exact ⟨false, rfl, ⟨fun h => by (cases h), fun h => absurd h HN.out⟩, HB5.out⟩
            · have b4 : decide (0 < n) = false := by simp; omega
              have HY := Lib.hid (HNx.out (HFi.out.2 (by omega)))
              clear c1 c2 c3 c4
              go_wp2_with fail
              go_roundw
              case rel => exact ⟨k + 1, HKl.out, by go_num, HY.out, HB5.out⟩
              case measure => have := HKl.out; simp [intOf]; omega
    · have HAll := Lib.hid (show ∀ x ∈ l, fineQ x from fun x hx => by
        obtain ⟨t, ht, rfl⟩ := List.getElem_of_mem hx
        exact HA.out t ht (by omega))
      have d1 : decide ((k : Int) < (l.length : Int)) = false := by simp; omega
      have d2 : decide (k < l.length) = false := by simpa using hlt
      clear hlt hk HA
      by_cases c1 : 0 < l.length
      · have b1 : decide ((0 : Int) < (l.length : Int)) = true := by simp; omega
        have b1' : decide (0 < l.length) = true := by simp; omega
        by_cases c2 : l.length ≤ 24
        · have b2 : decide ((l.length : Int) ≤ 24) = true := by simp; omega
          have b2' : decide (l.length ≤ 24) = true := by simp; omega
          obtain ⟨n, hn⟩ : ∃ n, l.length = n + 1 := ⟨l.length - 1, by omega⟩
          have HBg := Lib.hid (fun V (hV : Below w.heap.size w V) => rqBegin_any l.length l n _ V (HV.out.below hV (Nat.le_refl _)) (by omega) HL.out (by omega))
          have HR := Lib.hid (show rightQ l ↔ begF l.length l n = some 0 from ⟨fun h => by have := h.2.2.2; rw [hn, Nat.add_sub_cancel] at this; rw [hn]; exact this, fun h => ⟨HAll.out, c1, c2, by rw [show l.length - 1 = n by omega]; exact h⟩⟩)
          have hw3 : IntKind.i64.wrap ((l.length : Int) - 1) = (n : Int) := by have := HL.out; rw [IntKind.wrap_i64]; omega
          clear c1 c2 hn
          go_wp2_with fail
          refine (HBg.out wr HB.out).mono ?_
          rintro e w5 ⟨rfl, hB5⟩
          have HB5 := Lib.hid (HB.out.trans (hB5.mono HB.out.size))
          clear hB5
          cases hbg : begF l.length l n with
          | none =>
            have hf : (begI none == 0) = false := by decide
            unfold begI at hf ⊢
            go_wp2_with fail
            go_ret
            exact ⟨false, rfl, ⟨fun h => by (cases h), fun h => absurd (HR.out.1 h) (by rw [hbg]; simp)⟩, HB5.out⟩
          | some c =>
            unfold begI
            by_cases h0 : c = 0
            · have hf : ((c : Int) == 0) = true := by simp; omega
              have HY := Lib.hid (HR.out.2 (by rw [hbg, h0]))
              clear h0
              go_wp2_with fail
              go_ret
              exact ⟨true, rfl, ⟨fun _ => HY.out, fun _ => rfl⟩, HB5.out⟩
            · have hf : ((c : Int) == 0) = false := by simp; omega
              have HN := Lib.hid (show ¬ rightQ l from fun h => by have := HR.out.1 h; rw [hbg] at this; exact h0 (Option.some.inj this))
              clear h0
              go_wp2_with fail
              go_ret
              exact ⟨false, rfl, ⟨fun h => by (cases h), fun h => absurd h HN.out⟩, HB5.out⟩
        · have b2 : decide ((l.length : Int) ≤ 24) = false := by simp; omega
          have b2' : decide (l.length ≤ 24) = false := by simp; omega
          have HN := Lib.hid (show ¬ rightQ l from fun h => c2 h.2.2.1)
          clear c1 c2
          go_wp2_with fail
          go_ret
          exact ⟨false, rfl, ⟨fun h => by (cases h), fun h => absurd h HN.out⟩, HB.out⟩
      · have b1 : decide ((0 : Int) < (l.length : Int)) = false := decide_eq_false (by omega)
        have b1' : decide (0 < l.length) = false := decide_eq_false c1
        have HN := Lib.hid (show ¬ rightQ l from fun h => c1 h.2.1)
        clear c1
        go_wp2_with fail
        go_ret
        exact ⟨false, rfl, ⟨fun h => by (cases h), fun h => absurd h HN.out⟩, HB.out⟩
end Go.Proofs.Ytpcnfemjjlcjfaa

/-
  Slices of parts in memory; is anything too long?
-/
import Derived.Test.YtnajbkijejlgiaaWirV
import Derived.Test.YtnajbkijejlgiaaWirN
namespace Go.Proofs.Ytnajbkijejlgiaa
open Go.RowKit

/-- In the world w the slice v holds just these parts. -/
def PartsAt (w : World) (v : Value) (l : List PartM) : Prop :=
  ∃ p cap, v = .slice p l.length cap ∧ l.length ≤ 9223372036854775807 ∧ (l ≠ [] → ∃ b off, p = some ⟨b, off, none⟩ ∧ b < w.heap.size ∧ ∀ i, (h : i < l.length) → (l[i].s.size ≤ 9223372036854775807 ∧ l[i].n ≤ 9223372036854775807) ∧
    w.cell? ⟨b, off + i * 5, none⟩ = some (.bool l[i].t) ∧ w.cell? ⟨b, off + i * 5 + 1, none⟩ = some (.int .i64 l[i].n) ∧ w.cell? ⟨b, off + i * 5 + 2, none⟩ = some (.int .i64 l[i].size) ∧
    w.cell? ⟨b, off + i * 5 + 3, none⟩ = some (.int .i64 l[i].most) ∧ w.cell? ⟨b, off + i * 5 + 4, none⟩ = some (.string l[i].s))

set_option maxHeartbeats 1600000 in
theorem far_any (v : Value) (l : List PartM) (w : World) (h : PartsAt w v l) : Calls Try.prog 7 #[v] w fun e w' => e = .returned (.bool (farB l)) ∧ w = w' := by
  obtain ⟨p, cap, rfl, hm, hc⟩ := h
  have HC := Lib.hid hc
  clear hc
  go_enter Try.func7, Try.ntmps7
  go_wp2_with fail
  go_loop [3] (fun i => ∃ k : Nat, k ≤ l.length ∧ i = .int .i64 k ∧ longB (l.take k) = false) (fun i => l.length - (intOf i).toNat)
  case atStart => exact ⟨0, Nat.zero_le _, rfl, rfl⟩
  case round =>
    obtain ⟨k, hk, rfl, hl⟩ := hrel
    have HL := Lib.hid hl
    clear hl
    by_cases hlt : k < l.length
    · obtain ⟨b, off, rfl, hb, hcs⟩ := HC.out (by intro e; rw [e] at hlt; simp at hlt)
      obtain ⟨⟨hs, -⟩, -, -, -, -, c4⟩ := hcs k hlt
      have HT := Lib.hid (longB_take hlt)
      have HM := Lib.hid (fun (h : longB (l.take (k + 1)) = true) => longB_mono h)
      clear hcs
      generalize l[k].s = r at *
      by_cases hr : 300 < r.size
      · have hT := HT.out
        rw [HL.out, show decide (300 < r.size) = true by simpa using hr] at hT
        have HF := Lib.hid (show farB l = true by unfold farB; rw [HM.out hT]; rfl)
        clear hT
        go_wp2_with fail
        go_ret
        exact ⟨by rw [HF.out]; rfl, rfl⟩
      · have hT := HT.out
        rw [HL.out, show decide (300 < r.size) = false by simpa using hr] at hT
        have HF := Lib.hid hT
        clear hT
        go_wp2_with fail
        go_round
        case rel => exact ⟨k + 1, by omega, by go_num, HF.out⟩
        case measure => simp [intOf]; omega
    · have hT : l.take k = l := List.take_of_length_le (by omega)
      have hL := HL.out
      rw [hT] at hL
      have HF := Lib.hid (show farB l = decide (40 < l.length) by unfold farB; rw [hL]; rfl)
      clear hT hL
      by_cases h40 : 40 < l.length
      · have HG := Lib.hid (show farB l = true by rw [HF.out]; simpa using h40)
        go_wp2_with fail
        go_ret
        exact ⟨by rw [HG.out]; simp; omega, rfl⟩
      · have HG := Lib.hid (show farB l = false by rw [HF.out]; simpa using h40)
        go_wp2_with fail
        go_ret
        exact ⟨by rw [HG.out]; simp; omega, rfl⟩

end Go.Proofs.Ytnajbkijejlgiaa

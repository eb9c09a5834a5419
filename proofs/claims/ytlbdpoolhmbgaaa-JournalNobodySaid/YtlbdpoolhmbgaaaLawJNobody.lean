/-
  The law JournalNobody, from the program's contracts.
-/
import Derived.Test.YtlbdpoolhmbgaaaJrnC
import Derived.Deep.DeepCutAuto
import Derived.LoopTactic
namespace Go.Proofs.Ytlbdpoolhmbgaaa
open Go.RowKit

/-- The cells of a journal that nobody made. -/
def jzCells : Array Value := #[.pointer none, .int .i64 0, .int .i64 0, .int .i64 0, .int .i64 0]
/-- A nil journal, or one that New did not return. -/
def NobV (w : World) (v : Value) : Prop := v = .pointer none ∨ ∃ b, v = ptrV b ∧ Blk w b jzCells 45
theorem NobV.below {w w' : World} {v : Value} (h : NobV w v) (hB : Below w.heap.size w w') : NobV w' v := by
  rcases h with h | ⟨b, h1, h2⟩
  · exact .inl h
  · exact .inr ⟨b, h1, h2.below hB h2.lt⟩
def NobOpenC : Prop := ∀ (w : World) (v : Value) (gen : Int), NobV w v → Calls Try.prog 13 #[v, .int .i64 gen] w fun e w' => ∃ p c, e = .returned (.tuple #[.slice p 0 c, .int .i64 2]) ∧ Below w.heap.size w w'
def NobAddC : Prop := ∀ (w : World) (v : Value) (p : Option Addr) (len cap : Nat), NobV w v → Calls Try.prog 10 #[v, .slice p len cap] w fun e w' => e = .returned (.int .i64 2) ∧ Below w.heap.size w w'
def NobCleanC : Prop := ∀ (w : World) (v : Value), NobV w v → Calls Try.prog 15 #[v] w fun e w' => e = .returned (.int .i64 2) ∧ Below w.heap.size w w'
def NobLenC : Prop := ∀ (w : World) (v : Value), NobV w v → Calls Try.prog 17 #[v] w fun e w' => e = .returned (.int .i64 0) ∧ Below w.heap.size w w'
def NobRoomC : Prop := ∀ (w : World) (v : Value), NobV w v → Calls Try.prog 18 #[v] w fun e w' => e = .returned (.int .i64 0) ∧ Below w.heap.size w w'
def NobGenC : Prop := ∀ (w : World) (v : Value), NobV w v → Calls Try.prog 16 #[v] w fun e w' => e = .returned (.int .i64 0) ∧ Below w.heap.size w w'
/-- New on no disk. -/
def JNewNilC : Prop := ∀ (w : World), Calls Try.prog 8 #[.pointer none, .int .i64 0, .int .i64 1] w fun e w' => e = .returned (.tuple #[.pointer none, .int .i64 2]) ∧ Below w.heap.size w w'

set_option maxRecDepth 100000 in
set_option maxHeartbeats 3200000 in
theorem jnobody_any (nO : NobOpenC) (nA : NobAddC) (nC : NobCleanC) (nL : NobLenC) (nR : NobRoomC) (nG : NobGenC) (nN : JNewNilC) (hA : JAliveC) (p : Option Addr) (len cap : Nat) (gen : Int) (w : World) :
    Calls Try.prog 5 #[.slice p len cap, .int .i64 gen] w fun e w' => e = .returned (.bool true) ∧ Below w.heap.size w w' := by
  have HA := Lib.hid hA
  have HO := Lib.hid nO
  have HAd := Lib.hid nA
  have HC := Lib.hid nC
  have HL := Lib.hid nL
  have HR := Lib.hid nR
  have HG := Lib.hid nG
  have HN := Lib.hid nN
  obtain ⟨W2, hW2⟩ : ∃ W2, W2 = (w.alloc (.cells jzCells 45)).alloc (.cells #[.pointer none, .pointer (some ⟨w.heap.size, 0, none⟩)] 30) := ⟨_, rfl⟩
  have HB2 := Lib.hid (show Below w.heap.size w W2 by rw [hW2]; exact (belowNew w _).alloc (belowNew w _).size _)
  have HS := Lib.hid (show Blk W2 (w.heap.size + 1) #[.pointer none, .pointer (some ⟨w.heap.size, 0, none⟩)] 30 by
    have := Blk.new (w.alloc (.cells jzCells 45)) #[.pointer none, .pointer (some ⟨w.heap.size, 0, none⟩)] 30
    rw [show (w.alloc (.cells jzCells 45)).heap.size = w.heap.size + 1 by simp] at this
    rw [hW2]; exact this)
  have HZ := Lib.hid (show NobV W2 (.pointer (some ⟨w.heap.size, 0, none⟩)) from .inr ⟨w.heap.size, rfl, by
    rw [hW2]; exact (Blk.new w jzCells 45).alloc _⟩)
  unfold jzCells at hW2
  clear hA nO nA nC nL nR nG nN
  go_enter Try.func5, Try.ntmps5
  go_upto_region 2 with fail
  rw [← hW2]
  have hs2 : w.heap.size + 1 < W2.heap.size := HS.out.lt
  obtain ⟨s, hs⟩ : ∃ s, s = w.heap.size := ⟨_, rfl⟩
  rw [← hs] at HS HZ hs2 ⊢
  clear hW2 hs
  go_loopw [15] (fun i wr => ∃ k : Nat, k ≤ 2 ∧ i = .int .i64 k ∧ Below W2.heap.size W2 wr) (fun i _ => 2 - (intOf i).toNat)
  case atStart => exact ⟨0, by omega, rfl, Below.refl _ _⟩
  case round =>
    obtain ⟨k, hk, rfl, hB⟩ := hrel
    have HB := Lib.hid hB
    clear hB
    by_cases hlt : k < 2
    · obtain ⟨pv, hpv, hnob⟩ : ∃ pv, wr.cell? ⟨s + 1, k, none⟩ = some pv ∧ NobV W2 pv := by
        have hc : k = 0 ∨ k = 1 := by omega
        rcases hc with rfl | rfl
        · exact ⟨.pointer none, (HB.out.cell (p := ⟨s + 1, 0, none⟩) hs2).trans (HS.out.cell 0), .inl rfl⟩
        · exact ⟨.pointer (some ⟨s, 0, none⟩), (HB.out.cell (p := ⟨s + 1, 1, none⟩) hs2).trans (HS.out.cell 1), HZ.out⟩
      have HNv := Lib.hid hnob
      clear hnob
      have h1 := Lib.hid (HO.out wr pv gen (HNv.out.below HB.out))
      go_wp2_with fail
      refine h1.out.mono ?_
      rintro e V1 ⟨q, c, rfl, hB1⟩
      have HB1 := Lib.hid (HB.out.trans (hB1.mono HB.out.size))
      have h2 := Lib.hid (HAd.out V1 pv p len cap (HNv.out.below HB1.out))
      clear hB1 h1
      go_wp2_with fail
      refine h2.out.mono ?_
      rintro e V2 ⟨rfl, hB2⟩
      have HB2' := Lib.hid (HB1.out.trans (hB2.mono HB1.out.size))
      have h3 := Lib.hid (HC.out V2 pv (HNv.out.below HB2'.out))
      clear hB2 h2 HB1
      go_wp2_with fail
      refine h3.out.mono ?_
      rintro e V3 ⟨rfl, hB3⟩
      have HB3 := Lib.hid (HB2'.out.trans (hB3.mono HB2'.out.size))
      have h4 := Lib.hid (HL.out V3 pv (HNv.out.below HB3.out))
      clear hB3 h3 HB2'
      go_wp2_with fail
      refine h4.out.mono ?_
      rintro e V4 ⟨rfl, hB4⟩
      have HB4 := Lib.hid (HB3.out.trans (hB4.mono HB3.out.size))
      have h5 := Lib.hid (HR.out V4 pv (HNv.out.below HB4.out))
      clear hB4 h4 HB3
      go_wp2_with fail
      refine h5.out.mono ?_
      rintro e V5 ⟨rfl, hB5⟩
      have HB5 := Lib.hid (HB4.out.trans (hB5.mono HB4.out.size))
      have h6 := Lib.hid (HG.out V5 pv (HNv.out.below HB5.out))
      clear hB5 h5 HB4
      go_wp2_with fail
      refine h6.out.mono ?_
      rintro e V6 ⟨rfl, hB6⟩
      have HB6 := Lib.hid (HB5.out.trans (hB6.mono HB5.out.size))
      clear hB6 h6 HB5 hpv
      go_wp2_with fail
      go_roundw
      case rel => exact ⟨k + 1, by omega, by go_num, HB6.out⟩
      case measure => simp [intOf]; omega
    · have HBw := Lib.hid (HB2.out.trans (HB.out.mono HB2.out.size))
      have h1 := Lib.hid (HN.out wr)
      go_wp2_with fail
      refine h1.out.mono ?_
      rintro e V1 ⟨rfl, hB1⟩
      have HB1 := Lib.hid (HBw.out.trans (hB1.mono HBw.out.size))
      clear hB1 h1
      go_wp2_with fail
      refine (HA.out _).mono ?_
      rintro e V2 ⟨rfl, hB2⟩
      have HB3 := Lib.hid (HB1.out.trans (hB2.mono HB1.out.size))
      clear hB2
      go_wp2_with fail
      go_ret
      exact ⟨rfl, HB3.out⟩
end Go.Proofs.Ytlbdpoolhmbgaaa

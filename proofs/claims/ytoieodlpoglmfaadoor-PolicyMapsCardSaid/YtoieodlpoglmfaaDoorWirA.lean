/-
  The program's stream, Writer and Reader.
-/
import Derived.Test.YtoieodlpoglmfaaDoorRows
import Derived.WalkKit
import Derived.WalkSpells
import Derived.WalkLawsBesides
import Derived.Test.YtoieodlpoglmfaaDoorByteP
import Derived.Test.YtoieodlpoglmfaaDoorWirM
import Derived.Test.YtoieodlpoglmfaaDoorFactsT
import Derived.StillTailTactics
import Derived.Laws.AppendOwnNone
import Derived.Deep.QuietTactic
import Derived.BigQuiet
namespace Go.Proofs.YtoieodlpoglmfaaDoor
open Go.RowKit

set_option maxHeartbeats 400000 in
theorem wfail_any (b : Nat) (t : TypeId) (v : Value) (e e' : Int) (w : World) (h : Blk w b #[v, .int .i64 e] t) :
    Calls Tryd.prog 78 #[.pointer (some ⟨b, 0, none⟩), .int .i64 e'] w fun en w' => en = .returned (.tuple #[]) ∧ Put w w' b #[failV v e e', .int .i64 (failE e e')] t := by
  have c0 : w.cell? ⟨b, 0, none⟩ = some v := h.cell 0
  have c1 : w.cell? ⟨b, 1, none⟩ = some (.int .i64 e) := h.cell 1
  have f0 := h.free 0
  have f1 := h.free 1
  by_cases h1 : e' = 0
  · have hv : failV v e e' = v := by unfold failV; rw [if_neg (fun x => x.2 h1)]
    have he : failE e e' = e := by unfold failE; rw [if_neg (fun x => x.2 h1)]
    rw [hv, he]
    have HP := Lib.hid (Put.refl h)
    have b1 : (e' != 0) = false := by simpa using h1
    clear h hv he h1
    go_enter Tryd.func78, Tryd.ntmps78
    go_wp2_with fail
    go_end0
    exact ⟨rfl, HP.out⟩
  · by_cases h2 : e = 0
    · have hv : failV v e e' = .slice none 0 0 := by unfold failV; rw [if_pos ⟨h2, h1⟩]
      have he : failE e e' = e' := by unfold failE; rw [if_pos ⟨h2, h1⟩]
      rw [hv, he]
      have HP := Lib.hid (((Put.refl h).set 0 (.slice none 0 0)).set 1 (.int .i64 e'))
      have b1 : (e' != 0) = true := by simpa using h1
      have b2 : (e == 0) = true := by simpa using h2
      clear h hv he h1 h2
      go_enter Tryd.func78, Tryd.ntmps78
      go_wp2_with fail
      go_end0
      exact ⟨rfl, HP.out⟩
    · have hv : failV v e e' = v := by unfold failV; rw [if_neg (fun x => h2 x.1)]
      have he : failE e e' = e := by unfold failE; rw [if_neg (fun x => h2 x.1)]
      rw [hv, he]
      have HP := Lib.hid (Put.refl h)
      have b1 : (e' != 0) = true := by simpa using h1
      have b2 : (e == 0) = false := by simpa using h2
      clear h hv he h1 h2
      go_enter Tryd.func78, Tryd.ntmps78
      go_wp2_with fail
      go_end0
      exact ⟨rfl, HP.out⟩

set_option maxHeartbeats 400000 in
theorem wsized_any (n : Int) (w : World) : Calls Tryd.prog 77 #[.int .i64 n] w fun en w' => en = .returned (.bool (sizedB n)) ∧ w = w' := by
  cases h : sizedB n
  · unfold sizedB at h
    by_cases h1 : 1 ≤ n
    · have b1 : decide (1 ≤ n) = true := by simpa using h1
      have b2 : decide (n ≤ 4) = false := by simpa [h1] using h
      clear h h1
      go_enter Tryd.func77, Tryd.ntmps77
      go_wp2_with fail
      go_ret
      exact ⟨rfl, rfl⟩
    · have b1 : decide (1 ≤ n) = false := by simpa using h1
      clear h h1
      go_enter Tryd.func77, Tryd.ntmps77
      go_wp2_with fail
      go_ret
      exact ⟨rfl, rfl⟩
  · unfold sizedB at h
    simp only [Bool.and_eq_true, decide_eq_true_eq] at h
    obtain ⟨h1, h2⟩ := h
    go_enter Tryd.func77, Tryd.ntmps77
    go_wp2_with fail
    go_ret
    exact ⟨rfl, rfl⟩

/-- The Writer at b holds s now. -/
def WNow (B : Nat) (w : World) (b : Nat) (t : TypeId) (v : Value) (s : List UInt8 × Int) (w' : World) : Prop := ∃ v', WTo 5 B w b t v s v' w'

set_option maxHeartbeats 400000 in
theorem wadd_any (B b : Nat) (t : TypeId) (v : Value) (s : List UInt8 × Int) (p : Option Addr) (len cap : Nat) (m : List UInt8) (w : World) (h : WAt 5 B w b t v s) (hB : B ≤ w.heap.size) (hb : BsAt w p len cap m) (hsm : s.1.length + m.length ≤ 1000000) :
    Calls Tryd.prog 79 #[.pointer (some ⟨b, 0, none⟩), .slice p len cap] w fun en w' => en = .returned (.tuple #[]) ∧ WNow B w b t v (addS s m) w' := by
  obtain ⟨l, e⟩ := s
  have hsm2 : l.length + m.length ≤ 140737488355328 := Nat.le_trans hsm (by decide)
  have c0 : w.cell? ⟨b, 0, none⟩ = some v := h.blk.cell 0
  have c1 : w.cell? ⟨b, 1, none⟩ = some (.int .i64 e) := h.blk.cell 1
  by_cases h1 : e = 0
  · have hs : addS (l, e) m = (l ++ m, e) := by unfold addS; rw [if_pos h1]
    rw [hs]
    have b1 : (e == 0) = true := by simpa using h1
    have HH := Lib.hid h
    have hown := h.row
    have HB := Lib.hid hb
    have HZ := Lib.hid hB
    clear h hb hB hs h1 hsm
    go_enter Tryd.func79, Tryd.ntmps79
    go_wp2_with (at_builtin; refine wpList_append_bytes rfl _ _ 48 rfl B 5 Tryd.underlying48 infoU8 rfl hown rfl HB.out hsm2 HZ.out ?_; intro p1 n1 c1' w1 hrow1 hg1 hn1; have hk1 : Blk w1 b #[v, .int .i64 e] t := (hg1.block b HH.out.blk.lt (fun e => HH.out.apart e.symm)).trans HH.out.blk; have q0 : w1.cell? ⟨b, 0, none⟩ = some v := hk1.cell 0; have q1 := hk1.free 0; have HK := Lib.hid hk1; have HR := Lib.hid hrow1; have HG := Lib.hid hg1; have HN := Lib.hid hn1; clear hk1 hrow1 hg1 hn1 hown)
    go_end0
    refine ⟨rfl, .slice p1 n1 c1', ⟨HK.out.set 0 _, ?_, ?_⟩, ?_, HN.out⟩
    · exact ((HR.out).kept (w' := w1.setCell ⟨b, 0, none⟩ (.slice p1 n1 c1')) (row := some b) ⟨rfl, rfl, rfl, by simp [World.setCell], fun k hk hne => Below.heap_setCell _ _ _ _ (fun e => hne (by rw [e]))⟩ (by
        cases ho : (Value.slice p1 n1 c1').ownBlock with
        | none => exact .inl rfl
        | some k =>
          right
          intro he
          rcases HN.out k ho with h2 | h2
          · rw [he] at ho; cases he; exact HH.out.apart h2
          · cases he; have := HH.out.blk.lt; omega))
    · intro he
      rcases HN.out b he with h2 | h2
      · exact HH.out.apart h2
      · have := HH.out.blk.lt; omega
    · exact ((Chg.ofGrown HG.out).mono (fun i _ h => .inr h)).setCell (fun _ => .inl rfl) _
  · have hs : addS (l, e) m = (l, e) := by unfold addS; rw [if_neg h1]
    rw [hs]
    have b1 : (e == 0) = false := by simpa using h1
    have HW := Lib.hid (show WNow B w b t v (l, e) w from ⟨v, WTo.refl h⟩)
    clear h hb hB hs h1
    go_enter Tryd.func79, Tryd.ntmps79
    go_wp2_with fail
    go_end0
    exact ⟨rfl, HW.out⟩

theorem WNow.after {B : Nat} {w w1 w' : World} {b : Nat} {t : TypeId} {v : Value} {s : List UInt8 × Int} (h : WNow B w1 b t v s w') (hB : Below w.heap.size w w1) : WNow B w b t v s w' := by
  obtain ⟨v', h⟩ := h
  exact ⟨v', h.after hB⟩

set_option maxRecDepth 100000 in
set_option maxHeartbeats 800000 in
theorem wnum_ok1 (B b : Nat) (t : TypeId) (v : Value) (s : List UInt8 × Int) (n : Nat) (w : World) (h : WAt 5 B w b t v s) (hB : B ≤ w.heap.size) (hsm : s.1.length ≤ 900000) (hn : n < 256) :
    Calls Tryd.prog 57 #[.pointer (some ⟨b, 0, none⟩), .int .i64 n, .int .i64 1] w fun en w' => en = .returned (.tuple #[]) ∧ WNow B w b t v (addS s (be n 1)) w' := by
  have hs := fun V => wsized_any 1 V
  rw [show sizedB 1 = true from rfl] at hs
  have HS := Lib.hid hs
  have HH := Lib.hid h
  have HZ := Lib.hid hB
  have HM := Lib.hid hsm
  have b1 : ((n : Int) / 256 != 0) = false := by simp; omega
  have w2 : IntKind.i64.wrap 3 = 3 := by decide
  clear hs h hB hsm
  go_enter Tryd.func57, Tryd.ntmps57
  go_wp2_with fail
  refine (HS.out _).mono ?_
  rintro e w' ⟨rfl, rfl⟩
  go_wp2_with fail
  go_still_tail 6, (by kernel_rfl)
  change wpList _ _ _ _ _ (World.drew _)
  go_wp2_with fail
  refine (wadd_any B b t v s (some ⟨w.heap.size, 3, none⟩) 1 1 (be n 1) _ (HH.out.below (belowNew w _).drew (Nat.le_refl _)) (by have := HZ.out; simp; omega) (bsAt_new w _ _ 3 (be n 1) (by rw [be_length]; decide) (fun i hi => ?_)).drew (by have := HM.out; rw [be_length]; omega)).mono ?_
  · have hi' : i < 1 := hi
    have hc : i = 0 := by omega
    rcases hc with rfl
    · exact congrArg (fun x => some (Value.int .u8 x)) (by show _ = (((UInt8.ofNat (n)).toNat : Nat) : Int); simp <;> omega)
  · rintro e w' ⟨rfl, hW⟩
    go_wp2_with fail
    go_end0
    exact ⟨rfl, hW.after (belowNew w _).drew⟩

set_option maxRecDepth 100000 in
set_option maxHeartbeats 800000 in
theorem wnum_ok2 (B b : Nat) (t : TypeId) (v : Value) (s : List UInt8 × Int) (n : Nat) (w : World) (h : WAt 5 B w b t v s) (hB : B ≤ w.heap.size) (hsm : s.1.length ≤ 900000) (hn : n < 65536) :
    Calls Tryd.prog 57 #[.pointer (some ⟨b, 0, none⟩), .int .i64 n, .int .i64 2] w fun en w' => en = .returned (.tuple #[]) ∧ WNow B w b t v (addS s (be n 2)) w' := by
  have hs := fun V => wsized_any 2 V
  rw [show sizedB 2 = true from rfl] at hs
  have HS := Lib.hid hs
  have HH := Lib.hid h
  have HZ := Lib.hid hB
  have HM := Lib.hid hsm
  have b1 : ((n : Int) / 65536 != 0) = false := by simp; omega
  have w2 : IntKind.i64.wrap 2 = 2 := by decide
  clear hs h hB hsm
  go_enter Tryd.func57, Tryd.ntmps57
  go_wp2_with fail
  refine (HS.out _).mono ?_
  rintro e w' ⟨rfl, rfl⟩
  go_wp2_with fail
  go_still_tail 6, (by kernel_rfl)
  change wpList _ _ _ _ _ (World.drew _)
  go_wp2_with fail
  refine (wadd_any B b t v s (some ⟨w.heap.size, 2, none⟩) 2 2 (be n 2) _ (HH.out.below (belowNew w _).drew (Nat.le_refl _)) (by have := HZ.out; simp; omega) (bsAt_new w _ _ 2 (be n 2) (by rw [be_length]; decide) (fun i hi => ?_)).drew (by have := HM.out; rw [be_length]; omega)).mono ?_
  · have hi' : i < 2 := hi
    have hc : i = 0 ∨ i = 1 := by omega
    rcases hc with rfl | rfl
    · exact congrArg (fun x => some (Value.int .u8 x)) (by show _ = (((UInt8.ofNat (n / 256)).toNat : Nat) : Int); simp <;> omega)
    · exact congrArg (fun x => some (Value.int .u8 x)) (by show _ = (((UInt8.ofNat (n)).toNat : Nat) : Int); simp <;> omega)
  · rintro e w' ⟨rfl, hW⟩
    go_wp2_with fail
    go_end0
    exact ⟨rfl, hW.after (belowNew w _).drew⟩

set_option maxRecDepth 100000 in
set_option maxHeartbeats 800000 in
theorem wnum_ok3 (B b : Nat) (t : TypeId) (v : Value) (s : List UInt8 × Int) (n : Nat) (w : World) (h : WAt 5 B w b t v s) (hB : B ≤ w.heap.size) (hsm : s.1.length ≤ 900000) (hn : n < 16777216) :
    Calls Tryd.prog 57 #[.pointer (some ⟨b, 0, none⟩), .int .i64 n, .int .i64 3] w fun en w' => en = .returned (.tuple #[]) ∧ WNow B w b t v (addS s (be n 3)) w' := by
  have hs := fun V => wsized_any 3 V
  rw [show sizedB 3 = true from rfl] at hs
  have HS := Lib.hid hs
  have HH := Lib.hid h
  have HZ := Lib.hid hB
  have HM := Lib.hid hsm
  have b1 : ((n : Int) / 16777216 != 0) = false := by simp; omega
  have w2 : IntKind.i64.wrap 1 = 1 := by decide
  clear hs h hB hsm
  go_enter Tryd.func57, Tryd.ntmps57
  go_wp2_with fail
  refine (HS.out _).mono ?_
  rintro e w' ⟨rfl, rfl⟩
  go_wp2_with fail
  go_still_tail 6, (by kernel_rfl)
  change wpList _ _ _ _ _ (World.drew _)
  go_wp2_with fail
  refine (wadd_any B b t v s (some ⟨w.heap.size, 1, none⟩) 3 3 (be n 3) _ (HH.out.below (belowNew w _).drew (Nat.le_refl _)) (by have := HZ.out; simp; omega) (bsAt_new w _ _ 1 (be n 3) (by rw [be_length]; decide) (fun i hi => ?_)).drew (by have := HM.out; rw [be_length]; omega)).mono ?_
  · have hi' : i < 3 := hi
    have hc : i = 0 ∨ i = 1 ∨ i = 2 := by omega
    rcases hc with rfl | rfl | rfl
    · exact congrArg (fun x => some (Value.int .u8 x)) (by show _ = (((UInt8.ofNat (n / 256 / 256)).toNat : Nat) : Int); simp <;> omega)
    · exact congrArg (fun x => some (Value.int .u8 x)) (by show _ = (((UInt8.ofNat (n / 256)).toNat : Nat) : Int); simp <;> omega)
    · exact congrArg (fun x => some (Value.int .u8 x)) (by show _ = (((UInt8.ofNat (n)).toNat : Nat) : Int); simp <;> omega)
  · rintro e w' ⟨rfl, hW⟩
    go_wp2_with fail
    go_end0
    exact ⟨rfl, hW.after (belowNew w _).drew⟩

set_option maxRecDepth 100000 in
set_option maxHeartbeats 800000 in
theorem wnum_ok4 (B b : Nat) (t : TypeId) (v : Value) (s : List UInt8 × Int) (n : Nat) (w : World) (h : WAt 5 B w b t v s) (hB : B ≤ w.heap.size) (hsm : s.1.length ≤ 900000) (hn : n < 4294967296) :
    Calls Tryd.prog 57 #[.pointer (some ⟨b, 0, none⟩), .int .i64 n, .int .i64 4] w fun en w' => en = .returned (.tuple #[]) ∧ WNow B w b t v (addS s (be n 4)) w' := by
  have hs := fun V => wsized_any 4 V
  rw [show sizedB 4 = true from rfl] at hs
  have HS := Lib.hid hs
  have HH := Lib.hid h
  have HZ := Lib.hid hB
  have HM := Lib.hid hsm
  have b1 : ((n : Int) / 4294967296 != 0) = false := by simp; omega
  have w2 : IntKind.i64.wrap 0 = 0 := by decide
  clear hs h hB hsm
  go_enter Tryd.func57, Tryd.ntmps57
  go_wp2_with fail
  refine (HS.out _).mono ?_
  rintro e w' ⟨rfl, rfl⟩
  go_wp2_with fail
  go_still_tail 6, (by kernel_rfl)
  change wpList _ _ _ _ _ (World.drew _)
  go_wp2_with fail
  refine (wadd_any B b t v s (some ⟨w.heap.size, 0, none⟩) 4 4 (be n 4) _ (HH.out.below (belowNew w _).drew (Nat.le_refl _)) (by have := HZ.out; simp; omega) (bsAt_new w _ _ 0 (be n 4) (by rw [be_length]; decide) (fun i hi => ?_)).drew (by have := HM.out; rw [be_length]; omega)).mono ?_
  · have hi' : i < 4 := hi
    have hc : i = 0 ∨ i = 1 ∨ i = 2 ∨ i = 3 := by omega
    rcases hc with rfl | rfl | rfl | rfl
    · exact congrArg (fun x => some (Value.int .u8 x)) (by show _ = (((UInt8.ofNat (n / 256 / 256 / 256)).toNat : Nat) : Int); simp <;> omega)
    · exact congrArg (fun x => some (Value.int .u8 x)) (by show _ = (((UInt8.ofNat (n / 256 / 256)).toNat : Nat) : Int); simp <;> omega)
    · exact congrArg (fun x => some (Value.int .u8 x)) (by show _ = (((UInt8.ofNat (n / 256)).toNat : Nat) : Int); simp <;> omega)
    · exact congrArg (fun x => some (Value.int .u8 x)) (by show _ = (((UInt8.ofNat (n)).toNat : Nat) : Int); simp <;> omega)
  · rintro e w' ⟨rfl, hW⟩
    go_wp2_with fail
    go_end0
    exact ⟨rfl, hW.after (belowNew w _).drew⟩

end Go.Proofs.YtoieodlpoglmfaaDoor

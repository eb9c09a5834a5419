/-
  What every law of layer 5 ends with: some calls that are known.
-/
import Derived.Test.YtnajbkijejlgiaaWirE
namespace Go.Proofs.Ytnajbkijejlgiaa
open Go.RowKit

theorem al1 : wNum ([], 0) 258 2 = ([1, 2], 0) := by decide
theorem al2 : wText ([1, 2], 0) [97, 98] = ([1, 2, 2, 97, 98], 0) := by decide
theorem al3 : dNum ([1, 2, 2, 97, 98], 0) 2 1000 = (258, ([2, 97, 98], 0)) := by decide
theorem al4 : dText ([2, 97, 98], 0) 5 = ([97, 98], ([], 0)) := by decide
theorem al5 : dNum ([], 0) 1 9 = (0, ([], 4)) := by decide

/-- A new Writer. -/
theorem WAt.new (w : World) (t : TypeId) : WAt 5 w.heap.size (w.alloc (.cells #[.slice none 0 0, .int .i64 0] t)) w.heap.size t (.slice none 0 0) ([], 0) :=
  ⟨Blk.new w _ _, World.ownsRow_nil _ _ _ _, fun e => by cases e⟩
/-- A new Reader of bytes of one's own. -/
theorem RAt.new {w : World} {b g : Nat} {v : Value} {t : TypeId} {l : List UInt8} (hk : Blk w b #[v, .int .i64 0] t) (hv : BsIn w g l v) : RAt w b t g (l, 0) := by
  obtain ⟨p, n, c, rfl, h1, h2⟩ := hv
  exact ⟨p, n, c, hk, h1, h2⟩
def blockOf : Value → Nat
  | .slice (some a) _ _ => a.block
  | _ => 0
theorem BsNew.inBlock {w w' : World} {l : List UInt8} {v : Value} (h : BsNew w l v w') : BsIn w' (blockOf v) l v := by
  obtain ⟨p, n, c, rfl, h1, h2⟩ := h
  exact ⟨p, n, c, rfl, h1, fun a ha => by rw [ha]; rfl⟩
/-- What NewReader gives. -/
def NewRdIs (w : World) (l : List UInt8) (e : Ending) (w' : World) : Prop := ∃ b g, e = .returned (.pointer (some ⟨b, 0, none⟩)) ∧ w.heap.size ≤ b ∧ g ≠ b ∧ (g = 0 ∨ w.heap.size ≤ g) ∧ RAt w' b 60 g (l, 0) ∧ Below w.heap.size w w'
theorem newRd_any (p : Option Addr) (len cap : Nat) (l : List UInt8) (w : World) (h : BsAt w p len cap l) (hsm : l.length ≤ 1000000) (hw : 0 < w.heap.size) :
    Calls Try.prog 14 #[.slice p len cap] w (NewRdIs w l) :=
  (newReader_any p len cap l w h hsm).mono fun e w' ⟨b, v, he, hb, hk, hn, hne, hB⟩ => by
    refine ⟨b, blockOf v, he, hb, ?_, ?_, RAt.new hk hn.inBlock, hB⟩
    · obtain ⟨q, n, c, rfl, h1, h2⟩ := hn
      cases q with
      | none => show 0 ≠ b; omega
      | some a => exact hne a.block rfl
    · obtain ⟨q, n, c, rfl, h1, h2⟩ := hn
      cases q with
      | none => exact .inl rfl
      | some a => exact .inr (h2 a rfl).1

set_option maxRecDepth 100000 in
set_option maxHeartbeats 4000000 in
theorem wireAlive_any (w : World) : Calls Try.prog 8 #[] w fun e w' => e = .returned (.bool true) ∧ Below w.heap.size w w' := by
  have H0 := Lib.hid (WAt.new w 30)
  go_enter Try.func8, Try.ntmps8
  go_wp2_with fail
  refine (wnum_any w.heap.size w.heap.size _ _ _ 258 2 _ H0.out (by simp) (by simp)).mono ?_
  rintro e w1 ⟨rfl, v1, hT1⟩
  have HT1 := Lib.hid (al1 ▸ hT1)
  have HB1 := Lib.hid ((belowNew w _).trans ((HT1.out.below H0.out (by simp) (Nat.le_refl _)).mono (by simp)))
  clear hT1 H0
  go_wp2_with fail
  refine (wtext_any w.heap.size w.heap.size _ _ _ ⟨#[97, 98]⟩ _ HT1.out.now (by have := HB1.out.size; omega) (by simp) (by decide)).mono ?_
  rintro e w2 ⟨rfl, v2, hT2⟩
  have HT2 := Lib.hid (al2 ▸ hT2)
  have HB2 := Lib.hid (HB1.out.trans (HT2.out.below HT1.out.now (by have := HB1.out.size; omega) (Nat.le_refl _)))
  clear hT2 HT1 HB1
  go_wp2_with fail
  refine (done_any w.heap.size w.heap.size _ _ _ _ HT2.out.now (by simp)).mono ?_
  rintro e w3 ⟨v3, rfl, hn3, hB3⟩
  have hB3' := HB2.out.trans (hB3.mono (by have := HB2.out.size; omega))
  obtain ⟨p3, n3, c3, rfl, hb3, hp3⟩ := hn3
  have HB3 := Lib.hid hB3'
  have HS3 := Lib.hid hb3
  have HP3 := Lib.hid hp3
  have HLT := Lib.hid HT2.out.now.blk.lt
  have HZ3 := Lib.hid hB3.size
  clear hB3 hB3' hb3 hp3 HT2 HB2
  go_wp2_with fail
  refine (newRd_any _ _ _ _ _ HS3.out (by simp) (by have := HLT.out; have := HZ3.out; omega)).mono ?_
  rintro e w4 ⟨b, g, rfl, hb4, hg4, hg4', hr4, hB4⟩
  have HB4 := Lib.hid (HB3.out.trans (hB4.mono HB3.out.size))
  have HS4 := Lib.hid (HS3.out.below hB4 (Nat.le_refl _))
  have HNE := Lib.hid (show ∀ a, p3 = some a → ¬ a.block = b from fun a ha => by
    rcases HS3.out.place with ⟨h1, -⟩ | ⟨h1, -⟩ | ⟨g1, off1, h1, h2, -⟩
    · rw [h1] at ha; cases ha
    · cases h1
    · rw [h1] at ha; cases ha; show ¬ g1 = b; omega)
  have HR4 := Lib.hid hr4
  have HG4 := Lib.hid hg4
  have HBL := Lib.hid (Nat.le_trans HB3.out.size hb4)
  clear hB4 hr4 hg4 hg4' hb4 HB3
  go_wp2_with fail
  refine (rdnum_any b _ g _ 2 1000 _ HR4.out HG4.out (by simp)).mono ?_
  rintro e w5 ⟨rfl, hR⟩
  have HR5 := Lib.hid (al3 ▸ hR)
  have HS5 := Lib.hid (HS4.out.chg HR5.out.2 HNE.out)
  have HB5 := Lib.hid (HB4.out.trans (HR5.out.2.below HB4.out.size (fun k hk => hk ▸ HBL.out)))
  rw [show (dNum ([1, 2, 2, 97, 98], 0) 2 1000).1 = 258 from by rw [al3]]
  clear hR HR4 HS4 HB4
  go_wp2_with fail
  refine (rdtext_any b _ g _ 5 _ HR5.out.1 HG4.out (by simp)).mono ?_
  rintro e w6 ⟨rfl, hR⟩
  have HR6 := Lib.hid (al4 ▸ hR)
  have HS6 := Lib.hid (HS5.out.chg HR6.out.2 HNE.out)
  have HB6 := Lib.hid (HB5.out.trans (HR6.out.2.below HB5.out.size (fun k hk => hk ▸ HBL.out)))
  rw [show (dText ([2, 97, 98], 0) 5).1 = [97, 98] from by rw [al4]]
  clear hR HR5 HS5 HB5
  go_wp2_with fail
  refine (rdleft_any b _ g _ _ HR6.out.1).mono ?_
  rintro e w' ⟨rfl, rfl⟩
  go_wp2_with fail
  refine (rdnum_any b _ g _ 1 9 _ HR6.out.1 HG4.out (by simp)).mono ?_
  rintro e w7 ⟨rfl, hR⟩
  have HR7 := Lib.hid (al5 ▸ hR)
  have HS7 := Lib.hid (HS6.out.chg HR7.out.2 HNE.out)
  have HB7 := Lib.hid (HB6.out.trans (HR7.out.2.below HB6.out.size (fun k hk => hk ▸ HBL.out)))
  clear hR HR6 HS6 HB6
  have kc := run_string_bs (P := Try.prog) w7 25 5 9 Try.underlying25 Try.underlying5 Try.underlying9 HS7.out
  go_wp2_with fail
  refine (rderr_any b _ g _ _ HR7.out.1).mono ?_
  rintro e w' ⟨rfl, rfl⟩
  go_wp2_with fail
  refine (nilRErr _).mono ?_
  rintro e w' ⟨rfl, rfl⟩
  go_wp2_with fail
  refine (nilRNum 1 1 _).mono ?_
  rintro e w' ⟨rfl, rfl⟩
  go_wp2_with fail
  go_ret
  exact ⟨rfl, HB7.out⟩

end Go.Proofs.Ytnajbkijejlgiaa

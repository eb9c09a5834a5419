/-
  The program's Seal and Open.
-/
import Derived.Test.YtbmcajhknohhdaaCrcE
import Derived.Test.YtbmcajhknohhdaaMkB
import Derived.Lib.EndianBits
namespace Go.Proofs.Ytbmcajhknohhdaa
open Go.RowKit

theorem le4_cells {S : Nat} (h : S < 4294967296) : (#[.int .u8 ((S : Int) % 256), .int .u8 ((S : Int) / 256 % 256), .int .u8 ((S : Int) / 65536 % 256), .int .u8 ((S : Int) / 16777216)] : Array Value).toList = bvs (le4 S) := by
  simp [bvs, le4]
  omega

theorem sumOne {p : Option Addr} {n c : Nat} {l : List UInt8} {w : World} (h : BsAt w p n c l) (hl : l.length ≤ 100000) :
    Calls Try.prog 40 #[.slice (some ⟨w.heap.size, 0, none⟩) 1 1] (w.alloc (.cells #[.slice p n c] 31)) fun e w' => e = .returned (.int .u32 (crcSum l : Nat)) ∧ Below w.heap.size w w' := by
  have h1 := cSum_any _ [l] _ (rows_one h 31) (by simp) (by intro m hm; rw [List.mem_singleton.1 hm]; exact hl)
  rw [show [l].flatten = l by simp] at h1
  exact h1.mono fun e w' ⟨he, hB⟩ => ⟨he, (belowNew w _).trans (hB.mono (by simp))⟩
theorem row_below {B : Nat} {w w' : World} {base e n : Nat} {v : Value} {xs : List Value} (h : w.ownsRow base e 1 v n xs) (hB : Below B w w') (hs : w.heap.size ≤ B) : w'.ownsRow base e 1 v n xs :=
  row_chg (S := fun _ => False) h ⟨hB.os, hB.tape, hB.output, hB.size, fun k hk _ => hB.block k (by omega)⟩ (fun _ _ h => h)

set_option maxRecDepth 100000 in
set_option maxHeartbeats 3200000 in
theorem cSeal_any : SealC := by
  intro p len cap l w h hl
  have hlen := h.same
  subst hlen
  have HH := Lib.hid h
  have HC := Lib.hid (show ((l.length : Int) + 4) = ((l.length + 4 : Nat) : Int) by simp)
  have hq : ([] : List UInt8).length + l.length ≤ 140737488355328 := by simp; omega
  have hsm : l.length + 4 ≤ 140737488355328 := by omega
  have tok1 : True := trivial
  clear h
  go_enter Try.func61, Try.ntmps61
  go_wp2_with (first
    | (refine wpList_make_bytes rfl _ _ 31 rfl w.heap.size 5 Try.underlying31 infoU8 (l.length + 4) rfl rfl HC.out hsm (Nat.le_refl _) ?_; intro w1 hown1 hg1; have HO1 := Lib.hid hown1; have HB1 := Lib.hid ((Below.refl w.heap.size w).grown hg1 (Nat.le_refl _) (fun k hk => by cases hk)); have HS1 := Lib.hid (HH.out.below HB1.out (Nat.le_refl _)); clear hown1 hg1)
    | (at_builtin; have _t := tok1; refine wpList_append_bytes rfl _ _ 31 rfl w.heap.size 5 Try.underlying31 infoU8 rfl HO1.out rfl HS1.out hq HB1.out.size ?_; intro p1 n1 c1' w2 hrow1 hg2 hn1; have HR := Lib.hid hrow1; have HB2 := Lib.hid (HB1.out.grown hg2 HB1.out.size (fun k hk => (HO1.out.lt k hk).1)); have HS2 := Lib.hid (HH.out.below HB2.out (Nat.le_refl _)); clear hrow1 hg2 hn1 tok1))
  refine (sumOne HS2.out hl).mono ?_
  rintro e w3 ⟨rfl, hB3⟩
  have hR3 := row_below HR.out hB3 (Nat.le_refl _)
  rw [List.nil_append] at hR3
  have HB3 := Lib.hid (HB2.out.trans (hB3.mono HB2.out.size))
  have hS := crcSum_lt l
  have HX := Lib.hid (show sealL l = l ++ le4 (crcSum l) from rfl)
  generalize crcSum l = S at *
  have HS4 := Lib.hid (bsAt_new w3 #[.int .u8 ((S : Int) % 256), .int .u8 ((S : Int) / 256 % 256), .int .u8 ((S : Int) / 65536 % 256), .int .u8 ((S : Int) / 16777216)] 5 0 (le4 S) (by simp [le4, maxLen]) (fun i hi => by
    rw [Nat.zero_add, ← Array.getElem?_toList, le4_cells hS]; exact bvs_get _ i hi))
  have hown4 := hR3.alloc (.cells #[.int .u8 ((S : Int) % 256), .int .u8 ((S : Int) / 256 % 256), .int .u8 ((S : Int) / 65536 % 256), .int .u8 ((S : Int) / 16777216)] 5)
  have HB4 := Lib.hid (HB3.out.alloc HB3.out.size (.cells #[.int .u8 ((S : Int) % 256), .int .u8 ((S : Int) / 256 % 256), .int .u8 ((S : Int) / 65536 % 256), .int .u8 ((S : Int) / 16777216)] 5))
  have hq2 : l.length + (le4 S).length ≤ 140737488355328 := by simp [le4]; omega
  clear hB3 hR3 HR HB2 HS2 HO1 HB1 HS1
  go_wp2_with (at_builtin; refine wpList_append_bytes rfl _ _ 31 rfl w.heap.size 5 Try.underlying31 infoU8 rfl hown4 rfl HS4.out hq2 HB4.out.size ?_; intro p5 n5 c5 w5 hrow5 hg5 hn5; have HR5 := Lib.hid hrow5; have HB5 := Lib.hid (HB4.out.grown hg5 HB4.out.size (fun k hk => (hown4.lt k hk).1)); clear hrow5 hg5 hn5 hown4)
  go_ret
  obtain ⟨q, d, e1, hbs⟩ := BsAt.ofRow HR5.out
  rw [← HX.out] at e1 hbs
  exact ⟨_, _, _, rfl, by rw [Value.slice.injEq] at e1; obtain ⟨rfl, rfl, rfl⟩ := e1; exact hbs, HB5.out⟩

end Go.Proofs.Ytbmcajhknohhdaa

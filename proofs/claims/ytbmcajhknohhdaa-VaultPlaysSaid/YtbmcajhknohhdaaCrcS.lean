/-
  The document's sealed bytes, and bits turned.
-/
import Derived.Test.YtbmcajhknohhdaaCrcR
import Derived.Laws.BitsAllLaws
namespace Go.Proofs.Ytbmcajhknohhdaa
open Go.RowKit

theorem le4_take {n j : Nat} (h : j < 4) : (le4 n).take (j + 1) = (le4 n).take j ++ [UInt8.ofNat (n / 256 ^ j)] := by
  have hc : j = 0 ∨ j = 1 ∨ j = 2 ∨ j = 3 := by omega
  rcases hc with rfl | rfl | rfl | rfl <;> simp [le4]
/-- Bytes of its own, in memory that was not there: an owned row. -/
def OwnIs (w : World) (l : List UInt8) (e : Ending) (w' : World) : Prop := ∃ p c, e = .returned (.slice p l.length c) ∧ w'.ownsRow w.heap.size 5 1 (.slice p l.length c) l.length (bvs l) ∧ Below w.heap.size w w'
theorem own_len {w : World} {base e n : Nat} {v : Value} {l : List UInt8} (h : w.ownsRow base e 1 v n (bvs l)) : n = l.length := by have := h.1; rw [bvs_length] at this; omega
theorem own_form {w : World} {base e : Nat} {v : Value} {l : List UInt8} (h : w.ownsRow base e 1 v l.length (bvs l)) : ∃ p c, v = .slice p l.length c := by
  rcases h.2 with ⟨rfl, h0⟩ | ⟨g, cap, cur, rfl, -⟩
  · exact ⟨none, 0, by rw [h0]⟩
  · exact ⟨_, cap, rfl⟩

set_option maxRecDepth 100000 in
set_option maxHeartbeats 3200000 in
theorem rcSeal_any (p : Option Addr) (len cap : Nat) (l : List UInt8) (w : World) (h : BsAt w p len cap l) (hsm : l.length ≤ 1000000) :
    Calls Try.prog 62 #[.slice p len cap] w (OwnIs w (sealL l)) := by
  have HS := Lib.hid (rcSum_any p len cap l w h hsm)
  have hown0 : (w.alloc (.cells #[] 5)).ownsRow w.heap.size 5 1 (.slice (some ⟨w.heap.size, 0, none⟩) 0 0) ([] : List UInt8).length (bvs []) := World.ownsRow_lit w #[] 0 (Nat.le_refl _) (by decide) rfl
  have HB2 := Lib.hid (h.below (belowNew w (.cells #[] 5)) (Nat.le_refl _))
  have hq : ([] : List UInt8).length + l.length ≤ 140737488355328 := by simp; omega
  have hz : w.heap.size ≤ (w.alloc (.cells #[] 5)).heap.size := by simp
  have hN := crcSum_lt l
  have tok1 : True := trivial
  generalize hX : crcSum l = N at *
  have HX := Lib.hid hX
  clear h hX
  go_enter Try.func62, Try.ntmps62
  go_wp2_with fail
  refine HS.out.mono ?_
  rintro e w' ⟨rfl, rfl⟩
  go_wp2_with (at_builtin; have _t := tok1; refine wpList_append_bytes rfl _ _ 31 rfl w.heap.size 5 Try.underlying31 infoU8 rfl hown0 rfl HB2.out hq hz ?_; intro p1 n1 c1' w1 hrow1 hg1 hn1; have HR := Lib.hid hrow1; have HG := Lib.hid hg1; clear hrow1 hg1 hn1 hown0 hz tok1)
  have hR := HR.out
  rw [List.nil_append] at hR
  have HR2 := Lib.hid hR
  have HB := Lib.hid ((belowNew w (.cells #[] 5)).grown HG.out (by simp) (fun k hk => by cases hk; exact Nat.le_refl _))
  clear hR HR HG
  go_loopw [3, 4, 5] (fun n v i wr => ∃ j : Nat, j ≤ 4 ∧ i = .int .i64 j ∧ n = .int .u32 (N / 256 ^ j : Nat) ∧ wr.ownsRow w.heap.size 5 1 v (l ++ (le4 N).take j).length (bvs (l ++ (le4 N).take j)) ∧ Below w.heap.size w wr) (fun _ _ i _ => 4 - (intOf i).toNat)
  case atStart => exact ⟨0, Nat.zero_le _, rfl, by simp, by
    have h1 := HR2.out
    have h2 : l ++ (le4 N).take 0 = l := by simp
    rw [h2]; exact h1, HB.out⟩
  case round =>
    obtain ⟨j, hj, rfl, rfl, hR, hB⟩ := hrel
    by_cases hj4 : j < 4
    · obtain ⟨pv, cv, rfl⟩ := own_form hR
      have hL : (l ++ (le4 N).take j).length ≤ 1000004 := by simp [le4]; omega
      have HT := Lib.hid (show l ++ (le4 N).take (j + 1) = l ++ (le4 N).take j ++ [UInt8.ofNat (N / 256 ^ j)] by rw [le4_take hj4, List.append_assoc])
      have HN := Lib.hid (show N / 256 ^ (j + 1) = N / 256 ^ j / 256 by rw [Nat.div_div_eq_div_mul, Nat.pow_succ])
      have hM : N / 256 ^ j < 4294967296 := Nat.lt_of_le_of_lt (Nat.div_le_self _ _) hN
      generalize l ++ (le4 N).take j = T at *
      generalize N / 256 ^ j = M at *
      have hown := hR.alloc (.cells #[.int .u8 ((M : Int) % 256)] 5)
      have HS2 := Lib.hid (bsAt_new wr #[.int .u8 ((M : Int) % 256)] 5 0 [UInt8.ofNat M] (by simp [maxLen]) (fun i hi => by
        obtain rfl : i = 0 := by simp at hi; omega
        exact congrArg (fun x => some (Value.int .u8 x)) (by show _ = (((UInt8.ofNat M).toNat : Nat) : Int); simp)))
      have HB3 := Lib.hid hB
      have HZ := Lib.hid (show w.heap.size ≤ (wr.alloc (.cells #[.int .u8 ((M : Int) % 256)] 5)).heap.size by have := hB.size; simp; omega)
      have hq2 : T.length + [UInt8.ofNat M].length ≤ 140737488355328 := by simp; omega
      have HL := Lib.hid (fun k hk => (hR.lt k hk).1)
      clear hR hB
      go_wp2_with (at_builtin; refine wpList_append_bytes rfl _ _ 31 rfl w.heap.size 5 Try.underlying31 infoU8 rfl hown rfl HS2.out hq2 HZ.out ?_; intro p3 n3 c3 w3 hrow3 hg3 hn3; have HR3 := Lib.hid hrow3; have HG3 := Lib.hid hg3; clear hrow3 hg3 hn3 hown)
      go_roundw
      case rel => exact ⟨j + 1, by omega, by go_num, by rw [HN.out]; go_num, by rw [HT.out]; exact HR3.out, (HB3.out.alloc HB3.out.size _).grown HG3.out HZ.out (fun k hk => HL.out k hk)⟩
      case measure => simp [intOf]; omega
    · obtain rfl : j = 4 := by omega
      have hT : l ++ (le4 N).take 4 = sealL l := by
        have := HX.out
        subst this
        rfl
      rw [hT] at hR
      obtain ⟨pv, cv, rfl⟩ := own_form hR
      have HR4 := Lib.hid hR
      have HB4 := Lib.hid hB
      clear hR hB hT
      go_wp2_with fail
      go_ret
      exact ⟨pv, cv, rfl, HR4.out, HB4.out⟩

end Go.Proofs.Ytbmcajhknohhdaa

/-
  What every law of layer 6 ends with: some calls that are known.
-/
import Derived.Test.YtppmhnbgfnackaaCrcV
import Derived.Test.YtppmhnbgfnackaaCrcG
import Derived.Deep.DeepCutAuto
import Derived.Lib.SmallJoins
namespace Go.Proofs.Ytppmhnbgfnackaa
open Go.RowKit

theorem seal_lit (W : World) (cs : Array Value) (fr : Nat × Nat) (l : List UInt8) (h : cs.toList = bvs l) (hl : l.length ≤ 1000) :
    Calls Try.prog 11 #[.slice (some ⟨W.heap.size, 0, none⟩) l.length l.length] (W.alloc (.cells cs 5 fr)) fun e w' => ∃ p c, e = .returned (.slice p (l.length + 4) c) ∧ BsAt w' p (l.length + 4) c (sealL l) ∧ Below W.heap.size W w' :=
  (cSeal_any _ _ _ l _ (bs_mark W cs fr l h hl) (by omega)).mono fun e w' ⟨p, n, c, he, hb, hB⟩ => by
    have h1 := hb.same
    rw [sealL_length] at h1
    subst h1
    exact ⟨p, c, he, hb, (below_mark W cs fr).trans (hB.mono (by simp))⟩
theorem open_lit (W : World) (cs : Array Value) (fr : Nat × Nat) (l : List UInt8) (h : cs.toList = bvs l) (hl : l.length ≤ 1000) {x : Int} (hx : openErr l = x) :
    Calls Try.prog 12 #[.slice (some ⟨W.heap.size, 0, none⟩) l.length l.length] (W.alloc (.cells cs 5 fr)) fun e w' => ∃ p n c, e = .returned (.tuple #[.slice p n c, .int .i64 x]) ∧ Below W.heap.size W w' :=
  (cOpen_any _ _ _ l _ (bs_mark W cs fr l h hl) (by omega)).mono fun e w' ⟨p, n, c, he, _, hB⟩ => by
    rw [hx] at he
    exact ⟨p, n, c, he, (below_mark W cs fr).trans (hB.mono (by simp))⟩

theorem add_lit (W : World) (cs : Array Value) (fr : Nat × Nat) (l m : List UInt8) (h : cs.toList = bvs m) (hl : m.length ≤ 1000) {x y : Int} (hx : ((crcSum l : Nat) : Int) = x) (hy : ((crcSum (l ++ m) : Nat) : Int) = y) :
    Calls Try.prog 7 #[.agg #[.int .u32 x], .slice (some ⟨W.heap.size, 0, none⟩) m.length m.length] (W.alloc (.cells cs 5 fr)) fun e w' => e = .returned (.agg #[.int .u32 y]) ∧ Below W.heap.size W w' := by
  rw [← hx, ← hy]
  exact (stAdd_any _ _ _ l m _ (bs_mark W cs fr m h hl) (by omega)).mono fun e w' ⟨he, hB⟩ => ⟨he, (below_mark W cs fr).trans (hB.mono (by simp))⟩
theorem crc_1 : ((crcSum [49] : Nat) : Int) = 2212294583 := by
  rw [show crcSum [49] = 2212294583 by decide +kernel]; rfl
theorem crc_9 : ((crcSum ([49] ++ [50, 51, 52, 53, 54, 55, 56, 57]) : Nat) : Int) = 3421780262 := by
  rw [show ([49] ++ [50, 51, 52, 53, 54, 55, 56, 57] : List UInt8) = [49, 50, 51, 52, 53, 54, 55, 56, 57] from rfl, crc_usual]; rfl
theorem sum_two (W : World) (t : TypeId) (ht : t = 24) :
    Calls Try.prog 9 #[.slice (some ⟨W.heap.size + 2, 0, none⟩) 2 2] (((W.alloc (.cells #[.int .u8 49, .int .u8 50, .int .u8 51, .int .u8 52] 5 (4, 5))).alloc (.cells #[.int .u8 53, .int .u8 54, .int .u8 55, .int .u8 56, .int .u8 57] 5 (5, 6))).alloc (.cells #[.slice (some ⟨W.heap.size, 0, none⟩) 4 4, .slice (some ⟨W.heap.size + 1, 0, none⟩) 5 5] t))
      fun e w' => e = .returned (.int .u32 3421780262) ∧ Below W.heap.size W w' := by
  subst ht
  have h1 := (bs_mark W #[.int .u8 49, .int .u8 50, .int .u8 51, .int .u8 52] (4, 5) t1234 rfl (by decide)).below (below_mark _ #[.int .u8 53, .int .u8 54, .int .u8 55, .int .u8 56, .int .u8 57] (5, 6)) (Nat.le_refl _)
  have h2 := bs_mark (W.alloc (.cells #[.int .u8 49, .int .u8 50, .int .u8 51, .int .u8 52] 5 (4, 5))) #[.int .u8 53, .int .u8 54, .int .u8 55, .int .u8 56, .int .u8 57] (5, 6) t56789 rfl (by decide)
  have h3 := cSum_any _ [t1234, t56789] _ (rows_two h1 h2 24) (by decide) (by decide)
  have e1 : ((crcSum [t1234, t56789].flatten : Nat) : Int) = 3421780262 := by
    rw [show [t1234, t56789].flatten = [49, 50, 51, 52, 53, 54, 55, 56, 57] from rfl, crc_usual]; rfl
  rw [e1] at h3
  simp only [World.size_alloc, Nat.add_assoc] at h3
  exact h3.mono fun e w' ⟨he, hB⟩ => ⟨he, (((below_mark W _ _).alloc (by simp) _).alloc (by simp; omega) _).trans (hB.mono (by omega))⟩

set_option maxRecDepth 100000 in
set_option maxHeartbeats 3200000 in
theorem crcAlive_any : CrcAliveC := by
  intro w
  have kc := fun (w : World) (C : Array Value) (n c : Nat) => Lib.run_convert_bytes_const (P := Try.prog) w 24 5 C n c Try.underlying24 Try.underlying5
  have HB1 := Lib.hid (belowNew w (.cells #[.int .u32 0] 27))
  have HS1 := Lib.hid (Blk.new w #[.int .u32 0] 27)
  go_enter Try.func6, Try.ntmps6
  go_upto_region 2 with fail
  generalize w.alloc (.cells #[.int .u32 0] 27) = W1 at *
  go_wp2_with fail
  refine (seal_lit W1 _ _ [97, 98] rfl (by decide)).mono ?_
  rintro e W2 ⟨p2, c2, rfl, hbs2, hB2⟩
  have HB2 := Lib.hid (HB1.out.trans (hB2.mono HB1.out.size))
  have HS2 := Lib.hid (HS1.out.below hB2 HS1.out.lt)
  clear hB2
  go_upto_region 3 with fail
  have HO2 := Lib.hid (cOpen_any p2 _ c2 (sealL [97, 98]) W2 hbs2 (by rw [sealL_length]; decide))
  clear hbs2
  go_wp2_with fail
  refine HO2.out.mono ?_
  rintro e W3 ⟨p3, n3, c3, rfl, hbs3, hB3⟩
  rw [open_ab.1]
  rw [open_ab.2] at hbs3
  have h3 : n3 = 2 := hbs3.same
  subst h3
  have HB3 := Lib.hid (HB2.out.trans (hB3.mono HB2.out.size))
  have HS3 := Lib.hid (HS2.out.below hB3 HS2.out.lt)
  have HX3 := Lib.hid hbs3
  clear hB3 hbs3
  go_upto_region 4 with fail
  go_wp2_with fail
  refine (open_lit W3 _ _ [97, 98, 99] rfl (by decide) open_short).mono ?_
  rintro e W4 ⟨p4, n4, c4, rfl, hB4⟩
  have HB4 := Lib.hid (HB3.out.trans (hB4.mono HB3.out.size))
  have HS4 := Lib.hid (HS3.out.below hB4 HS3.out.lt)
  have HX4 := Lib.hid (HX3.out.below hB4 (Nat.le_refl _))
  clear hB4
  go_upto_region 5 with fail
  go_wp2_with fail
  refine (open_lit W4 _ _ [1, 0, 0, 0, 0] rfl (by decide) open_wrong).mono ?_
  rintro e W5 ⟨p5, n5, c5, rfl, hB5⟩
  have HB5 := Lib.hid (HB4.out.trans (hB5.mono HB4.out.size))
  have HS5 := Lib.hid (HS4.out.below hB5 HS4.out.lt)
  have HX5 := Lib.hid (HX4.out.below hB5 (Nat.le_refl _))
  clear hB5
  go_upto_region 6 with fail
  have kc2 := fun (C : Array Value) (n c : Nat) => Joins.run_convert_bytes_const_at (P := Try.prog) (W5.alloc (.cells #[.int .u8 49, .int .u8 50, .int .u8 51, .int .u8 52] 5 (4, 5))) 24 5 C n c (W5.heap.size + 1) (by simp) Try.underlying24 Try.underlying5
  go_wp2_with fail
  refine (sum_two W5 _ rfl).mono ?_
  rintro e W6 ⟨rfl, hB6⟩
  have HB6 := Lib.hid (HB5.out.trans (hB6.mono HB5.out.size))
  have HS6 := Lib.hid (HS5.out.below hB6 HS5.out.lt)
  have HX6 := Lib.hid (HX5.out.below hB6 (Nat.le_refl _))
  have s6 : W6.cell? ⟨w.heap.size, 0, none⟩ = some (.int .u32 0) := HS6.out.cell 0
  clear hB6 kc2
  go_wp2_with fail
  refine (add_lit W6 _ _ [] [49] rfl (by decide) (by decide) crc_1).mono ?_
  rintro e W7 ⟨rfl, hB7⟩
  have HB7 := Lib.hid (HB6.out.trans (hB7.mono HB6.out.size))
  have HX7 := Lib.hid (HX6.out.below hB7 (Nat.le_refl _))
  clear hB7 s6
  go_wp2_with fail
  refine (add_lit W7 _ _ [49] [50, 51, 52, 53, 54, 55, 56, 57] rfl (by decide) crc_1 crc_9).mono ?_
  rintro e W8 ⟨rfl, hB8⟩
  have HB8 := Lib.hid (HB7.out.trans (hB8.mono HB7.out.size))
  have HX8 := Lib.hid (HX7.out.below hB8 (Nat.le_refl _))
  clear hB8
  go_wp2_with fail
  have hst := stSum_any ([49] ++ [50, 51, 52, 53, 54, 55, 56, 57]) W8
  rw [crc_9] at hst
  refine hst.mono ?_
  rintro e W9 ⟨rfl, hB9⟩
  have HB9 := Lib.hid (HB8.out.trans (hB9.mono HB8.out.size))
  have HX9 := Lib.hid (HX8.out.below hB9 (Nat.le_refl _))
  clear hB9 hst
  have st := run_string_bs (P := Try.prog) W9 24 5 9 Try.underlying24 Try.underlying5 Try.underlying9 HX9.out
  go_wp2_with fail
  go_ret
  exact ⟨rfl, HB9.out⟩

end Go.Proofs.Ytppmhnbgfnackaa

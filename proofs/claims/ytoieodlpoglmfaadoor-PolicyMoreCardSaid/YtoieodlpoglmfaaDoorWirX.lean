/-
  The document's Reader: Num.
-/
import Derived.Test.YtoieodlpoglmfaaDoorWirC
namespace Go.Proofs.YtoieodlpoglmfaaDoor
open Go.RowKit

theorem dNum_err {s : WSt} (he : s.2 ≠ 0) (hf : Fit s) (size most : Int) : dNum s size most = (0, s) := by
  have hn : ∀ c, failS s c = s := fun c => by unfold failS; rw [if_neg (fun x => he x.1)]
  have hl := hf he
  unfold dNum
  split
  · rename_i hz
    have h1 : 1 ≤ size.toNat := by simp only [sizedB, Bool.and_eq_true, decide_eq_true_eq] at hz; omega
    have ht : takeS s size.toNat = s := by unfold takeS; rw [if_pos (by rw [hl]; exact h1), hn]
    have hk : tookS s size.toNat = [] := by unfold tookS; rw [if_pos (by rw [hl]; exact h1)]
    rw [ht, hk, hn]
    split <;> rfl
  · rw [hn]
theorem dNum_size {l : List UInt8} {size : Int} (hz : sizedB size = false) (most : Int) : dNum (l, 0) size most = (0, ([], 8)) := by
  unfold dNum; rw [hz]; rfl
theorem dNum_short {l : List UInt8} {z : Nat} (hz : sizedB z = true) (h : l.length < z) (most : Int) : dNum (l, 0) z most = (0, ([], 4)) := by
  have ht : takeS (l, 0) z = ([], 4) := by unfold takeS; rw [if_pos h]; rfl
  have hk : tookS (l, 0) z = [] := by unfold tookS; rw [if_pos h]
  unfold dNum
  rw [hz, if_pos rfl]
  simp only [Int.toNat_natCast]
  rw [ht, hk]
  split <;> rfl
theorem dNum_long {l : List UInt8} {z : Nat} (hz : sizedB z = true) (h : z ≤ l.length) (most : Int) : dNum (l, 0) z most = if most < (valB (l.take z) : Int) then (0, ([], 8)) else (((valB (l.take z) : Nat) : Int), (l.drop z, 0)) := by
  have ht : takeS (l, 0) z = (l.drop z, 0) := by unfold takeS; rw [if_neg (by simp; omega)]
  have hk : tookS (l, 0) z = l.take z := by unfold tookS; rw [if_neg (by simp; omega)]
  unfold dNum
  rw [hz, if_pos rfl]
  simp only [Int.toNat_natCast]
  rw [ht, hk]
  rfl
theorem byte_cons {l : List UInt8} {j : Nat} (h : j < l.length) : byteV (l.drop j, 0) = l[j].toNat ∧ byteS (l.drop j, 0) = (l.drop (j + 1), 0) := by
  have hd : l.drop j = l[j] :: l.drop (j + 1) := List.drop_eq_getElem_cons h
  exact ⟨by unfold byteV; rw [if_pos rfl, hd]; rfl, by unfold byteS; rw [if_pos rfl, hd]⟩
theorem byte_nil {l : List UInt8} {j : Nat} (h : l.length ≤ j) : byteV (l.drop j, 0) = 0 ∧ byteS (l.drop j, 0) = ([], 4) := by
  have hd : l.drop j = [] := List.drop_eq_nil_of_le h
  exact ⟨by unfold byteV; rw [if_pos rfl, hd]; rfl, by unfold byteS; rw [if_pos rfl, hd]⟩

def XNumIs (w : World) (b : Nat) (t : TypeId) (g : Nat) (L : List UInt8) (r : Int × (List UInt8 × Int)) (e : Ending) (w' : World) : Prop := e = .returned (.int .i64 r.1) ∧ XTo w b t g L r.2 w'

set_option maxHeartbeats 1600000 in
theorem xnum_err (b : Nat) (t : TypeId) (g : Nat) (L : List UInt8) (s : List UInt8 × Int) (size most : Int) (w : World) (h : XRd w b t g L s) (he : s.2 ≠ 0) :
    Calls Tryd.prog 63 #[.pointer (some ⟨b, 0, none⟩), .int .i64 size, .int .i64 most] w (XNumIs w b t g L (dNum s size most)) := by
  obtain ⟨p, c, k, hk, hb, hp, hs, hf⟩ := h
  rw [dNum_err he hf]
  have c2 : w.cell? ⟨b, 2, none⟩ = some (.int .i64 s.2) := hk.cell 2
  have HX := Lib.hid (show XRd w b t g L s from ⟨p, c, k, hk, hb, hp, hs, hf⟩)
  have b1 : (s.2 == 0) = false := by simpa using he
  have b2 : (s.2 != 0) = true := by simpa using he
  clear hk hb hp hs hf he
  go_enter Tryd.func63, Tryd.ntmps63
  go_wp2_with fail
  go_loop [7, 8] (fun n i => n = .int .i64 0 ∧ i = .int .i64 0) (fun _ _ => 0)
  case atStart => exact ⟨rfl, rfl⟩
  case round =>
    obtain ⟨rfl, rfl⟩ := hrel
    by_cases h0 : 0 < size
    · go_wp2_with fail
      go_ret
      exact ⟨rfl, XTo.refl HX.out⟩
    · go_wp2_with fail
      go_ret
      exact ⟨rfl, XTo.refl HX.out⟩

set_option maxHeartbeats 1600000 in
theorem xnum_size (b : Nat) (t : TypeId) (g : Nat) (L : List UInt8) (l : List UInt8) (size most : Int) (w : World) (h : XRd w b t g L (l, 0)) (hg : g ≠ b) (hz : size < 1 ∨ 4 < size) :
    Calls Tryd.prog 63 #[.pointer (some ⟨b, 0, none⟩), .int .i64 size, .int .i64 most] w (XNumIs w b t g L (0, ([], 8))) := by
  have HX := Lib.hid h
  obtain ⟨p, c, k, hk, hb, hp, hs, hf⟩ := h
  have c2 : w.cell? ⟨b, 2, none⟩ = some (.int .i64 0) := hk.cell 2
  have f2 := hk.free 2
  have HS := Lib.hid (HX.out.set hg (c := 8) (by decide))
  clear hk hb hp hs hf
  by_cases h1 : size < 1
  · have h0 : ¬ 0 < size := by omega
    clear hz
    go_enter Tryd.func63, Tryd.ntmps63
    go_wp2_with fail
    go_loop [7, 8] (fun n i => n = .int .i64 0 ∧ i = .int .i64 0) (fun _ _ => 0)
    case atStart => exact ⟨rfl, rfl⟩
    case round =>
      obtain ⟨rfl, rfl⟩ := hrel
      go_wp2_with fail
      go_ret
      exact ⟨rfl, HS.out⟩
  · have h4 : 4 < size := by omega
    have h0 : 0 < size := by omega
    clear hz
    go_enter Tryd.func63, Tryd.ntmps63
    go_wp2_with fail
    go_loop [7, 8] (fun n i => n = .int .i64 0 ∧ i = .int .i64 0) (fun _ _ => 0)
    case atStart => exact ⟨rfl, rfl⟩
    case round =>
      obtain ⟨rfl, rfl⟩ := hrel
      go_wp2_with fail
      go_ret
      exact ⟨rfl, HS.out⟩

/-- What holds at the head of a round. -/
def NumAt (w : World) (b : Nat) (t : TypeId) (g : Nat) (L l : List UInt8) (z j : Nat) (n : Value) (wr : World) : Prop :=
  (j ≤ l.length ∧ n = .int .i64 (valB (l.take j) : Nat) ∧ XTo w b t g L (l.drop j, 0) wr) ∨ (l.length < z ∧ (∃ m : Int, n = .int .i64 m) ∧ XTo w b t g L ([], 4) wr)
set_option maxRecDepth 100000 in
set_option maxHeartbeats 3200000 in
theorem xnum_in (b : Nat) (t : TypeId) (g : Nat) (L : List UInt8) (l : List UInt8) (z : Nat) (most : Int) (w : World) (h : XRd w b t g L (l, 0)) (hg : g ≠ b) (hL : L.length ≤ 1000000) (h1 : 1 ≤ z) (h4 : z ≤ 4) :
    Calls Tryd.prog 63 #[.pointer (some ⟨b, 0, none⟩), .int .i64 z, .int .i64 most] w (XNumIs w b t g L (dNum (l, 0) z most)) := by
  have hz : sizedB z = true := by unfold sizedB; simp; omega
  have HX := Lib.hid h
  have HG := Lib.hid hg
  obtain ⟨p, c, k, hk, hb, hp, hs, hf⟩ := h
  have c2 : w.cell? ⟨b, 2, none⟩ = some (.int .i64 0) := hk.cell 2
  have HSh := Lib.hid (fun (h : l.length < z) => dNum_short hz h most)
  have HLo := Lib.hid (fun (h : z ≤ l.length) => dNum_long hz h most)
  clear hk hb hp hs hf hz hg
  generalize dNum (l, 0) z most = D at *
  go_enter Tryd.func63, Tryd.ntmps63
  go_wp2_with fail
  go_loopw [7, 8] (fun n i wr => ∃ j : Nat, j ≤ z ∧ i = .int .i64 j ∧ NumAt w b t g L l z j n wr) (fun _ i _ => z - (intOf i).toNat)
  case atStart => exact ⟨0, Nat.zero_le _, rfl, .inl ⟨Nat.zero_le _, by simp [valB], XTo.refl HX.out⟩⟩
  case round =>
    obtain ⟨j, hj, rfl, hN⟩ := hrel
    rcases hN with ⟨hjl, rfl, hX⟩ | ⟨hlz, ⟨m, rfl⟩, hX⟩
    · have HXX := Lib.hid hX
      obtain ⟨⟨p, c, k, hk, -⟩, -⟩ := hX
      have d2 : wr.cell? ⟨b, 2, none⟩ = some (.int .i64 0) := hk.cell 2
      have e2 := hk.free 2
      have hvs := valB_small (l.take j) (by simp; omega)
      clear hk c2
      by_cases hjz : j < z
      · have HC := Lib.hid (xbyte_any b t g L (l.drop j, 0) wr HXX.out.1 HG.out hL)
        by_cases hjl2 : j < l.length
        · obtain ⟨hv, hs⟩ := byte_cons hjl2
          have HV := Lib.hid (valB_take_succ l j hjl2)
          have hx : l[j].toNat < 256 := l[j].toNat_lt
          have HB := Lib.hid (And.intro hv hs)
          clear hv hs
          generalize valB (l.take j) = a at *
          generalize l[j].toNat = x at *
          go_wp2_with fail
          refine HC.out.mono ?_
          rintro e w2 ⟨rfl, hX2⟩
          rw [HB.out.1]
          have HX2 := Lib.hid (HXX.out.trans hX2)
          clear hX2 d2 e2
          go_wp2_with fail
          go_roundw
          case rel => exact ⟨j + 1, by omega, by go_num, .inl ⟨by omega, by rw [HV.out]; go_num, by have := HX2.out; rw [HB.out.2] at this; exact this⟩⟩
          case measure => simp [intOf]; omega
        · obtain ⟨hv, hs⟩ := byte_nil (l := l) (j := j) (by omega)
          have HB := Lib.hid (And.intro hv hs)
          clear hv hs
          generalize valB (l.take j) = a at *
          go_wp2_with fail
          refine HC.out.mono ?_
          rintro e w2 ⟨rfl, hX2⟩
          rw [HB.out.1]
          have HX2 := Lib.hid (HXX.out.trans hX2)
          clear hX2 d2 e2
          go_wp2_with fail
          go_roundw
          case rel => exact ⟨j + 1, by omega, by go_num, .inr ⟨by omega, ⟨_, rfl⟩, by have := HX2.out; rw [HB.out.2] at this; exact this⟩⟩
          case measure => simp [intOf]; omega
      · obtain rfl : j = z := by omega
        have hD := HLo.out hjl
        have HSet := Lib.hid (HXX.out.1.set HG.out (c := 8) (by decide))
        clear HSh HLo
        generalize valB (l.take j) = a at *
        by_cases hm : most < (a : Int)
        · rw [if_pos hm] at hD
          have HD := Lib.hid hD
          clear hD
          go_wp2_with fail
          go_ret
          refine ⟨by rw [HD.out]; rfl, ?_⟩
          rw [HD.out]
          exact HXX.out.trans HSet.out
        · rw [if_neg hm] at hD
          have HD := Lib.hid hD
          clear hD
          go_wp2_with fail
          go_ret
          refine ⟨by rw [HD.out]; rfl, ?_⟩
          rw [HD.out]
          exact HXX.out
    · have HXX := Lib.hid hX
      obtain ⟨⟨p, c, k, hk, -⟩, -⟩ := hX
      have d2 : wr.cell? ⟨b, 2, none⟩ = some (.int .i64 4) := hk.cell 2
      have HD := Lib.hid (HSh.out hlz)
      clear hk c2 HSh HLo
      by_cases hjz : j < z
      · go_wp2_with fail
        go_ret
        refine ⟨by rw [HD.out]; rfl, ?_⟩
        rw [HD.out]
        exact HXX.out
      · go_wp2_with fail
        go_ret
        refine ⟨by rw [HD.out]; rfl, ?_⟩
        rw [HD.out]
        exact HXX.out

theorem xnum_any (b : Nat) (t : TypeId) (g : Nat) (L : List UInt8) (s : List UInt8 × Int) (size most : Int) (w : World) (h : XRd w b t g L s) (hg : g ≠ b) (hL : L.length ≤ 1000000) :
    Calls Tryd.prog 63 #[.pointer (some ⟨b, 0, none⟩), .int .i64 size, .int .i64 most] w (XNumIs w b t g L (dNum s size most)) := by
  by_cases he : s.2 = 0
  · obtain ⟨l, e⟩ := s
    simp only at he
    subst he
    by_cases hz : size < 1 ∨ 4 < size
    · rw [dNum_size (by simp only [sizedB, Bool.and_eq_false_iff, decide_eq_false_iff_not]; omega)]
      exact xnum_size b t g L l size most w h hg hz
    · obtain ⟨z, rfl⟩ := Int.eq_ofNat_of_zero_le (show 0 ≤ size by omega)
      exact xnum_in b t g L l z most w h hg hL (by omega) (by omega)
  · exact xnum_err b t g L s size most w h he

end Go.Proofs.YtoieodlpoglmfaaDoor

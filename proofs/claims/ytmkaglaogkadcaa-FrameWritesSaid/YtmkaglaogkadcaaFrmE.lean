/-
  The program's frames: a part of a block, ranges, the numbers at the beginning of a block, bytes that are all 0.
-/
import Derived.Test.YtmkaglaogkadcaaFrmC
import Derived.Test.YtmkaglaogkadcaaWirV
import Derived.Test.YtmkaglaogkadcaaCrcG
import Derived.Test.YtmkaglaogkadcaaRowB
import Derived.Lib.BufferWrite
namespace Go.Proofs.Ytmkaglaogkadcaa
open Go.RowKit

/-- Where a part of a block lies. -/
def partP (p : Option Addr) (lo hi : Nat) : Option Addr := if hi = lo then p else p.map (·.add lo)
set_option maxHeartbeats 400000 in
theorem fpart_any (p : Option Addr) (len cap lo hi : Nat) (x y : Int) (w : World) (hx : x = (lo : Int)) (hy : y = (hi : Int)) (h1 : lo ≤ hi) (h2 : hi ≤ cap) :
    Calls Try.prog 19 #[.slice p len cap, .int .i64 x, .int .i64 y] w fun e w' => e = .returned (.slice (partP p lo hi) (hi - lo) (hi - lo)) ∧ w = w' := by
  have q : ∀ V, (Instr.slice 22 (.slice p len cap) (some (.int .i64 x)) (some (.int .i64 y)) (some (.int .i64 y))).run Try.prog V = .ok (.slice (partP p lo hi) (hi - lo) (hi - lo)) V := by
    intro V
    rw [run_slice_lhm V _ _ _ _ elemU8 .i64 .i64 .i64 _ _ _ (by omega) (by omega) (by omega) (by omega), sizeU8]
    subst hx; subst hy
    simp [Result.andThen, sliced, partP]
  clear hx hy h1 h2
  go_enter Try.func19, Try.ntmps19
  go_wp2_with fail
  go_ret
  exact ⟨rfl, rfl⟩
/-- A part that is not empty, of a block that has an address. -/
theorem fpart_at (g off len cap lo hi : Nat) (x y : Int) (o n : Nat) (w : World) (hx : x = (lo : Int)) (hy : y = (hi : Int)) (h1 : lo < hi) (h2 : hi ≤ cap) (ho : off + lo = o) (hn : hi - lo = n) :
    Calls Try.prog 19 #[.slice (some ⟨g, off, none⟩) len cap, .int .i64 x, .int .i64 y] w fun e w' => e = .returned (.slice (some ⟨g, o, none⟩) n n) ∧ w = w' := by
  refine (fpart_any (some ⟨g, off, none⟩) len cap lo hi x y w hx hy (by omega) h2).mono fun e w' ⟨he, hw⟩ => ⟨?_, hw⟩
  subst ho; subst hn
  rw [he, partP, if_neg (by omega)]
  have : (⟨g, off, none⟩ : Addr).add lo = ⟨g, off + lo, none⟩ := by unfold Addr.add; split <;> simp_all
  simp [this]
/-- A part reads as the bytes there. -/
theorem part_bs {w : World} {p : Option Addr} {len cap lo hi : Nat} {l : List UInt8} (h : BsAt w p len cap l) (h1 : lo ≤ hi) (h2 : hi ≤ len) : BsAt w (partP p lo hi) (hi - lo) (hi - lo) ((l.take hi).drop lo) := by
  have hl := h.same
  have ht := bs_take (n := hi) h (by omega)
  have hc : BsAt w p hi hi (l.take hi) := by
    refine ⟨ht.same, Nat.le_refl _, by have := h.le; have := h.small; omega, ?_⟩
    rcases ht.place with ⟨h3, h4⟩ | h3 | h3
    · exact .inl ⟨h3, by have := h.le; omega⟩
    · exact .inr (.inl h3)
    · exact .inr (.inr h3)
  have hd := bs_drop (n := lo) hc (by rw [List.length_take]; omega)
  exact hd

set_option maxHeartbeats 400000 in
theorem fwithin_any (n most : Int) (w : World) : Calls Try.prog 17 #[.int .i64 n, .int .i64 most] w fun e w' => e = .returned (.bool (decide (0 ≤ n) && decide (n ≤ most))) ∧ w = w' := by
  by_cases h1 : 0 ≤ n
  · by_cases h2 : n ≤ most
    · have b1 : decide (0 ≤ n) = true := by simpa using h1
      have b2 : decide (n ≤ most) = true := by simpa using h2
      go_enter Try.func17, Try.ntmps17
      go_wp2_with fail
      go_ret
      exact ⟨by rw [b1, b2]; rfl, rfl⟩
    · have b1 : decide (0 ≤ n) = true := by simpa using h1
      have b2 : decide (n ≤ most) = false := by simpa using h2
      clear h1 h2
      go_enter Try.func17, Try.ntmps17
      go_wp2_with fail
      go_ret
      exact ⟨by rw [b1, b2]; rfl, rfl⟩
  · have b1 : decide (0 ≤ n) = false := by simpa using h1
    clear h1
    go_enter Try.func17, Try.ntmps17
    go_wp2_with fail
    go_ret
    exact ⟨by rw [b1]; rfl, rfl⟩

theorem wNum_fit {l : List UInt8} {n : Nat} {k : Nat} (h1 : 1 ≤ k) (h4 : k ≤ 4) (hn : n < 256 ^ k) : wNum (l, 0) (n : Int) (k : Int) = (l ++ be n k, 0) := by
  have ho : okN (n : Int) (k : Int) = true := by
    rw [okN_iff]
    refine ⟨by omega, by omega, by omega, ?_⟩
    have e : (256 : Int) ^ k = ((256 ^ k : Nat) : Int) := (Int.natCast_pow 256 k).symm
    rw [Int.toNat_natCast, e]
    exact Int.ofNat_lt.2 hn
  unfold wNum addS
  rw [if_pos ho, if_pos rfl, Int.toNat_natCast, Int.toNat_natCast]
theorem head_num (kd : UInt8) (gen seq n : Nat) (hg : gen < 4294967296) (hs : seq < 65536) (hn : n < 256) :
    wNum (wNum (wNum (wNum ([], 0) (kd.toNat : Int) 1) (gen : Int) 4) (seq : Int) 2) (n : Int) 1 = (frHead kd gen seq n, 0) := by
  have e1 : wNum ([], 0) (kd.toNat : Int) 1 = _ := wNum_fit (l := []) (n := kd.toNat) (k := 1) (by omega) (by omega) (by have := kd.toNat_lt; simpa using this)
  have e2 : wNum ([] ++ be kd.toNat 1, 0) (gen : Int) 4 = _ := wNum_fit (l := [] ++ be kd.toNat 1) (n := gen) (k := 4) (by omega) (by omega) (by simpa using hg)
  have e3 : wNum ([] ++ be kd.toNat 1 ++ be gen 4, 0) (seq : Int) 2 = _ := wNum_fit (l := [] ++ be kd.toNat 1 ++ be gen 4) (n := seq) (k := 2) (by omega) (by omega) (by simpa using hs)
  have e4 : wNum ([] ++ be kd.toNat 1 ++ be gen 4 ++ be seq 2, 0) (n : Int) 1 = _ := wNum_fit (l := [] ++ be kd.toNat 1 ++ be gen 4 ++ be seq 2) (n := n) (k := 1) (by omega) (by omega) (by simpa using hn)
  rw [e1, e2, e3, e4]
  simp [be, frHead, Nat.div_div_eq_div_mul]

set_option maxRecDepth 100000 in
set_option maxHeartbeats 1600000 in
theorem fnumbers_any (kd : UInt8) (gen seq n : Nat) (w : World) (hg : gen < 4294967296) (hs : seq < 65536) (hn : n < 256) :
    Calls Try.prog 18 #[.int .u8 (kd.toNat : Int), .int .i64 (gen : Int), .int .i64 (seq : Int), .int .i64 (n : Int)] w fun e w' => ∃ v, e = .returned (.tuple #[v, .int .i64 0]) ∧ BsNew w (frHead kd gen seq n) v w' ∧ Below w.heap.size w w' := by
  have HN := Lib.hid (head_num kd gen seq n hg hs hn)
  have H0 := Lib.hid (WAt.new w 59)
  have hk := kd.toNat_lt
  generalize kd.toNat = k at *
  have hkw : IntKind.i64.wrap (k : Int) = (k : Int) := IntWalk.i64_in _ (by omega)
  go_enter Try.func18, Try.ntmps18
  go_wp2_with fail
  refine (wnum_any w.heap.size w.heap.size _ _ _ _ _ _ H0.out (by simp) (by simp)).mono ?_
  rintro e w1 ⟨rfl, v1, hT1⟩
  have HT1 := Lib.hid hT1
  have HB1 := Lib.hid ((belowNew w _).trans (hT1.below H0.out (by simp) (Nat.le_refl _)))
  have hl1 := wNum_le ([], 0) (k : Int) 1
  clear hT1
  go_wp2_with fail
  refine (wnum_any w.heap.size w.heap.size _ _ _ _ _ _ HT1.out.now HB1.out.size (by simp at hl1; omega)).mono ?_
  rintro e w2 ⟨rfl, v2, hT2⟩
  have HT2 := Lib.hid hT2
  have HB2 := Lib.hid (HB1.out.trans (hT2.below HT1.out.now HB1.out.size (Nat.le_refl _)))
  have hl2 := wNum_le (wNum ([], 0) (k : Int) 1) (gen : Int) 4
  clear hT2
  go_wp2_with fail
  refine (wnum_any w.heap.size w.heap.size _ _ _ _ _ _ HT2.out.now HB2.out.size (by simp at hl1; omega)).mono ?_
  rintro e w3 ⟨rfl, v3, hT3⟩
  have HT3 := Lib.hid hT3
  have HB3 := Lib.hid (HB2.out.trans (hT3.below HT2.out.now HB2.out.size (Nat.le_refl _)))
  have hl3 := wNum_le (wNum (wNum ([], 0) (k : Int) 1) (gen : Int) 4) (seq : Int) 2
  clear hT3
  go_wp2_with fail
  refine (wnum_any w.heap.size w.heap.size _ _ _ _ _ _ HT3.out.now HB3.out.size (by simp at hl1; omega)).mono ?_
  rintro e w4 ⟨rfl, v4, hT4⟩
  have HT4 := Lib.hid hT4
  have HB4 := Lib.hid (HB3.out.trans (hT4.below HT3.out.now HB3.out.size (Nat.le_refl _)))
  have hl4 := wNum_le (wNum (wNum (wNum ([], 0) (k : Int) 1) (gen : Int) 4) (seq : Int) 2) (n : Int) 1
  clear hT4
  go_wp2_with fail
  refine (done_any w.heap.size w.heap.size _ _ _ _ HT4.out.now (by simp at hl1; omega)).mono ?_
  rintro e w5 ⟨v5, rfl, hbs, hB5⟩
  have HB5 := Lib.hid (HB4.out.trans (hB5.mono HB4.out.size))
  have HS5 := Lib.hid (hbs.older HB4.out.size)
  rw [HN.out] at HS5
  rw [HN.out]
  clear hbs hB5 HN
  go_wp2_with fail
  refine bodyPost_ret (results_tmp2 rfl _ _ _) rfl ?_
  exact ⟨_, rfl, HS5.out, HB5.out⟩

set_option maxHeartbeats 1600000 in
theorem fblank_any (p : Option Addr) (len cap : Nat) (l : List UInt8) (w : World) (h : BsAt w p len cap l) :
    Calls Try.prog 33 #[.slice p len cap] w fun e w' => e = .returned (.bool (l.all fun c => c == 0)) ∧ w = w' := by
  have hlen := h.same
  subst hlen
  have hm : l.length ≤ 9223372036854775807 := by have := h.le; have := h.small; unfold maxLen at this; omega
  have HB := Lib.hid h
  clear h
  go_enter Try.func33, Try.ntmps33
  go_wp2_with fail
  go_loop [7] (fun i => ∃ j : Nat, j ≤ l.length ∧ i = .int .i64 j ∧ (l.take j).all (fun c => c == 0) = true) (fun i => l.length - (intOf i).toNat)
  case atStart => exact ⟨0, Nat.zero_le _, rfl, by simp⟩
  case round =>
    obtain ⟨j, hj, rfl, ha⟩ := hrel
    have HA := Lib.hid ha
    clear ha
    by_cases hlt : j < l.length
    · obtain ⟨g', off, rfl, hc⟩ : ∃ g' off, p = some ⟨g', off, none⟩ ∧ w.cell? ⟨g', off + j, none⟩ = some (.int .u8 (l[j].toNat : Int)) := by
        rcases HB.out.place with ⟨-, h2⟩ | ⟨h2, -⟩ | ⟨g', off, rfl, -, h3⟩
        · have := HB.out.le; omega
        · rw [h2] at hlt; simp at hlt
        · exact ⟨g', off, rfl, h3 j hlt⟩
      by_cases hz : l[j] = 0
      · have hx : ((l[j].toNat : Nat) : Int) = 0 := by rw [hz]; rfl
        rw [hx] at hc
        have HA2 := Lib.hid (show (l.take (j + 1)).all (fun c => c == 0) = true by rw [List.take_succ_eq_append_getElem hlt, List.all_append, HA.out, hz]; rfl)
        clear hz hx
        go_wp2_with fail
        go_round
        case rel => exact ⟨j + 1, by omega, by go_num, HA2.out⟩
        case measure => simp [intOf]; omega
      · have HE := Lib.hid (show (l.all fun c => c == 0) = false by
          rw [List.all_eq_false]
          exact ⟨l[j], List.getElem_mem hlt, by simpa using hz⟩)
        have hx : ¬ ((l[j].toNat : Nat) : Int) = 0 := by
          intro e
          exact hz (UInt8.toNat_inj.1 (by simpa using e))
        generalize l[j].toNat = x at *
        clear hz
        go_wp2_with fail
        go_ret
        exact ⟨by rw [HE.out]; rfl, rfl⟩
    · have HE := Lib.hid (show (l.all fun c => c == 0) = true by rw [← HA.out, List.take_of_length_le (by omega)])
      go_wp2_with fail
      go_ret
      exact ⟨by rw [HE.out]; rfl, rfl⟩
end Go.Proofs.Ytmkaglaogkadcaa

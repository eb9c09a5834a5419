/-
  The document's Turn: bits of bytes turned.
-/
import Derived.Test.YtppmhnbgfnackaaCrcS
import Derived.Laws.BitsAllLaws
import Derived.IntWalk
namespace Go.Proofs.Ytppmhnbgfnackaa
open Go.RowKit

theorem bvs_set (l : List UInt8) (q : Nat) (x : UInt8) : bvs (l.set q x) = (bvs l).set q (.int .u8 (x.toNat : Int)) := by simp [bvs, List.map_set]
/-- Bytes of its own with these bits turned. -/
def TurnIs (w : World) (l : List UInt8) (a : Int) (mask : Nat) (e : Ending) (w' : World) : Prop := ∃ t p c, e = .returned (.slice p t.length c) ∧ w'.ownsRow w.heap.size 5 1 (.slice p t.length c) t.length (bvs t) ∧ Below w.heap.size w w' ∧ t.length = l.length ∧ leN t = leN l ^^^ turnE (8 * l.length) a mask 32
/-- What holds at the head of a round. -/
def TurnAt (w : World) (l : List UInt8) (a : Int) (mask j : Nat) (V : Value) (wr : World) : Prop := ∃ t : List UInt8, t.length = l.length ∧ leN t = leN l ^^^ turnE (8 * l.length) a mask j ∧ wr.ownsRow w.heap.size 5 1 V t.length (bvs t) ∧ Below w.heap.size w wr
theorem turn_yes {n : Nat} {a : Int} {mask j : Nat} (h : turnB n a mask j = true) : turnE n a mask (j + 1) = turnE n a mask j ^^^ 2 ^ (a + j).toNat := by rw [turnE, if_pos h]
theorem turn_no {n : Nat} {a : Int} {mask j : Nat} (h : turnB n a mask j = false) : turnE n a mask (j + 1) = turnE n a mask j := by rw [turnE, if_neg (by rw [h]; decide), Nat.xor_zero]
theorem two_small {m : Nat} (h : m < 7) : 2 ^ m ≤ 64 := by
  have := Nat.pow_le_pow_right (n := 2) (by decide) (show m ≤ 6 by omega)
  simpa using this

set_option maxRecDepth 100000 in
set_option maxHeartbeats 6400000 in
theorem rcTurn_any (p : Option Addr) (len cap : Nat) (l : List UInt8) (a : Int) (mask : Nat) (w : World) (h : BsAt w p len cap l) (hsm : l.length ≤ 1000000) (ha : -40 ≤ a) (ha2 : a ≤ 10000) (hmask : mask < 4294967296) :
    Calls Try.prog 14 #[.slice p len cap, .int .i64 a, .int .u32 (mask : Int)] w (TurnIs w l a mask) := by
  have hown0 : (w.alloc (.cells #[] 5)).ownsRow w.heap.size 5 1 (.slice (some ⟨w.heap.size, 0, none⟩) 0 0) ([] : List UInt8).length (bvs []) := World.ownsRow_lit w #[] 0 (Nat.le_refl _) (by decide) rfl
  have HB2 := Lib.hid (h.below (belowNew w (.cells #[] 5)) (Nat.le_refl _))
  have hq : ([] : List UInt8).length + l.length ≤ 140737488355328 := by simp; omega
  have hz : w.heap.size ≤ (w.alloc (.cells #[] 5)).heap.size := by simp
  have tok1 : True := trivial
  clear h
  go_enter Try.func14, Try.ntmps14
  go_wp2_with (at_builtin; have _t := tok1; refine wpList_append_bytes rfl _ _ 24 rfl w.heap.size 5 Try.underlying24 infoU8 rfl hown0 rfl HB2.out hq hz ?_; intro p1 n1 c1' w1 hrow1 hg1 hn1; have HR := Lib.hid hrow1; have HG := Lib.hid hg1; clear hrow1 hg1 hn1 hown0 hz tok1)
  have hR := HR.out
  rw [List.nil_append] at hR
  obtain rfl : n1 = l.length := by
    obtain ⟨pv, cv, e⟩ := own_form hR
    cases e; rfl
  have HR2 := Lib.hid hR
  have HB := Lib.hid ((belowNew w (.cells #[] 5)).grown HG.out (by simp) (fun k hk => by cases hk; exact Nat.le_refl _))
  clear hR HR HG
  go_loopw [2, 8] (fun m i wr => ∃ j : Nat, j ≤ 32 ∧ i = .int .i64 j ∧ m = .int .u32 (mask / 2 ^ j : Nat) ∧ TurnAt w l a mask j (.slice p1 l.length c1') wr) (fun _ i _ => 32 - (intOf i).toNat)
  case atStart => exact ⟨0, Nat.zero_le _, rfl, by simp, l, rfl, by simp [turnE], HR2.out, HB.out⟩
  case round =>
    obtain ⟨j, hj, rfl, rfl, t, ht, hle, hR, hB⟩ := hrel
    rw [ht] at hR
    have HR3 := Lib.hid hR
    have HB3 := Lib.hid hB
    have HE := Lib.hid (And.intro ht hle)
    clear hR hB hle
    by_cases hj32 : j < 32
    · have HN := Lib.hid (show mask / 2 ^ (j + 1) = mask / 2 ^ j / 2 by rw [Nat.div_div_eq_div_mul, Nat.pow_succ])
      have hM : mask / 2 ^ j < 4294967296 := Nat.lt_of_le_of_lt (Nat.div_le_self _ _) hmask
      have HY := Lib.hid (@turn_yes (8 * l.length) a mask j)
      have HNo := Lib.hid (@turn_no (8 * l.length) a mask j)
      cases hB : turnB (8 * l.length) a mask j with
      | false =>
        have HNN := Lib.hid (HNo.out hB)
        unfold turnB at hB
        generalize mask / 2 ^ j = M at *
        clear HY HNo
        by_cases h0 : 0 ≤ a + (j : Int)
        · by_cases h1 : a + (j : Int) < 8 * l.length
          · have b2 : ((M : Int) % 2 == 1) = false := by
              have h0' : decide (0 ≤ a + (j : Int)) = true := by simpa using h0
              have h1' : decide (a + (j : Int) < (8 * l.length : Nat)) = true := by simp; omega
              rw [h0', h1'] at hB
              simp at hB ⊢
              omega
            clear hB
            go_wp2_with fail
            go_roundw
            case rel => exact ⟨j + 1, by omega, by go_num, by rw [HN.out]; go_num, t, HE.out.1, by rw [HNN.out]; exact HE.out.2, by rw [HE.out.1]; exact HR3.out, HB3.out⟩
            case measure => simp [intOf]; omega
          · clear hB
            go_wp2_with fail
            go_roundw
            case rel => exact ⟨j + 1, by omega, by go_num, by rw [HN.out]; go_num, t, HE.out.1, by rw [HNN.out]; exact HE.out.2, by rw [HE.out.1]; exact HR3.out, HB3.out⟩
            case measure => simp [intOf]; omega
        · clear hB
          go_wp2_with fail
          go_roundw
          case rel => exact ⟨j + 1, by omega, by go_num, by rw [HN.out]; go_num, t, HE.out.1, by rw [HNN.out]; exact HE.out.2, by rw [HE.out.1]; exact HR3.out, HB3.out⟩
          case measure => simp [intOf]; omega
      | true =>
        have HYY := Lib.hid (HY.out hB)
        have hB' := hB
        simp only [turnB, Bool.and_eq_true, decide_eq_true_eq, beq_iff_eq] at hB'
        obtain ⟨h0, h1, h2⟩ := hB'
        generalize mask / 2 ^ j = M at *
        have b2 : ((M : Int) % 2 == 1) = true := by simp; omega
        obtain ⟨K, hK⟩ := Int.eq_ofNat_of_zero_le h0
        have HK := Lib.hid (show (a + (j : Int)).toNat = K by rw [hK]; rfl)
        have hKl : K < 8 * l.length := by omega
        have hk8 : K / 8 < l.length := by omega
        obtain ⟨g, rfl⟩ : ∃ g, p1 = some ⟨g, 0, none⟩ := by
          rcases HR3.out.2 with ⟨-, h5⟩ | ⟨g, c, cur, h5, -⟩
          · omega
          · simp only [Value.slice.injEq] at h5
            exact ⟨g, h5.1⟩
        have ht' : t.length = l.length := HE.out.1
        have hkt : K / 8 < t.length := by omega
        have hcell : wr.cell? ⟨g, K / 8, none⟩ = some (.int .u8 (t[K / 8].toNat : Int)) := by rw [HR3.out.cellAt (K / 8) (by omega)]; exact bvs_get t _ hkt
        have hfree := HR3.out.frozenAt (K / 8)
        have hx : t[K / 8].toNat < 256 := t[K / 8].toNat_lt
        have HSet := Lib.hid (leN_set t (K / 8) (K % 8) hkt (by omega))
        have hpow : 2 ^ (K % 8) < 256 := Nat.pow_lt_pow_right (n := 8) (by decide) (by omega)
        have HXor := Lib.hid (u8_xor_nat t[K / 8].toNat (2 ^ (K % 8)) hx hpow)
        generalize t[K / 8].toNat = x at *
        have hy : x ^^^ 2 ^ (K % 8) < 256 := Nat.xor_lt_two_pow (n := 8) hx hpow
        have HW := Lib.hid (show (UInt8.ofNat (x ^^^ 2 ^ (K % 8))).toNat = x ^^^ 2 ^ (K % 8) by rw [UInt8.toNat_ofNat']; exact Nat.mod_eq_of_lt hy)
        clear h0 h1 h2 hB HY HNo ht' hkt
        go_wp2_with fail
        go_loop [10, 11] (fun bit m => ∃ q : Nat, q ≤ K % 8 ∧ m = .int .i64 q ∧ bit = .int .u8 (2 ^ q : Nat)) (fun _ m => K % 8 - (intOf m).toNat)
        case atStart => exact ⟨0, Nat.zero_le _, rfl, rfl⟩
        case round =>
          obtain ⟨q, hq8, rfl, rfl⟩ := hrel
          by_cases hqk : q < K % 8
          · have h64 := two_small (m := q) (by omega)
            have HP := Lib.hid (show 2 ^ (q + 1) = 2 ^ q * 2 from Nat.pow_succ 2 q)
            generalize 2 ^ q = Bq at *
            go_wp2_with fail
            go_round
            case rel => exact ⟨q + 1, by omega, by go_num, by rw [HP.out]; go_num⟩
            case measure => simp [intOf]; omega
          · obtain rfl : q = K % 8 := by omega
            have HQ := Lib.hid (show K = 8 * (K / 8) + K % 8 by omega)
            generalize hY : x ^^^ 2 ^ (K % 8) = y at *
            generalize 2 ^ (K % 8) = Bq at *
            have hxor := HXor.out
            have HHY := Lib.hid hY
            clear hY HXor hq8 hqk
            go_wp2_with fail
            have hst := HR3.out.stored (K / 8) (.int .u8 (y : Int))
            have e1 : (bvs t).set (K / 8) (.int .u8 (y : Int)) = bvs (t.set (K / 8) (UInt8.ofNat y)) := by rw [bvs_set, HW.out]
            rw [e1] at hst
            go_roundw
            case rel => exact ⟨j + 1, by omega, by go_num, by rw [HN.out]; go_num, t.set (K / 8) (UInt8.ofNat y), by rw [List.length_set]; exact HE.out.1, by rw [HSet.out, HYY.out, HE.out.2, HK.out, Nat.xor_assoc, ← HQ.out], by rw [List.length_set, HE.out.1]; exact hst.1, HB3.out.grown hst.2 HB3.out.size (fun k hk => by cases hk; exact (HR3.out.lt g rfl).1)⟩
            case measure => simp [intOf]; omega
    · obtain rfl : j = 32 := by omega
      go_wp2_with fail
      go_ret
      exact ⟨t, p1, c1', by rw [HE.out.1]; rfl, by rw [HE.out.1]; exact HR3.out, HB3.out, HE.out.1, HE.out.2⟩

end Go.Proofs.Ytppmhnbgfnackaa

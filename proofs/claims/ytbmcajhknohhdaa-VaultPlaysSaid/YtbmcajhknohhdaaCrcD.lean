/-
  The program's table of halves of bytes, and the register behind some bytes by it.
-/
import Derived.Test.YtbmcajhknohhdaaCrcA
import Derived.LoopTactic
namespace Go.Proofs.Ytbmcajhknohhdaa
open Go.RowKit

theorem tab_below_two (w : World) (o p : Obj) : Below w.heap.size w ((w.alloc o).alloc p) := (belowNew w o).alloc (by simp) p
set_option maxRecDepth 100000 in
set_option maxHeartbeats 1600000 in
theorem newTable_any (w : World) : Calls Try.prog 54 #[] w fun e w' => e = .returned (.agg (tabC 16)) ∧ Below w.heap.size w w' := by
  have H0 := Lib.hid (show Blk ((w.alloc (.cells #[.int .u32 0, .int .u32 0, .int .u32 0, .int .u32 0, .int .u32 0, .int .u32 0, .int .u32 0, .int .u32 0, .int .u32 0, .int .u32 0, .int .u32 0, .int .u32 0, .int .u32 0, .int .u32 0, .int .u32 0, .int .u32 0] 105)).alloc (.cells #[.int .u32 0, .int .u32 0, .int .u32 0, .int .u32 0, .int .u32 0, .int .u32 0, .int .u32 0, .int .u32 0, .int .u32 0, .int .u32 0, .int .u32 0, .int .u32 0, .int .u32 0, .int .u32 0, .int .u32 0, .int .u32 0] 105)) (w.heap.size + 1) (tabC 0) 105 from by
    have := Blk.new (w.alloc (.cells #[.int .u32 0, .int .u32 0, .int .u32 0, .int .u32 0, .int .u32 0, .int .u32 0, .int .u32 0, .int .u32 0, .int .u32 0, .int .u32 0, .int .u32 0, .int .u32 0, .int .u32 0, .int .u32 0, .int .u32 0, .int .u32 0] 105)) #[.int .u32 0, .int .u32 0, .int .u32 0, .int .u32 0, .int .u32 0, .int .u32 0, .int .u32 0, .int .u32 0, .int .u32 0, .int .u32 0, .int .u32 0, .int .u32 0, .int .u32 0, .int .u32 0, .int .u32 0, .int .u32 0] 105
    simp only [World.size_alloc] at this
    exact this)
  have H1 := Lib.hid (show Blk ((w.alloc (.cells #[.int .u32 0, .int .u32 0, .int .u32 0, .int .u32 0, .int .u32 0, .int .u32 0, .int .u32 0, .int .u32 0, .int .u32 0, .int .u32 0, .int .u32 0, .int .u32 0, .int .u32 0, .int .u32 0, .int .u32 0, .int .u32 0] 105)).alloc (.cells #[.int .u32 0, .int .u32 0, .int .u32 0, .int .u32 0, .int .u32 0, .int .u32 0, .int .u32 0, .int .u32 0, .int .u32 0, .int .u32 0, .int .u32 0, .int .u32 0, .int .u32 0, .int .u32 0, .int .u32 0, .int .u32 0] 105)) w.heap.size (tabC 0) 105 from (Blk.new w _ _).alloc _)
  have HB := Lib.hid (tab_below_two w (.cells #[.int .u32 0, .int .u32 0, .int .u32 0, .int .u32 0, .int .u32 0, .int .u32 0, .int .u32 0, .int .u32 0, .int .u32 0, .int .u32 0, .int .u32 0, .int .u32 0, .int .u32 0, .int .u32 0, .int .u32 0, .int .u32 0] 105) (.cells #[.int .u32 0, .int .u32 0, .int .u32 0, .int .u32 0, .int .u32 0, .int .u32 0, .int .u32 0, .int .u32 0, .int .u32 0, .int .u32 0, .int .u32 0, .int .u32 0, .int .u32 0, .int .u32 0, .int .u32 0, .int .u32 0] 105))
  go_enter Try.func54, Try.ntmps54
  go_wp2_with fail
  go_loopw [3] (fun i wr => ∃ k : Nat, k ≤ 16 ∧ i = .int .i64 k ∧ Blk wr (w.heap.size + 1) (tabC k) 105 ∧ Blk wr w.heap.size (tabC 0) 105 ∧ Below w.heap.size w wr) (fun i _ => 16 - (intOf i).toNat)
  case atStart => exact ⟨0, Nat.zero_le _, rfl, H0.out, H1.out, HB.out⟩
  case round =>
    obtain ⟨k, hk, rfl, hT, hR, hB⟩ := hrel
    by_cases hlt : k < 16
    · have c0 : wr.cell? ⟨w.heap.size + 1, k, none⟩ = some (.int .u32 (tabF k k : Nat)) := by rw [hT.cell]; exact arrC_get _ _ hlt
      have f0 := hT.free k
      have HS := Lib.hid (shifted_any k (by omega))
      have HT2 := Lib.hid (show Blk (wr.setCell ⟨w.heap.size + 1, k, none⟩ (.int .u32 (stpN 4 k : Nat))) (w.heap.size + 1) (tabC (k + 1)) 105 from tabC_set hlt ▸ hT.set k _)
      have HR2 := Lib.hid (hR.set_other (a := ⟨w.heap.size + 1, k, none⟩) (by simp) (.int .u32 (stpN 4 k : Nat)))
      have HB2 := Lib.hid (hB.setCell (p := ⟨w.heap.size + 1, k, none⟩) (by simp) (.int .u32 (stpN 4 k : Nat)))
      clear hT hR hB
      go_wp2_with fail
      refine (HS.out _).mono ?_
      rintro e w' ⟨rfl, rfl⟩
      go_wp2_with fail
      go_roundw
      case rel => exact ⟨k + 1, by omega, by go_num, HT2.out, HR2.out, HB2.out⟩
      case measure => simp [intOf]; omega
    · obtain rfl : k = 16 := by omega
      have HT := Lib.hid hT
      have HB3 := Lib.hid hB
      clear hB hT
      go_wp2_with (first | (refine wpList_load_arr rfl _ _ rfl rfl HT.out Try.underlying105 rfl (infoTab 16) ?_) | (refine wpList_store_arr rfl rfl _ _ _ rfl rfl rfl hR (infoTab 16) (by rw [tabC_size, tabC_size]) (arrC_one _ _ _) ?_; intro w2 hw2))
      exact bodyPost_ret (results_arr rfl rfl hw2.blk Try.underlying105 rfl (infoTab 16)) rfl ⟨rfl, HB3.out.trans (hw2.below HB3.out.size (Nat.le_refl _))⟩

theorem infoSt : (Try.prog.info? 108).map (·.size) = some 1 := by kernel_rfl
theorem below_three (w : World) (o p q : Obj) : Below w.heap.size w (((w.alloc o).alloc p).alloc q) := (tab_below_two w o p).alloc (by simp; omega) q
/-- The memory in which bytes are added: the state, the table and the result. -/
structure AddIn (w W : World) (x : Nat) : Prop where
  below : Below w.heap.size w W
  state : Blk W w.heap.size #[.int .u32 (x : Int)] 108
  tab : Blk W (w.heap.size + 1) (tabC 16) 105
  out : Blk W (w.heap.size + 2) #[.int .u32 0] 108
theorem AddIn.new (w : World) (x : Nat) : AddIn w (((w.alloc (.cells #[.int .u32 (x : Int)] 108)).alloc (.cells (tabC 16) 105)).alloc (.cells #[.int .u32 0] 108)) x where
  below := below_three _ _ _ _
  state := ((Blk.new w _ _).alloc _).alloc _
  tab := by
    have := Blk.new (w.alloc (.cells #[.int .u32 (x : Int)] 108)) (tabC 16) 105
    simp only [World.size_alloc] at this
    exact this.alloc _
  out := by
    have := Blk.new ((w.alloc (.cells #[.int .u32 (x : Int)] 108)).alloc (.cells (tabC 16) 105)) #[.int .u32 0] 108
    simp only [World.size_alloc] at this
    exact this
theorem crcReg_take2 (r : Nat) {l : List UInt8} {k : Nat} (h : k < l.length) : crcReg r (l.take (k + 1)) = crcByte (crcReg r (l.take k)) l[k].toNat := by
  rw [List.take_succ_eq_append_getElem h, crcReg_append]; rfl
theorem not_u32 {x : Nat} (h : x < 4294967296) : bits .xor .u32 IntKind.u32.max (x : Int) = ((4294967295 - x : Nat) : Int) := by
  have h1 := u32_xor_nat 4294967295 x (by decide) h
  rw [flip_all h, Nat.xor_comm]
  exact h1
theorem u32_un : IntKind.u32.signed = false := rfl
theorem flip_sum (l : List UInt8) : 4294967295 - crcSum l = crcReg crcAll l := by
  rw [flip_all (crcSum_lt l)]
  unfold crcSum
  rw [Nat.xor_assoc, Nat.xor_self, Nat.xor_zero]

set_option maxRecDepth 100000 in
set_option maxHeartbeats 3200000 in
theorem addT_any (p : Option Addr) (len cap : Nat) (l m : List UInt8) (w : World) (h : BsAt w p len cap m) (hsm : m.length ≤ 1000000) :
    Calls Try.prog 55 #[.agg #[.int .u32 (crcSum l : Nat)], .agg (tabC 16), .slice p len cap] w fun e w' => e = .returned (.agg #[.int .u32 (crcSum (l ++ m) : Nat)]) ∧ Below w.heap.size w w' := by
  have hl := h.same
  subst hl
  have HN := AddIn.new w (crcSum l)
  have hS := crcSum_lt l
  have HF := Lib.hid (flip_sum l)
  have HFin := Lib.hid (show crcSum (l ++ m) = 4294967295 - crcReg (crcReg crcAll l) m from by rw [← crcReg_append]; exact (flip_all (crcReg_lt (by decide) _)).symm)
  have hR0 := crcReg_lt (r := crcAll) (by decide) l
  have k0 := HN.state.cell 0
  generalize crcSum l = S at *
  generalize crcReg crcAll l = R0 at *
  have HNH := Lib.hid HN
  have HBs := Lib.hid (h.below HN.below (Nat.le_refl _))
  have hsg := u32_un
  have hnot := not_u32 hS
  rw [HF.out] at hnot
  clear HN h
  go_enter Try.func55, Try.ntmps55
  go_wp2_with fail
  generalize ((w.alloc (.cells #[.int .u32 (S : Int)] 108)).alloc (.cells (tabC 16) 105)).alloc (.cells #[.int .u32 0] 108) = W at *
  clear k0
  go_loop [7, 15] (fun r i => ∃ k : Nat, k ≤ m.length ∧ i = .int .i64 k ∧ r = .int .u32 (crcReg R0 (m.take k) : Nat)) (fun _ i => m.length - (intOf i).toNat)
  case atStart => exact ⟨0, Nat.zero_le _, rfl, rfl⟩
  case round =>
    obtain ⟨k, hk, rfl, rfl⟩ := hrel
    have hR := crcReg_lt hR0 (m.take k)
    by_cases hlt : k < m.length
    · obtain ⟨g, off, rfl, hc⟩ : ∃ g off, p = some ⟨g, off, none⟩ ∧ W.cell? ⟨g, off + k, none⟩ = some (.int .u8 (m[k].toNat : Int)) := by
        rcases HBs.out.place with ⟨-, h2⟩ | ⟨h2, -⟩ | ⟨g', off, rfl, -, h3⟩
        · have := HBs.out.le; omega
        · rw [h2] at hlt; simp at hlt
        · exact ⟨g', off, rfl, h3 k hlt⟩
      have HT := Lib.hid (crcReg_take2 R0 hlt)
      have hx : m[k].toNat < 256 := m[k].toNat_lt
      generalize crcReg R0 (m.take k) = R at *
      generalize m[k].toNat = c at *
      have HX := Lib.hid (u32_xor_nat R c hR (by omega))
      have hY : R ^^^ c < 4294967296 := Nat.xor_lt_two_pow (n := 32) hR (by omega)
      have HT2 := Lib.hid (show crcByte R c = stpN 8 (R ^^^ c) from rfl)
      have hX := HX.out
      generalize R ^^^ c = Y at *
      go_wp2_with fail
      go_loop [7, 23] (fun r j => ∃ q : Nat, q ≤ 2 ∧ j = .int .i64 q ∧ r = .int .u32 (stpN (4 * q) Y : Nat)) (fun _ j => 2 - (intOf j).toNat)
      case atStart => exact ⟨0, Nat.zero_le _, rfl, rfl⟩
      case round =>
        obtain ⟨q, hq, rfl, rfl⟩ := hrel
        have hZ := stpN_lt (4 * q) hY
        by_cases hq2 : q < 2
        · have HN := Lib.hid (show stpN (4 * (q + 1)) Y = stpN 4 (stpN (4 * q) Y) from by rw [← stpN_add]; rfl)
          generalize stpN (4 * q) Y = Z at *
          have HXT := Lib.hid (xor_tab Z hZ)
          obtain ⟨a, ha⟩ : ∃ a, a = Z % 16 := ⟨_, rfl⟩
          have ha2 : (Z : Int) % 16 = (a : Int) := by omega
          have ha3 : a < 16 := by omega
          have c1 : W.cell? ⟨w.heap.size + 1, a, none⟩ = some (.int .u32 (stpN 4 a : Nat)) := by rw [HNH.out.tab.cell]; exact tabC_get ha3
          rw [← ha] at HXT
          have hxt := HXT.out
          clear ha
          go_wp2_with fail
          go_round
          case rel => exact ⟨q + 1, by omega, by go_num, by rw [HN.out]⟩
          case measure => simp [intOf]; omega
        · obtain rfl : q = 2 := by omega
          go_wp2_with fail
          go_round
          case rel => exact ⟨k + 1, by omega, by go_num, by rw [HT.out, HT2.out]⟩
          case measure => simp [intOf]; omega
    · have hT : m.take k = m := List.take_of_length_le (by omega)
      rw [hT] at hR ⊢
      have hnot2 := not_u32 hR
      rw [← HFin.out] at hnot2
      generalize crcReg R0 m = R at *
      have c2 := HNH.out.out.cell 0
      have f2 := HNH.out.out.free 0
      go_wp2_with fail
      exact bodyPost_ret (v := .agg #[.int .u32 (crcSum (l ++ m) : Nat)]) (results_arr rfl rfl (HNH.out.out.set 0 (.int .u32 (crcSum (l ++ m) : Nat))) Try.underlying108 rfl infoSt) rfl ⟨rfl, HNH.out.below.setCell (p := ⟨w.heap.size + 1 + 1, 0, none⟩) (by simp; omega) _⟩

end Go.Proofs.Ytbmcajhknohhdaa

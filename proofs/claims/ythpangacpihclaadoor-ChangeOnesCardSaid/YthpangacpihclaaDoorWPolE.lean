/-
  The program's policies: Seen, Owned, First.
-/
import Derived.StillTailTactics
import Derived.Test.YthpangacpihclaaDoorW3
import Derived.Test.YthpangacpihclaaDoorW2
import Derived.Test.YthpangacpihclaaDoorWGraL
import Derived.Test.YthpangacpihclaaDoorW1
/-! PolE -/
namespace Go.Proofs.YthpangacpihclaaDoor
open Go.RowKit

/-- All labels of a policy, and all owners. -/
def labsC (p : Pol) : Array Value := ((List.range 32).map (fun j => polAt p (1 + j))).toArray
theorem labsC_size (p : Pol) : (labsC p).size = 32 := by simp [labsC]
theorem labsC_get (p : Pol) {j : Nat} (h : j < 32) : (labsC p)[j]? = some (polAt p (1 + j)) := by simp [labsC, h]
theorem pol_labs (p : Pol) (i : Nat) (hi : i < (labsC p).size) : (polC p)[1 + i]? = (labsC p)[i]? := by
  rw [labsC_size] at hi
  rw [labsC_get p hi, polC_get p (by omega)]
def ownsC (p : Pol) : Array Value := arrC .u8 16 p.owner
theorem ownsC_size (p : Pol) : (ownsC p).size = 16 := arrC_size _ _ _
theorem ownsC_get (p : Pol) {j : Nat} (h : j < 16) : (ownsC p)[j]? = some (.int .u8 (p.owner j : Nat)) := arrC_get _ _ h
theorem pol_owns (p : Pol) (i : Nat) (hi : i < (ownsC p).size) : (polC p)[49 + i]? = (ownsC p)[i]? := by
  rw [ownsC_size] at hi
  rw [ownsC_get p hi, polC_get p (by omega)]
  unfold polAt
  rw [if_neg (by omega), if_neg (by omega), if_neg (by omega), if_pos (by omega), show 49 + i - 49 = i by omega]
theorem infoLabs (p : Pol) : (Tryd.prog.info? 25).map (·.size) = some (labsC p).size := by rw [labsC_size]; kernel_rfl
theorem infoOwns (p : Pol) : (Tryd.prog.info? 27).map (·.size) = some (ownsC p).size := by rw [ownsC_size]; kernel_rfl
theorem labs_part (p : Pol) {k : Nat} (hk : k < 16) : (labsC p).extract (k * 2) (k * 2 + 2) = #[.int .u16 (p.s k : Nat), .int .u16 (p.i k : Nat)] := by
  have hs : ((labsC p).extract (k * 2) (k * 2 + 2)).size = 2 := by rw [Array.size_extract, labsC_size]; omega
  apply Array.ext_getElem?
  intro i
  match i with
  | 0 =>
    rw [Array.getElem?_extract_of_lt (by rw [labsC_size]; omega), ← Array.getElem?_eq_getElem, labsC_get p (by omega)]
    unfold polAt
    rw [if_neg (by omega), if_pos (by omega), if_pos (by omega), show (1 + (k * 2 + 0)) / 2 = k by omega]; rfl
  | 1 =>
    rw [Array.getElem?_extract_of_lt (by rw [labsC_size]; omega), ← Array.getElem?_eq_getElem, labsC_get p (by omega)]
    unfold polAt
    rw [if_neg (by omega), if_pos (by omega), if_neg (by omega), show (1 + (k * 2 + 1)) / 2 - 1 = k by omega]; rfl
  | i + 2 =>
    rw [Array.getElem?_eq_none (by rw [hs]; omega)]; rfl
theorem infoLab : ∃ i, Tryd.prog.info? 24 = some i := Go.info_of_underlying Tryd.underlying24
theorem run_index_labs (p : Pol) {k : Nat} (hk : k < 16) (w : World) : (Instr.index 25 (.agg (labsC p)) (.int .i64 (k : Int))).run Tryd.prog w = .ok (.agg #[.int .u16 (p.s k : Nat), .int .u16 (p.i k : Nat)]) w := by
  obtain ⟨i, hi⟩ := infoLab
  have h2 : (k : Int) < 16 := by omega
  have hz : Tryd.prog.cellsOf 24 = 2 := by kernel_rfl
  simp only [Instr.index, asIntOf, Sem.run_bind, Sem.run_pure, Result.andThen_ok, run_underlying Tryd.underlying25]
  rw [if_pos ⟨Int.natCast_nonneg k, h2⟩]
  simp only [Sem.run_bind, run_sizeOf w hi, Result.andThen_ok, hz, Int.toNat_natCast]
  simp only [part, isAgg, Sem.run_bind, run_underlying Tryd.underlying24, Result.andThen_ok, Sem.run_pure, run_sizeOf w hi, hz, if_true, labs_part p hk]
theorem run_index_owns (p : Pol) {k : Nat} (hk : k < 16) (w : World) : (Instr.index 27 (.agg (ownsC p)) (.int .i64 (k : Int))).run Tryd.prog w = .ok (.int .u8 (p.owner k : Nat)) w := by
  obtain ⟨i, hi⟩ : ∃ i, Tryd.prog.info? 5 = some i := Go.info_of_underlying Tryd.underlying5
  have h2 : (k : Int) < 16 := by omega
  simp only [Instr.index, asIntOf, Sem.run_bind, Sem.run_pure, Result.andThen_ok, run_underlying Tryd.underlying27]
  rw [if_pos ⟨Int.natCast_nonneg k, h2⟩]
  simp only [Sem.run_bind, run_sizeOf w hi, Result.andThen_ok, show Tryd.prog.cellsOf 5 = 1 by kernel_rfl, Nat.mul_one, Int.toNat_natCast]
  exact run_part_plain (P := Tryd.prog) w (e := 5) (by kernel_rfl) (ownsC_get p hk)
/-- A set of one. -/
theorem of_one (w : World) (k : Nat) : Calls Tryd.prog 60 #[.slice (some ⟨w.heap.size, 0, none⟩) 1 1] (w.alloc (.cells #[.int .i64 (k : Int)] 3)) fun e w' => e = .returned (.int .u16 (ofL 0 [(k : Int)] : Nat)) ∧ w.alloc (.cells #[.int .i64 (k : Int)] 3) = w' :=
  Of_any _ _ _ (ints_one w (k : Int))
set_option maxRecDepth 100000 in
set_option maxHeartbeats 3200000 in
theorem pSeen_any : PSeenC := by
  intro p lx ly w hp _ hlx hly
  have HG0 := Lib.hid (PLW.new w p lx ly)
  have HHa := Lib.hid (fun V (r : Nat) => Has_any p.live (r : Int) V hp.live)
  have HFa := Lib.hid (fun V r (hr : r < 16) => lFlows_any (p.s r) (p.i r) lx ly V (hp.s r hr) (hp.i r hr) hlx hly)
  have HN := Lib.hid (show seenN p lx ly = setG (seenB p lx ly) 16 from rfl)
  have hix := fun (k : Nat) (hk : k < 16) (V : World) => run_index_labs p hk V
  rw [HN.out]
  clear hp hlx hly HN
  go_enter Tryd.func30, Tryd.ntmps30
  have hrow := HG0.out.pw.row
  go_wp2_with (refine wpList_load_mid rfl _ _ rfl rfl hrow (pol_labs p) Tryd.underlying25 rfl (infoLabs p) ?_)
  clear hrow
  generalize (w.alloc (.cells (polC p) 29)).alloc _ = w1 at *
  generalize w.heap.size = bp at *
  go_loopw [5, 10] (fun o i wr => ∃ k : Nat, k ≤ 16 ∧ i = .int .i64 (k : Int) ∧ o = .int .u16 (setG (seenB p lx ly) k : Nat) ∧ PLW w bp p lx ly wr) (fun _ i _ => 16 - (intOf i).toNat)
  case atStart => exact ⟨0, by omega, rfl, rfl, HG0.out⟩
  case round =>
    obtain ⟨k, hk, rfl, rfl, hg⟩ := hrel
    have HG := Lib.hid hg
    clear hg HG0
    by_cases hlt : k < 16
    · have dk : decide ((k : Int) < 16) = true := by simp; omega
      have hk16 : (k : Int) < 16 := by omega
      have hk0 : (0 : Int) ≤ (k : Int) := by omega
      have hxi := fun V => hix k hlt V
      have HU := Lib.hid (setG_lt (seenB p lx ly) (k := k) (by omega))
      have HHas := Lib.hid (fun V => HHa.out V k)
      rw [hasB_bit] at HHas
      have HFl := Lib.hid (fun V => HFa.out V k hlt)
      have HSb := Lib.hid (show seenB p lx ly k = (p.live.testBit k && flowsB (p.s k) (p.i k) lx ly) from rfl)
      have kl := HG.out.pw.row.live
      go_upto_region 5 with fail
      have HG2 := Lib.hid (HG.out.step (belowNew wr (.cells #[.int .u16 (p.s k : Nat), .int .u16 (p.i k : Nat)] 24)))
      have HO := Lib.hid (Blk.new wr #[.int .u16 (p.s k : Nat), .int .u16 (p.i k : Nat)] 24)
      generalize wr.alloc (.cells #[.int .u16 (p.s k : Nat), .int .u16 (p.i k : Nat)] 24) = w2 at *
      clear HG kl hxi
      have kl := HG2.out.pw.row.live
      cases hl : p.live.testBit k with
      | false =>
        rw [hl] at HHas
        have HS := Lib.hid (setG_no (b := seenB p lx ly) (k := k) (by rw [HSb.out, hl]; rfl))
        clear hl
        generalize setG (seenB p lx ly) k = U at *
        go_wp2_with fail
        with_reducible refine (HHas.out _).mono ?_
        rintro e wx ⟨rfl, rfl⟩
        clear kl
        go_wp2_with fail
        go_roundw
        case rel => first | exact ⟨k + 1, by omega, by go_num, by rw [HS.out], HG2.out⟩ | ((repeat apply Exists.intro); exact ⟨⟨k + 1, by omega, by go_num, by rw [HS.out], HG2.out⟩, rfl⟩)
        case measure => simp [intOf]; omega
      | true =>
        rw [hl] at HHas
        have a0 := HO.out.cell 0
        have a1 := HO.out.cell 1
        have l0 := HG2.out.lab.cell 0
        have l1 := HG2.out.lab.cell 1
        cases hf : flowsB (p.s k) (p.i k) lx ly with
        | false =>
          rw [hf] at HFl
          have HS := Lib.hid (setG_no (b := seenB p lx ly) (k := k) (by rw [HSb.out, hl, hf]; rfl))
          clear hl hf HSb
          generalize setG (seenB p lx ly) k = U at *
          go_wp2_with fail
          with_reducible refine (HHas.out _).mono ?_
          rintro e wx ⟨rfl, rfl⟩
          go_wp2_with fail
          with_reducible refine (HFl.out _).mono ?_
          rintro e w3 ⟨rfl, hB3⟩
          have HG3 := Lib.hid (HG2.out.step hB3)
          clear hB3 a0 a1 l0 l1 kl
          go_wp2_with fail
          go_roundw
          case rel => first | exact ⟨k + 1, by omega, by go_num, by rw [HS.out], HG3.out⟩ | ((repeat apply Exists.intro); exact ⟨⟨k + 1, by omega, by go_num, by rw [HS.out], HG3.out⟩, rfl⟩)
          case measure => simp [intOf]; omega
        | true =>
          rw [hf] at HFl
          have HS := Lib.hid (setG_yes (b := seenB p lx ly) (k := k) (by rw [HSb.out, hl, hf]; rfl))
          have HW := Lib.hid (ofL_with HU.out hlt)
          clear hl hf HSb
          generalize setG (seenB p lx ly) k = U at *
          go_wp2_with fail
          with_reducible refine (HHas.out _).mono ?_
          rintro e wx ⟨rfl, rfl⟩
          go_wp2_with fail
          with_reducible refine (HFl.out _).mono ?_
          rintro e w3 ⟨rfl, hB3⟩
          have HG3 := Lib.hid (HG2.out.step hB3)
          clear hB3 a0 a1 l0 l1 kl
          go_wp2_with fail
          with_reducible refine (of_one w3 k).mono ?_
          rintro e w4 ⟨rfl, rfl⟩
          go_wp2_with fail
          go_roundw
          case rel => first | exact ⟨k + 1, by omega, by go_num, by rw [HW.out, HS.out], HG3.out.step (belowNew _ _)⟩ | ((repeat apply Exists.intro); exact ⟨⟨k + 1, by omega, by go_num, by rw [HW.out, HS.out], HG3.out.step (belowNew _ _)⟩, rfl⟩)
          case measure => simp [intOf]; omega
    · obtain rfl : k = 16 := by omega
      go_wp2_with fail
      go_ret
      exact ⟨rfl, HG.out.pw.all⟩
end Go.Proofs.YthpangacpihclaaDoor

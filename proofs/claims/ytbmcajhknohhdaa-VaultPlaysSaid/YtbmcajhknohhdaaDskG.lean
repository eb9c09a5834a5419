/-
  The program's disk: a torn write, and Write.
-/
import Derived.Test.YtbmcajhknohhdaaDskF
import Derived.LoopTactic
import Derived.StillTailTactics
namespace Go.Proofs.Ytbmcajhknohhdaa
open Go.RowKit

theorem sizeB1 : (Try.prog.info? 5).map (·.size) = some 1 := by kernel_rfl
def onesB (n : Nat) : List UInt8 := List.replicate n 255
theorem onesB_length (n : Nat) : (onesB n).length = n := by simp [onesB]
theorem mix_ones_set {k : Nat} (h : k < 128) : (mixL (onesB 128) (zerosB 128) k).set k 255 = mixL (onesB 128) (zerosB 128) (k + 1) := by
  have h1 := mixL_set (a := onesB 128) (b := zerosB 128) (by rw [onesB_length, zerosB_length]) (m := k) (by rw [onesB_length]; exact h)
  rw [show (onesB 128)[k]'(by rw [onesB_length]; exact h) = 255 from by unfold onesB; exact List.getElem_replicate _] at h1
  exact h1
theorem mix_ones_end : mixL (onesB 128) (zerosB 128) 128 = onesB 128 := by simp [mixL, onesB, zerosB]
theorem mix_ones_len (k : Nat) : (mixL (onesB 128) (zerosB 128) k).length = 128 := by rw [mixL_length (by rw [onesB_length, zerosB_length]), zerosB_length]
theorem put_ones {l : List UInt8} (hl : l.length = 128) (kp : Nat) : putL (onesB 128) 0 (l.take kp) = tornL (kp : Int) l := by
  unfold putL tornL
  rw [List.take_zero, List.nil_append, Nat.zero_add, Int.toNat_natCast, List.length_take, hl]
  congr 1
  unfold onesB
  rw [List.drop_replicate]
  congr 1
  omega

theorem wpStill_load_part {P : Program} {w : World} {ops : Array Oper} {rest : List Oper} {o : Oper} {a : Act} {Q : Act → Prop} (hgd : o.guard = none) (ty : TypeId) (x : Operand) (ho : o.op = .load ty x)
    {g off n : Nat} {all : List UInt8} {t e : TypeId} (hx : a.eval x = .pointer (some ⟨g, off, none⟩)) (h : Blk w g (bvA all) t) (hn : off + n ≤ all.length) (hu : P.underlying ty = some (.array n e)) (hi : (P.info? ty).map (·.size) = some n)
    (hK : wpStill P ops w Q rest (a.put o.dst (.agg (bvA ((all.drop off).take n))))) : wpStill P ops w Q (o :: rest) a :=
  wpStill_step fun K hK' => by
    rw [if_pos (by simp [Region.wanted, hgd])]
    unfold Oper.still execOp
    simp only [ho, hx, Instr.loadAt, Instr.sureAddr, Sem.run_bind, Sem.run_pure, Result.andThen_ok, run_load_part (P := P) h hn hu hi]
    exact ⟨rfl, hK' _ hK⟩
theorem slice_part_h {V : World} {a : Addr} (kp : Nat) (h : kp ≤ 128) : (Instr.sliceAt 74 (.pointer (some a)) none (some (.int .i64 (kp : Int))) none).run Try.prog V = .ok (.slice (some a) kp 128) V := by
  have hs : (sizeOf 5).run Try.prog V = .ok 1 V := by kernel_rfl
  simp [Instr.sliceAt, Instr.sureAddr, run_underlying Try.underlying74, Instr.sliceBounds, Instr.sliceBound, asIntOf, h, hs, Addr.add]
theorem disk_cells {w : World} {b g n cap : Nat} {on armed : Bool} {left keep wr : Int} {t : TypeId} (h : Blk w b (diskV g n cap on armed left keep wr) t) : w.cell? ⟨b, 0, none⟩ = some (.slice (some ⟨g, 0, none⟩) n cap) ∧ w.cell? ⟨b, 1, none⟩ = some (.bool on) ∧
    w.cell? ⟨b, 2, none⟩ = some (.bool armed) ∧ w.cell? ⟨b, 3, none⟩ = some (.int .i64 left) ∧ w.cell? ⟨b, 4, none⟩ = some (.int .i64 keep) ∧ w.cell? ⟨b, 5, none⟩ = some (.int .i64 wr) := ⟨h.cell 0, h.cell 1, h.cell 2, h.cell 3, h.cell 4, h.cell 5⟩
set_option maxRecDepth 100000 in
set_option maxHeartbeats 3200000 in
theorem dTear_any {w : World} {b g n cap kp : Nat} {on armed : Bool} {left wr : Int} {A l : List UInt8} {p : Option Addr} {cp : Nat} (i0 : Nat) (hB : Blk w b (diskV g n cap on armed left (kp : Int) wr) 65) (hR : Blk w g (bvA A) 74)
    (hgb : g ≠ b) (hi : i0 < n) (hA : i0 * 128 + 128 ≤ A.length) (hkp : kp ≤ 128) (hb : BsAt w p 128 cp l) :
    Calls Try.prog 36 #[ptrV b, .int .i64 (i0 : Int), .slice p 128 cp] w fun e w' => e = .returned (.tuple #[]) ∧
      Blk w' b (diskV g n cap false false 0 0 wr) 65 ∧ Blk w' g (bvA (putL A (i0 * 128) (tornL (kp : Int) l))) 74 ∧ Chg (fun k => k = b ∨ k = g) w w' := by
  have hl : l.length = 128 := hb.same.symm
  have HKB := Lib.hid hB
  have HKR := Lib.hid hR
  have HBs := Lib.hid hb
  have HL := Lib.hid (And.intro hl (And.intro hgb (And.intro hA hkp)))
  have HA := Lib.hid (And.intro (Blk.new w (bvA (zerosB 128)) 74) (belowNew w (.cells (bvA (zerosB 128)) 74)))
  clear hB hR hb hl hgb hA
  unfold ptrV
  go_enter Try.func36, Try.ntmps36
  go_wp2_with (refine wpList_alloc_bytes rfl _ rfl zeroBk ?_)
  go_loopw [7, 8] (fun a i wr => ∃ k : Nat, k ≤ 128 ∧ i = .int .i64 k ∧ Blk wr w.heap.size (bvA (mixL (onesB 128) (zerosB 128) k)) 74 ∧ Below w.heap.size w wr) (fun _ i _ => 128 - (intOf i).toNat)
  case atStart => exact ⟨0, Nat.zero_le _, rfl, HA.out.1, HA.out.2⟩
  case round =>
    obtain ⟨k, hk, rfl, hT, hW⟩ := hrel
    by_cases hlt : k < 128
    · have c0 : wr.cell? ⟨w.heap.size, k, none⟩ = some (.int .u8 ((mixL (onesB 128) (zerosB 128) k)[k]'(by rw [mix_ones_len]; exact hlt)).toNat) := by rw [hT.cell]; exact bvA_get _ _ (by rw [mix_ones_len]; exact hlt)
      have f0 := hT.free k
      have HT2 := Lib.hid (show Blk (wr.setCell ⟨w.heap.size, k, none⟩ (.int .u8 255)) w.heap.size (bvA (mixL (onesB 128) (zerosB 128) (k + 1))) 74 from by
        have h1 := hT.set k (.int .u8 255)
        rw [show (Value.int .u8 255) = .int .u8 (((255 : UInt8).toNat : Nat) : Int) from rfl, bvA_set, mix_ones_set hlt] at h1
        exact h1)
      have HW2 := Lib.hid (hW.setCell (p := ⟨w.heap.size, k, none⟩) (by simp) (.int .u8 255))
      clear hT hW
      go_wp2_with fail
      go_roundw
      case rel => exact ⟨k + 1, by omega, by go_num, HT2.out, HW2.out⟩
      case measure => simp [intOf]; omega
    · obtain rfl : k = 128 := by omega
      rw [mix_ones_end] at hT
      have HT := Lib.hid hT
      have HW := Lib.hid hW
      clear hT hW hlt hk
      have HKB2 := Lib.hid (HKB.out.below HW.out HKB.out.lt)
      have HKR2 := Lib.hid (HKR.out.below HW.out HKR.out.lt)
      have HBs2 := Lib.hid (HBs.out.below HW.out (Nat.le_refl _))
      have k4 : wr.cell? ⟨b, 4, none⟩ = some (.int .i64 (kp : Int)) := HKB2.out.cell 4
      have HF := Lib.hid (show 0 + kp ≤ (onesB 128).length by rw [onesB_length]; have := HL.out.2.2.2; omega)
      have u1 : ∀ V : World, (Instr.sliceAt 74 (.pointer (some ⟨w.heap.size, 0, none⟩)) none (some (.int .i64 (kp : Int))) none).run Try.prog V = .ok (.slice (some ⟨w.heap.size, 0, none⟩) kp 128) V := fun V => slice_part_h kp hkp
      go_wp2_with (refine wpList_copy_part rfl _ _ 31 31 rfl 5 Try.underlying31 sizeB1 rfl rfl HT.out HBs2.out HF.out ?_; intro w2 hw2; have HP := Lib.hid hw2; clear hw2)
      have HT2 := Lib.hid (show Blk w2 w.heap.size (bvA (tornL (kp : Int) l)) 74 from by
        have h1 := HP.out.blk
        rw [put_ones HL.out.1] at h1
        exact h1)
      have HTl := Lib.hid (show (tornL (kp : Int) l).length = 128 from by rw [tornL_length (by rw [HL.out.1]; have := HL.out.2.2.2; omega), HL.out.1])
      have HW3 := Lib.hid (HW.out.trans (HP.out.below HW.out.size (Nat.le_refl _)))
      have HKB3 := Lib.hid (HKB.out.below HW3.out HKB.out.lt)
      have HKR3 := Lib.hid (HKR.out.below HW3.out HKR.out.lt)
      clear k4
      have k0 : w2.cell? ⟨b, 0, none⟩ = some (.slice (some ⟨g, 0, none⟩) n cap) := HKB3.out.cell 0
      refine wp_region_still_tail 6 (by kernel_rfl) (by kernel_rfl) ?_
      simp only [List.take_succ_cons, List.take_zero, List.drop_succ_cons, List.drop_zero]
      iterate 5 still_step
      refine wpStill_load_part rfl _ _ rfl rfl HT2.out (show 0 + 128 ≤ _ by rw [HTl.out]; omega) Try.underlying74 sizeBk ?_
      refine wpStill_nil ?_
      rw [List.drop_zero, List.take_of_length_le (Nat.le_of_eq HTl.out)]
      change wpList _ _ _ _ _ w2.drew
      have HKR4 := Lib.hid HKR3.out.drew
      have HKB4 := Lib.hid HKB3.out.drew
      have HW4 := Lib.hid (Below.drew HW3.out)
      clear k0
      generalize w2.drew = W2 at *
      go_wp2_with (refine wpList_store_part rfl rfl _ _ _ rfl rfl rfl HKR4.out HTl.out HL.out.2.2.1 sizeBk ?_; intro w4 hw4; have HP4 := Lib.hid hw4; have HKB5 := Lib.hid (HKB4.out.other hw4 (fun e => HL.out.2.1 e.symm)); obtain ⟨k0, k1, k2, k3, k4, k5⟩ := disk_cells HKB5.out; have f1 := HKB5.out.free 1; have f2 := HKB5.out.free 2; have f3 := HKB5.out.free 3; have f4 := HKB5.out.free 4; clear hw4)
      go_end0
      have hp := ((((Put.refl HKB5.out).set 1 (.bool false)).set 2 (.bool false)).set 3 (.int .i64 0)).set 4 (.int .i64 0)
      exact ⟨rfl, hp.blk, hp.chg.kept HP4.out.blk HL.out.2.1, ((Chg.ofBelow HW4.out).trans (HP4.out.chg.mono fun k _ hk => .inr hk)).trans (hp.chg.mono fun k _ hk => .inl hk)⟩
end Go.Proofs.Ytbmcajhknohhdaa

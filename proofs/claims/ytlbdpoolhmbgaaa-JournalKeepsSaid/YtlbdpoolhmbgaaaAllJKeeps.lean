/-
  The law JournalKeeps holds for every argument. Nothing of the program's variables is asked: it returns true and leaves its arguments as they were.
-/
import Derived.Test.YtlbdpoolhmbgaaaJrnC
import Derived.Deep.DeepCutAuto
import Derived.LoopTactic
import Derived.Test.YtlbdpoolhmbgaaaLawJGens
import Derived.Test.YtlbdpoolhmbgaaaCrcV
import Derived.Test.YtlbdpoolhmbgaaaFrmC
import Derived.Test.YtlbdpoolhmbgaaaWirV
import Derived.Test.YtlbdpoolhmbgaaaCrcG
import Derived.Test.YtlbdpoolhmbgaaaRowB
import Derived.Lib.BufferWrite
import Derived.Test.YtlbdpoolhmbgaaaDskE
import Derived.Test.YtlbdpoolhmbgaaaCalm
import Derived.Test.YtlbdpoolhmbgaaaDskF
import Derived.Test.YtlbdpoolhmbgaaaLate
import Derived.WalkMore
import Derived.LoopN
import Derived.Deep.LoopGhost
import Derived.Maps.AppendAt
import Derived.Test.YtlbdpoolhmbgaaaDskH
import Derived.StillTail
import Derived.StillTailTactics
import Derived.Test.YtlbdpoolhmbgaaaRows
import Derived.Test.YtlbdpoolhmbgaaaBlk
import Derived.ProofKit
import Derived.OpenShut
import Derived.Deep.DeepHandedRow
import Derived.LaidMore
import Derived.Stop.Joined
import Derived.Deep.Slices
import Derived.Deep.Fields
import Derived.ChangeSame
import Derived.JoinedOf
import Derived.JoinedAt
import Derived.ChangeMaps
import Derived.DataElems
import Derived.Test.YtlbdpoolhmbgaaaRowsB
import Derived.Test.YtlbdpoolhmbgaaaPbA
import Derived.Test.YtlbdpoolhmbgaaaLawJKeeps
/-! LawJNobody -/
namespace Go.Proofs.Ytlbdpoolhmbgaaa
open Go.RowKit

/-- The cells of a journal that nobody made. -/
def jzCells : Array Value := #[.pointer none, .int .i64 0, .int .i64 0, .int .i64 0, .int .i64 0]
/-- A nil journal, or one that New did not return. -/
def NobV (w : World) (v : Value) : Prop := v = .pointer none ∨ ∃ b, v = ptrV b ∧ Blk w b jzCells 45
theorem NobV.below {w w' : World} {v : Value} (h : NobV w v) (hB : Below w.heap.size w w') : NobV w' v := by
  rcases h with h | ⟨b, h1, h2⟩
  · exact .inl h
  · exact .inr ⟨b, h1, h2.below hB h2.lt⟩
def NobOpenC : Prop := ∀ (w : World) (v : Value) (gen : Int), NobV w v → Calls Try.prog 13 #[v, .int .i64 gen] w fun e w' => ∃ p c, e = .returned (.tuple #[.slice p 0 c, .int .i64 2]) ∧ Below w.heap.size w w'
def NobAddC : Prop := ∀ (w : World) (v : Value) (p : Option Addr) (len cap : Nat), NobV w v → Calls Try.prog 10 #[v, .slice p len cap] w fun e w' => e = .returned (.int .i64 2) ∧ Below w.heap.size w w'
def NobCleanC : Prop := ∀ (w : World) (v : Value), NobV w v → Calls Try.prog 15 #[v] w fun e w' => e = .returned (.int .i64 2) ∧ Below w.heap.size w w'
def NobLenC : Prop := ∀ (w : World) (v : Value), NobV w v → Calls Try.prog 17 #[v] w fun e w' => e = .returned (.int .i64 0) ∧ Below w.heap.size w w'
def NobRoomC : Prop := ∀ (w : World) (v : Value), NobV w v → Calls Try.prog 18 #[v] w fun e w' => e = .returned (.int .i64 0) ∧ Below w.heap.size w w'
def NobGenC : Prop := ∀ (w : World) (v : Value), NobV w v → Calls Try.prog 16 #[v] w fun e w' => e = .returned (.int .i64 0) ∧ Below w.heap.size w w'
/-- New on no disk. -/
def JNewNilC : Prop := ∀ (w : World), Calls Try.prog 8 #[.pointer none, .int .i64 0, .int .i64 1] w fun e w' => e = .returned (.tuple #[.pointer none, .int .i64 2]) ∧ Below w.heap.size w w'

set_option maxRecDepth 100000 in
set_option maxHeartbeats 3200000 in
theorem jnobody_any (nO : NobOpenC) (nA : NobAddC) (nC : NobCleanC) (nL : NobLenC) (nR : NobRoomC) (nG : NobGenC) (nN : JNewNilC) (hA : JAliveC) (p : Option Addr) (len cap : Nat) (gen : Int) (w : World) :
    Calls Try.prog 5 #[.slice p len cap, .int .i64 gen] w fun e w' => e = .returned (.bool true) ∧ Below w.heap.size w w' := by
  have HA := Lib.hid hA
  have HO := Lib.hid nO
  have HAd := Lib.hid nA
  have HC := Lib.hid nC
  have HL := Lib.hid nL
  have HR := Lib.hid nR
  have HG := Lib.hid nG
  have HN := Lib.hid nN
  obtain ⟨W2, hW2⟩ : ∃ W2, W2 = (w.alloc (.cells jzCells 45)).alloc (.cells #[.pointer none, .pointer (some ⟨w.heap.size, 0, none⟩)] 30) := ⟨_, rfl⟩
  have HB2 := Lib.hid (show Below w.heap.size w W2 by rw [hW2]; exact (belowNew w _).alloc (belowNew w _).size _)
  have HS := Lib.hid (show Blk W2 (w.heap.size + 1) #[.pointer none, .pointer (some ⟨w.heap.size, 0, none⟩)] 30 by
    have := Blk.new (w.alloc (.cells jzCells 45)) #[.pointer none, .pointer (some ⟨w.heap.size, 0, none⟩)] 30
    rw [show (w.alloc (.cells jzCells 45)).heap.size = w.heap.size + 1 by simp] at this
    rw [hW2]; exact this)
  have HZ := Lib.hid (show NobV W2 (.pointer (some ⟨w.heap.size, 0, none⟩)) from .inr ⟨w.heap.size, rfl, by
    rw [hW2]; exact (Blk.new w jzCells 45).alloc _⟩)
  unfold jzCells at hW2
  clear hA nO nA nC nL nR nG nN
  go_enter Try.func5, Try.ntmps5
  go_upto_region 2 with fail
  rw [← hW2]
  have hs2 : w.heap.size + 1 < W2.heap.size := HS.out.lt
  obtain ⟨s, hs⟩ : ∃ s, s = w.heap.size := ⟨_, rfl⟩
  rw [← hs] at HS HZ hs2 ⊢
  clear hW2 hs
  go_loopw [15] (fun i wr => ∃ k : Nat, k ≤ 2 ∧ i = .int .i64 k ∧ Below W2.heap.size W2 wr) (fun i _ => 2 - (intOf i).toNat)
  case atStart => exact ⟨0, by omega, rfl, Below.refl _ _⟩
  case round =>
    obtain ⟨k, hk, rfl, hB⟩ := hrel
    have HB := Lib.hid hB
    clear hB
    by_cases hlt : k < 2
    · obtain ⟨pv, hpv, hnob⟩ : ∃ pv, wr.cell? ⟨s + 1, k, none⟩ = some pv ∧ NobV W2 pv := by
        have hc : k = 0 ∨ k = 1 := by omega
        rcases hc with rfl | rfl
        · exact ⟨.pointer none, (HB.out.cell (p := ⟨s + 1, 0, none⟩) hs2).trans (HS.out.cell 0), .inl rfl⟩
        · exact ⟨.pointer (some ⟨s, 0, none⟩), (HB.out.cell (p := ⟨s + 1, 1, none⟩) hs2).trans (HS.out.cell 1), HZ.out⟩
      have HNv := Lib.hid hnob
      clear hnob
      have h1 := Lib.hid (HO.out wr pv gen (HNv.out.below HB.out))
      go_wp2_with fail
      refine h1.out.mono ?_
      rintro e V1 ⟨q, c, rfl, hB1⟩
      have HB1 := Lib.hid (HB.out.trans (hB1.mono HB.out.size))
      have h2 := Lib.hid (HAd.out V1 pv p len cap (HNv.out.below HB1.out))
      clear hB1 h1
      go_wp2_with fail
      refine h2.out.mono ?_
      rintro e V2 ⟨rfl, hB2⟩
      have HB2' := Lib.hid (HB1.out.trans (hB2.mono HB1.out.size))
      have h3 := Lib.hid (HC.out V2 pv (HNv.out.below HB2'.out))
      clear hB2 h2 HB1
      go_wp2_with fail
      refine h3.out.mono ?_
      rintro e V3 ⟨rfl, hB3⟩
      have HB3 := Lib.hid (HB2'.out.trans (hB3.mono HB2'.out.size))
      have h4 := Lib.hid (HL.out V3 pv (HNv.out.below HB3.out))
      clear hB3 h3 HB2'
      go_wp2_with fail
      refine h4.out.mono ?_
      rintro e V4 ⟨rfl, hB4⟩
      have HB4 := Lib.hid (HB3.out.trans (hB4.mono HB3.out.size))
      have h5 := Lib.hid (HR.out V4 pv (HNv.out.below HB4.out))
      clear hB4 h4 HB3
      go_wp2_with fail
      refine h5.out.mono ?_
      rintro e V5 ⟨rfl, hB5⟩
      have HB5 := Lib.hid (HB4.out.trans (hB5.mono HB4.out.size))
      have h6 := Lib.hid (HG.out V5 pv (HNv.out.below HB5.out))
      clear hB5 h5 HB4
      go_wp2_with fail
      refine h6.out.mono ?_
      rintro e V6 ⟨rfl, hB6⟩
      have HB6 := Lib.hid (HB5.out.trans (hB6.mono HB5.out.size))
      clear hB6 h6 HB5 hpv
      go_wp2_with fail
      go_roundw
      case rel => exact ⟨k + 1, by omega, by go_num, HB6.out⟩
      case measure => simp [intOf]; omega
    · have HBw := Lib.hid (HB2.out.trans (HB.out.mono HB2.out.size))
      have h1 := Lib.hid (HN.out wr)
      go_wp2_with fail
      refine h1.out.mono ?_
      rintro e V1 ⟨rfl, hB1⟩
      have HB1 := Lib.hid (HBw.out.trans (hB1.mono HBw.out.size))
      clear hB1 h1
      go_wp2_with fail
      refine (HA.out _).mono ?_
      rintro e V2 ⟨rfl, hB2⟩
      have HB3 := Lib.hid (HB1.out.trans (hB2.mono HB1.out.size))
      clear hB2
      go_wp2_with fail
      go_ret
      exact ⟨rfl, HB3.out⟩
end Go.Proofs.Ytlbdpoolhmbgaaa

/-! JrnV -/
namespace Go.Proofs.Ytlbdpoolhmbgaaa
open Go.RowKit

/-- The disks of this run, one behind the other. -/
structure VFacts (S0 S1 S2 S3 S4 S5 S6 : DS) : Prop where
  q1 : S1 = addD S0 ⟨1, 2, 0, 0⟩ [120]
  q2 : S2 = armS S1 1 0
  q3 : S3 = addD S2 ⟨1, 2, 0, 1⟩ [121]
  q4 : S4 = powerS S3
  q5 : S5 = cleanD S4 ⟨1, 2, 0, 1⟩
  q6 : S6 = addD S5 ⟨1, 2, 0, 1⟩ [122]
  w0 : S0.wr ≤ 1000000
  e1 : addE S0 ⟨1, 2, 0, 0⟩ [120] = 0
  j1 : addJ S0 ⟨1, 2, 0, 0⟩ [120] = ⟨1, 2, 0, 1⟩
  w2 : S2.wr ≤ 1000000
  e3 : addE S2 ⟨1, 2, 0, 1⟩ [121] = 19
  j3 : addJ S2 ⟨1, 2, 0, 1⟩ [121] = ⟨1, 2, 0, 1⟩
  o4 : S4.off = false
  s4 : stepsL S4 1 0 2 = [[120]]
  w4 : S4.wr ≤ 1000000
  e5 : cleanE S4 ⟨1, 2, 0, 1⟩ = 0
  w5 : S5.wr ≤ 1000000
  e6 : addE S5 ⟨1, 2, 0, 1⟩ [122] = 0
  j6 : addJ S5 ⟨1, 2, 0, 1⟩ [122] = ⟨1, 2, 0, 2⟩
  w6 : S6.wr ≤ 1000000
  e7 : addE S6 ⟨1, 2, 0, 2⟩ [] = 12
  d7 : addD S6 ⟨1, 2, 0, 2⟩ [] = S6
  j7 : addJ S6 ⟨1, 2, 0, 2⟩ [] = ⟨1, 2, 0, 2⟩
theorem vfacts (S0 : DS) (ok0 : DSOk S0) (l0 : S0.len = 9) (o0 : S0.off = false) (f0 : S0.fuse = -1) (w0 : S0.wr = 0) : ∃ S1 S2 S3 S4 S5 S6, VFacts S0 S1 S2 S3 S4 S5 S6 := by
  obtain ⟨S1, q1⟩ : ∃ S, S = addD S0 ⟨1, 2, 0, 0⟩ [120] := ⟨_, rfl⟩
  obtain ⟨S2, q2⟩ : ∃ S, S = armS S1 1 0 := ⟨_, rfl⟩
  obtain ⟨S3, q3⟩ : ∃ S, S = addD S2 ⟨1, 2, 0, 1⟩ [121] := ⟨_, rfl⟩
  obtain ⟨S4, q4⟩ : ∃ S, S = powerS S3 := ⟨_, rfl⟩
  obtain ⟨S5, q5⟩ : ∃ S, S = cleanD S4 ⟨1, 2, 0, 1⟩ := ⟨_, rfl⟩
  obtain ⟨S6, q6⟩ : ∃ S, S = addD S5 ⟨1, 2, 0, 1⟩ [122] := ⟨_, rfl⟩
  have jok0 : JOk S0 ⟨1, 2, 0, 0⟩ := ⟨by show 0 ≤ 2; omega, by show 2 ≤ 64; omega, by rw [l0]; show 1 + 2 * 2 ≤ 9; omega, by show 0 ≤ 2147483647; omega⟩
  obtain ⟨e1, j1, ok1, l1, o1, f1, w1, s1⟩ := jstepAt_add (b := [120]) ok0 jok0 (by show 0 ≠ 2; omega) o0 f0 (by simp)
  rw [← q1] at ok1 l1 o1 f1 w1 s1
  have ha : armE 1 0 = 0 := by decide
  have e2 : S2 = { S1 with fuse := 1, keep := 0 } := by rw [q2]; unfold armS; rw [if_pos ha]
  have ok2 : DSOk S2 := by rw [q2]; exact ok1.arm 1 0 (by omega)
  have l2 : S2.len = 9 := by rw [q2, armS_len, l1, l0]
  have o2 : S2.off = false := by rw [e2]; exact o1
  have f2 : S2.fuse = 1 := by rw [e2]
  have k2 : S2.keep = 0 := by rw [e2]
  have w2 : S2.wr ≤ 2 := by rw [e2]; show S1.wr ≤ 2; omega
  have s2 : jstepAt S2 1 0 0 = some [120] := by rw [q2, jstepAt_arm]; exact (s1 0 0).trans (by simp)
  clear e2
  have hx : (frL 82 0 1 [121]).length = 128 := frL_length (by simp)
  have hy : (frL 67 0 1 []).length = 128 := frL_length (by simp)
  have hz : (zeros 128).length = 128 := by unfold zeros; rw [List.length_replicate]
  have hat : (JS.mk 1 2 0 1).at_ + 2 * (JS.mk 1 2 0 1).n + 1 < S2.len := by rw [l2]; show 1 + 2 * 1 + 1 < 9; omega
  have eD : S3 = put2S S2 ⟨1, 2, 0, 1⟩ (frL 82 0 1 [121]) (frL 67 0 1 []) := by rw [q3]; unfold addD; rw [if_neg (by simp)]
  have eE : addE S2 ⟨1, 2, 0, 1⟩ [121] = put2E S2 ⟨1, 2, 0, 1⟩ (frL 82 0 1 [121]) (frL 67 0 1 []) := by unfold addE; rw [if_neg (by simp), if_neg (by simp)]
  generalize frL 82 0 1 [121] = X at *
  generalize hY : frL 67 0 1 [] = Y at *
  obtain ⟨ok3, l3, w3, other3⟩ := put2_keep ok2 hat hx hy
  obtain ⟨p1, p2, p3, p4⟩ := put2_b ok2 hat hx hy o2 f2
  rw [← eD] at ok3 l3 w3 other3 p2 p3 p4
  rw [← eE] at p1
  have j3 : addJ S2 ⟨1, 2, 0, 1⟩ [121] = ⟨1, 2, 0, 1⟩ := by unfold addJ; rw [p1, if_neg (by decide)]
  have b4 : (frR 67 (blockL S3 (1 + 2 * 1 + 1))).e ≠ 0 := by
    have h4 : blockL S3 (1 + 2 * 1 + 1) = tornL S2.keep Y := p4
    rw [h4, k2]
    exact frR_torn (k := 0) hy (by omega)
  have s3 : jstepAt S3 1 0 0 = some [120] := by
    rw [← s2]
    exact jstepAt_cong (other3 _ (by simp) (by simp)) (other3 _ (by simp) (by simp)) 0
  have ok4 : DSOk S4 := by rw [q4]; exact ok3.power
  have l4 : S4.len = 9 := by rw [q4]; show S3.len = 9; rw [l3, l2]
  have w4 : S4.wr ≤ 4 := by rw [q4]; show S3.wr ≤ 4; omega
  have o4 : S4.off = false := by rw [q4]; rfl
  have f4 : S4.fuse = -1 := by rw [q4]; rfl
  have s4 : stepsL S4 1 0 2 = [[120]] := by
    refine stepsL_eq (by simp) (fun e he => ?_) (fun _ => ?_)
    · obtain rfl : e = 0 := by simp at he; omega
      rw [q4, jstepAt_power]; exact s3
    · refine jstepAt_no ?_
      rw [q4, blockL_power]; exact b4
  have hat4 : (JS.mk 1 2 0 1).at_ + 2 * (JS.mk 1 2 0 1).n + 1 < S4.len := by rw [l4]; show 1 + 2 * 1 + 1 < 9; omega
  have eC : S5 = put2S S4 ⟨1, 2, 0, 1⟩ (zeros 128) (zeros 128) := by rw [q5]; unfold cleanD; rw [if_neg (by simp)]
  have eF : cleanE S4 ⟨1, 2, 0, 1⟩ = put2E S4 ⟨1, 2, 0, 1⟩ (zeros 128) (zeros 128) := by unfold cleanE; rw [if_neg (by simp)]
  generalize zeros 128 = Z at *
  obtain ⟨ok5, l5, w5, -⟩ := put2_keep ok4 hat4 hz hz
  obtain ⟨c1, c2, c3, -, -, -⟩ := put2_c ok4 hat4 hz hz o4 (by omega) (by omega)
  rw [← eC] at ok5 l5 w5 c2 c3
  rw [← eF] at c1
  have f5 : S5.fuse = -1 := by rw [c3, if_neg (by omega), f4]
  have jok5 : JOk S5 ⟨1, 2, 0, 1⟩ := ⟨by show 1 ≤ 2; omega, by show 2 ≤ 64; omega, by rw [l5, l4]; show 1 + 2 * 2 ≤ 9; omega, by show 0 ≤ 2147483647; omega⟩
  obtain ⟨e6, j6, -, -, -, -, w6, -⟩ := jstepAt_add (b := [122]) ok5 jok5 (by show 1 ≠ 2; omega) c2 f5 (by simp)
  rw [← q6] at w6
  have e7 : addE S6 ⟨1, 2, 0, 2⟩ [] = 12 := by unfold addE; rw [if_pos rfl]
  exact ⟨S1, S2, S3, S4, S5, S6, q1, q2, q3, q4, q5, q6, by omega, e1, j1, by omega, p1, j3, o4, s4, by omega, c1, by omega, e6, j6, by omega, e7, by unfold addD; rw [if_pos (.inl rfl)], by unfold addJ; rw [e7, if_neg (by decide)]⟩

theorem JW.addLit {K : DiskRel} {R : JrnRel} {w : World} {jb db : Nat} {S : DS} {J : JS} {rs : List (Value × List (List UInt8))} {V : World} (c : JAddC K R) (h : JW K R w jb db S J rs V) (hw : S.wr ≤ 1000000) (x : UInt8) (fr : Nat × Nat) :
    Calls Try.prog 10 #[ptrV jb, .slice (some ⟨V.heap.size, 0, none⟩) 1 1] (V.alloc (.cells #[.int .u8 (x.toNat : Int)] 5 fr)) fun e w' => e = .returned (.int .i64 (addE S J [x])) ∧ JW K R w jb db (addD S J [x]) (addJ S J [x]) rs w' :=
  (h.step (below_mark V #[.int .u8 (x.toNat : Int)] fr)).add2 c hw (bs_mark V #[.int .u8 (x.toNat : Int)] fr [x] rfl (by simp)) (by simp)

set_option maxRecDepth 100000 in
set_option maxHeartbeats 6400000 in
theorem jalive_any (K : DiskRel) (R : JrnRel) (dN : DNewC K) (dA : DArmC K) (dP : DPowerC K) (jN : JNewC K R) (jX : JNewNoC K) (jA : JAddC K R) (jO : JOpenC K R) (jC : JCleanC K R) (jL : JLenC K R) (jR : JRoomC K R) (jG : JGenC K R) (nA : JNilAddC) (nL : JNilLenC) : JAliveC := by
  intro w
  have kc := fun (w : World) (C : Array Value) (n c : Nat) => Lib.run_convert_bytes_const (P := Try.prog) w 34 5 C n c Try.underlying34 Try.underlying5
  obtain ⟨S1, S2, S3, S4, S5, S6, hF⟩ := vfacts (DS.new 9) (DSOk.new (by omega)) (DS.new_len 9) rfl rfl rfl
  have HF := Lib.hid hF
  clear hF
  have HN : Hid (Calls Try.prog 7 #[.int .i64 9] w fun e w' => ∃ b F, e = .returned (.tuple #[ptrV b, .int .i64 0]) ∧ K.At w' b (DS.new 9) F ∧ (∀ k, F k → w.heap.size ≤ k) ∧ Below w.heap.size w w') := Lib.hid (dN 9 w (by omega) (by omega))
  go_enter Try.func6, Try.ntmps6
  go_wp2_with fail
  refine HN.out.mono ?_
  rintro e V1 ⟨db, D, rfl, hD, hown, hB1⟩
  have HJ : Hid (Calls Try.prog 8 #[ptrV db, .int .i64 1, .int .i64 2] V1 fun e w' => ∃ jb, e = .returned (.tuple #[ptrV jb, .int .i64 0]) ∧ JW K R w jb db (DS.new 9) ⟨1, 2, 0, 0⟩ [] w') := Lib.hid (JW.made jN hD hown hB1 1 2 (by omega) (by omega) (by omega) (by omega))
  clear hD hown hB1 HN
  unfold ptrV at *
  go_wp2_with fail
  refine HJ.out.mono ?_
  rintro e V2 ⟨jb, rfl, hW⟩
  have hX : Calls Try.prog 8 #[ptrV db, .int .i64 6, .int .i64 2] V2 fun e w' => e = .returned (.tuple #[.pointer none, .int .i64 8]) ∧ JW K R w jb db (DS.new 9) ⟨1, 2, 0, 0⟩ [] w' := by
    obtain ⟨F, h1, -⟩ := hW.ex
    obtain ⟨D, G, g1, -⟩ := h1.ex
    exact (jX 6 2 V2 db (DS.new 9) D g1 (DSOk.new (by omega)) (by omega) (by omega) (by omega) (by rw [DS.new_len]; omega)).mono fun e w' ⟨he, hB⟩ => ⟨he, hW.step hB⟩
  have HX := Lib.hid hX
  clear hW HJ hX
  unfold ptrV at *
  go_wp2_with fail
  refine HX.out.mono ?_
  rintro e V3 ⟨rfl, hW3⟩
  have HW3 := Lib.hid hW3
  clear hW3 HX
  go_wp2_with fail
  have HA1 : Hid (Calls Try.prog 10 #[ptrV jb, .slice (some ⟨V3.heap.size, 0, none⟩) 1 1] (V3.alloc (.cells #[.int .u8 120] 5 (1, 2))) fun e w' => e = .returned (.int .i64 0) ∧ JW K R w jb db S1 ⟨1, 2, 0, 1⟩ [] w') := Lib.hid (by
    have h := HW3.out.addLit jA HF.out.w0 120 (1, 2)
    rw [HF.out.e1, HF.out.j1, ← HF.out.q1] at h
    exact h)
  unfold ptrV at *
  refine HA1.out.mono ?_
  rintro e V4 ⟨rfl, hW4⟩
  have HA2 : Hid (Calls Try.prog 9 #[ptrV db, .int .i64 1, .int .i64 0] V4 fun e w' => e = .returned (.int .i64 0) ∧ JW K R w jb db S2 ⟨1, 2, 0, 1⟩ [] w') := Lib.hid (by
    have h := hW4.arm dA 1 0 (by omega)
    rw [show armE 1 0 = 0 by decide, ← HF.out.q2] at h
    exact h)
  clear hW4 HA1 HW3
  unfold ptrV at *
  go_wp2_with fail
  refine HA2.out.mono ?_
  rintro e V5 ⟨rfl, hW5⟩
  have HA3 : Hid (Calls Try.prog 10 #[ptrV jb, .slice (some ⟨V5.heap.size, 0, none⟩) 1 1] (V5.alloc (.cells #[.int .u8 121] 5 (1, 2))) fun e w' => e = .returned (.int .i64 19) ∧ JW K R w jb db S3 ⟨1, 2, 0, 1⟩ [] w') := Lib.hid (by
    have h := hW5.addLit jA HF.out.w2 121 (1, 2)
    rw [HF.out.e3, HF.out.j3, ← HF.out.q3] at h
    exact h)
  clear hW5 HA2
  unfold ptrV at *
  go_wp2_with fail
  refine HA3.out.mono ?_
  rintro e V6 ⟨rfl, hW6⟩
  have HA4 : Hid (Calls Try.prog 12 #[ptrV db] V6 fun e w' => e = .returned (.tuple #[]) ∧ JW K R w jb db S4 ⟨1, 2, 0, 1⟩ [] w') := Lib.hid (by
    have h := hW6.power dP
    rw [← HF.out.q4] at h
    exact h)
  clear hW6 HA3
  unfold ptrV at *
  go_wp2_with fail
  refine HA4.out.mono ?_
  rintro e V7 ⟨rfl, hW7⟩
  have HO : Hid (Calls Try.prog 13 #[ptrV jb, .int .i64 0] V7 fun e w' => ∃ v, e = .returned (.tuple #[v, .int .i64 0]) ∧ JW K R w jb db S4 ⟨1, 2, 0, 1⟩ ((v, [[120]]) :: []) w') := Lib.hid (hW7.openOn jO 0 (by omega) HF.out.o4 HF.out.s4)
  clear hW7 HA4
  unfold ptrV at *
  go_wp2_with fail
  refine HO.out.mono ?_
  rintro e V8 ⟨v8, rfl, hW8⟩
  have HC : Hid (Calls Try.prog 15 #[ptrV jb] V8 fun e w' => e = .returned (.int .i64 0) ∧ JW K R w jb db S5 ⟨1, 2, 0, 1⟩ ((v8, [[120]]) :: []) w') := Lib.hid (by
    have h := hW8.clean jC HF.out.w4
    rw [HF.out.e5, ← HF.out.q5] at h
    exact h)
  clear hW8 HO
  unfold ptrV at *
  go_wp2_with fail
  refine HC.out.mono ?_
  rintro e V9 ⟨rfl, hW9⟩
  have HA5 : Hid (Calls Try.prog 10 #[ptrV jb, .slice (some ⟨V9.heap.size, 0, none⟩) 1 1] (V9.alloc (.cells #[.int .u8 122] 5 (1, 2))) fun e w' => e = .returned (.int .i64 0) ∧ JW K R w jb db S6 ⟨1, 2, 0, 2⟩ ((v8, [[120]]) :: []) w') := Lib.hid (by
    have h := hW9.addLit jA HF.out.w5 122 (1, 2)
    rw [HF.out.e6, HF.out.j6, ← HF.out.q6] at h
    exact h)
  clear hW9 HC
  unfold ptrV at *
  go_wp2_with fail
  refine HA5.out.mono ?_
  rintro e V10 ⟨rfl, hW10⟩
  have HW10 := Lib.hid hW10
  clear hW10 HA5
  go_upto_region 13 with fail
  (try simp only [List.append_eq, List.cons_append, List.nil_append])
  go_wp2_with fail
  have hW11 := (HW10.out.step (below_mark V10 #[.int .u8 120] (1, 2))).step (belowNew (V10.alloc (.cells #[.int .u8 120] 5 (1, 2))) (.cells #[.slice (some ⟨V10.heap.size, 0, none⟩) 1 1] 34))
  have hr : RowsAt ((V10.alloc (.cells #[.int .u8 120] 5 (1, 2))).alloc (.cells #[.slice (some ⟨V10.heap.size, 0, none⟩) 1 1] 34)) (.slice (some ⟨V10.heap.size + 1, 0, none⟩) 1 1) [[120]] := by
    have h1 := rows_one (bs_mark V10 #[.int .u8 120] (1, 2) [120] rfl (by simp)) 34
    rw [show (V10.alloc (.cells #[.int .u8 120] 5 (1, 2))).heap.size = V10.heap.size + 1 by simp] at h1
    exact h1
  have HS := Lib.hid (rows_same v8 _ [[120]] [[120]] _ (hW11.row (v := v8) (l := [[120]]) (by simp)) hr)
  rw [show decide (([[120]] : List (List UInt8)) = [[120]]) = true by simp] at HS
  have HW11 := Lib.hid hW11
  clear hW11 hr
  refine HS.out.mono ?_
  rintro e V12 ⟨rfl, hB12⟩
  have hW12 := HW11.out.step hB12
  have HA7 : Hid (Calls Try.prog 10 #[ptrV jb, .slice none 0 0] V12 fun e w' => e = .returned (.int .i64 12) ∧ JW K R w jb db S6 ⟨1, 2, 0, 2⟩ ((v8, [[120]]) :: []) w') := Lib.hid (by
    have h := hW12.add2 jA HF.out.w6 (bsAt_nil V12) (by simp)
    rw [HF.out.e7, HF.out.j7, HF.out.d7] at h
    exact h)
  clear hB12 HS HW11 hW12 HW10
  unfold ptrV at *
  go_wp2_with fail
  refine HA7.out.mono ?_
  rintro e V13 ⟨rfl, hW13⟩
  have HL : Hid (Calls Try.prog 17 #[ptrV jb] V13 fun e w' => e = .returned (.int .i64 2) ∧ JW K R w jb db S6 ⟨1, 2, 0, 2⟩ ((v8, [[120]]) :: []) w') := Lib.hid (hW13.len jL)
  clear hW13 HA7
  unfold ptrV at *
  go_wp2_with fail
  refine HL.out.mono ?_
  rintro e V14 ⟨rfl, hW14⟩
  have HR : Hid (Calls Try.prog 18 #[ptrV jb] V14 fun e w' => e = .returned (.int .i64 2) ∧ JW K R w jb db S6 ⟨1, 2, 0, 2⟩ ((v8, [[120]]) :: []) w') := Lib.hid (hW14.room jR)
  clear hW14 HL
  unfold ptrV at *
  go_wp2_with fail
  refine HR.out.mono ?_
  rintro e V15 ⟨rfl, hW15⟩
  have HG : Hid (Calls Try.prog 16 #[ptrV jb] V15 fun e w' => e = .returned (.int .i64 0) ∧ JW K R w jb db S6 ⟨1, 2, 0, 2⟩ ((v8, [[120]]) :: []) w') := Lib.hid (hW15.gen jG)
  clear hW15 HR
  unfold ptrV at *
  go_wp2_with fail
  refine HG.out.mono ?_
  rintro e V16 ⟨rfl, hW16⟩
  have HB16 := Lib.hid hW16.below
  have HNa := Lib.hid (nA none 0 0 V16)
  clear hW16 HG
  go_wp2_with fail
  refine HNa.out.mono ?_
  rintro e V17 ⟨rfl, hB17⟩
  have HB17 := Lib.hid (HB16.out.trans (hB17.mono HB16.out.size))
  have HNl := Lib.hid (nL V17)
  clear hB17 HNa HB16
  go_wp2_with fail
  refine HNl.out.mono ?_
  rintro e V18 ⟨rfl, hB18⟩
  have HB18 := Lib.hid (HB17.out.trans (hB18.mono HB17.out.size))
  clear hB18 HNl HB17
  go_wp2_with fail
  go_ret
  exact ⟨rfl, HB18.out⟩
end Go.Proofs.Ytlbdpoolhmbgaaa

/-! FrmE -/
namespace Go.Proofs.Ytlbdpoolhmbgaaa
open Go.RowKit

/-- Where a part of a block lies. -/
def partP (p : Option Addr) (lo hi : Nat) : Option Addr := if hi = lo then p else p.map (·.add lo)
set_option maxHeartbeats 400000 in
theorem fpart_any (p : Option Addr) (len cap lo hi : Nat) (x y : Int) (w : World) (hx : x = (lo : Int)) (hy : y = (hi : Int)) (h1 : lo ≤ hi) (h2 : hi ≤ cap) :
    Calls Try.prog 28 #[.slice p len cap, .int .i64 x, .int .i64 y] w fun e w' => e = .returned (.slice (partP p lo hi) (hi - lo) (hi - lo)) ∧ w = w' := by
  have q : ∀ V, (Instr.slice 34 (.slice p len cap) (some (.int .i64 x)) (some (.int .i64 y)) (some (.int .i64 y))).run Try.prog V = .ok (.slice (partP p lo hi) (hi - lo) (hi - lo)) V := by
    intro V
    rw [run_slice_lhm V _ _ _ _ elemU8 .i64 .i64 .i64 _ _ _ (by omega) (by omega) (by omega) (by omega), sizeU8]
    subst hx; subst hy
    simp [Result.andThen, sliced, partP]
  clear hx hy h1 h2
  go_enter Try.func28, Try.ntmps28
  go_wp2_with fail
  go_ret
  exact ⟨rfl, rfl⟩
/-- A part that is not empty, of a block that has an address. -/
theorem fpart_at (g off len cap lo hi : Nat) (x y : Int) (o n : Nat) (w : World) (hx : x = (lo : Int)) (hy : y = (hi : Int)) (h1 : lo < hi) (h2 : hi ≤ cap) (ho : off + lo = o) (hn : hi - lo = n) :
    Calls Try.prog 28 #[.slice (some ⟨g, off, none⟩) len cap, .int .i64 x, .int .i64 y] w fun e w' => e = .returned (.slice (some ⟨g, o, none⟩) n n) ∧ w = w' := by
  refine (fpart_any (some ⟨g, off, none⟩) len cap lo hi x y w hx hy (by omega) h2).mono fun e w' ⟨he, hw⟩ => ⟨?_, hw⟩
  subst ho; subst hn
  rw [he, partP, if_neg (by omega)]
  have : (⟨g, off, none⟩ : Addr).add lo = ⟨g, off + lo, none⟩ := by unfold Addr.add; split <;> simp_all
  simp [this]
/-- A part reads as the bytes there. -/
theorem part_bs {w : World} {p : Option Addr} {len cap lo hi : Nat} {l : List UInt8} (h : BsAt w p len cap l) (h1 : lo ≤ hi) (h2 : hi ≤ len) : BsAt w (partP p lo hi) (hi - lo) (hi - lo) ((l.take hi).drop lo) := by
  have hl := h.same
  have ht := bs_take (n := hi) h (by omega)
  have hc : BsAt w p hi hi (l.take hi) := by
    refine ⟨ht.same, Nat.le_refl _, by have := h.le; have := h.small; omega, ?_⟩
    rcases ht.place with ⟨h3, h4⟩ | h3 | h3
    · exact .inl ⟨h3, by have := h.le; omega⟩
    · exact .inr (.inl h3)
    · exact .inr (.inr h3)
  have hd := bs_drop (n := lo) hc (by rw [List.length_take]; omega)
  exact hd

set_option maxHeartbeats 400000 in
theorem fwithin_any (n most : Int) (w : World) : Calls Try.prog 26 #[.int .i64 n, .int .i64 most] w fun e w' => e = .returned (.bool (decide (0 ≤ n) && decide (n ≤ most))) ∧ w = w' := by
  by_cases h1 : 0 ≤ n
  · by_cases h2 : n ≤ most
    · have b1 : decide (0 ≤ n) = true := by simpa using h1
      have b2 : decide (n ≤ most) = true := by simpa using h2
      go_enter Try.func26, Try.ntmps26
      go_wp2_with fail
      go_ret
      exact ⟨by rw [b1, b2]; rfl, rfl⟩
    · have b1 : decide (0 ≤ n) = true := by simpa using h1
      have b2 : decide (n ≤ most) = false := by simpa using h2
      clear h1 h2
      go_enter Try.func26, Try.ntmps26
      go_wp2_with fail
      go_ret
      exact ⟨by rw [b1, b2]; rfl, rfl⟩
  · have b1 : decide (0 ≤ n) = false := by simpa using h1
    clear h1
    go_enter Try.func26, Try.ntmps26
    go_wp2_with fail
    go_ret
    exact ⟨by rw [b1]; rfl, rfl⟩

theorem wNum_fit {l : List UInt8} {n : Nat} {k : Nat} (h1 : 1 ≤ k) (h4 : k ≤ 4) (hn : n < 256 ^ k) : wNum (l, 0) (n : Int) (k : Int) = (l ++ be n k, 0) := by
  have ho : okN (n : Int) (k : Int) = true := by
    rw [okN_iff]
    refine ⟨by omega, by omega, by omega, ?_⟩
    have e : (256 : Int) ^ k = ((256 ^ k : Nat) : Int) := (Int.natCast_pow 256 k).symm
    rw [Int.toNat_natCast, e]
    exact Int.ofNat_lt.2 hn
  unfold wNum addS
  rw [if_pos ho, if_pos rfl, Int.toNat_natCast, Int.toNat_natCast]
theorem head_num (kd : UInt8) (gen seq n : Nat) (hg : gen < 4294967296) (hs : seq < 65536) (hn : n < 256) :
    wNum (wNum (wNum (wNum ([], 0) (kd.toNat : Int) 1) (gen : Int) 4) (seq : Int) 2) (n : Int) 1 = (frHead kd gen seq n, 0) := by
  have e1 : wNum ([], 0) (kd.toNat : Int) 1 = _ := wNum_fit (l := []) (n := kd.toNat) (k := 1) (by omega) (by omega) (by have := kd.toNat_lt; simpa using this)
  have e2 : wNum ([] ++ be kd.toNat 1, 0) (gen : Int) 4 = _ := wNum_fit (l := [] ++ be kd.toNat 1) (n := gen) (k := 4) (by omega) (by omega) (by simpa using hg)
  have e3 : wNum ([] ++ be kd.toNat 1 ++ be gen 4, 0) (seq : Int) 2 = _ := wNum_fit (l := [] ++ be kd.toNat 1 ++ be gen 4) (n := seq) (k := 2) (by omega) (by omega) (by simpa using hs)
  have e4 : wNum ([] ++ be kd.toNat 1 ++ be gen 4 ++ be seq 2, 0) (n : Int) 1 = _ := wNum_fit (l := [] ++ be kd.toNat 1 ++ be gen 4 ++ be seq 2) (n := n) (k := 1) (by omega) (by omega) (by simpa using hn)
  rw [e1, e2, e3, e4]
  simp [be, frHead, Nat.div_div_eq_div_mul]

set_option maxRecDepth 100000 in
set_option maxHeartbeats 1600000 in
theorem fnumbers_any (kd : UInt8) (gen seq n : Nat) (w : World) (hg : gen < 4294967296) (hs : seq < 65536) (hn : n < 256) :
    Calls Try.prog 27 #[.int .u8 (kd.toNat : Int), .int .i64 (gen : Int), .int .i64 (seq : Int), .int .i64 (n : Int)] w fun e w' => ∃ v, e = .returned (.tuple #[v, .int .i64 0]) ∧ BsNew w (frHead kd gen seq n) v w' ∧ Below w.heap.size w w' := by
  have HN := Lib.hid (head_num kd gen seq n hg hs hn)
  have H0 := Lib.hid (WAt.new w 69)
  have hk := kd.toNat_lt
  generalize kd.toNat = k at *
  have hkw : IntKind.i64.wrap (k : Int) = (k : Int) := IntWalk.i64_in _ (by omega)
  go_enter Try.func27, Try.ntmps27
  go_wp2_with fail
  refine (wnum_any w.heap.size w.heap.size _ _ _ _ _ _ H0.out (by simp) (by simp)).mono ?_
  rintro e w1 ⟨rfl, v1, hT1⟩
  have HT1 := Lib.hid hT1
  have HB1 := Lib.hid ((belowNew w _).trans (hT1.below H0.out (by simp) (Nat.le_refl _)))
  have hl1 := wNum_le ([], 0) (k : Int) 1
  clear hT1
  go_wp2_with fail
  refine (wnum_any w.heap.size w.heap.size _ _ _ _ _ _ HT1.out.now HB1.out.size (by simp at hl1; omega)).mono ?_
  rintro e w2 ⟨rfl, v2, hT2⟩
  have HT2 := Lib.hid hT2
  have HB2 := Lib.hid (HB1.out.trans (hT2.below HT1.out.now HB1.out.size (Nat.le_refl _)))
  have hl2 := wNum_le (wNum ([], 0) (k : Int) 1) (gen : Int) 4
  clear hT2
  go_wp2_with fail
  refine (wnum_any w.heap.size w.heap.size _ _ _ _ _ _ HT2.out.now HB2.out.size (by simp at hl1; omega)).mono ?_
  rintro e w3 ⟨rfl, v3, hT3⟩
  have HT3 := Lib.hid hT3
  have HB3 := Lib.hid (HB2.out.trans (hT3.below HT2.out.now HB2.out.size (Nat.le_refl _)))
  have hl3 := wNum_le (wNum (wNum ([], 0) (k : Int) 1) (gen : Int) 4) (seq : Int) 2
  clear hT3
  go_wp2_with fail
  refine (wnum_any w.heap.size w.heap.size _ _ _ _ _ _ HT3.out.now HB3.out.size (by simp at hl1; omega)).mono ?_
  rintro e w4 ⟨rfl, v4, hT4⟩
  have HT4 := Lib.hid hT4
  have HB4 := Lib.hid (HB3.out.trans (hT4.below HT3.out.now HB3.out.size (Nat.le_refl _)))
  have hl4 := wNum_le (wNum (wNum (wNum ([], 0) (k : Int) 1) (gen : Int) 4) (seq : Int) 2) (n : Int) 1
  clear hT4
  go_wp2_with fail
  refine (done_any w.heap.size w.heap.size _ _ _ _ HT4.out.now (by simp at hl1; omega)).mono ?_
  rintro e w5 ⟨v5, rfl, hbs, hB5⟩
  have HB5 := Lib.hid (HB4.out.trans (hB5.mono HB4.out.size))
  have HS5 := Lib.hid (hbs.older HB4.out.size)
  rw [HN.out] at HS5
  rw [HN.out]
  clear hbs hB5 HN
  go_wp2_with fail
  refine bodyPost_ret (results_tmp2 rfl _ _ _) rfl ?_
  exact ⟨_, rfl, HS5.out, HB5.out⟩

set_option maxHeartbeats 1600000 in
theorem fblank_any (p : Option Addr) (len cap : Nat) (l : List UInt8) (w : World) (h : BsAt w p len cap l) :
    Calls Try.prog 53 #[.slice p len cap] w fun e w' => e = .returned (.bool (l.all fun c => c == 0)) ∧ w = w' := by
  have hlen := h.same
  subst hlen
  have hm : l.length ≤ 9223372036854775807 := by have := h.le; have := h.small; unfold maxLen at this; omega
  have HB := Lib.hid h
  clear h
  go_enter Try.func53, Try.ntmps53
  go_wp2_with fail
  go_loop [7] (fun i => ∃ j : Nat, j ≤ l.length ∧ i = .int .i64 j ∧ (l.take j).all (fun c => c == 0) = true) (fun i => l.length - (intOf i).toNat)
  case atStart => exact ⟨0, Nat.zero_le _, rfl, by simp⟩
  case round =>
    obtain ⟨j, hj, rfl, ha⟩ := hrel
    have HA := Lib.hid ha
    clear ha
    by_cases hlt : j < l.length
    · obtain ⟨g', off, rfl, hc⟩ : ∃ g' off, p = some ⟨g', off, none⟩ ∧ w.cell? ⟨g', off + j, none⟩ = some (.int .u8 (l[j].toNat : Int)) := by
        rcases HB.out.place with ⟨-, h2⟩ | ⟨h2, -⟩ | ⟨g', off, rfl, -, h3⟩
        · have := HB.out.le; omega
        · rw [h2] at hlt; simp at hlt
        · exact ⟨g', off, rfl, h3 j hlt⟩
      by_cases hz : l[j] = 0
      · have hx : ((l[j].toNat : Nat) : Int) = 0 := by rw [hz]; rfl
        rw [hx] at hc
        have HA2 := Lib.hid (show (l.take (j + 1)).all (fun c => c == 0) = true by rw [List.take_succ_eq_append_getElem hlt, List.all_append, HA.out, hz]; rfl)
        clear hz hx
        go_wp2_with fail
        go_round
        case rel => exact ⟨j + 1, by omega, by go_num, HA2.out⟩
        case measure => simp [intOf]; omega
      · have HE := Lib.hid (show (l.all fun c => c == 0) = false by
          rw [List.all_eq_false]
          exact ⟨l[j], List.getElem_mem hlt, by simpa using hz⟩)
        have hx : ¬ ((l[j].toNat : Nat) : Int) = 0 := by
          intro e
          exact hz (UInt8.toNat_inj.1 (by simpa using e))
        generalize l[j].toNat = x at *
        clear hz
        go_wp2_with fail
        go_ret
        exact ⟨by rw [HE.out]; rfl, rfl⟩
    · have HE := Lib.hid (show (l.all fun c => c == 0) = true by rw [← HA.out, List.take_of_length_le (by omega)])
      go_wp2_with fail
      go_ret
      exact ⟨by rw [HE.out]; rfl, rfl⟩
end Go.Proofs.Ytlbdpoolhmbgaaa

/-! FrmF -/
namespace Go.Proofs.Ytlbdpoolhmbgaaa
open Go.RowKit

theorem infoSz1 : (Try.prog.info? 5).map (·.size) = some 1 := by kernel_rfl
theorem fresh_of_blk {w : World} {B g n : Nat} {l : List UInt8} {t : TypeId} (h : Blk w g (bvA l) t) (hl : l.length = n) (hB : B ≤ g) (hn : n ≤ maxLen) : FreshB B w (.slice (some ⟨g, 0, none⟩) n n) l :=
  ⟨t, by rw [bvs_length, hl]; omega, .inr ⟨g, n, bvA l, by rw [hl], hB, h, by rw [hl]; exact Nat.le_refl _, hn, by rw [bvA_size, hl, Nat.mul_one], by rw [Nat.mul_one, List.take_of_length_le (by simp [bvA, bvs_length])]; rfl⟩⟩
/-- The row that make made is a block of just these bytes. -/
theorem blk_of_made {w : World} {B g n : Nat} {l : List UInt8} {t : TypeId} (h : w.ownsRow B t 1 (.slice (some ⟨g, 0, none⟩) n n) l.length (bvs l)) : Blk w g (bvA l) t ∧ B ≤ g := by
  obtain ⟨h1, h2⟩ := h
  rcases h2 with ⟨h2, -⟩ | ⟨g', cap, cur, h2, hB, hg, h3, h4, h5, h6⟩
  · cases h2
  · simp only [Value.slice.injEq, Option.some.injEq, Addr.mk.injEq, and_true] at h2
    obtain ⟨rfl, h7, h8⟩ := h2
    refine ⟨?_, hB⟩
    have e : cur = bvA l := by
      apply Array.ext'
      rw [← List.take_of_length_le (l := cur.toList) (i := l.length * 1) (by simp; omega), h6]
      simp [bvA]
    rw [← e]; exact hg
/-- copy(dst, s), s a string that fits. -/
theorem wpList_copy_text {P : Program} {w : World} {ops : Array Oper} {rest : List Oper} {o : Oper} {a : Act} {Q : Exit → Act → World → Prop} (hgd : o.guard = none) (d s : Operand) (dT sT : TypeId)
    (ho : o.op = .call { callee := .builtin .copy, args := #[d, s], argTypes := #[dT, sT] }) (elem : TypeId) (hu : P.underlying dT = some (.slice elem)) (hsz : (P.info? elem).map (·.size) = some 1)
    {g off dLen dCap : Nat} {r : ByteArray} {all : List UInt8} {t : TypeId} (hd : a.eval d = .slice (some ⟨g, off, none⟩) dLen dCap) (hs : a.eval s = .string r) (h : Blk w g (bvA all) t) (hle : r.size ≤ dLen) (hfit : off + r.size ≤ all.length)
    (hK : ∀ w', Put w w' g (bvA (putL all off r.data.toList)) t → wpList P ops Q rest (a.put o.dst (goInt r.size)) w') : wpList P ops Q (o :: rest) a w := by
  refine wpList_plain hgd fun K hK' => ?_
  have hrun := Lib.run_copy_row_string (P := P) w dT sT o.type elem g off dLen dCap r (bvA all) t hu hsz h hle (by rw [bvA_size]; exact hfit)
  have e := bvs_put_row all r.data.toList off
  have hn : (bvs r.data.toList).length = r.size := by rw [bvs_length]; simp
  rw [hn] at e
  have e2 : Lib.byteCells r.data.toList = bvs r.data.toList := rfl
  rw [e2, e] at hrun
  unfold Oper.wp
  simp [execOp, ho, resolve, invoke, builtin, hd, hs, hrun, Result.andThen]
  exact hK' _ _ (hK _ (put_row h))

/-! What lies in the block, copy by copy. -/
theorem fr_put1 (kd : UInt8) (gen seq n : Nat) : putL (zerosB 128) 0 ((frHead kd gen seq n).take 8) = frHead kd gen seq n ++ zerosB 120 := by
  simp [putL, frHead, zerosB]
theorem fr_put2 (kd : UInt8) (gen seq : Nat) (b : List UInt8) (hn : b.length ≤ 112) : putL (frHead kd gen seq b.length ++ zerosB 120) 8 (b.take 112) = frBody kd gen seq b ++ zerosB 8 := by
  have e1 : b.take 112 = b := List.take_of_length_le hn
  have e2 : (frHead kd gen seq b.length).length = 8 := rfl
  unfold putL
  rw [e1, List.take_left' e2, ← List.drop_drop, List.drop_left' e2]
  unfold frBody zeros zerosB
  rw [List.drop_replicate, List.append_assoc, List.append_assoc, List.replicate_append_replicate, show 120 - b.length = 112 - b.length + 8 by omega]
theorem fr_put3 (kd : UInt8) (gen seq : Nat) (b : List UInt8) (hn : b.length ≤ 112) : putL (frBody kd gen seq b ++ zerosB 8) 0 ((sealL (frBody kd gen seq b)).take 124) = sealL (frBody kd gen seq b) ++ zerosB 4 := by
  have hl := frBody_length (kd := kd) (gen := gen) (seq := seq) hn
  have hs : (sealL (frBody kd gen seq b)).length = 124 := by rw [sealL_length, hl]
  have e : (sealL (frBody kd gen seq b)).take 124 = sealL (frBody kd gen seq b) := List.take_of_length_le (by omega)
  unfold putL
  rw [e, hs]
  simp [List.drop_append, hl, zerosB]
theorem fr_put4 (kd : UInt8) (gen seq : Nat) (b : List UInt8) (hn : b.length ≤ 112) : putL (sealL (frBody kd gen seq b) ++ zerosB 4) 124 [0, 0, 0, 69] = frL kd gen seq b := by
  have hl := frBody_length (kd := kd) (gen := gen) (seq := seq) hn
  have hs : (sealL (frBody kd gen seq b)).length = 124 := by rw [sealL_length, hl]
  unfold putL
  rw [List.take_left' hs, List.drop_of_length_le (by simp [hs, zerosB])]
  simp [frL, frTail]
theorem fr_body (kd : UInt8) (gen seq : Nat) (b : List UInt8) (hn : b.length ≤ 112) : (((frBody kd gen seq b ++ zerosB 8).drop 0).take 120) = frBody kd gen seq b := by
  rw [List.drop_zero, List.take_left' (frBody_length hn)]

set_option maxRecDepth 100000 in
set_option maxHeartbeats 3200000 in
theorem frWrite_main (kd : UInt8) (gen seq : Nat) (p : Option Addr) (cap : Nat) (b : List UInt8) (w : World) (h : BsAt w p b.length cap b) (hg : gen ≤ 2147483647) (hs : seq ≤ 65535) (hn : b.length ≤ 112) :
    Calls Try.prog 23 #[.int .u8 (kd.toNat : Int), .int .i64 (gen : Int), .int .i64 (seq : Int), .slice p b.length cap] w fun e w' => ∃ q c, e = .returned (.tuple #[.slice q 128 c, .int .i64 0]) ∧ FreshB w.heap.size w' (.slice q 128 c) (frL kd gen seq b) ∧ Below w.heap.size w w' := by
  have HBs := Lib.hid h
  have HW1 := Lib.hid (fun V => fwithin_any (gen : Int) 2147483647 V)
  have HW2 := Lib.hid (fun V => fwithin_any (seq : Int) 65535 V)
  have HN := Lib.hid (fnumbers_any kd gen seq b.length w (by omega) (by omega) (by omega))
  rw [show (decide (0 ≤ (gen : Int)) && decide ((gen : Int) ≤ 2147483647)) = true by simp; omega] at HW1
  rw [show (decide (0 ≤ (seq : Int)) && decide ((seq : Int) ≤ 65535)) = true by simp; omega] at HW2
  have HF := Lib.hid (And.intro (fr_put1 kd gen seq b.length) (And.intro (fr_put2 kd gen seq b hn) (And.intro (fr_put3 kd gen seq b hn) (And.intro (fr_put4 kd gen seq b hn) (fr_body kd gen seq b hn)))))
  have HL := Lib.hid (And.intro (frBody_length (kd := kd) (gen := gen) (seq := seq) hn) (frL_length (kd := kd) (gen := gen) (seq := seq) hn))
  have hb9 : b.length ≤ 9223372036854775807 := by omega
  have HH := Lib.hid (show (frHead kd gen seq b.length).length = 8 from rfl)
  clear h hg hs
  go_enter Try.func23, Try.ntmps23
  go_wp2_with fail
  with_reducible refine (HW1.out _).mono ?_
  rintro e w0 ⟨rfl, rfl⟩
  go_wp2_with fail
  with_reducible refine (HW2.out _).mono ?_
  rintro e w0 ⟨rfl, rfl⟩
  go_wp2_with fail
  with_reducible refine HN.out.mono ?_
  rintro e w1 ⟨v1, rfl, ⟨p1, n1, c1, rfl, hb1, -⟩, hB1⟩
  have HB1 := Lib.hid hB1
  have HS1 := Lib.hid hb1
  clear hb1 hB1 HW1 HW2 HN
  have tok1 : True := trivial
  go_upto_region 9 with (at_make; have _t := tok1; refine wpList_make_zeros rfl _ _ 34 rfl w1.heap.size 5 Try.underlying34 infoU8 128 rfl rfl rfl rfl (by decide) (Nat.le_refl _) ?_; intro w2 hown hg; have HO2 := Lib.hid hown; have HG2 := Lib.hid hg; clear hown hg tok1)
  have HK2 := Lib.hid (blk_of_made HO2.out).1
  have HB2 := Lib.hid (HB1.out.grown HG2.out HB1.out.size (fun k hk => by cases hk))
  have HS2 := Lib.hid (HS1.out.below ((Below.refl w1.heap.size w1).grown HG2.out (Nat.le_refl _) (fun k hk => by cases hk)) (Nat.le_refl _))
  have hG : w.heap.size ≤ w1.heap.size := HB1.out.size
  clear HO2 HG2 HS1
  generalize w1.heap.size = g at *
  go_wp2_with fail
  with_reducible refine (fpart_at g 0 128 128 0 8 0 8 0 8 _ rfl rfl (by decide) (by decide) rfl rfl).mono ?_
  rintro e w3 ⟨rfl, rfl⟩
  go_wp2_with (refine wpList_copy_part rfl _ _ 34 34 rfl 5 Try.underlying34 infoSz1 rfl rfl HK2.out HS2.out (by simp [zerosB]) ?_; intro w4 hw4; have HP4 := Lib.hid hw4; clear hw4)
  have HB4 := Lib.hid (HB2.out.trans (HP4.out.below HB2.out.size hG))
  have HK4 := Lib.hid HP4.out.blk
  rw [HF.out.1] at HK4
  have HS4 := Lib.hid (HBs.out.below HB4.out (Nat.le_refl _))
  clear HP4 HB2 HK2 HS2
  with_reducible refine (fpart_at g 0 128 128 8 120 8 120 8 112 _ rfl rfl (by decide) (by decide) rfl rfl).mono ?_
  rintro e w5 ⟨rfl, rfl⟩
  go_wp2_with (refine wpList_copy_part rfl _ _ 34 34 rfl 5 Try.underlying34 infoSz1 rfl rfl HK4.out HS4.out (by simp [zerosB, frHead]) ?_; intro w6 hw6; have HP6 := Lib.hid hw6; clear hw6)
  have HB6 := Lib.hid (HB4.out.trans (HP6.out.below HB4.out.size hG))
  have HK6 := Lib.hid HP6.out.blk
  rw [HF.out.2.1] at HK6
  clear HP6 HB4 HK4 HS4
  with_reducible refine (fpart_at g 0 128 128 0 124 0 124 0 124 _ rfl rfl (by decide) (by decide) rfl rfl).mono ?_
  rintro e w7 ⟨rfl, rfl⟩
  go_wp2_with fail
  with_reducible refine (fpart_at g 0 128 128 0 120 0 120 0 120 _ rfl rfl (by decide) (by decide) rfl rfl).mono ?_
  rintro e w7 ⟨rfl, rfl⟩
  have HS7 := Lib.hid (HK6.out.bs (off := 0) (n := 120) (cap := 120) (by simp [HL.out.1]) (Nat.le_refl _) (by decide))
  rw [HF.out.2.2.2.2] at HS7
  go_wp2_with fail
  refine (cSeal_any _ _ _ _ _ HS7.out (by rw [HL.out.1]; decide)).mono ?_
  rintro e w8 ⟨p8, n8, c8, rfl, hb8, hB8⟩
  have HB8 := Lib.hid (HB6.out.trans (hB8.mono HB6.out.size))
  have HK8 := Lib.hid (HK6.out.below hB8 HK6.out.lt)
  have HS8 := Lib.hid hb8
  clear hb8 hB8 HB6 HK6 HS7
  go_wp2_with (refine wpList_copy_part rfl _ _ 34 34 rfl 5 Try.underlying34 infoSz1 rfl rfl HK8.out HS8.out (by simp [zerosB, HL.out.1]) ?_; intro w9 hw9; have HP9 := Lib.hid hw9; clear hw9)
  have HB9 := Lib.hid (HB8.out.trans (HP9.out.below HB8.out.size hG))
  have HK9 := Lib.hid HP9.out.blk
  rw [HF.out.2.2.1] at HK9
  clear HP9 HB8 HK8 HS8
  with_reducible refine (fpart_at g 0 128 128 124 128 124 128 124 4 _ rfl rfl (by decide) (by decide) rfl rfl).mono ?_
  rintro e w10 ⟨rfl, rfl⟩
  have hz9 : 124 + 4 ≤ (sealL (frBody kd gen seq b) ++ zerosB 4).length := by rw [List.length_append, sealL_length, HL.out.1]; simp [zerosB]
  go_wp2_with (refine wpList_copy_text (r := ⟨#[0, 0, 0, 69]⟩) rfl _ _ 34 9 rfl 5 Try.underlying34 infoSz1 rfl rfl HK9.out (by decide) hz9 ?_; intro w11 hw11; have HP11 := Lib.hid hw11; clear hw11)
  refine bodyPost_ret (results_tmp2 rfl _ _ _) rfl ?_
  have HB11 := Lib.hid (HB9.out.trans (HP11.out.below HB9.out.size hG))
  have hk := HP11.out.blk
  rw [HF.out.2.2.2.1] at hk
  exact ⟨some ⟨g, 0, none⟩, 128, rfl, fresh_of_blk hk HL.out.2 hG (by decide), HB11.out⟩
theorem fresh_nil (B : Nat) (w : World) : FreshB B w (.slice none 0 0) [] := ⟨0, World.ownsRow_nil _ _ _ _⟩

set_option maxRecDepth 100000 in
set_option maxHeartbeats 1600000 in
theorem frWrite_any : FrWriteC := by
  intro kd gen seq p len cap b w h h5
  have hlen := h.same
  subst hlen
  by_cases h8 : gen < 0 ∨ 2147483647 < gen ∨ seq < 0 ∨ 65535 < seq
  · have he : frWE gen seq b = 8 := by unfold frWE; rw [if_pos h8]
    have HE := Lib.hid (show frWE gen seq b = 8 ∧ frWL kd gen seq b = [] from ⟨he, by unfold frWL; rw [he]; rfl⟩)
    have HW1 := Lib.hid (fun V => fwithin_any gen 2147483647 V)
    have HW2 := Lib.hid (fun V => fwithin_any seq 65535 V)
    by_cases hg : 0 ≤ gen ∧ gen ≤ 2147483647
    · rw [show (decide (0 ≤ gen) && decide (gen ≤ 2147483647)) = true by simp; omega] at HW1
      rw [show (decide (0 ≤ seq) && decide (seq ≤ 65535)) = false by simp; omega] at HW2
      clear he h h8 hg h5
      generalize b.length = n at *
      go_enter Try.func23, Try.ntmps23
      go_wp2_with fail
      with_reducible refine (HW1.out _).mono ?_
      rintro e w0 ⟨rfl, rfl⟩
      go_wp2_with fail
      with_reducible refine (HW2.out _).mono ?_
      rintro e w0 ⟨rfl, rfl⟩
      go_wp2_with fail
      refine bodyPost_ret (results_tmp2 rfl _ _ _) rfl ?_
      exact ⟨none, 0, by rw [HE.out.1, HE.out.2]; rfl, by rw [HE.out.2]; exact fresh_nil _ _, Below.refl _ _⟩
    · rw [show (decide (0 ≤ gen) && decide (gen ≤ 2147483647)) = false by simp; omega] at HW1
      clear he h h8 hg h5 HW2
      generalize b.length = n at *
      go_enter Try.func23, Try.ntmps23
      go_wp2_with fail
      with_reducible refine (HW1.out _).mono ?_
      rintro e w0 ⟨rfl, rfl⟩
      go_wp2_with fail
      refine bodyPost_ret (results_tmp2 rfl _ _ _) rfl ?_
      exact ⟨none, 0, by rw [HE.out.1, HE.out.2]; rfl, by rw [HE.out.2]; exact fresh_nil _ _, Below.refl _ _⟩
  · obtain ⟨g, rfl⟩ := Int.eq_ofNat_of_zero_le (show 0 ≤ gen by omega)
    obtain ⟨s, rfl⟩ := Int.eq_ofNat_of_zero_le (show 0 ≤ seq by omega)
    by_cases h112 : 112 < b.length
    · have he : frWE g s b = 5 := by unfold frWE; rw [if_neg h8, if_pos h112]
      have HE := Lib.hid (show frWE g s b = 5 ∧ frWL kd g s b = [] from ⟨he, by unfold frWL; rw [he]; rfl⟩)
      have HW1 := Lib.hid (fun V => fwithin_any (g : Int) 2147483647 V)
      have HW2 := Lib.hid (fun V => fwithin_any (s : Int) 65535 V)
      rw [show (decide (0 ≤ (g : Int)) && decide ((g : Int) ≤ 2147483647)) = true by simp; omega] at HW1
      rw [show (decide (0 ≤ (s : Int)) && decide ((s : Int) ≤ 65535)) = true by simp; omega] at HW2
      have hb9 : b.length ≤ 9223372036854775807 := by omega
      clear he h h8 h5
      generalize b.length = n at *
      go_enter Try.func23, Try.ntmps23
      go_wp2_with fail
      with_reducible refine (HW1.out _).mono ?_
      rintro e w0 ⟨rfl, rfl⟩
      go_wp2_with fail
      with_reducible refine (HW2.out _).mono ?_
      rintro e w0 ⟨rfl, rfl⟩
      go_wp2_with fail
      refine bodyPost_ret (results_tmp2 rfl _ _ _) rfl ?_
      exact ⟨none, 0, by rw [HE.out.1, HE.out.2]; rfl, by rw [HE.out.2]; exact fresh_nil _ _, Below.refl _ _⟩
    · have he : frWE g s b = 0 := by unfold frWE; rw [if_neg h8, if_neg h112]
      have hl : frWL kd g s b = frL kd g s b := by unfold frWL; rw [if_pos he]; rfl
      have hlen := frL_length (kd := kd) (gen := g) (seq := s) (b := b) (by omega)
      rw [he, hl, hlen]
      exact frWrite_main kd g s p cap b w h (by omega) (by omega) (by omega)
end Go.Proofs.Ytlbdpoolhmbgaaa

/-! FrmL -/
namespace Go.Proofs.Ytlbdpoolhmbgaaa
open Go.RowKit

/-- What is read of the 120 bytes that were sealed. -/
def padB (T : List UInt8) : Bool := (T.drop (8 + at8 T 7)).all fun c => c == 0
def contR (T : List UInt8) : FrR := if 2147483647 < frGen T ∨ 112 < at8 T 7 ∨ padB T = false then ⟨0, 0, [], 3⟩ else ⟨frGen T, frSeq T, frPay T, 0⟩
theorem eight {T : List UInt8} (h : 8 ≤ T.length) : ∃ a b c d e f g i r, T = a :: b :: c :: d :: e :: f :: g :: i :: r := by
  match T, h with
  | a :: b :: c :: d :: e :: f :: g :: i :: r, _ => exact ⟨a, b, c, d, e, f, g, i, r, rfl⟩
theorem rd1 {T : List UInt8} (h : 8 ≤ T.length) : dNum (T, 0) 1 255 = (((at8 T 0 : Nat) : Int), (T.drop 1, 0)) := by
  obtain ⟨a, b, c, d, e, f, g, i, r, rfl⟩ := eight h
  have := a.toNat_lt
  have hv : valB [a] = a.toNat := by simp [valB]
  unfold dNum
  rw [if_pos (by decide)]
  have ht : tookS (a :: b :: c :: d :: e :: f :: g :: i :: r, 0) (1 : Int).toNat = [a] := by simp [tookS]
  have hs : takeS (a :: b :: c :: d :: e :: f :: g :: i :: r, 0) (1 : Int).toNat = (b :: c :: d :: e :: f :: g :: i :: r, 0) := by simp [takeS]
  rw [ht, hs, hv, if_neg (by omega)]
  rfl
theorem rd4 {T : List UInt8} (h : 8 ≤ T.length) : dNum (T.drop 1, 0) 4 2147483647 = if 2147483647 < frGen T then (0, ([], 8)) else (((frGen T : Nat) : Int), (T.drop 5, 0)) := by
  obtain ⟨a, b, c, d, e, f, g, i, r, rfl⟩ := eight h
  have hv : valB [b, c, d, e] = frGen (a :: b :: c :: d :: e :: f :: g :: i :: r) := by simp [valB, frGen, at8]; omega
  unfold dNum
  rw [if_pos (by decide)]
  have ht : tookS ((a :: b :: c :: d :: e :: f :: g :: i :: r).drop 1, 0) (4 : Int).toNat = [b, c, d, e] := by simp [tookS]
  have hs : takeS ((a :: b :: c :: d :: e :: f :: g :: i :: r).drop 1, 0) (4 : Int).toNat = (f :: g :: i :: r, 0) := by simp [takeS]; omega
  rw [ht, hs, hv]
  generalize frGen (a :: b :: c :: d :: e :: f :: g :: i :: r) = G
  by_cases hG : 2147483647 < G
  · rw [if_pos hG, if_pos (by omega)]; rfl
  · rw [if_neg hG, if_neg (by omega)]; rfl
theorem rd2 {T : List UInt8} (h : 8 ≤ T.length) : dNum (T.drop 5, 0) 2 65535 = (((frSeq T : Nat) : Int), (T.drop 7, 0)) := by
  obtain ⟨a, b, c, d, e, f, g, i, r, rfl⟩ := eight h
  have hv : valB [f, g] = frSeq (a :: b :: c :: d :: e :: f :: g :: i :: r) := by simp [valB, frSeq, at8]
  have hl : valB [f, g] < 65536 := by have := valB_lt [f, g]; simpa using this
  unfold dNum
  rw [if_pos (by decide)]
  have ht : tookS ((a :: b :: c :: d :: e :: f :: g :: i :: r).drop 5, 0) (2 : Int).toNat = [f, g] := by simp [tookS]
  have hs : takeS ((a :: b :: c :: d :: e :: f :: g :: i :: r).drop 5, 0) (2 : Int).toNat = (i :: r, 0) := by simp [takeS]; omega
  rw [ht, hs, if_neg (by omega), hv]
  rfl
theorem rd1b {T : List UInt8} (h : 8 ≤ T.length) : dNum (T.drop 7, 0) 1 112 = if 112 < at8 T 7 then (0, ([], 8)) else (((at8 T 7 : Nat) : Int), (T.drop 8, 0)) := by
  obtain ⟨a, b, c, d, e, f, g, i, r, rfl⟩ := eight h
  have hv : valB [i] = at8 (a :: b :: c :: d :: e :: f :: g :: i :: r) 7 := by simp [valB, at8]
  unfold dNum
  rw [if_pos (by decide)]
  have ht : tookS ((a :: b :: c :: d :: e :: f :: g :: i :: r).drop 7, 0) (1 : Int).toNat = [i] := by simp [tookS]
  have hs : takeS ((a :: b :: c :: d :: e :: f :: g :: i :: r).drop 7, 0) (1 : Int).toNat = (r, 0) := by simp [takeS]
  rw [ht, hs, hv]
  generalize at8 (a :: b :: c :: d :: e :: f :: g :: i :: r) 7 = G
  by_cases hG : 112 < G
  · rw [if_pos hG, if_pos (by omega)]; rfl
  · rw [if_neg hG, if_neg (by omega)]; rfl
theorem rdno (k : Nat) (h1 : 1 ≤ k) (h4 : k ≤ 4) (most : Int) (hm : 0 ≤ most) : dNum ([], 8) k most = (0, ([], 8)) := by
  have hz : sizedB (k : Int) = true := by simp [sizedB]; omega
  have ht : tookS ([], 8) k = [] := by unfold tookS; rw [if_pos (by simp; omega)]
  have hs : takeS ([], 8) k = ([], 8) := by unfold takeS; rw [if_pos (by simp; omega)]; simp [failS]
  unfold dNum
  rw [if_pos hz, Int.toNat_natCast, ht, hs, if_neg (by simp [valB]; omega)]
  rfl
theorem at8_take {t : List UInt8} {k n : Nat} (h : k < n) : at8 (t.take n) k = at8 t k := by
  unfold at8
  simp [List.getD, h]
theorem frGen_take (t : List UInt8) : frGen (t.take 120) = frGen t := by
  unfold frGen
  rw [at8_take (by omega), at8_take (by omega), at8_take (by omega), at8_take (by omega)]
theorem frSeq_take (t : List UInt8) : frSeq (t.take 120) = frSeq t := by
  unfold frSeq
  rw [at8_take (by omega), at8_take (by omega)]
theorem frPay_take {t : List UInt8} (h : at8 t 7 ≤ 112) : frPay (t.take 120) = frPay t := by
  unfold frPay
  rw [at8_take (by omega), List.drop_take, List.take_take, Nat.min_eq_left (by omega)]
theorem frSeq_lt (t : List UInt8) : frSeq t < 65536 := by
  have h1 := at8_lt t 5
  have h2 := at8_lt t 6
  unfold frSeq; omega
theorem frHead_eq {t : List UInt8} (h : 8 ≤ t.length) : frHead (t.getD 0 0) (frGen t) (frSeq t) (at8 t 7) = t.take 8 := by
  obtain ⟨a, b, c, d, e, f, g, i, r, rfl⟩ := eight h
  have hb := b.toNat_lt
  have hc := c.toNat_lt
  have hd := d.toNat_lt
  have he := e.toNat_lt
  have hf := f.toNat_lt
  have hg := g.toNat_lt
  have hi := i.toNat_lt
  unfold frHead frGen frSeq at8
  simp only [List.getD_cons_zero, List.getD_cons_succ, List.take_succ_cons, List.take_zero, List.cons.injEq, and_true, true_and]
  refine ⟨?_, ?_, ?_, ?_, ?_, ?_, ?_⟩ <;> apply UInt8.toNat_inj.1 <;> simp <;> omega
theorem frBody_eq {t : List UInt8} (hl : t.length = 128) (h7 : at8 t 7 ≤ 112) : frBody (t.getD 0 0) (frGen t) (frSeq t) (frPay t) = t.take (8 + at8 t 7) ++ zeros (112 - at8 t 7) := by
  have hp : (frPay t).length = at8 t 7 := by unfold frPay; rw [List.length_take, List.length_drop]; omega
  unfold frBody
  rw [hp, frHead_eq (by omega), List.take_add]
  rfl
/-- When is what a sealed block holds written as the same block? -/
theorem frWL_eq {t : List UInt8} (hl : t.length = 128) (ht : t.drop 124 = frTail) (hs : sealL (t.take 120) = t.take 124) (h7 : at8 t 7 ≤ 112) :
    frWL (t.getD 0 0) (frGen t) (frSeq t) (frPay t) = t ↔ frGen t ≤ 2147483647 ∧ padB (t.take 120) = true := by
  have hp : (frPay t).length = at8 t 7 := by unfold frPay; rw [List.length_take, List.length_drop]; omega
  have hS := frSeq_lt t
  have hpad : (t.take 120).drop (8 + at8 (t.take 120) 7) = (t.drop (8 + at8 t 7)).take (112 - at8 t 7) := by
    rw [at8_take (by omega), List.drop_take]; congr 1; omega
  by_cases hG : frGen t ≤ 2147483647
  · have he : frWE (frGen t) (frSeq t) (frPay t) = 0 := by unfold frWE; rw [if_neg (by omega), if_neg (by omega)]
    have hw : frWL (t.getD 0 0) (frGen t) (frSeq t) (frPay t) = frL (t.getD 0 0) (frGen t) (frSeq t) (frPay t) := by unfold frWL; rw [if_pos he]; rfl
    have h120 : t.take 120 = t.take (8 + at8 t 7) ++ (t.drop (8 + at8 t 7)).take (112 - at8 t 7) := by
      rw [← List.take_add]; congr 1; omega
    have hlen2 : ((t.drop (8 + at8 t 7)).take (112 - at8 t 7)).length = 112 - at8 t 7 := by rw [List.length_take, List.length_drop]; omega
    rw [hw]
    unfold frL padB
    rw [frBody_eq hl h7, hpad]
    constructor
    · intro h
      refine ⟨hG, ?_⟩
      have h1 := congrArg (List.take 120) h
      have hb : (t.take (8 + at8 t 7) ++ zeros (112 - at8 t 7)).length = 120 := by rw [List.length_append, List.length_take]; simp [zeros]; omega
      rw [sealL, List.append_assoc, List.take_left' hb, h120] at h1
      have h2 := List.append_cancel_left h1
      rw [← h2]
      simp [zeros]
    · rintro ⟨-, h⟩
      have h2 : (t.drop (8 + at8 t 7)).take (112 - at8 t 7) = zeros (112 - at8 t 7) := by
        unfold zeros
        rw [List.eq_replicate_iff]
        refine ⟨hlen2, fun x hx => ?_⟩
        have := List.all_eq_true.1 h x hx
        simpa using this
      rw [← h2, ← h120, hs, ← ht, List.take_append_drop]
  · have he : frWE (frGen t) (frSeq t) (frPay t) = 8 := by unfold frWE; rw [if_pos (by omega)]
    have hw : frWL (t.getD 0 0) (frGen t) (frSeq t) (frPay t) = [] := by unfold frWL; rw [he]; rfl
    rw [hw]
    constructor
    · intro h; rw [← h] at hl; simp at hl
    · rintro ⟨h, -⟩; exact absurd h hG
/-- What is read of a block whose form and sum hold. -/
theorem frR_cont {kd : UInt8} {t : List UInt8} (hl : t.length = 128) (h0 : t.getD 0 0 = kd) (ht : t.drop 124 = frTail) (hs : sealL (t.take 120) = t.take 124) : frR kd t = contR (t.take 120) := by
  subst h0
  have hm := frR_more (kd := t.getD 0 0) hl ⟨rfl, (tail_iff hl).1 ht⟩ hs
  unfold contR
  rw [frGen_take, frSeq_take, at8_take (by omega)]
  by_cases h7 : 112 < at8 t 7
  · rw [if_pos (.inr (.inl h7))]
    exact hm.1 (.inl h7)
  · have he := frWL_eq hl ht hs (by omega)
    by_cases hb : 2147483647 < frGen t ∨ 112 < at8 t 7 ∨ padB (t.take 120) = false
    · rw [if_pos hb]
      refine hm.1 (.inr fun h => ?_)
      obtain ⟨h1, h2⟩ := he.1 h
      rcases hb with hb | hb | hb
      · omega
      · exact h7 hb
      · rw [h2] at hb; cases hb
    · rw [if_neg hb, frPay_take (by omega)]
      refine hm.2 h7 (he.2 ⟨by omega, ?_⟩)
      cases hq : padB (t.take 120) with
      | true => rfl
      | false => exact absurd (.inr (.inr hq)) hb
def ContIs (B : Nat) (w : World) (T : List UInt8) (e : Ending) (w' : World) : Prop := ∃ q n c, e = .returned (.tuple #[.int .i64 (contR T).gen, .int .i64 (contR T).seq, .slice q n c, .int .i64 (contR T).e]) ∧ BsAt w' q n c (contR T).pay ∧ (∀ a, q = some a → B ≤ a.block) ∧ Below w.heap.size w w'
theorem partP_ge {p : Option Addr} {lo hi B : Nat} (h : ∀ a, p = some a → B ≤ a.block) : ∀ a, partP p lo hi = some a → B ≤ a.block := by
  intro a ha
  unfold partP at ha
  split at ha
  · exact h a ha
  · cases p with
    | none => cases ha
    | some q =>
      simp only [Option.map_some, Option.some.injEq] at ha
      rw [← ha]
      have : (q.add lo).block = q.block := by unfold Addr.add; split <;> rfl
      rw [this]; exact h q rfl
theorem frPay_part {T : List UInt8} : (T.take (8 + at8 T 7)).drop 8 = frPay T := by
  unfold frPay
  rw [List.drop_take]; congr 1; omega

set_option maxRecDepth 100000 in
set_option maxHeartbeats 3200000 in
theorem fcontent_any (B : Nat) (p : Option Addr) (len cap : Nat) (T : List UInt8) (w : World) (h : BsAt w p len cap T) (hl : T.length = 120) (h0 : 0 < w.heap.size) (hp : ∀ a, p = some a → B ≤ a.block) :
    Calls Try.prog 48 #[.slice p len cap] w (ContIs B w T) := by
  have hsame := h.same
  have HBs := Lib.hid h
  have HP := Lib.hid hp
  have HR := Lib.hid (newRd_any p len cap T w h (by omega) h0)
  have HD := Lib.hid (And.intro (rd1 (T := T) (by omega)) (And.intro (rd4 (T := T) (by omega)) (And.intro (rd2 (T := T) (by omega)) (rd1b (T := T) (by omega)))))
  have HN := Lib.hid (And.intro (show dNum ([], 8) 2 65535 = _ from rdno 2 (by omega) (by omega) 65535 (by omega)) (show dNum ([], 8) 1 112 = _ from rdno 1 (by omega) (by omega) 112 (by omega)))
  have hle : len ≤ cap := h.le
  have hT : (T.drop 1).length ≤ 1000000 ∧ (T.drop 5).length ≤ 1000000 ∧ (T.drop 7).length ≤ 1000000 := by simp only [List.length_drop]; omega
  have HT := Lib.hid hT
  obtain rfl : len = 120 := by omega
  clear h hp hT hsame
  by_cases hG : 2147483647 < frGen T
  · have HE := Lib.hid (show contR T = ⟨0, 0, [], 3⟩ by unfold contR; rw [if_pos (.inl hG)])
    have hd := HD.out.2.1
    rw [if_pos hG] at hd
    have HD2 := Lib.hid hd
    clear hd hG
    go_enter Try.func48, Try.ntmps48
    go_wp2_with fail
    with_reducible refine HR.out.mono ?_
    rintro e w1 ⟨b, g, rfl, hb, hgb, hgw, hA1, hB1⟩
    have HA1 := Lib.hid hA1
    have HB1 := Lib.hid hB1
    have HGB := Lib.hid hgb
    clear hA1 hB1 hgw hgb HR
    go_wp2_with fail
    refine (rdnum_any b _ g (T, 0) 1 255 _ HA1.out HGB.out (by show T.length ≤ _; omega)).mono ?_
    rintro e w2 ⟨rfl, hT2⟩
    rw [HD.out.1] at hT2
    rw [HD.out.1]
    have HT2 := Lib.hid hT2
    clear hT2
    go_wp2_with fail
    refine (rdnum_any b _ g _ 4 2147483647 _ HT2.out.1 HGB.out HT.out.1).mono ?_
    rintro e w3 ⟨rfl, hT3⟩
    rw [HD2.out] at hT3
    rw [HD2.out]
    have HT3 := Lib.hid (HT2.out.trans hT3)
    clear hT3 HT2
    go_wp2_with fail
    refine (rdnum_any b _ g _ 2 65535 _ HT3.out.1 HGB.out (by simp)).mono ?_
    rintro e w4 ⟨rfl, hT4⟩
    rw [HN.out.1] at hT4
    rw [HN.out.1]
    have HT4 := Lib.hid (HT3.out.trans hT4)
    clear hT4 HT3
    go_wp2_with fail
    refine (rdnum_any b _ g _ 1 112 _ HT4.out.1 HGB.out (by simp)).mono ?_
    rintro e w5 ⟨rfl, hT5⟩
    rw [HN.out.2] at hT5
    rw [HN.out.2]
    have HT5 := Lib.hid (HT4.out.trans hT5)
    clear hT5 HT4
    go_wp2_with fail
    refine (rderr_any b _ g _ _ HT5.out.1).mono ?_
    rintro e w6 ⟨rfl, rfl⟩
    go_wp2_with fail
    refine bodyPost_ret (results_tmp4 rfl _ _ _) rfl ?_
    exact ⟨none, 0, 0, by rw [HE.out]; rfl, by rw [HE.out]; exact bsAt_nil _, (fun _ h => by cases h), HB1.out.trans (HT5.out.2.below HB1.out.size fun k hk => by subst hk; exact hb)⟩
  · have hd := HD.out.2.1
    rw [if_neg hG] at hd
    have HD2 := Lib.hid hd
    clear hd
    by_cases h7 : 112 < at8 T 7
    · have HE := Lib.hid (show contR T = ⟨0, 0, [], 3⟩ by unfold contR; rw [if_pos (.inr (.inl h7))])
      have hd := HD.out.2.2.2
      rw [if_pos h7] at hd
      have HD7 := Lib.hid hd
      clear hd h7 hG
      go_enter Try.func48, Try.ntmps48
      go_wp2_with fail
      with_reducible refine HR.out.mono ?_
      rintro e w1 ⟨b, g, rfl, hb, hgb, hgw, hA1, hB1⟩
      have HA1 := Lib.hid hA1
      have HB1 := Lib.hid hB1
      have HGB := Lib.hid hgb
      clear hA1 hB1 hgw hgb HR
      go_wp2_with fail
      refine (rdnum_any b _ g (T, 0) 1 255 _ HA1.out HGB.out (by show T.length ≤ _; omega)).mono ?_
      rintro e w2 ⟨rfl, hT2⟩
      rw [HD.out.1] at hT2
      rw [HD.out.1]
      have HT2 := Lib.hid hT2
      clear hT2
      go_wp2_with fail
      refine (rdnum_any b _ g _ 4 2147483647 _ HT2.out.1 HGB.out HT.out.1).mono ?_
      rintro e w3 ⟨rfl, hT3⟩
      rw [HD2.out] at hT3
      rw [HD2.out]
      have HT3 := Lib.hid (HT2.out.trans hT3)
      clear hT3 HT2
      go_wp2_with fail
      refine (rdnum_any b _ g _ 2 65535 _ HT3.out.1 HGB.out HT.out.2.1).mono ?_
      rintro e w4 ⟨rfl, hT4⟩
      rw [HD.out.2.2.1] at hT4
      rw [HD.out.2.2.1]
      have HT4 := Lib.hid (HT3.out.trans hT4)
      clear hT4 HT3
      go_wp2_with fail
      refine (rdnum_any b _ g _ 1 112 _ HT4.out.1 HGB.out HT.out.2.2).mono ?_
      rintro e w5 ⟨rfl, hT5⟩
      rw [HD7.out] at hT5
      rw [HD7.out]
      have HT5 := Lib.hid (HT4.out.trans hT5)
      clear hT5 HT4
      go_wp2_with fail
      refine (rderr_any b _ g _ _ HT5.out.1).mono ?_
      rintro e w6 ⟨rfl, rfl⟩
      go_wp2_with fail
      refine bodyPost_ret (results_tmp4 rfl _ _ _) rfl ?_
      exact ⟨none, 0, 0, by rw [HE.out]; rfl, by rw [HE.out]; exact bsAt_nil _, (fun _ h => by cases h), HB1.out.trans (HT5.out.2.below HB1.out.size fun k hk => by subst hk; exact hb)⟩
    · have hd := HD.out.2.2.2
      rw [if_neg h7] at hd
      have HD7 := Lib.hid hd
      have HC := Lib.hid (show contR T = if padB T = false then ⟨0, 0, [], 3⟩ else ⟨frGen T, frSeq T, frPay T, 0⟩ by
        unfold contR
        by_cases hb : padB T = false
        · rw [if_pos (.inr (.inr hb)), if_pos hb]
        · rw [if_neg (by rintro (h | h | h); exact hG h; exact h7 h; exact hb h), if_neg hb])
      have HPd := Lib.hid (show padB T = (((T.take 120).drop (8 + at8 T 7)).all fun c => c == 0) by rw [List.take_of_length_le (by omega)]; rfl)
      have HPy := Lib.hid (frPay_part (T := T))
      clear hd hG
      generalize at8 T 7 = n at *
      have hnn : n ≤ 112 := by omega
      clear h7
      go_enter Try.func48, Try.ntmps48
      go_wp2_with fail
      with_reducible refine HR.out.mono ?_
      rintro e w1 ⟨b, g, rfl, hb, hgb, hgw, hA1, hB1⟩
      have HA1 := Lib.hid hA1
      have HB1 := Lib.hid hB1
      have HGB := Lib.hid hgb
      clear hA1 hB1 hgw hgb HR
      go_wp2_with fail
      refine (rdnum_any b _ g (T, 0) 1 255 _ HA1.out HGB.out (by show T.length ≤ _; omega)).mono ?_
      rintro e w2 ⟨rfl, hT2⟩
      rw [HD.out.1] at hT2
      rw [HD.out.1]
      have HT2 := Lib.hid hT2
      clear hT2
      go_wp2_with fail
      refine (rdnum_any b _ g _ 4 2147483647 _ HT2.out.1 HGB.out HT.out.1).mono ?_
      rintro e w3 ⟨rfl, hT3⟩
      rw [HD2.out] at hT3
      rw [HD2.out]
      have HT3 := Lib.hid (HT2.out.trans hT3)
      clear hT3 HT2
      go_wp2_with fail
      refine (rdnum_any b _ g _ 2 65535 _ HT3.out.1 HGB.out HT.out.2.1).mono ?_
      rintro e w4 ⟨rfl, hT4⟩
      rw [HD.out.2.2.1] at hT4
      rw [HD.out.2.2.1]
      have HT4 := Lib.hid (HT3.out.trans hT4)
      clear hT4 HT3
      go_wp2_with fail
      refine (rdnum_any b _ g _ 1 112 _ HT4.out.1 HGB.out HT.out.2.2).mono ?_
      rintro e w5 ⟨rfl, hT5⟩
      rw [HD7.out] at hT5
      rw [HD7.out]
      have HT5 := Lib.hid (HT4.out.trans hT5)
      clear hT5 HT4
      have hadd : IntKind.i64.wrap (8 + (n : Int)) = 8 + (n : Int) := IntWalk.i64_in _ (by omega)
      go_wp2_with fail
      refine (rderr_any b _ g _ _ HT5.out.1).mono ?_
      rintro e w6 ⟨rfl, rfl⟩
      have HB5 := Lib.hid (HB1.out.trans (HT5.out.2.below HB1.out.size fun k hk => by subst hk; exact hb))
      have HS5 := Lib.hid (HBs.out.below HB5.out (Nat.le_refl _))
      clear HT5 HB1 HA1 HD HD2 HD7 HN hadd
      have HPt := Lib.hid (fun V => fpart_any p 120 cap (8 + n) 120 (8 + (n : Int)) 120 V (by omega) rfl (by omega) hle)
      have HPu := Lib.hid (fun V => fpart_any p 120 cap 8 (8 + n) 8 (8 + (n : Int)) V rfl (by omega) (by omega) (by omega))
      have HBl := Lib.hid (fun V (hV : BsAt V p 120 cap T) => fblank_any _ _ _ _ V (part_bs (lo := 8 + n) (hi := 120) hV (by omega) (by omega)))
      rw [← HPd.out] at HBl
      go_wp2_with fail
      with_reducible refine (HPt.out _).mono ?_
      rintro e w7 ⟨rfl, rfl⟩
      cases hpd : padB T with
      | true =>
        rw [hpd] at HBl HC
        clear hpd
        go_wp2_with fail
        with_reducible refine (HBl.out _ HS5.out).mono ?_
        rintro e w8 ⟨rfl, rfl⟩
        go_wp2_with fail
        with_reducible refine (HPu.out _).mono ?_
        rintro e w9 ⟨rfl, rfl⟩
        go_wp2_with fail
        refine bodyPost_ret (results_tmp4 rfl _ _ _) rfl ?_
        have hc : contR T = ⟨frGen T, frSeq T, frPay T, 0⟩ := HC.out
        have hq := part_bs (lo := 8) (hi := 8 + n) HS5.out (by omega) (by omega)
        rw [HPy.out, show 8 + n - 8 = n by omega] at hq
        exact ⟨_, _, _, by rw [hc]; rfl, by rw [hc]; exact hq, partP_ge HP.out, HB5.out⟩
      | false =>
        rw [hpd] at HBl HC
        clear hpd
        go_wp2_with fail
        with_reducible refine (HBl.out _ HS5.out).mono ?_
        rintro e w8 ⟨rfl, rfl⟩
        go_wp2_with fail
        refine bodyPost_ret (results_tmp4 rfl _ _ _) rfl ?_
        have hc : contR T = ⟨0, 0, [], 3⟩ := HC.out
        exact ⟨none, 0, 0, by rw [hc]; rfl, by rw [hc]; exact bsAt_nil _, (fun _ h => by cases h), HB5.out⟩
theorem kd_ne {t : List UInt8} {g off : Nat} {w : World} (hl : t.length = 128) (h : ∀ i, (hi : i < t.length) → w.cell? ⟨g, off + i, none⟩ = some (.int .u8 (t[i].toNat : Int))) : w.cell? ⟨g, off, none⟩ = some (.int .u8 ((t.getD 0 0).toNat : Int)) := by
  have h1 := h 0 (by omega)
  rw [Nat.add_zero] at h1
  rw [h1]
  simp [List.getD, show 0 < t.length by omega]
theorem frTail_str (a : List UInt8) : ((⟨a.toArray⟩ : ByteArray).toList == [0, 0, 0, 69]) = decide (a = frTail) := by
  have e : (⟨#[0, 0, 0, 69]⟩ : ByteArray).toList = [0, 0, 0, 69] := by simp
  rw [← e, ← beq_toListBytes]
  by_cases h : a = frTail
  · rw [h]; decide
  · rw [show decide (a = frTail) = false by simpa using h]
    exact str_ne (b := frTail) h

set_option maxRecDepth 100000 in
set_option maxHeartbeats 3200000 in
theorem frRead_any : FrReadC := by
  intro kd p len cap t w h h5
  have hsame := h.same
  subst hsame
  by_cases hlen : t.length = 128
  case neg =>
    have HE := Lib.hid (show frR kd t = ⟨0, 0, [], 1⟩ from by
      have he : frRE kd t = 1 := by unfold frRE; rw [if_pos hlen]
      unfold frR; rw [if_neg (by omega), he])
    have hbm : t.length ≤ 9223372036854775807 := by omega
    have d1 : ¬ ((t.length : Int) = 128) := by omega
    clear h hlen h5
    generalize t.length = n at *
    go_enter Try.func39, Try.ntmps39
    go_wp2_with fail
    refine bodyPost_ret (results_tmp4 rfl _ _ _) rfl ?_
    exact ⟨none, 0, by rw [HE.out]; rfl, by rw [HE.out]; exact ⟨bsAt_nil _, fun _ h => by cases h⟩, Below.refl _ _⟩
  case pos =>
  obtain ⟨g, off, rfl, hg, hcs⟩ : ∃ g off, p = some ⟨g, off, none⟩ ∧ g < w.heap.size ∧ ∀ i, (h : i < t.length) → w.cell? ⟨g, off + i, none⟩ = some (.int .u8 (t[i].toNat : Int)) := by
    rcases h.place with ⟨-, h2⟩ | ⟨h2, -⟩ | ⟨g', off, rfl, h3, h4⟩
    · have := h.le; omega
    · rw [h2] at hlen; simp at hlen
    · exact ⟨g', off, rfl, h3, h4⟩
  have c0 := kd_ne hlen hcs
  have hle := h.le
  have HBs := Lib.hid h
  have h0 : 0 < w.heap.size := by omega
  clear hcs h5 h
  rw [hlen] at hle HBs
  rw [hlen]
  by_cases hk : t.getD 0 0 = kd
  case neg =>
    have HE := Lib.hid (show frR kd t = ⟨0, 0, [], 3⟩ from frR_form hlen (fun h1 => hk (UInt8.toNat_inj.1 h1.1)))
    have d1 : ¬ (((t.getD 0 0).toNat : Nat) : Int) = ((kd.toNat : Nat) : Int) := by
      intro e; exact hk (UInt8.toNat_inj.1 (by omega))
    clear hk
    generalize (t.getD 0 0).toNat = x at *
    generalize kd.toNat = y at *
    go_enter Try.func39, Try.ntmps39
    go_wp2_with fail
    refine bodyPost_ret (results_tmp4 rfl _ _ _) rfl ?_
    exact ⟨none, 0, by rw [HE.out]; rfl, by rw [HE.out]; exact ⟨bsAt_nil _, fun _ h => by cases h⟩, Below.refl _ _⟩
  case pos =>
  rw [hk] at c0
  have HP1 := Lib.hid (fun V => fpart_at g off 128 cap 124 128 124 128 (off + 124) 4 V rfl rfl (by decide) (by omega) rfl rfl)
  have HP2 := Lib.hid (fun V => fpart_at g off 128 cap 0 124 0 124 off 124 V rfl rfl (by decide) (by omega) rfl rfl)
  have hb1 : BsAt w (some ⟨g, off + 124, none⟩) 4 4 (t.drop 124) := by
    have h1 := part_bs (lo := 124) (hi := 128) HBs.out (by omega) (by omega)
    rw [List.take_of_length_le (by omega)] at h1
    have e : partP (some ⟨g, off, none⟩) 124 128 = some ⟨g, off + 124, none⟩ := by
      unfold partP Addr.add; simp
    rw [e] at h1; exact h1
  have hb2 : BsAt w (some ⟨g, off, none⟩) 124 124 (t.take 124) := by
    have h1 := part_bs (lo := 0) (hi := 124) HBs.out (by omega) (by omega)
    have e : partP (some ⟨g, off, none⟩) 0 124 = some ⟨g, off, none⟩ := by
      unfold partP Addr.add; simp
    rw [e] at h1; exact h1
  have HStr := Lib.hid (run_string_bs (P := Try.prog) w 34 5 9 Try.underlying34 Try.underlying5 Try.underlying9 hb1)
  have HSe := Lib.hid (frTail_str (t.drop 124))
  have HO := Lib.hid (cOpen_new _ _ _ _ w hb2 (by rw [List.length_take]; omega))
  clear hb1 hb2
  by_cases ht : t.drop 124 = frTail
  case neg =>
    have HE := Lib.hid (show frR kd t = ⟨0, 0, [], 3⟩ from frR_form hlen (fun h1 => ht ((tail_iff hlen).2 h1.2)))
    rw [show decide (t.drop 124 = frTail) = false by simpa using ht] at HSe
    have q := HStr.out
    have q2 := HSe.out
    generalize (⟨(t.drop 124).toArray⟩ : ByteArray) = S at *
    generalize kd.toNat = y at *
    clear ht HStr HSe
    go_enter Try.func39, Try.ntmps39
    go_wp2_with fail
    with_reducible refine (HP1.out _).mono ?_
    rintro e w1 ⟨rfl, rfl⟩
    go_wp2_with fail
    refine bodyPost_ret (results_tmp4 rfl _ _ _) rfl ?_
    exact ⟨none, 0, by rw [HE.out]; rfl, by rw [HE.out]; exact ⟨bsAt_nil _, fun _ h => by cases h⟩, Below.refl _ _⟩
  case pos =>
  rw [show decide (t.drop 124 = frTail) = true by simpa using ht] at HSe
  have q := HStr.out
  have q2 := HSe.out
  generalize (⟨(t.drop 124).toArray⟩ : ByteArray) = S at *
  have hl4 : (t.take 124).length = 124 := by rw [List.length_take]; omega
  have ht4 : (t.take 124).take 120 = t.take 120 := by rw [List.take_take, show min 120 124 = 120 from rfl]
  have hse : sealedB (t.take 124) = true ↔ sealL (t.take 120) = t.take 124 := by
    have := sealed_eq (t := t.take 124) (by omega)
    rw [hl4, show 124 - 4 = 120 from rfl, ht4] at this
    exact this
  cases hsd : sealedB (t.take 124) with
  | false =>
    have hne : ¬ sealL (t.take 120) = t.take 124 := fun h => by rw [hse.2 h] at hsd; cases hsd
    have HE := Lib.hid (show frR kd t = ⟨0, 0, [], 18⟩ from frR_sum hlen ⟨by unfold at8; rw [hk], (tail_iff hlen).1 ht⟩ hne)
    have he : openErr (t.take 124) = 18 := by unfold openErr; rw [if_neg (by omega), hsd]; rfl
    have HO2 := Lib.hid he
    generalize kd.toNat = y at *
    clear ht HStr HSe hse hne hsd he hl4 ht4
    go_enter Try.func39, Try.ntmps39
    go_wp2_with fail
    with_reducible refine (HP1.out _).mono ?_
    rintro e w1 ⟨rfl, rfl⟩
    go_wp2_with fail
    with_reducible refine (HP2.out _).mono ?_
    rintro e w1 ⟨rfl, rfl⟩
    go_wp2_with fail
    with_reducible refine HO.out.mono ?_
    rintro e w2 ⟨p2, n2, c2, rfl, hb2, hB2, hp2⟩
    rw [HO2.out]
    have HB2 := Lib.hid hB2
    clear hb2 hB2 hp2
    go_wp2_with fail
    refine bodyPost_ret (results_tmp4 rfl _ _ _) rfl ?_
    exact ⟨none, 0, by rw [HE.out]; rfl, by rw [HE.out]; exact ⟨bsAt_nil _, fun _ h => by cases h⟩, HB2.out⟩
  | true =>
    have HE := Lib.hid (frR_cont hlen hk ht (hse.1 hsd))
    have he : openErr (t.take 124) = 0 := by unfold openErr; rw [if_neg (by omega), hsd]; rfl
    have hol : openL (t.take 124) = t.take 120 := by unfold openL; rw [hsd, if_pos rfl, hl4, ht4]
    have hl0 : (t.take 120).length = 120 := by rw [List.length_take]; omega
    have HO2 := Lib.hid (And.intro he (And.intro hol hl0))
    generalize hkk : kd.toNat = y at *
    clear ht HStr HSe hse hsd he hl4 ht4 hol hl0
    go_enter Try.func39, Try.ntmps39
    go_wp2_with fail
    with_reducible refine (HP1.out _).mono ?_
    rintro e w1 ⟨rfl, rfl⟩
    go_wp2_with fail
    with_reducible refine (HP2.out _).mono ?_
    rintro e w1 ⟨rfl, rfl⟩
    go_wp2_with fail
    with_reducible refine HO.out.mono ?_
    rintro e w2 ⟨p2, n2, c2, rfl, hb2, hB2, hp2⟩
    rw [HO2.out.1]
    rw [HO2.out.2.1] at hb2
    have HB2 := Lib.hid hB2
    have HC := Lib.hid (fcontent_any w.heap.size p2 n2 c2 _ w2 hb2 HO2.out.2.2 (Nat.lt_of_lt_of_le h0 hB2.size) hp2)
    clear hb2 hB2 hp2
    go_wp2_with fail
    with_reducible refine HC.out.mono ?_
    rintro e w3 ⟨p3, n3, c3, rfl, hb3, hp3, hB3⟩
    have HB3 := Lib.hid (HB2.out.trans (hB3.mono HB2.out.size))
    have HS3 := Lib.hid hb3
    have HP3 := Lib.hid hp3
    clear hb3 hB3 hp3
    go_wp2_with fail
    refine bodyPost_ret (results_tmp4 rfl _ _ _) rfl ?_
    have hn := HS3.out.same
    have hs3 := HS3.out
    subst hn
    exact ⟨p3, c3, by rw [HE.out]; rfl, by rw [HE.out]; exact ⟨hs3, HP3.out⟩, HB3.out⟩
end Go.Proofs.Ytlbdpoolhmbgaaa

/-! JrnE -/
namespace Go.Proofs.Ytlbdpoolhmbgaaa
open Go.RowKit

/-- The cells of a journal on the disk at db. -/
def jrnV (db : Nat) (J : JS) : Array Value := #[ptrV db, .int .i64 (J.at_ : Int), .int .i64 (J.room : Int), .int .i64 (J.gen : Int), .int .i64 (J.n : Int)]
def theJrn : JrnRel where
  At := fun w jb db J G => Blk w jb (jrnV db J) 45 ∧ G = fun k => k = jb
  lt := by
    rintro w jb db J G ⟨h, rfl⟩ k rfl
    exact h.lt
  kept := by
    rintro w w' jb db J G T ⟨h, rfl⟩ hc hn
    exact ⟨hc.kept h (hn jb rfl), rfl⟩
theorem jrn_cells {w : World} {jb db : Nat} {J : JS} {t : TypeId} (h : Blk w jb (jrnV db J) t) :
    w.cell? ⟨jb, 0, none⟩ = some (.pointer (some ⟨db, 0, none⟩)) ∧ w.cell? ⟨jb, 1, none⟩ = some (.int .i64 (J.at_ : Int)) ∧ w.cell? ⟨jb, 2, none⟩ = some (.int .i64 (J.room : Int)) ∧ w.cell? ⟨jb, 3, none⟩ = some (.int .i64 (J.gen : Int)) ∧ w.cell? ⟨jb, 4, none⟩ = some (.int .i64 (J.n : Int)) :=
  ⟨h.cell 0, h.cell 1, h.cell 2, h.cell 3, h.cell 4⟩
theorem jMade_any {w : World} {jb db : Nat} (k0 : w.cell? ⟨jb, 0, none⟩ = some (.pointer (some ⟨db, 0, none⟩))) :
    Calls Try.prog 21 #[ptrV jb] w fun e w' => e = .returned (.bool true) ∧ w = w' := by
  unfold ptrV
  go_enter Try.func21, Try.ntmps21
  go_wp2_with fail
  go_ret
  exact ⟨rfl, rfl⟩
theorem jMade_no {w : World} {v : Value} (h : NobV w v) : Calls Try.prog 21 #[v] w fun e w' => e = .returned (.bool false) ∧ w = w' := by
  rcases h with rfl | ⟨b, rfl, hb⟩
  · go_enter Try.func21, Try.ntmps21
    go_wp2_with fail
    go_ret
    exact ⟨rfl, rfl⟩
  · have k0 : w.cell? ⟨b, 0, none⟩ = some (.pointer none) := hb.cell 0
    clear hb
    unfold ptrV
    go_enter Try.func21, Try.ntmps21
    go_wp2_with fail
    go_ret
    exact ⟨rfl, rfl⟩
theorem jFull_any {w : World} {jb n r : Nat} (k4 : w.cell? ⟨jb, 4, none⟩ = some (.int .i64 (n : Int))) (k2 : w.cell? ⟨jb, 2, none⟩ = some (.int .i64 (r : Int))) :
    Calls Try.prog 22 #[ptrV jb] w fun e w' => e = .returned (.bool (decide (n = r))) ∧ Below w.heap.size w w' := by
  have HD := Lib.hid (show ((n : Int) == (r : Int)) = decide (n = r) by rw [Bool.eq_iff_iff]; simp; omega)
  unfold ptrV
  go_enter Try.func22, Try.ntmps22
  go_wp2_with fail
  have j4 := cell_regrown k4
  have j2 := cell_regrown k2
  refine wp_region_quiet_below (by kernel_rfl) (by kernel_rfl) ?_
  repeat (quiet_step (fail))
  refine wpQuiet_nil ?_
  intro _ hw'
  obtain ⟨⟨dq, osq⟩, hw''⟩ := hw'
  subst hw''
  clear j4 j2 k4 k2
  go_wp2_with fail
  go_ret
  exact ⟨congrArg (fun b => Ending.returned (Value.bool b)) HD.out, below_regrown _ dq osq⟩
theorem jBlock_any {w : World} {jb a : Nat} (k i : Nat) (k1 : w.cell? ⟨jb, 1, none⟩ = some (.int .i64 (a : Int))) (hs : a + 2 * k + i ≤ 1000000) :
    Calls Try.prog 31 #[ptrV jb, .int .i64 (k : Int), .int .i64 (i : Int)] w fun e w' => e = .returned (.int .i64 ((a + 2 * k + i : Nat) : Int)) ∧ w = w' := by
  unfold ptrV
  have h1 : IntKind.i64.wrap (2 * (k : Int)) = 2 * (k : Int) := IntWalk.i64_in _ (by omega)
  have h2 : IntKind.i64.wrap ((a : Int) + 2 * (k : Int)) = (a : Int) + 2 * (k : Int) := IntWalk.i64_in _ (by omega)
  have h3 : IntKind.i64.wrap ((a : Int) + 2 * (k : Int) + (i : Int)) = (a : Int) + 2 * (k : Int) + (i : Int) := IntWalk.i64_in _ (by omega)
  go_enter Try.func31, Try.ntmps31
  go_wp2_with fail
  go_ret
  exact ⟨by congr 2, rfl⟩
theorem jLen_any : JLenC theRel theJrn := by
  rintro w jb db S J F ⟨-, -, D, G, -, ⟨hb, rfl⟩, -, -⟩
  obtain ⟨k0, k1, k2, k3, k4⟩ := jrn_cells hb
  have HM := Lib.hid (jMade_any k0)
  clear hb k0 k1 k2 k3
  unfold ptrV at *
  generalize J.n = n at *
  go_enter Try.func17, Try.ntmps17
  go_wp2_with fail
  with_reducible refine HM.out.mono ?_
  rintro e w1 ⟨rfl, rfl⟩
  go_wp2_with fail
  go_ret
  exact ⟨rfl, Below.refl _ _⟩
theorem jRoom_any : JRoomC theRel theJrn := by
  rintro w jb db S J F ⟨-, -, D, G, -, ⟨hb, rfl⟩, -, -⟩
  obtain ⟨k0, k1, k2, k3, k4⟩ := jrn_cells hb
  have HM := Lib.hid (jMade_any k0)
  clear hb k0 k1 k4 k3
  unfold ptrV at *
  generalize J.room = n at *
  go_enter Try.func18, Try.ntmps18
  go_wp2_with fail
  with_reducible refine HM.out.mono ?_
  rintro e w1 ⟨rfl, rfl⟩
  go_wp2_with fail
  go_ret
  exact ⟨rfl, Below.refl _ _⟩
theorem jGen_any : JGenC theRel theJrn := by
  rintro w jb db S J F ⟨-, -, D, G, -, ⟨hb, rfl⟩, -, -⟩
  obtain ⟨k0, k1, k2, k3, k4⟩ := jrn_cells hb
  have HM := Lib.hid (jMade_any k0)
  clear hb k0 k1 k4 k2
  unfold ptrV at *
  generalize J.gen = n at *
  go_enter Try.func16, Try.ntmps16
  go_wp2_with fail
  with_reducible refine HM.out.mono ?_
  rintro e w1 ⟨rfl, rfl⟩
  go_wp2_with fail
  go_ret
  exact ⟨rfl, Below.refl _ _⟩
theorem nobLen_any : NobLenC := by
  intro w v h
  have HM := Lib.hid (jMade_no h)
  clear h
  go_enter Try.func17, Try.ntmps17
  go_wp2_with fail
  with_reducible refine HM.out.mono ?_
  rintro e w1 ⟨rfl, rfl⟩
  go_wp2_with fail
  go_ret
  exact ⟨rfl, Below.refl _ _⟩
theorem nobRoom_any : NobRoomC := by
  intro w v h
  have HM := Lib.hid (jMade_no h)
  clear h
  go_enter Try.func18, Try.ntmps18
  go_wp2_with fail
  with_reducible refine HM.out.mono ?_
  rintro e w1 ⟨rfl, rfl⟩
  go_wp2_with fail
  go_ret
  exact ⟨rfl, Below.refl _ _⟩
theorem nobGen_any : NobGenC := by
  intro w v h
  have HM := Lib.hid (jMade_no h)
  clear h
  go_enter Try.func16, Try.ntmps16
  go_wp2_with fail
  with_reducible refine HM.out.mono ?_
  rintro e w1 ⟨rfl, rfl⟩
  go_wp2_with fail
  go_ret
  exact ⟨rfl, Below.refl _ _⟩
theorem nobAdd_any : NobAddC := by
  intro w v p len cap h
  have HM := Lib.hid (jMade_no h)
  clear h
  go_enter Try.func10, Try.ntmps10
  go_wp2_with fail
  with_reducible refine HM.out.mono ?_
  rintro e w1 ⟨rfl, rfl⟩
  go_wp2_with fail
  go_ret
  exact ⟨rfl, Below.refl _ _⟩
theorem nobClean_any : NobCleanC := by
  intro w v h
  have HM := Lib.hid (jMade_no h)
  clear h
  go_enter Try.func15, Try.ntmps15
  go_wp2_with fail
  with_reducible refine HM.out.mono ?_
  rintro e w1 ⟨rfl, rfl⟩
  go_wp2_with fail
  go_ret
  exact ⟨rfl, Below.refl _ _⟩
theorem nobOpen_any : NobOpenC := by
  intro w v gen h
  have HM := Lib.hid (jMade_no h)
  clear h
  go_enter Try.func13, Try.ntmps13
  go_wp2_with fail
  with_reducible refine HM.out.mono ?_
  rintro e w1 ⟨rfl, rfl⟩
  go_wp2_with fail
  refine bodyPost_ret (results_tmp2 rfl _ _ _) rfl ?_
  exact ⟨none, 0, rfl, Below.refl _ _⟩
theorem jNilAdd_any : JNilAddC := fun p len cap w => nobAdd_any w _ p len cap (.inl rfl)
theorem jNilLen_any : JNilLenC := fun w => nobLen_any w _ (.inl rfl)
theorem jNewNil_any : JNewNilC := by
  intro w
  go_enter Try.func8, Try.ntmps8
  go_wp2_with fail
  refine bodyPost_ret (results_tmp2 rfl _ _ _) rfl ?_
  exact ⟨rfl, Below.refl _ _⟩
set_option maxHeartbeats 800000 in
theorem jNew_any : JNewC theRel theJrn := by
  intro a room w db S D hA hok h1 h64 hf
  have HL := Lib.hid (dLen_any hA)
  have HH := Lib.hid hA
  have HO := Lib.hid hok
  have HF := Lib.hid (And.intro h1 (And.intro h64 hf))
  have n1 : ¬ (room : Int) < 1 := by omega
  have n2 : ¬ 64 < (room : Int) := by omega
  have n3 : ¬ (a : Int) < 0 := by omega
  have hlen := hok.few
  have h2 : IntKind.i64.wrap (2 * (room : Int)) = 2 * (room : Int) := IntWalk.i64_in _ (by omega)
  have h3 : IntKind.i64.wrap ((S.len : Int) - 2 * (room : Int)) = (S.len : Int) - 2 * (room : Int) := IntWalk.i64_in _ (by omega)
  have n4 : ¬ (S.len : Int) - 2 * (room : Int) < (a : Int) := by omega
  clear hA hok h1 h64 hf hlen
  unfold ptrV at *
  go_enter Try.func8, Try.ntmps8
  go_wp2_with fail
  with_reducible refine HL.out.mono ?_
  rintro e w1 ⟨rfl, hB⟩
  have HB := Lib.hid hB
  clear hB
  go_wp2_with fail
  refine bodyPost_ret (results_tmp2 rfl _ _ _) rfl ?_
  have hA1 : theRel.At w1 db S D := DiskRel.below HH.out HB.out
  have hB1 := belowNew w1 (.cells (jrnV db ⟨a, room, 0, 0⟩) 45)
  refine ⟨w1.heap.size, fun k => D k ∨ k = w1.heap.size, rfl, ⟨HO.out, ⟨Nat.zero_le _, HF.out.2.1, HF.out.2.2, Nat.zero_le _⟩, D, _, DiskRel.below hA1 hB1, ⟨Blk.new w1 _ _, rfl⟩, ?_, fun _ => Iff.rfl⟩, ?_, HB.out.trans (hB1.mono HB.out.size)⟩
  · intro k hk e
    have := (theRel.lt hA1).2 k hk
    omega
  · rintro k (hk | rfl)
    · exact .inl hk
    · exact .inr HB.out.size
set_option maxHeartbeats 800000 in
theorem jNewNo_any : JNewNoC theRel := by
  intro a room w db S D hA hok h1 h64 ha hf
  have HL := Lib.hid (dLen_any hA)
  have n1 : ¬ (room : Int) < 1 := by omega
  have n2 : ¬ 64 < (room : Int) := by omega
  have n3 : ¬ (a : Int) < 0 := by omega
  have hlen := hok.few
  have h2 : IntKind.i64.wrap (2 * (room : Int)) = 2 * (room : Int) := IntWalk.i64_in _ (by omega)
  have h3 : IntKind.i64.wrap ((S.len : Int) - 2 * (room : Int)) = (S.len : Int) - 2 * (room : Int) := IntWalk.i64_in _ (by omega)
  have n4 : (S.len : Int) - 2 * (room : Int) < (a : Int) := by omega
  clear hA hok h1 h64 hf hlen
  unfold ptrV at *
  go_enter Try.func8, Try.ntmps8
  go_wp2_with fail
  with_reducible refine HL.out.mono ?_
  rintro e w1 ⟨rfl, hB⟩
  have HB := Lib.hid hB
  clear hB
  go_wp2_with fail
  refine bodyPost_ret (results_tmp2 rfl _ _ _) rfl ?_
  exact ⟨rfl, HB.out⟩
end Go.Proofs.Ytlbdpoolhmbgaaa

/-! JrnF -/
namespace Go.Proofs.Ytlbdpoolhmbgaaa
open Go.RowKit

theorem read_on {S : DS} {m : Nat} (hm : m < S.len) (ho : S.off = false) : readE S (m : Int) = 0 ∧ readL S (m : Int) = blockL S m := by
  have h1 : readE S (m : Int) = 0 := by unfold readE; rw [hasD_iff.2 ⟨by omega, by omega⟩, ho]; rfl
  refine ⟨h1, ?_⟩
  unfold readL
  rw [if_pos h1, Int.toNat_natCast]
theorem blockL_len {S : DS} (h : DSOk S) {m : Nat} (hm : m < S.len) : (blockL S m).length = 128 := by
  have := h.len
  unfold blockL
  rw [List.length_take, List.length_drop]; omega
theorem new_of_fresh {w V w' : World} {v : Value} {l : List UInt8} (h : FreshB V.heap.size w' v l) (hs : w.heap.size ≤ V.heap.size) : BsNew w l v w' := by
  obtain ⟨t, hr⟩ := h
  obtain ⟨p, d, rfl, hb⟩ := BsAt.ofRow hr
  exact ⟨p, _, d, rfl, hb, fun a ha => by
    subst ha
    have := hr.lt a.block rfl
    exact ⟨Nat.le_trans hs this.1, this.2⟩⟩
/-- Bytes beside an error. -/
def bsPair (w : World) (l : List UInt8) (e : Int) : Fact := ⟨fun v V => ∃ u, v = .tuple #[u, .int .i64 e] ∧ BsNew w l u V, fun _ _ _ ⟨u, h1, h2⟩ hB => ⟨u, h1, (bsFact w l).keep _ _ _ h2 hB⟩⟩
/-- Is this block a frame of entry k, in generation g? Its payload. -/
def rdOk (g k : Nat) (R : FrR) : Prop := R.e = 0 ∧ R.gen = (g : Int) ∧ R.seq = (k : Int)
instance (g k : Nat) (R : FrR) : Decidable (rdOk g k R) := by unfold rdOk; exact inferInstance
def rdP (g k : Nat) (R : FrR) : List UInt8 := if rdOk g k R then R.pay else []
def JReads (B : Nat) (g k : Nat) (R : FrR) (w : World) (e : Ending) (w' : World) : Prop :=
  ∃ q c, e = .returned (.tuple #[.slice q (rdP g k R).length c, .bool (decide (rdOk g k R))]) ∧ NewB B w' q c (rdP g k R) ∧ Below w.heap.size w w'

set_option maxRecDepth 100000 in
set_option maxHeartbeats 3200000 in
theorem jRead_any {w : World} {jb db : Nat} {J : JS} {S : DS} {D : Nat → Prop} (kd : UInt8) (k i : Nat) (hb : Blk w jb (jrnV db J) 45) (hA : theRel.At w db S D) (hok : DSOk S) (ho : S.off = false) (hm : J.at_ + 2 * k + i < S.len) :
    Calls Try.prog 32 #[ptrV jb, .int .u8 (kd.toNat : Int), .int .i64 (k : Int), .int .i64 (i : Int)] w (JReads w.heap.size J.gen k (frR kd (blockL S (J.at_ + 2 * k + i))) w) := by
  have hfew := hok.few
  have HK := Lib.hid hb
  have HL := Lib.hid (blockL_len hok hm)
  have HBk := Lib.hid (fun V (hV : Below w.heap.size w V) => jBlock_any (w := V) (jb := jb) k i ((hV.cell (p := ⟨jb, 1, none⟩) hb.lt).trans (jrn_cells hb).2.1) (by omega))
  have HR := Lib.hid (fun V (hV : Below w.heap.size w V) => dRead_any ((J.at_ + 2 * k + i : Nat) : Int) (DiskRel.below hA hV) hok)
  rw [(read_on hm ho).1, (read_on hm ho).2, HL.out] at HR
  have HC0 := Lib.hid (fun V (hV : Below w.heap.size w V) => (hV.cell (p := ⟨jb, 0, none⟩) hb.lt).trans (jrn_cells hb).1)
  clear hb hA hok ho hm hfew
  unfold ptrV at *
  generalize J.at_ + 2 * k + i = m at *
  go_enter Try.func32, Try.ntmps32
  go_upto_region 1 with fail
  refine wp_region_F (fun V => Below w.heap.size w V) [Fact.is (.pointer (some ⟨jb, 0, none⟩)), Fact.is (.pointer (some ⟨jb, 0, none⟩)), Fact.is (.pointer (some ⟨jb, 0, none⟩)), Fact.is (.pointer (some ⟨db, 0, none⟩)), Fact.is (.pointer (some ⟨jb, 0, none⟩)), Fact.is (.int .i64 (k : Int)), Fact.is (.int .i64 (i : Int)), Fact.is (.int .i64 (m : Int)), bsPair w (blockL S m) 0, bsPair w (blockL S m) 0, bsFact w (blockL S m), Fact.is (.int .i64 0), bsFact w (blockL S m), Fact.is (.int .i64 0)]
    (fun x => { tmps := #[.pointer (some ⟨jb, 0, none⟩), .int .u8 (kd.toNat : Int), .int .i64 (k : Int), .int .i64 (i : Int), undef, undef, undef, undef, .slice none 0 0, .bool false, x 12, x 13, undef, undef, undef, x 9, x 0, x 1, x 2, x 3, x 4, x 5, x 6, x 7, x 8, x 10, x 11, undef, undef, undef, undef, undef, undef, undef, undef, undef, undef, undef, undef, undef, undef, undef, undef, undef, undef, undef, undef, undef, undef, undef, undef, undef, undef], defers := [] }) (fun i => ([undef, undef, undef, undef, undef, undef, undef, undef, undef, undef, undef, undef, undef, undef] : List Value).getD i undef) (by kernel_rfl) rfl rfl (by kernel_rfl) ((Below.refl _ _).drew) (fun u v hu hB => hu.trans (hB.mono hu.size)) ?_ ?_
  · refine ⟨⟨fun x v => rfl, fun x V hC hD => ?_⟩, ?_⟩
    · clear hD
      refine want_yes rfl ?_
      exact leads_value (v := .pointer (some ⟨jb, 0, none⟩)) (by go_simp) ⟨Below.refl _ _, rfl⟩
    refine ⟨⟨fun x v => rfl, fun x V hC hD => ?_⟩, ?_⟩
    · have e0 : (x 0) = .pointer (some ⟨jb, 0, none⟩) := hD.1 rfl
      clear hD
      refine want_yes rfl ?_
      exact leads_value (v := .pointer (some ⟨jb, 0, none⟩)) (by go_simp) ⟨Below.refl _ _, rfl⟩
    refine ⟨⟨fun x v => rfl, fun x V hC hD => ?_⟩, ?_⟩
    · have e1 : (x 1) = .pointer (some ⟨jb, 0, none⟩) := hD.1 rfl
      clear hD
      refine want_yes rfl ?_
      exact leads_value (v := .pointer (some ⟨jb, 0, none⟩)) (by go_simp) ⟨Below.refl _ _, rfl⟩
    refine ⟨⟨fun x v => rfl, fun x V hC hD => ?_⟩, ?_⟩
    · have e2 : (x 2) = .pointer (some ⟨jb, 0, none⟩) := hD.1 rfl
      clear hD
      refine want_yes rfl ?_
      have k0 := HC0.out V hC
      exact leads_value (v := .pointer (some ⟨db, 0, none⟩)) (by go_simp) ⟨Below.refl _ _, rfl⟩
    refine ⟨⟨fun x v => rfl, fun x V hC hD => ?_⟩, ?_⟩
    · clear hD
      refine want_yes rfl ?_
      exact leads_value (v := .pointer (some ⟨jb, 0, none⟩)) (by go_simp) ⟨Below.refl _ _, rfl⟩
    refine ⟨⟨fun x v => rfl, fun x V hC hD => ?_⟩, ?_⟩
    · clear hD
      refine want_yes rfl ?_
      exact leads_value (v := .int .i64 (k : Int)) (by go_simp) ⟨Below.refl _ _, rfl⟩
    refine ⟨⟨fun x v => rfl, fun x V hC hD => ?_⟩, ?_⟩
    · clear hD
      refine want_yes rfl ?_
      exact leads_value (v := .int .i64 (i : Int)) (by go_simp) ⟨Below.refl _ _, rfl⟩
    refine ⟨⟨fun x v => rfl, fun x V hC hD => ?_⟩, ?_⟩
    · have e4 : (x 4) = .pointer (some ⟨jb, 0, none⟩) := hD.1 rfl
      have e5 : (x 5) = .int .i64 (k : Int) := hD.2.1 rfl
      have e6 : (x 6) = .int .i64 (i : Int) := hD.2.2.1 rfl
      clear hD
      refine want_yes rfl ?_
      exact leads_enter2 (by go_simp) ((HBk.out V hC).mono fun en w'' ⟨he, hw⟩ => ⟨_, he, hw ▸ Below.refl _ _, rfl⟩)
    refine ⟨⟨fun x v => rfl, fun x V hC hD => ?_⟩, ?_⟩
    · have e3 : (x 3) = .pointer (some ⟨db, 0, none⟩) := hD.1 rfl
      have e7 : (x 7) = .int .i64 (m : Int) := hD.2.1 rfl
      clear hD
      refine want_yes rfl ?_
      exact leads_enter2 (by go_simp) ((HR.out V hC).mono fun en w'' ⟨q, c, he, hr, hB⟩ => ⟨_, he, hB, _, rfl, new_of_fresh hr hC.size⟩)
    refine ⟨⟨fun x v => rfl, fun x V hC hD => ?_⟩, ?_⟩
    · have e8 : ∃ u, (x 8) = .tuple #[u, .int .i64 0] ∧ BsNew w (blockL S m) u V := hD.1 rfl
      clear hD
      refine want_yes rfl ?_
      obtain ⟨u, hu, hn⟩ := e8
      exact leads_value (v := .tuple #[u, .int .i64 0]) (by go_simp) ⟨Below.refl _ _, u, rfl, hn⟩
    refine ⟨⟨fun x v => rfl, fun x V hC hD => ?_⟩, ?_⟩
    · have e9 : ∃ u, (x 9) = .tuple #[u, .int .i64 0] ∧ BsNew w (blockL S m) u V := hD.1 rfl
      clear hD
      refine want_yes rfl ?_
      obtain ⟨u, hu, hn⟩ := e9
      exact leads_value (v := u) (by go_simp) ⟨Below.refl _ _, hn⟩
    refine ⟨⟨fun x v => rfl, fun x V hC hD => ?_⟩, ?_⟩
    · have e9 : ∃ u, (x 9) = .tuple #[u, .int .i64 0] ∧ BsNew w (blockL S m) u V := hD.1 rfl
      clear hD
      refine want_yes rfl ?_
      obtain ⟨u, hu, hn⟩ := e9
      exact leads_value (v := .int .i64 0) (by go_simp) ⟨Below.refl _ _, rfl⟩
    refine ⟨⟨fun x v => rfl, fun x V hC hD => ?_⟩, ?_⟩
    · have e10 : BsNew w (blockL S m) (x 10) V := hD.1 rfl
      have e8 : ∃ u, (x 8) = .tuple #[u, .int .i64 0] ∧ BsNew w (blockL S m) u V := hD.2.1 rfl
      have e0 : (x 0) = .pointer (some ⟨jb, 0, none⟩) := hD.2.2.1 rfl
      have e1 : (x 1) = .pointer (some ⟨jb, 0, none⟩) := hD.2.2.2.1 rfl
      have e2 : (x 2) = .pointer (some ⟨jb, 0, none⟩) := hD.2.2.2.2.1 rfl
      have e3 : (x 3) = .pointer (some ⟨db, 0, none⟩) := hD.2.2.2.2.2.1 rfl
      have e4 : (x 4) = .pointer (some ⟨jb, 0, none⟩) := hD.2.2.2.2.2.2.1 rfl
      have e5 : (x 5) = .int .i64 (k : Int) := hD.2.2.2.2.2.2.2.1 rfl
      have e6 : (x 6) = .int .i64 (i : Int) := hD.2.2.2.2.2.2.2.2.1 rfl
      have e7 : (x 7) = .int .i64 (m : Int) := hD.2.2.2.2.2.2.2.2.2.1 rfl
      have e9 : ∃ u, (x 9) = .tuple #[u, .int .i64 0] ∧ BsNew w (blockL S m) u V := hD.2.2.2.2.2.2.2.2.2.2.2.1 rfl
      clear hD
      refine want_yes rfl ?_
      obtain ⟨y, hy⟩ : ∃ y, x 10 = y := ⟨_, rfl⟩
      rw [hy] at e10
      exact leads_value (v := y) (by go_simp) ⟨Below.refl _ _, e10⟩
    refine ⟨⟨fun x v => rfl, fun x V hC hD => ?_⟩, ?_⟩
    · have e11 : (x 11) = .int .i64 0 := hD.1 rfl
      have e12 : BsNew w (blockL S m) (x 12) V := hD.2.1 rfl
      have e0 : (x 0) = .pointer (some ⟨jb, 0, none⟩) := hD.2.2.1 rfl
      have e1 : (x 1) = .pointer (some ⟨jb, 0, none⟩) := hD.2.2.2.1 rfl
      have e2 : (x 2) = .pointer (some ⟨jb, 0, none⟩) := hD.2.2.2.2.1 rfl
      have e3 : (x 3) = .pointer (some ⟨db, 0, none⟩) := hD.2.2.2.2.2.1 rfl
      have e4 : (x 4) = .pointer (some ⟨jb, 0, none⟩) := hD.2.2.2.2.2.2.1 rfl
      have e5 : (x 5) = .int .i64 (k : Int) := hD.2.2.2.2.2.2.2.1 rfl
      have e6 : (x 6) = .int .i64 (i : Int) := hD.2.2.2.2.2.2.2.2.1 rfl
      have e7 : (x 7) = .int .i64 (m : Int) := hD.2.2.2.2.2.2.2.2.2.1 rfl
      have e8 : ∃ u, (x 8) = .tuple #[u, .int .i64 0] ∧ BsNew w (blockL S m) u V := hD.2.2.2.2.2.2.2.2.2.2.1 rfl
      have e9 : ∃ u, (x 9) = .tuple #[u, .int .i64 0] ∧ BsNew w (blockL S m) u V := hD.2.2.2.2.2.2.2.2.2.2.2.1 rfl
      have e10 : BsNew w (blockL S m) (x 10) V := hD.2.2.2.2.2.2.2.2.2.2.2.2.1 rfl
      clear hD
      refine want_yes rfl ?_
      exact leads_value (v := .int .i64 0) (by go_simp) ⟨Below.refl _ _, rfl⟩
    trivial
  intro x1 V hC hF
  have e12 : BsNew w (blockL S m) (x1 12) V := hF 12 (by simp)
  have e13 : x1 13 = .int .i64 0 := hF 13 (by simp)
  have HV := Lib.hid (show Below w.heap.size w V from hC)
  obtain ⟨p1, n1, c1, h12, hbs, -⟩ := e12
  obtain rfl : n1 = 128 := hbs.same.trans HL.out
  have HRd := Lib.hid (frRead_any kd p1 128 c1 (blockL S m) V hbs (by rw [HL.out]; decide))
  have HG := Lib.hid (fun W (hW : Below w.heap.size w W) => (hW.cell (p := ⟨jb, 3, none⟩) HK.out.lt).trans (jrn_cells HK.out).2.2.2.1)
  clear hF hC hbs HL HK HC0 HBk HR
  rw [h12, e13]
  clear h12 e13
  generalize J.gen = g at *
  generalize frR kd (blockL S m) = R at *
  obtain ⟨G, Q, P, E⟩ := R
  simp only at HRd
  by_cases hE : E = 0
  · subst hE
    by_cases hG : G = (g : Int)
    · subst hG
      by_cases hQ : Q = (k : Int)
      · subst hQ
        have HX := Lib.hid (show rdP g k ⟨g, k, P, 0⟩ = P ∧ decide (rdOk g k ⟨g, k, P, 0⟩) = true from ⟨by unfold rdP; rw [if_pos ⟨rfl, rfl, rfl⟩], by simp [rdOk]⟩)
        go_wp2_with fail
        refine HRd.out.mono ?_
        rintro e w2 ⟨q, c, rfl, hn, hB⟩
        have HN := Lib.hid hn
        have HB := Lib.hid (HV.out.trans (hB.mono HV.out.size))
        have k3 := HG.out w2 HB.out
        clear hn hB HG HRd
        go_wp2_with fail
        refine bodyPost_ret (results_tmp2 rfl _ _ _) rfl ?_
        exact ⟨q, c, by rw [HX.out.1, HX.out.2]; rfl, by rw [HX.out.1]; exact ⟨HN.out.1, fun a ha => Nat.le_trans HV.out.size (HN.out.2 a ha)⟩, HB.out⟩
      · have HX := Lib.hid (show rdP g k ⟨g, Q, P, 0⟩ = [] ∧ decide (rdOk g k ⟨g, Q, P, 0⟩) = false from ⟨by unfold rdP; rw [if_neg (fun h => hQ h.2.2)], by simp [rdOk, hQ]⟩)
        go_wp2_with fail
        refine HRd.out.mono ?_
        rintro e w2 ⟨q, c, rfl, -, hB⟩
        have HB := Lib.hid (HV.out.trans (hB.mono HV.out.size))
        have k3 := HG.out w2 HB.out
        clear hB HG HRd
        go_wp2_with fail
        refine bodyPost_ret (results_tmp2 rfl _ _ _) rfl ?_
        exact ⟨none, 0, by rw [HX.out.1, HX.out.2]; rfl, by rw [HX.out.1]; exact ⟨bsAt_nil _, fun _ h => by cases h⟩, HB.out⟩
    · have HX := Lib.hid (show rdP g k ⟨G, Q, P, 0⟩ = [] ∧ decide (rdOk g k ⟨G, Q, P, 0⟩) = false from ⟨by unfold rdP; rw [if_neg (fun h => hG h.2.1)], by simp [rdOk, hG]⟩)
      go_wp2_with fail
      refine HRd.out.mono ?_
      rintro e w2 ⟨q, c, rfl, -, hB⟩
      have HB := Lib.hid (HV.out.trans (hB.mono HV.out.size))
      have k3 := HG.out w2 HB.out
      clear hB HG HRd
      go_wp2_with fail
      refine bodyPost_ret (results_tmp2 rfl _ _ _) rfl ?_
      exact ⟨none, 0, by rw [HX.out.1, HX.out.2]; rfl, by rw [HX.out.1]; exact ⟨bsAt_nil _, fun _ h => by cases h⟩, HB.out⟩
  · have HX := Lib.hid (show rdP g k ⟨G, Q, P, E⟩ = [] ∧ decide (rdOk g k ⟨G, Q, P, E⟩) = false from ⟨by unfold rdP; rw [if_neg (fun h => hE h.1)], by simp [rdOk, hE]⟩)
    go_wp2_with fail
    refine HRd.out.mono ?_
    rintro e w2 ⟨q, c, rfl, -, hB⟩
    have HB := Lib.hid (HV.out.trans (hB.mono HV.out.size))
    clear hB HG HRd
    go_wp2_with fail
    refine bodyPost_ret (results_tmp2 rfl _ _ _) rfl ?_
    exact ⟨none, 0, by rw [HX.out.1, HX.out.2]; rfl, by rw [HX.out.1]; exact ⟨bsAt_nil _, fun _ h => by cases h⟩, HB.out⟩

/-! The committed steps. -/
theorem bs_lt {w : World} {p : Option Addr} {len cap : Nat} {l : List UInt8} (h : BsAt w p len cap l) (hl : l ≠ []) : ∀ a, p = some a → a.block < w.heap.size := by
  rintro a rfl
  rcases h.place with ⟨h1, -⟩ | ⟨h1, -⟩ | ⟨g, off, h1, h2, -⟩
  · cases h1
  · exact absurd h1 hl
  · cases h1; exact h2
/-- A slice of its own that holds just these rows, all in memory made since B and apart from it. -/
def StepsAt (B : Nat) (w : World) (v : Value) (ls : List (List UInt8)) : Prop :=
  ∃ xs : List Value, w.ownsRow B 34 1 v ls.length xs ∧ ∀ i, (h : i < ls.length) → ∃ q n c, xs[i]? = some (.slice q n c) ∧ BsAt w q n c ls[i] ∧ (ls[i] ≠ [] → ∀ a, q = some a → B ≤ a.block ∧ v.ownBlock ≠ some a.block)
theorem stepsAt_nil (B : Nat) (w : World) : StepsAt B w (.slice none 0 0) [] := ⟨[], World.ownsRow_nil _ _ _ _, fun i hi => by simp at hi⟩
theorem StepsAt.below {B : Nat} {w w' : World} {v : Value} {ls : List (List UInt8)} (h : StepsAt B w v ls) (hB : Below w.heap.size w w') : StepsAt B w' v ls := by
  obtain ⟨xs, h1, h2⟩ := h
  exact ⟨xs, own_below h1 hB (Nat.le_refl _), fun i hi => by
    obtain ⟨q, n, c, h3, h4, h5⟩ := h2 i hi
    exact ⟨q, n, c, h3, h4.below hB (Nat.le_refl _), h5⟩⟩
theorem StepsAt.rows {B : Nat} {w : World} {v : Value} {ls : List (List UInt8)} (h : StepsAt B w v ls) {P : Nat → Prop} (hP2 : ∀ k, B ≤ k → k < w.heap.size → P k) : RowsIn P w v ls := by
  obtain ⟨xs, ⟨h0, h1⟩, h2⟩ := h
  rcases h1 with ⟨rfl, h3⟩ | ⟨g, cap, cur, rfl, hg, hb, hc, hm, hs, ht⟩
  · exact ⟨none, 0, by rw [h3], by omega, by decide, fun hne => absurd (List.eq_nil_of_length_eq_zero h3) hne⟩
  · refine ⟨_, cap, rfl, hc, hm, fun hne => ⟨g, 0, rfl, lt_of_block hb, hP2 g hg (lt_of_block hb), fun i hi => ?_⟩⟩
    obtain ⟨q, n, c, h3, h4, h5⟩ := h2 i hi
    refine ⟨q, n, c, ?_, h4, fun hne a ha => hP2 _ (h5 hne a ha).1 (bs_lt h4 hne a ha)⟩
    rw [Nat.zero_add, cell_of_row w g i cur _ (0, 0) hb, ← h3, ← ht, List.getElem?_take, if_pos (by omega)]
    simp
theorem StepsAt.len {B : Nat} {w : World} {v : Value} {ls : List (List UInt8)} (h : StepsAt B w v ls) : ∃ p c, v = .slice p ls.length c := by
  obtain ⟨xs, ⟨-, h1⟩, -⟩ := h
  rcases h1 with ⟨rfl, h3⟩ | ⟨g, cap, cur, rfl, -⟩
  · exact ⟨none, 0, by rw [h3]⟩
  · exact ⟨_, cap, rfl⟩
/-- One row more. -/
theorem StepsAt.push {B : Nat} {w w' : World} {v v' : Value} {ls : List (List UInt8)} {xs : List Value} {p : List UInt8} {q : Option Addr} {n c : Nat}
    (hl : xs.length = ls.length) (hx : ∀ i, (h : i < ls.length) → ∃ q n c, xs[i]? = some (.slice q n c) ∧ BsAt w q n c ls[i] ∧ (ls[i] ≠ [] → ∀ a, q = some a → B ≤ a.block ∧ v.ownBlock ≠ some a.block))
    (hb : BsAt w q n c p) (hq : p ≠ [] → ∀ a, q = some a → B ≤ a.block ∧ v.ownBlock ≠ some a.block) (hr : w'.ownsRow B 34 1 v' (ls.length + 1) (xs ++ [.slice q n c]))
    (hg : w.grownBy w' v.ownBlock) (hv : v'.ownBlock = v.ownBlock ∨ v'.ownBlock = some w.heap.size) : StepsAt B w' v' (ls ++ [p]) := by
  have hk : ∀ q n c l, BsAt w q n c l → (l ≠ [] → ∀ a, q = some a → B ≤ a.block ∧ v.ownBlock ≠ some a.block) → BsAt w' q n c l ∧ (l ≠ [] → ∀ a, q = some a → B ≤ a.block ∧ v'.ownBlock ≠ some a.block) := by
    intro q n c l h1 h2
    by_cases e : l = []
    · subst e
      exact ⟨bsAt_empty h1, fun h => absurd rfl h⟩
    · refine ⟨h1.chg (Chg.ofGrown hg) fun a ha => (h2 e a ha).2, fun _ a ha => ⟨(h2 e a ha).1, ?_⟩⟩
      have h3 := bs_lt h1 e a ha
      rcases hv with hv | hv
      · rw [hv]; exact (h2 e a ha).2
      · rw [hv]; intro h4; have := Option.some.inj h4; omega
  refine ⟨xs ++ [.slice q n c], by simpa using hr, fun i hi => ?_⟩
  by_cases h : i < ls.length
  · obtain ⟨q', n', c', h3, h4, h5⟩ := hx i h
    obtain ⟨h6, h7⟩ := hk _ _ _ _ h4 h5
    exact ⟨q', n', c', by rw [List.getElem?_append_left (by omega)]; exact h3, by rw [List.getElem_append_left h]; exact h6, by rw [List.getElem_append_left h]; exact h7⟩
  · obtain rfl : i = ls.length := by simp at hi; omega
    obtain ⟨h6, h7⟩ := hk _ _ _ _ hb hq
    exact ⟨q, n, c, by rw [← hl]; simp, by simpa using h6, by simpa using h7⟩
/-- The first L.length entries are committed, with these steps. -/
def Ahead (S : DS) (a g : Nat) (L : List (List UInt8)) : Prop := ∀ e, (h : e < L.length) → jstepAt S a g e = some L[e]
theorem Ahead.push {S : DS} {a g : Nat} {L : List (List UInt8)} {p : List UInt8} (h : Ahead S a g L) (hp : jstepAt S a g L.length = some p) : Ahead S a g (L ++ [p]) := by
  intro e he
  by_cases h1 : e < L.length
  · rw [List.getElem_append_left h1]; exact h e h1
  · obtain rfl : e = L.length := by simp at he; omega
    simpa using hp
theorem jstep_eq (S : DS) (a g k : Nat) : jstepAt S a g k = if rdOk g k (frR 82 (blockL S (a + 2 * k))) ∧ rdOk g k (frR 67 (blockL S (a + 2 * k + 1))) ∧ (frR 67 (blockL S (a + 2 * k + 1))).pay = [] then some (frR 82 (blockL S (a + 2 * k))).pay else none := rfl
theorem jRead_yes {w : World} {jb db : Nat} {J : JS} {S : DS} {D : Nat → Prop} (kd : UInt8) (k i : Nat) (hb : Blk w jb (jrnV db J) 45) (hA : theRel.At w db S D) (hok : DSOk S) (ho : S.off = false) (hm : J.at_ + 2 * k + i < S.len)
    (hr : rdOk J.gen k (frR kd (blockL S (J.at_ + 2 * k + i)))) :
    Calls Try.prog 32 #[.pointer (some ⟨jb, 0, none⟩), .int .u8 (kd.toNat : Int), .int .i64 (k : Int), .int .i64 (i : Int)] w fun e w' => ∃ q n c, e = .returned (.tuple #[.slice q n c, .bool true]) ∧ (BsAt w' q n c (frR kd (blockL S (J.at_ + 2 * k + i))).pay ∧ ∀ a, q = some a → w.heap.size ≤ a.block) ∧ Below w.heap.size w w' := by
  refine (jRead_any kd k i hb hA hok ho hm).mono ?_
  rintro e w' ⟨q, c, rfl, hn, hB⟩
  have e1 : rdP J.gen k (frR kd (blockL S (J.at_ + 2 * k + i))) = (frR kd (blockL S (J.at_ + 2 * k + i))).pay := by unfold rdP; rw [if_pos hr]
  rw [e1] at hn ⊢
  exact ⟨q, _, c, by rw [decide_eq_true hr], hn, hB⟩
theorem jRead_no {w : World} {jb db : Nat} {J : JS} {S : DS} {D : Nat → Prop} (kd : UInt8) (k i : Nat) (hb : Blk w jb (jrnV db J) 45) (hA : theRel.At w db S D) (hok : DSOk S) (ho : S.off = false) (hm : J.at_ + 2 * k + i < S.len)
    (hr : ¬ rdOk J.gen k (frR kd (blockL S (J.at_ + 2 * k + i)))) :
    Calls Try.prog 32 #[.pointer (some ⟨jb, 0, none⟩), .int .u8 (kd.toNat : Int), .int .i64 (k : Int), .int .i64 (i : Int)] w fun e w' => ∃ q n c, e = .returned (.tuple #[.slice q n c, .bool false]) ∧ Below w.heap.size w w' := by
  refine (jRead_any kd k i hb hA hok ho hm).mono ?_
  rintro e w' ⟨q, c, rfl, -, hB⟩
  exact ⟨q, _, c, by rw [decide_eq_false hr], hB⟩
theorem infoSl : (Try.prog.info? 34).map (fun i => (i.zero, i.size, i.bytes)) = some (some (.slice none 0 0), 1, 24) := by kernel_rfl
/-- The kinds of an entry's two blocks. -/
theorem run_index_two {x y : UInt8} {k : Nat} {z : Int} (h : #[Value.int .u8 (x.toNat : Int), .int .u8 (y.toNat : Int)][k]? = some (.int .u8 z)) (hk : k < 2) (w : World) : (Instr.index 63 (.agg #[.int .u8 (x.toNat : Int), .int .u8 (y.toNat : Int)]) (.int .i64 (k : Int))).run Try.prog w = .ok (.int .u8 z) w := by
  obtain ⟨i, hi, -⟩ := Option.map_eq_some_iff.1 infoU8
  have h2 : (k : Int) < 2 := by omega
  simp only [Instr.index, asIntOf, Sem.run_bind, Sem.run_pure, Result.andThen_ok, run_underlying Try.underlying63]
  rw [if_pos ⟨Int.natCast_nonneg k, h2⟩]
  simp only [Sem.run_bind, run_sizeOf w hi, Result.andThen_ok, show Try.prog.cellsOf 5 = 1 by kernel_rfl, Nat.mul_one, Int.toNat_natCast]
  exact run_part_plain (P := Try.prog) w (e := 5) (by kernel_rfl) h
set_option maxRecDepth 100000 in
set_option maxHeartbeats 3200000 in
theorem jCommitted_any {w : World} {jb db : Nat} {J : JS} {S : DS} {D : Nat → Prop} (hb : Blk w jb (jrnV db J) 45) (hA : theRel.At w db S D) (hok : DSOk S) (hjk : JOk S J) (ho : S.off = false) :
    Calls Try.prog 25 #[ptrV jb] w fun e w' => ∃ v, e = .returned v ∧ StepsAt w.heap.size w' v (stepsL S J.at_ J.gen J.room) ∧ Below w.heap.size w w' := by
  obtain ⟨i0, hi, hx⟩ := Option.map_eq_some_iff.1 infoSl
  simp only [Prod.mk.injEq] at hx
  obtain ⟨hz0, hz1, hz2⟩ := hx
  have HI := Lib.hid (And.intro hi (And.intro hz0 (And.intro hz1 hz2)))
  obtain ⟨k0, k1, k2, k3, k4⟩ := jrn_cells hb
  have HK := Lib.hid hb
  have HA := Lib.hid hA
  have HO := Lib.hid hok
  have HJ := Lib.hid hjk
  have HOf := Lib.hid ho
  have hroom : (J.room : Int) ≤ 64 := by have := hjk.room; omega
  clear hi hz0 hz1 hz2 k0 k1 k3 k4 hb hA hok hjk ho
  unfold ptrV
  obtain ⟨r, hr⟩ : ∃ r, r = J.room := ⟨_, rfl⟩
  have HRm := Lib.hid hr
  rw [← hr] at k2 hroom ⊢
  clear hr
  have hget0 : ∀ w, (Instr.index 63 (.agg #[.int .u8 82, .int .u8 67]) (.int .i64 0)).run Try.prog w = .ok (.int .u8 82) w := fun w => run_index_two (x := 82) (y := 67) (k := 0) rfl (by decide) w
  have hget1 : ∀ w, (Instr.index 63 (.agg #[.int .u8 82, .int .u8 67]) (.int .i64 1)).run Try.prog w = .ok (.int .u8 67) w := fun w => run_index_two (x := 82) (y := 67) (k := 1) rfl (by decide) w
  go_enter Try.func25, Try.ntmps25
  go_wp2_with fail
  go_step3
  go_wp2_with fail
  go_step3
  go_upto_region 3 with fail
  go_loopw [3, 14] (fun s3 s14 wr => ∃ L : List (List UInt8), L.length ≤ r ∧ s14 = .int .i64 (L.length : Int) ∧ Ahead S J.at_ J.gen L ∧ StepsAt w.heap.size wr s3 L ∧ Below w.heap.size w wr) (fun _ s14 _ => r - (intOf s14).toNat)
  case atStart => exact ⟨[], Nat.zero_le _, rfl, fun e he => by simp at he, stepsAt_nil _ _, Below.refl _ _⟩
  case round =>
    obtain ⟨L, hl, rfl, hah, hst, hB⟩ := hrel
    have HEnd := Lib.hid (show (L.length < r → jstepAt S J.at_ J.gen L.length = none) → stepsL S J.at_ J.gen r = L from fun h => stepsL_eq hl hah h)
    have HAh := Lib.hid hah
    have HS := Lib.hid hst
    have HB := Lib.hid hB
    obtain ⟨k, hk⟩ : ∃ k, k = L.length := ⟨_, rfl⟩
    have HKl := Lib.hid hk
    rw [← hk] at HEnd hl ⊢
    clear hk hah hst hB
    by_cases hlt : k < r
    · have hBk : Blk wr jb (jrnV db J) 45 := HK.out.below HB.out HK.out.lt
      have hAk : theRel.At wr db S D := DiskRel.below HA.out HB.out
      have hm : J.at_ + 2 * k + 1 < S.len := by have := HJ.out.fits; have := HRm.out; omega
      have hj := jstep_eq S J.at_ J.gen k
      by_cases h1 : rdOk J.gen k (frR 82 (blockL S (J.at_ + 2 * k + 0)))
      · have H1 := Lib.hid (jRead_yes 82 k 0 hBk hAk HO.out HOf.out (by omega) h1)
        have h1' : rdOk J.gen k (frR 82 (blockL S (J.at_ + 2 * k))) := h1
        have HBk := Lib.hid hBk
        have HAk := Lib.hid hAk
        have HR1 := Lib.hid (show frR 82 (blockL S (J.at_ + 2 * k + 0)) = frR 82 (blockL S (J.at_ + 2 * k)) from rfl)
        by_cases h2 : rdOk J.gen k (frR 67 (blockL S (J.at_ + 2 * k + 1)))
        · have H2 := Lib.hid (fun V (hV : Below wr.heap.size wr V) => jRead_yes (w := V) 67 k 1 (HBk.out.below hV HBk.out.lt) (DiskRel.below HAk.out hV) HO.out HOf.out (by omega) h2)
          by_cases h3 : (frR 67 (blockL S (J.at_ + 2 * k + 1))).pay = []
          · rw [if_pos ⟨h1', h2, h3⟩] at hj
            rw [h3] at H2
            have HPs := Lib.hid hj
            clear hj hm hBk hAk h1 h1' h2 h3
            rw [HR1.out] at H1
            generalize (frR 82 (blockL S (J.at_ + 2 * k))).pay = pay at *
            have hBw := HB.out.size
            go_wp2_with fail
            refine wp_loop_rounds 3 ?_
            rw [rounds_succ]
            go_wp2_with fail
            refine H1.out.mono ?_
            rintro e w1 ⟨q, n, c, rfl, hp, hB1⟩
            have HP1 := Lib.hid hp
            have HB1 := Lib.hid hB1
            clear hB1 hp H1
            go_wp2_with fail
            rw [rounds_succ]
            go_wp2_with fail
            refine (H2.out w1 HB1.out).mono ?_
            rintro e w2 ⟨q2, n2, c2, rfl, ⟨hb2, -⟩, hB2⟩
            obtain rfl : n2 = 0 := hb2.same
            have HB2 := Lib.hid (HB1.out.trans (hB2.mono HB1.out.size))
            have HP2 := Lib.hid (HP1.out.1.below hB2 (Nat.le_refl _))
            clear hB2 H2 hb2
            go_wp2_with fail
            rw [rounds_succ]
            have HS2 := Lib.hid (HS.out.below HB2.out)
            obtain ⟨xs, hown, hxs⟩ := HS2.out
            have HX := Lib.hid hxs
            have hxl : xs.length = L.length := by have := hown.1; omega
            have HXl := Lib.hid hxl
            have HOw := Lib.hid (own_below hown (belowNew w2 (.cells #[.slice q n c] 34)) (Nat.le_refl _))
            have HBn := Lib.hid (belowNew w2 (.cells #[.slice q n c] 34))
            have HLo := Lib.hid (fun b (hb : u3.ownBlock = some b) => (hown.lt b hb).1)
            have HLt0 := Lib.hid (fun b (hb : u3.ownBlock = some b) => (show b < wr.heap.size from by obtain ⟨_, h5, -⟩ := HS.out; exact (h5.lt b hb).2))
            rw [← HKl.out] at HOw
            clear hxs hxl hown HEnd
            go_wp2_with (at_builtin; (refine wpList_append_own_at _ rfl _ _ 22 rfl w.heap.size 34 i0 _ 1 24 Try.underlying22 HI.out.1 HI.out.2.1 HI.out.2.2.1 HI.out.2.2.2 rfl (by decide) u3 k xs rfl HOw.out ⟨_, 0, none⟩ 1 1 [.slice q n c] rfl rfl (cell_one_new _ _ _) (by simp [Value.oneCell']) (by unfold maxLen; omega) (by omega) (by have := HB.out.size; have := HB2.out.size; simp; omega) ?_; intro v' w3 hr3 hg3 _ hv3; have HR3 := Lib.hid hr3; have HG3 := Lib.hid hg3; have HV3 := Lib.hid hv3; clear hr3 hg3 hv3))
            have HB3 := Lib.hid (((HB.out.trans (HB2.out.mono HB.out.size)).trans (HBn.out.mono (Nat.le_trans HB.out.size HB2.out.size))).grown HG3.out (Nat.le_trans (Nat.le_trans HB.out.size HB2.out.size) HBn.out.size) (fun b hb => HLo.out b hb))
            have HS3 := Lib.hid (show StepsAt w.heap.size w3 v' (L ++ [pay]) from StepsAt.push HXl.out (fun i hi => by
                obtain ⟨q', n', c', x1, x2, x3⟩ := HX.out i hi
                exact ⟨q', n', c', x1, x2.below HBn.out (Nat.le_refl _), x3⟩) (HP2.out.below HBn.out (Nat.le_refl _)) (fun _ a ha => ⟨Nat.le_trans HB.out.size (HP1.out.2 a ha), fun hb => by have := HLt0.out _ hb; have := HP1.out.2 a ha; omega⟩) (by rw [← HKl.out]; exact HR3.out) HG3.out HV3.out)
            clear HR3 HG3 HV3
            go_roundw
            case rel => exact ⟨L ++ [pay], by rw [List.length_append, ← HKl.out]; simp; omega, by rw [List.length_append, ← HKl.out]; go_num, HAh.out.push (by rw [← HKl.out]; exact HPs.out), HS3.out, HB3.out⟩
            case measure => simp [intOf]; omega
          · have hne : 0 < (frR 67 (blockL S (J.at_ + 2 * k + 1))).pay.length := List.length_pos_iff.2 h3
            rw [if_neg (fun h => h3 h.2.2)] at hj
            have HL := Lib.hid (HEnd.out fun _ => hj)
            clear hj hm hBk hAk h1 h1' h2 h3
            generalize (frR 67 (blockL S (J.at_ + 2 * k + 1))).pay = pay2 at *
            go_wp2_with fail
            refine wp_loop_rounds 3 ?_
            rw [rounds_succ]
            go_wp2_with fail
            refine H1.out.mono ?_
            rintro e w1 ⟨q, n, c, rfl, -, hB1⟩
            have HB1 := Lib.hid hB1
            clear hB1 H1
            go_wp2_with fail
            rw [rounds_succ]
            go_wp2_with fail
            refine (H2.out w1 HB1.out).mono ?_
            rintro e w2 ⟨q2, n2, c2, rfl, ⟨hb2, -⟩, hB2⟩
            have hn2 : 0 < (n2 : Int) := by have := hb2.same; omega
            have HB2 := Lib.hid (HB1.out.trans (hB2.mono HB1.out.size))
            clear hB2 H2 hb2 hne
            go_wp2_with fail
            rw [Exit.noGoto_ret]
            go_ret
            exact ⟨_, rfl, by rw [HL.out]; exact HS.out.below HB2.out, HB.out.trans (HB2.out.mono HB.out.size)⟩
        · have H2 := Lib.hid (fun V (hV : Below wr.heap.size wr V) => jRead_no (w := V) 67 k 1 (HBk.out.below hV HBk.out.lt) (DiskRel.below HAk.out hV) HO.out HOf.out (by omega) h2)
          rw [if_neg (fun h => h2 h.2.1)] at hj
          have HL := Lib.hid (HEnd.out fun _ => hj)
          clear hj hm hBk hAk h1 h1' h2
          go_wp2_with fail
          refine wp_loop_rounds 3 ?_
          rw [rounds_succ]
          go_wp2_with fail
          refine H1.out.mono ?_
          rintro e w1 ⟨q, n, c, rfl, -, hB1⟩
          have HB1 := Lib.hid hB1
          clear hB1 H1
          go_wp2_with fail
          rw [rounds_succ]
          go_wp2_with fail
          refine (H2.out w1 HB1.out).mono ?_
          rintro e w2 ⟨q2, n2, c2, rfl, hB2⟩
          have HB2 := Lib.hid (HB1.out.trans (hB2.mono HB1.out.size))
          clear hB2 H2
          go_wp2_with fail
          rw [Exit.noGoto_ret]
          go_ret
          exact ⟨_, rfl, by rw [HL.out]; exact HS.out.below HB2.out, HB.out.trans (HB2.out.mono HB.out.size)⟩
      · have H1 := Lib.hid (jRead_no 82 k 0 hBk hAk HO.out HOf.out (by omega) h1)
        rw [if_neg (fun h => h1 h.1)] at hj
        have HL := Lib.hid (HEnd.out fun _ => hj)
        clear hj hm hBk hAk h1
        go_wp2_with fail
        refine wp_loop_rounds 3 ?_
        rw [rounds_succ]
        go_wp2_with fail
        refine H1.out.mono ?_
        rintro e w1 ⟨q, n, c, rfl, hB1⟩
        have HS1 := Lib.hid (HS.out.below hB1)
        have HB1 := Lib.hid (HB.out.trans (hB1.mono HB.out.size))
        clear hB1 H1
        go_wp2_with fail
        rw [Exit.noGoto_ret]
        go_ret
        exact ⟨_, rfl, by rw [HL.out]; exact HS1.out, HB1.out⟩
    · have HL := Lib.hid (HEnd.out fun h => absurd h hlt)
      go_wp2_with fail
      rw [Exit.noGoto_ret]
      go_ret
      exact ⟨_, rfl, by rw [HL.out]; exact HS.out, HB.out⟩
end Go.Proofs.Ytlbdpoolhmbgaaa

/-! JrnL -/
namespace Go.Proofs.Ytlbdpoolhmbgaaa
open Go.RowKit

theorem write_wr (S : DS) (i : Int) (l : List UInt8) : (writeS S i l).wr ≤ S.wr + 1 := by
  unfold writeS
  split
  · exact Int.le_refl _
  · omega
set_option maxRecDepth 100000 in
set_option maxHeartbeats 3200000 in
theorem jWrite_any {w : World} {jb db g : Nat} {J : JS} {S : DS} {D : Nat → Prop} {p1 p2 : Option Addr} {c1 c2 : Nat} {x y : List UInt8} {t : TypeId} (hb : Blk w jb (jrnV db J) 45) (hA : theRel.At w db S D) (hok : DSOk S) (hj : JOk S J) (hn : J.n < J.room) (hd : ¬ D jb) (hwr : S.wr ≤ 1000000)
    (hg : Blk w g #[.slice p1 128 c1, .slice p2 128 c2] t) (hgd : ¬ D g) (hx : BsAt w p1 128 c1 x) (hy : BsAt w p2 128 c2 y) (h1 : ∀ a, p1 = some a → ¬ D a.block) (h2 : ∀ a, p2 = some a → ¬ D a.block) :
    Calls Try.prog 24 #[ptrV jb, .slice (some ⟨g, 0, none⟩) 2 2] w fun e w' => ∃ D', e = .returned (.int .i64 (put2E S J x y)) ∧ theRel.At w' db (put2S S J x y) D' ∧ (∀ k, D' k → D k ∨ w.heap.size ≤ k) ∧ Chg D w w' := by
  obtain ⟨k0, k1, k2, k3, k4⟩ := jrn_cells hb
  have q0 : w.cell? ⟨g, 0, none⟩ = some (.slice p1 128 c1) := hg.cell 0
  have HK := Lib.hid hb
  have HG := Lib.hid hg
  have HO := Lib.hid hok
  have hb0 : Calls Try.prog 31 #[.pointer (some ⟨jb, 0, none⟩), .int .i64 (J.n : Int), .int .i64 0] w.drew fun e w' => e = .returned (.int .i64 ((J.at_ + 2 * J.n : Nat) : Int)) ∧ w' = w.drew :=
    (jBlock_any (w := w.drew) (jb := jb) J.n 0 k1 (by have := hj.fits; have := hok.few; omega)).mono fun _ _ ⟨h, e⟩ => ⟨h, e.symm⟩
  have HB0 := Lib.hid hb0
  have hB1 : ∀ V : World, Blk V jb (jrnV db J) 45 → Calls Try.prog 31 #[.pointer (some ⟨jb, 0, none⟩), .int .i64 (J.n : Int), .int .i64 1] V fun e w' => e = .returned (.int .i64 ((J.at_ + 2 * J.n + 1 : Nat) : Int)) ∧ w' = V :=
    fun V hV => (jBlock_any (w := V) (jb := jb) J.n 1 (jrn_cells hV).2.1 (by have := hj.fits; have := hok.few; omega)).mono fun _ _ ⟨h, e⟩ => ⟨h, e.symm⟩
  have HB1 := Lib.hid hB1
  have HW := Lib.hid (dWrite_big (w := w.drew) ((J.at_ + 2 * J.n : Nat) : Int) (DiskRel.below hA (Below.refl w.heap.size w).drew) hok (by omega) (hx.below (Below.refl w.heap.size w).drew (Nat.le_refl _)) h1)
  have HYl := Lib.hid hy.same
  have HY := Lib.hid hy
  have HD := Lib.hid (And.intro hd (And.intro hgd (And.intro h2 (And.intro hwr (theRel.lt hA).2))))
  have HPE := Lib.hid (show put2E S J x y = if writeE S ((J.at_ + 2 * J.n : Nat) : Int) x ≠ 0 then writeE S ((J.at_ + 2 * J.n : Nat) : Int) x else writeE (writeS S ((J.at_ + 2 * J.n : Nat) : Int) x) ((J.at_ + 2 * J.n + 1 : Nat) : Int) y from rfl)
  have HPS := Lib.hid (show put2S S J x y = if writeE S ((J.at_ + 2 * J.n : Nat) : Int) x ≠ 0 then writeS S ((J.at_ + 2 * J.n : Nat) : Int) x else writeS (writeS S ((J.at_ + 2 * J.n : Nat) : Int) x) ((J.at_ + 2 * J.n + 1 : Nat) : Int) y from rfl)
  generalize put2E S J x y = PE at *
  generalize put2S S J x y = PS at *
  clear hb0 hB1 hb hA hok hj hn hd hwr hg hgd hx hy h1 h2 k1 k2 k3
  unfold ptrV at *
  generalize J.at_ + 2 * J.n = m at *
  by_cases hE : writeE S (m : Int) x = 0
  · have HPE2 := Lib.hid (show PE = writeE (writeS S (m : Int) x) ((m + 1 : Nat) : Int) y by rw [HPE.out, if_neg (by simpa using hE)])
    have HPS2 := Lib.hid (show PS = writeS (writeS S (m : Int) x) ((m + 1 : Nat) : Int) y by rw [HPS.out, if_neg (by simpa using hE)])
    rw [hE] at HW
    clear HPE HPS hE
    go_enter Try.func24, Try.ntmps24
    go_wp2_with fail
    refine wp_loop_rounds 3 ?_
    rw [rounds_succ]
    go_wp2_with fail
    go_still_tail 12, (by kernel_rfl)
    still_call (HB0.out)
    repeat still_step
    refine wpStill_nil ?_
    change wpList _ _ _ _ _ w.drew
    go_wp2_with fail
    refine HW.out.mono ?_
    rintro e w1 ⟨D1, rfl, hA1, hs1, hc0⟩
    have hc1 := (Chg.refl D w).drew.trans hc0
    clear hc0
    have hK1 := hc1.kept (b := jb) HK.out HD.out.1
    have HK1 := Lib.hid hK1
    have HA1 := Lib.hid hA1
    have HS1 := Lib.hid hs1
    have HC1 := Lib.hid hc1
    obtain ⟨j0, j1, j2, j3, j4⟩ := jrn_cells hK1
    have r1 : w1.cell? ⟨g, 1, none⟩ = some (.slice p2 128 c2) := (hc1.kept (b := g) HG.out HD.out.2.1).cell 1
    have HB2 := Lib.hid (HB1.out w1.drew hK1.drew)
    have hap : ∀ a, p2 = some a → ¬ D1 a.block := fun a ha hd => by
      rcases hs1 _ hd with h | h
      · exact HD.out.2.2.1 a ha h
      · have := bs_lt HY.out (by intro e; have := HYl.out; rw [e] at this; simp at this) a ha
        exact absurd h (by show ¬ w.heap.size ≤ _; omega)
    have HW2 := Lib.hid (dWrite_big (w := w1.drew) ((m + 1 : Nat) : Int) (DiskRel.below hA1 (Below.refl w1.heap.size w1).drew) (HO.out.write _ _) (by have := write_wr S (m : Int) x; have := HD.out.2.2.2.1; omega) ((HY.out.chg (hc1) HD.out.2.2.1).below (Below.refl w1.heap.size w1).drew (Nat.le_refl _)) hap)
    have HZ := Lib.hid (show ∀ (k : Nat) (D2 : Nat → Prop), (D2 k → D1 k ∨ w1.drew.heap.size ≤ k) → D2 k → D k ∨ w.heap.size ≤ k from fun k D2 h hk => by
      rcases h hk with h | h
      · exact hs1 k h
      · exact .inr (Nat.le_trans hc1.size h))
    have HZ2 := Lib.hid (show ∀ V, Chg D1 w1.drew V → Chg D w V from fun V hV => hc1.drew.then hV fun i hi hd => by
      rcases hs1 i hd with h | h
      · exact h
      · exact absurd hi (Nat.not_lt.2 h))
    unfold ptrV at *
    clear hK1 hA1 hs1 hc1 hap j1 j2 j3 k0 k4 q0 HW HB0 HB1
    generalize writeS S (m : Int) x = S1 at *
    by_cases hE2 : writeE S1 ((m + 1 : Nat) : Int) y = 0
    · rw [hE2] at HW2 HPE2
      go_wp2_with fail
      rw [rounds_succ]
      go_wp2_with fail
      go_still_tail 12, (by kernel_rfl)
      still_call (HB2.out)
      repeat still_step
      refine wpStill_nil ?_
      change wpList _ _ _ _ _ w1.drew
      go_wp2_with fail
      refine HW2.out.mono ?_
      rintro e w2 ⟨D2, rfl, hA2, hs2, hc2⟩
      have HA2 := Lib.hid hA2
      have HS2 := Lib.hid hs2
      have HC2 := Lib.hid hc2
      clear hA2 hs2 hc2 j0 j4 r1 HW2 HB2
      go_wp2_with fail
      rw [rounds_succ]
      go_wp2_with fail
      go_ret
      exact ⟨D2, by rw [HPE2.out]; rfl, by rw [HPS2.out]; exact HA2.out, fun k hk => HZ.out k D2 (HS2.out k) hk, HZ2.out _ HC2.out⟩
    · generalize writeE S1 ((m + 1 : Nat) : Int) y = E2 at *
      go_wp2_with fail
      rw [rounds_succ]
      go_wp2_with fail
      go_still_tail 12, (by kernel_rfl)
      still_call (HB2.out)
      repeat still_step
      refine wpStill_nil ?_
      change wpList _ _ _ _ _ w1.drew
      go_wp2_with fail
      refine HW2.out.mono ?_
      rintro e w2 ⟨D2, rfl, hA2, hs2, hc2⟩
      have HA2 := Lib.hid hA2
      have HS2 := Lib.hid hs2
      have HC2 := Lib.hid hc2
      clear hA2 hs2 hc2 j0 j4 r1 HW2 HB2
      go_wp2_with fail
      go_ret
      exact ⟨D2, by rw [HPE2.out]; rfl, by rw [HPS2.out]; exact HA2.out, fun k hk => HZ.out k D2 (HS2.out k) hk, HZ2.out _ HC2.out⟩
  · have HPE2 := Lib.hid (show PE = writeE S (m : Int) x by rw [HPE.out, if_pos (by simpa using hE)])
    have HPS2 := Lib.hid (show PS = writeS S (m : Int) x by rw [HPS.out, if_pos (by simpa using hE)])
    clear HPE HPS HB1
    generalize writeE S (m : Int) x = E1 at *
    go_enter Try.func24, Try.ntmps24
    go_wp2_with fail
    refine wp_loop_rounds 3 ?_
    rw [rounds_succ]
    go_wp2_with fail
    go_still_tail 12, (by kernel_rfl)
    still_call (HB0.out)
    repeat still_step
    refine wpStill_nil ?_
    change wpList _ _ _ _ _ w.drew
    go_wp2_with fail
    refine HW.out.mono ?_
    rintro e w1 ⟨D1, rfl, hA1, hs1, hc0⟩
    have hc1 := (Chg.refl D w).drew.trans hc0
    clear hc0
    have HA1 := Lib.hid hA1
    have HS1 := Lib.hid hs1
    have HC1 := Lib.hid hc1
    clear hA1 hs1 hc1 k0 k4 q0 HW HB0
    go_wp2_with fail
    go_ret
    exact ⟨D1, by rw [HPE2.out]; rfl, by rw [HPS2.out]; exact HA1.out, HS1.out, HC1.out⟩
/-! Clean. -/
theorem jparts {w : World} {jb db : Nat} {S : DS} {J : JS} {F : Nat → Prop} (h : JP theRel theJrn w jb db S J F) : ∃ D, theRel.At w db S D ∧ Blk w jb (jrnV db J) 45 ∧ ¬ D jb ∧ ∀ k, F k ↔ (D k ∨ k = jb) := by
  obtain ⟨D, G, h1, ⟨h2, rfl⟩, h3, h4⟩ := h.ex
  exact ⟨D, h1, h2, fun hd => h3 jb hd rfl, h4⟩
/-- Behind a call that changed the disk alone. -/
theorem JP.put {w w' : World} {jb db : Nat} {S S' : DS} {J : JS} {F D D' : Nat → Prop} (h : JP theRel theJrn w jb db S J F) (hb : Blk w jb (jrnV db J) 45) (hF : ∀ k, F k ↔ (D k ∨ k = jb)) (hd : ¬ D jb)
    (hok : DSOk S') (hl : S'.len = S.len) (hA : theRel.At w' db S' D') (hs : ∀ k, D' k → D k ∨ w.heap.size ≤ k) (hc : Chg D w w') :
    ∃ F', JP theRel theJrn w' jb db S' J F' ∧ (∀ k, F' k → F k ∨ w.heap.size ≤ k) ∧ Chg F w w' := by
  refine ⟨fun k => D' k ∨ k = jb, ⟨hok, ⟨h.jok.n, h.jok.room, by rw [hl]; exact h.jok.fits, h.jok.gen⟩, D', _, hA, ⟨hc.kept hb hd, rfl⟩, ?_, fun _ => Iff.rfl⟩, ?_, hc.mono fun k _ hk => (hF k).2 (.inl hk)⟩
  · rintro k hk rfl
    rcases hs k hk with h1 | h1
    · exact hd h1
    · have := hb.lt; omega
  · rintro k (hk | hk)
    · rcases hs k hk with h1 | h1
      · exact .inl ((hF k).2 (.inl h1))
      · exact .inr h1
    · exact .inl ((hF k).2 (.inr hk))
theorem put2_len {S : DS} (h : DSOk S) (J : JS) (x y : List UInt8) : (put2S S J x y).len = S.len := by
  unfold put2S
  split
  · exact writeS_len2 h _ _
  · rw [writeS_len2 (h.write _ _), writeS_len2 h]
theorem put2_ok {S : DS} (h : DSOk S) (J : JS) (x y : List UInt8) : DSOk (put2S S J x y) := by
  unfold put2S
  split
  · exact h.write _ _
  · exact (h.write _ _).write _ _
set_option maxRecDepth 100000 in
set_option maxHeartbeats 3200000 in
theorem jClean_any : JCleanC theRel theJrn := by
  intro w jb db S J F h hwr
  obtain ⟨D, hA, hb, hd, hF⟩ := jparts h
  obtain ⟨k0, k1, k2, k3, k4⟩ := jrn_cells hb
  have HM := Lib.hid (jMade_any k0)
  have HFu := Lib.hid (jFull_any k4 k2)
  have HP := Lib.hid h
  have HA := Lib.hid hA
  have HB := Lib.hid hb
  have HD := Lib.hid hd
  have HFF := Lib.hid hF
  have HWr := Lib.hid hwr
  clear k0 k1 k2 k3 k4 h hA hb hd hF hwr
  unfold ptrV at *
  by_cases hn : J.n = J.room
  · have HE := Lib.hid (show cleanE S J = 0 ∧ cleanD S J = S from ⟨if_pos hn, if_pos hn⟩)
    rw [decide_eq_true hn] at HFu
    clear hn
    go_enter Try.func15, Try.ntmps15
    go_wp2_with fail
    with_reducible refine HM.out.mono ?_
    rintro e w1 ⟨rfl, rfl⟩
    go_wp2_with fail
    with_reducible refine HFu.out.mono ?_
    rintro e w1 ⟨rfl, hB⟩
    have HBl := Lib.hid hB
    clear hB HFu HM
    go_wp2_with fail
    go_ret
    exact ⟨F, by rw [HE.out.1]; rfl, by rw [HE.out.2]; exact HP.out.kept (Chg.ofBelow (S := fun _ => False) HBl.out) (fun _ _ h => h), fun k hk => .inl hk, Chg.ofBelow HBl.out⟩
  · have HE := Lib.hid (show cleanE S J = put2E S J (zeros 128) (zeros 128) ∧ cleanD S J = put2S S J (zeros 128) (zeros 128) from ⟨if_neg hn, if_neg hn⟩)
    have hlt : J.n < J.room := by have := HP.out.jok.n; omega
    have HLt := Lib.hid hlt
    rw [decide_eq_false hn] at HFu
    clear hn hlt
    go_enter Try.func15, Try.ntmps15
    go_wp2_with fail
    with_reducible refine HM.out.mono ?_
    rintro e w1 ⟨rfl, rfl⟩
    go_wp2_with fail
    with_reducible refine HFu.out.mono ?_
    rintro e w1 ⟨rfl, hB⟩
    have HB1 := Lib.hid hB
    clear hB HFu HM
    have tok1 : True := trivial
    go_upto_region 6 with (at_make; have _t := tok1; refine wpList_make_zeros rfl _ _ 34 rfl w1.heap.size 5 Try.underlying34 infoU8 128 rfl rfl rfl rfl (by decide) (Nat.le_refl _) ?_; intro w2 hown hg; have HO2 := Lib.hid hown; have HG2 := Lib.hid hg; clear hown hg tok1)
    have HK2 := Lib.hid (blk_of_made HO2.out)
    have HB2 := Lib.hid (HB1.out.trans (((Below.refl w1.heap.size w1).grown HG2.out (Nat.le_refl _) (fun k hk => by cases hk)).mono HB1.out.size))
    have HS2 := Lib.hid (HK2.out.1.bs (off := 0) (n := 128) (cap := 128) (by simp [zerosB]) (Nat.le_refl _) (by decide))
    clear HO2 HG2
    have hsz : w.heap.size ≤ w1.heap.size := HB1.out.size
    generalize w1.heap.size = z at *
    have HB3 := Lib.hid (HB2.out.trans ((belowNew w2 (.cells #[.slice (some ⟨z, 0, none⟩) 128 128, .slice (some ⟨z, 0, none⟩) 128 128] 34)).mono HB2.out.size))
    have hzl : ∀ k, D k → k < w.heap.size := (theRel.lt HA.out).2
    have hw := jWrite_any (J := J) (x := zeros 128) (y := zeros 128) (HB.out.below HB3.out HB.out.lt) (DiskRel.below HA.out HB3.out) HP.out.ok HP.out.jok HLt.out HD.out HWr.out (Blk.new w2 #[.slice (some ⟨z, 0, none⟩) 128 128, .slice (some ⟨z, 0, none⟩) 128 128] 34) (fun hd => by have := hzl _ hd; have := HB2.out.size; omega)
      (HS2.out.below (belowNew w2 _) (Nat.le_refl _)) (HS2.out.below (belowNew w2 _) (Nat.le_refl _)) (fun a ha hd => by cases ha; have := hzl _ hd; simp only at this; omega) (fun a ha hd => by cases ha; have := hzl _ hd; simp only at this; omega)
    have HW := Lib.hid hw
    clear hw hsz hzl
    unfold ptrV at *
    go_wp2_with fail
    refine HW.out.mono ?_
    rintro e w4 ⟨D', rfl, hA4, hs4, hc4⟩
    have HA4 := Lib.hid hA4
    have HS4 := Lib.hid hs4
    have HC4 := Lib.hid hc4
    clear hA4 hs4 hc4 HW
    go_wp2_with fail
    go_ret
    obtain ⟨F', hp, hs, hc⟩ := JP.put HP.out HB.out HFF.out HD.out (put2_ok HP.out.ok J (zeros 128) (zeros 128)) (put2_len HP.out.ok J _ _) HA4.out (fun k hk => by
      rcases HS4.out k hk with h | h
      · exact .inl h
      · exact .inr (Nat.le_trans HB3.out.size h)) ((Chg.ofBelow HB3.out).trans HC4.out)
    exact ⟨F', by rw [HE.out.1]; rfl, by rw [HE.out.2]; exact hp, hs, hc⟩
/-! Open. -/
theorem rowsIn_nil (P : Nat → Prop) (w : World) : RowsIn P w (.slice none 0 0) [] := ⟨none, 0, rfl, Nat.le_refl _, by decide, fun h => absurd rfl h⟩
set_option maxRecDepth 100000 in
set_option maxHeartbeats 3200000 in
theorem jOpen_any : JOpenC theRel theJrn := by
  intro w jb db S J F gen h
  obtain ⟨D, hA, hb, hd, hF⟩ := jparts h
  have hb' := hb
  obtain ⟨k0, k1, k2, k3, k4⟩ := jrn_cells hb
  have HM := Lib.hid (jMade_any k0)
  have HOn := Lib.hid (dOn_any hA)
  have HP := Lib.hid h
  have HA := Lib.hid hA
  have HB := Lib.hid hb
  have HD := Lib.hid hd
  have HFF := Lib.hid hF
  have FIN := Lib.hid (show ∀ (z : Int) (V : World), Below w.heap.size w V → openE S gen = z → z ≠ 0 → ∃ v F', Ending.returned (.tuple #[.slice none 0 0, .int .i64 z]) = .returned (.tuple #[v, .int .i64 (openE S gen)]) ∧ JP theRel theJrn V jb db S (openJ S J gen) F' ∧ RowsIn (fun k => ¬ F' k ∧ k < V.heap.size) V v (openR S J gen) ∧ (∀ k, F' k → F k ∨ w.heap.size ≤ k) ∧ Chg F w V from fun z V hV e hz => by
    have e1 : openJ S J gen = J := by unfold openJ; rw [if_neg (by rw [e]; exact hz)]
    have e2 : openR S J gen = [] := by unfold openR; rw [if_neg (by rw [e]; exact hz)]
    exact ⟨_, F, by rw [e], by rw [e1]; exact h.kept (Chg.ofBelow (S := fun _ => False) hV) (fun _ _ h => h), by rw [e2]; exact rowsIn_nil _ _, fun k hk => .inl hk, Chg.ofBelow hV⟩)
  clear k1 k2 k3 k4 h hA hb hd hF
  unfold ptrV at *
  by_cases hg1 : gen < 0
  · have HZ := Lib.hid (FIN.out 8 w (Below.refl _ _) (if_pos (.inl hg1)) (by decide))
    clear FIN k0 hb'
    go_enter Try.func13, Try.ntmps13
    go_wp2_with fail
    with_reducible refine HM.out.mono ?_
    rintro e w1 ⟨rfl, rfl⟩
    go_wp2_with fail
    refine bodyPost_ret (results_tmp2 rfl _ _ _) rfl ?_
    exact HZ.out
  by_cases hg2 : 2147483647 < gen
  · have HZ := Lib.hid (FIN.out 8 w (Below.refl _ _) (if_pos (.inr hg2)) (by decide))
    clear FIN k0 hb'
    go_enter Try.func13, Try.ntmps13
    go_wp2_with fail
    with_reducible refine HM.out.mono ?_
    rintro e w1 ⟨rfl, rfl⟩
    go_wp2_with fail
    refine bodyPost_ret (results_tmp2 rfl _ _ _) rfl ?_
    exact HZ.out
  have HR := Lib.hid (And.intro hg1 hg2)
  rcases Bool.eq_false_or_eq_true S.off with ho | ho
  · have HZ := Lib.hid (fun V hV => FIN.out 19 V hV (by unfold openE; rw [if_neg (by have := HR.out; omega), if_pos ho]) (by decide))
    rw [ho] at HOn
    clear FIN hb' ho
    go_enter Try.func13, Try.ntmps13
    go_wp2_with fail
    with_reducible refine HM.out.mono ?_
    rintro e w1 ⟨rfl, rfl⟩
    go_wp2_with fail
    with_reducible refine HOn.out.mono ?_
    rintro e w1 ⟨rfl, hB1⟩
    have HB1 := Lib.hid hB1
    clear hB1
    go_wp2_with fail
    refine bodyPost_ret (results_tmp2 rfl _ _ _) rfl ?_
    exact HZ.out _ HB1.out
  · have HE := Lib.hid (show openE S gen = 0 by unfold openE; rw [if_neg (by have := HR.out; omega), if_neg (by rw [ho]; simp)])
    rw [ho] at HOn
    have HOf := Lib.hid ho
    obtain ⟨g, rfl⟩ := Int.eq_ofNat_of_zero_le (show 0 ≤ gen by omega)
    have HJ := Lib.hid (show openJ S J (g : Int) = ⟨J.at_, J.room, g, (stepsL S J.at_ g J.room).length⟩ ∧ openR S J (g : Int) = stepsL S J.at_ g J.room from ⟨by unfold openJ; rw [if_pos HE.out]; rfl, by unfold openR; rw [if_pos HE.out]; rfl⟩)
    have HG := Lib.hid (show g ≤ 2147483647 by omega)
    clear FIN ho
    go_enter Try.func13, Try.ntmps13
    go_wp2_with fail
    with_reducible refine HM.out.mono ?_
    rintro e w1 ⟨rfl, rfl⟩
    go_wp2_with fail
    with_reducible refine HOn.out.mono ?_
    rintro e w1 ⟨rfl, hB1⟩
    have HB1 := Lib.hid hB1
    have hb1 := HB.out.below hB1 HB.out.lt
    have HA1 := Lib.hid (DiskRel.below HA.out hB1)
    have f3 := hb1.free 3
    have c3 : w1.cell? ⟨jb, 3, none⟩ = some (.int .i64 (J.gen : Int)) := hb1.cell 3
    have hp := (Put.refl hb1).set 3 (.int .i64 (g : Int))
    have HP1 := Lib.hid (show Put w1 (w1.setCell ⟨jb, 3, none⟩ (.int .i64 (g : Int))) jb (jrnV db { J with gen := g }) 45 from hp)
    clear hB1 hb1 hp k0 hb'
    go_upto_region 8 with fail
    have HS1 := Lib.hid (show (w1.setCell ⟨jb, 3, none⟩ (.int .i64 (g : Int))).heap.size = w1.heap.size by simp [World.setCell])
    generalize w1.setCell ⟨jb, 3, none⟩ (.int .i64 (g : Int)) = w2 at *
    have hA2 := theRel.kept HA1.out HP1.out.chg (fun k hk e => HD.out (e ▸ hk))
    have HA2 := Lib.hid hA2
    have HC := Lib.hid (jCommitted_any (J := { J with gen := g }) HP1.out.blk hA2 HP.out.ok ⟨HP.out.jok.n, HP.out.jok.room, HP.out.jok.fits, HG.out⟩ HOf.out)
    clear hA2 f3 c3
    unfold ptrV at *
    go_wp2_with fail
    refine HC.out.mono ?_
    rintro e w3 ⟨v, rfl, hst, hB3⟩
    obtain ⟨p, c, rfl⟩ := hst.len
    have HB3 := Lib.hid hB3
    have HSt := Lib.hid hst
    have hb3 := HP1.out.blk.below hB3 HP1.out.blk.lt
    have f4 := hb3.free 4
    have c4 : w3.cell? ⟨jb, 4, none⟩ = some (.int .i64 (J.n : Int)) := hb3.cell 4
    have HL := Lib.hid (stepsL_spec S J.at_ g J.room).1
    have hp := (Put.refl hb3).set 4 (.int .i64 ((stepsL S J.at_ g J.room).length : Int))
    have HP3 := Lib.hid (show Put w3 (w3.setCell ⟨jb, 4, none⟩ (.int .i64 ((stepsL S J.at_ g J.room).length : Int))) jb (jrnV db ⟨J.at_, J.room, g, (stepsL S J.at_ g J.room).length⟩) 45 from hp)
    clear hB3 hst hb3 hp HC HM HOn
    simp only at HSt ⊢
    generalize stepsL S J.at_ g J.room = L at *
    generalize L.length = ln at *
    go_wp2_with fail
    refine bodyPost_ret (results_tmp2 rfl _ _ _) rfl ?_
    clear c4 f4
    generalize w3.setCell ⟨jb, 4, none⟩ (.int .i64 (ln : Int)) = w4 at *
    have hFj : F jb := (HFF.out jb).2 (.inr rfl)
    have hFl : ∀ k, F k → k < w2.heap.size := fun k hk => by
      rcases (HFF.out k).1 hk with h | rfl
      · exact (theRel.lt HA2.out).2 k h
      · exact HP1.out.blk.lt
    refine ⟨.slice p ln c, F, by rw [HE.out]; rfl, ?_, ?_, fun k hk => .inl hk, ?_⟩
    · rw [HJ.out.1]
      exact ⟨HP.out.ok, ⟨HL.out, HP.out.jok.room, HP.out.jok.fits, HG.out⟩, D, _, theRel.kept (DiskRel.below HA2.out HB3.out) HP3.out.chg (fun k hk e => HD.out (e ▸ hk)), ⟨HP3.out.blk, rfl⟩, fun k hk e => HD.out (e ▸ hk), HFF.out⟩
    · rw [HJ.out.2]
      refine ((HSt.out.rows (P := fun k => ¬ F k ∧ k < w3.heap.size) (fun k h1 h2 => ⟨fun hf => by have := hFl k hf; omega, h2⟩)).kept HP3.out.chg (fun k hk e => hk.1 (e ▸ hFj))).mono fun k hk => ⟨hk.1, Nat.lt_of_lt_of_le hk.2 HP3.out.chg.size⟩
    · exact (((Chg.ofBelow HB1.out).trans (HP1.out.chg.mono fun k _ e => e ▸ hFj)).trans (Chg.ofBelow HB3.out)).trans (HP3.out.chg.mono fun k _ e => e ▸ hFj)
/-! Add. -/
theorem frWE_ok {g n : Nat} {b : List UInt8} (hg : g ≤ 2147483647) (hn : n ≤ 65535) : frWE (g : Int) (n : Int) b = if 112 < b.length then 5 else 0 := by
  unfold frWE; rw [if_neg (by omega)]
theorem frWL_ok {kd : UInt8} {g n : Nat} {b : List UInt8} (hg : g ≤ 2147483647) (hn : n ≤ 65535) (hb : ¬ 112 < b.length) : frWL kd (g : Int) (n : Int) b = frL kd g n b := by
  unfold frWL; rw [if_pos (by rw [frWE_ok hg hn, if_neg hb])]; rfl
theorem frWL_no {kd : UInt8} {g n : Nat} {b : List UInt8} (hg : g ≤ 2147483647) (hn : n ≤ 65535) (hb : 112 < b.length) : frWL kd (g : Int) (n : Int) b = [] := by
  unfold frWL; rw [if_neg (by rw [frWE_ok hg hn, if_pos hb]; decide)]
set_option maxRecDepth 100000 in
set_option maxHeartbeats 3200000 in
theorem jAdd_any : JAddC theRel theJrn := by
  intro w jb db S J F p len cap b h hwr hbs hbl
  obtain ⟨D, hA, hb, hd, hF⟩ := jparts h
  obtain ⟨k0, k1, k2, k3, k4⟩ := jrn_cells hb
  have HM := Lib.hid (jMade_any k0)
  have HFu := Lib.hid (jFull_any k4 k2)
  have HP := Lib.hid h
  have HA := Lib.hid hA
  have HB := Lib.hid hb
  have HD := Lib.hid hd
  have HFF := Lib.hid hF
  have HWr := Lib.hid hwr
  have HBs := Lib.hid hbs
  have HBl := Lib.hid hbl
  have hlen := hbs.same
  have HJ := Lib.hid (show J.gen ≤ 2147483647 ∧ J.n ≤ 65535 from ⟨h.jok.gen, by have := h.jok.n; have := h.jok.room; omega⟩)
  have HCl := Lib.hid (fun (W V : World) (hW : Below w.heap.size w W) (hV : Below W.heap.size W V) => (show V.cell? ⟨jb, 3, none⟩ = some (.int .i64 (J.gen : Int)) ∧ V.cell? ⟨jb, 4, none⟩ = some (.int .i64 (J.n : Int)) from by
    have h1 := (hb.below hW hb.lt).below hV (Nat.lt_of_lt_of_le hb.lt hW.size)
    exact ⟨h1.cell 3, h1.cell 4⟩))
  clear k0 k1 k2 k3 k4 h hA hb hd hF hwr hbs hbl hlen
  unfold ptrV at *
  by_cases hn : J.n = J.room
  · have HE := Lib.hid (show addE S J b = 12 ∧ addD S J b = S ∧ addJ S J b = J from by
      have e : addE S J b = 12 := if_pos hn
      exact ⟨e, if_pos (.inl hn), by unfold addJ; rw [e]; rfl⟩)
    rw [decide_eq_true hn] at HFu
    clear hn HCl
    go_enter Try.func10, Try.ntmps10
    go_wp2_with fail
    with_reducible refine HM.out.mono ?_
    rintro e w1 ⟨rfl, rfl⟩
    go_wp2_with fail
    with_reducible refine HFu.out.mono ?_
    rintro e w1 ⟨rfl, hB⟩
    have HBl := Lib.hid hB
    clear hB HFu HM
    go_wp2_with fail
    go_ret
    exact ⟨F, by rw [HE.out.1]; rfl, by rw [HE.out.2.1, HE.out.2.2]; exact HP.out.kept (Chg.ofBelow (S := fun _ => False) HBl.out) (fun _ _ h => h), fun k hk => .inl hk, Chg.ofBelow HBl.out⟩
  · have hlt : J.n < J.room := by have := HP.out.jok.n; omega
    have HLt := Lib.hid (And.intro hlt hn)
    rw [decide_eq_false hn] at HFu
    clear hn hlt
    by_cases h112 : 112 < b.length
    · have HE := Lib.hid (show addE S J b = 5 ∧ addD S J b = S ∧ addJ S J b = J from by
        have e : addE S J b = 5 := by unfold addE; rw [if_neg HLt.out.2, if_pos h112]
        exact ⟨e, if_pos (.inr h112), by unfold addJ; rw [e]; rfl⟩)
      have HW := Lib.hid (fun V (hV : Below w.heap.size w V) => frWrite_any 82 (J.gen : Int) (J.n : Int) p len cap b V (HBs.out.below hV (Nat.le_refl _)) HBl.out)
      rw [frWL_no HJ.out.1 HJ.out.2 h112, frWE_ok HJ.out.1 HJ.out.2, if_pos h112] at HW
      clear h112
      go_enter Try.func10, Try.ntmps10
      go_wp2_with fail
      with_reducible refine HM.out.mono ?_
      rintro e w1 ⟨rfl, rfl⟩
      go_wp2_with fail
      with_reducible refine HFu.out.mono ?_
      rintro e w1 ⟨rfl, hB⟩
      have HB1 := Lib.hid hB
      clear hB HFu HM
      go_upto_region 5 with fail
      refine wp_region_F (fun V => Below w1.heap.size w1 V) [Fact.is (.pointer (some ⟨jb, 0, none⟩)), Fact.is (.pointer (some ⟨jb, 0, none⟩)), Fact.is (.pointer (some ⟨jb, 3, none⟩)), Fact.is (.int .i64 (J.gen : Int)), Fact.is (.pointer (some ⟨jb, 0, none⟩)), Fact.is (.pointer (some ⟨jb, 0, none⟩)), Fact.is (.pointer (some ⟨jb, 4, none⟩)), Fact.is (.int .i64 (J.n : Int)), Fact.is (.slice p len cap), bsPair w1 [] 5, bsPair w1 [] 5, bsFact w1 [], Fact.is (.int .i64 5), bsFact w1 [], Fact.is (.int .i64 5)]
        (fun x => { tmps := #[.pointer (some ⟨jb, 0, none⟩), .slice p len cap, undef, undef, .int .i64 0, x 13, x 14, undef, undef, .pointer (some ⟨jb, 0, none⟩), .bool true, .bool false, .pointer (some ⟨jb, 0, none⟩), .bool false, x 10, x 0, x 1, x 2, x 3, x 4, x 5, x 6, x 7, x 8, x 9, x 11, x 12, undef, undef, undef, undef, undef, undef, undef, undef, undef, undef, undef, undef, undef, undef, undef, undef, undef, undef, undef, undef, undef, undef, undef, undef, undef, undef, undef, undef, undef, undef, undef, undef, undef], defers := [] }) (fun i => ([undef, undef, undef, undef, undef, undef, undef, undef, undef, undef, undef, undef, undef, undef, undef] : List Value).getD i undef) (by kernel_rfl) rfl rfl (by kernel_rfl) ((Below.refl _ _).drew) (fun u v hu hB => hu.trans (hB.mono hu.size)) ?_ ?_
      · refine ⟨⟨fun x v => rfl, fun x V hC hD => ?_⟩, ?_⟩
        · clear hD
          refine want_yes rfl ?_
          exact leads_value (v := .pointer (some ⟨jb, 0, none⟩)) (by go_simp) ⟨Below.refl _ _, rfl⟩
        refine ⟨⟨fun x v => rfl, fun x V hC hD => ?_⟩, ?_⟩
        · have e0 : (x 0) = .pointer (some ⟨jb, 0, none⟩) := hD.1 rfl
          clear hD
          refine want_yes rfl ?_
          exact leads_value (v := .pointer (some ⟨jb, 0, none⟩)) (by go_simp) ⟨Below.refl _ _, rfl⟩
        refine ⟨⟨fun x v => rfl, fun x V hC hD => ?_⟩, ?_⟩
        · have e1 : (x 1) = .pointer (some ⟨jb, 0, none⟩) := hD.1 rfl
          clear hD
          refine want_yes rfl ?_
          exact leads_value (v := .pointer (some ⟨jb, 3, none⟩)) (by go_simp) ⟨Below.refl _ _, rfl⟩
        refine ⟨⟨fun x v => rfl, fun x V hC hD => ?_⟩, ?_⟩
        · have e2 : (x 2) = .pointer (some ⟨jb, 3, none⟩) := hD.1 rfl
          clear hD
          refine want_yes rfl ?_
          have k0 := (HCl.out _ V HB1.out hC).1
          exact leads_value (v := .int .i64 (J.gen : Int)) (by go_simp) ⟨Below.refl _ _, rfl⟩
        refine ⟨⟨fun x v => rfl, fun x V hC hD => ?_⟩, ?_⟩
        · clear hD
          refine want_yes rfl ?_
          exact leads_value (v := .pointer (some ⟨jb, 0, none⟩)) (by go_simp) ⟨Below.refl _ _, rfl⟩
        refine ⟨⟨fun x v => rfl, fun x V hC hD => ?_⟩, ?_⟩
        · have e4 : (x 4) = .pointer (some ⟨jb, 0, none⟩) := hD.1 rfl
          clear hD
          refine want_yes rfl ?_
          exact leads_value (v := .pointer (some ⟨jb, 0, none⟩)) (by go_simp) ⟨Below.refl _ _, rfl⟩
        refine ⟨⟨fun x v => rfl, fun x V hC hD => ?_⟩, ?_⟩
        · have e5 : (x 5) = .pointer (some ⟨jb, 0, none⟩) := hD.1 rfl
          clear hD
          refine want_yes rfl ?_
          exact leads_value (v := .pointer (some ⟨jb, 4, none⟩)) (by go_simp) ⟨Below.refl _ _, rfl⟩
        refine ⟨⟨fun x v => rfl, fun x V hC hD => ?_⟩, ?_⟩
        · have e6 : (x 6) = .pointer (some ⟨jb, 4, none⟩) := hD.1 rfl
          clear hD
          refine want_yes rfl ?_
          have k0 := (HCl.out _ V HB1.out hC).2
          exact leads_value (v := .int .i64 (J.n : Int)) (by go_simp) ⟨Below.refl _ _, rfl⟩
        refine ⟨⟨fun x v => rfl, fun x V hC hD => ?_⟩, ?_⟩
        · clear hD
          refine want_yes rfl ?_
          exact leads_value (v := .slice p len cap) (by go_simp) ⟨Below.refl _ _, rfl⟩
        refine ⟨⟨fun x v => rfl, fun x V hC hD => ?_⟩, ?_⟩
        · have e3 : (x 3) = .int .i64 (J.gen : Int) := hD.1 rfl
          have e7 : (x 7) = .int .i64 (J.n : Int) := hD.2.1 rfl
          have e8 : (x 8) = .slice p len cap := hD.2.2.1 rfl
          clear hD
          refine want_yes rfl ?_
          exact leads_enter2 (by go_simp) ((HW.out V (HB1.out.trans (hC.mono HB1.out.size))).mono fun en w'' ⟨q, c', he, hr, hB⟩ => ⟨_, he, hB, _, rfl, new_of_fresh hr hC.size⟩)
        refine ⟨⟨fun x v => rfl, fun x V hC hD => ?_⟩, ?_⟩
        · have e9 : ∃ u, (x 9) = .tuple #[u, .int .i64 5] ∧ BsNew w1 [] u V := hD.1 rfl
          clear hD
          refine want_yes rfl ?_
          obtain ⟨u, hu, hn⟩ := e9
          exact leads_value (v := .tuple #[u, .int .i64 5]) (by go_simp) ⟨Below.refl _ _, u, rfl, hn⟩
        refine ⟨⟨fun x v => rfl, fun x V hC hD => ?_⟩, ?_⟩
        · have e10 : ∃ u, (x 10) = .tuple #[u, .int .i64 5] ∧ BsNew w1 [] u V := hD.1 rfl
          clear hD
          refine want_yes rfl ?_
          obtain ⟨u, hu, hn⟩ := e10
          exact leads_value (v := u) (by go_simp) ⟨Below.refl _ _, hn⟩
        refine ⟨⟨fun x v => rfl, fun x V hC hD => ?_⟩, ?_⟩
        · have e10 : ∃ u, (x 10) = .tuple #[u, .int .i64 5] ∧ BsNew w1 [] u V := hD.1 rfl
          clear hD
          refine want_yes rfl ?_
          obtain ⟨u, hu, hn⟩ := e10
          exact leads_value (v := .int .i64 5) (by go_simp) ⟨Below.refl _ _, rfl⟩
        refine ⟨⟨fun x v => rfl, fun x V hC hD => ?_⟩, ?_⟩
        · have e11 : BsNew w1 [] (x 11) V := hD.1 rfl
          have e9 : ∃ u, (x 9) = .tuple #[u, .int .i64 5] ∧ BsNew w1 [] u V := hD.2.1 rfl
          have e0 : (x 0) = .pointer (some ⟨jb, 0, none⟩) := hD.2.2.1 rfl
          have e1 : (x 1) = .pointer (some ⟨jb, 0, none⟩) := hD.2.2.2.1 rfl
          have e2 : (x 2) = .pointer (some ⟨jb, 3, none⟩) := hD.2.2.2.2.1 rfl
          have e3 : (x 3) = .int .i64 (J.gen : Int) := hD.2.2.2.2.2.1 rfl
          have e4 : (x 4) = .pointer (some ⟨jb, 0, none⟩) := hD.2.2.2.2.2.2.1 rfl
          have e5 : (x 5) = .pointer (some ⟨jb, 0, none⟩) := hD.2.2.2.2.2.2.2.1 rfl
          have e6 : (x 6) = .pointer (some ⟨jb, 4, none⟩) := hD.2.2.2.2.2.2.2.2.1 rfl
          have e7 : (x 7) = .int .i64 (J.n : Int) := hD.2.2.2.2.2.2.2.2.2.1 rfl
          have e8 : (x 8) = .slice p len cap := hD.2.2.2.2.2.2.2.2.2.2.1 rfl
          have e10 : ∃ u, (x 10) = .tuple #[u, .int .i64 5] ∧ BsNew w1 [] u V := hD.2.2.2.2.2.2.2.2.2.2.2.2.1 rfl
          clear hD
          refine want_yes rfl ?_
          obtain ⟨y, hy⟩ : ∃ y, x 11 = y := ⟨_, rfl⟩
          rw [hy] at e11
          exact leads_value (v := y) (by go_simp) ⟨Below.refl _ _, e11⟩
        refine ⟨⟨fun x v => rfl, fun x V hC hD => ?_⟩, ?_⟩
        · have e12 : (x 12) = .int .i64 5 := hD.1 rfl
          have e13 : BsNew w1 [] (x 13) V := hD.2.1 rfl
          have e0 : (x 0) = .pointer (some ⟨jb, 0, none⟩) := hD.2.2.1 rfl
          have e1 : (x 1) = .pointer (some ⟨jb, 0, none⟩) := hD.2.2.2.1 rfl
          have e2 : (x 2) = .pointer (some ⟨jb, 3, none⟩) := hD.2.2.2.2.1 rfl
          have e3 : (x 3) = .int .i64 (J.gen : Int) := hD.2.2.2.2.2.1 rfl
          have e4 : (x 4) = .pointer (some ⟨jb, 0, none⟩) := hD.2.2.2.2.2.2.1 rfl
          have e5 : (x 5) = .pointer (some ⟨jb, 0, none⟩) := hD.2.2.2.2.2.2.2.1 rfl
          have e6 : (x 6) = .pointer (some ⟨jb, 4, none⟩) := hD.2.2.2.2.2.2.2.2.1 rfl
          have e7 : (x 7) = .int .i64 (J.n : Int) := hD.2.2.2.2.2.2.2.2.2.1 rfl
          have e8 : (x 8) = .slice p len cap := hD.2.2.2.2.2.2.2.2.2.2.1 rfl
          have e9 : ∃ u, (x 9) = .tuple #[u, .int .i64 5] ∧ BsNew w1 [] u V := hD.2.2.2.2.2.2.2.2.2.2.2.1 rfl
          have e10 : ∃ u, (x 10) = .tuple #[u, .int .i64 5] ∧ BsNew w1 [] u V := hD.2.2.2.2.2.2.2.2.2.2.2.2.1 rfl
          have e11 : BsNew w1 [] (x 11) V := hD.2.2.2.2.2.2.2.2.2.2.2.2.2.1 rfl
          clear hD
          refine want_yes rfl ?_
          exact leads_value (v := .int .i64 5) (by go_simp) ⟨Below.refl _ _, rfl⟩
        trivial
      intro x1 V hC hF
      have e14 : x1 14 = .int .i64 5 := hF 14 (by simp)
      have HV := Lib.hid (show Below w1.heap.size w1 V from hC)
      clear hF hC
      rw [e14]
      clear e14
      go_wp2_with fail
      go_ret
      have hB2 := HB1.out.trans (HV.out.mono HB1.out.size)
      exact ⟨F, by rw [HE.out.1]; rfl, by rw [HE.out.2.1, HE.out.2.2]; exact HP.out.kept (Chg.ofBelow (S := fun _ => False) hB2) (fun _ _ h => h), fun k hk => .inl hk, Chg.ofBelow hB2⟩
    · have HL1 := Lib.hid (And.intro (frL_length (kd := 82) (gen := J.gen) (seq := J.n) (b := b) (by omega)) (frL_length (kd := 67) (gen := J.gen) (seq := J.n) (b := []) (by simp)))
      have HW := Lib.hid (fun V (hV : Below w.heap.size w V) => frWrite_any 82 (J.gen : Int) (J.n : Int) p len cap b V (HBs.out.below hV (Nat.le_refl _)) HBl.out)
      rw [frWL_ok HJ.out.1 HJ.out.2 h112, frWE_ok HJ.out.1 HJ.out.2, if_neg h112, HL1.out.1] at HW
      have HW2 := Lib.hid (fun V => frWrite_any 67 (J.gen : Int) (J.n : Int) none 0 0 [] V (bsAt_nil V) (by simp))
      rw [frWL_ok HJ.out.1 HJ.out.2 (by simp), frWE_ok HJ.out.1 HJ.out.2, if_neg (by simp), HL1.out.2] at HW2
      have HE := Lib.hid (show addE S J b = put2E S J (frL 82 J.gen J.n b) (frL 67 J.gen J.n []) ∧ addD S J b = put2S S J (frL 82 J.gen J.n b) (frL 67 J.gen J.n []) from ⟨by unfold addE; rw [if_neg HLt.out.2, if_neg h112], by unfold addD; rw [if_neg (by have := HLt.out.2; omega)]⟩)
      clear h112
      generalize frL 82 J.gen J.n b = L1 at *
      generalize frL 67 J.gen J.n [] = L2 at *
      go_enter Try.func10, Try.ntmps10
      go_wp2_with fail
      with_reducible refine HM.out.mono ?_
      rintro e w1 ⟨rfl, rfl⟩
      go_wp2_with fail
      with_reducible refine HFu.out.mono ?_
      rintro e w1 ⟨rfl, hB⟩
      have HB1 := Lib.hid hB
      clear hB HFu HM
      go_upto_region 5 with fail
      refine wp_region_F (fun V => Below w1.heap.size w1 V) [Fact.is (.pointer (some ⟨jb, 0, none⟩)), Fact.is (.pointer (some ⟨jb, 0, none⟩)), Fact.is (.pointer (some ⟨jb, 3, none⟩)), Fact.is (.int .i64 (J.gen : Int)), Fact.is (.pointer (some ⟨jb, 0, none⟩)), Fact.is (.pointer (some ⟨jb, 0, none⟩)), Fact.is (.pointer (some ⟨jb, 4, none⟩)), Fact.is (.int .i64 (J.n : Int)), Fact.is (.slice p len cap), bsPair w1 L1 0, bsPair w1 L1 0, bsFact w1 L1, Fact.is (.int .i64 0), bsFact w1 L1, Fact.is (.int .i64 0)]
        (fun x => { tmps := #[.pointer (some ⟨jb, 0, none⟩), .slice p len cap, undef, undef, .int .i64 0, x 13, x 14, undef, undef, .pointer (some ⟨jb, 0, none⟩), .bool true, .bool false, .pointer (some ⟨jb, 0, none⟩), .bool false, x 10, x 0, x 1, x 2, x 3, x 4, x 5, x 6, x 7, x 8, x 9, x 11, x 12, undef, undef, undef, undef, undef, undef, undef, undef, undef, undef, undef, undef, undef, undef, undef, undef, undef, undef, undef, undef, undef, undef, undef, undef, undef, undef, undef, undef, undef, undef, undef, undef, undef], defers := [] }) (fun i => ([undef, undef, undef, undef, undef, undef, undef, undef, undef, undef, undef, undef, undef, undef, undef] : List Value).getD i undef) (by kernel_rfl) rfl rfl (by kernel_rfl) ((Below.refl _ _).drew) (fun u v hu hB => hu.trans (hB.mono hu.size)) ?_ ?_
      · refine ⟨⟨fun x v => rfl, fun x V hC hD => ?_⟩, ?_⟩
        · clear hD
          refine want_yes rfl ?_
          exact leads_value (v := .pointer (some ⟨jb, 0, none⟩)) (by go_simp) ⟨Below.refl _ _, rfl⟩
        refine ⟨⟨fun x v => rfl, fun x V hC hD => ?_⟩, ?_⟩
        · have e0 : (x 0) = .pointer (some ⟨jb, 0, none⟩) := hD.1 rfl
          clear hD
          refine want_yes rfl ?_
          exact leads_value (v := .pointer (some ⟨jb, 0, none⟩)) (by go_simp) ⟨Below.refl _ _, rfl⟩
        refine ⟨⟨fun x v => rfl, fun x V hC hD => ?_⟩, ?_⟩
        · have e1 : (x 1) = .pointer (some ⟨jb, 0, none⟩) := hD.1 rfl
          clear hD
          refine want_yes rfl ?_
          exact leads_value (v := .pointer (some ⟨jb, 3, none⟩)) (by go_simp) ⟨Below.refl _ _, rfl⟩
        refine ⟨⟨fun x v => rfl, fun x V hC hD => ?_⟩, ?_⟩
        · have e2 : (x 2) = .pointer (some ⟨jb, 3, none⟩) := hD.1 rfl
          clear hD
          refine want_yes rfl ?_
          have k0 := (HCl.out _ V HB1.out hC).1
          exact leads_value (v := .int .i64 (J.gen : Int)) (by go_simp) ⟨Below.refl _ _, rfl⟩
        refine ⟨⟨fun x v => rfl, fun x V hC hD => ?_⟩, ?_⟩
        · clear hD
          refine want_yes rfl ?_
          exact leads_value (v := .pointer (some ⟨jb, 0, none⟩)) (by go_simp) ⟨Below.refl _ _, rfl⟩
        refine ⟨⟨fun x v => rfl, fun x V hC hD => ?_⟩, ?_⟩
        · have e4 : (x 4) = .pointer (some ⟨jb, 0, none⟩) := hD.1 rfl
          clear hD
          refine want_yes rfl ?_
          exact leads_value (v := .pointer (some ⟨jb, 0, none⟩)) (by go_simp) ⟨Below.refl _ _, rfl⟩
        refine ⟨⟨fun x v => rfl, fun x V hC hD => ?_⟩, ?_⟩
        · have e5 : (x 5) = .pointer (some ⟨jb, 0, none⟩) := hD.1 rfl
          clear hD
          refine want_yes rfl ?_
          exact leads_value (v := .pointer (some ⟨jb, 4, none⟩)) (by go_simp) ⟨Below.refl _ _, rfl⟩
        refine ⟨⟨fun x v => rfl, fun x V hC hD => ?_⟩, ?_⟩
        · have e6 : (x 6) = .pointer (some ⟨jb, 4, none⟩) := hD.1 rfl
          clear hD
          refine want_yes rfl ?_
          have k0 := (HCl.out _ V HB1.out hC).2
          exact leads_value (v := .int .i64 (J.n : Int)) (by go_simp) ⟨Below.refl _ _, rfl⟩
        refine ⟨⟨fun x v => rfl, fun x V hC hD => ?_⟩, ?_⟩
        · clear hD
          refine want_yes rfl ?_
          exact leads_value (v := .slice p len cap) (by go_simp) ⟨Below.refl _ _, rfl⟩
        refine ⟨⟨fun x v => rfl, fun x V hC hD => ?_⟩, ?_⟩
        · have e3 : (x 3) = .int .i64 (J.gen : Int) := hD.1 rfl
          have e7 : (x 7) = .int .i64 (J.n : Int) := hD.2.1 rfl
          have e8 : (x 8) = .slice p len cap := hD.2.2.1 rfl
          clear hD
          refine want_yes rfl ?_
          exact leads_enter2 (by go_simp) ((HW.out V (HB1.out.trans (hC.mono HB1.out.size))).mono fun en w'' ⟨q, c', he, hr, hB⟩ => ⟨_, he, hB, _, rfl, new_of_fresh hr hC.size⟩)
        refine ⟨⟨fun x v => rfl, fun x V hC hD => ?_⟩, ?_⟩
        · have e9 : ∃ u, (x 9) = .tuple #[u, .int .i64 0] ∧ BsNew w1 L1 u V := hD.1 rfl
          clear hD
          refine want_yes rfl ?_
          obtain ⟨u, hu, hn⟩ := e9
          exact leads_value (v := .tuple #[u, .int .i64 0]) (by go_simp) ⟨Below.refl _ _, u, rfl, hn⟩
        refine ⟨⟨fun x v => rfl, fun x V hC hD => ?_⟩, ?_⟩
        · have e10 : ∃ u, (x 10) = .tuple #[u, .int .i64 0] ∧ BsNew w1 L1 u V := hD.1 rfl
          clear hD
          refine want_yes rfl ?_
          obtain ⟨u, hu, hn⟩ := e10
          exact leads_value (v := u) (by go_simp) ⟨Below.refl _ _, hn⟩
        refine ⟨⟨fun x v => rfl, fun x V hC hD => ?_⟩, ?_⟩
        · have e10 : ∃ u, (x 10) = .tuple #[u, .int .i64 0] ∧ BsNew w1 L1 u V := hD.1 rfl
          clear hD
          refine want_yes rfl ?_
          obtain ⟨u, hu, hn⟩ := e10
          exact leads_value (v := .int .i64 0) (by go_simp) ⟨Below.refl _ _, rfl⟩
        refine ⟨⟨fun x v => rfl, fun x V hC hD => ?_⟩, ?_⟩
        · have e11 : BsNew w1 L1 (x 11) V := hD.1 rfl
          have e9 : ∃ u, (x 9) = .tuple #[u, .int .i64 0] ∧ BsNew w1 L1 u V := hD.2.1 rfl
          have e0 : (x 0) = .pointer (some ⟨jb, 0, none⟩) := hD.2.2.1 rfl
          have e1 : (x 1) = .pointer (some ⟨jb, 0, none⟩) := hD.2.2.2.1 rfl
          have e2 : (x 2) = .pointer (some ⟨jb, 3, none⟩) := hD.2.2.2.2.1 rfl
          have e3 : (x 3) = .int .i64 (J.gen : Int) := hD.2.2.2.2.2.1 rfl
          have e4 : (x 4) = .pointer (some ⟨jb, 0, none⟩) := hD.2.2.2.2.2.2.1 rfl
          have e5 : (x 5) = .pointer (some ⟨jb, 0, none⟩) := hD.2.2.2.2.2.2.2.1 rfl
          have e6 : (x 6) = .pointer (some ⟨jb, 4, none⟩) := hD.2.2.2.2.2.2.2.2.1 rfl
          have e7 : (x 7) = .int .i64 (J.n : Int) := hD.2.2.2.2.2.2.2.2.2.1 rfl
          have e8 : (x 8) = .slice p len cap := hD.2.2.2.2.2.2.2.2.2.2.1 rfl
          have e10 : ∃ u, (x 10) = .tuple #[u, .int .i64 0] ∧ BsNew w1 L1 u V := hD.2.2.2.2.2.2.2.2.2.2.2.2.1 rfl
          clear hD
          refine want_yes rfl ?_
          obtain ⟨y, hy⟩ : ∃ y, x 11 = y := ⟨_, rfl⟩
          rw [hy] at e11
          exact leads_value (v := y) (by go_simp) ⟨Below.refl _ _, e11⟩
        refine ⟨⟨fun x v => rfl, fun x V hC hD => ?_⟩, ?_⟩
        · have e12 : (x 12) = .int .i64 0 := hD.1 rfl
          have e13 : BsNew w1 L1 (x 13) V := hD.2.1 rfl
          have e0 : (x 0) = .pointer (some ⟨jb, 0, none⟩) := hD.2.2.1 rfl
          have e1 : (x 1) = .pointer (some ⟨jb, 0, none⟩) := hD.2.2.2.1 rfl
          have e2 : (x 2) = .pointer (some ⟨jb, 3, none⟩) := hD.2.2.2.2.1 rfl
          have e3 : (x 3) = .int .i64 (J.gen : Int) := hD.2.2.2.2.2.1 rfl
          have e4 : (x 4) = .pointer (some ⟨jb, 0, none⟩) := hD.2.2.2.2.2.2.1 rfl
          have e5 : (x 5) = .pointer (some ⟨jb, 0, none⟩) := hD.2.2.2.2.2.2.2.1 rfl
          have e6 : (x 6) = .pointer (some ⟨jb, 4, none⟩) := hD.2.2.2.2.2.2.2.2.1 rfl
          have e7 : (x 7) = .int .i64 (J.n : Int) := hD.2.2.2.2.2.2.2.2.2.1 rfl
          have e8 : (x 8) = .slice p len cap := hD.2.2.2.2.2.2.2.2.2.2.1 rfl
          have e9 : ∃ u, (x 9) = .tuple #[u, .int .i64 0] ∧ BsNew w1 L1 u V := hD.2.2.2.2.2.2.2.2.2.2.2.1 rfl
          have e10 : ∃ u, (x 10) = .tuple #[u, .int .i64 0] ∧ BsNew w1 L1 u V := hD.2.2.2.2.2.2.2.2.2.2.2.2.1 rfl
          have e11 : BsNew w1 L1 (x 11) V := hD.2.2.2.2.2.2.2.2.2.2.2.2.2.1 rfl
          clear hD
          refine want_yes rfl ?_
          exact leads_value (v := .int .i64 0) (by go_simp) ⟨Below.refl _ _, rfl⟩
        trivial
      intro x1 W hC hF
      have e13 : BsNew w1 L1 (x1 13) W := hF 13 (by simp)
      have e14 : x1 14 = .int .i64 0 := hF 14 (by simp)
      have HV := Lib.hid (show Below w1.heap.size w1 W from hC)
      obtain ⟨p1, n1, c1, h13, hx1, hp1⟩ := e13
      obtain rfl : n1 = 128 := hx1.same.trans HL1.out.1
      have HX1 := Lib.hid hx1
      have HQ1 := Lib.hid hp1
      clear hF hC hx1 hp1
      rw [h13, e14]
      clear h13 e14
      have HBV := Lib.hid (HB1.out.trans (HV.out.mono HB1.out.size))
      go_upto_region 8 with fail
      refine wp_region_F (fun V => Below W.heap.size W V) [Fact.is (.pointer (some ⟨jb, 0, none⟩)), Fact.is (.pointer (some ⟨jb, 0, none⟩)), Fact.is (.pointer (some ⟨jb, 3, none⟩)), Fact.is (.int .i64 (J.gen : Int)), Fact.is (.pointer (some ⟨jb, 0, none⟩)), Fact.is (.pointer (some ⟨jb, 0, none⟩)), Fact.is (.pointer (some ⟨jb, 4, none⟩)), Fact.is (.int .i64 (J.n : Int)), bsPair W L2 0, bsPair W L2 0, bsFact W L2, Fact.is (.int .i64 0), bsFact W L2, Fact.is (.int .i64 0)]
        (fun x => { tmps := #[.pointer (some ⟨jb, 0, none⟩), .slice p len cap, undef, undef, .int .i64 0, .slice p1 128 c1, x 13, x 12, undef, .pointer (some ⟨jb, 0, none⟩), .bool true, .bool false, .pointer (some ⟨jb, 0, none⟩), .bool false, x1 10, x1 0, x1 1, x1 2, x1 3, x1 4, x1 5, x1 6, x1 7, x1 8, x1 9, x1 11, x1 12, .int .i64 0, .bool false, undef, x 9, x 0, x 1, x 2, x 3, x 4, x 5, x 6, x 7, x 8, x 10, x 11, undef, undef, undef, undef, undef, undef, undef, undef, undef, undef, undef, undef, undef, undef, undef, undef, undef, undef], defers := [] }) (fun i => ([undef, undef, undef, undef, undef, undef, undef, undef, undef, undef, undef, undef, undef, .int .i64 0] : List Value).getD i undef) (by kernel_rfl) rfl rfl (by kernel_rfl) ((Below.refl _ _).drew) (fun u v hu hB => hu.trans (hB.mono hu.size)) ?_ ?_
      · refine ⟨⟨fun x v => rfl, fun x V hC hD => ?_⟩, ?_⟩
        · clear hD
          refine want_yes rfl ?_
          exact leads_value (v := .pointer (some ⟨jb, 0, none⟩)) (by go_simp) ⟨Below.refl _ _, rfl⟩
        refine ⟨⟨fun x v => rfl, fun x V hC hD => ?_⟩, ?_⟩
        · have e0 : (x 0) = .pointer (some ⟨jb, 0, none⟩) := hD.1 rfl
          clear hD
          refine want_yes rfl ?_
          exact leads_value (v := .pointer (some ⟨jb, 0, none⟩)) (by go_simp) ⟨Below.refl _ _, rfl⟩
        refine ⟨⟨fun x v => rfl, fun x V hC hD => ?_⟩, ?_⟩
        · have e1 : (x 1) = .pointer (some ⟨jb, 0, none⟩) := hD.1 rfl
          clear hD
          refine want_yes rfl ?_
          exact leads_value (v := .pointer (some ⟨jb, 3, none⟩)) (by go_simp) ⟨Below.refl _ _, rfl⟩
        refine ⟨⟨fun x v => rfl, fun x V hC hD => ?_⟩, ?_⟩
        · have e2 : (x 2) = .pointer (some ⟨jb, 3, none⟩) := hD.1 rfl
          clear hD
          refine want_yes rfl ?_
          have k0 := (HCl.out _ V HBV.out hC).1
          exact leads_value (v := .int .i64 (J.gen : Int)) (by go_simp) ⟨Below.refl _ _, rfl⟩
        refine ⟨⟨fun x v => rfl, fun x V hC hD => ?_⟩, ?_⟩
        · clear hD
          refine want_yes rfl ?_
          exact leads_value (v := .pointer (some ⟨jb, 0, none⟩)) (by go_simp) ⟨Below.refl _ _, rfl⟩
        refine ⟨⟨fun x v => rfl, fun x V hC hD => ?_⟩, ?_⟩
        · have e4 : (x 4) = .pointer (some ⟨jb, 0, none⟩) := hD.1 rfl
          clear hD
          refine want_yes rfl ?_
          exact leads_value (v := .pointer (some ⟨jb, 0, none⟩)) (by go_simp) ⟨Below.refl _ _, rfl⟩
        refine ⟨⟨fun x v => rfl, fun x V hC hD => ?_⟩, ?_⟩
        · have e5 : (x 5) = .pointer (some ⟨jb, 0, none⟩) := hD.1 rfl
          clear hD
          refine want_yes rfl ?_
          exact leads_value (v := .pointer (some ⟨jb, 4, none⟩)) (by go_simp) ⟨Below.refl _ _, rfl⟩
        refine ⟨⟨fun x v => rfl, fun x V hC hD => ?_⟩, ?_⟩
        · have e6 : (x 6) = .pointer (some ⟨jb, 4, none⟩) := hD.1 rfl
          clear hD
          refine want_yes rfl ?_
          have k0 := (HCl.out _ V HBV.out hC).2
          exact leads_value (v := .int .i64 (J.n : Int)) (by go_simp) ⟨Below.refl _ _, rfl⟩
        refine ⟨⟨fun x v => rfl, fun x V hC hD => ?_⟩, ?_⟩
        · have e3 : (x 3) = .int .i64 (J.gen : Int) := hD.1 rfl
          have e7 : (x 7) = .int .i64 (J.n : Int) := hD.2.1 rfl
          clear hD
          refine want_yes rfl ?_
          exact leads_enter2 (by go_simp) ((HW2.out V).mono fun en w'' ⟨q, c', he, hr, hB⟩ => ⟨_, he, hB, _, rfl, new_of_fresh hr hC.size⟩)
        refine ⟨⟨fun x v => rfl, fun x V hC hD => ?_⟩, ?_⟩
        · have e8 : ∃ u, (x 8) = .tuple #[u, .int .i64 0] ∧ BsNew W L2 u V := hD.1 rfl
          clear hD
          refine want_yes rfl ?_
          obtain ⟨u, hu, hn⟩ := e8
          exact leads_value (v := .tuple #[u, .int .i64 0]) (by go_simp) ⟨Below.refl _ _, u, rfl, hn⟩
        refine ⟨⟨fun x v => rfl, fun x V hC hD => ?_⟩, ?_⟩
        · have e9 : ∃ u, (x 9) = .tuple #[u, .int .i64 0] ∧ BsNew W L2 u V := hD.1 rfl
          clear hD
          refine want_yes rfl ?_
          obtain ⟨u, hu, hn⟩ := e9
          exact leads_value (v := u) (by go_simp) ⟨Below.refl _ _, hn⟩
        refine ⟨⟨fun x v => rfl, fun x V hC hD => ?_⟩, ?_⟩
        · have e9 : ∃ u, (x 9) = .tuple #[u, .int .i64 0] ∧ BsNew W L2 u V := hD.1 rfl
          clear hD
          refine want_yes rfl ?_
          obtain ⟨u, hu, hn⟩ := e9
          exact leads_value (v := .int .i64 0) (by go_simp) ⟨Below.refl _ _, rfl⟩
        refine ⟨⟨fun x v => rfl, fun x V hC hD => ?_⟩, ?_⟩
        · have e10 : BsNew W L2 (x 10) V := hD.1 rfl
          have e8 : ∃ u, (x 8) = .tuple #[u, .int .i64 0] ∧ BsNew W L2 u V := hD.2.1 rfl
          have e0 : (x 0) = .pointer (some ⟨jb, 0, none⟩) := hD.2.2.1 rfl
          have e1 : (x 1) = .pointer (some ⟨jb, 0, none⟩) := hD.2.2.2.1 rfl
          have e2 : (x 2) = .pointer (some ⟨jb, 3, none⟩) := hD.2.2.2.2.1 rfl
          have e3 : (x 3) = .int .i64 (J.gen : Int) := hD.2.2.2.2.2.1 rfl
          have e4 : (x 4) = .pointer (some ⟨jb, 0, none⟩) := hD.2.2.2.2.2.2.1 rfl
          have e5 : (x 5) = .pointer (some ⟨jb, 0, none⟩) := hD.2.2.2.2.2.2.2.1 rfl
          have e6 : (x 6) = .pointer (some ⟨jb, 4, none⟩) := hD.2.2.2.2.2.2.2.2.1 rfl
          have e7 : (x 7) = .int .i64 (J.n : Int) := hD.2.2.2.2.2.2.2.2.2.1 rfl
          have e9 : ∃ u, (x 9) = .tuple #[u, .int .i64 0] ∧ BsNew W L2 u V := hD.2.2.2.2.2.2.2.2.2.2.2.1 rfl
          clear hD
          refine want_yes rfl ?_
          obtain ⟨y, hy⟩ : ∃ y, x 10 = y := ⟨_, rfl⟩
          rw [hy] at e10
          exact leads_value (v := y) (by go_simp) ⟨Below.refl _ _, e10⟩
        refine ⟨⟨fun x v => rfl, fun x V hC hD => ?_⟩, ?_⟩
        · have e11 : (x 11) = .int .i64 0 := hD.1 rfl
          have e12 : BsNew W L2 (x 12) V := hD.2.1 rfl
          have e0 : (x 0) = .pointer (some ⟨jb, 0, none⟩) := hD.2.2.1 rfl
          have e1 : (x 1) = .pointer (some ⟨jb, 0, none⟩) := hD.2.2.2.1 rfl
          have e2 : (x 2) = .pointer (some ⟨jb, 3, none⟩) := hD.2.2.2.2.1 rfl
          have e3 : (x 3) = .int .i64 (J.gen : Int) := hD.2.2.2.2.2.1 rfl
          have e4 : (x 4) = .pointer (some ⟨jb, 0, none⟩) := hD.2.2.2.2.2.2.1 rfl
          have e5 : (x 5) = .pointer (some ⟨jb, 0, none⟩) := hD.2.2.2.2.2.2.2.1 rfl
          have e6 : (x 6) = .pointer (some ⟨jb, 4, none⟩) := hD.2.2.2.2.2.2.2.2.1 rfl
          have e7 : (x 7) = .int .i64 (J.n : Int) := hD.2.2.2.2.2.2.2.2.2.1 rfl
          have e8 : ∃ u, (x 8) = .tuple #[u, .int .i64 0] ∧ BsNew W L2 u V := hD.2.2.2.2.2.2.2.2.2.2.1 rfl
          have e9 : ∃ u, (x 9) = .tuple #[u, .int .i64 0] ∧ BsNew W L2 u V := hD.2.2.2.2.2.2.2.2.2.2.2.1 rfl
          have e10 : BsNew W L2 (x 10) V := hD.2.2.2.2.2.2.2.2.2.2.2.2.1 rfl
          clear hD
          refine want_yes rfl ?_
          exact leads_value (v := .int .i64 0) (by go_simp) ⟨Below.refl _ _, rfl⟩
        trivial
      intro x2 V hC hF
      have e12 : BsNew W L2 (x2 12) V := hF 12 (by simp)
      have e13 : x2 13 = .int .i64 0 := hF 13 (by simp)
      have HU := Lib.hid (show Below W.heap.size W V from hC)
      obtain ⟨p2, n2, c2, h12, hx2, hp2⟩ := e12
      obtain rfl : n2 = 128 := hx2.same.trans HL1.out.2
      have HX2 := Lib.hid hx2
      have HQ2 := Lib.hid hp2
      clear hF hC hx2 hp2 HW HW2 HCl
      rw [h12, e13]
      clear h12 e13
      have HBV2 := Lib.hid (HBV.out.trans (HU.out.mono HBV.out.size))
      have hBn := belowNew V (.cells #[.slice p1 128 c1, .slice p2 128 c2] 34)
      have HB3 := Lib.hid (HBV2.out.trans (hBn.mono HBV2.out.size))
      have hzl : ∀ k, D k → k < w.heap.size := (theRel.lt HA.out).2
      have hb3 := HB.out.below HB3.out HB.out.lt
      have HBk3 := Lib.hid hb3
      have hw := jWrite_any (J := J) (x := L1) (y := L2) hb3 (DiskRel.below HA.out HB3.out) HP.out.ok HP.out.jok HLt.out.1 HD.out HWr.out (Blk.new V #[.slice p1 128 c1, .slice p2 128 c2] 34) (fun hd => by have := hzl _ hd; have := HBV2.out.size; omega)
        ((HX1.out.below HU.out (Nat.le_refl _)).below hBn (Nat.le_refl _)) (HX2.out.below hBn (Nat.le_refl _)) (fun a ha hd => by have := hzl _ hd; have := (HQ1.out a ha).1; have := HB1.out.size; omega) (fun a ha hd => by have := hzl _ hd; have := (HQ2.out a ha).1; have := HBV.out.size; omega)
      have HWt := Lib.hid hw
      clear hw hzl hb3 hBn
      unfold ptrV at *
      have HEn := Lib.hid (fun (V' : World) (D' : Nat → Prop) (hA4 : theRel.At V' db (put2S S J L1 L2) D') (hs4 : ∀ k, D' k → D k ∨ (V.alloc (.cells #[.slice p1 128 c1, .slice p2 128 c2] 34)).heap.size ≤ k) (hc4 : Chg D (V.alloc (.cells #[.slice p1 128 c1, .slice p2 128 c2] 34)) V') =>
        JP.put HP.out HB.out HFF.out HD.out (put2_ok HP.out.ok J L1 L2) (put2_len HP.out.ok J L1 L2) hA4 (fun k hk => (hs4 k hk).imp id fun h => Nat.le_trans HB3.out.size h) ((Chg.ofBelow HB3.out).trans hc4))
      by_cases hE2 : put2E S J L1 L2 = 0
      · have HJd := Lib.hid (show addJ S J b = { J with n := J.n + 1 } by unfold addJ; rw [if_pos (by rw [HE.out.1]; exact hE2)])
        rw [hE2] at HWt HE
        clear hE2
        go_wp2_with fail
        refine HWt.out.mono ?_
        rintro e w4 ⟨D', rfl, hA4, hs4, hc4⟩
        have hb4 := hc4.kept HBk3.out HD.out
        have c4 : w4.cell? ⟨jb, 4, none⟩ = some (.int .i64 (J.n : Int)) := hb4.cell 4
        have f4 := hb4.free 4
        have hn1 : IntKind.i64.wrap ((J.n : Int) + 1) = (J.n : Int) + 1 := IntWalk.i64_in _ (by have := HJ.out.2; omega)
        have hp := (Put.refl hb4).set 4 (.int .i64 ((J.n : Int) + 1))
        have HP4 := Lib.hid (show Put w4 (w4.setCell ⟨jb, 4, none⟩ (.int .i64 ((J.n : Int) + 1))) jb (jrnV db { J with n := J.n + 1 }) 45 from hp)
        have HFin := Lib.hid (HEn.out w4 D' hA4 hs4 hc4)
        clear hA4 hs4 hc4 hb4 hp HWt
        go_wp2_with fail
        go_ret
        clear c4 f4 hn1
        generalize w4.setCell ⟨jb, 4, none⟩ (.int .i64 ((J.n : Int) + 1)) = w5 at *
        obtain ⟨F', hp, hs, hc⟩ := HFin.out
        obtain ⟨D2, hA5, hb5, hd5, hF5⟩ := jparts hp
        refine ⟨F', by rw [HE.out.1]; rfl, ?_, hs, hc.trans (HP4.out.chg.mono fun k _ e => e ▸ (HFF.out jb).2 (.inr rfl))⟩
        rw [HE.out.2, HJd.out]
        exact ⟨hp.ok, ⟨by have := HLt.out.1; show J.n + 1 ≤ J.room; omega, hp.jok.room, hp.jok.fits, hp.jok.gen⟩, D2, _, theRel.kept hA5 HP4.out.chg (fun k hk e => hd5 (e ▸ hk)), ⟨HP4.out.blk, rfl⟩, fun k hk e => hd5 (e ▸ hk), hF5⟩
      · have HJd := Lib.hid (show addJ S J b = J by unfold addJ; rw [if_neg (by rw [HE.out.1]; exact hE2)])
        generalize put2E S J L1 L2 = E2 at *
        go_wp2_with fail
        refine HWt.out.mono ?_
        rintro e w4 ⟨D', rfl, hA4, hs4, hc4⟩
        have HFin := Lib.hid (HEn.out w4 D' hA4 hs4 hc4)
        clear hA4 hs4 hc4 HWt
        go_wp2_with fail
        go_ret
        obtain ⟨F', hp, hs, hc⟩ := HFin.out
        exact ⟨F', by rw [HE.out.1]; rfl, by rw [HE.out.2, HJd.out]; exact hp, hs, hc⟩
end Go.Proofs.Ytlbdpoolhmbgaaa

/-! PlainArg -/
namespace Go.Proofs.Ytlbdpoolhmbgaaa
theorem ownP : ownKnob Try.prog.godebug = none := by kernel_rfl
end Go.Proofs.Ytlbdpoolhmbgaaa

/-! ByteArg -/
namespace Go.Proofs.Ytlbdpoolhmbgaaa
open Go.ChangeShapes Go.WideShapes Go.ChangeAt Go.RowKit Go.Deep

theorem cellsBytP : Try.prog.cellsOf 5 = 1 := by kernel_rfl
theorem i64_wf {z : Int} (h : (Lit.int .i64 z).wf = true) : -9223372036854775808 ≤ z ∧ z ≤ 9223372036854775807 := by
  have b1 : IntKind.i64.min = -9223372036854775808 := rfl
  have b2 : IntKind.i64.max = 9223372036854775807 := rfl
  simp only [Lit.wf, Bool.and_eq_true, decide_eq_true_eq] at h
  omega
theorem u32_of_wf {z : Int} (h : (Lit.int .u32 z).wf = true) : ∃ n : Nat, z = (n : Int) ∧ n < 4294967296 := by
  have b1 : IntKind.u32.min = 0 := rfl
  have b2 : IntKind.u32.max = 4294967295 := rfl
  simp only [Lit.wf, Bool.and_eq_true, decide_eq_true_eq] at h
  exact ⟨z.toNat, by omega, by omega⟩
theorem plain_addr {a : Addr} (h : a.spot = none) (n : Nat) : a.add n = ⟨a.block, a.off + n, none⟩ := by
  obtain ⟨b, o, s⟩ := a
  simp only at h
  subst h
  unfold Addr.add; split <;> simp_all
theorem choose_parts {α : Type} {n : Nat} {P : Nat → α → Prop} (d : α) (h : ∀ i, i < n → ∃ q, P i q) : ∃ q : Nat → α, ∀ i, i < n → P i (q i) := by
  refine ⟨fun i => if hi : i < n then Classical.choose (h i hi) else d, fun i hi => ?_⟩
  simp only [dif_pos hi]
  exact Classical.choose_spec (h i hi)

set_option maxRecDepth 100000 in
theorem bytes_of_arg {H : Type} {enc : TypeId × Value → H} {W : World} {a0 : Option Addr} {len cap : Nat} {d : DataW H} {p : List MemPlace}
    (h : DataW.Trod enc Try.prog W 0 (fun _ => true) true 34 (.slice a0 len cap) d p) : ∃ l : List UInt8, BsAt W a0 len cap l := by
  obtain ⟨fuel, hf⟩ := h
  rcases open_slice Try.underlying34 hf with ⟨hcs, hx⟩ | ⟨a, len', cap', m, n, D, Pl, hcs, hb, hl, hm, hmm, hx, hi⟩
  · simp [Value.cells] at hcs
    obtain ⟨rfl, rfl, rfl⟩ := hcs
    exact ⟨[], bsAt_nil W⟩
  · simp [Value.cells] at hcs
    obtain ⟨rfl, rfl, rfl⟩ := hcs
    simp only [if_true] at hmm
    have each : ∀ i, i < len → ∃ q : UInt8, W.cell? (a.add i) = some (.int .u8 (q.toNat : Int)) := by
      intro i hil
      obtain ⟨cs', h1, h2⟩ := hi i (by omega)
      rw [cellsBytP, Nat.mul_one] at h1
      obtain ⟨_, hlen, hcell⟩ := World.cells?_some h1
      obtain ⟨z, e0, _, wz⟩ := DataW.trod_int Try.underlying5 h2
      have b1 : IntKind.u8.min = 0 := rfl
      have b2 : IntKind.u8.max = 255 := rfl
      simp only [Lit.wf, Bool.and_eq_true, decide_eq_true_eq] at wz
      have hc := hcell 0 (by omega)
      rw [add_add, e0] at hc
      obtain ⟨k, rfl⟩ := Int.eq_ofNat_of_zero_le (show 0 ≤ z by omega)
      refine ⟨UInt8.ofNat k, ?_⟩
      rw [Nat.add_zero] at hc
      rw [hc]
      simp
      omega
    obtain ⟨q, hq⟩ := choose_parts (0 : UInt8) each
    refine ⟨(List.range len).map q, by simp, hl, hm, ?_⟩
    by_cases hc0 : 0 < len
    · have hspot : a.spot = none := by simpa [Addr.add] using World.cell?_spot (hq 0 hc0)
      refine .inr (.inr ⟨a.block, a.off, ?_, ?_, fun i hi => ?_⟩)
      · obtain ⟨b, o, s⟩ := a
        simp only at hspot
        subst hspot; rfl
      · have := hq 0 hc0
        rw [plain_addr hspot] at this
        exact World.block_lt_of_cell? W ⟨a.block, _, none⟩ this
      · have hi' : i < len := by simpa using hi
        have := hq i hi'
        rw [plain_addr hspot] at this
        simpa using this
    · obtain rfl : len = 0 := by omega
      exact .inr (.inl ⟨rfl, by simp⟩)

end Go.Proofs.Ytlbdpoolhmbgaaa

/-! RowsArg -/
namespace Go.Proofs.Ytlbdpoolhmbgaaa
open Go.ChangeShapes Go.WideShapes Go.ChangeAt Go.RowKit Go.Deep

theorem cellsRowP : Try.prog.cellsOf 34 = 1 := by kernel_rfl
set_option maxRecDepth 100000 in
theorem rows_of_arg {H : Type} {enc : TypeId × Value → H} {W : World} {a0 : Option Addr} {len cap : Nat} {d : DataW H} {p : List MemPlace}
    (h : DataW.Trod enc Try.prog W 0 (fun _ => true) true 22 (.slice a0 len cap) d p) : ∃ ls : List (List UInt8), ls.length = len ∧ RowsAt W (.slice a0 ls.length cap) ls := by
  obtain ⟨fuel, hf⟩ := h
  rcases open_slice Try.underlying22 hf with ⟨hcs, hx⟩ | ⟨a, len', cap', m, n, D, Pl, hcs, hb, hl, hm, hmm, hx, hi⟩
  · simp [Value.cells] at hcs
    obtain ⟨rfl, rfl, rfl⟩ := hcs
    exact ⟨[], rfl, none, 0, rfl, by simp, by decide, fun h => absurd rfl h⟩
  · simp [Value.cells] at hcs
    obtain ⟨rfl, rfl, rfl⟩ := hcs
    simp only [if_true] at hmm
    have each : ∀ i, i < len → ∃ q : List UInt8, ∃ r n c, W.cell? (a.add i) = some (.slice r n c) ∧ BsAt W r n c q := by
      intro i hil
      obtain ⟨cs', h1, h2⟩ := hi i (by omega)
      rw [cellsRowP, Nat.mul_one] at h1
      obtain ⟨_, hlen, hcell⟩ := World.cells?_some h1
      have hc := hcell 0 (by omega)
      rw [add_add, Nat.add_zero] at hc
      obtain ⟨r, k, c, rfl⟩ : ∃ r k c, cs' = [.slice r k c] := by
        rcases open_slice Try.underlying34 h2 with ⟨h3, -⟩ | ⟨a2, l2, c2, m2, n2, D2, P2, h3, -⟩
        · exact ⟨_, _, _, h3⟩
        · exact ⟨_, _, _, h3⟩
      obtain ⟨q, hq⟩ := bytes_of_arg (a0 := r) (len := k) (cap := c) ⟨n, h2⟩
      exact ⟨q, r, k, c, by simpa using hc, hq⟩
    obtain ⟨q, hq⟩ := choose_parts ([] : List UInt8) each
    have htl : ((List.range len).map q).length = len := by simp
    refine ⟨(List.range len).map q, htl, ?_⟩
    by_cases hl0 : len = 0
    · subst hl0
      exact ⟨some a, cap, rfl, by simp, hm, fun h => absurd rfl h⟩
    · have hspot : a.spot = none := by
        obtain ⟨r, k, c, h1, -⟩ := hq 0 (by omega)
        simpa [Addr.add] using World.cell?_spot h1
      refine ⟨some a, cap, rfl, by rw [htl]; exact hl, hm, fun _ => ⟨a.block, a.off, ?_, ?_, fun i hi => ?_⟩⟩
      · obtain ⟨b, o, s⟩ := a
        simp only at hspot
        subst hspot; rfl
      · obtain ⟨r, k, c, h1, -⟩ := hq 0 (by omega)
        rw [plain_addr hspot] at h1
        exact World.block_lt_of_cell? W ⟨a.block, _, none⟩ h1
      · rw [htl] at hi
        obtain ⟨r, k, c, h1, h2⟩ := hq i hi
        rw [plain_addr hspot] at h1
        simp only [List.getElem_map, List.getElem_range]
        exact ⟨r, k, c, h1, h2⟩
end Go.Proofs.Ytlbdpoolhmbgaaa

/-! PbArg -/
namespace Go.Proofs.Ytlbdpoolhmbgaaa
open Go.ChangeShapes Go.WideShapes Go.ChangeAt Go.RowKit Go.Deep

theorem cellsPb : Try.prog.cellsOf 63 = 2 := by kernel_rfl
theorem cellsPb1 : Try.prog.cellsOf 5 = 1 := by kernel_rfl
theorem byte_of {z : Int} (h : (Lit.int .u8 z).wf = true) : ∃ b : UInt8, z = (b.toNat : Int) := by
  have b1 : IntKind.u8.min = 0 := rfl
  have b2 : IntKind.u8.max = 255 := rfl
  simp only [Lit.wf, Bool.and_eq_true, decide_eq_true_eq] at h
  obtain ⟨k, rfl⟩ := Int.eq_ofNat_of_zero_le (show 0 ≤ z by omega)
  exact ⟨UInt8.ofNat k, by simp; omega⟩
end Go.Proofs.Ytlbdpoolhmbgaaa

/-! FrmArg -/
namespace Go.Proofs.Ytlbdpoolhmbgaaa
open Go.ChangeShapes Go.WideShapes Go.ChangeAt Go.RowKit

theorem u16_of_wf {z : Int} (h : (Lit.int .u16 z).wf = true) : ∃ n : Nat, z = (n : Int) ∧ n < 65536 := by
  have b1 : IntKind.u16.min = 0 := rfl
  have b2 : IntKind.u16.max = 65535 := rfl
  simp only [Lit.wf, Bool.and_eq_true, decide_eq_true_eq] at h
  exact ⟨z.toNat, by omega, by omega⟩
theorem frArg_bool {H : Type} {enc : TypeId × Value → H} {W : World} {b0 : Nat} {v : Value} {d : DataW H} {p : List MemPlace} (hv : Value.okWide Try.prog W .any b0 4 v) (h : DataW.Trod enc Try.prog W 0 (fun _ => true) true 4 v d p) : ∃ s : Bool, v = .bool s := by
  obtain ⟨s, rfl, -, -⟩ := open_bool Try.underlying4 hv h
  exact ⟨s, rfl⟩
end Go.Proofs.Ytlbdpoolhmbgaaa

/-! FuseA -/
namespace Go.Proofs.Ytlbdpoolhmbgaaa
open Go.RowKit

structure FuseM where
  n : Int
  kp : Int
def FuseM.value (m : FuseM) : Value := .agg #[.int .u8 m.n, .int .u8 m.kp]
def FuseM.cells (m : FuseM) : Array Value := #[.int .u8 m.n, .int .u8 m.kp]
def FuseM.Ok (m : FuseM) : Prop := (0 ≤ m.n ∧ m.n ≤ 255) ∧ (0 ≤ m.kp ∧ m.kp ≤ 255)
theorem cellsFuse : Try.prog.cellsOf 24 = 2 := by kernel_rfl
theorem cellsFuse_0 : Try.prog.cellsOf 5 = 1 := by kernel_rfl
end Go.Proofs.Ytlbdpoolhmbgaaa

/-! FuseOne -/
namespace Go.Proofs.Ytlbdpoolhmbgaaa
open Go.ChangeShapes Go.WideShapes Go.ChangeAt Go.RowKit Go.Deep

set_option maxRecDepth 100000 in
set_option maxHeartbeats 1600000 in
theorem fuse_of_arg {H : Type} {enc : TypeId × Value → H} {W : World} {r : Reach} {b0 : Nat} {v : Value} {d : DataW H} {p : List MemPlace}
    (hv : Value.okWide Try.prog W r b0 24 v) (h : DataW.Trod enc Try.prog W 0 (fun _ => true) true 24 v d p) : ∃ m : FuseM, m.Ok ∧ v = m.value := by
  obtain ⟨cs, rfl, hsz⟩ := okWide_struct Try.underlying24 hv
  rw [cellsFuse] at hsz
  obtain ⟨fuel, hf⟩ := h
  obtain ⟨xs, k, _, _, _, hxl, hxx⟩ := DataW.trod_struct Try.underlying24 hf
  obtain ⟨cs⟩ := cs
  match cs, hsz with
  | [v0, v1], _ =>
    match xs, hxl with
    | [y0, y1], _ =>
      have g0 : DataW.trod enc Try.prog W 0 (fun _ => true) true k 5 ((([v0, v1] : List Value).drop 0).take (Try.prog.cellsOf 5)) = some y0 := hxx 0 _ rfl
      rw [cellsFuse_0] at g0
      have g1 : DataW.trod enc Try.prog W 0 (fun _ => true) true k 5 ((([v0, v1] : List Value).drop 1).take (Try.prog.cellsOf 5)) = some y1 := hxx 1 _ rfl
      rw [cellsFuse_0] at g1
      simp at g0 g1
      obtain ⟨x0, e0, _, wx0⟩ := DataW.trod_int Try.underlying5 g0
      obtain ⟨x1, e1, _, wx1⟩ := DataW.trod_int Try.underlying5 g1
      simp at e0 e1
      have w0 : 0 ≤ x0 ∧ x0 ≤ 255 := by
        have b1 : IntKind.u8.min = 0 := rfl
        have b2 : IntKind.u8.max = 255 := rfl
        simp only [Lit.wf, Bool.and_eq_true, decide_eq_true_eq] at wx0
        omega
      have w1 : 0 ≤ x1 ∧ x1 ≤ 255 := by
        have b1 : IntKind.u8.min = 0 := rfl
        have b2 : IntKind.u8.max = 255 := rfl
        simp only [Lit.wf, Bool.and_eq_true, decide_eq_true_eq] at wx1
        omega
      exact ⟨⟨x0, x1⟩, ⟨w0, w1⟩, by rw [e0, e1]; rfl⟩

end Go.Proofs.Ytlbdpoolhmbgaaa

/-! JrnArg -/
namespace Go.Proofs.Ytlbdpoolhmbgaaa
open Go.RowKit

theorem jkeeps_fuse (K : DiskRel) (R : JrnRel) (dN : DNewC K) (dA : DArmC K) (dP : DPowerC K) (dO : DOnC K) (jN : JNewC K R) (jA : JAddC K R) (jO : JOpenC K R) (jC : JCleanC K R) (hA : JAliveC) (v : Value) (l : List (List UInt8)) (x y : FuseM) (w : World) (hl : RowsAt w v l) (hx : x.Ok) (hy : y.Ok) :
    Calls Try.prog 3 #[v, x.value, y.value] w fun e w' => e = .returned (.bool true) ∧ Below w.heap.size w w' := by
  obtain ⟨xn, xk⟩ := x
  obtain ⟨yn, yk⟩ := y
  obtain ⟨⟨a1, a2⟩, a3, a4⟩ := hx
  obtain ⟨⟨b1, b2⟩, b3, b4⟩ := hy
  simp only at a1 a2 a3 a4 b1 b2 b3 b4
  obtain ⟨p, rfl⟩ := Int.eq_ofNat_of_zero_le a1
  obtain ⟨q, rfl⟩ := Int.eq_ofNat_of_zero_le a3
  obtain ⟨r, rfl⟩ := Int.eq_ofNat_of_zero_le b1
  obtain ⟨s, rfl⟩ := Int.eq_ofNat_of_zero_le b3
  exact jkeeps_any K R dN dA dP dO jN jA jO jC hA v l p q r s w hl (by omega) (by omega) (by omega) (by omega)
end Go.Proofs.Ytlbdpoolhmbgaaa

/-! SaidJKeeps -/
namespace Go.Proofs.Ytlbdpoolhmbgaaa
open Go.ChangeShapes Go.WideShapes Go.ChangeAt Go.RowKit

theorem jkeeps_laidOut : laidOutB Try.prog = true := by kernel_rfl
set_option maxRecDepth 100000 in
theorem jkeeps_contract (H : Type) (enc : TypeId × Value → H) (W : World) (base : Nat) (args : Array Value) (ds gs : List (DataW H)) (before : List MemPlace)
    (hval : ∀ (j : Nat) t v, Try.f3.params[j]? = some t → args[j]? = some v → Value.okWide Try.prog W .any base t v)
    (hW : DataW.Whole enc Try.prog Try.f3.params.toList Rows.journalKeepsSpec.vars false W args.toList ds gs before) :
    Calls Try.prog 3 args W fun e W' => ∃ v, e = .returned v ∧ Rows.journalKeepsSpec.post enc Try.prog Try.f3 false true false false W args v W' := by
  have hW' := hW
  obtain ⟨p, q, hA0, hV, rfl, hfz, hnd⟩ := hW
  have hA : DataW.TrodAll enc Try.prog W 0 (fun _ => true) true Try.f3.params.toList args.toList ds p := hA0
  rw [Try.params3] at hA hval
  obtain ⟨v0, v1, v2, d0, d1, d2, p0, p1, p2, rfl, rfl, rfl, h0, h1, h2⟩ := trodAll_three hA
  obtain ⟨rfl, rfl⟩ := trodVars_none hV
  clear hA0
  simp only [List.append_nil] at hW'
  have hlt0 : ∀ x ∈ p0, x.block < W.heap.size := fun x hx => by simpa using hW'.lt x (by simp [hx])
  have hargs0 : ∀ (W' : World), Below W.heap.size W W' → DataW.Trod enc Try.prog W' 0 (fun b => decide (b < W.heap.size)) true 22 v0 d0 p0 :=
    fun W' hn => Below.trod jkeeps_laidOut (by kernel_rfl) (of_decide_eq_true (by kernel_rfl)) h0 hn hlt0
  have hlt1 : ∀ x ∈ p1, x.block < W.heap.size := fun x hx => by simpa using hW'.lt x (by simp [hx])
  have hargs1 : ∀ (W' : World), Below W.heap.size W W' → DataW.Trod enc Try.prog W' 0 (fun b => decide (b < W.heap.size)) true 24 v1 d1 p1 :=
    fun W' hn => Below.trod jkeeps_laidOut (by kernel_rfl) (of_decide_eq_true (by kernel_rfl)) h1 hn hlt1
  have hlt2 : ∀ x ∈ p2, x.block < W.heap.size := fun x hx => by simpa using hW'.lt x (by simp [hx])
  have hargs2 : ∀ (W' : World), Below W.heap.size W W' → DataW.Trod enc Try.prog W' 0 (fun b => decide (b < W.heap.size)) true 24 v2 d2 p2 :=
    fun W' hn => Below.trod jkeeps_laidOut (by kernel_rfl) (of_decide_eq_true (by kernel_rfl)) h2 hn hlt2
  obtain ⟨a0, n0, cap0, rfl⟩ := okWide_slice Try.underlying22 (hval 0 22 v0 rfl rfl)
  obtain ⟨l0, rfl, hI0⟩ := rows_of_arg h0
  obtain ⟨m1, hm1, rfl⟩ := fuse_of_arg (hval 1 24 v1 rfl rfl) h1
  obtain ⟨m2, hm2, rfl⟩ := fuse_of_arg (hval 2 24 v2 rfl rfl) h2
  refine (jkeeps_fuse theRel theJrn dNew_any dArm_any dPower_any (fun h _ => dOn_any h) jNew_any jAdd_any jOpen_any jClean_any (jalive_any theRel theJrn dNew_any dArm_any dPower_any jNew_any jNewNo_any jAdd_any jOpen_any jClean_any jLen_any jRoom_any jGen_any jNilAdd_any jNilLen_any) _ l0 m1 m2 W hI0 hm1 hm2).mono fun e W' ⟨he, hB⟩ => ?_
  subst he
  exact ⟨_, rfl, _, _, _, [], p0 ++ (p1 ++ (p2)), [], hW', trodAll_mk1 (shut_bool Try.underlying4 _), trodAll_mk3 (hargs0 _ hB) (hargs1 _ hB) (hargs2 _ hB), rfl, hB.frame _, fun h => by cases h⟩

set_option maxRecDepth 100000 in
theorem jkeeps_lifted (os : Os) (started : os.Started) (H : Type) (enc : TypeId × Value → H) :
    ReturnsInHanded {} Try.checked os 3 .any (Rows.journalKeepsSpec.pre6 enc Try.prog Try.f3 Rows.journalKeepsRow.domain false) (Rows.journalKeepsSpec.post enc Try.prog Try.f3 false true false false) := by
  refine returnsInHanded_of_change (C := Try.checked) ownP started (by kernel_rfl) Try.func3
    (ChangeSpec.witness6 (enc := enc) (C := Try.checked) false ⟨#[], #[Value.slice none 0 0, .agg #[.int .u8 0, .int .u8 0], .agg #[.int .u8 0, .int .u8 0]], []⟩ 8 (by kernel_rfl) (by kernel_rfl) (by kernel_rfl) (by kernel_rfl)) ?_
  intro W base args ds gs before hval hW _ _
  exact jkeeps_contract H enc W base args ds gs before hval hW

theorem jkeeps_holds : Rows.JournalKeepsSaid :=
  OpenClaim.holds_of_wide 3 Try.f3 rfl rfl rfl rfl rfl rfl rfl ⟨rfl, rfl, rfl, rfl, rfl⟩ rfl rfl rfl rfl rfl (by kernel_rfl) Try.func3 (by kernel_rfl)
    (of_decide_eq_true (by kernel_rfl)) (by unfold Func.isWrapper; first | (rw [if_pos (by decide +kernel)]; kernel_rfl) | (rw [if_neg (by decide +kernel)]; exact ⟨rfl, rfl⟩))
    (fun os started H enc _ => jkeeps_lifted os started H enc)

end Go.Proofs.Ytlbdpoolhmbgaaa

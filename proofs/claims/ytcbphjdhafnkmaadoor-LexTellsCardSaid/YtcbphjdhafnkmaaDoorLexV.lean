/-
  alive, from the program's contract.
-/
import Derived.Test.YtcbphjdhafnkmaaDoorLawXTells
namespace Go.Proofs.YtcbphjdhafnkmaaDoor
open Go.RowKit

section
variable {x : Pc × Nat}
theorem cellsLy : Tryd.prog.cellsOf 32 = 4 ∧ Tryd.prog.cellsOf 3 = 1 ∧ Tryd.prog.cellsOf 9 = 1 := ⟨by kernel_rfl, by kernel_rfl, by kernel_rfl⟩
theorem keyLy (h : SmallPc x) : ∃ L, Tryd.prog.keyLits 2 32 (pieC x).toList = some L := by
  refine ⟨[.int .i64 (x.1.kind : Int), .string x.1.text, .int .i64 (x.1.n : Int), .int .i64 (x.2 : Int)], ?_⟩
  have h1 := keyLx_int (n := x.1.kind) (by have := h.1; omega)
  have h2 := keyLx_str (l := x.1.text) (by have := h.2.2.1; omega)
  have h3 := keyLx_int (n := x.1.n) (by have := h.2.1; omega)
  have h4 := keyLx_int (n := x.2) (by have := h.2.2.2; omega)
  obtain ⟨c1, c2, c3⟩ := cellsLy
  unfold Program.keyLits
  rw [Tryd.underlying32]
  simp [pieC, c1, c2, c3, h1, h2, h3, h4]
theorem keyT_ly : Tryd.prog.keyTypeAt 2 32 = true := by kernel_rfl
theorem formedLy (x : Pc × Nat) : (Value.agg (pieC x)).formed Tryd.prog 32 = true := by
  simp only [Value.formed, Tryd.underlying32, pieC_size]
  kernel_rfl
theorem equalLy (h : SmallPc x) (w : World) : (Op.equalIn 10000 32 (.agg (pieC x)) (.agg (pieC x))).run Tryd.prog w = .ok true w := by
  obtain ⟨L, hL⟩ := keyLy h
  obtain ⟨r, hr, hiff⟩ := run_equalIn_deep (10000 - 2) 2 32 keyT_ly w 2 2 (.agg (pieC x)) (.agg (pieC x)) L L (formedLy x) (formedLy x) hL hL
  rw [show 10000 - 2 + 2 = 10000 by omega] at hr
  rw [hr, hiff.2 rfl]
theorem guardLy : Tryd.prog.eqGuardType Tryd.prog.depth 32 = false := by kernel_rfl
theorem exec_eqlLy {o : Oper} {a : Act} {w : World} {p q : Operand} {ty : TypeId} (h : SmallPc x) (ho : o.op = .binOp .eql 32 p q ty) (hx : a.eval p = .agg (pieC x)) (hy : a.eval q = .agg (pieC x)) :
    (execOp a.eval o).run Tryd.prog w = .ok (.value (.bool true)) w := by
  unfold execOp
  simp only [ho, hx, hy, Sem.run_bind, run_eqGuard_agg w .eql 32 p q _ _ guardLy, run_eql_struct, equalLy h, Result.andThen_ok, Sem.run_pure]
end
theorem alive_one : pcsO [117, 112, 32, 114, 49, 60, 61, 97, 108, 108] = ([(⟨1, [117, 112], 0⟩, 0), (⟨2, [114, 49], 1⟩, 3), (⟨4, [60, 61], 0⟩, 5), (⟨1, [97, 108, 108], 0⟩, 7), (endPc, 10)], 0, 0) := by decide +kernel
theorem alive_two : pcsO [117, 112, 32, 114, 49, 54] = ([], 3, 3) := by decide +kernel
theorem alive_many : pcsO [32, 32, 32, 32, 32, 32, 32, 32, 32, 32, 32, 32, 32, 32, 32, 32, 32, 32, 32, 32, 32, 32, 32, 32, 32, 32, 32, 32, 32, 32, 32, 32, 32, 32, 32, 32, 32, 32, 32, 32, 32, 32, 32, 32, 32, 32, 32, 32, 32] = ([], 0, 5) := by decide +kernel
set_option maxRecDepth 100000 in
set_option maxHeartbeats 3200000 in
theorem lxalive_any {G : World → Prop} (gK : KeepX G) (cP : LPiecesC G) : LxAliveC G := by
  intro w hw
  have HP1 := Lib.hid (show ∀ V, Below w.heap.size w V → Calls Tryd.prog 7 #[.string ⟨([117, 112, 32, 114, 49, 60, 61, 97, 108, 108] : List UInt8).toArray⟩] V fun e w' => ∃ v, e = .returned (.tuple #[v, .int .i64 0, .int .i64 0]) ∧ PiesAt w' v [(⟨1, [117, 112], 0⟩, 0), (⟨2, [114, 49], 1⟩, 3), (⟨4, [60, 61], 0⟩, 5), (⟨1, [97, 108, 108], 0⟩, 7), (endPc, 10)] ∧ Below V.heap.size V w' from fun V hV => by
    have h := cP [117, 112, 32, 114, 49, 60, 61, 97, 108, 108] V (gK.keep hw hV) (by decide)
    unfold PcsIs at h
    rw [alive_one] at h
    exact h)
  have HP2 := Lib.hid (show ∀ V, Below w.heap.size w V → Calls Tryd.prog 7 #[.string ⟨([117, 112, 32, 114, 49, 54] : List UInt8).toArray⟩] V fun e w' => ∃ v, e = .returned (.tuple #[v, .int .i64 3, .int .i64 3]) ∧ PiesAt w' v [] ∧ Below V.heap.size V w' from fun V hV => by
    have h := cP [117, 112, 32, 114, 49, 54] V (gK.keep hw hV) (by decide)
    unfold PcsIs at h
    rw [alive_two] at h
    exact h)
  have HP3 := Lib.hid (show ∀ V, Below w.heap.size w V → Calls Tryd.prog 7 #[.string ⟨([32, 32, 32, 32, 32, 32, 32, 32, 32, 32, 32, 32, 32, 32, 32, 32, 32, 32, 32, 32, 32, 32, 32, 32, 32, 32, 32, 32, 32, 32, 32, 32, 32, 32, 32, 32, 32, 32, 32, 32, 32, 32, 32, 32, 32, 32, 32, 32, 32] : List UInt8).toArray⟩] V fun e w' => ∃ v, e = .returned (.tuple #[v, .int .i64 0, .int .i64 5]) ∧ PiesAt w' v [] ∧ Below V.heap.size V w' from fun V hV => by
    have h := cP [32, 32, 32, 32, 32, 32, 32, 32, 32, 32, 32, 32, 32, 32, 32, 32, 32, 32, 32, 32, 32, 32, 32, 32, 32, 32, 32, 32, 32, 32, 32, 32, 32, 32, 32, 32, 32, 32, 32, 32, 32, 32, 32, 32, 32, 32, 32, 32, 32] V (gK.keep hw hV) (by decide)
    unfold PcsIs at h
    rw [alive_many] at h
    exact h)
  clear gK cP hw
  go_enter Tryd.func6, Tryd.ntmps6
  go_wp2_with fail
  refine (HP1.out w (Below.refl _ _)).mono ?_
  rintro e w1 ⟨v, rfl, hv, hB1⟩
  obtain ⟨g, off, cap, rfl, -, -, hg⟩ := hv.shape (by simp)
  have HV := Lib.hid hv
  have HB1 := Lib.hid hB1
  have HG := Lib.hid hg
  clear hv hB1 hg
  go_wp2_with fail
  refine (HP2.out w1 HB1.out).mono ?_
  rintro e w2 ⟨v, rfl, ⟨p2, c2, rfl, -⟩, hB2⟩
  have HB2 := Lib.hid (HB1.out.trans (hB2.mono HB1.out.size))
  have HV2 := Lib.hid hB2
  clear hB2
  go_wp2_with fail
  refine (HP3.out w2 HB2.out).mono ?_
  rintro e w3 ⟨v, rfl, ⟨p3, c3, rfl, -⟩, hB3⟩
  have HB3 := Lib.hid (HB2.out.trans (hB3.mono HB2.out.size))
  have HV3 := Lib.hid (HV2.out.trans (hB3.mono HV2.out.size))
  clear hB3
  have HC := Lib.hid (fun i hi => (HV.out.elem (i := i) hi).2.below HV3.out HG.out)
  have HC1 := Lib.hid (show CellsAt w3 g (off + 4) (pieC (⟨2, [114, 49], 1⟩, 3)) from HC.out 1 (by simp))
  have HC4 := Lib.hid (show CellsAt w3 g (off + 16) (pieC (endPc, 10)) from HC.out 4 (by simp))
  have k0 : w3.cell? ⟨g, off + 9, none⟩ = some (.string ⟨([60, 61] : List UInt8).toArray⟩) := HC.out 2 (by simp) 1 _ rfl
  have HS1 := Lib.hid (show SmallPc (⟨2, [114, 49], 1⟩, 3) from ⟨by decide, by decide, by decide, by decide⟩)
  have HS4 := Lib.hid (show SmallPc (endPc, 10) from ⟨by decide, by decide, by decide, by decide⟩)
  go_wp2_with (first | (refine wpList_load_cells rfl _ _ rfl rfl HC1.out Tryd.underlying32 rfl (infoLxS _) ?_) | (refine wpList_load_cells rfl _ _ rfl rfl HC4.out Tryd.underlying32 rfl (infoLxS _) ?_) | (refine wpList_of rfl (exec_eqlLy HS1.out rfl rfl rfl) ?_) | (refine wpList_of rfl (exec_eqlLy HS4.out rfl rfl rfl) ?_))
  go_ret
  exact ⟨rfl, HB3.out⟩
end Go.Proofs.YtcbphjdhafnkmaaDoor

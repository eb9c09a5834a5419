/-
  Nodes are compared: what is the same is equal; the document's Same.
-/
import Derived.DeepKeys
import Derived.ChangeKeysEq
import Derived.Test.YtfhjmhmgkdadhaaDoorWParG
import Derived.Test.YtfhjmhmgkdadhaaDoorWStage
/-! ParH -/
namespace Go.Proofs.YtfhjmhmgkdadhaaDoor
open Go.RowKit

/-- What a node holds is a number of the machine. -/
def IntQ (x : Qn) : Prop := (-9223372036854775808 ≤ x.kind ∧ x.kind ≤ 9223372036854775807) ∧ -9223372036854775808 ≤ x.n ∧ x.n ≤ 9223372036854775807
theorem fine_int {x : Qn} (h : fineQ x) : IntQ x := by
  obtain ⟨h1, h2, h3, -⟩ := h
  unfold argN at h1
  refine ⟨?_, by omega, by omega⟩
  split at h1
  · omega
  · rename_i hn; omega
theorem wfNd {n : Int} (h : -9223372036854775808 ≤ n ∧ n ≤ 9223372036854775807) : (Lit.int .i64 n).wf = true := by
  simp only [Lit.wf, show IntKind.i64.min = -9223372036854775808 by decide, show IntKind.i64.max = 9223372036854775807 by decide, decide_eq_true h.1, decide_eq_true h.2, Bool.and_self]
section
variable {x : Qn}
theorem keyNd_int {n : Int} (h : -9223372036854775808 ≤ n ∧ n ≤ 9223372036854775807) : Tryd.prog.keyLits 1 3 [.int .i64 n] = some [.int .i64 n] := by
  simp only [Program.keyLits, Tryd.underlying3, wfNd h, and_self, if_true]
theorem cellsNod : Tryd.prog.cellsOf 34 = 2 ∧ Tryd.prog.cellsOf 3 = 1 := ⟨by kernel_rfl, by kernel_rfl⟩
theorem keyNd (h : IntQ x) : ∃ L, Tryd.prog.keyLits 2 34 (nodC x).toList = some L := by
  refine ⟨[.int .i64 x.kind, .int .i64 x.n], ?_⟩
  have h1 := keyNd_int h.1
  have h2 := keyNd_int h.2
  obtain ⟨c1, c2⟩ := cellsNod
  unfold Program.keyLits
  rw [Tryd.underlying34]
  simp [nodC, c1, c2, h1, h2]
theorem keyT_nd : Tryd.prog.keyTypeAt 2 34 = true := by kernel_rfl
theorem formedNd (x : Qn) : (Value.agg (nodC x)).formed Tryd.prog 34 = true := by
  simp only [Value.formed, Tryd.underlying34, nodC_size]
  kernel_rfl
theorem equalNd (h : IntQ x) (w : World) : (Op.equalIn 10000 34 (.agg (nodC x)) (.agg (nodC x))).run Tryd.prog w = .ok true w := by
  obtain ⟨L, hL⟩ := keyNd h
  obtain ⟨r, hr, hiff⟩ := run_equalIn_deep (10000 - 2) 2 34 keyT_nd w 2 2 (.agg (nodC x)) (.agg (nodC x)) L L (formedNd x) (formedNd x) hL hL
  rw [show 10000 - 2 + 2 = 10000 by omega] at hr
  rw [hr, hiff.2 rfl]
theorem guardNd : Tryd.prog.eqGuardType Tryd.prog.depth 34 = false := by kernel_rfl
theorem exec_neqNd {o : Oper} {a : Act} {w : World} {p q : Operand} {ty : TypeId} (h : IntQ x) (ho : o.op = .binOp .neq 34 p q ty) (hx : a.eval p = .agg (nodC x)) (hy : a.eval q = .agg (nodC x)) :
    (execOp a.eval o).run Tryd.prog w = .ok (.value (.bool false)) w := by
  unfold execOp
  simp only [ho, hx, hy, Sem.run_bind, run_eqGuard_agg w .neq 34 p q _ _ guardNd, run_neq_struct, equalNd h, Result.andThen_ok, Sem.run_pure, Bool.not_true]
end
theorem infoNodS (x : Qn) : (Tryd.prog.info? 34).map (·.size) = some (nodC x).size := by rw [nodC_size]; kernel_rfl
set_option maxRecDepth 100000 in
set_option maxHeartbeats 1600000 in
theorem rqSame_any (u v : Value) (l : List Qn) (w : World) (hu : NodesAt w u l) (hv : NodesAt w v l) (hi : ∀ x ∈ l, IntQ x) : Calls Tryd.prog 10 #[u, v] w fun e w' => e = .returned (.bool true) ∧ Below w.heap.size w w' := by
  have HU := Lib.hid hu
  have HV := Lib.hid hv
  have HI := Lib.hid hi
  obtain ⟨p1, c1, rfl, -⟩ := id hu
  obtain ⟨p2, c2, rfl, -⟩ := id hv
  clear hu hv hi
  go_enter Tryd.func10, Tryd.ntmps10
  go_wp2_with fail
  go_loopw [5] (fun i wr => ∃ k : Nat, k ≤ l.length ∧ i = .int .i64 (k : Int) ∧ Below w.heap.size w wr) (fun i _ => l.length - (intOf i).toNat)
  case atStart => exact ⟨0, by omega, rfl, Below.refl _ _⟩
  case round =>
    obtain ⟨k, hk, rfl, hB⟩ := hrel
    have HB := Lib.hid hB
    clear hB
    by_cases hlt : k < l.length
    · obtain ⟨g, off, cp, hs1, -, -, hg⟩ := HU.out.shape (by intro e; rw [e] at hlt; cases hlt)
      cases hs1
      obtain ⟨g2, off2, cp2, hs2, -, -, hg2⟩ := HV.out.shape (by intro e; rw [e] at hlt; cases hlt)
      cases hs2
      have HCc := Lib.hid (fun V (hV : Below w.heap.size w V) => ((HU.out.elem hlt).2.below hV hg : CellsAt V g (off + k * 2) (nodC l[k])))
      have HCd := Lib.hid (fun V (hV : Below w.heap.size w V) => ((HV.out.elem hlt).2.below hV hg2 : CellsAt V g2 (off2 + k * 2) (nodC l[k])))
      have HCo := Lib.hid (HI.out l[k] (List.getElem_mem hlt))
      generalize l[k] = c at *
      have dk : decide ((k : Int) < (l.length : Int)) = true := by simp; omega
      have dk2 : decide (k < l.length) = true := by simpa using hlt
      have k0 : (0 : Int) ≤ (k : Int) := by omega
      have k1 : (k : Int) < (l.length : Int) := by omega
      have hwk : IntKind.i64.wrap ((k : Int) + 1) = (k : Int) + 1 := by
        obtain ⟨q, c, e, ⟨h1, h2⟩, -⟩ := HU.out
        rw [IntKind.wrap_i64]; omega
      have HKl := Lib.hid hlt
      clear hg hg2 hlt hk
      go_upto_region 6 with fail
      refine wp_region_S (fun _ V => Below wr.heap.size wr V) 0 [.val (.slice (some ⟨g, off, none⟩) l.length c1), .val (.int .i64 (k : Int)), .val (.pointer (some ⟨g, off + k * 2, none⟩)), .val (.agg (nodC c)), .val (.slice (some ⟨g2, off2, none⟩) l.length c2), .val (.int .i64 (k : Int)), .val (.pointer (some ⟨g2, off2 + k * 2, none⟩)), .val (.agg (nodC c)), .val (.bool false)]
        (fun x => { tmps := #[.slice (some ⟨g, off, none⟩) l.length c1, .slice (some ⟨g2, off2, none⟩) l.length c2, undef, undef, u4, .int .i64 (k : Int), .slice (some ⟨g, off, none⟩) l.length c1, .int .i64 (l.length : Int), .slice (some ⟨g2, off2, none⟩) l.length c2, .int .i64 (l.length : Int), .bool false, .int .i64 (k : Int), .slice (some ⟨g, off, none⟩) l.length c1, .int .i64 (l.length : Int), .bool true, u15, u16, x 0, x 1, x 2, x 3, x 4, x 5, x 6, x 7, x 8], defers := [] }) (fun i => ([u17, u18, u19, u20, u21, u22, u23, u24, u25] : List Value).getD i undef) (by kernel_rfl) rfl rfl (by kernel_rfl) (by kernel_rfl) (by kernel_rfl) (by kernel_rfl) ((Below.refl _ wr).drew) ?_ ?_
      · refine ⟨ObS.of_val rfl (fun x v => rfl) (fun x V kst hC hD => ?_), ?_⟩
        · clear hD
          refine want_yes rfl ?_
          exact leads_value (v := .slice (some ⟨g, off, none⟩) l.length c1) (by go_simp) ⟨rfl, hC⟩
        refine ⟨ObS.of_val rfl (fun x v => rfl) (fun x V kst hC hD => ?_), ?_⟩
        · clear hD
          refine want_yes rfl ?_
          exact leads_value (v := .int .i64 (k : Int)) (by go_simp) ⟨rfl, hC⟩
        refine ⟨ObS.of_val rfl (fun x v => rfl) (fun x V kst hC hD => ?_), ?_⟩
        · have e0 : x 0 = .slice (some ⟨g, off, none⟩) l.length c1 := hD.1 rfl
          have e1 : x 1 = .int .i64 (k : Int) := hD.2.1 rfl
          clear hD
          refine want_yes rfl ?_
          exact leads_value (v := .pointer (some ⟨g, off + k * 2, none⟩)) (by go_simp) ⟨rfl, hC⟩
        refine ⟨ObS.of_val rfl (fun x v => rfl) (fun x V kst hC hD => ?_), ?_⟩
        · have e2 : x 2 = .pointer (some ⟨g, off + k * 2, none⟩) := hD.1 rfl
          clear hD
          refine want_yes rfl ?_
          exact leads_value (exec_load_cells rfl (by exact e2) (HCc.out V (HB.out.trans (hC.mono HB.out.size))) Tryd.underlying34 rfl (infoNodS _)) ⟨rfl, hC⟩
        refine ⟨ObS.of_val rfl (fun x v => rfl) (fun x V kst hC hD => ?_), ?_⟩
        · clear hD
          refine want_yes rfl ?_
          exact leads_value (v := .slice (some ⟨g2, off2, none⟩) l.length c2) (by go_simp) ⟨rfl, hC⟩
        refine ⟨ObS.of_val rfl (fun x v => rfl) (fun x V kst hC hD => ?_), ?_⟩
        · clear hD
          refine want_yes rfl ?_
          exact leads_value (v := .int .i64 (k : Int)) (by go_simp) ⟨rfl, hC⟩
        refine ⟨ObS.of_val rfl (fun x v => rfl) (fun x V kst hC hD => ?_), ?_⟩
        · have e4 : x 4 = .slice (some ⟨g2, off2, none⟩) l.length c2 := hD.1 rfl
          have e5 : x 5 = .int .i64 (k : Int) := hD.2.1 rfl
          clear hD
          refine want_yes rfl ?_
          exact leads_value (v := .pointer (some ⟨g2, off2 + k * 2, none⟩)) (by go_simp) ⟨rfl, hC⟩
        refine ⟨ObS.of_val rfl (fun x v => rfl) (fun x V kst hC hD => ?_), ?_⟩
        · have e6 : x 6 = .pointer (some ⟨g2, off2 + k * 2, none⟩) := hD.1 rfl
          clear hD
          refine want_yes rfl ?_
          exact leads_value (exec_load_cells rfl (by exact e6) (HCd.out V (HB.out.trans (hC.mono HB.out.size))) Tryd.underlying34 rfl (infoNodS _)) ⟨rfl, hC⟩
        refine ⟨ObS.of_val rfl (fun x v => rfl) (fun x V kst hC hD => ?_), ?_⟩
        · have e3 : x 3 = .agg (nodC c) := hD.1 rfl
          have e7 : x 7 = .agg (nodC c) := hD.2.1 rfl
          clear hD
          refine want_yes rfl ?_
          exact leads_value (exec_neqNd HCo.out rfl (by exact e3) (by exact e7)) ⟨rfl, hC⟩
        trivial
      · intro xa V hC hx
        have e8 : xa 8 = .bool false := hx 8 (by simp)
        have HV9 := Lib.hid (HB.out.trans (hC.mono HB.out.size))
        clear hx hC
        rw [e8]
        clear e8
        generalize xa 0 = y0
        generalize xa 1 = y1
        generalize xa 2 = y2
        generalize xa 3 = y3
        generalize xa 4 = y4
        generalize xa 5 = y5
        generalize xa 6 = y6
        generalize xa 7 = y7
        go_wp2_with fail
        go_roundw
        case rel => exact ⟨k + 1, HKl.out, by go_num, HV9.out⟩
        case measure => have := HKl.out; simp [intOf]; omega
    · have dk : decide ((k : Int) < (l.length : Int)) = false := by simp; omega
      have dk2 : decide (k < l.length) = false := by simpa using hlt
      clear hlt hk
      go_wp2_with fail
      go_ret
      exact ⟨rfl, HB.out⟩
end Go.Proofs.YtfhjmhmgkdadhaaDoor

/-
  The document's differences: all lines.
-/
import Derived.LoopTactic
import Derived.Test.YtmaachmidgfhdaaGreatDoorWDifS
/-! DifL -/
namespace Go.Proofs.YtmaachmidgfhdaaGreatDoor
open Go.RowKit

theorem rdSome_any (cT : RTextC) (p q : Pol) (hp : PolOk p) (hq : PolOk q) (k n : Nat) (hk : k < 8) (hn : n < 16) (w : World) : Calls Tryz.prog 23 #[.agg (polC p), .agg (polC q), .int .i64 (k : Int), .int .i64 (n : Int)] w (SoIs p q k n w) := by
  rcases show k = 0 ∨ k = 1 ∨ k = 2 ∨ k = 3 ∨ k = 4 ∨ k = 5 ∨ k = 6 ∨ k = 7 by omega with rfl | rfl | rfl | rfl | rfl | rfl | rfl | rfl
  · exact rdSome_0 p q hp hq n hn w
  · exact rdSome_1 p q hp hq n hn w
  · exact rdSome_2 p q hp hq n hn w
  · exact rdSome_3 cT p q hp hq n hn w
  · exact rdSome_4 p q hp hq n hn w
  · exact rdSome_5 p q hp hq n hn w
  · exact rdSome_6 p q hp hq n hn w
  · exact rdSome_7 p q hp hq n hn w
/-- The lines so far. -/
def preD (p q : Pol) (k n : Nat) : List Ln := (List.range k).flatMap (rowDf p q) ++ (List.range n).flatMap (someD p q k)
theorem preD_step (p q : Pol) (k n : Nat) : preD p q k (n + 1) = preD p q k n ++ someD p q k n := by
  unfold preD
  rw [List.range_succ, List.flatMap_append, List.append_assoc]
  simp
theorem preD_next (p q : Pol) (k : Nat) : preD p q k 16 = preD p q (k + 1) 0 := by
  unfold preD
  rw [List.range_succ (n := k), List.flatMap_append, List.flatMap_cons, List.flatMap_nil, List.append_nil, List.range_zero, List.flatMap_nil, List.append_nil]
  rfl
theorem preD_all (p q : Pol) : preD p q 8 0 = diffL p q := by simp [preD, diffL]
theorem someD_few (p q : Pol) (k n : Nat) : (someD p q k n).length ≤ 16 := by
  have one : ∀ (c : Prop) [Decidable c] (a : Ln), (if c then [a] else []).length ≤ 16 := fun c _ a => by split <;> simp
  have many : ∀ (s k n : Nat), ((tagsN s).map (fun m => (⟨k, n, m, 0, 0⟩ : Ln))).length ≤ 16 := fun s k n => by
    rw [List.length_map]; exact tagsTo_length_le s 16
  unfold someD
  split
  · exact one _ _
  split
  · exact one _ _
  split
  · exact one _ _
  split
  · exact one _ _
  split
  · exact many _ _ _
  split
  · exact many _ _ _
  split
  · exact one _ _
  · exact one _ _
theorem preD_few (p q : Pol) (k n : Nat) : (preD p q k n).length ≤ 256 * k + 16 * n := by
  have row : ∀ k n, ((List.range n).flatMap (someD p q k)).length ≤ 16 * n := fun k n => by
    induction n with
    | zero => simp
    | succ n ih =>
      rw [List.range_succ, List.flatMap_append, List.length_append]
      have := someD_few p q k n
      rw [List.flatMap_cons, List.flatMap_nil, List.append_nil]
      omega
  have rows : ∀ k, ((List.range k).flatMap (rowDf p q)).length ≤ 256 * k := fun k => by
    induction k with
    | zero => simp
    | succ k ih =>
      rw [List.range_succ, List.flatMap_append, List.length_append]
      have h16 : (rowDf p q k).length ≤ 16 * 16 := row k 16
      rw [List.flatMap_cons, List.flatMap_nil, List.append_nil]
      omega
  unfold preD
  rw [List.length_append]
  have := row k n
  have := rows k
  omega
/-- Between rounds. -/
structure LiD (w : World) (p q : Pol) (u : Value) (ls : List (List UInt8)) (V : World) : Prop where
  so : SoW w p q V
  own : StrsRow V (w.heap.size + 1 + 1) u ls
  far : w.heap.size + 1 + 1 ≤ V.heap.size
theorem LiD.step {w : World} {p q : Pol} {u : Value} {ls : List (List UInt8)} {V V' : World} (h : LiD w p q u ls V) (hB : Below V.heap.size V V') : LiD w p q u ls V' :=
  ⟨h.so.step hB, own_rowS h.own hB, Nat.le_trans h.far hB.size⟩
theorem LiD.more {w : World} {p q : Pol} {u u' : Value} {ls m : List (List UInt8)} {V V' : World} (h : LiD w p q u ls V) (hr : StrsRow V' (w.heap.size + 1 + 1) u' (ls ++ m)) (hg : V.grownBy V' u.ownBlock) : LiD w p q u' (ls ++ m) V' := by
  have hc := Chg.ofGrown hg
  exact ⟨⟨h.so.below.grown hg h.so.below.size (fun r e => Nat.le_trans (by omega) (h.own.lt r e).1), hc.kept h.so.pr (fun e => by have := (h.own.lt _ e).1; omega), hc.kept h.so.qr (fun e => by have := (h.own.lt _ e).1; omega)⟩, hr, Nat.le_trans h.far hc.size⟩
set_option maxRecDepth 100000 in
set_option maxHeartbeats 3200000 in
theorem rdLines_any (cT : RTextC) (p q : Pol) (hp : PolOk p) (hq : PolOk q) (w : World) : Calls Tryz.prog 9 #[.agg (polC p), .agg (polC q)] w fun e w' => ∃ u, e = .returned u ∧ StrsRow w' w.heap.size u (linesL p q) ∧ Below w.heap.size w w' := by
  have HSm := Lib.hid (fun k n hk hn V => rdSome_any cT p q hp hq k n hk hn V)
  have HFw := Lib.hid (fun k n => And.intro (preD_few p q k n) (someD_few p q k n))
  have HG0 := Lib.hid (show LiD w p q (.slice none 0 0) ((preD p q 0 0).map lineT) ((w.alloc (.cells (polC p) 29)).alloc (.cells (polC q) 29)) from ⟨SoW.new w p q, World.ownsRow_nil _ _ _ _, by simp⟩)
  clear hp hq cT
  go_enter Tryz.func9, Tryz.ntmps9
  go_upto_region 1 with fail
  generalize (w.alloc _).alloc _ = w1 at *
  go_wp2_with fail
  go_loopw [5, 6] (fun u i wr => ∃ k : Nat, k ≤ 8 ∧ i = .int .i64 (k : Int) ∧ LiD w p q u ((preD p q k 0).map lineT) wr) (fun _ i _ => 8 - (intOf i).toNat)
  case atStart => exact ⟨0, by omega, rfl, HG0.out⟩
  case round =>
    obtain ⟨k, hk, rfl, hg⟩ := hrel
    have HG := Lib.hid hg
    clear hg HG0
    by_cases hlt : k < 8
    · have dk : decide ((k : Int) < 8) = true := by simp; omega
      have dk2 : decide (k < 8) = true := by simpa using hlt
      have HKl := Lib.hid hlt
      have hwk : IntKind.i64.wrap ((k : Int) + 1) = (k : Int) + 1 := by rw [IntKind.wrap_i64]; omega
      clear hlt hk
      go_wp2_with fail
      go_loopw [5, 7] (fun u i wr => ∃ n : Nat, n ≤ 16 ∧ i = .int .i64 (n : Int) ∧ LiD w p q u ((preD p q k n).map lineT) wr) (fun _ i _ => 16 - (intOf i).toNat)
      case atStart => exact ⟨0, by omega, rfl, HG.out⟩
      case round =>
        obtain ⟨n, hn, rfl, hg⟩ := hrel
        have HG2 := Lib.hid hg
        clear hg HG
        by_cases hlt : n < 16
        · have dn : decide ((n : Int) < 16) = true := by simp; omega
          have dn2 : decide (n < 16) = true := by simpa using hlt
          have HNl := Lib.hid hlt
          have hwn : IntKind.i64.wrap ((n : Int) + 1) = (n : Int) + 1 := by rw [IntKind.wrap_i64]; omega
          have HSt := Lib.hid (preD_step p q k n)
          have HL := Lib.hid (HFw.out k n)
          have hr1 := HG2.out.so.pr
          have hr2 := HG2.out.so.qr
          clear hlt hn
          go_wp2_with (first
            | (refine wpList_load_arr rfl _ _ rfl rfl hr1 Tryz.underlying29 rfl (infoPol _) ?_)
            | (refine wpList_load_arr rfl _ _ rfl rfl hr2 Tryz.underlying29 rfl (infoPol _) ?_))
          refine (HSm.out k n HKl.out HNl.out _).mono ?_
          rintro e w5 ⟨v, rfl, hv, hB⟩
          have HV := Lib.hid (rowIs_own strC_size hv)
          have HG5 := Lib.hid (HG2.out.step hB)
          clear hv hB HG2 hr1 hr2
          go_wp2_with (at_builtin; refine wpList_append_rows strC_size (by decide) strC_one rfl _ _ 32 rfl (w.heap.size + 1 + 1) Tryz.underlying32 infoStr rfl rfl rfl HG5.out.own HV.out (by have := HL.out; have := HKl.out; have := HNl.out; rw [List.length_map, List.length_map]; unfold maxLen; omega) (by have := HL.out; have := HKl.out; have := HNl.out; rw [List.length_map, List.length_map]; omega) HG5.out.far ?_; intro v7 w7 hr7 hg7; have HG7 := Lib.hid (HG5.out.more hr7 hg7); clear hr7 hg7)
          rw [← List.map_append, ← HSt.out] at HG7
          go_roundw
          case rel => exact ⟨n + 1, by have := HNl.out; omega, by go_num, HG7.out⟩
          case measure => have := HNl.out; simp [intOf]; omega
        · have dn : decide ((n : Int) < 16) = false := by simp; omega
          have dn2 : decide (n < 16) = false := by simpa using hlt
          obtain rfl : n = 16 := by omega
          rw [preD_next] at HG2
          clear hlt hn
          go_wp2_with fail
          go_roundw
          case rel => exact ⟨k + 1, by have := HKl.out; omega, by go_num, HG2.out⟩
          case measure => have := HKl.out; simp [intOf]; omega
    · have dk : decide ((k : Int) < 8) = false := by simp; omega
      have dk2 : decide (k < 8) = false := by simpa using hlt
      obtain rfl : k = 8 := by omega
      rw [preD_all] at HG
      clear hlt hk
      go_wp2_with fail
      go_ret
      exact ⟨_, rfl, own_base HG.out.own (by omega), HG.out.so.below⟩
end Go.Proofs.YtmaachmidgfhdaaGreatDoor

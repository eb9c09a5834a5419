/-
  Slices of strings; the document's Num, when, pairs.
-/
import Derived.LoopTactic
import Derived.Test.YtmaachmidgfhdaaGreatDoorWDifN
import Derived.Test.YtmaachmidgfhdaaGreatDoorWSlcG
import Derived.Test.YtmaachmidgfhdaaGreatDoorW1
/-! DifA -/
namespace Go.Proofs.YtmaachmidgfhdaaGreatDoor
open Go.RowKit

def strC (l : List UInt8) : Array Value := #[.string ⟨l.toArray⟩]
theorem strC_size (l : List UInt8) : (strC l).size = 1 := rfl
theorem strC_one (l : List UInt8) : (strC l).all (·.oneCell') = true := by simp [strC, Value.oneCell']
/-- A slice of strings. -/
abbrev StrsAt (w : World) (v : Value) (ls : List (List UInt8)) : Prop := SlAt strC 1 (fun _ => True) w v ls
/-- A row of strings of the call's own. -/
abbrev StrsRow (w : World) (base : Nat) (v : Value) (ls : List (List UInt8)) : Prop := w.ownsRow base 9 1 v ls.length (flatC strC ls)
theorem strsRow_at {w : World} {base : Nat} {v : Value} {ls : List (List UInt8)} (h : StrsRow w base v ls) : StrsAt w v ls := SlAt.ofRow strC_size h fun _ _ => trivial
theorem infoStr : (Tryz.prog.info? 9).map (fun i => (i.zero, i.size, i.bytes)) = some (some (.string ⟨#[]⟩), 1, 16) := by kernel_rfl
theorem cat_run (x y : List UInt8) (h : x.length + y.length ≤ 1000) : ∀ V : World, (Op.stringOp .add ⟨x.toArray⟩ ⟨y.toArray⟩).run Tryz.prog V = .ok (.string ⟨(x ++ y).toArray⟩) V :=
  fun V => run_string_add_lists V x y (by omega) (by omega)
theorem exec_cat {o : Oper} {a : Act} {w : World} {t t2 : TypeId} {x y : Operand} (ho : o.op = .binOp .add t x y t2) {l m : List UInt8} (hx : a.eval x = .string ⟨l.toArray⟩) (hy : a.eval y = .string ⟨m.toArray⟩) (h : l.length + m.length ≤ 1000) : (execOp a.eval o).run Tryz.prog w = .ok (.value (.string ⟨(l ++ m).toArray⟩)) w := by
  unfold execOp
  simp only [ho, hx, hy, binOp_string_add, Sem.run_bind, cat_run l m h, eqGuard]
  simp
theorem num_ten : ∀ n : Fin 10, (⟨#[48, 49, 50, 51, 52, 53, 54, 55, 56, 57]⟩ : ByteArray).extract n.val (n.val + 1) = ⟨(dig n.val).toArray⟩ := by decide +kernel
theorem dig_big : ∀ n : Fin 16, 9 < n.val → [49] ++ dig (n.val - 10) = dig n.val := by decide +kernel
theorem rdNum_small (n : Nat) (hn : n < 10) (w : World) : Calls Tryz.prog 38 #[.int .i64 (n : Int)] w fun e w' => e = .returned (.string ⟨(dig n).toArray⟩) ∧ w = w' := by
  have HX := Lib.hid (show (⟨#[48, 49, 50, 51, 52, 53, 54, 55, 56, 57]⟩ : ByteArray).extract n (n + 1) = ⟨(dig n).toArray⟩ from num_ten ⟨n, hn⟩)
  have d : decide ((9 : Int) < (n : Int)) = false := by simp; omega
  have q : IntKind.i64.wrap ((n : Int) + 1) = (n : Int) + 1 := by rw [IntKind.wrap_i64]; omega
  have a0 : (0 : Int) ≤ (n : Int) := by omega
  have a1 : (n : Int) ≤ (n : Int) + 1 := by omega
  have a2 : (n : Int) + 1 ≤ 10 := by omega
  clear hn
  go_enter Tryz.func38, Tryz.ntmps38
  go_wp2_with fail
  go_ret
  exact ⟨congrArg (fun b => Ending.returned (Value.string b)) HX.out, rfl⟩
theorem rdNum_any (n : Nat) (hn : n < 16) (w : World) : Calls Tryz.prog 38 #[.int .i64 (n : Int)] w fun e w' => e = .returned (.string ⟨(dig n).toArray⟩) ∧ w = w' := by
  by_cases h10 : n < 10
  · exact rdNum_small n h10 w
  have HX := Lib.hid (show [49] ++ dig (n - 10) = dig n from dig_big ⟨n, hn⟩ (by show 9 < n; omega))
  have H0 := Lib.hid (rdNum_small (n - 10) (by omega) w)
  have d : decide ((9 : Int) < (n : Int)) = true := by simp; omega
  have q : IntKind.i64.wrap ((n : Int) - 10) = ((n - 10 : Nat) : Int) := by rw [IntKind.wrap_i64]; omega
  have hlen : (dig (n - 10)).length ≤ 2 := (dig_len ⟨n - 10, by omega⟩).2
  have hc : ∀ V : World, (Op.stringOp .add ⟨#[49]⟩ ⟨(dig (n - 10)).toArray⟩).run Tryz.prog V = .ok (.string ⟨([49] ++ dig (n - 10)).toArray⟩) V := cat_run [49] (dig (n - 10)) (by simp; omega)
  generalize n - 10 = m at *
  clear hn h10 hlen
  go_enter Tryz.func38, Tryz.ntmps38
  go_wp2_with fail
  refine H0.out.mono ?_
  rintro e w1 ⟨rfl, rfl⟩
  go_wp2_with fail
  go_ret
  exact ⟨by rw [← HX.out]; rfl, rfl⟩
theorem rdWhen_any (c : Bool) (l : List UInt8) (w : World) : Calls Tryz.prog 37 #[.bool c, .string ⟨l.toArray⟩] w fun e w' => ∃ u, e = .returned u ∧ StrsRow w' w.heap.size u (if c = true then [l] else []) ∧ Below w.heap.size w w' := by
  cases c with
  | false =>
    go_enter Tryz.func37, Tryz.ntmps37
    go_wp2_with fail
    go_ret
    exact ⟨_, rfl, World.ownsRow_nil _ _ _ _, Below.refl _ _⟩
  | true =>
    have HB := Lib.hid (belowNew w (.cells #[.string ⟨l.toArray⟩] 9))
    have HO := Lib.hid (Blk.new w #[.string ⟨l.toArray⟩] 9)
    go_enter Tryz.func37, Tryz.ntmps37
    go_wp2_with fail
    go_ret
    exact ⟨_, rfl, own_ofBlk strC_size HO.out (by show 1 ≤ maxLen; decide) (Nat.le_refl _), HB.out⟩
/-- The lines so far. -/
structure PaW (w : World) (u : Value) (m : List (List UInt8)) (V : World) : Prop where
  below : Below w.heap.size w V
  own : StrsRow V w.heap.size u m
set_option maxRecDepth 100000 in
set_option maxHeartbeats 1600000 in
theorem rdPairs_any (l : List UInt8) (s : Nat) (hs : s < 65536) (hl : l.length ≤ 900) (w : World) : Calls Tryz.prog 40 #[.string ⟨l.toArray⟩, .int .u16 (s : Int)] w fun e w' => ∃ u, e = .returned u ∧ StrsRow w' w.heap.size u ((tagsN s).map fun m => l ++ dig m) ∧ Below w.heap.size w w' := by
  have HLi := Lib.hid (rList_any s hs w)
  have HLn := Lib.hid hl
  have HT := Lib.hid (fun m (h : m ∈ tagsN s) => ((mem_tagsTo s 16 m).1 h).1)
  have HN := Lib.hid (fun n (h : n < 16) V => rdNum_any n h V)
  have HLe := Lib.hid (show (tagsN s).length ≤ 16 from tagsTo_length_le s 16)
  obtain ⟨i0, hi, hx⟩ := Option.map_eq_some_iff.1 infoStr
  simp only [Prod.mk.injEq] at hx
  obtain ⟨hz0, hz1, hz2⟩ := hx
  have HI := Lib.hid (And.intro hi (And.intro hz0 (And.intro hz1 hz2)))
  clear hi hz0 hz1 hz2 hs hl
  generalize tagsN s = tg at *
  go_enter Tryz.func40, Tryz.ntmps40
  go_wp2_with fail
  refine HLi.out.mono ?_
  rintro e w1 ⟨v1, rfl, hr1, hB1⟩
  have HIn := Lib.hid (intsAt_of_owns HLe.out hr1)
  have HG0 := Lib.hid (show PaW w1 (.slice none 0 0) ((tg.take 0).map fun m => l ++ dig m) w1 from ⟨Below.refl _ _, World.ownsRow_nil _ _ _ _⟩)
  have HB1 := Lib.hid hB1
  obtain ⟨pt, cap, rfl⟩ : ∃ p c, v1 = .slice p tg.length c := owns_shape hr1
  have HR := Lib.hid hr1
  clear hr1 hB1 HLi
  go_wp2_with fail
  go_loopw [5, 7] (fun u i wr => ∃ k : Nat, k ≤ tg.length ∧ i = .int .i64 (k : Int) ∧ PaW w1 u ((tg.take k).map fun m => l ++ dig m) wr) (fun _ i _ => tg.length - (intOf i).toNat)
  case atStart => exact ⟨0, by omega, rfl, HG0.out⟩
  case round =>
    obtain ⟨k, hk, rfl, hg⟩ := hrel
    have HG := Lib.hid hg
    clear hg HG0
    by_cases hlt : k < tg.length
    · have dk : decide ((k : Int) < (tg.length : Int)) = true := by simp; omega
      have dk2 : decide (k < tg.length) = true := by simpa using hlt
      obtain ⟨b, off, rfl, hcs⟩ : ∃ b off, pt = some ⟨b, off, none⟩ ∧ (b < w1.heap.size ∧ w1.cell? ⟨b, off + k, none⟩ = some (.int .i64 (tg[k] : Int))) := by
        obtain ⟨-, ⟨e, h0⟩ | ⟨g, cp, cur, e, -, hgg, -⟩⟩ := HR.out
        · omega
        · cases e
          have h2 := HR.out.cellAt k (by omega)
          refine ⟨g, 0, rfl, lt_of_block hgg, ?_⟩
          rw [Nat.zero_add, h2]
          simp [intsV, hlt]
      have hcl := (HG.out.below.cell (p := ⟨b, off + k, none⟩) hcs.1).trans hcs.2
      have HTk := Lib.hid (show ((tg.take (k + 1)).map fun m => l ++ dig m) = ((tg.take k).map fun m => l ++ dig m) ++ [l ++ dig tg[k]] by rw [List.take_succ_eq_append_getElem hlt, List.map_append]; rfl)
      have HLk := Lib.hid (show ((tg.take k).map fun m => l ++ dig m).length = k by rw [List.length_map, List.length_take]; omega)
      have HX := Lib.hid (HT.out tg[k] (List.getElem_mem hlt))
      generalize tg[k] = x0 at *
      generalize ((tg.take k).map fun m => l ++ dig m) = m at *
      have HKl := Lib.hid hlt
      have h0 : (0 : Int) ≤ (k : Int) := by omega
      have h1 : (k : Int) < (tg.length : Int) := by omega
      have hwk : IntKind.i64.wrap ((k : Int) + 1) = (k : Int) + 1 := by have := HLe.out; rw [IntKind.wrap_i64]; omega
      have h5 := Lib.hid (HN.out x0 HX.out wr)
      have hc := cat_run l (dig x0) (by have := HLn.out; have := (dig_len ⟨x0, HX.out⟩).2; simp only at this; omega)
      clear hlt hk hcs
      go_wp2_with fail
      refine h5.out.mono ?_
      rintro e w5 ⟨rfl, rfl⟩
      clear h5 hcl dk dk2
      generalize l ++ dig x0 = ln at *
      have HB6 := Lib.hid (HG.out.below.trans (belowNew wr (.cells #[.string ⟨ln.toArray⟩] 9) |>.mono HG.out.below.size))
      have HO6 := Lib.hid (HG.out.own.alloc (.cells #[.string ⟨ln.toArray⟩] 9))
      go_wp2_with (at_builtin; refine wpList_append_own_at _ rfl _ _ 32 rfl w1.heap.size 9 i0 (.string ⟨#[]⟩) 1 16 Tryz.underlying32 HI.out.1 HI.out.2.1 HI.out.2.2.1 HI.out.2.2.2 rfl (by decide) u5 m.length (flatC strC m) rfl HO6.out ⟨wr.heap.size, 0, none⟩ 1 1 [.string ⟨ln.toArray⟩] rfl rfl (cell_one_new _ _ _) (by simp [Value.oneCell']) (by have := HLk.out; have := HLe.out; have := HKl.out; unfold maxLen; omega) (by have := HLk.out; have := HLe.out; have := HKl.out; omega) HB6.out.size ?_; intro v7 w7 hr7 hg7 hx1 hx2; have HG7 := Lib.hid (show PaW w1 v7 (m ++ [ln]) w7 from ⟨HB6.out.grown hg7 HB6.out.size (fun r e => (HO6.out.lt r e).1), own_snocC (c := ln) hr7⟩); clear hr7 hg7 hx1 hx2)
      rw [← HTk.out] at HG7
      go_roundw
      case rel => exact ⟨k + 1, by have := HKl.out; omega, by go_num, HG7.out⟩
      case measure => have := HKl.out; simp [intOf]; omega
    · have dk : decide ((k : Int) < (tg.length : Int)) = false := by simp; omega
      have dk2 : decide (k < tg.length) = false := by simpa using hlt
      have HTa := Lib.hid (show tg.take k = tg from List.take_of_length_le (by omega))
      rw [HTa.out] at HG
      clear hlt hk HTa
      go_wp2_with fail
      go_ret
      exact ⟨_, rfl, own_base HG.out.own HB1.out.size, HB1.out.trans (HG.out.below.mono HB1.out.size)⟩
end Go.Proofs.YtmaachmidgfhdaaGreatDoor

/-
  The program's differences: slices.Concat of slices of strings.
-/
import Derived.Lib.AppendZerosOnto
import Derived.Lib.AppendZeros
import Derived.LoopTactic
import Derived.Test.YtmaachmidgfhdaaGreatDoorWDpB
/-! DpC -/
namespace Go.Proofs.YtmaachmidgfhdaaGreatDoor
open Go.RowKit

set_option maxRecDepth 100000 in
theorem dpGrow_none (w : World) : Calls Tryz.prog 30 #[.slice none 0 0, .int .i64 0] w fun e w' => e = .returned (.slice none 0 0) ∧ w = w' := by
  go_enter Tryz.func30, Tryz.ntmps30
  go_wp2_with fail
  go_ret
  exact ⟨rfl, rfl⟩
set_option maxRecDepth 100000 in
set_option maxHeartbeats 1600000 in
theorem dpGrow_some (n : Nat) (h1 : 1 ≤ n) (hn : n ≤ 4096) (w : World) : Calls Tryz.prog 30 #[.slice none 0 0, .int .i64 (n : Int)] w fun e w' => ∃ v, e = .returned v ∧ StrsRow w' w.heap.size v [] ∧ Below w.heap.size w w' := by
  obtain ⟨i0, hi, hx⟩ := Option.map_eq_some_iff.1 infoStr
  simp only [Prod.mk.injEq] at hx
  obtain ⟨hz0, hz1, hz2⟩ := hx
  have hrz : ∀ ty, (Builtin.append_ #[32, 3] ty #[.slice none 0 0, .int .i64 (n : Int)]).run Tryz.prog w = .ok (.slice (some ⟨w.heap.size, 0, none⟩) n (grownCap w n 0 9)) (w.drew.alloc (.cells (#[] ++ Builtin.zeroCells (Value.string ⟨#[]⟩).cells n ++ Builtin.zeroCells (Value.string ⟨#[]⟩).cells (grownCap w n 0 9 - n)) 9)) := fun ty => by
    have h := Lib.run_append_grow_zeros w 32 3 ty 9 i0 (.string ⟨#[]⟩) .i64 .i64 Tryz.underlying32 Tryz.underlying3 hi hz0 none 0 0 [] (run_firstCells_none w.drew i0.size 0 0 0) n h1 (by rw [hz1]; decide) (by omega) (by omega)
      (by rw [hz2]; omega) (growslice_fits (by omega) (by rw [hz2]; omega))
    rw [Nat.zero_add] at h
    exact h
  have hG1 := grownCap_ge w n 0 9
  have hG2 := grownCap_le_maxLen w n 0 9 (by unfold maxLen; omega)
  generalize grownCap w n 0 9 = G at *
  have HR := Lib.hid (show StrsRow (w.alloc (.cells (Builtin.zeroCells #[Value.string ⟨#[]⟩] n ++ Builtin.zeroCells #[Value.string ⟨#[]⟩] (G - n)) 9)).drew w.heap.size (.slice (some ⟨w.heap.size, 0, none⟩) 0 G) [] from
    ⟨rfl, .inr ⟨w.heap.size, G, _, rfl, Nat.le_refl _, Blk.new w _ _, Nat.zero_le _, hG2, by
      simp only [Array.size_append, size_zeroCells]
      show n * 1 + (G - n) * 1 = G * 1
      omega, rfl⟩⟩)
  have HB := Lib.hid (show Below w.heap.size w (w.alloc (.cells (Builtin.zeroCells #[Value.string ⟨#[]⟩] n ++ Builtin.zeroCells #[Value.string ⟨#[]⟩] (G - n)) 9)).drew from (belowNew w _).drew)
  have q1 : decide ((n : Int) < 0) = false := by simp
  have q2 : decide ((0 : Int) < (n : Int)) = true := by simp; omega
  have q3 : decide (0 < n) = true := by simp; omega
  have q4 : IntKind.i64.wrap ((n : Int) - 0) = (n : Int) := by rw [IntKind.wrap_i64]; omega
  have q5 : IntKind.i64.wrap (n : Int) = (n : Int) := by rw [IntKind.wrap_i64]; omega
  have HG := Lib.hid (And.intro hG1 hG2)
  clear h1 hn hG1 hG2 hi hz0 hz1 hz2
  go_enter Tryz.func30, Tryz.ntmps30
  go_wp2_with (at_builtin; refine Lib.wpList_append_run _ rfl _ _ _ _ rfl _ _ rfl rfl _ _ (hrz _) ?_)
  go_ret
  exact ⟨.slice (some ⟨w.heap.size, 0, none⟩) 0 G, rfl, HR.out, HB.out⟩
/-! Concat. -/
theorem rowIs_below {w w' : World} {u : Value} {l : List (List UInt8)} (h : RowIs strC w u l) (hB : Below w.heap.size w w') : RowIs strC w' u l := by
  rcases h with h | ⟨ad, c, e, h⟩
  · exact .inl h
  · refine .inr ⟨ad, c, e, fun j x hx => ?_⟩
    have h1 := h j x hx
    have h2 := lt_of_cell (w := w) (b := (ad.add j).block) (o := (ad.add j).off) (v := x)
    exact (hB.cell (block_lt_of_cell h1)).trans h1
theorem rowIs_shape {w : World} {u : Value} {l : List (List UInt8)} (h : RowIs strC w u l) : ∃ p c, u = .slice p l.length c := by
  rcases h with ⟨rfl, rfl⟩ | ⟨ad, c, e, -⟩
  · exact ⟨none, 0, rfl⟩
  · exact ⟨some ad, c, e⟩
/-- What is known in the second loop. -/
structure LncW (w : World) (u : Value) (m : List (List UInt8)) (V : World) : Prop where
  below : Below w.heap.size w V
  own : StrsRow V w.heap.size u m
theorem LncW.push {w : World} {u : Value} {m l : List (List UInt8)} {V V' : World} (h : LncW w u m V) {u' : Value} (hr : StrsRow V' w.heap.size u' (m ++ l)) (hg : V.grownBy V' u.ownBlock) : LncW w u' (m ++ l) V' :=
  ⟨h.below.grown hg h.below.size fun _ e => row_low h.own e, hr⟩
theorem dpGrow_any (n : Nat) (hn : n ≤ 4096) (w : World) : Calls Tryz.prog 30 #[.slice none 0 0, .int .i64 (n : Int)] w fun e w' => ∃ v, e = .returned v ∧ StrsRow w' w.heap.size v [] ∧ Below w.heap.size w w' := by
  rcases Nat.eq_zero_or_pos n with rfl | h
  · refine (dpGrow_none w).mono ?_
    rintro e w' ⟨he, rfl⟩
    exact ⟨_, he, World.ownsRow_nil _ _ _ _, Below.refl _ _⟩
  · exact dpGrow_some n h hn w
theorem flats_take (ls : List (List (List UInt8))) {k : Nat} (h : k < ls.length) : (ls.take (k + 1)).flatten = (ls.take k).flatten ++ ls[k] := by
  rw [List.take_succ_eq_append_getElem h, List.flatten_append]
  simp
theorem flat_take_le (ls : List (List (List UInt8))) (k : Nat) : (ls.take k).flatten.length ≤ ls.flatten.length := by
  have h := congrArg (fun l => (List.flatten l).length) (List.take_append_drop k ls)
  simp only [List.flatten_append, List.length_append] at h
  omega
set_option maxRecDepth 100000 in
set_option maxHeartbeats 3200000 in
theorem dpConcat_any (b : Nat) (vs : List Value) (ls : List (List (List UInt8))) (w : World) (hvs : vs.length = ls.length) (hl : ls.length ≤ 100) (hb : b < w.heap.size) (hcs : ∀ (i : Nat) (h : i < ls.length), w.cell? ⟨b, i, none⟩ = some (vs[i]'(by omega)) ∧ RowIs strC w (vs[i]'(by omega)) ls[i]) (hlen : ls.flatten.length ≤ 4000) :
    Calls Tryz.prog 17 #[.slice (some ⟨b, 0, none⟩) ls.length ls.length] w fun e w' => ∃ u, e = .returned u ∧ StrsRow w' w.heap.size u ls.flatten ∧ Below w.heap.size w w' := by
  have HC := Lib.hid hcs
  have HLn := Lib.hid hlen
  have HL := Lib.hid hl
  have HF := Lib.hid (fun k => flat_take_le ls k)
  have HT := Lib.hid (fun k (h : k < ls.length) => flats_take ls h)
  have HTl := Lib.hid (show (ls.take ls.length).flatten = ls.flatten by rw [List.take_length])
  have HBl := Lib.hid hb
  clear hcs hlen hl hb
  go_enter Tryz.func17, Tryz.ntmps17
  go_wp2_with fail
  go_loopw [3, 11] (fun s i wr => ∃ k : Nat, k ≤ ls.length ∧ i = .int .i64 (k : Int) ∧ s = .int .i64 (((ls.take k).flatten.length : Nat) : Int) ∧ w = wr) (fun _ i _ => ls.length - (intOf i).toNat)
  case atStart => exact ⟨0, by omega, rfl, rfl, rfl⟩
  case round =>
    obtain ⟨k, hk, rfl, rfl, rfl⟩ := hrel
    by_cases hlt : k < ls.length
    · obtain ⟨hc, hr⟩ := HC.out k hlt
      obtain ⟨p, c, hv⟩ := rowIs_shape hr
      rw [hv] at hc
      have dk : decide ((k : Int) < (ls.length : Int)) = true := by simp; omega
      have dk2 : decide (k < ls.length) = true := by simpa using hlt
      have hwk : IntKind.i64.wrap ((k : Int) + 1) = (k : Int) + 1 := by have := HL.out; rw [IntKind.wrap_i64]; omega
      have h0 : (0 : Int) ≤ (k : Int) := by omega
      have h3 : (k : Int) < (ls.length : Int) := by omega
      have hle := HF.out (k + 1)
      have hsum : ((ls.take (k + 1)).flatten.length : Nat) = (ls.take k).flatten.length + ls[k].length := by rw [HT.out k hlt, List.length_append]
      have HS := Lib.hid hsum
      have HKl := Lib.hid hlt
      have h5 : (ls.take k).flatten.length + ls[k].length ≤ 4000 := by have := HLn.out; omega
      clear hr hv hle hsum
      generalize ls[k].length = d at *
      clear hlt hk
      generalize hm : (ls.take k).flatten.length = m at *
      have hws : IntKind.i64.wrap ((m : Int) + (d : Int)) = (m : Int) + (d : Int) := by rw [IntKind.wrap_i64]; omega
      have dn : decide ((m : Int) + (d : Int) < 0) = false := by simp; omega
      clear hm
      go_wp2_with fail
      go_roundw
      case rel => exact ⟨k + 1, by have := HKl.out; omega, by go_num, by rw [HS.out, Int.natCast_add], by trivial⟩
      case measure => have := HKl.out; simp [intOf]; omega
    · obtain rfl : k = ls.length := by omega
      have dk : decide ((ls.length : Int) < (ls.length : Int)) = false := by simp
      rw [HTl.out]
      have HGr := Lib.hid (fun V => dpGrow_any ls.flatten.length (by have := HLn.out; omega) V)
      generalize hm : ls.flatten.length = m at *
      clear hlt hk hm
      go_wp2_with fail
      with_reducible refine (HGr.out _).mono ?_
      rintro e w2 ⟨v, rfl, hr, hB⟩
      have HG0 := Lib.hid (show LncW w v (ls.take 0).flatten w2 from ⟨hB, hr⟩)
      clear hr hB HGr
      go_wp2_with fail
      go_loopw [6, 27] (fun u i V => ∃ k : Nat, k ≤ ls.length ∧ i = .int .i64 (k : Int) ∧ LncW w u (ls.take k).flatten V) (fun _ i _ => ls.length - (intOf i).toNat)
      case atStart => exact ⟨0, by omega, rfl, HG0.out⟩
      case round =>
        obtain ⟨k, hk, rfl, hg⟩ := hrel
        have HG := Lib.hid hg
        clear hg HG0
        by_cases hlt : k < ls.length
        · obtain ⟨hc, hr⟩ := HC.out k hlt
          have dk : decide ((k : Int) < (ls.length : Int)) = true := by simp; omega
          have dk2 : decide (k < ls.length) = true := by simpa using hlt
          have hwk : IntKind.i64.wrap ((k : Int) + 1) = (k : Int) + 1 := by have := HL.out; rw [IntKind.wrap_i64]; omega
          have h0 : (0 : Int) ≤ (k : Int) := by omega
          have h3 : (k : Int) < (ls.length : Int) := by omega
          have hc2 := (HG.out.below.cell (p := ⟨b, k, none⟩) HBl.out).trans hc
          have HR := Lib.hid (rowIs_below hr HG.out.below)
          have HS := Lib.hid (HT.out k hlt)
          have hle := HF.out (k + 1)
          rw [HT.out k hlt, List.length_append] at hle
          have HLe := Lib.hid (show (ls.take k).flatten.length + ls[k].length ≤ 4000 from Nat.le_trans hle HLn.out)
          have HKl := Lib.hid hlt
          clear hc hr hle
          generalize ls[k] = l at *
          generalize vs[k] = y at *
          generalize hm : (ls.take k).flatten = m at *
          clear hlt hk hm
          go_wp2_with (at_builtin; refine wpList_append_rows strC_size (by decide) strC_one rfl _ _ 32 rfl w.heap.size Tryz.underlying32 infoStr rfl rfl rfl HG.out.own HR.out (by have := HLe.out; unfold maxLen; omega) (by have := HLe.out; omega) HG.out.below.size ?_; intro v3 w3 h3r h3g; have HG3 := Lib.hid (HG.out.push h3r h3g); clear h3r h3g)
          go_roundw
          case rel => exact ⟨k + 1, by have := HKl.out; omega, by go_num, by rw [HS.out]; exact HG3.out⟩
          case measure => have := HKl.out; simp [intOf]; omega
        · obtain rfl : k = ls.length := by omega
          rw [HTl.out] at HG
          have dk : decide ((ls.length : Int) < (ls.length : Int)) = false := by simp
          clear hlt hk
          go_wp2_with fail
          go_ret
          exact ⟨_, rfl, HG.out.own, HG.out.below⟩
end Go.Proofs.YtmaachmidgfhdaaGreatDoor

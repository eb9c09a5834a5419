/-
  The document's table of pieces.
-/
import Derived.BigQuiet
import Derived.Deep.DeepCutAuto
import Derived.Test.YtfhjmhmgkdadhaaDoorWLexC
import Derived.Test.YtfhjmhmgkdadhaaDoorW1
/-! LexD -/
namespace Go.Proofs.YtfhjmhmgkdadhaaDoor
open Go.RowKit

theorem infoPc : (Tryd.prog.info? 52).map (fun i => (i.zero, i.size, i.bytes)) = some (some (.agg (pieC (⟨0, [], 0⟩, 0))), 4, 40) := by kernel_rfl
abbrev PcRow (w : World) (base : Nat) (v : Value) (l : List (Pc × Nat)) : Prop := w.ownsRow base 52 4 v l.length (flatC pieC l)
theorem pcRow_at {w : World} {base : Nat} {v : Value} {l : List (Pc × Nat)} (h : PcRow w base v l) : PiesAt w v l := SlAt.ofRow pieC_size h fun _ _ => trivial
/-- The rows so far. -/
structure TbW (w : World) (v : Value) (m : List (Pc × Nat)) (V : World) : Prop where
  below : Below w.heap.size w V
  own : PcRow V w.heap.size v m
theorem pcRow_low {V : World} {base : Nat} {v : Value} {m : List (Pc × Nat)} (h : PcRow V base v m) {r : Nat} (e : v.ownBlock = some r) : base ≤ r := by
  obtain ⟨-, ⟨rfl, -⟩ | ⟨g, cap, cur, rfl, hb, -⟩⟩ := h
  · cases e
  · cases e; exact hb
theorem TbW.step {w : World} {v : Value} {m : List (Pc × Nat)} {V V' : World} (h : TbW w v m V) (hB : Below V.heap.size V V') : TbW w v m V' := ⟨h.below.trans (hB.mono h.below.size), own_belowC h.own hB⟩
theorem TbW.push {w : World} {v v' : Value} {m l : List (Pc × Nat)} {V V' : World} (h : TbW w v m V) (hr : PcRow V' w.heap.size v' (m ++ l)) (hg : V.grownBy V' v.ownBlock) : TbW w v' (m ++ l) V' :=
  ⟨h.below.grown hg h.below.size fun _ e => pcRow_low h.own e, hr⟩
theorem pc_made (V : World) (l : List (Pc × Nat)) (cs : Array Value) (n : Nat) (hn : n = l.length) (hc : cs = (flatC pieC l).toArray) (h : n ≤ 100) : RowIs pieC (V.alloc (.cells cs 52)) (.slice (some ⟨V.heap.size, 0, none⟩) n n) l := by
  subst hn; subst hc
  exact rowIs_at pieC_size (by decide) (SlAt.ofBlk pieC_size (ok := fun _ => True) (Blk.new V _ _) (by omega) fun _ _ => trivial)
def pcTwo (n : Nat) : List (Pc × Nat) := [(⟨2, 114 :: dig n, n⟩, 0), (⟨3, 116 :: dig n, n⟩, 0)]
def tab0 : List (Pc × Nat) := tabPc.map fun x => (x, 0)
theorem tab_parts : tab0 = (List.range 16).flatMap pcTwo ++ (wordsPc.map fun t => ((⟨1, t, 0⟩ : Pc), 0)) ++ signsPc.map fun t => ((⟨4, t, 0⟩ : Pc), 0) := by decide +kernel
theorem two_len (n : Nat) : ((List.range n).flatMap pcTwo).length = 2 * n := by
  induction n with
  | zero => rfl
  | succ n ih =>
    rw [List.range_succ, List.flatMap_append, List.length_append, ih, List.flatMap_cons, List.flatMap_nil, List.append_nil]
    show 2 * n + 2 = _
    omega
/-- .. beside a block of texts. -/
structure TcW (w : World) (g : Nat) (cs : Array Value) (v : Value) (m : List (Pc × Nat)) (V : World) : Prop where
  tb : TbW w v m V
  blk : Blk V g cs 9
theorem pc_ne : 9 ≠ 52 := by decide
theorem TcW.step {w : World} {g : Nat} {cs : Array Value} {v : Value} {m : List (Pc × Nat)} {V V' : World} (h : TcW w g cs v m V) (hB : Below V.heap.size V V') : TcW w g cs v m V' := ⟨h.tb.step hB, Blk.below h.blk hB h.blk.lt⟩
theorem TcW.push {w : World} {g : Nat} {cs : Array Value} {v v' : Value} {m l : List (Pc × Nat)} {V V' : World} (h : TcW w g cs v m V) (hr : PcRow V' w.heap.size v' (m ++ l)) (hg : V.grownBy V' v.ownBlock) : TcW w g cs v' (m ++ l) V' :=
  ⟨h.tb.push hr hg, (hg.block g h.blk.lt fun e => blk_not_row h.blk pc_ne h.tb.own e.symm).trans h.blk⟩
def textsC (l : List (List UInt8)) : Array Value := (l.map fun t => Value.string ⟨t.toArray⟩).toArray
theorem textsC_at {l : List (List UInt8)} {k : Nat} (h : k < l.length) : (textsC l)[k]? = some (.string ⟨(l[k]).toArray⟩) := by
  unfold textsC
  rw [List.getElem?_toArray, List.getElem?_map, List.getElem?_eq_getElem h]
  rfl
def kindT (c : Nat) (l : List (List UInt8)) : List (Pc × Nat) := l.map fun t => ((⟨c, t, 0⟩ : Pc), 0)
theorem kindT_take (c : Nat) (l : List (List UInt8)) {k : Nat} (h : k < l.length) : kindT c (l.take (k + 1)) = kindT c (l.take k) ++ [(⟨c, l[k], 0⟩, 0)] := by
  unfold kindT
  rw [List.take_succ_eq_append_getElem h, List.map_append]
  rfl
theorem kindT_len (c : Nat) (l : List (List UInt8)) (k : Nat) : (kindT c (l.take k)).length ≤ k := by
  unfold kindT
  rw [List.length_map, List.length_take]
  omega
theorem words_lit : #[Value.string ⟨#[97, 108, 108]⟩, Value.string ⟨#[108, 105, 118, 101]⟩, Value.string ⟨#[109, 105, 110, 101]⟩, Value.string ⟨#[117, 112]⟩, Value.string ⟨#[100, 111, 119, 110]⟩, Value.string ⟨#[116, 97, 103, 115]⟩, Value.string ⟨#[111, 119, 110, 101, 114, 115]⟩, Value.string ⟨#[99, 111, 117, 110, 116]⟩, Value.string ⟨#[115, 111, 109, 101]⟩] = textsC wordsPc := rfl
theorem signs_lit : #[Value.string ⟨#[124]⟩, Value.string ⟨#[38]⟩, Value.string ⟨#[45]⟩, Value.string ⟨#[40]⟩, Value.string ⟨#[41]⟩, Value.string ⟨#[60, 61]⟩] = textsC signsPc := rfl
set_option maxRecDepth 100000 in
set_option maxHeartbeats 3200000 in
theorem rlTable_any (w : World) : Calls Tryd.prog 27 #[] w fun e w' => ∃ v, e = .returned v ∧ PcRow w' w.heap.size v tab0 ∧ Below w.heap.size w w' := by
  rw [tab_parts]
  have HG0 := Lib.hid (show TbW w (.slice none 0 0) ((List.range 0).flatMap pcTwo) w from ⟨Below.refl _ _, World.ownsRow_nil _ _ _ _⟩)
  go_enter Tryd.func27, Tryd.ntmps27
  go_wp2_with fail
  go_loopw [1, 2] (fun v i V => ∃ n : Nat, n ≤ 16 ∧ i = .int .i64 (n : Int) ∧ TbW w v ((List.range n).flatMap pcTwo) V) (fun _ i _ => 16 - (intOf i).toNat)
  case atStart => exact ⟨0, by omega, rfl, HG0.out⟩
  case round =>
    obtain ⟨n, hn, rfl, hg⟩ := hrel
    have HG := Lib.hid hg
    have HLm := Lib.hid (two_len n)
    clear hg HG0
    by_cases hlt : n < 16
    · have dn : decide ((n : Int) < 16) = true := by simp; omega
      have dn2 : decide (n < 16) = true := by simpa using hlt
      have hw : IntKind.i64.wrap ((n : Int) + 1) = (n : Int) + 1 := by rw [IntKind.wrap_i64]; omega
      have HS := Lib.hid (show (List.range (n + 1)).flatMap pcTwo = (List.range n).flatMap pcTwo ++ [(⟨2, 114 :: dig n, n⟩, 0), (⟨3, 116 :: dig n, n⟩, 0)] from by rw [List.range_succ, List.flatMap_append, List.flatMap_cons, List.flatMap_nil, List.append_nil]; rfl)
      have HN := Lib.hid (rdNum_any n hlt)
      have HD := Lib.hid (dig_len ⟨n, hlt⟩).2
      have HNl := Lib.hid hlt
      generalize (List.range n).flatMap pcTwo = m at *
      generalize dig n = d at *
      clear hn hlt
      go_wp2_with fail
      refine (HN.out _).mono ?_
      rintro e w2 ⟨rfl, rfl⟩
      go_wp2_with (first | (refine wpList_of rfl (exec_cat (l := [114]) (m := d) rfl rfl rfl (by have := HD.out; simp at this ⊢; omega)) ?_))
      refine (HN.out _).mono ?_
      rintro e w2 ⟨rfl, rfl⟩
      go_wp2_with (first | (refine wpList_of rfl (exec_cat (l := [116]) (m := d) rfl rfl rfl (by have := HD.out; simp at this ⊢; omega)) ?_) | (at_builtin; refine wpList_append_rows pieC_size (by decide) pieC_one rfl _ _ 46 rfl w.heap.size Tryd.underlying46 infoPc rfl rfl rfl (own_belowC HG.out.own (belowNew _ _)) (pc_made _ [(⟨2, 114 :: d, n⟩, 0), (⟨3, 116 :: d, n⟩, 0)] _ 2 rfl rfl (by decide)) (by have := HLm.out; have := HNl.out; unfold maxLen; simp only [List.length_cons, List.length_nil]; omega) (by have := HLm.out; have := HNl.out; simp only [List.length_cons, List.length_nil]; omega) (by have := HG.out.below.size; simp; omega) ?_; intro v7 w7 hr7 hg7; have HG7 := Lib.hid ((HG.out.step (belowNew _ _)).push hr7 hg7); clear hr7 hg7))
      go_roundw
      case rel => exact ⟨n + 1, by have := HNl.out; omega, by go_num, by rw [HS.out]; exact HG7.out⟩
      case measure => have := HNl.out; simp [intOf]; omega
    · have HE := Lib.hid (show (List.range n).flatMap pcTwo = (List.range 16).flatMap pcTwo by rw [show n = 16 by omega])
      have dn : decide ((n : Int) < 16) = false := by simp; omega
      have dn2 : decide (n < 16) = false := by simpa using hlt
      have HM16 := Lib.hid (show 2 * n ≤ 32 by omega)
      clear hn hlt
      generalize (List.range n).flatMap pcTwo = M at *
      go_upto_region 7 with fail
      have HA := Lib.hid (show TcW w wr.heap.size (textsC wordsPc) u1 M (wr.alloc (.cells (textsC wordsPc) 9)) from ⟨HG.out.step (belowNew _ _), Blk.new _ _ _⟩)
      rw [words_lit]
      generalize wr.alloc (.cells (textsC wordsPc) 9) = wa at *
      generalize wr.heap.size = gw at *
      clear HG
      go_wp2_with fail
      go_loopw [1, 4] (fun v i V => ∃ k : Nat, k ≤ 9 ∧ i = .int .i64 (k : Int) ∧ TcW w gw (textsC wordsPc) v (M ++ kindT 1 (wordsPc.take k)) V) (fun _ i _ => 9 - (intOf i).toNat)
      case atStart => exact ⟨0, by omega, rfl, by rw [List.take_zero]; show TcW _ _ _ _ (_ ++ []) _; rw [List.append_nil]; exact HA.out⟩
      case round =>
        obtain ⟨k, hk, rfl, hg⟩ := hrel
        have HG := Lib.hid hg
        have HKl := Lib.hid (kindT_len 1 wordsPc k)
        clear hg HA
        by_cases hlt : k < 9
        · have dk : decide ((k : Int) < 9) = true := by simp; omega
          have dk2 : decide (k < 9) = true := by simpa using hlt
          have hw : IntKind.i64.wrap ((k : Int) + 1) = (k : Int) + 1 := by rw [IntKind.wrap_i64]; omega
          have h0 : (0 : Int) ≤ (k : Int) := by omega
          have h3 : (k : Int) < 9 := by omega
          have hc := (HG.out.blk.cell k).trans (textsC_at (l := wordsPc) hlt)
          have HS := Lib.hid (kindT_take 1 wordsPc (k := k) hlt)
          have HN := Lib.hid hlt
          generalize wordsPc[k] = tx at *
          generalize kindT 1 (wordsPc.take k) = m at *
          clear hlt hk
          go_wp2_with (at_builtin; refine wpList_append_rows pieC_size (by decide) pieC_one rfl _ _ 46 rfl w.heap.size Tryd.underlying46 infoPc rfl rfl rfl (own_belowC HG.out.tb.own (belowNew _ _)) (pc_made _ [(⟨1, tx, 0⟩, 0)] _ 1 rfl rfl (by decide)) (by have := HKl.out; have := HN.out; have := HLm.out; have := HM16.out; unfold maxLen; simp only [List.length_append, List.length_cons, List.length_nil]; omega) (by have := HKl.out; have := HN.out; have := HLm.out; have := HM16.out; simp only [List.length_append, List.length_cons, List.length_nil]; omega) (by have := HG.out.tb.below.size; simp; omega) ?_; intro v7 w7 hr7 hg7; have HG7 := Lib.hid ((HG.out.step (belowNew _ _)).push hr7 hg7); clear hr7 hg7)
          go_roundw
          case rel => exact ⟨k + 1, by have := HN.out; omega, by go_num, by rw [HS.out, ← List.append_assoc]; exact HG7.out⟩
          case measure => have := HN.out; simp [intOf]; omega
        · have HK1 := Lib.hid (show kindT 1 (wordsPc.take k) = kindT 1 wordsPc by rw [show k = 9 by omega]; rfl)
          have dk : decide ((k : Int) < 9) = false := by simp; omega
          have dk2 : decide (k < 9) = false := by simpa using hlt
          have HL1 := Lib.hid (Nat.le_trans HKl.out hk)
          generalize kindT 1 (wordsPc.take k) = K1 at *
          clear hlt hk HKl
          go_upto_region 12 with fail
          rw [signs_lit]
          have HB := Lib.hid (show TcW w wr.heap.size (textsC signsPc) u1 (M ++ K1) (wr.alloc (.cells (textsC signsPc) 9)) from ⟨HG.out.tb.step (belowNew _ _), Blk.new _ _ _⟩)
          generalize wr.alloc (.cells (textsC signsPc) 9) = wb at *
          generalize wr.heap.size = gs at *
          clear HG
          go_wp2_with fail
          go_loopw [1, 6] (fun v i V => ∃ k : Nat, k ≤ 6 ∧ i = .int .i64 (k : Int) ∧ TcW w gs (textsC signsPc) v ((M ++ K1) ++ kindT 4 (signsPc.take k)) V) (fun _ i _ => 6 - (intOf i).toNat)
          case atStart => exact ⟨0, by omega, rfl, by rw [List.take_zero]; show TcW _ _ _ _ (_ ++ []) _; rw [List.append_nil]; exact HB.out⟩
          case round =>
            obtain ⟨j, hk, rfl, hg⟩ := hrel
            have HG := Lib.hid hg
            have HKl := Lib.hid (kindT_len 4 signsPc j)
            clear hg HB
            by_cases hlt : j < 6
            · have dk : decide ((j : Int) < 6) = true := by simp; omega
              have dk2 : decide (j < 6) = true := by simpa using hlt
              have hw : IntKind.i64.wrap ((j : Int) + 1) = (j : Int) + 1 := by rw [IntKind.wrap_i64]; omega
              have h0 : (0 : Int) ≤ (j : Int) := by omega
              have h3 : (j : Int) < 6 := by omega
              have hc := (HG.out.blk.cell j).trans (textsC_at (l := signsPc) hlt)
              have HS := Lib.hid (kindT_take 4 signsPc (k := j) hlt)
              have HN := Lib.hid hlt
              generalize signsPc[j] = tx at *
              generalize kindT 4 (signsPc.take j) = m at *
              clear hlt hk
              go_wp2_with (at_builtin; refine wpList_append_rows pieC_size (by decide) pieC_one rfl _ _ 46 rfl w.heap.size Tryd.underlying46 infoPc rfl rfl rfl (own_belowC HG.out.tb.own (belowNew _ _)) (pc_made _ [(⟨4, tx, 0⟩, 0)] _ 1 rfl rfl (by decide)) (by have := HKl.out; have := HN.out; have := HLm.out; have := HM16.out; have := HL1.out; unfold maxLen; simp only [List.length_append, List.length_cons, List.length_nil]; omega) (by have := HKl.out; have := HN.out; have := HLm.out; have := HM16.out; have := HL1.out; simp only [List.length_append, List.length_cons, List.length_nil]; omega) (by have := HG.out.tb.below.size; simp; omega) ?_; intro v7 w7 hr7 hg7; have HG7 := Lib.hid ((HG.out.step (belowNew _ _)).push hr7 hg7); clear hr7 hg7)
              go_roundw
              case rel => exact ⟨j + 1, by have := HN.out; omega, by go_num, by rw [HS.out, ← List.append_assoc]; exact HG7.out⟩
              case measure => have := HN.out; simp [intOf]; omega
            · have HK4 := Lib.hid (show kindT 4 (signsPc.take j) = kindT 4 signsPc by rw [show j = 6 by omega]; rfl)
              have dk : decide ((j : Int) < 6) = false := by simp; omega
              have dk2 : decide (j < 6) = false := by simpa using hlt
              have HL4 := Lib.hid (Nat.le_trans HKl.out hk)
              generalize kindT 4 (signsPc.take j) = K4 at *
              clear hlt hk HKl
              have HF := Lib.hid (show M ++ K1 ++ K4 = (List.range 16).flatMap pcTwo ++ (wordsPc.map fun t => ((⟨1, t, 0⟩ : Pc), 0)) ++ signsPc.map fun t => ((⟨4, t, 0⟩ : Pc), 0) from by rw [HE.out, HK1.out, HK4.out]; rfl)
              go_wp2_with fail
              go_ret
              exact ⟨_, rfl, by rw [← HF.out]; exact HG.out.tb.own, HG.out.tb.below⟩
end Go.Proofs.YtfhjmhmgkdadhaaDoor

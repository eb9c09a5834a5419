/-
  The document's policies: Bytes.
-/
import Derived.Test.YtimbhamdblganaaDoorWPolA
import Derived.Test.YtimbhamdblganaaDoorW1
/-! PolZ -/
namespace Go.Proofs.YtimbhamdblganaaDoor
open Go.RowKit

/-- A policy's bytes: the roles that are there, those below k; then the tags, those below t. -/
def roleL (p : Pol) (r : Nat) : List UInt8 := if p.live.testBit r = true then be (p.s r) 2 ++ be (p.i r) 2 ++ be (p.acts r) 2 else []
def bytR (p : Pol) : Nat → List UInt8
  | 0 => be p.live 2
  | k + 1 => bytR p k ++ roleL p k
def bytO (p : Pol) : Nat → List UInt8
  | 0 => bytR p 16 ++ be p.active 2
  | t + 1 => bytO p t ++ [UInt8.ofNat (p.owner t)]
def bytesP (p : Pol) : List UInt8 := bytO p 16
theorem roleL_le (p : Pol) (r : Nat) : (roleL p r).length ≤ 6 := by
  unfold roleL; split
  · simp [be_length]
  · simp
theorem bytR_le (p : Pol) (k : Nat) : (bytR p k).length ≤ 2 + 6 * k := by
  induction k with
  | zero => simp [bytR, be_length]
  | succ k ih => unfold bytR; rw [List.length_append]; have := roleL_le p k; omega
theorem bytO_le (p : Pol) (t : Nat) : (bytO p t).length ≤ 100 + t := by
  induction t with
  | zero => unfold bytO; rw [List.length_append, be_length]; have := bytR_le p 16; omega
  | succ t ih => unfold bytO; rw [List.length_append]; simp; omega
theorem be_two (s : Nat) : be s 2 = [UInt8.ofNat (s / 256), UInt8.ofNat s] := by simp [be]
/-- A row of its own is the block that was just made. -/
theorem own_lit {w : World} {B g : Nat} {l : List UInt8} {t : TypeId} (h : Blk w g (bvA l) t) (hB : B ≤ g) (hn : l.length ≤ maxLen) : w.ownsRow B t 1 (.slice (some ⟨g, 0, none⟩) l.length l.length) l.length (bvs l) :=
  ⟨by rw [bvs_length]; omega, .inr ⟨g, l.length, bvA l, rfl, hB, h, Nat.le_refl _, hn, by rw [bvA_size, Nat.mul_one], by rw [Nat.mul_one, List.take_of_length_le (by simp [bvA, bvs_length])]; rfl⟩⟩
def TwoIs (w : World) (s : Nat) (e : Ending) (w' : World) : Prop := ∃ g, e = .returned (.slice (some ⟨g, 0, none⟩) 2 2) ∧ w'.ownsRow w.heap.size 5 1 (.slice (some ⟨g, 0, none⟩) 2 2) 2 (bvs (be s 2)) ∧ Below w.heap.size w w'
theorem rpTwo_any (s : Nat) (w : World) (hs : s < 65536) : Calls Tryd.prog 55 #[.int .u16 (s : Int)] w (TwoIs w s) := by
  have HE := Lib.hid (show (#[.int .u8 ((s : Int) / 256), .int .u8 ((s : Int) % 256)] : Array Value) = bvA (be s 2) by
    rw [be_two]; simp [bvA, bvs]; omega)
  have e1 : IntKind.u8.wrap ((s : Int) / 256) = (s : Int) / 256 := by unfold IntKind.wrap; simp [IntKind.signed, IntKind.bits]; omega
  go_enter Tryd.func55, Tryd.ntmps55
  go_wp2_with fail
  refine bodyPost_ret (results_tmp rfl _ _ _) rfl ?_
  have hb := Blk.new w (#[.int .u8 ((s : Int) / 256), .int .u8 ((s : Int) % 256)]) 5
  rw [HE.out] at hb ⊢
  have h2 : (be s 2).length = 2 := be_length s 2
  have h3 := own_lit hb (Nat.le_refl _) (by rw [h2]; decide)
  rw [h2] at h3
  exact ⟨w.heap.size, rfl, h3, belowNew w _⟩
theorem PW.grow {w : World} {b : Nat} {p : Pol} {V V' : World} {row : Option Nat} (h : PW w b p V) (hg : V.grownBy V' row) (hr : ∀ k, row = some k → b < k) : PW w b p V' :=
  ⟨h.below.grown hg (by rw [h.at_]; exact h.below.size) (fun k hk => Nat.le_of_lt (hr k hk)), (hg.block b h.row.lt (fun e => by have := hr b e.symm; omega)).trans h.row, h.at_⟩
/-- What is written so far, in a row of its own. -/
structure ZW (w : World) (b : Nat) (p : Pol) (l : List UInt8) (v : Value) (V : World) : Prop where
  pw : PW w b p V
  row : V.ownsRow (b + 1) 5 1 v l.length (bvs l)
theorem ZW.step {w : World} {b : Nat} {p : Pol} {l : List UInt8} {v : Value} {V V' : World} (h : ZW w b p l v V) (hB : Below V.heap.size V V') : ZW w b p l v V' := ⟨h.pw.step hB, own_below h.row hB (Nat.le_refl _)⟩
theorem ZW.more {w : World} {b : Nat} {p : Pol} {l m : List UInt8} {v v' : Value} {V V' : World} (h : ZW w b p l v V) (hr : V'.ownsRow (b + 1) 5 1 v' (l ++ m).length (bvs (l ++ m))) (hg : V.grownBy V' v.ownBlock) : ZW w b p (l ++ m) v' V' :=
  ⟨h.pw.grow hg (fun k hk => (h.row.lt k hk).1), hr⟩
theorem ZW.base {w : World} {b : Nat} {p : Pol} {l : List UInt8} {v : Value} {V : World} (h : ZW w b p l v V) : b + 1 ≤ V.heap.size := h.pw.row.lt
theorem two_bs {w : World} {B g s : Nat} (h : w.ownsRow B 5 1 (.slice (some ⟨g, 0, none⟩) 2 2) 2 (bvs (be s 2))) : BsAt w (some ⟨g, 0, none⟩) 2 2 (be s 2) := by
  have h2 : (be s 2).length = 2 := be_length s 2
  have h3 : w.ownsRow B 5 1 (.slice (some ⟨g, 0, none⟩) 2 2) (be s 2).length (bvs (be s 2)) := by rw [h2]; exact h
  obtain ⟨p, c, e, hb⟩ := BsAt.ofRow h3
  rw [h2, Value.slice.injEq] at e
  obtain ⟨rfl, -, rfl⟩ := e
  rw [h2] at hb; exact hb
set_option maxRecDepth 100000 in
set_option maxHeartbeats 3200000 in
theorem rpBytes_any (p : Pol) (w : World) (hp : PolOk p) :
    Calls Tryd.prog 37 #[.agg (polC p)] w fun e w' => ∃ v, e = .returned v ∧ w'.ownsRow w.heap.size 5 1 v (bytesP p).length (bvs (bytesP p)) ∧ Below w.heap.size w w' := by
  have HG0 := Lib.hid (show PW w w.heap.size p (w.alloc (.cells (polC p) 46)) from ⟨belowNew w _, PRow.new w p, rfl⟩)
  have HHl := Lib.hid (fun V (r : Nat) => gHas_any p.live r V hp.live)
  have HOk := Lib.hid hp
  have HLr := Lib.hid (bytR_le p)
  have HLo := Lib.hid (bytO_le p)
  clear hp
  go_enter Tryd.func37, Tryd.ntmps37
  go_upto_region 1 with fail
  generalize w.alloc _ = w1 at *
  generalize hbp : w.heap.size = bp at *
  have HBp := Lib.hid hbp
  clear hbp
  have k0 := HG0.out.row.live
  go_wp2_with fail
  refine (rpTwo_any p.live w1 HOk.out.live).mono ?_
  rintro e w2 ⟨g, rfl, hrow, hB⟩
  have HZ := Lib.hid (show ZW w bp p (bytR p 0) (.slice (some ⟨g, 0, none⟩) 2 2) w2 from ⟨HG0.out.step hB, by
    have h1 : bp + 1 ≤ w1.heap.size := HG0.out.row.lt
    have h2 : (bytR p 0).length = 2 := be_length _ 2
    rw [h2]
    obtain ⟨h3, h4⟩ := hrow
    refine ⟨h3, ?_⟩
    rcases h4 with h4 | ⟨g', cap, cur, h5, h6, h7⟩
    · exact .inl h4
    · exact .inr ⟨g', cap, cur, h5, Nat.le_trans h1 h6, h7⟩⟩)
  clear hrow hB k0 HG0
  generalize Value.slice (some ⟨g, 0, none⟩) 2 2 = v0 at *
  go_wp2_with fail
  go_loopw [4, 3] (fun i v wr => ∃ k : Nat, k ≤ 16 ∧ i = .int .i64 (k : Int) ∧ ZW w bp p (bytR p k) v wr) (fun i _ _ => 16 - (intOf i).toNat)
  case atStart => exact ⟨0, by omega, rfl, HZ.out⟩
  case round =>
    obtain ⟨k, hk, rfl, hz⟩ := hrel
    have HG := Lib.hid hz
    obtain ⟨pv, cv, rfl⟩ := own_form hz.row
    clear hz HZ
    by_cases hlt : k < 16
    · have dk : decide ((k : Int) < 16) = true := by simp; omega
      have hk16 : (k : Int) < 16 := by omega
      have HHk := Lib.hid (fun V => HHl.out V k)
      have k0 := HG.out.pw.row.live
      have HLk := Lib.hid (HLr.out k)
      cases hl : p.live.testBit k with
      | false =>
        rw [hl] at HHk
        have HE := Lib.hid (show bytR p k = bytR p (k + 1) by
          show _ = bytR p k ++ roleL p k
          unfold roleL; rw [if_neg (by rw [hl]; simp), List.append_nil])
        clear hl
        go_wp2_with fail
        refine (HHk.out _).mono ?_
        rintro e wx ⟨rfl, rfl⟩
        go_wp2_with fail
        rw [HE.out] at HG
        go_roundw
        case rel => exact ⟨k + 1, by omega, by go_num, by rw [HE.out]; exact HG.out⟩
        case measure => simp [intOf]; omega
      | true =>
        rw [hl] at HHk
        have HE := Lib.hid (show bytR p k ++ be (p.s k) 2 ++ be (p.i k) 2 ++ be (p.acts k) 2 = bytR p (k + 1) by
          show _ = bytR p k ++ roleL p k
          unfold roleL; rw [if_pos hl, ← List.append_assoc, ← List.append_assoc])
        clear hl
        have ks := HG.out.pw.row.s hlt
        have HSb := Lib.hid (HOk.out.s k hlt)
        have HIb := Lib.hid (HOk.out.i k hlt)
        have HAb := Lib.hid (HOk.out.acts k hlt)
        go_wp2_with fail
        refine (HHk.out _).mono ?_
        rintro e wx ⟨rfl, rfl⟩
        go_wp2_with fail
        refine (rpTwo_any _ wr HSb.out).mono ?_
        rintro e w3 ⟨g3, rfl, hrow3, hB3⟩
        have HG3 := Lib.hid (HG.out.step hB3)
        have hown := HG3.out.row
        have hbs := two_bs hrow3
        have hq : (bytR p k).length + (be (p.s k) 2).length ≤ 140737488355328 := by rw [be_length]; have := HLk.out; omega
        clear hrow3 hB3 k0 ks
        go_upto_region 7 with (at_builtin; refine wpList_append_bytes rfl _ _ 23 rfl (bp + 1) 5 Tryd.underlying23 infoU8 rfl hown rfl hbs hq HG3.out.base ?_; intro p4 n4 c4 w4 hrow4 hg4 hn4; have HG4 := Lib.hid (HG3.out.more hrow4 hg4); clear hrow4 hg4 hn4 hown hbs hq)
        have ks := HG4.out.pw.row.i hlt
        go_wp2_with fail
        refine (rpTwo_any _ w4 HIb.out).mono ?_
        rintro e w5 ⟨g5, rfl, hrow5, hB5⟩
        have HG5 := Lib.hid (HG4.out.step hB5)
        have hown := HG5.out.row
        have hbs := two_bs hrow5
        have hq : (bytR p k ++ be (p.s k) 2).length + (be (p.i k) 2).length ≤ 140737488355328 := by simp only [List.length_append, be_length]; have := HLk.out; omega
        clear hrow5 hB5 ks
        go_upto_region 8 with (at_builtin; refine wpList_append_bytes rfl _ _ 23 rfl (bp + 1) 5 Tryd.underlying23 infoU8 rfl hown rfl hbs hq HG5.out.base ?_; intro p6 n6 c6 w6 hrow6 hg6 hn6; have HG6 := Lib.hid (HG5.out.more hrow6 hg6); clear hrow6 hg6 hn6 hown hbs hq)
        have ks := HG6.out.pw.row.acts hlt
        go_wp2_with fail
        refine (rpTwo_any _ w6 HAb.out).mono ?_
        rintro e w7 ⟨g7, rfl, hrow7, hB7⟩
        have HG7 := Lib.hid (HG6.out.step hB7)
        have hown := HG7.out.row
        have hbs := two_bs hrow7
        have hq : (bytR p k ++ be (p.s k) 2 ++ be (p.i k) 2).length + (be (p.acts k) 2).length ≤ 140737488355328 := by simp only [List.length_append, be_length]; have := HLk.out; omega
        clear hrow7 hB7 ks
        go_wp2_with (at_builtin; refine wpList_append_bytes rfl _ _ 23 rfl (bp + 1) 5 Tryd.underlying23 infoU8 rfl hown rfl hbs hq HG7.out.base ?_; intro p8 n8 c8 w8 hrow8 hg8 hn8; have HG8 := Lib.hid (HG7.out.more hrow8 hg8); clear hrow8 hg8 hn8 hown hbs hq)
        rw [HE.out] at HG8
        go_roundw
        case rel => exact ⟨k + 1, by omega, by go_num, HG8.out⟩
        case measure => simp [intOf]; omega
    · obtain rfl : k = 16 := by omega
      have HLk := Lib.hid (HLr.out 16)
      have k0 := HG.out.pw.row.active
      go_wp2_with fail
      refine (rpTwo_any _ wr HOk.out.active).mono ?_
      rintro e w3 ⟨g3, rfl, hrow3, hB3⟩
      have HG3 := Lib.hid (HG.out.step hB3)
      have hown := HG3.out.row
      have hbs := two_bs hrow3
      have hq : (bytR p 16).length + (be p.active 2).length ≤ 140737488355328 := by rw [be_length]; have := HLk.out; omega
      clear hrow3 hB3 k0 HG
      go_upto_region 10 with (at_builtin; refine wpList_append_bytes rfl _ _ 23 rfl (bp + 1) 5 Tryd.underlying23 infoU8 rfl hown rfl hbs hq HG3.out.base ?_; intro p4 n4 c4 w4 hrow4 hg4 hn4; have HG4 := Lib.hid (show ZW w bp p (bytO p 0) (.slice p4 n4 c4) w4 from HG3.out.more hrow4 hg4); clear hrow4 hg4 hn4 hown hbs hq)
      clear HG3 HLk
      generalize Value.slice p4 n4 c4 = v4 at *
      go_wp2_with fail
      go_loopw [5, 3] (fun i v wr => ∃ t : Nat, t ≤ 16 ∧ i = .int .i64 (t : Int) ∧ ZW w bp p (bytO p t) v wr) (fun i _ _ => 16 - (intOf i).toNat)
      case atStart => exact ⟨0, by omega, rfl, HG4.out⟩
      case round =>
        obtain ⟨t, ht, rfl, hz⟩ := hrel
        have HG := Lib.hid hz
        obtain ⟨pv, cv, rfl⟩ := own_form hz.row
        clear hz HG4
        by_cases htt : t < 16
        · have dk : decide ((t : Int) < 16) = true := by simp; omega
          have ht16 : (t : Int) < 16 := by omega
          have k0 := HG.out.pw.row.owner htt
          have HLt := Lib.hid (HLo.out t)
          have hob := HOk.out.owner t htt
          have HGa := Lib.hid (HG.out.step (belowNew wr (.cells #[.int .u8 (p.owner t : Int)] 5)))
          have hown := HGa.out.row
          have hbs : BsAt (wr.alloc (.cells #[.int .u8 (p.owner t : Int)] 5)) (some ⟨wr.heap.size, 0, none⟩) 1 1 [UInt8.ofNat (p.owner t)] :=
            bsAt_new wr _ _ 0 [UInt8.ofNat (p.owner t)] (show 1 ≤ maxLen by decide) (fun i hi => by
              obtain rfl : i = 0 := by simpa using hi
              simp; omega)
          have hq : (bytO p t).length + [UInt8.ofNat (p.owner t)].length ≤ 140737488355328 := by have := HLt.out; simp; omega
          have HSz := Lib.hid HGa.out.base
          clear hob
          go_wp2_with (at_builtin; refine wpList_append_bytes rfl _ _ 23 rfl (bp + 1) 5 Tryd.underlying23 infoU8 rfl hown rfl hbs hq HSz.out ?_; intro p5 n5 c5 w5 hrow5 hg5 hn5; have HG5 := Lib.hid (show ZW w bp p (bytO p (t + 1)) (.slice p5 n5 c5) w5 from HGa.out.more hrow5 hg5); clear hrow5 hg5 hn5 hown hbs hq)
          go_roundw
          case rel => exact ⟨t + 1, by omega, by go_num, HG5.out⟩
          case measure => simp [intOf]; omega
        · obtain rfl : t = 16 := by omega
          go_wp2_with fail
          refine bodyPost_ret (results_tmp rfl _ _ _) rfl ?_
          refine ⟨_, rfl, ?_, HG.out.pw.all⟩
          have h1 := HG.out.row
          obtain ⟨h3, h4⟩ := h1
          refine ⟨h3, ?_⟩
          rcases h4 with h4 | ⟨g', cap, cur, h5, h6, h7⟩
          · exact .inl h4
          · exact .inr ⟨g', cap, cur, h5, by rw [HBp.out]; omega, h7⟩
end Go.Proofs.YtimbhamdblganaaDoor

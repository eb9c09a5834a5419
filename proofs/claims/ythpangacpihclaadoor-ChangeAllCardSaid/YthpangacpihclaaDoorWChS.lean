/-
  The document's changes: Bytes.
-/
import Derived.Deep.CutBlock
import Derived.Deep.DeepCutAuto
import Derived.Test.YthpangacpihclaaDoorWChQ
import Derived.Test.YthpangacpihclaaDoorWWpOf
import Derived.Test.YthpangacpihclaaDoorWChB
import Derived.Test.YthpangacpihclaaDoorW2
import Derived.Test.YthpangacpihclaaDoorW1
import Derived.Test.YthpangacpihclaaDoorW3
/-! ChS -/
namespace Go.Proofs.YthpangacpihclaaDoor
open Go.RowKit

def chgL (c : Cg) : List UInt8 := [UInt8.ofNat c.kind.toNat, UInt8.ofNat c.a.toNat, UInt8.ofNat c.b.toNat, UInt8.ofNat (c.s / 256), UInt8.ofNat (c.s % 256), UInt8.ofNat (c.i / 256), UInt8.ofNat (c.i % 256)]
def bytesK (l : List Cg) (k : Nat) : List UInt8 := UInt8.ofNat l.length :: (l.take k).flatMap chgL
def bytesQ (l : List Cg) : List UInt8 := bytesK l l.length
theorem bytesK_succ {l : List Cg} {k : Nat} (h : k < l.length) : bytesK l (k + 1) = bytesK l k ++ chgL l[k] := by
  unfold bytesK
  rw [List.take_succ_eq_append_getElem h, List.flatMap_append]
  simp [List.flatMap]
theorem bytesK_len (l : List Cg) (k : Nat) (h : k ≤ l.length) : (bytesK l k).length = 1 + 7 * k := by
  induction k with
  | zero => rfl
  | succ k ih =>
    rw [bytesK_succ (by omega), List.length_append, ih (by omega)]
    simp [chgL]; omega
structure BqW (w : World) (v : Value) (L : List UInt8) (V : World) : Prop where
  below : Below w.heap.size w V
  own : V.ownsRow w.heap.size 5 1 v L.length (bvs L)
theorem BqW.step {w : World} {v : Value} {L : List UInt8} {V V' : World} (h : BqW w v L V) (hB : Below V.heap.size V V') : BqW w v L V' :=
  ⟨h.below.trans (hB.mono h.below.size), own2_below h.own hB (Nat.le_refl _)⟩
theorem BqW.more {w : World} {v v' : Value} {L m : List UInt8} {V V' : World} (h : BqW w v L V) (hr : V'.ownsRow w.heap.size 5 1 v' (L ++ m).length (bvs (L ++ m))) (hg : V.grownBy V' v.ownBlock) : BqW w v' (L ++ m) V' :=
  ⟨h.below.grown hg h.below.size (fun k hk => (h.own.lt k hk).1), hr⟩
theorem lit_bs {w : World} {g : Nat} {l : List UInt8} {t : TypeId} (h : Blk w g (bvA l) t) (hn : l.length ≤ maxLen) : BsAt w (some ⟨g, 0, none⟩) l.length l.length l := by
  obtain ⟨p, c, e, hb⟩ := BsAt.ofRow (own_lit h (Nat.le_refl _) hn)
  rw [Value.slice.injEq] at e
  obtain ⟨rfl, -, rfl⟩ := e
  exact hb
set_option maxRecDepth 100000 in
set_option maxHeartbeats 3200000 in
theorem rcBytes_any (v : Value) (l : List Cg) (w : World) (h : ChsAt w v l) (h6 : l.length ≤ 6) (hg : ∀ c ∈ l, cgB c = true) :
    Calls Tryd.prog 27 #[v] w fun e w' => ∃ u, e = .returned u ∧ w'.ownsRow w.heap.size 5 1 u (bytesQ l).length (bvs (bytesQ l)) ∧ Below w.heap.size w w' := by
  obtain ⟨pt, cap, rfl, hm, hc⟩ := h
  have HC := Lib.hid hc
  have HGd := Lib.hid hg
  have hw8 : IntKind.u8.wrap ((l.length : Nat) : Int) = ((l.length : Nat) : Int) := IntWalk.u8_in _ (by omega)
  clear hc hg
  go_enter Tryd.func27, Tryd.ntmps27
  go_wp2_with fail
  have HB0 := Lib.hid (show BqW w (.slice (some ⟨w.heap.size, 0, none⟩) 1 1) (bytesK l 0) (w.alloc (.cells #[.int .u8 ((l.length : Nat) : Int)] 5)) from ⟨belowNew w _, rfl, .inr ⟨_, 1, _, rfl, Nat.le_refl _, Blk.new w _ _, Nat.le_refl _, by decide, rfl, by
    have e : (UInt8.ofNat l.length).toNat = l.length := by simp; omega
    simp [bytesK, bvs, e]⟩⟩)
  go_loopw [4, 3] (fun i s3 wr => ∃ k : Nat, k ≤ l.length ∧ i = .int .i64 (k : Int) ∧ BqW w s3 (bytesK l k) wr) (fun i _ _ => l.length - (intOf i).toNat)
  case atStart => exact ⟨0, by omega, rfl, HB0.out⟩
  case round =>
    obtain ⟨k, hk, rfl, hgg⟩ := hrel
    have HG := Lib.hid hgg
    clear hgg HB0
    by_cases hlt : k < l.length
    · obtain ⟨g, off, rfl, hg, hcs⟩ := HC.out (by intro e; rw [e] at hlt; simp at hlt)
      obtain ⟨hco, hcc⟩ := hcs k hlt
      have HN := Lib.hid (bytesK_succ hlt)
      have hgd := HGd.out l[k] (List.getElem_mem hlt)
      have hLn := bytesK_len l k hk
      generalize l[k] = c at *
      generalize bytesK l k = L at *
      have hce := ChCells.below (c := c) (off := off + k * 5) hcc HG.out.below hg
      have dk : decide ((k : Int) < (l.length : Int)) = true := by simp; omega
      have hlt' : (k : Int) < (l.length : Int) := by omega
      have hz := Blk.new wr (chgC ⟨0, 0, 0, 0, 0⟩) 31
      clear hcs hcc
      go_upto_region 6 with (first
        | (refine wpList_of rfl (exec_load_chgAt rfl rfl hce) ?_)
        | (refine wpList_store_arr rfl rfl _ _ _ rfl rfl rfl hz (infoChg _) rfl (chgC_one _) ?_; intro w5 hw5))
      have HG5 := Lib.hid (HG.out.step ((belowNew wr _).trans (hw5.below (by simp) (Nat.le_refl _))))
      obtain ⟨h1, h2, h3, h4, h5, -, h7⟩ := cgB_iff.1 hgd
      have hs := hco.s
      have hi := hco.i
      have hb16 : c.b ≤ 16 := by unfold mostN at h7; split at h7 <;> (try split at h7) <;> omega
      obtain ⟨ck, ca, cb, s, i⟩ := c
      simp only at h1 h2 h3 h4 h5 hb16 hs hi
      obtain ⟨kk, rfl⟩ := Int.eq_ofNat_of_zero_le (show 0 ≤ ck by omega)
      obtain ⟨a, rfl⟩ := Int.eq_ofNat_of_zero_le h3
      obtain ⟨b, rfl⟩ := Int.eq_ofNat_of_zero_le h5
      have l0 : w5.cell? ⟨wr.heap.size, 0, none⟩ = some (.int .i64 (kk : Int)) := hw5.blk.cell 0
      have l1 : w5.cell? ⟨wr.heap.size, 1, none⟩ = some (.int .i64 (a : Int)) := hw5.blk.cell 1
      have l2 : w5.cell? ⟨wr.heap.size, 2, none⟩ = some (.int .i64 (b : Int)) := hw5.blk.cell 2
      have l3 : w5.cell? ⟨wr.heap.size, 3, none⟩ = some (.int .u16 (s : Int)) := hw5.blk.cell 3
      have l4 : w5.cell? ⟨wr.heap.size, 4, none⟩ = some (.int .u16 (i : Int)) := hw5.blk.cell 4
      have e0 : IntKind.u8.wrap (kk : Int) = (kk : Int) := by unfold IntKind.wrap; simp [IntKind.signed, IntKind.bits]; omega
      have e1 : IntKind.u8.wrap (a : Int) = (a : Int) := by unfold IntKind.wrap; simp [IntKind.signed, IntKind.bits]; omega
      have e2 : IntKind.u8.wrap (b : Int) = (b : Int) := by unfold IntKind.wrap; simp [IntKind.signed, IntKind.bits]; omega
      have e3 : IntKind.u8.wrap ((s : Int) / 256) = (s : Int) / 256 := by unfold IntKind.wrap; simp [IntKind.signed, IntKind.bits]; omega
      have e4 : IntKind.u8.wrap ((i : Int) / 256) = (i : Int) / 256 := by unfold IntKind.wrap; simp [IntKind.signed, IntKind.bits]; omega
      have HE := Lib.hid (show (#[.int .u8 (kk : Int), .int .u8 (a : Int), .int .u8 (b : Int), .int .u8 ((s : Int) / 256), .int .u8 ((s : Int) % 256), .int .u8 ((i : Int) / 256), .int .u8 ((i : Int) % 256)] : Array Value) = bvA (chgL ⟨kk, a, b, s, i⟩) by
        simp [bvA, bvs, chgL]; omega)
      have hbl := Blk.new w5 (bvA (chgL ⟨kk, a, b, s, i⟩)) 5
      rw [← HE.out] at hbl
      have HBs := Lib.hid (lit_bs (l := chgL ⟨kk, a, b, s, i⟩) (by rw [← HE.out]; exact hbl) (show 7 ≤ maxLen by decide))
      have HG6 := Lib.hid (HG5.out.step (belowNew w5 (.cells #[.int .u8 (kk : Int), .int .u8 (a : Int), .int .u8 (b : Int), .int .u8 ((s : Int) / 256), .int .u8 ((s : Int) % 256), .int .u8 ((i : Int) / 256), .int .u8 ((i : Int) % 256)] 5)))
      have HQ := Lib.hid (show L.length + (chgL ⟨kk, a, b, s, i⟩).length ≤ 140737488355328 by have e : (chgL ⟨kk, a, b, s, i⟩).length = 7 := rfl; omega)
      clear h1 h2 h4 h7 hb16 hbl hz hce hw5 HG5 HG hgd hco hLn HE
      go_wp2_with (at_builtin; refine wpList_append_bytes rfl _ _ 46 rfl w.heap.size 5 Tryd.underlying46 infoU8 rfl HG6.out.own rfl HBs.out HQ.out HG6.out.below.size ?_; intro p6 n6 c6 w6 hrow6 hg6 hn6; have HG7 := Lib.hid (HG6.out.more hrow6 hg6); clear hrow6 hg6 hn6)
      go_roundw
      case rel => exact ⟨k + 1, by omega, by go_num, by rw [HN.out]; exact HG7.out⟩
      case measure => simp [intOf]; omega
    · obtain rfl : k = l.length := by omega
      have dk : decide ((l.length : Int) < (l.length : Int)) = false := by simp
      go_wp2_with fail
      refine bodyPost_ret (results_tmp rfl _ _ _) rfl ?_
      exact ⟨_, rfl, HG.out.own, HG.out.below⟩
end Go.Proofs.YthpangacpihclaaDoor

/-
  The document's stores: Bytes.
-/
import Derived.Deep.CutBlock
import Derived.LoopTactic
import Derived.Test.YtimbhamdblganaaDoorWVerC
import Derived.Test.YtimbhamdblganaaDoorWPolZ
import Derived.Test.YtimbhamdblganaaDoorW1
/-! VerB -/
namespace Go.Proofs.YtimbhamdblganaaDoor
open Go.RowKit

def bytesVK (e : Nat) (l : List Pol) (k : Nat) : List UInt8 := UInt8.ofNat e :: (l.take k).flatMap bytesP
def bytesVe (e : Nat) (l : List Pol) : List UInt8 := bytesVK e l l.length
theorem bytesVK_succ {e : Nat} {l : List Pol} {k : Nat} (h : k < l.length) : bytesVK e l (k + 1) = bytesVK e l k ++ bytesP l[k] := by
  unfold bytesVK
  rw [List.take_succ_eq_append_getElem h, List.flatMap_append]
  simp [List.flatMap]
theorem bytesP_le (p : Pol) : (bytesP p).length ≤ 1000 := by
  have h := bytO_le p 16
  unfold bytesP
  omega
theorem bytesVK_le (e : Nat) (l : List Pol) (k : Nat) (h : k ≤ l.length) : (bytesVK e l k).length ≤ 1 + 1000 * k := by
  induction k with
  | zero => simp [bytesVK]
  | succ k ih =>
    rw [bytesVK_succ (by omega), List.length_append]
    have := ih (by omega)
    have := bytesP_le l[k]
    omega
/-- The bytes so far, a row of the call's own. -/
structure VqW (w : World) (v : Value) (L : List UInt8) (V : World) : Prop where
  below : Below w.heap.size w V
  own : V.ownsRow w.heap.size 5 1 v L.length (bvs L)
theorem VqW.step {w : World} {v : Value} {L : List UInt8} {V V' : World} (h : VqW w v L V) (hB : Below V.heap.size V V') : VqW w v L V' :=
  ⟨h.below.trans (hB.mono h.below.size), own_below h.own hB (Nat.le_refl _)⟩
theorem VqW.more {w : World} {v v' : Value} {L m : List UInt8} {V V' : World} (h : VqW w v L V) (hr : V'.ownsRow w.heap.size 5 1 v' (L ++ m).length (bvs (L ++ m))) (hg : V.grownBy V' v.ownBlock) : VqW w v' (L ++ m) V' :=
  ⟨h.below.grown hg h.below.size (fun k hk => (h.own.lt k hk).1), hr⟩
set_option maxRecDepth 100000 in
set_option maxHeartbeats 3200000 in
theorem rveBytes_any (e : Nat) (v : Value) (l : List Pol) (w : World) (h : PolsAt w v l) (he : e ≤ 255) (hl : l.length ≤ 1000) :
    Calls Tryd.prog 15 #[.int .i64 (e : Int), v] w fun x w' => ∃ u, x = .returned u ∧ w'.ownsRow w.heap.size 5 1 u (bytesVe e l).length (bvs (bytesVe e l)) ∧ Below w.heap.size w w' := by
  have HS := Lib.hid h
  obtain ⟨pt, cap, rfl, -, -⟩ := h
  have HL := Lib.hid hl
  have hw8 : IntKind.u8.wrap (e : Int) = (e : Int) := IntWalk.u8_in _ (by omega)
  clear hl
  go_enter Tryd.func15, Tryd.ntmps15
  go_wp2_with fail
  have HB0 := Lib.hid (show VqW w (.slice (some ⟨w.heap.size, 0, none⟩) 1 1) (bytesVK e l 0) (w.alloc (.cells #[.int .u8 (e : Int)] 5)) from ⟨belowNew w _, rfl, .inr ⟨_, 1, _, rfl, Nat.le_refl _, Blk.new w _ _, Nat.le_refl _, by decide, rfl, by
    have e : (UInt8.ofNat e).toNat = e := by simp; omega
    simp [bytesVK, bvs, e]⟩⟩)
  go_loopw [6, 5] (fun i s3 wr => ∃ k : Nat, k ≤ l.length ∧ i = .int .i64 (k : Int) ∧ VqW w s3 (bytesVK e l k) wr) (fun i _ _ => l.length - (intOf i).toNat)
  case atStart => exact ⟨0, by omega, rfl, HB0.out⟩
  case round =>
    obtain ⟨k, hk, rfl, hgg⟩ := hrel
    have HG := Lib.hid hgg
    clear hgg HB0
    by_cases hlt : k < l.length
    · obtain ⟨g, off, cp, hse, -, -, hgl⟩ := HS.out.shape (fun e => by rw [e] at hlt; cases hlt)
      cases hse
      have hel := HS.out.elem hlt
      have HN := Lib.hid (bytesVK_succ (e := e) hlt)
      have HLn := Lib.hid (And.intro (bytesVK_le e l k hk) (bytesP_le l[k]))
      generalize l[k] = q at *
      generalize bytesVK e l k = L at *
      have hce := hel.2.below HG.out.below hgl
      have h5 := Lib.hid (rpBytes_any q wr hel.1)
      have HKl := Lib.hid hlt
      have dk : decide ((k : Int) < (l.length : Int)) = true := by simp; omega
      have dk2 : decide (k < l.length) = true := by simpa using hlt
      have h0 : (0 : Int) ≤ (k : Int) := by omega
      have h1 : (k : Int) < (l.length : Int) := by omega
      clear hel hlt hk hgl
      go_wp2_with (refine wpList_load_cells rfl _ _ rfl rfl hce Tryd.underlying46 rfl (infoPol _) ?_)
      refine h5.out.mono ?_
      rintro x w5 ⟨u5, rfl, hu5, hB5⟩
      obtain ⟨p5, c5, rfl, hb5⟩ := BsAt.ofRow hu5
      have HBs := Lib.hid hb5
      have HG5 := Lib.hid (HG.out.step hB5)
      have hwk : IntKind.i64.wrap ((k : Int) + 1) = (k : Int) + 1 := by have := HL.out; have := HKl.out; rw [IntKind.wrap_i64]; omega
      clear hu5 hb5 hB5 h5 HG hce
      go_wp2_with (at_builtin; refine wpList_append_bytes rfl _ _ 23 rfl w.heap.size 5 Tryd.underlying23 infoU8 rfl HG5.out.own rfl HBs.out (by have := HLn.out.1; have := HLn.out.2; have := HL.out; have := HKl.out; omega) HG5.out.below.size ?_; intro p6 n6 c6 w6 hrow6 hg6 hn6; have HG7 := Lib.hid (HG5.out.more hrow6 hg6); clear hrow6 hg6 hn6)
      go_roundw
      case rel => exact ⟨k + 1, by have := HKl.out; omega, by go_num, by rw [HN.out]; exact HG7.out⟩
      case measure => have := HKl.out; simp [intOf]; omega
    · obtain rfl : k = l.length := by omega
      have dk : decide ((l.length : Int) < (l.length : Int)) = false := by simp
      go_wp2_with fail
      refine bodyPost_ret (results_tmp rfl _ _ _) rfl ?_
      exact ⟨_, rfl, HG.out.own, HG.out.below⟩
end Go.Proofs.YtimbhamdblganaaDoor

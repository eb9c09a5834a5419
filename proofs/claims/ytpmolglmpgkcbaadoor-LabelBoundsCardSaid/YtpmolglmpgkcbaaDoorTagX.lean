/-
  tagset.Text: the text of a set.
-/
import Derived.RangeFuncNested
import Derived.RangeFuncBound
import Derived.RangeFuncCalls
import Derived.RangeFuncLeaves
import Derived.RangeFuncBox
import Derived.RangeFuncWrites
import Derived.Shelf.Abstract
import Derived.Shelf.RegionOpen
import Derived.WalkKit
import Derived.OwnWalkIn
import Derived.TacticsInMore
import Derived.LoopNIn
import Derived.LoopIn
import Derived.Maps.AppendAt
import Derived.Test.YtpmolglmpgkcbaaDoorTagT
import Derived.Test.YtpmolglmpgkcbaaDoorTagP
import Derived.Test.YtpmolglmpgkcbaaDoorFence
namespace Go.Proofs.YtpmolglmpgkcbaaDoor
open Go.RowKit Go.Shelf

theorem info_string : (Tryd.prog.info? 9).map (fun i => (i.zero, i.size, i.bytes)) = some (some (.string ⟨#[]⟩), 1, 16) := by kernel_rfl
def strsV (l : List Nat) : List Value := l.map fun t : Nat => Value.string ⟨(dig t).toArray⟩
theorem strsV_snoc (l : List Nat) (x : Nat) : strsV (l ++ [x]) = strsV l ++ [.string ⟨(dig x).toArray⟩] := by simp [strsV]

set_option maxHeartbeats 400000 in
theorem Text_zero (w : World) :
    Calls Tryd.prog 33 #[.int .u16 0] w fun e w' => e = .returned (.string ⟨#[45]⟩) ∧ w = w' := by
  go_enter Tryd.func33, Tryd.ntmps33
  go_wp2_with fail
  go_ret
  exact ⟨rfl, rfl⟩

theorem below_drewB (w : World) (B : Nat) : Below B w w.drew := (Below.refl B w).drew

attribute [local go_sem] Oper.semAt_some

set_option maxRecDepth 100000 in
set_option maxHeartbeats 2000000 in
theorem Text_in (n : Nat) (hn : 3 ≤ n) (s : Nat) (hs : s < 65536) (hs0 : s ≠ 0) (w : World) (hT : Tab32 w) (hg : 1 < w.heap.size) :
    CallsIn Fence.wide n Tryd.prog 33 #[.int .u16 s] w fun e W' => e = .returned (.string ⟨(textN s).toArray⟩) ∧ Below w.heap.size w W' := by
  have h1 : 1 ≤ n := by omega
  have hne : ((s : Int) == 0) = false := by simp; omega
  obtain ⟨i0, hi, hz0, hz1, hz2⟩ := info_parts info_string
  have HT := Lib.hid hT
  clear hT
  refine callsIn_of_wp_marks Tryd.func33 rfl trivial ?_ rfl
  simp only [Tryd.ntmps33, List.size_toArray, List.length_cons, List.length_nil, Nat.reduceAdd, Nat.reduceSub, Array.replicate_succ, Array.replicate_zero, List.push_toArray, List.append_toArray, List.nil_append, List.cons_append]
  gi_wp2_with (refine ⟨trivial, ?_⟩; gi_at_call 40; refine (Each_in _ (n - 1) _).mono ?_; rintro e w' ⟨rfl, rfl⟩)
  have bO := Boxed.new w 56 (.slice none 0 0)
  have bN := Boxed.new (w.alloc (.cells #[.slice none 0 0] 56)) 22 (.int .u16 s)
  simp only [World.size_alloc] at bN
  have hB0 : Below w.heap.size w ((w.alloc (.cells #[.slice none 0 0] 56)).alloc (.cells #[.int .u16 s] 22)) := ((Below.refl _ w).alloc (Nat.le_refl _) _).alloc (by simp) _
  refine wpIn_rangeFunc_ownG rfl h1 (gf := 47) (lb := #[.pointer (some ⟨w.heap.size + 1, 0, none⟩)]) rfl trivial (enters_of Tryd.func47 (by kernel_rfl) rfl)
    (Each_stops (n - 1) (by omega) (w.heap.size + 1) w.heap.size s hs _ (by simp) (by simp; omega) hg bN.cell (HT.out.below hB0 hg)) belowK_t (belowK_b (by simp; omega)) (Below.refl _ _) (fun _ => rfl)
    (fun pre W => (∃ v, Boxed W w.heap.size 56 v ∧ W.ownsRow w.heap.size 9 1 v pre.length (strsV (valsF pre)) ∧ True) ∧ Below w.heap.size w W)
    (fun _ _ _ => False)
    (OwnFrom.and (Own.from (holdsRow_own w.heap.size w.heap.size 56 9 1 (fun pre : List (Fin 16) => pre.length) (fun pre => strsV (valsF pre)) (fun _ _ => True)) _) (ownFrom_below (Nat.le_refl _) (by simp; omega)))
    (fun _ _ _ _ _ hs _ _ => hs)
    ⟨⟨_, bO.alloc _, World.ownsRow_nil _ _ _ _, trivial⟩, hB0⟩
    (fun x => { tmps := #[.int .u16 s, undef, .string ⟨#[]⟩, .pointer (some ⟨w.heap.size, 0, none⟩), .int .i64 (x.val : Int), .int .u16 s, .bool false, .int .u16 s, .func (.func 47) #[] #[.pointer (some ⟨w.heap.size + 1, 0, none⟩)], .int .i64 (x.val : Int), undef, undef, undef, undef, undef, undef, undef], defers := [] }) ?assign ?body ?done ?stop
  case assign =>
    intro l x W K hK
    simp only [encT]
    gi_wp2
    exact hK
  case body =>
    rintro l pre x W ⟨⟨v, hv, hrow, -⟩, hB⟩ hlt
    obtain ⟨p0, cap0, rfl⟩ := owns_shape hrow
    have hc := hv.cell
    have hvd : Boxed W.drew w.heap.size 56 (.slice p0 pre.length cap0) := hv
    have hrd : W.drew.ownsRow w.heap.size 9 1 (.slice p0 pre.length cap0) pre.length (strsV (valsF pre)) := hrow
    have hBd : w.heap.size ≤ W.drew.heap.size := hB.size
    have hBd2 : w.heap.size ≤ W.heap.size := hB.size
    have hca : ∀ o, (W.alloc o).cell? ⟨w.heap.size, 0, none⟩ = some (.slice p0 pre.length cap0) := fun o => (hv.alloc o).cell
    have hml : pre.length + 1 ≤ maxLen := by unfold maxLen; omega
    have hm8 : (pre.length + 1) * 16 ≤ 140737488355328 := by omega
    have hd1 : 1 ≤ n - 1 - 1 := by omega
    have hmx : Tryd.prog.follows .mixedOrders = true := by kernel_rfl
    have hIt := fun W => Tryd.strconv_Itoa_small x.val (by omega) W
    rw [dec_dig x.val x.isLt] at hIt
    have HI := Lib.hid hIt
    clear hIt
    gi_wp2
    refine wpIn_region_any hmx ?_
    change wpAnyIn _ _ _ _ _ _ _ _ _ (World.drew _)
    refine wpAnyIn_ready (rs := [0, 1]) (by kernel_rfl) (by simp) ?_
    refine AllReadyIn.cons rfl (fun K hK => ?_) ?_
    · go_simp; refine hK _ _ ?_; clear hK K
      refine wpAnyIn_ready (rs := [1]) (by kernel_rfl) (by simp) ?_
      refine AllReadyIn.cons rfl (fun K hK => ?_) AllReadyIn.nil
      go_simp; refine hK _ _ ?_; clear hK K
      refine wpAnyIn_ready (rs := [2]) (by kernel_rfl) (by simp) ?_
      refine AllReadyIn.cons rfl (fun K hK => ?_) AllReadyIn.nil
      go_simp; refine ⟨trivial, ?_⟩; refine (CallsIn.inRound l (callsIn_wide.2 (HI.out _))).mono ?_; rintro e w0 ⟨rfl, rfl⟩; refine hK _ _ ?_; clear hK K
      refine wpAnyIn_ready (rs := [3]) (by kernel_rfl) (by simp) ?_
      refine AllReadyIn.cons rfl (fun K hK => ?_) AllReadyIn.nil
      go_simp; refine hK _ _ ?_; clear hK K
      refine wpAnyIn_ready (rs := [4]) (by kernel_rfl) (by simp) ?_
      refine AllReadyIn.cons rfl (fun K hK => ?_) AllReadyIn.nil
      refine stepIn_append_own _ rfl _ _ 56 rfl w.heap.size 9 i0 (.string ⟨#[]⟩) 1 16 Tryd.underlying56 hi hz0 hz1 hz2 rfl (by decide) _ _ _ rfl (hrd.alloc (.cells #[.string ⟨(dig x.val).toArray⟩] 9)) ⟨W.heap.size, 0, none⟩ 1 1 [.string ⟨(dig x.val).toArray⟩] rfl rfl (cell_one_new W.drew _ _) (by simp [Value.oneCell']) hml hm8 (by simp; omega) ?_; intro v' w1 hown' hgrow; obtain ⟨g', cap', rfl⟩ := ownsRow_succ hown'; obtain ⟨hv1, hv2, hr2, hk2, hb2⟩ := hvd.appended (by decide) hrd hBd (by omega) hown' hgrow; have hc1 := hv1.cell; have hf1 := hv1.frozen; refine hK _ _ ?_; clear hK K
      refine wpAnyIn_ready (rs := [5]) (by kernel_rfl) (by simp) ?_
      refine AllReadyIn.cons rfl (fun K hK => ?_) AllReadyIn.nil
      go_simp; refine hK _ _ ?_; clear hK K
      refine wpAnyIn_done (by kernel_rfl) ?_ _
      exact ⟨(KeepsOthers.drew W).trans hk2 |>.from _, (below_drewB W _).trans hb2, ⟨⟨_, hv2, by rw [valsF_snoc, strsV_snoc, List.length_append]; exact hr2, trivial⟩, hB.trans ((below_drewB W _).trans hb2)⟩⟩
    refine AllReadyIn.cons rfl (fun K hK => ?_) AllReadyIn.nil
    go_simp; refine hK _ _ ?_; clear hK K
    refine wpAnyIn_ready (rs := [0, 2]) (by kernel_rfl) (by simp) ?_
    refine AllReadyIn.cons rfl (fun K hK => ?_) ?_
    · go_simp; refine hK _ _ ?_; clear hK K
      refine wpAnyIn_ready (rs := [2]) (by kernel_rfl) (by simp) ?_
      refine AllReadyIn.cons rfl (fun K hK => ?_) AllReadyIn.nil
      go_simp; refine ⟨trivial, ?_⟩; refine (CallsIn.inRound l (callsIn_wide.2 (HI.out _))).mono ?_; rintro e w0 ⟨rfl, rfl⟩; refine hK _ _ ?_; clear hK K
      refine wpAnyIn_ready (rs := [3]) (by kernel_rfl) (by simp) ?_
      refine AllReadyIn.cons rfl (fun K hK => ?_) AllReadyIn.nil
      go_simp; refine hK _ _ ?_; clear hK K
      refine wpAnyIn_ready (rs := [4]) (by kernel_rfl) (by simp) ?_
      refine AllReadyIn.cons rfl (fun K hK => ?_) AllReadyIn.nil
      refine stepIn_append_own _ rfl _ _ 56 rfl w.heap.size 9 i0 (.string ⟨#[]⟩) 1 16 Tryd.underlying56 hi hz0 hz1 hz2 rfl (by decide) _ _ _ rfl (hrd.alloc (.cells #[.string ⟨(dig x.val).toArray⟩] 9)) ⟨W.heap.size, 0, none⟩ 1 1 [.string ⟨(dig x.val).toArray⟩] rfl rfl (cell_one_new W.drew _ _) (by simp [Value.oneCell']) hml hm8 (by simp; omega) ?_; intro v' w1 hown' hgrow; obtain ⟨g', cap', rfl⟩ := ownsRow_succ hown'; obtain ⟨hv1, hv2, hr2, hk2, hb2⟩ := hvd.appended (by decide) hrd hBd (by omega) hown' hgrow; have hc1 := hv1.cell; have hf1 := hv1.frozen; refine hK _ _ ?_; clear hK K
      refine wpAnyIn_ready (rs := [5]) (by kernel_rfl) (by simp) ?_
      refine AllReadyIn.cons rfl (fun K hK => ?_) AllReadyIn.nil
      go_simp; refine hK _ _ ?_; clear hK K
      refine wpAnyIn_done (by kernel_rfl) ?_ _
      exact ⟨(KeepsOthers.drew W).trans hk2 |>.from _, (below_drewB W _).trans hb2, ⟨⟨_, hv2, by rw [valsF_snoc, strsV_snoc, List.length_append]; exact hr2, trivial⟩, hB.trans ((below_drewB W _).trans hb2)⟩⟩
    refine AllReadyIn.cons rfl (fun K hK => ?_) AllReadyIn.nil
    go_simp; refine ⟨trivial, ?_⟩; refine (CallsIn.inRound l (callsIn_wide.2 (HI.out _))).mono ?_; rintro e w0 ⟨rfl, rfl⟩; refine hK _ _ ?_; clear hK K
    refine wpAnyIn_ready (rs := [0, 3]) (by kernel_rfl) (by simp) ?_
    refine AllReadyIn.cons rfl (fun K hK => ?_) ?_
    · go_simp; refine hK _ _ ?_; clear hK K
      refine wpAnyIn_ready (rs := [3]) (by kernel_rfl) (by simp) ?_
      refine AllReadyIn.cons rfl (fun K hK => ?_) AllReadyIn.nil
      go_simp; refine hK _ _ ?_; clear hK K
      refine wpAnyIn_ready (rs := [4]) (by kernel_rfl) (by simp) ?_
      refine AllReadyIn.cons rfl (fun K hK => ?_) AllReadyIn.nil
      refine stepIn_append_own _ rfl _ _ 56 rfl w.heap.size 9 i0 (.string ⟨#[]⟩) 1 16 Tryd.underlying56 hi hz0 hz1 hz2 rfl (by decide) _ _ _ rfl (hrd.alloc (.cells #[.string ⟨(dig x.val).toArray⟩] 9)) ⟨W.heap.size, 0, none⟩ 1 1 [.string ⟨(dig x.val).toArray⟩] rfl rfl (cell_one_new W.drew _ _) (by simp [Value.oneCell']) hml hm8 (by simp; omega) ?_; intro v' w1 hown' hgrow; obtain ⟨g', cap', rfl⟩ := ownsRow_succ hown'; obtain ⟨hv1, hv2, hr2, hk2, hb2⟩ := hvd.appended (by decide) hrd hBd (by omega) hown' hgrow; have hc1 := hv1.cell; have hf1 := hv1.frozen; refine hK _ _ ?_; clear hK K
      refine wpAnyIn_ready (rs := [5]) (by kernel_rfl) (by simp) ?_
      refine AllReadyIn.cons rfl (fun K hK => ?_) AllReadyIn.nil
      go_simp; refine hK _ _ ?_; clear hK K
      refine wpAnyIn_done (by kernel_rfl) ?_ _
      exact ⟨(KeepsOthers.drew W).trans hk2 |>.from _, (below_drewB W _).trans hb2, ⟨⟨_, hv2, by rw [valsF_snoc, strsV_snoc, List.length_append]; exact hr2, trivial⟩, hB.trans ((below_drewB W _).trans hb2)⟩⟩
    refine AllReadyIn.cons rfl (fun K hK => ?_) AllReadyIn.nil
    go_simp; refine hK _ _ ?_; clear hK K
    refine wpAnyIn_ready (rs := [0]) (by kernel_rfl) (by simp) ?_
    refine AllReadyIn.cons rfl (fun K hK => ?_) AllReadyIn.nil
    go_simp; refine hK _ _ ?_; clear hK K
    refine wpAnyIn_ready (rs := [4]) (by kernel_rfl) (by simp) ?_
    refine AllReadyIn.cons rfl (fun K hK => ?_) AllReadyIn.nil
    refine stepIn_append_own _ rfl _ _ 56 rfl w.heap.size 9 i0 (.string ⟨#[]⟩) 1 16 Tryd.underlying56 hi hz0 hz1 hz2 rfl (by decide) _ _ _ rfl (hrd.alloc (.cells #[.string ⟨(dig x.val).toArray⟩] 9)) ⟨W.heap.size, 0, none⟩ 1 1 [.string ⟨(dig x.val).toArray⟩] rfl rfl (cell_one_new W.drew _ _) (by simp [Value.oneCell']) hml hm8 (by simp; omega) ?_; intro v' w1 hown' hgrow; obtain ⟨g', cap', rfl⟩ := ownsRow_succ hown'; obtain ⟨hv1, hv2, hr2, hk2, hb2⟩ := hvd.appended (by decide) hrd hBd (by omega) hown' hgrow; have hc1 := hv1.cell; have hf1 := hv1.frozen; refine hK _ _ ?_; clear hK K
    refine wpAnyIn_ready (rs := [5]) (by kernel_rfl) (by simp) ?_
    refine AllReadyIn.cons rfl (fun K hK => ?_) AllReadyIn.nil
    go_simp; refine hK _ _ ?_; clear hK K
    refine wpAnyIn_done (by kernel_rfl) ?_ _
    exact ⟨(KeepsOthers.drew W).trans hk2 |>.from _, (below_drewB W _).trans hb2, ⟨⟨_, hv2, by rw [valsF_snoc, strsV_snoc, List.length_append]; exact hr2, trivial⟩, hB.trans ((below_drewB W _).trans hb2)⟩⟩
  case done =>
    rintro D ys W hD hys ⟨⟨v, hv, hrow, -⟩, hB⟩ hK
    have hys0 : valsF ys ≠ [] := by rw [hys]; exact tagsN_ne_nil hs0 hs
    obtain ⟨xs, hxs⟩ : ∃ xs : List ByteArray, xs = (valsF ys).map fun t : Nat => (⟨(dig t).toArray⟩ : ByteArray) := ⟨_, rfl⟩
    have hl : ys.length = xs.length := by rw [hxs, List.length_map, valsF_length]
    have hmap : xs.map (·.data.toList) = (tagsN s).map dig := by rw [hxs, ← hys, List.map_map]; rfl
    have htx : Lib.join (xs.map (·.data.toList)) (⟨#[44]⟩ : ByteArray).data.toList = textN s := by
      rw [hmap]; unfold textN; rw [if_neg hs0]; exact joinT_join _ (by rw [← hys]; exact hys0)
    rcases hrow.2 with ⟨h1v, h2v⟩ | ⟨g, cap, cur, h1v, hgb, hblk, hnc, hcapm, hsz, htake⟩
    · exact absurd (List.eq_nil_of_length_eq_zero (by rw [valsF_length]; exact h2v)) hys0
    · have hcells : ∀ (j : Nat) x, xs[j]? = some x → W.cell? ⟨g, 0 + j, none⟩ = some (.string x) := fun j x hj => by
        have hjl : j < xs.length := (List.getElem?_eq_some_iff.1 hj).1
        have h3 : (strsV (valsF ys))[j]? = some (.string x) := by
          have : strsV (valsF ys) = xs.map Value.string := by rw [hxs, List.map_map]; rfl
          rw [this, List.getElem?_map, hj]; rfl
        rw [Nat.zero_add]
        simp only [World.cell?, hblk]
        rw [← h3, ← htake, List.getElem?_take_of_lt (by omega)]; simp
      have hbk : g < W.heap.size := (Array.getElem?_eq_some_iff.1 hblk).1
      have hxl : xs.length ≤ 16 := by rw [← hl, ← valsF_length, hys]; exact tagsN_length_le s
      have hlen := textN_len s
      rw [hl] at h1v hnc
      subst h1v
      have hc := hv.cell
      have HJ := Lib.hid (Tryd.strings_Join g 0 cap xs ⟨#[44]⟩ W hcells hbk (by omega) hnc (by rw [htx]; omega))
      have HX := Lib.hid htx
      have hDW : D < W.heap.size := (Array.getElem?_eq_some_iff.1 hK).1
      clear hys hxs hl hmap htx hblk htake hcells hsz hrow
      gi_wp2_with (refine ⟨trivial, ?_⟩; gi_at_call 42; refine (callsIn_wide.2 HJ.out).mono ?_; rintro e w0 ⟨rfl, hB1⟩)
      have hK' := (hB1.block D hDW).trans hK
      refine ⟨by simp, .inl ⟨_, _, rfl, run_takeDeferred hK', ?_⟩⟩
      exact ⟨_, results_tmp rfl _ _ _, by rw [HX.out]; rfl, (hB.trans (hB1.mono hB.size)).trans (belowK_b (w := w) (Nat.le_refl _) w0 D _ _ (by simp at hD; omega) hK' rfl rfl)⟩
  case stop =>
    rintro D c pre W _ _ h _
    exact h.elim


theorem Text_any (s : Nat) (hs : s < 65536) (w : World) (hE : Env w) :
    Calls Tryd.prog 33 #[.int .u16 s] w fun e W' => e = .returned (.string ⟨(textN s).toArray⟩) ∧ Below w.heap.size w W' := by
  by_cases hs0 : s = 0
  · subst hs0
    refine (Text_zero w).mono ?_
    rintro e w' ⟨he, hw⟩
    exact ⟨he, by rw [← hw]; exact Below.refl _ _⟩
  · exact callsIn_wide.1 (Text_in 3 (Nat.le_refl _) s hs hs0 w hE.tab hE.lt.1)

end Go.Proofs.YtpmolglmpgkcbaaDoor

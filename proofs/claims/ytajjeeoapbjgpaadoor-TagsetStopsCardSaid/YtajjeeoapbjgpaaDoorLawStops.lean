/-
  The walk of the law TagsetStops: a caller that stops anywhere.
-/
import Derived.RangeFuncNested
import Derived.RangeFuncBound
import Derived.RangeFuncCalls
import Derived.RangeFuncLeaves
import Derived.RangeFuncBox
import Derived.RangeFuncWrites
import Derived.Shelf.Abstract
import Derived.Shelf.RegionOpen
import Derived.WalkKit
import Derived.OwnWalkIn
import Derived.TacticsInMore
import Derived.LoopNIn
import Derived.LoopIn
import Derived.Maps.AppendAt
import Derived.Test.YtajjeeoapbjgpaaDoorLawTells
import Derived.Deep.RegionWith
import Derived.IntWalk
namespace Go.Proofs.YtajjeeoapbjgpaaDoor
open Go.RowKit Go.Shelf

attribute [local go_sem] Oper.semAt_some

theorem ints_take {w : World} {p : Option Addr} {n cap : Nat} {l : List Nat} (h : IntsAt w (.slice p n cap) (l.map fun x : Nat => (x : Int))) (m : Nat) : IntsAt w (.slice p (l.take m).length cap) ((l.take m).map fun x : Nat => (x : Int)) := by
  obtain ⟨p', cap', hv, hl, hc⟩ := h
  cases hv
  refine ⟨p, cap, by rw [List.length_map], by rw [List.length_map, List.length_take]; rw [List.length_map] at hl; omega, fun hne => ?_⟩
  obtain ⟨b, off, hp, hcs⟩ := hc (by
    intro e
    apply hne
    have := congrArg List.length e
    rw [List.length_map, List.length_nil] at this
    have h0 := List.eq_nil_of_length_eq_zero this
    rw [h0]; simp)
  refine ⟨b, off, hp, fun i hi => ?_⟩
  rw [List.length_map] at hi
  have hi2 : i < l.length := by rw [List.length_take] at hi; omega
  have hi3 : i < m := by rw [List.length_take] at hi; omega
  rw [hcs i (by rw [List.length_map]; exact hi2), getD_map_int l i hi2, getD_map_int _ i hi]
  simp [List.getD, List.getElem?_take_of_lt hi3]
theorem same_eq (u v : Value) (xs : List Int) (w : World) (hx : IntsAt w.drew u xs) (hy : IntsAt w.drew v xs) :
    Calls Tryd.prog 10 #[u, v] w.drew fun e w' => e = .returned (.bool true) ∧ Below w.heap.size w w' := by
  refine (same_any u v xs xs _ hx hy).mono ?_
  rintro e w' ⟨he, nq, hw⟩
  rw [decide_eq_true rfl] at he
  refine ⟨he, ?_⟩
  rw [hw]
  exact (below_drewB w _).trans (show Below w.heap.size w.drew (w.drew.drewN nq) from below_drewN' w.drew nq)
theorem owns_cap {w : World} {base : Nat} {e : TypeId} {size : Nat} {p : Option Addr} {n c k : Nat} {xs : List Value} (h : w.ownsRow base e size (.slice p n c) k xs) : n ≤ c := by
  rcases h.2 with ⟨h1, _⟩ | ⟨g, cap, cur, h1, _, _, hn, _⟩
  · cases h1; omega
  · cases h1; exact hn
theorem IntsAt.drew {w w' : World} {v : Value} {zs : List Int} (h : IntsAt w v zs) (hB : Below w.heap.size w w') : IntsAt w'.drew v zs := by
  obtain ⟨p, cap, hv, hl, hc⟩ := h
  refine ⟨p, cap, hv, hl, fun hne => ?_⟩
  obtain ⟨b, off, hp, hcs⟩ := hc hne
  refine ⟨b, off, hp, fun i hi => ?_⟩
  have h1 := hcs i hi
  exact (hB.cell (p := ⟨b, off + i, none⟩) (lt_of_cell h1)).trans h1

set_option maxRecDepth 100000 in
set_option maxHeartbeats 2000000 in
theorem stops_in (n : Nat) (hn : 3 ≤ n) (a : Nat) (ha : a < 65536) (u : Nat) (hu : u < 256) (w : World) (hE : Env w) :
    CallsIn Fence.wide n Tryd.prog 6 #[.int .u16 (a : Int), .int .u8 (u : Int)] w fun e W' => e = .returned (.bool true) ∧ Below w.heap.size w W' := by
  have h1 : 1 ≤ n := by omega
  obtain ⟨i0, hi, hz0, hz1, hz2⟩ := info_parts info_int
  have HE := Lib.hid hE
  have hL := hE.lt
  clear hE
  refine callsIn_of_wp_marks Tryd.func6 rfl trivial ?_ rfl
  simp only [Tryd.ntmps6, List.size_toArray, List.length_cons, List.length_nil, Nat.reduceAdd, Nat.reduceSub, Array.replicate_succ, Array.replicate_zero, List.push_toArray, List.append_toArray, List.nil_append, List.cons_append]
  have bU := Boxed.new w 5 (.int .u8 (u : Int))
  have hB0 : Below w.heap.size w (w.alloc (.cells #[.int .u8 (u : Int)] 5)) := below_alloc1 _ _
  have HA := Lib.hid (alive_any _ (HE.out.below hB0 hL))
  gi_wp2_with (refine ⟨trivial, ?_⟩; gi_at_call 7; refine (callsIn_wide.2 HA.out).mono ?_; rintro e w1 ⟨rfl, hB1⟩)
  gi_wp2_with (refine ⟨trivial, ?_⟩; gi_at_call 23; refine (Each_in _ (n - 1) _).mono ?_; rintro e w' ⟨rfl, rfl⟩)
  have hE1 := HE.out.below (hB0.trans (hB1.mono (by simp))) hL
  have hL1 : EnvLt w1.heap.size := hE1.lt
  have hws : w.heap.size < w1.heap.size := by have := hB1.size; simp at this; omega
  have hUc : w1.cell? ⟨w.heap.size, 0, none⟩ = some (.int .u8 (u : Int)) := (hB1.cell (p := ⟨w.heap.size, 0, none⟩) (by simp)).trans bU.cell
  have bO := Boxed.new w1 23 (.slice none 0 0)
  have bN := Boxed.new (w1.alloc (.cells #[.slice none 0 0] 23)) 22 (.int .u16 a)
  simp only [World.size_alloc] at bN
  have hBL : Below w1.heap.size w1 ((w1.alloc (.cells #[.slice none 0 0] 23)).alloc (.cells #[.int .u16 a] 22)) := ((Below.refl _ w1).alloc (Nat.le_refl _) _).alloc (by simp) _
  obtain ⟨m, hm⟩ : ∃ m, m = u % 17 := ⟨_, rfl⟩
  have hm17 : m ≤ 16 := by omega
  have HM := Lib.hid hm
  have hBw : Below w.heap.size w w1 := hB0.trans (hB1.mono (by simp))
  clear hm bU hB0 hB1 HA
  refine wpIn_rangeFunc_ownG rfl h1 (gf := 33) (lb := #[.pointer (some ⟨w1.heap.size + 1, 0, none⟩)]) rfl trivial (enters_of Tryd.func33 (by kernel_rfl) rfl)
    (Each_stops (n - 1) (by omega) (w1.heap.size + 1) w1.heap.size a ha _ (by simp) (by simp; omega) hL1.1 bN.cell (hE1.below hBL hL1).tab) belowK_t (belowK_b (by simp; omega)) (Below.refl _ _) (fun _ => rfl)
    (fun pre W => (∃ v, Boxed W w1.heap.size 23 v ∧ W.ownsRow w1.heap.size 3 1 v pre.length (intsV (valsF pre)) ∧ pre.length ≤ m) ∧ Below w1.heap.size w1 W)
    (fun c pre W => (∃ v, Boxed W w1.heap.size 23 v ∧ W.ownsRow w1.heap.size 3 1 v m (intsV ((valsF pre).take m)) ∧ (pre.length = m + 1 ∧ c = .exit 0)) ∧ Below w1.heap.size w1 W)
    (OwnFrom.and (Own.from (holdsRow_own w1.heap.size w1.heap.size 23 3 1 (fun pre : List (Fin 16) => pre.length) (fun pre => intsV (valsF pre)) (fun pre _ => pre.length ≤ m)) _) (ownFrom_below (Nat.le_refl _) (by simp; omega)))
    (fun c => OwnFrom.and (Own.from (holdsRow_own w1.heap.size w1.heap.size 23 3 1 (fun _ : List (Fin 16) => m) (fun pre => intsV ((valsF pre).take m)) (fun pre _ => pre.length = m + 1 ∧ c = .exit 0)) _) (ownFrom_below (Nat.le_refl _) (by simp; omega)))
    ⟨⟨_, bO.alloc _, World.ownsRow_nil _ _ _ _, by simp⟩, hBL⟩
    (fun x => { tmps := #[.int .u16 (a : Int), .int .u8 (u : Int), undef, .pointer (some ⟨w.heap.size, 0, none⟩), .bool false, .pointer (some ⟨w1.heap.size, 0, none⟩), .int .i64 (x.val : Int), undef, .bool true, .bool false, .int .u16 (a : Int), .func (.func 33) #[] #[.pointer (some ⟨w1.heap.size + 1, 0, none⟩)], .int .i64 (x.val : Int), undef, undef, undef, undef, undef, undef, undef, undef, undef, undef, undef, undef, undef, undef, undef, undef, undef, undef, undef, undef, undef, undef, undef, undef, undef], defers := [] }) ?assign ?body ?done ?stop
  case assign =>
    intro l x W K hK
    simp only [encT]
    gi_wp2
    exact hK
  case body =>
    rintro l pre x W ⟨⟨v, hv, hrow, hle⟩, hB⟩ hlt
    obtain ⟨p0, cap0, rfl⟩ := owns_shape hrow
    have hc := hv.cell
    have hcu : W.cell? ⟨w.heap.size, 0, none⟩ = some (.int .u8 (u : Int)) := (hB.cell (p := ⟨w.heap.size, 0, none⟩) hws).trans hUc
    by_cases hge : pre.length < m
    · have hge2 : (pre.length : Int) < (u : Int) % 17 := by have := HM.out; omega
      have hml : pre.length + 1 ≤ maxLen := by unfold maxLen; omega
      have hm8 : (pre.length + 1) * 8 ≤ 140737488355328 := by omega
      gi_wp2_with (gi_at_builtin; refine wpListIn_append_own _ rfl _ _ 23 rfl w1.heap.size 3 i0 (.int .i64 0) 1 8 Tryd.underlying23 hi hz0 hz1 hz2 rfl (by decide) _ _ _ rfl (hrow.alloc _) ⟨W.heap.size, 0, none⟩ 1 1 [.int .i64 (x.val : Int)] rfl rfl (cell_one_new _ _ _) (by simp [Value.oneCell']) hml hm8 (by have := hB.size; simp; omega) ?_; intro v' w3 hown' hgrow _; obtain ⟨g', cap', rfl⟩ := ownsRow_succ hown'; obtain ⟨hv1, hv2, hr2, hk2, hb2⟩ := hv.appended (by decide) hrow hB.size (by omega) hown' hgrow; have hc1 := hv1.cell; have hf1 := hv1.frozen)
      exact ⟨hk2.from _, hb2, ⟨_, hv2, by rw [valsF_snoc, intsV_snoc, List.length_append]; exact hr2, by rw [List.length_append]; exact hge⟩, hB.trans hb2⟩
    · have hge2 : (u : Int) % 17 ≤ (pre.length : Int) := by have := HM.out; omega
      have hpm : pre.length = m := by omega
      have HP := Lib.hid hpm
      clear hpm
      gi_wp2
      exact ⟨KeepsFrom.refl _ _, ⟨_, hv, by rw [← HP.out, valsF_snoc, List.take_left' (valsF_length pre)]; exact hrow, by rw [List.length_append, HP.out]; rfl, rfl⟩, hB⟩
  case done =>
    rintro D ys W hD hys ⟨⟨v, hv, hrow, hle⟩, hB⟩ hK
    have hIr := intsAt_of_owns (l := valsF ys) (by rw [hys]; exact tagsN_length_le a) (by rw [valsF_length]; exact hrow)
    have hval : valsF ys = (tagsN a).take m := by rw [hys, List.take_of_length_le (by rw [← hys, valsF_length]; exact hle)]
    rw [hval] at hIr
    have HI := Lib.hid hIr
    obtain ⟨p0, cap0, rfl⟩ := owns_shape hrow
    have hkl : ys.length ≤ 16 := by rw [← valsF_length, hys]; exact tagsN_length_le a
    have hc := hv.cell
    have hcu : W.cell? ⟨w.heap.size, 0, none⟩ = some (.int .u8 (u : Int)) := (hB.cell (p := ⟨w.heap.size, 0, none⟩) hws).trans hUc
    have hbW : w1.heap.size < W.heap.size := hv.lt
    have hDW : D < W.heap.size := (Array.getElem?_eq_some_iff.1 hK).1
    clear hIr hval hys hle hrow
    gi_wp2_with (refine ⟨trivial, ?_⟩; gi_at_call 8; refine (callsIn_wide.2 (rList_any a ha _)).mono ?_; rintro e w3 ⟨x, rfl, hrow3, hB3⟩; obtain ⟨px, cx, rfl⟩ := owns_shape hrow3)
    have c1 := (hB3.cell (p := ⟨w1.heap.size, 0, none⟩) hbW).trans hc
    have c2 := (hB3.cell (p := ⟨w.heap.size, 0, none⟩) (show w.heap.size < W.heap.size by omega)).trans hcu
    have hmx : Tryd.prog.follows .mixedOrders = true := by kernel_rfl
    have hcap := owns_cap hrow3
    have HX := Lib.hid ((ints_take (intsAt_of_owns (tagsN_length_le a) hrow3) m).drew (Below.refl _ w3))
    have HY := Lib.hid (HI.out.drew hB3)
    obtain ⟨k, hk⟩ : ∃ k, k = ((tagsN a).take m).length := ⟨_, rfl⟩
    rw [← hk] at HX
    have hk2 : k ≤ cx := by rw [hk, List.length_take]; omega
    have hr1 : ((u : Int)).tmod 17 = (m : Int) := by have := HM.out; rw [Int.tmod_eq_emod_of_nonneg (by omega)]; omega
    have hr2 : IntKind.i64.wrap (m : Int) = (m : Int) := IntWalk.i64_in _ (by omega)
    have hr3 : min ((tagsN a).length : Int) (m : Int) = (k : Int) := by rw [hk, List.length_take]; omega
    have hr4 : (0 : Int) ≤ k := by omega
    have hr5 : (k : Int) ≤ cx := by omega
    have hE3 : Env w3 := (hE1.below hB hL1).below hB3 (hL1.mono hB.size)
    have HE3 := Lib.hid hE3
    clear hk hrow3 hE3 hcap
    refine wpIn_wide.2 (wp_only ?_)
    go_region_with (first | (go_at_call 10; refine (same_eq _ _ _ _ HY.out HX.out).mono ?_; rintro e w4 ⟨rfl, hB4⟩) | (go_at_call 7; refine (alive_any _ (HE3.out.below hB4 HE3.out.lt)).mono ?_; rintro e w5 ⟨rfl, hB5⟩; have hB6 := hB4.trans (hB5.mono hB4.size)))
    all_goals gi_wp2
    all_goals
      have hK5 := (hB6.block D (Nat.lt_of_lt_of_le hDW hB3.size)).trans ((hB3.block D hDW).trans hK)
      refine ⟨by simp, .inl ⟨_, _, rfl, run_takeDeferred hK5, ?_⟩⟩
      exact ⟨_, results_tmp rfl _ _ _, rfl, (hBw.trans ((hB.trans ((hB3.trans (hB6.mono hB3.size)).mono hB.size)).mono hBw.size)).trans (belowK_b (w := w) (Nat.le_refl _) _ D _ _ (by simp at hD; omega) hK5 rfl rfl)⟩
  case stop =>
    rintro D c pre W hD hpre ⟨⟨v, hv, hrow, ⟨hpl, rfl⟩⟩, hB⟩ hK
    have hval : (valsF pre).take m = (tagsN a).take m := by
      obtain ⟨t, ht⟩ := hpre
      rw [← ht, List.take_append_of_le_length (by rw [valsF_length, hpl]; omega)]
    have hlm : ((tagsN a).take m).length = m := by rw [← hval, List.length_take, valsF_length, hpl]; omega
    have hrow0 : W.ownsRow w1.heap.size 3 1 v ((tagsN a).take m).length (intsV ((tagsN a).take m)) := by rw [hlm, ← hval]; exact hrow
    have hIr := intsAt_of_owns (by rw [hlm]; exact hm17) hrow0
    have HI := Lib.hid hIr
    clear hrow0 hlm
    obtain ⟨p0, cap0, rfl⟩ := owns_shape hrow
    have hc := hv.cell
    have hcu : W.cell? ⟨w.heap.size, 0, none⟩ = some (.int .u8 (u : Int)) := (hB.cell (p := ⟨w.heap.size, 0, none⟩) hws).trans hUc
    have hbW : w1.heap.size < W.heap.size := hv.lt
    have hDW : D < W.heap.size := (Array.getElem?_eq_some_iff.1 hK).1
    clear hIr hval hpre hpl hrow
    gi_wp2_with (refine ⟨trivial, ?_⟩; gi_at_call 8; refine (callsIn_wide.2 (rList_any a ha _)).mono ?_; rintro e w3 ⟨x, rfl, hrow3, hB3⟩; obtain ⟨px, cx, rfl⟩ := owns_shape hrow3)
    have c1 := (hB3.cell (p := ⟨w1.heap.size, 0, none⟩) hbW).trans hc
    have c2 := (hB3.cell (p := ⟨w.heap.size, 0, none⟩) (show w.heap.size < W.heap.size by omega)).trans hcu
    have hmx : Tryd.prog.follows .mixedOrders = true := by kernel_rfl
    have hcap := owns_cap hrow3
    have HX := Lib.hid ((ints_take (intsAt_of_owns (tagsN_length_le a) hrow3) m).drew (Below.refl _ w3))
    have HY := Lib.hid (HI.out.drew hB3)
    obtain ⟨k, hk⟩ : ∃ k, k = ((tagsN a).take m).length := ⟨_, rfl⟩
    rw [← hk] at HX
    have hk2 : k ≤ cx := by rw [hk, List.length_take]; omega
    have hr1 : ((u : Int)).tmod 17 = (m : Int) := by have := HM.out; rw [Int.tmod_eq_emod_of_nonneg (by omega)]; omega
    have hr2 : IntKind.i64.wrap (m : Int) = (m : Int) := IntWalk.i64_in _ (by omega)
    have hr3 : min ((tagsN a).length : Int) (m : Int) = (k : Int) := by rw [hk, List.length_take]; omega
    have hr4 : (0 : Int) ≤ k := by omega
    have hr5 : (k : Int) ≤ cx := by omega
    have hE3 : Env w3 := (hE1.below hB hL1).below hB3 (hL1.mono hB.size)
    have HE3 := Lib.hid hE3
    clear hk hrow3 hE3 hcap
    refine wpIn_wide.2 (wp_only ?_)
    go_region_with (first | (go_at_call 10; refine (same_eq _ _ _ _ HY.out HX.out).mono ?_; rintro e w4 ⟨rfl, hB4⟩) | (go_at_call 7; refine (alive_any _ (HE3.out.below hB4 HE3.out.lt)).mono ?_; rintro e w5 ⟨rfl, hB5⟩; have hB6 := hB4.trans (hB5.mono hB4.size)))
    all_goals gi_wp2
    all_goals
      have hK5 := (hB6.block D (Nat.lt_of_lt_of_le hDW hB3.size)).trans ((hB3.block D hDW).trans hK)
      refine ⟨by simp, .inl ⟨_, _, rfl, run_takeDeferred hK5, ?_⟩⟩
      exact ⟨_, results_tmp rfl _ _ _, rfl, (hBw.trans ((hB.trans ((hB3.trans (hB6.mono hB3.size)).mono hB.size)).mono hBw.size)).trans (belowK_b (w := w) (Nat.le_refl _) _ D _ _ (by simp at hD; omega) hK5 rfl rfl)⟩

end Go.Proofs.YtajjeeoapbjgpaaDoor

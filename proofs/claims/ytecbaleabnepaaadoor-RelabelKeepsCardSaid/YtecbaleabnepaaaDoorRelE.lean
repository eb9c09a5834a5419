/-
  relabel.Set: the image of a set, by a range over a function.
-/
import Derived.Test.YtecbaleabnepaaaDoorRelD
import Derived.Test.YtecbaleabnepaaaDoorTagT
namespace Go.Proofs.YtecbaleabnepaaaDoor
open Go.RowKit Go.Shelf

attribute [local go_sem] Oper.semAt_some

theorem ofL_lt0 (t : Int) : ofL 0 [t] < 65536 := ofL_lt (by decide) _
theorem ofL_bit (t u : Nat) : (ofL 0 [(t : Int)]).testBit u = (decide (t < 16) && t == u) := by
  by_cases h : t < 16
  · rw [ofL_one h, pw, Nat.testBit_two_pow]
    by_cases e : t = u
    · subst e; simp [h]
    · simp [e]
  · rw [ofL_none h]; simp [h]
theorem mem_tagsN {s t : Nat} : t ∈ tagsN s ↔ t < 16 ∧ s.testBit t = true := mem_tagsTo s 16 t
/-- The image of some tags. -/
def imgL (f : Nat → Nat) (l : List Nat) : Nat := setB fun v => l.any fun t => f t == v
theorem imgL_lt (f : Nat → Nat) (l : List Nat) : imgL f l < 65536 := setB_lt _
theorem imgL_nil (f : Nat → Nat) : imgL f [] = 0 := setB_zero fun _ _ => rfl
theorem imgL_snoc (f : Nat → Nat) (l : List Nat) (x : Nat) : imgL f l ||| ofL 0 [(f x : Int)] = imgL f (l ++ [x]) := eq_setB (or_lt (imgL_lt _ _) (ofL_lt0 _)) fun u hu => by
  rw [Nat.testBit_or, ofL_bit]
  unfold imgL
  rw [setB_bit, List.any_append]
  by_cases e : f x = u
  · simp [hu, e]
  · have e2 : (f x == u) = false := by simpa using e
    simp [hu, e2]
theorem imgL_tags (f : Nat → Nat) (s : Nat) : imgL f (tagsN s) = imgN f s := setB_congr fun v _ => by
  unfold hitB anyB
  rw [Bool.eq_iff_iff, List.any_eq_true, List.any_eq_true]
  constructor
  · rintro ⟨t, ht, h⟩
    have := mem_tagsN.1 ht
    exact ⟨t, List.mem_range.2 this.1, by simp [this.2]; simpa using h⟩
  · rintro ⟨t, ht, h⟩
    simp at h
    exact ⟨t, mem_tagsN.2 ⟨List.mem_range.1 ht, h.1⟩, by simpa using h.2⟩

theorem row_own {β : Type} (b : Nat) (f : Nat → Nat) : Own (fun (_ : β) W => Row W b f) := fun _ X Y row hs hg hrow => by
  unfold Row at *
  refine (hg.block b (Array.getElem?_eq_some_iff.1 hs).1 ?_).trans hs
  intro e
  obtain ⟨o, ho, hc⟩ := hrow b e.symm
  rw [hs] at ho
  cases ho
  cases hc

theorem ints_one_drew (W : World) (a : Int) : IntsAt (W.alloc (.cells #[.int .i64 a] 3)).drew (.slice (some ⟨W.heap.size, 0, none⟩) 1 1) [a] := ints_one W a

/-- What the walks ask of the library's table. -/
def TabOk (w : World) : Prop := Tab32 w ∧ 0 < w.heap.size
theorem TabOk.below {w w' : World} (h : TabOk w) (hB : Below w.heap.size w w') : TabOk w' := ⟨h.1.below hB h.2, Nat.lt_of_lt_of_le h.2 hB.size⟩

set_option maxRecDepth 100000 in
set_option maxHeartbeats 2000000 in
theorem Set_in (n : Nat) (hn : 3 ≤ n) (f : Nat → Nat) (hf : MapOk f) (s : Nat) (hs : s < 65536) (w : World) (hT : Tab32 w) (hg : 0 < w.heap.size) :
    CallsIn Fence.wide n Tryd.prog 10 #[.agg (mapC f), .int .u16 s] w fun e W' => e = .returned (.int .u16 (imgN f s : Nat)) ∧ Below w.heap.size w W' := by
  have h1 : 1 ≤ n := by omega
  have HT := Lib.hid hT
  clear hT
  refine callsIn_of_wp_marks Tryd.func10 rfl trivial ?_ rfl
  simp only [Tryd.ntmps10, List.size_toArray, List.length_cons, List.length_nil, Nat.reduceAdd, Nat.reduceSub, Array.replicate_succ, Array.replicate_zero, List.push_toArray, List.append_toArray, List.nil_append, List.cons_append]
  gi_wp2_with (refine ⟨trivial, ?_⟩; gi_at_call 25; refine (Each_in _ (n - 1) _).mono ?_; rintro e w' ⟨rfl, rfl⟩)
  have rM := (((Row.new w f).alloc (.cells #[.int .u16 0] 25)).alloc (.cells #[.int .u16 s] 25))
  have bI := Boxed.new (w.alloc (.cells (mapC f) 23)) 25 (.int .u16 0)
  have bN := Boxed.new ((w.alloc (.cells (mapC f) 23)).alloc (.cells #[.int .u16 0] 25)) 25 (.int .u16 s)
  simp only [World.size_alloc] at bI bN
  have hB0 : Below w.heap.size w (((w.alloc (.cells (mapC f) 23)).alloc (.cells #[.int .u16 0] 25)).alloc (.cells #[.int .u16 s] 25)) := (((Below.refl _ w).alloc (Nat.le_refl _) _).alloc (by simp) _).alloc (by simp; omega) _
  refine wpIn_rangeFunc_ownG rfl h1 (gf := 35) (lb := #[.pointer (some ⟨w.heap.size + 1 + 1, 0, none⟩)]) rfl trivial (enters_of Tryd.func35 (by kernel_rfl) rfl)
    (Each_stops (n - 1) (by omega) (w.heap.size + 1 + 1) w.heap.size s hs _ (by simp) (by simp; omega) hg bN.cell (HT.out.below hB0 hg)) belowK_t (belowK_b (by simp; omega)) (Below.refl _ _) (fun _ => rfl)
    (fun pre W => (Boxed W (w.heap.size + 1) 25 (.int .u16 (imgL f (valsF pre) : Nat)) ∧ Row W w.heap.size f) ∧ Below w.heap.size w W)
    (fun _ _ _ => False)
    (OwnFrom.and (OwnFrom.and (Own.from (boxed_own (w.heap.size + 1) 25 (fun pre : List (Fin 16) => .int .u16 (imgL f (valsF pre) : Nat))) _) (Own.from (row_own _ f) _)) (ownFrom_below (Nat.le_refl _) (by simp; omega)))
    (fun _ _ _ _ _ hs _ _ => hs)
    ⟨⟨by rw [show imgL f (valsF []) = 0 from imgL_nil f]; exact bI.alloc _, rM⟩, hB0⟩
    (fun x => { tmps := #[.agg (mapC f), .int .u16 s, .pointer (some ⟨w.heap.size, 0, none⟩), undef, .int .u16 0, .pointer (some ⟨w.heap.size + 1, 0, none⟩), .int .i64 (x.val : Int), .int .u16 s, .func (.func 35) #[] #[.pointer (some ⟨w.heap.size + 1 + 1, 0, none⟩)], .int .i64 (x.val : Int), undef, undef, undef, undef, undef, undef, undef, undef, undef], defers := [] }) ?assign ?body ?done ?stop
  case assign =>
    intro l x W K hK
    simp only [encT]
    gi_wp2
    exact hK
  case body =>
    rintro l pre x W ⟨⟨hv, hr⟩, hB⟩ hlt
    have hc := hv.cell
    have hf0 := hv.frozen
    have hca := fun o => (hv.alloc o).cell
    have hfa := fun o => (hv.alloc o).frozen
    have hx := x.isLt
    have cm := hr.cell hx
    have hfx := hf x.val hx
    have hSl := imgL_lt f (valsF pre)
    have HS := Lib.hid (imgL_snoc f (valsF pre) x.val)
    have HO := Lib.hid (u16_or_nat (imgL f (valsF pre)) (ofL 0 [(f x.val : Int)]) hSl (ofL_lt0 _))
    have HV := Lib.hid hv
    have HR := Lib.hid hr
    clear hv hr
    generalize imgL f (valsF pre) = S at *
    generalize f x.val = y at *
    have hI := fun V => ints_one_drew V (y : Int)
    have hd1 : 1 ≤ n - 1 - 1 := by omega
    have hwy : IntKind.i64.wrap (y : Int) = (y : Int) := by simp [IntKind.wrap, IntKind.bits, IntKind.signed]; omega
    have HI := Lib.hid hI
    clear hI
    gi_wp2
    gi_region_with (refine ⟨trivial, ?_⟩; refine (CallsIn.inRound l (callsIn_wide.2 (Of_any _ [(y : Int)] _ (HI.out _)))).mono ?_; rintro e w0 ⟨rfl, rfl⟩)
    all_goals
      have hBx : Below w.heap.size W ((W.alloc (.cells #[.int .i64 (y : Int)] 3)).setCell ⟨w.heap.size + 1, 0, none⟩ (.int .u16 (bits .or .u16 (S : Int) (ofL 0 [(y : Int)] : Nat)))).drew := (((Below.refl _ W).alloc hB.size _).setCell (by simp) _).drew
      have hBy : Boxed ((W.alloc (.cells #[.int .i64 (y : Int)] 3)).setCell ⟨w.heap.size + 1, 0, none⟩ (.int .u16 (bits .or .u16 (S : Int) (ofL 0 [(y : Int)] : Nat)))).drew (w.heap.size + 1) 25 (.int .u16 (bits .or .u16 (S : Int) (ofL 0 [(y : Int)] : Nat))) := (HV.out.alloc _).set _
      exact ⟨(((KeepsOthers.alloc W _).trans (KeepsOthers.setCell _ _ _)).trans (KeepsOthers.drew _)).from _, hBx, ⟨by rw [valsF_snoc, ← HS.out, ← HO.out]; exact hBy, (HR.out.alloc _).set_other (by simp) _⟩, hB.trans hBx⟩
  case done =>
    rintro D ys W hD hys ⟨⟨hv, hr⟩, hB⟩ hK
    have hc := hv.cell
    have HI := Lib.hid (show imgL f (valsF ys) = imgN f s by rw [hys]; exact imgL_tags f s)
    clear hys
    gi_wp2
    refine ⟨by simp, .inl ⟨_, _, rfl, run_takeDeferred hK, ?_⟩⟩
    exact ⟨_, results_tmp rfl _ _ _, by rw [HI.out]; rfl, hB.trans (belowK_b (w := w) (Nat.le_refl _) W D _ _ (by simp at hD; omega) hK rfl rfl)⟩
  case stop =>
    rintro D c pre W _ _ h _
    exact h.elim

theorem rlSet_any (f : Nat → Nat) (hf : MapOk f) (s : Nat) (hs : s < 65536) (w : World) (hT : TabOk w) :
    Calls Tryd.prog 10 #[.agg (mapC f), .int .u16 s] w fun e w' => e = .returned (.int .u16 (imgN f s : Nat)) ∧ Below w.heap.size w w' :=
  callsIn_wide.1 (Set_in 3 (Nat.le_refl _) f hf s hs w hT.1 hT.2)

end Go.Proofs.YtecbaleabnepaaaDoor

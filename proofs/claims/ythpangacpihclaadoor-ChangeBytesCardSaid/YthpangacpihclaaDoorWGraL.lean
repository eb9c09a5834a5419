/-
  The program's graphs: a recursive closure visits the roles.
-/
import Derived.Test.YthpangacpihclaaDoorW2
import Derived.Test.YthpangacpihclaaDoorW1
/-! GraL -/
namespace Go.Proofs.YthpangacpihclaaDoor
open Go.RowKit Go.Shelf

attribute [local go_sem] Oper.semAt_some

/-- A slice of integers, as a fact. -/
theorem IntsAt.below {w w' : World} {v : Value} {l : List Int} (h : IntsAt w v l) (hB : Below w.heap.size w w') : IntsAt w' v l := by
  obtain ⟨p, cap, hv, hm, hc⟩ := h
  refine ⟨p, cap, hv, hm, fun hn => ?_⟩
  obtain ⟨b, off, hp, hcell⟩ := hc hn
  refine ⟨b, off, hp, fun i hi => ?_⟩
  have h1 := hcell i hi
  have hlt : b < w.heap.size := by
    refine Classical.byContradiction fun hge => ?_
    have : w.heap[b]? = none := Array.getElem?_eq_none (by omega)
    simp [World.cell?, this] at h1
  exact (hB.cell (p := ⟨b, off + i, none⟩) hlt).trans h1
def intsF (l : List Int) : Fact := ⟨fun v w => IntsAt w v l, fun _ _ _ h hB => h.below hB⟩
theorem mem_tagsV {s t : Nat} : t ∈ tagsN s ↔ t < 16 ∧ s.testBit t = true := mem_tagsTo s 16 t
theorem ofL_with {s r : Nat} (hs : s < 65536) (hr : r < 16) : bits .or .u16 (s : Int) ((ofL 0 [(r : Int)] : Nat) : Int) = ((withN s r : Nat) : Int) := by
  rw [ofL_one hr, u16_or_nat s (pw r) hs (pw_lt hr)]; rfl
theorem has_less {W s r : Nat} (hW : W < 65536) (hs : s < 65536) : hasB ((lessN W s : Nat) : Int) (r : Int) = (W.testBit r && !s.testBit r) := by
  rw [hasB_bit, lessN_bit hW hs]
theorem andNot_less {W s : Nat} (hW : W < 65536) (hs : s < 65536) : bits .andNot .u16 (W : Int) (s : Int) = ((lessN W s : Nat) : Int) := by
  rw [u16_andNot_nat W s hW hs]; rfl
/-- What grows beside cells leaves a block of cells. -/
theorem Blk.grown {w w' : World} {b : Nat} {vs : Array Value} {t : TypeId} (h : Blk w b vs t) {row : Option Nat} (hg : w.grownBy w' row) (hr : ∀ r, row = some r → ∃ o : Obj, w.heap[r]? = some o ∧ o.isCells = false) : Blk w' b vs t := by
  refine (hg.block b h.lt fun e => ?_).trans h
  obtain ⟨o, h1, h2⟩ := hr b e.symm
  rw [show w.heap[b]? = _ from h] at h1
  cases h1
  cases h2

def visV (bw br bg bv : Nat) : Value := .func (.func 95) #[] #[.pointer (some ⟨bw, 0, none⟩), .pointer (some ⟨br, 0, none⟩), .pointer (some ⟨bg, 0, none⟩), .pointer (some ⟨bv, 0, none⟩)]
/-- What the closure has captured. -/
structure VisW (bw br bg bv : Nat) (f : Nat → Nat) (W s : Nat) (V : World) : Prop where
  w : Blk V bw #[.int .u16 (W : Int)] 22
  r : Blk V br #[.int .u16 (s : Int)] 22
  g : GRow V bg f
  v : Blk V bv #[visV bw br bg bv] 122
  tab : TabOk V
structure VisB (N bw br bg bv : Nat) : Prop where
  n : N ≤ br
  t : 0 < N
  w : bw ≠ br
  g : bg ≠ br
  v : bv ≠ br
theorem VisW.below {bw br bg bv : Nat} {f : Nat → Nat} {W s : Nat} {V V' : World} (h : VisW bw br bg bv f W s V) (hB : Below V.heap.size V V') : VisW bw br bg bv f W s V' :=
  ⟨Blk.below h.w hB h.w.lt, Blk.below h.r hB h.r.lt, h.g.step hB, Blk.below h.v hB h.v.lt, h.tab.below hB⟩
theorem VisW.chg {N bw br bg bv : Nat} {f : Nat → Nat} {W s s2 : Nat} {V V' : World} (h : VisW bw br bg bv f W s V) (hb : VisB N bw br bg bv) (hN : N ≤ V.heap.size) (hc : Chg (fun k => k = br) V V') (hr : Blk V' br #[.int .u16 (s2 : Int)] 22) : VisW bw br bg bv f W s2 V' :=
  ⟨hc.kept h.w hb.w, hr, hc.kept h.g hb.g, hc.kept h.v hb.v, h.tab.1.below (hc.below hN fun _ e => e ▸ hb.n) hb.t, Nat.lt_of_lt_of_le h.tab.2 hc.size⟩
theorem VisW.grown {N bw br bg bv : Nat} {f : Nat → Nat} {W s : Nat} {V V' : World} (h : VisW bw br bg bv f W s V) (hb : VisB N bw br bg bv) (hN : N ≤ V.heap.size) {row : Option Nat} (hg : V.grownBy V' row) (hr : ∀ r, row = some r → N ≤ r ∧ ∃ o : Obj, V.heap[r]? = some o ∧ o.isCells = false) : VisW bw br bg bv f W s V' :=
  ⟨h.w.grown hg fun r e => (hr r e).2, h.r.grown hg fun r e => (hr r e).2, Blk.grown h.g hg fun r e => (hr r e).2, h.v.grown hg fun r e => (hr r e).2,
   h.tab.1.below ((Below.refl N V).grown hg hN fun k e => (hr k e).1) hb.t, Nat.lt_of_lt_of_le h.tab.2 hg.size⟩
theorem Chg.grown {S : Nat → Prop} {w V V' : World} {B : Nat} (h : Chg S w V) (hB : w.heap.size ≤ B) {row : Option Nat} (hg : V.grownBy V' row) (hr : ∀ r, row = some r → B ≤ r) : Chg S w V' :=
  h.then (Chg.ofGrown hg) fun i hi e => by have := hr i e; omega
/-- Between two rounds: these were visited. -/
def VisI (bw br bg bv : Nat) (f : Nat → Nat) (W s : Nat) (w : World) (l : List Nat) (V : World) : Prop := ∃ s2, s2 < 65536 ∧ Vis f W s (fun k => k ∈ l) s2 ∧ VisW bw br bg bv f W s2 V ∧ Chg (fun k => k = br) w V
theorem visI_own {N bw br bg bv : Nat} {f : Nat → Nat} {W s : Nat} {w : World} (hb : VisB N bw br bg bv) (hN : N ≤ w.heap.size) {B : Nat} (hB : w.heap.size ≤ B) : OwnFrom B (fun (pre : List (Fin 16)) V => VisI bw br bg bv f W s w (valsF pre) V) := by
  rintro pre X Y row ⟨s2, h1, h2, h3, h4⟩ hg hr
  exact ⟨s2, h1, h2, h3.grown hb (Nat.le_trans hN h4.size) hg fun r e => ⟨Nat.le_trans hN (Nat.le_trans hB (hr r e).1), (hr r e).2⟩, h4.grown hB hg fun r e => (hr r e).1⟩
theorem Vis.more {f : Nat → Nat} {W s s1 s2 k : Nat} {l : List Nat} (h : Vis f W s (fun r => r ∈ l) s1) (h2 : Vis f W s1 (fun r => r = k) s2) : Vis f W s (fun r => r ∈ l ++ [k]) s2 :=
  (h.trans h2).roots_iff fun r => by simp
theorem Vis.tags {f : Nat → Nat} {W s s2 m : Nat} (hm : m < 65536) (h : Vis f W s (fun r => r ∈ tagsN m) s2) : Vis f W s (fun r => m.testBit r = true) s2 :=
  h.roots_iff fun r => by rw [mem_tagsV]; exact ⟨fun h => h.2, fun h => ⟨bit_lt hm h, h⟩⟩
theorem keeps_chg {br B : Nat} {V V' : World} (h : Chg (fun k => k = br) V V') (hB : br < B) : KeepsFrom B V V' :=
  ⟨h.size, fun k o hk ho _ => (h.block k (Array.getElem?_eq_some_iff.1 ho).1 (by omega)).trans ho⟩
set_option maxRecDepth 100000 in
set_option maxHeartbeats 3200000 in
theorem visit_any (bw br bg bv : Nat) (f : Nat → Nat) (W N : Nat) (hf : GrOk f) (hW : W < 65536) (hb : VisB N bw br bg bv) : ∀ (m s r : Nat) (w : World), leftB s < m → N ≤ w.heap.size → VisW bw br bg bv f W s w → s < 65536 → r < 16 →
    Calls Tryd.prog 95 #[.int .i64 (r : Int), .pointer (some ⟨bw, 0, none⟩), .pointer (some ⟨br, 0, none⟩), .pointer (some ⟨bg, 0, none⟩), .pointer (some ⟨bv, 0, none⟩)] w
      fun e w' => e = .returned (.tuple #[]) ∧ ∃ s2, s2 < 65536 ∧ Vis f W s (fun k => k = r) s2 ∧ VisW bw br bg bv f W s2 w' ∧ Chg (fun k => k = br) w w' := by
  intro m
  induction m with
  | zero => intro s r w h; omega
  | succ m ih =>
    intro s r w hl hN hV hs hr
    have hd : lessN W s < 65536 := lessN_lt s hW
    have hHas := has_less (r := r) hW hs
    have hL := andNot_less hW hs
    have HO := Lib.hid (ofL_with hs hr)
    have HH := Lib.hid (fun V => Has_any (lessN W s) (r : Int) V hd)
    rw [hHas] at HH
    have HV := Lib.hid hV
    have HI := Lib.hid (And.intro hl (And.intro hN (And.intro hs (And.intro hf hW))))
    have kw := hV.w.cell 0
    have kr := hV.r.cell 0
    clear hHas hd hV hl hs hW hN hf
    generalize lessN W s = d at *
    refine (callsIn_wide (n := 3)).1 ?_
    refine callsIn_of_wp_marks Tryd.func95 rfl trivial ?_ rfl
    simp only [Tryd.ntmps95, List.size_toArray, List.length_cons, List.length_nil, Nat.reduceAdd, Nat.reduceSub, Array.replicate_succ, Array.replicate_zero, List.push_toArray, List.append_toArray, List.nil_append, List.cons_append]
    cases hb1 : (W.testBit r && !s.testBit r) with
    | false =>
      rw [hb1] at HH
      gi_wp2_with (refine ⟨trivial, ?_⟩; gi_at_call 57; refine (callsIn_wide.2 (HH.out _)).mono ?_; clear HH; rintro e w' ⟨rfl, rfl⟩)
      refine ⟨_, results_none rfl _ _ _, rfl, s, HI.out.2.2.1, Vis.none fun k hk hw => ?_, HV.out, Chg.refl _ _⟩
      subst hk
      rw [hw] at hb1
      simpa using hb1
    | true =>
      rw [hb1] at HH
      gi_wp2_with (refine ⟨trivial, ?_⟩; gi_at_call 57; refine (callsIn_wide.2 (HH.out _)).mono ?_; clear HH; rintro e w' ⟨rfl, rfl⟩)
      clear kw hL
      refine wpIn_region_factsT 5 1 (fun V => Below w.heap.size w V) [Fact.is (.int .u16 (s : Int)), Fact.is (.int .i64 (r : Int)), intsF [(r : Int)], Fact.is (.int .u16 ((ofL 0 [(r : Int)] : Nat) : Int)), Fact.is (.int .u16 ((withN s r : Nat) : Int))] []
        (fun x => { tmps := #[.int .i64 (r : Int), .pointer (some ⟨bw, 0, none⟩), .pointer (some ⟨br, 0, none⟩), .pointer (some ⟨bg, 0, none⟩), .pointer (some ⟨bv, 0, none⟩), undef, undef, .int .u16 (W : Int), .int .u16 (s : Int), .int .u16 (d : Int), .int .i64 (r : Int), .bool true, .bool false, x 0, x 1, x 2, x 3, x 4, undef, undef, undef, undef, undef, undef, undef, undef], defers := [] }) (fun _ => undef) (by kernel_rfl) rfl (by kernel_rfl) rfl (by kernel_rfl) (by kernel_rfl) ((Below.refl _ _).drew) (fun u v hu hB => hu.trans (hB.mono hu.size)) ?_ ?_
      · simp only [List.take_succ_cons, List.take_zero]
        refine ⟨⟨fun x v => rfl, fun x V hC hD => ?_⟩, ?_⟩
        · clear hD
          refine want_yes rfl ?_
          have k0 := (hC.cell (p := ⟨br, 0, none⟩) HV.out.r.lt).trans kr
          exact leads_value (by go_simp) ⟨Below.refl _ _, rfl, fun h => absurd h (by simp)⟩
        refine ⟨⟨fun x v => rfl, fun x V hC hD => ?_⟩, ?_⟩
        · clear hD
          refine want_yes rfl ?_
          exact leads_value (by go_simp) ⟨Below.refl _ _, rfl, fun h => absurd h (by simp)⟩
        refine ⟨⟨fun x v => rfl, fun x V hC hD => ?_⟩, ?_⟩
        · have e1 : x 1 = .int .i64 (r : Int) := hD.1 rfl
          clear hD
          refine want_yes rfl ?_
          exact leads_value (by go_simp) ⟨below_one _ _, ints_one _ _, fun h => absurd h (by simp)⟩
        refine ⟨⟨fun x v => rfl, fun x V hC hD => ?_⟩, ?_⟩
        · have e2 : IntsAt V ((x 2)) [(r : Int)] := hD.1 rfl
          clear hD
          refine want_yes rfl ?_
          exact leads_enter (by go_simp) ((Of_any _ _ _ e2).mono fun _ _ ⟨h1, h2⟩ => ⟨h1, h2 ▸ Below.refl _ _⟩) fun w'' hB => ⟨hB, rfl, fun h => absurd h (by simp)⟩
        refine ⟨⟨fun x v => rfl, fun x V hC hD => ?_⟩, ?_⟩
        · have e0 : x 0 = .int .u16 (s : Int) := hD.1 rfl
          have e3 : x 3 = .int .u16 ((ofL 0 [(r : Int)] : Nat) : Int) := hD.2.1 rfl
          clear hD
          refine want_yes rfl ?_
          exact leads_value (v := .int .u16 (bits .or .u16 (s : Int) ((ofL 0 [(r : Int)] : Nat) : Int))) (by go_simp) ⟨Below.refl _ _, by rw [HO.out]; rfl, fun h => absurd h (by simp)⟩
        trivial
      · intro x V hF
        simp only [List.drop_succ_cons, List.drop_zero]
        have e0 : x 0 = .int .u16 (s : Int) := hF.fact 0 (by decide) rfl
        have e1 : x 1 = .int .i64 (r : Int) := hF.fact 1 (by decide) rfl
        have e3 : x 3 = .int .u16 ((ofL 0 [(r : Int)] : Nat) : Int) := hF.fact 3 (by decide) rfl
        have e4 : x 4 = .int .u16 ((withN s r : Nat) : Int) := hF.fact 4 (by decide) rfl
        have HB := Lib.hid (show Below w.heap.size w V from hF.c)
        clear hF
        rw [e0, e1, e3, e4]
        clear e0 e1 e3 e4
        generalize x 2 = y15
        generalize ((ofL 0 [(r : Int)] : Nat) : Int) = y16
        have hV1 := HV.out.below HB.out
        have c0 := hV1.r.cell 0
        have c1 := hV1.r.free 0
        have hbits : W.testBit r = true ∧ s.testBit r = false := by simpa using hb1
        have hs1 : withN s r < 65536 := withN_lt HI.out.2.2.1 hr
        have hV2 := hV1.chg hb (Nat.le_trans HI.out.2.1 HB.out.size) ((Chg.refl (fun k => k = br) V).setCell (p := ⟨br, 0, none⟩) (fun _ => rfl) (.int .u16 ((withN s r : Nat) : Int))) (by simpa using hV1.r.set 0 (.int .u16 ((withN s r : Nat) : Int)))
        have HC2 := Lib.hid ((Chg.ofBelow (S := fun k => k = br) HB.out).trans ((Chg.refl (fun k => k = br) V).setCell (p := ⟨br, 0, none⟩) (fun _ => rfl) (.int .u16 ((withN s r : Nat) : Int))))
        have HV2 := Lib.hid hV2
        clear hV2 hV1
        go_wp2_with fail
        rename_i hgo
        refine hgo _ _ ?_
        clear hgo c0 c1 kr
        have hfr := HI.out.2.2.2.1 r hr
        have hk : leftB (withN s r) < m := by have := leftB_with hr hbits.2; have := HI.out.1; omega
        generalize V.setCell ⟨br, 0, none⟩ (.int .u16 ((withN s r : Nat) : Int)) = w1 at *
        have kg := HV2.out.g.cell hr
        generalize hS : withN s r = S1 at *
        generalize hF : f r = fr at *
        have hr16 : (r : Int) < 16 := by omega
        gi_wp2_with (refine ⟨trivial, ?_⟩; gi_at_call 89; refine (Each_in _ _ _).mono ?_; rintro e w' ⟨rfl, rfl⟩)
        have bN := Boxed.new w1 22 (.int .u16 (fr : Int))
        have hC12 := Lib.hid (HC2.out.trans (Chg.ofBelow (belowNew w1 (.cells #[.int .u16 (fr : Int)] 22))))
        have hV3 := HV2.out.below (belowNew w1 (.cells #[.int .u16 (fr : Int)] 22))
        have hbw : br < (w1.alloc (.cells #[.int .u16 (fr : Int)] 22)).heap.size := hV3.r.lt
        have hN3 : N ≤ (w1.alloc (.cells #[.int .u16 (fr : Int)] 22)).heap.size := Nat.le_trans HI.out.2.1 hC12.out.size
        have hn1 : w1.heap.size < (w1.alloc (.cells #[.int .u16 (fr : Int)] 22)).heap.size := by simp
        generalize w1.alloc (.cells #[.int .u16 (fr : Int)] 22) = w2 at *
        have HK := Lib.hid hk
        clear hk kg HC2 HB HO HV
        refine wpIn_rangeFunc_ownG rfl (by decide) (gf := 96) (lb := #[.pointer (some ⟨w1.heap.size, 0, none⟩)]) rfl trivial (enters_of Tryd.func96 (by kernel_rfl) rfl)
          (Each_stops 2 (by decide) w1.heap.size N fr hfr w2 hn1 hN3 hb.t bN.cell hV3.tab.1) belowK_t (belowK_b hN3) (Below.refl _ _) (fun _ => rfl)
          (fun pre V => VisI bw br bg bv f W S1 w2 (valsF pre) V) (fun _ _ _ => False) (visI_own hb hN3 (Nat.le_refl _)) (fun _ _ _ _ _ hs _ _ => hs)
          ⟨S1, hs1, Vis.none fun r hr => absurd hr (by simp [valsF]), hV3, Chg.refl _ _⟩
          (fun x => { tmps := #[.int .i64 (r : Int), .pointer (some ⟨bw, 0, none⟩), .pointer (some ⟨br, 0, none⟩), .pointer (some ⟨bg, 0, none⟩), .pointer (some ⟨bv, 0, none⟩), undef, .int .i64 (x.val : Int), .int .u16 (W : Int), .int .u16 (s : Int), .int .u16 (d : Int), .int .i64 (r : Int), .bool true, .bool false, .int .u16 (s : Int), .int .i64 (r : Int), y15, .int .u16 y16, .int .u16 (S1 : Int), .int .i64 (r : Int), .pointer (some ⟨bg, r, none⟩), .int .u16 (fr : Int), .func (.func 96) #[] #[.pointer (some ⟨w1.heap.size, 0, none⟩)], .int .i64 (x.val : Int), undef, undef, undef], defers := [] }) ?assign ?body ?done ?stop
        case assign =>
          intro l x W K hK
          simp only [encT]
          gi_wp2
          exact hK
        case body =>
          rintro l pre x W3 ⟨s2, hs2, hvis, hvw, hc⟩ hlt
          have kv := hvw.v.cell 0
          unfold visV at kv
          have hN4 := Nat.le_trans hN3 hc.size
          have hk := Nat.lt_of_le_of_lt (leftB_sub hvis.sub) HK.out
          have HC := Lib.hid (ih s2 x.val W3 hk hN4 hvw hs2 x.isLt)
          have HP := Lib.hid (And.intro hvis hc)
          clear hvis hc hvw hk ih
          gi_wp2_with (refine ⟨trivial, ?_⟩; gi_at_call 95; refine (CallsIn.inRound l (callsIn_wide.2 HC.out)).mono ?_; clear HC; rintro e w' ⟨rfl, s3, h1, h2, h3, h4⟩)
          exact ⟨keeps_chg h4 hbw, h4.below hN4 fun _ e => e ▸ hb.n, s3, h1, by rw [valsF_snoc]; exact HP.out.1.more h2, h3, HP.out.2.trans h4⟩
        case done =>
          rintro D ys W3 hD hys ⟨s2, hs2, hvis, hvw, hc⟩ hK
          rw [hys] at hvis
          have HP := Lib.hid (And.intro hvis (And.intro hvw hc))
          clear hvis hvw hc hys
          gi_wp2
          refine ⟨by simp, .inl ⟨_, _, rfl, run_takeDeferred hK, ?_⟩⟩
          obtain ⟨hvis, hvw, hc⟩ := HP.out
          refine ⟨_, results_none rfl _ _ _, rfl, s2, hs2, Vis.enter hbits.1 ?_, hvw.grown hb (Nat.le_trans hN3 hc.size) (grownBy_putObj' W3 D _) (fun r e => by cases e; exact ⟨Nat.le_trans hN3 hD, _, hK, rfl⟩),
            hC12.out.trans (hc.grown (Nat.le_refl _) (grownBy_putObj' W3 D _) (fun r e => by cases e; exact hD))⟩
          rw [hS, hF]
          exact hvis.tags hfr
        case stop =>
          rintro D c pre W3 _ _ h _
          exact h.elim
/-- The four blocks that Down makes. -/
structure MadeW (w : World) (f : Nat → Nat) (W : Nat) (V : World) : Prop where
  vis : VisW (w.heap.size + 1) (w.heap.size + 1 + 1) w.heap.size (w.heap.size + 1 + 1 + 1) f W 0 V
  below : Below w.heap.size w V
theorem madeW (w : World) (f : Nat → Nat) (W : Nat) (hT : TabOk w) {V : World} (hV : V = (((w.alloc (.cells (grC f) 26)).alloc (.cells #[.int .u16 (W : Int)] 22)).alloc (.cells #[.int .u16 0] 22)).alloc (.cells #[visV (w.heap.size + 1) (w.heap.size + 1 + 1) w.heap.size (w.heap.size + 1 + 1 + 1)] 122)) : MadeW w f W V ∧ V.heap.size = w.heap.size + 1 + 1 + 1 + 1 := by
  have hB1 := belowNew w (.cells (grC f) 26)
  have g1 := GRow.new w f
  have z1 : (w.alloc (.cells (grC f) 26)).heap.size = w.heap.size + 1 := by simp
  generalize w.alloc (.cells (grC f) 26) = w1 at *
  have hB2 := hB1.alloc (by omega) (.cells #[.int .u16 (W : Int)] 22)
  have g2 := g1.alloc (.cells #[.int .u16 (W : Int)] 22)
  have b2 := Blk.new w1 #[.int .u16 (W : Int)] 22
  have z2 : (w1.alloc (.cells #[.int .u16 (W : Int)] 22)).heap.size = w.heap.size + 1 + 1 := by simp [z1]
  rw [z1] at b2
  generalize w1.alloc (.cells #[.int .u16 (W : Int)] 22) = w2 at *
  have hB3 := hB2.alloc (by omega) (.cells #[.int .u16 0] 22)
  have g3 := g2.alloc (.cells #[.int .u16 0] 22)
  have b3 := b2.alloc (.cells #[.int .u16 0] 22)
  have r3 := Blk.new w2 #[.int .u16 0] 22
  have z3 : (w2.alloc (.cells #[.int .u16 0] 22)).heap.size = w.heap.size + 1 + 1 + 1 := by simp [z2]
  rw [z2] at r3
  generalize w2.alloc (.cells #[.int .u16 0] 22) = w3 at *
  generalize hv : visV (w.heap.size + 1) (w.heap.size + 1 + 1) w.heap.size (w.heap.size + 1 + 1 + 1) = v at *
  have hB4 := hB3.alloc (by omega) (.cells #[v] 122)
  have v4 := Blk.new w3 #[v] 122
  rw [z3] at v4
  have g4 := g3.alloc (.cells #[v] 122)
  have b4 := b3.alloc (.cells #[v] 122)
  have r4 := r3.alloc (.cells #[v] 122)
  subst hV
  exact ⟨⟨⟨b4, r4, g4, hv ▸ v4, hT.below hB4⟩, hB4⟩, by simp [z3]⟩
set_option maxRecDepth 100000 in
set_option maxHeartbeats 3200000 in
theorem gDown_any : GDownC := by
  intro f s W w hT hf hs hW
  obtain ⟨V, hV⟩ : ∃ V, V = (((w.alloc (.cells (grC f) 26)).alloc (.cells #[.int .u16 (W : Int)] 22)).alloc (.cells #[.int .u16 0] 22)).alloc (.cells #[visV (w.heap.size + 1) (w.heap.size + 1 + 1) w.heap.size (w.heap.size + 1 + 1 + 1)] 122) := ⟨_, rfl⟩
  have HM := Lib.hid (madeW w f W hT hV)
  unfold visV at hV
  have HVe := Lib.hid hV
  clear hV
  have hsf : ∀ (p : Addr) (x : Array Value) (W : World) (m : Mode), (store p (.func (.func 95) #[] x) m).run Tryd.prog W = stored Tryd.prog W p (.func (.func 95) #[] x) m := fun p x W m => run_store Tryd.prog W p (.func (.func 95) #[] x) m rfl
  have HT := Lib.hid (And.intro hT (And.intro hf (And.intro hs hW)))
  clear hT hf hs hW
  refine (callsIn_wide (n := 3)).1 ?_
  refine callsIn_of_wp_marks Tryd.func83 rfl trivial ?_ rfl
  simp only [Tryd.ntmps83, List.size_toArray, List.length_cons, List.length_nil, Nat.reduceAdd, Nat.reduceSub, Array.replicate_succ, Array.replicate_zero, List.push_toArray, List.append_toArray, List.nil_append, List.cons_append]
  gi_wp2_with (refine ⟨trivial, ?_⟩; gi_at_call 89; refine (Each_in _ _ _).mono ?_; rintro e w' ⟨rfl, rfl⟩)
  rw [← HVe.out]
  obtain ⟨hMv, hMz⟩ := HM.out
  obtain ⟨hT, hf, hs, hW⟩ := HT.out
  rw [← hMz]
  clear HM HVe HT hsf
  obtain ⟨hvw, hB⟩ := hMv
  have hvb : VisB w.heap.size (w.heap.size + 1) (w.heap.size + 1 + 1) w.heap.size (w.heap.size + 1 + 1 + 1) := ⟨by omega, hT.2, by omega, by omega, by omega⟩
  have bN := Boxed.new V 22 (.int .u16 (s : Int))
  have hB2 := hB.alloc hB.size (.cells #[.int .u16 (s : Int)] 22)
  have hV3 := hvw.below (belowNew V (.cells #[.int .u16 (s : Int)] 22))
  have hn1 : V.heap.size < (V.alloc (.cells #[.int .u16 (s : Int)] 22)).heap.size := by simp
  have hn2 : w.heap.size ≤ V.heap.size := hB.size
  generalize V.alloc (.cells #[.int .u16 (s : Int)] 22) = w2 at *
  have HB := Lib.hid hB2
  have HV := Lib.hid hMz
  clear hvw hB hB2 hMz
  obtain ⟨bw, hbw⟩ : ∃ b, b = w.heap.size + 1 := ⟨_, rfl⟩
  obtain ⟨br, hbr⟩ : ∃ b, b = w.heap.size + 1 + 1 := ⟨_, rfl⟩
  obtain ⟨bg, hbg⟩ : ∃ b, b = w.heap.size := ⟨_, rfl⟩
  obtain ⟨bv, hbv⟩ : ∃ b, b = w.heap.size + 1 + 1 + 1 := ⟨_, rfl⟩
  have hN3 : w.heap.size ≤ w2.heap.size := HB.out.size
  rw [← hbv, ← hbr, ← hbw] at hV3 hvb ⊢
  have hV4 : VisW bw br bg bv f W 0 w2 := hbg ▸ hV3
  have hvc : VisB w.heap.size bw br bg bv := by rw [hbg]; exact hvb
  rw [show (Value.pointer (some ⟨w.heap.size, 0, none⟩)) = .pointer (some ⟨bg, 0, none⟩) by rw [hbg]]
  have hbrl : br < w2.heap.size := hV4.r.lt
  clear hbv hbr hbw hbg hV3 hvb
  refine wpIn_rangeFunc_ownG rfl (by decide) (gf := 96) (lb := #[.pointer (some ⟨V.heap.size, 0, none⟩)]) rfl trivial (enters_of Tryd.func96 (by kernel_rfl) rfl)
    (Each_stops 2 (by decide) V.heap.size w.heap.size s hs w2 hn1 hN3 hT.2 bN.cell hV4.tab.1) belowK_t (belowK_b hN3) (Below.refl _ _) (fun _ => rfl)
    (fun pre V => VisI bw br bg bv f W 0 w2 (valsF pre) V) (fun _ _ _ => False) (visI_own hvc hN3 (Nat.le_refl _)) (fun _ _ _ _ _ hs _ _ => hs)
    ⟨0, by decide, Vis.none fun r hr => absurd hr (by simp [valsF]), hV4, Chg.refl _ _⟩
    (fun x => { tmps := #[.agg (grC f), .int .u16 (s : Int), .int .u16 (W : Int), .pointer (some ⟨bg, 0, none⟩), undef, .pointer (some ⟨bw, 0, none⟩), .int .u16 0, .pointer (some ⟨br, 0, none⟩), .pointer (some ⟨bv, 0, none⟩), .int .i64 (x.val : Int), visV bw br bg bv, .int .u16 (s : Int), .func (.func 96) #[] #[.pointer (some ⟨V.heap.size, 0, none⟩)], .int .i64 (x.val : Int), undef, undef, undef, undef], defers := [] }) ?assign ?body ?done ?stop
  case assign =>
    intro l x W3 K hK
    simp only [encT]
    gi_wp2
    exact hK
  case body =>
    rintro l pre x W3 ⟨s2, hs2, hvis, hvw, hc⟩ hlt
    have kv := hvw.v.cell 0
    unfold visV at kv
    have hN4 := Nat.le_trans hN3 hc.size
    have HC := Lib.hid (visit_any bw br bg bv f W w.heap.size hf hW hvc (leftB s2 + 1) s2 x.val W3 (Nat.lt_succ_self _) hN4 hvw hs2 x.isLt)
    have HP := Lib.hid (And.intro hvis hc)
    clear hvis hc hvw
    gi_wp2_with (refine ⟨trivial, ?_⟩; gi_at_call 95; refine (CallsIn.inRound l (callsIn_wide.2 HC.out)).mono ?_; clear HC; rintro e w' ⟨rfl, s3, h1, h2, h3, h4⟩)
    exact ⟨keeps_chg h4 hbrl, h4.below hN4 fun _ e => e ▸ hvc.n, s3, h1, by rw [valsF_snoc]; exact HP.out.1.more h2, h3, HP.out.2.trans h4⟩
  case done =>
    rintro D ys W3 hD hys ⟨s2, hs2, hvis, hvw, hc⟩ hK
    rw [hys] at hvis
    have HE := Lib.hid (vis_down hW (hvis.tags hs))
    have HP := Lib.hid (And.intro hvw hc)
    have kr := hvw.r.cell 0
    clear hvis hvw hc hys
    gi_wp2
    refine ⟨by simp, .inl ⟨_, _, rfl, run_takeDeferred hK, ?_⟩⟩
    obtain ⟨hvw, hc⟩ := HP.out
    refine ⟨_, results_tmp rfl _ _ _, by rw [HE.out]; rfl, (HB.out.trans (hc.below hN3 fun _ e => e ▸ hvc.n)).trans (belowK_b (w := w2) hN3 W3 D _ _ hD hK rfl rfl)⟩
  case stop =>
    rintro D c pre W3 _ _ h _
    exact h.elim
end Go.Proofs.YthpangacpihclaaDoor

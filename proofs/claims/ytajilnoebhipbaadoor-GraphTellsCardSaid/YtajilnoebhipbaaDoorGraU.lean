/-
  The program's graphs: the other way round, a loop over a whole array with a range over a function in each round; Up.
-/
import Derived.Test.YtajilnoebhipbaaDoorGraT
namespace Go.Proofs.YtajilnoebhipbaaDoor
open Go.RowKit Go.Shelf

attribute [local go_sem] Oper.semAt_some

/-! Marks that ranges over functions leave among the deferred calls. -/
def markD (D : Nat) : Deferred := { target := .collected D, args := #[] }
structure MarksAt (B : Nat) (Ds : List Nat) (V : World) : Prop where
  at_ : ∀ D, D ∈ Ds → B ≤ D ∧ V.heap[D]? = some (.deferred (some []))
  nodup : Ds.Nodup
theorem MarksAt.keep {B : Nat} {Ds : List Nat} {V V' : World} (h : MarksAt B Ds V) (hk : KeepsFrom B V V') : MarksAt B Ds V' :=
  ⟨fun D hD => ⟨(h.at_ D hD).1, hk.same D _ (h.at_ D hD).1 (h.at_ D hD).2 rfl⟩, h.nodup⟩
theorem MarksAt.cons {B : Nat} {Ds : List Nat} {V0 V : World} (h : MarksAt B Ds V) (h0 : MarksAt B Ds V0) {D : Nat} (hB : B ≤ D) (hD : V0.heap.size ≤ D) (hK : V.heap[D]? = some (.deferred (some []))) : MarksAt B (D :: Ds) V :=
  ⟨fun d hd => by
    rcases List.mem_cons.1 hd with rfl | hd
    · exact ⟨hB, hK⟩
    · exact h.at_ d hd, List.nodup_cons.2 ⟨fun hm => by have := (Array.getElem?_eq_some_iff.1 (h0.at_ D hm).2).1; omega, h.nodup⟩⟩
/-- A function leaves with its marks. -/
theorem leaves_marks {F : Fence} {n : Nat} {P : Program} {fn : Func} {tmps : Array Value} {R : Ending → World → Prop} {B : Nat} {J : World → Prop} (hJ : OwnFrom B (fun (_ : Unit) V => J V)) (hR : ∀ V, J V → LeavesInM F n P fn tmps R [] .returning V) :
    ∀ (Ds : List Nat) (V : World), MarksAt B Ds V → J V → LeavesInM F n P fn tmps R (Ds.map markD) .returning V
  | [], V, _, h => hR V h
  | D :: r, V, hm, h => by
    obtain ⟨h1, h2⟩ := hm.at_ D List.mem_cons_self
    obtain ⟨hn1, hn2⟩ := List.nodup_cons.1 hm.nodup
    refine ⟨by simp, .inl ⟨D, _, rfl, run_takeDeferred h2, leaves_marks hJ hR r _ ⟨fun d hd => ?_, hn2⟩ (hJ.putObj (s := ()) _ h h1 h2 rfl)⟩⟩
    obtain ⟨h3, h4⟩ := hm.at_ d (List.mem_cons_of_mem _ hd)
    exact ⟨h3, (World.putObj_heap_other (fun e => hn1 (by rcases e with rfl; exact hd))).trans h4⟩

/-- A whole graph is loaded, inside a fence. -/
theorem wpListIn_load_gr {F : Fence} {n : Nat} {ops : Array Oper} {rest : List Oper} {o : Oper} {a : Act} {w : World} {Q : Exit → Act → World → Prop} (hgd : Region.wanted o (yielded ops a.tmps) = true) (x : Operand) (ho : o.op = .load 23 x)
    {b : Nat} {f : Nat → Nat} (hx : a.eval x = .pointer (some ⟨b, 0, none⟩)) (h : GRow w b f) (hK : wpListIn F n Tryd.prog ops Q rest (a.put o.dst (.agg (grC f))) w) : wpListIn F n Tryd.prog ops Q (o :: rest) a w := by
  simp only [wpListIn]
  rw [if_pos hgd]
  unfold Oper.wpIn
  refine ⟨?_, ?_⟩
  · simp [Oper.about, ho]
  · rw [Oper.semAt_plain F _ _ (by rw [ho]; intro c hc'; cases hc'), exec_load_gr ho hx h]
    exact hK

/-- A graph's row, by an index. -/
theorem run_index_gr (f : Nat → Nat) {k : Nat} (hk : k < 16) (w : World) : (Instr.index 23 (.agg (grC f)) (.int .i64 (k : Int))).run Tryd.prog w = .ok (.int .u16 (f k : Nat)) w := by
  obtain ⟨i, hi⟩ := infoSet
  have h2 : (k : Int) < 16 := by omega
  simp only [Instr.index, asIntOf, Sem.run_bind, Sem.run_pure, Result.andThen_ok, run_underlying Tryd.underlying23]
  rw [if_pos ⟨Int.natCast_nonneg k, h2⟩]
  simp only [Sem.run_bind, run_sizeOf w hi, Result.andThen_ok, show Tryd.prog.cellsOf 22 = 1 by kernel_rfl, Nat.mul_one, Int.toNat_natCast]
  exact run_part_plain (P := Tryd.prog) w (e := 22) (by kernel_rfl) (grC_get f hk)
theorem keeps_blk {b B : Nat} {V V' : World} {vs : Array Value} {t : TypeId} (h : Chg (fun k => k = b) V V') (hb : Blk V b vs t) : KeepsFrom B V V' :=
  ⟨h.size, fun k o _ ho hc => (h.block k (Array.getElem?_eq_some_iff.1 ho).1 (fun e => by
    rw [e, show V.heap[b]? = _ from hb] at ho
    cases ho
    cases hc)).trans ho⟩

/-! A graph's rows, as they are turned. -/
def tnF (f : Nat → Nat) (k : Nat) (l : List Nat) (t : Nat) : Nat := if t ∈ l then withN (turnG f t k) k else turnG f t k
theorem withN_twice (x k : Nat) : withN (withN x k) k = withN x k := withN_same (by rw [withN_bit]; simp)
theorem tnF_snoc (f : Nat → Nat) (k : Nat) (l : List Nat) (j t : Nat) : setF (tnF f k l) j (withN (tnF f k l j) k) t = tnF f k (l ++ [j]) t := by
  unfold setF
  by_cases e : t = j
  · subst e
    rw [if_pos rfl]
    unfold tnF
    by_cases h : t ∈ l
    · rw [if_pos h, if_pos (by simp), withN_twice]
    · rw [if_neg h, if_pos (by simp)]
  · rw [if_neg e]
    unfold tnF
    by_cases h : t ∈ l
    · rw [if_pos h, if_pos (by simp [h])]
    · rw [if_neg h, if_neg (by simp [h, e])]
theorem tnF_nil (f : Nat → Nat) (k t : Nat) : tnF f k [] t = turnG f t k := by unfold tnF; rw [if_neg (by simp)]
theorem tnF_tags (f : Nat → Nat) (k : Nat) {t : Nat} (ht : t < 16) : tnF f k (tagsN (f k)) t = turnG f t (k + 1) := by
  unfold tnF
  rw [show turnG f t (k + 1) = if (f k).testBit t then withN (turnG f t k) k else turnG f t k from rfl]
  by_cases h : (f k).testBit t = true
  · rw [if_pos (mem_tagsV.2 ⟨ht, h⟩), if_pos h]
  · rw [if_neg fun hm => h (mem_tagsV.1 hm).2, if_neg h]
theorem tnF_lt (f : Nat → Nat) {k : Nat} (hk : k < 16) (l : List Nat) (t : Nat) : tnF f k l t < 65536 := by
  unfold tnF
  split
  · exact withN_lt (turnG_lt f t (by omega)) hk
  · exact turnG_lt f t (by omega)

/-- The two blocks that Turn fills. -/
structure TurnW (N br bc : Nat) (w : World) (h : Nat → Nat) (V : World) : Prop where
  r : GRow V br fun _ => 0
  c : GRow V bc h
  below : Below N w V
theorem TurnW.step {N br bc : Nat} {w : World} {h : Nat → Nat} {V V' : World} (k : TurnW N br bc w h V) (hN : N ≤ w.heap.size) (hB : Below V.heap.size V V') : TurnW N br bc w h V' :=
  ⟨k.r.step hB, k.c.step hB, k.below.trans (hB.mono (Nat.le_trans hN k.below.size))⟩
theorem TurnW.congr {N br bc : Nat} {w : World} {h g : Nat → Nat} {V : World} (k : TurnW N br bc w h V) (hc : ∀ t, t < 16 → h t = g t) : TurnW N br bc w g V := ⟨k.r, k.c.congr hc, k.below⟩
theorem TurnW.set {N br bc : Nat} {w : World} {h g : Nat → Nat} {V : World} (q : TurnW N br bc w h V) (hN : N ≤ w.heap.size) (hb : N ≤ bc) (h1 : bc ≠ br) {k : Nat} (hk : k < 16) (v : Nat) (hc : ∀ t, t < 16 → setF h k v t = g t) : TurnW N br bc w g (V.setCell ⟨bc, k, none⟩ (.int .u16 (v : Int))) := by
  have hcg : Chg (fun j => j = bc) V (V.setCell ⟨bc, k, none⟩ (.int .u16 (v : Int))) := (Chg.refl (fun j => j = bc) V).setCell (p := ⟨bc, k, none⟩) (fun _ => rfl) _
  exact ⟨q.r.other h1 _, (q.c.set hk v).congr hc, q.below.trans (hcg.below (Nat.le_trans hN q.below.size) fun _ e => e ▸ hb)⟩
/-- Within a role's round: what the two blocks hold; the role's own block; that the marks are kept. -/
structure TnI (N br bc bk k : Nat) (w w2 : World) (h : Nat → Nat) (V : World) : Prop where
  t : TurnW N br bc w h V
  k : Blk V bk #[.int .i64 (k : Int)] 3
  keep : KeepsFrom N w2 V
theorem tn_own {N br bc bk k : Nat} {f : Nat → Nat} {w w2 : World} (hN : N ≤ w.heap.size) {B : Nat} (hB : N ≤ B) (hB2 : w2.heap.size ≤ B) : OwnFrom B (fun (pre : List (Fin 16)) V => TnI N br bc bk k w w2 (tnF f k (valsF pre)) V) := by
  rintro pre X Y row ⟨h, hk, hp⟩ hg hr
  have hc := fun r e => (hr r e).2
  exact ⟨⟨h.r.grown hg hc, h.c.grown hg hc, h.below.grown hg (Nat.le_trans hN h.below.size) fun k e => Nat.le_trans hB (hr k e).1⟩, Blk.grown hk hg hc, ownFrom_keepsFrom hB2 () X Y row hp hg hr⟩
theorem madeTurn (w : World) (f : Nat → Nat) {V : World} (hV : V = ((w.alloc (.cells (grC f) 23)).alloc (.cells (grC fun _ => 0) 23)).alloc (.cells (grC fun _ => 0) 23)) :
    (GRow V w.heap.size f ∧ TurnW w.heap.size (w.heap.size + 1) (w.heap.size + 1 + 1) w (fun _ => 0) V) := by
  have hB1 := belowNew w (.cells (grC f) 23)
  have g1 := GRow.new w f
  have z1 : (w.alloc (.cells (grC f) 23)).heap.size = w.heap.size + 1 := by simp
  generalize w.alloc (.cells (grC f) 23) = w1 at *
  have hB2 := hB1.alloc (by omega) (.cells (grC fun _ => 0) 23)
  have g2 := g1.alloc (.cells (grC fun _ => 0) 23)
  have r2 := GRow.new w1 fun _ => 0
  have z2 : (w1.alloc (.cells (grC fun _ => 0) 23)).heap.size = w.heap.size + 1 + 1 := by simp [z1]
  rw [z1] at r2
  generalize w1.alloc (.cells (grC fun _ => 0) 23) = w2 at *
  have hB3 := hB2.alloc (by omega) (.cells (grC fun _ => 0) 23)
  have g3 := g2.alloc (.cells (grC fun _ => 0) 23)
  have r3 := r2.alloc (.cells (grC fun _ => 0) 23)
  have c3 := GRow.new w2 fun _ => 0
  rw [z2] at c3
  subst hV
  exact ⟨g3, r3, c3, hB3⟩
set_option maxRecDepth 100000 in
set_option maxHeartbeats 3200000 in
theorem gTurn_any : GTurnC := by
  intro f w hT hf
  obtain ⟨V, hV⟩ : ∃ V, V = ((w.alloc (.cells (grC f) 23)).alloc (.cells (grC fun _ => 0) 23)).alloc (.cells (grC fun _ => 0) 23) := ⟨_, rfl⟩
  have hM := madeTurn w f hV
  have HM := Lib.hid hM.2
  rw [← zeroGr] at hV
  have HVe := Lib.hid hV
  have HT := Lib.hid (And.intro hT hf)
  have hg := hM.1
  rw [hV] at hg
  clear hT hf hV hM
  refine (callsIn_wide (n := 3)).1 ?_
  refine callsIn_of_wp_marks Tryd.func12 rfl trivial ?_ rfl
  simp only [Tryd.ntmps12, List.size_toArray, List.length_cons, List.length_nil, Nat.reduceAdd, Nat.reduceSub, Array.replicate_succ, Array.replicate_zero, List.push_toArray, List.append_toArray, List.nil_append, List.cons_append]
  gi_wp2_with (refine wpListIn_load_gr rfl _ rfl rfl hg ?_)
  rw [← HVe.out]
  obtain ⟨hT, hf⟩ := HT.out
  rename_i hgo
  obtain ⟨br, hbr⟩ : ∃ b, b = w.heap.size + 1 := ⟨_, rfl⟩
  obtain ⟨bc, hbc⟩ : ∃ b, b = w.heap.size + 1 + 1 := ⟨_, rfl⟩
  obtain ⟨bg, hbg⟩ : ∃ b, b = w.heap.size := ⟨_, rfl⟩
  have hNb : w.heap.size ≤ bc ∧ bc ≠ br ∧ w.heap.size ≤ br := ⟨by omega, by omega, by omega⟩
  have hM := HM.out
  rw [← hbc, ← hbr] at hM ⊢
  rw [show (Value.pointer (some ⟨w.heap.size, 0, none⟩)) = .pointer (some ⟨bg, 0, none⟩) by rw [hbg]]
  clear hg HT hbc hbr hbg HM HVe
  have HGO := Lib.hid hgo
  clear hgo
  refine wpIn_loop (fun a' V' => ∃ (k : Nat) (Ds : List Nat) (u4 u5 u6 u9 u10 u11 u12 u13 u14 u15 u16 u17 u18 u19 u20 u21 u22 u23 : Value), k ≤ 16 ∧ MarksAt w.heap.size Ds V' ∧ TurnW w.heap.size br bc w (fun t => turnG f t k) V' ∧ a' = { tmps := #[.agg (grC f), .pointer (some ⟨bg, 0, none⟩), .pointer (some ⟨br, 0, none⟩), .pointer (some ⟨bc, 0, none⟩), u4, u5, u6, .agg (grC f), .int .i64 (k : Int), u9, u10, u11, u12, u13, u14, u15, u16, u17, u18, u19, u20, u21, u22, u23, undef], defers := Ds.map markD })
    (fun a' _ => 16 - (intOf (a'.tmps.getD 8 undef)).toNat) ?_ ?_
  · exact ⟨0, [], undef, undef, undef, undef, undef, undef, undef, undef, undef, undef, undef, undef, undef, undef, undef, undef, undef, undef, by omega, ⟨fun D h => (by cases h), List.nodup_nil⟩, hM.congr fun t _ => rfl, rfl⟩
  · rintro a' V' ⟨k, Ds, u4, u5, u6, u9, u10, u11, u12, u13, u14, u15, u16, u17, u18, u19, u20, u21, u22, u23, hk, hDs, hTw, rfl⟩
    clear hM
    by_cases hlt : k < 16
    · have dk : decide ((k : Int) < 16) = true := by simp; omega
      have hix := fun V => run_index_gr f hlt V
      have hk16 : (k : Int) < 16 := by omega
      have hk0 : (0 : Int) ≤ (k : Int) := by omega
      have hfk := hf k hlt
      have HTw := Lib.hid hTw
      have HDs := Lib.hid hDs
      clear hTw hDs
      generalize hF : f k = fk at *
      have hwk : IntKind.i64.wrap ((k : Int) + 1) = ((k + 1 : Nat) : Int) := by simp [IntKind.wrap, IntKind.bits, IntKind.signed]; omega
      gi_wp2_with (refine ⟨trivial, ?_⟩; gi_at_call 19; refine (Each_in _ _ _).mono ?_; rintro e w' ⟨rfl, rfl⟩)
      rename_i hgo2
      have HGO2 := Lib.hid hgo2
      have HWK := Lib.hid hwk
      clear hgo2 hwk
      have hB1 := belowNew V' (.cells #[.int .i64 (k : Int)] 3)
      have ht1 := HTw.out.step (Nat.le_refl _) hB1
      have hb1 := Blk.new V' #[.int .i64 (k : Int)] 3
      have hD1 := HDs.out.keep ((KeepsOthers.alloc V' (.cells #[.int .i64 (k : Int)] 3)).from _)
      have z1 : (V'.alloc (.cells #[.int .i64 (k : Int)] 3)).heap.size = V'.heap.size + 1 := by simp
      rw [← z1]
      generalize V'.alloc (.cells #[.int .i64 (k : Int)] 3) = w1 at *
      have hB2 := belowNew w1 (.cells #[.int .u16 (fk : Int)] 22)
      have ht2 := ht1.step (Nat.le_refl _) hB2
      have hb2 := hb1.alloc (.cells #[.int .u16 (fk : Int)] 22)
      have hD2 := hD1.keep ((KeepsOthers.alloc w1 (.cells #[.int .u16 (fk : Int)] 22)).from _)
      have bN := Boxed.new w1 22 (.int .u16 (fk : Int))
      have hn1 : w1.heap.size < (w1.alloc (.cells #[.int .u16 (fk : Int)] 22)).heap.size := by simp
      generalize w1.alloc (.cells #[.int .u16 (fk : Int)] 22) = w2 at *
      generalize w1.heap.size = be at *
      generalize V'.heap.size = bk at *
      have hT2 := hT.below ht2.below
      have hN3 : w.heap.size ≤ w2.heap.size := ht2.below.size
      clear hB1 hB2 ht1 hb1 hD1 HTw HDs z1 hix dk hk0 hk16
      refine wpIn_rangeFunc_ownG rfl (by decide) (gf := 25) (lb := #[.pointer (some ⟨be, 0, none⟩)]) rfl trivial (enters_of Tryd.func25 (by kernel_rfl) rfl)
        (Each_stops 2 (by decide) be w.heap.size fk hfk w2 hn1 hN3 hT.2 bN.cell hT2.1) belowK_t (belowK_b hN3) (Below.refl _ _) (fun _ => rfl)
        (fun pre V => TnI w.heap.size br bc bk k w w2 (tnF f k (valsF pre)) V) (fun _ _ _ => False) (tn_own (Nat.le_refl _) hN3 (Nat.le_refl _)) (fun _ _ _ _ _ hs _ _ => hs)
        ⟨ht2.congr fun t _ => (tnF_nil f k t).symm, hb2, KeepsFrom.refl _ _⟩
        (fun x => { tmps := #[.agg (grC f), .pointer (some ⟨bg, 0, none⟩), .pointer (some ⟨br, 0, none⟩), .pointer (some ⟨bc, 0, none⟩), .pointer (some ⟨bk, 0, none⟩), .int .u16 (fk : Int), .int .i64 (x.val : Int), .agg (grC f), .int .i64 (k : Int), .bool true, .int .i64 (k : Int), .int .u16 (fk : Int), .int .u16 (fk : Int), .func (.func 25) #[] #[.pointer (some ⟨be, 0, none⟩)], .int .i64 (x.val : Int), u15, u16, u17, u18, u19, u20, u21, u22, u23, undef], defers := [] }) ?assign ?body ?done ?stop
      case assign =>
        intro l x W3 K hK
        simp only [encT]
        gi_wp2
        exact hK
      case body =>
        rintro l pre t W3 hI hlt2
        have hj16 := t.isLt
        have HS := Lib.hid (tnF_snoc f k (valsF pre) t.val)
        have HL := Lib.hid (valsF_snoc pre t)
        have hlt3 := tnF_lt f hlt (valsF pre) t.val
        have kc := hI.t.c.cell hj16
        have kk := hI.k.cell 0
        have HV := Lib.hid hI
        clear hI
        generalize hkk : t.val = j at *
        have hjj0 : (0 : Int) ≤ (j : Int) := by omega
        have hjj16 : (j : Int) < 16 := by omega
        generalize hH : tnF f k (valsF pre) j = hj at *
        have HO := Lib.hid (ofL_with hlt3 hlt)
        gi_wp2
        refine wpIn_region_factsT 8 1 (fun V => Below W3.heap.size W3 V) [Fact.is (.int .i64 (j : Int)), Fact.is (.pointer (some ⟨bc, j, none⟩)), Fact.is (.int .u16 (hj : Int)), Fact.is (.int .i64 (k : Int)), intsF [(k : Int)], Fact.is (.int .u16 ((ofL 0 [(k : Int)] : Nat) : Int)), Fact.is (.int .u16 ((withN hj k : Nat) : Int)), Fact.is (.pointer (some ⟨bc, j, none⟩))] []
          (fun x => { tmps := #[.agg (grC f), .pointer (some ⟨bg, 0, none⟩), .pointer (some ⟨br, 0, none⟩), .pointer (some ⟨bc, 0, none⟩), .pointer (some ⟨bk, 0, none⟩), .int .u16 (fk : Int), .int .i64 (j : Int), .agg (grC f), .int .i64 (k : Int), .bool true, .int .i64 (k : Int), .int .u16 (fk : Int), .int .u16 (fk : Int), .func (.func 25) #[] #[.pointer (some ⟨be, 0, none⟩)], .int .i64 (j : Int), x 0, x 1, x 2, x 3, x 4, x 5, x 6, x 7, u23, undef], defers := [] }) (fun i => ([u15, u16, u17, u18, u19, u20, u21, u22] : List Value).getD i undef) (by kernel_rfl) rfl (by kernel_rfl) rfl (by kernel_rfl) (by kernel_rfl) ((Below.refl _ _).drew) (fun u v hu hB => hu.trans (hB.mono hu.size)) ?_ ?_
        · simp only [List.take_succ_cons, List.take_zero]
          refine ⟨⟨fun x v => rfl, fun x V hC hD => ?_⟩, ?_⟩
          · clear hD
            refine want_yes rfl ?_
            exact leads_value (by go_simp) ⟨Below.refl _ _, rfl, fun h => absurd h (by simp)⟩
          refine ⟨⟨fun x v => rfl, fun x V hC hD => ?_⟩, ?_⟩
          · have e0 : x 0 = .int .i64 (j : Int) := hD.1 rfl
            clear hD
            refine want_yes rfl ?_
            exact leads_value (v := .pointer (some ⟨bc, j, none⟩)) (by go_simp) ⟨Below.refl _ _, rfl, fun h => absurd h (by simp)⟩
          refine ⟨⟨fun x v => rfl, fun x V hC hD => ?_⟩, ?_⟩
          · have e1 : x 1 = .pointer (some ⟨bc, j, none⟩) := hD.1 rfl
            clear hD
            refine want_yes rfl ?_
            have k0 := (hC.cell (p := ⟨bc, j, none⟩) HV.out.t.c.lt).trans kc
            exact leads_value (by go_simp) ⟨Below.refl _ _, rfl, fun h => absurd h (by simp)⟩
          refine ⟨⟨fun x v => rfl, fun x V hC hD => ?_⟩, ?_⟩
          · clear hD
            refine want_yes rfl ?_
            have k0 := (hC.cell (p := ⟨bk, 0, none⟩) HV.out.k.lt).trans kk
            exact leads_value (by go_simp) ⟨Below.refl _ _, rfl, fun h => absurd h (by simp)⟩
          refine ⟨⟨fun x v => rfl, fun x V hC hD => ?_⟩, ?_⟩
          · have e3 : x 3 = .int .i64 (k : Int) := hD.1 rfl
            clear hD
            refine want_yes rfl ?_
            exact leads_value (by go_simp) ⟨below_one _ _, ints_one _ _, fun h => absurd h (by simp)⟩
          refine ⟨⟨fun x v => rfl, fun x V hC hD => ?_⟩, ?_⟩
          · have e4 : IntsAt V ((x 4)) [(k : Int)] := hD.1 rfl
            clear hD
            refine want_yes rfl ?_
            exact leads_enter (by go_simp) ((Of_any _ _ _ e4).mono fun _ _ ⟨h1, h2⟩ => ⟨h1, h2 ▸ Below.refl _ _⟩) fun w'' hB => ⟨hB, rfl, fun h => absurd h (by simp)⟩
          refine ⟨⟨fun x v => rfl, fun x V hC hD => ?_⟩, ?_⟩
          · have e2 : x 2 = .int .u16 (hj : Int) := hD.1 rfl
            have e5 : x 5 = .int .u16 ((ofL 0 [(k : Int)] : Nat) : Int) := hD.2.1 rfl
            clear hD
            refine want_yes rfl ?_
            exact leads_value (v := .int .u16 (bits .or .u16 (hj : Int) ((ofL 0 [(k : Int)] : Nat) : Int))) (by go_simp) ⟨Below.refl _ _, by rw [HO.out]; rfl, fun h => absurd h (by simp)⟩
          refine ⟨⟨fun x v => rfl, fun x V hC hD => ?_⟩, ?_⟩
          · have e0 : x 0 = .int .i64 (j : Int) := hD.1 rfl
            have e1 : x 1 = .pointer (some ⟨bc, j, none⟩) := hD.2.2.1 rfl
            have e2 : x 2 = .int .u16 (hj : Int) := hD.2.2.2.1 rfl
            have e3 : x 3 = .int .i64 (k : Int) := hD.2.2.2.2.1 rfl
            have e4 : IntsAt V ((x 4)) [(k : Int)] := hD.2.2.2.2.2.1 rfl
            have e5 : x 5 = .int .u16 ((ofL 0 [(k : Int)] : Nat) : Int) := hD.2.2.2.2.2.2.1 rfl
            have e6 : x 6 = .int .u16 ((withN hj k : Nat) : Int) := hD.2.2.2.2.2.2.2.1 rfl
            clear hD
            refine want_yes rfl ?_
            exact leads_value (v := .pointer (some ⟨bc, j, none⟩)) (by go_simp) ⟨Below.refl _ _, rfl, fun h => absurd h (by simp)⟩
          trivial
        · intro x V hF2
          simp only [List.drop_succ_cons, List.drop_zero]
          have e0 : x 0 = .int .i64 (j : Int) := hF2.fact 0 (by decide) rfl
          have e1 : x 1 = .pointer (some ⟨bc, j, none⟩) := hF2.fact 1 (by decide) rfl
          have e2 : x 2 = .int .u16 (hj : Int) := hF2.fact 2 (by decide) rfl
          have e3 : x 3 = .int .i64 (k : Int) := hF2.fact 3 (by decide) rfl
          have e6 : x 6 = .int .u16 ((withN hj k : Nat) : Int) := hF2.fact 6 (by decide) rfl
          have e7 : x 7 = .pointer (some ⟨bc, j, none⟩) := hF2.fact 7 (by decide) rfl
          have HB := Lib.hid (show Below W3.heap.size W3 V from hF2.c)
          clear hF2
          rw [e0, e1, e2, e3, e6, e7]
          clear e0 e1 e2 e3 e6 e7
          generalize x 4 = y19
          generalize x 5 = y20
          have hV5 := HV.out.t.step (Nat.le_refl _) HB.out
          have c0 := hV5.c.cell hj16
          have c1 := hV5.c.free j
          have HV5 := Lib.hid hV5
          clear hV5
          go_wp2_with fail
          have hch := (Chg.ofBelow (S := fun i => i = bc) HB.out).trans ((Chg.refl (fun i => i = bc) V).setCell (p := ⟨bc, j, none⟩) (fun _ => rfl) (.int .u16 ((withN hj k : Nat) : Int)))
          have hbk : bk ≠ bc := fun e => by
            have h1 : W3.heap[bk]? = _ := HV.out.k
            rw [e, show W3.heap[bc]? = _ from HV.out.t.c] at h1
            injection h1 with h1
            injection h1 with h1 h2
            have := congrArg Array.size h1
            rw [grC_size] at this
            simp at this
          refine show _ ∧ _ ∧ _ from ⟨keeps_blk hch HV.out.t.c, hch.below HV.out.t.below.size fun _ e => e ▸ hNb.1, ?_⟩
          have hfin := HV5.out.set (g := tnF f k (valsF pre ++ [j])) (Nat.le_refl _) hNb.1 hNb.2.1 hj16 (withN hj k) (fun t _ => HS.out t)
          rw [← HL.out] at hfin
          exact ⟨hfin, hch.kept HV.out.k hbk, HV.out.keep.trans (keeps_blk hch HV.out.t.c)⟩
      case done =>
        rintro D ys W3 hD hys hI hK
        rw [hys, ← hF] at hI
        have HI := Lib.hid (hI.t.congr (g := fun t => turnG f t (k + 1)) fun t ht => tnF_tags f k ht)
        have HM2 := Lib.hid ((hD2.keep hI.keep).cons hD2 (Nat.le_trans hN3 hD) hD hK)
        have hwk := HWK.out
        clear hI hK hys
        refine HGO2.out _ _ ?_
        clear HGO2 HGO HWK
        gi_wp2
        refine show _ ∧ _ from ⟨⟨k + 1, D :: Ds, _, _, _, _, _, _, _, _, _, _, _, _, _, _, _, _, _, _, by omega, HM2.out, HI.out, rfl⟩, ?_⟩
        simp [intOf]
        omega
      case stop =>
        rintro D c pre W3 _ _ h _
        exact h.elim
    · obtain rfl : k = 16 := by omega
      have HTw := Lib.hid hTw
      have HDs := Lib.hid hDs
      clear hTw hDs
      gi_wp2
      refine HGO.out _ _ (wpIn_wide.2 ?_)
      clear HGO
      go_wp2_with (first | (refine wpList_load_gr rfl _ rfl rfl HTw.out.c ?_) | (refine wpList_store_gr (g := fun t => turnG f t 16) rfl rfl _ _ rfl rfl rfl HTw.out.r ?_; intro w4 hw4; have HW := Lib.hid hw4; clear hw4))
      have hb4 : Below w.heap.size w w4 := HTw.out.below.trans (HW.out.chg.below HTw.out.below.size fun _ e => e ▸ hNb.2.2)
      refine leaves_marks (B := w.heap.size) (J := fun V => GRow V br (turnF f) ∧ Below w.heap.size w V) ?_ ?_ Ds w4 (HDs.out.keep (keeps_blk HW.out.chg HTw.out.r)) ⟨HW.out.blk, hb4⟩
      · rintro _ X Y row ⟨h1, h2⟩ hg hr
        exact ⟨h1.grown hg fun r e => (hr r e).2, h2.grown hg h2.size fun k e => (hr k e).1⟩
      · rintro V ⟨h1, h2⟩
        exact ⟨_, results_gr rfl rfl h1, rfl, h2⟩

/-! Up is Down of the graph the other way round. -/
theorem edge_turn {f : Nat → Nat} {W x y : Nat} (hW : W < 65536) : edgeB (turnF f) W x y = edgeB f W y x := by
  unfold edgeB
  rw [turnF_bit]
  cases hx : W.testBit x with
  | false => simp
  | true =>
    cases hy : W.testBit y with
    | false => simp
    | true => simp [bit_lt hW hy]
theorem rch_turn {f : Nat → Nat} {W a b : Nat} (hW : W < 65536) (h : Rch (turnF f) W a b) : Rch f W b a := by
  induction h with
  | refl h => exact .refl h
  | step _ h2 ih => exact .ahead (by rw [← edge_turn hW]; exact h2) ih
theorem rch_turned {f : Nat → Nat} {W a b : Nat} (hW : W < 65536) (h : Rch f W a b) : Rch (turnF f) W b a := by
  induction h with
  | refl h => exact .refl h
  | step _ h2 ih => exact .ahead (by rw [edge_turn hW]; exact h2) ih
theorem down_turned {f : Nat → Nat} {s W : Nat} (hW : W < 65536) : downN (turnF f) s W = upN f s W := by
  apply Nat.eq_of_testBit_eq
  intro a
  rw [Bool.eq_iff_iff, downN_bit hW, upN_bit hW]
  exact ⟨fun ⟨c, h1, h2⟩ => ⟨c, h1, rch_turn hW h2⟩, fun ⟨c, h1, h2⟩ => ⟨c, h1, rch_turned hW h2⟩⟩
set_option maxRecDepth 100000 in
set_option maxHeartbeats 3200000 in
theorem gUp_any : GUpC := by
  intro f t W w hT hf ht hW
  have hg := GRow.new w f
  have HB := Lib.hid (belowNew w (.cells (grC f) 23))
  have HTn := Lib.hid (gTurn_any f _ (hT.below HB.out) hf)
  have HD := Lib.hid (fun V hV => gDown_any (turnF f) t W V (hT.below hV) (turn_ok f) ht hW)
  rw [down_turned hW] at HD
  clear hT hf ht hW
  go_enter Tryd.func9, Tryd.ntmps9
  go_wp2_with (refine wpList_load_gr rfl _ rfl rfl hg ?_)
  with_reducible refine HTn.out.mono ?_
  rintro e w2 ⟨rfl, hB2⟩
  have HB2 := Lib.hid (HB.out.trans (hB2.mono HB.out.size))
  clear hB2 HTn hg
  go_wp2_with fail
  with_reducible refine (HD.out _ HB2.out).mono ?_
  rintro e w3 ⟨rfl, hB3⟩
  have HB3 := Lib.hid (HB2.out.trans (hB3.mono HB2.out.size))
  clear hB3 HD
  go_wp2_with fail
  go_ret
  exact ⟨rfl, HB3.out⟩
end Go.Proofs.YtajilnoebhipbaaDoor

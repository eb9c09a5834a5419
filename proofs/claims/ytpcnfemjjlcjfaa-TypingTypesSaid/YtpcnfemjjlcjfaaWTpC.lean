/-
  The program's type of a query: split, Type.
-/
import Derived.Test.YtpcnfemjjlcjfaaWTpB
import Derived.Test.YtpcnfemjjlcjfaaWSlcT
import Derived.Test.YtpcnfemjjlcjfaaWSlcG
/-! TpC -/
namespace Go.Proofs.Ytpcnfemjjlcjfaa
open Go.RowKit

theorem tpSize : (Try.prog.info? 3).map (·.size) = some 1 := by kernel_rfl
theorem tpTake {p : Option Addr} {n c left : Nat} (hp : p.map (·.add 0) = p) (hl : left ≤ c) (w : World) : (Instr.slice 22 (.slice p n c) none (some (.int .i64 (left : Int))) (some (.int .i64 (left : Int)))).run Try.prog w = .ok (.slice p left left) w := by
  obtain ⟨i, hi2, hz⟩ := Option.map_eq_some_iff.1 tpSize
  simp [Instr.slice, run_underlying Try.underlying22, Instr.sliceBounds, Instr.sliceBound, asIntOf, hl, sizeOf, typeInfo, hi2, hp]
theorem tpDrop {p : Option Addr} {n c left : Nat} (hl : left ≤ n) (hc : n ≤ c) (w : World) : (Instr.slice 22 (.slice p n c) (some (.int .i64 (left : Int))) (some (.int .i64 (n : Int))) (some (.int .i64 (n : Int)))).run Try.prog w = .ok (.slice (if n = left then p else p.map (·.add left)) (n - left) (n - left)) w := by
  obtain ⟨i, hi2, hz⟩ := Option.map_eq_some_iff.1 tpSize
  simp [Instr.slice, run_underlying Try.underlying22, Instr.sliceBounds, Instr.sliceBound, asIntOf, hl, hc, sizeOf, typeInfo, hi2, hz]
set_option maxRecDepth 100000 in
set_option maxHeartbeats 3200000 in
theorem tpSplit_any {p : Option Addr} {n c left : Nat} (w : World) (hp : p.map (·.add 0) = p) (hn : n ≤ c) (hl : left ≤ n) (h63 : n ≤ 9223372036854775807) : Calls Try.prog 18 #[.slice p n c, .int .i64 ((n - left : Nat) : Int)] w fun e w' => e = .returned (.tuple #[.slice p left left, .slice (if n = left then p else p.map (·.add left)) (n - left) (n - left)]) ∧ Below w.heap.size w w' := by
  have hw : IntKind.i64.wrap ((n : Int) - ((n - left : Nat) : Int)) = (left : Int) := by rw [IntKind.wrap_i64]; omega
  have hs1 := fun wx => tpTake (n := n) hp (Nat.le_trans hl hn) wx
  have hs2 := fun wx => tpDrop (p := p) hl hn wx
  generalize (if n = left then p else p.map (·.add left)) = q at *
  clear hp hn hl h63
  go_enter Try.func18, Try.ntmps18
  go_wp2_with fail
  refine wp_region_quiet_below (by kernel_rfl) (by kernel_rfl) ?_
  repeat (quiet_step (fail))
  refine wpQuiet_nil ?_
  intro _ hw'
  obtain ⟨⟨dq, osq⟩, hw''⟩ := hw'
  subst hw''
  have HB3 := Lib.hid (below_regrown w dq osq)
  clear hs1 hs2
  go_wp2_with fail
  go_ret2
  exact ⟨rfl, HB3.out⟩

/-- A slice of the call's own making: nil, or in a block of cells. -/
def PlainP (p : Option Addr) : Prop := p = none ∨ ∃ b off, p = some ⟨b, off, none⟩
theorem PlainP.zero {p : Option Addr} (h : PlainP p) : p.map (·.add 0) = p := by
  rcases h with rfl | ⟨b, off, rfl⟩ <;> rfl
theorem tpTakeZ {V : World} {p : Option Addr} {c left : Nat} {st : List Int} (h : ZnsAt V (.slice p st.length c) st) (hl : left ≤ st.length) : ZnsAt V (.slice p left left) (st.take left) := (slAt_take h hl).cut
theorem tpDropZ {V : World} {p : Option Addr} {c left : Nat} {st : List Int} (h : ZnsAt V (.slice p st.length c) st) (hp : PlainP p) (hl : left ≤ st.length) : ZnsAt V (.slice (if st.length = left then p else p.map (·.add left)) (st.length - left) (st.length - left)) (st.drop left) := by
  by_cases he : st.length = left
  · rw [List.drop_eq_nil_of_le (by omega), if_pos he, he, Nat.sub_self]
    exact ⟨p, 0, rfl, ⟨Nat.le_refl _, by decide⟩, fun h => absurd rfl h⟩
  · rw [if_neg he]
    obtain ⟨b, off, c2, e, -, -, -⟩ := h.shape (by intro e; rw [e] at hl he; exact he (by simp at hl ⊢; omega))
    cases e
    have h2 := (h.drop (d := left)).cut
    rw [Nat.mul_one] at h2
    have ha : (⟨b, off, none⟩ : Addr).add left = ⟨b, off + left, none⟩ := by unfold Addr.add; split <;> simp_all
    rw [Option.map_some, ha]
    exact h2
theorem own_plain {w : World} {base e k n : Nat} {v : Value} {xs : List Value} (h : w.ownsRow base e k v n xs) : ∃ p c, v = .slice p n c ∧ PlainP p := by
  obtain ⟨-, ⟨rfl, rfl⟩ | ⟨g, cap, cur, rfl, -⟩⟩ := h
  · exact ⟨none, 0, rfl, .inl rfl⟩
  · exact ⟨_, cap, rfl, .inr ⟨g, 0, rfl⟩⟩
/-- append to a slice that ends at its own length. -/
theorem wpList_append_cut {P : Program} {α : Type} {C : α → Array Value} {k : Nat} {ok : α → Prop} (hk : ∀ c, (C c).size = k) (hk0 : 0 < k) (h1 : ∀ c, (C c).all (·.oneCell') = true) {w : World} {ops : Array Oper} {rest : List Oper} {o : Oper} {a : Act} {Q : Exit → Act → World → Prop} (hgd : o.guard = none) (s x : Operand) (t : TypeId)
    (ho : o.op = .call { callee := .builtin .append, args := #[s, x], argTypes := #[t, t] }) {e : TypeId} (ht : P.underlying t = some (.slice e)) {z : Value} {bytes : Nat} (hi : (P.info? e).map (fun i => (i.zero, i.size, i.bytes)) = some (some z, k, bytes)) (hz : z.cells.size = k)
    {p : Option Addr} {g o2 c : Nat} {m l : List α} (hp : PlainP p) (hs : a.eval s = .slice p m.length m.length) (hx : a.eval x = .slice (some ⟨g, o2, none⟩) l.length c) (hm : SlAt C k ok w (.slice p m.length m.length) m) (hl : SlAt C k ok w (.slice (some ⟨g, o2, none⟩) l.length c) l) (hne : l ≠ []) (h63 : m.length + l.length ≤ maxLen) (hb : (m.length + l.length) * bytes ≤ 140737488355328)
    (h : ∀ v' w', w'.ownsRow w.heap.size e k v' (m ++ l).length (flatC C (m ++ l)) → Below w.heap.size w w' → wpList P ops Q rest (a.put o.dst v') w') : wpList P ops Q (o :: rest) a w := by
  have hpos : 0 < l.length := List.length_pos_iff.2 hne
  rcases hp with rfl | ⟨b, off, rfl⟩
  · have hm0 : m = [] := by
      cases m with
      | nil => rfl
      | cons y m =>
        obtain ⟨b, off, c2, e, -⟩ := hm.shape (by simp)
        cases e
    subst hm0
    exact wpList_append_rows (l := l) (m := []) hk hk0 h1 hgd s x t ho w.heap.size ht hi hz hs hx (World.ownsRow_nil _ _ _ _) (rowIs_at hk hk0 hl) h63 hb (Nat.le_refl _) fun v' w' h2 h3 => h v' w' h2 ((Below.refl _ _).grown h3 (Nat.le_refl _) fun _ e => by cases e)
  · obtain ⟨i, hi2, hx2⟩ := Option.map_eq_some_iff.1 hi
    simp only [Prod.mk.injEq] at hx2
    obtain ⟨hz0, hz1, hz2⟩ := hx2
    have hr := run_append_grow (P := P) w t o.type e i _ ht hi2 hz0 ⟨b, off, none⟩ m.length m.length (flatC C m) (by rw [flatC_length hk, hz1]) (hm.news hk hk0) ⟨g, o2, none⟩ l.length c (flatC C l) (by rw [flatC_length hk, hz1]) (hl.news hk hk0) (by omega) (by unfold maxLen at h63; omega) (growslice_fits (by omega) (by rw [hz2]; exact hb))
    have hge := grownCap_ge w (m.length + l.length) m.length e
    have hcm := grownCap_le_maxLen w (m.length + l.length) m.length e h63
    generalize grownCap w (m.length + l.length) m.length e = cap at *
    have hlen : (flatC C m ++ flatC C l).length = (m.length + l.length) * k := by rw [List.length_append, flatC_length hk, flatC_length hk, Nat.add_mul]
    refine wpList_plain hgd fun K hK => ?_
    unfold Oper.wp execOp
    simp only [ho, resolve, invoke, builtin, Sem.run_bind, Sem.run_pure, Result.andThen_ok, List.map_toArray, List.map_cons, List.map_nil, hs, hx, hr]
    refine hK _ _ (h _ _ ⟨by rw [flatC_length hk], .inr ⟨w.heap.size, cap, _, by rw [List.length_append], Nat.le_refl _, heap_alloc_new w.drew _, by rw [List.length_append]; exact hge, hcm, ?_, ?_⟩⟩ ⟨rfl, rfl, rfl, by simp, fun j hj => heap_alloc_old w.drew _ hj⟩)
    · simp only [Array.size_append, List.size_toArray, size_zeroCells, hz, flatC_length hk, ← Nat.add_mul]
      congr 1
      omega
    · simp only [Array.toList_append, List.append_assoc]
      rw [← List.append_assoc, List.length_append, ← hlen, flatC_app]
      exact List.take_left
theorem zn_head {V : World} {v : Value} {t : Int} (h : ZnsAt V v [t]) : ∃ b off c, v = .slice (some ⟨b, off, none⟩) 1 c ∧ V.cell? ⟨b, off, none⟩ = some (.int .i64 t) := by
  obtain ⟨b, off, c, rfl, -⟩ := h.shape (by simp)
  exact ⟨b, off, c, rfl, (h.elem (i := 0) (by simp)).2 0 _ rfl⟩
set_option maxRecDepth 100000 in
set_option maxHeartbeats 6400000 in
theorem tpType_all (l : List Qn) (v : Value) (w : World) (hv : NodesAt w v l) (hl : l.length ≤ 1000) : Calls Try.prog 9 #[v] w (TypeIs l w) := by
  have HRd := Lib.hid (ppRight_all l v w hv hl)
  have HV := Lib.hid hv
  have HL := Lib.hid hl
  obtain ⟨p, cap, rfl, -, -⟩ := hv
  clear hl
  go_enter Try.func9, Try.ntmps9
  go_wp2_with fail
  refine HRd.out.mono ?_
  rintro e w2 ⟨b, rfl, hb, hB2⟩
  have HB2 := Lib.hid hB2
  cases b with
  | false =>
    have hr : ¬ rightQ l := fun h => by cases hb.2 h
    have HT := Lib.hid (typeQ_no hr)
    clear hb hr hB2 HRd HV
    go_wp2_with fail
    go_ret3
    exact ⟨by rw [HT.out]; rfl, HB2.out⟩
  | true =>
    have HRt := Lib.hid (hb.1 rfl)
    clear hb hB2 HRd
    go_wp2_with fail
    go_loopw [5, 16] (fun u i V => ∃ (k : Nat) (st : List Int) (q : Option Addr) (c : Nat), u = .slice q st.length c ∧ i = .int .i64 (k : Int) ∧ k ≤ l.length ∧ PlainP q ∧ ZnsAt V (.slice q st.length c) st ∧ st.length ≤ k ∧ runT k st (l.drop k) = runT 0 [] l ∧ cntR (st.length : Int) (l.drop k) = cntR 0 l ∧ Below w.heap.size w V) (fun _ i _ => l.length - (intOf i).toNat)
    case atStart => exact ⟨0, [], none, 0, rfl, rfl, Nat.zero_le _, .inl rfl, SlAt.nil _, Nat.le_refl _, rfl, rfl, HB2.out⟩
    case round =>
      obtain ⟨k, st, q, c, rfl, rfl, hk, hq, hz, hsk, hrun, hcnt, hB⟩ := hrel
      have HB := Lib.hid hB
      have HZ := Lib.hid hz
      have HQ := Lib.hid hq
      have HN := Lib.hid hrun
      have HC := Lib.hid hcnt
      have HS := Lib.hid hsk
      clear hB hz hq hrun hcnt hsk HB2
      by_cases hlt : k < l.length
      · have d3 : decide ((k : Int) < (l.length : Int)) = true := by simp; omega
        have d4 : decide (k < l.length) = true := by simpa using hlt
        have i0 : (0 : Int) ≤ (k : Int) := by omega
        have i1 : (k : Int) < (l.length : Int) := by omega
        have hw1 : IntKind.i64.wrap ((k : Int) + 1) = (k : Int) + 1 := by have := HL.out; rw [IntKind.wrap_i64]; omega
        obtain ⟨g, off, cap2, e1, -, -, hg⟩ := HV.out.shape (by intro e; rw [e] at hlt; cases hlt)
        simp only [Value.slice.injEq] at e1
        obtain ⟨rfl, -, rfl⟩ := e1
        have HCe := Lib.hid (show CellsAt wr g (off + k * 2) (nodC l[k]) from (HV.out.elem hlt).2.below HB.out hg)
        have HKl := Lib.hid hlt
        have hAp := (HRt.out.1 _ (List.getElem_mem hlt)).1
        have hAc := argN_cases l[k].kind
        have hNot : ¬ (st.length : Int) < argN l[k].kind := fun h => by
          have h24 : l.length ≤ 24 := HRt.out.2.2.1
          have h1 := (rightQ_cnt HRt.out.1 h24).1 HRt.out
          rw [cntR_go HC.out hlt] at h1
          split at h1
          · cases h1
          · rename_i hn; exact hn h
        have hcg : cntR 0 l = cntR ((st.length : Int) + (1 - argN l[k].kind)) (l.drop (k + 1)) := by
          have h := cntR_go HC.out hlt
          split at h
          · rename_i hn; exact absurd hn hNot
          · exact h
        have hrg := runT_go HN.out hlt
        have HAr := Lib.hid (fun V => ppArgs_all l[k].kind V)
        have HNo := Lib.hid (fun args u V hu (hl : args.length ≤ 1000) => tpNode_all l[k].kind args u V hu hl)
        have HRn := Lib.hid (nodeT_range l[k].kind)
        generalize l[k] = x at *
        obtain ⟨kd, n⟩ := x
        simp only at hAp hAc hNot hcg hrg HAr HNo
        generalize argN kd = A at *
        obtain ⟨m, rfl⟩ : ∃ m : Nat, A = (m : Int) := ⟨A.toNat, by omega⟩
        rw [Int.toNat_natCast] at hrg
        have hcL : st.length ≤ c := by
          obtain ⟨q2, c2, e, h, -⟩ := HZ.out
          cases e
          exact h.1
        have hsl : st.length ≤ 9223372036854775807 := by have := HS.out; have := HL.out; omega
        obtain ⟨left, hlf⟩ : ∃ left, left = st.length - m := ⟨_, rfl⟩
        have hleft : left ≤ st.length := by omega
        have hm : m = st.length - left := by omega
        have HSp := Lib.hid (fun V => (show Calls Try.prog 18 #[.slice q st.length c, .int .i64 (m : Int)] V fun e w' => e = .returned (.tuple #[.slice q left left, .slice (if st.length = left then q else q.map (·.add left)) (st.length - left) (st.length - left)]) ∧ Below V.heap.size V w' from by rw [hm]; exact tpSplit_any V HQ.out.zero hcL hleft hsl))
        have HTk := Lib.hid (tpTakeZ HZ.out hleft)
        have HDr := Lib.hid (tpDropZ HZ.out HQ.out hleft)
        have hlen : (st.take left).length = left := by rw [List.length_take]; omega
        rw [← hlf] at hrg
        have HRg := Lib.hid hrg
        have HLt := Lib.hid (show ((left + 1 : Nat) : Int) = (st.length : Int) + (1 - (m : Int)) from by omega)
        have HCg := Lib.hid hcg
        have HDl := Lib.hid (show (st.drop left).length ≤ 1000 from by rw [List.length_drop]; have := HS.out; have := HL.out; omega)
        have HLe := Lib.hid (And.intro hlen (show left + 1 ≤ k + 1 from by have := HS.out; omega))
        clear hg hlt hk HN HC hAp hAc hNot hcg hrg hlf hm hcL hsl hleft hlen HZ
        generalize (if st.length = left then q else q.map (·.add left)) = q2 at *
        generalize st.length - left = m2 at *
        go_upto_region 7 with (first | (refine wpList_load_cells rfl _ _ rfl rfl HCe.out Try.underlying36 rfl (infoNd _) ?_) | (refine wpList_store_arr rfl rfl _ _ _ rfl rfl rfl (Blk.new _ _ _) (infoNd _) rfl (nodC_one _) ?_; intro w9 hw9))
        have k0 : w9.cell? ⟨wr.heap.size, 0, none⟩ = some (.int .i64 kd) := (hw9.blk.cell 0).trans rfl
        have HP := Lib.hid hw9.blk
        have HB9 := Lib.hid ((belowNew wr _).trans (hw9.below (by simp) (Nat.le_refl _)))
        clear hw9 HCe
        go_wp2_with fail
        refine (HAr.out w9).mono ?_
        rintro e w5 ⟨rfl, hB5⟩
        have HB5 := Lib.hid (HB9.out.trans (hB5.mono HB9.out.size))
        have HP5 := Lib.hid (HP.out.below hB5 HP.out.lt)
        clear hB5 k0 HP HB9
        go_wp2_with fail
        refine (HSp.out w5).mono ?_
        rintro e w6 ⟨rfl, hB6⟩
        have HB6 := Lib.hid (HB5.out.trans (hB6.mono HB5.out.size))
        have HP6 := Lib.hid (HP5.out.below hB6 HP5.out.lt)
        have k1 : w6.cell? ⟨wr.heap.size, 0, none⟩ = some (.int .i64 kd) := (HP6.out.cell 0).trans rfl
        have HTk6 := Lib.hid (HTk.out.below HB6.out (Nat.le_refl _))
        have HNo6 := Lib.hid (HNo.out (st.drop left) _ w6 (HDr.out.below HB6.out (Nat.le_refl _)) HDl.out)
        clear hB6 HB5 HP5 HP6 HTk HDr HNo HSp HAr
        go_wp2_with fail
        refine HNo6.out.mono ?_
        rintro e w7 ⟨rfl, hB7⟩
        have HB7 := Lib.hid (HB6.out.trans (hB7.mono HB6.out.size))
        have HTk7 := Lib.hid (HTk6.out.below hB7 (Nat.le_refl _))
        clear hB7 HB6 HTk6 HNo6 k1
        have HRn2 := Lib.hid (HRn.out (st.drop left))
        clear HRn
        generalize nodeT kd (st.drop left) = ty at *
        by_cases hty : ty = 0
        · have HE := Lib.hid (typeQ_stop HRt.out (k := k) (by rw [HRg.out, if_pos hty]))
          have d5 : decide (0 < ty) = false := decide_eq_false (by omega)
          rw [d5]
          clear d5 hty
          go_wp2_with fail
          go_ret3
          exact ⟨by rw [HE.out]; rfl, HB.out.trans (HB7.out.mono HB.out.size)⟩
        · have d5 : decide (0 < ty) = true := decide_eq_true (by have := HRn2.out; omega)
          have HNx := Lib.hid (show runT (k + 1) (st.take left ++ [ty]) (l.drop (k + 1)) = runT 0 [] l from by rw [HRg.out, if_neg hty])
          rw [d5]
          clear d5 hty
          go_wp2_with (at_builtin; refine wpList_append_cut (l := [ty]) (m := st.take left) znC_size (by decide) znC_one rfl _ _ 22 rfl Try.underlying22 infoZn rfl HQ.out (by rw [HLe.out.1]; rfl) rfl (by rw [HLe.out.1]; exact HTk7.out.below (belowNew _ _) (Nat.le_refl _)) (zns_made w7 ty) (by simp) (by have := HLe.out; have := HL.out; have := HKl.out; unfold maxLen; simp only [List.length_cons, List.length_nil]; omega) (by have := HLe.out; have := HL.out; have := HKl.out; simp only [List.length_cons, List.length_nil]; omega) ?_; intro v8 w8 hr8 hB8)
          obtain ⟨q8, c8, rfl, hp8⟩ := own_plain hr8
          have HZ8 := Lib.hid (SlAt.ofRow (ok := fun _ => True) znC_size hr8 fun _ _ => trivial)
          have HL8 := Lib.hid (show (st.take left ++ [ty]).length = left + 1 from by rw [List.length_append, HLe.out.1]; rfl)
          have HB8 := Lib.hid (HB.out.trans ((HB7.out.trans (((belowNew w7 _).trans (hB8.mono (belowNew w7 _).size)).mono HB7.out.size)).mono HB.out.size))
          clear hr8 hB8
          go_roundw
          case rel => exact ⟨k + 1, _, q8, c8, rfl, by go_num, HKl.out, hp8, HZ8.out, by rw [HL8.out]; exact HLe.out.2, HNx.out, by rw [HL8.out, HLt.out]; exact HCg.out.symm, HB8.out⟩
          case measure => have := HKl.out; simp [intOf]; omega
      · obtain ⟨t, rfl, hty⟩ := typeQ_end HRt.out HN.out (by omega)
        have HT := Lib.hid hty
        obtain ⟨b, off, c2, e, hc⟩ := zn_head HZ.out
        simp only [Value.slice.injEq] at e
        obtain ⟨rfl, -, rfl⟩ := e
        have d3 : decide ((k : Int) < (l.length : Int)) = false := by simp; omega
        have d4 : decide (k < l.length) = false := by simpa using hlt
        clear hlt hk HN HC hty HZ HQ HS
        go_wp2_with fail
        go_ret3
        exact ⟨by rw [HT.out]; rfl, HB.out⟩
theorem tpType_any {G : World → Prop} : TTypeC G := fun l v w _ hv _ hl => tpType_all l v w hv hl
end Go.Proofs.Ytpcnfemjjlcjfaa

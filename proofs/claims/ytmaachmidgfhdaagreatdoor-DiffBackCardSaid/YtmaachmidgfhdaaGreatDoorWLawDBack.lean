/-
  The law DiffBack, from the program's contracts.
-/
import Derived.Test.YtmaachmidgfhdaaGreatDoorWDifC
import Derived.Test.YtmaachmidgfhdaaGreatDoorWDifL
import Derived.Test.YtmaachmidgfhdaaGreatDoorWDifQ
import Derived.Test.YtmaachmidgfhdaaGreatDoorWPolTwo
import Derived.Test.YtmaachmidgfhdaaGreatDoorW3
import Derived.Test.YtmaachmidgfhdaaGreatDoorW2
import Derived.Test.YtmaachmidgfhdaaGreatDoorW1
import Derived.Test.YtmaachmidgfhdaaGreatDoorWDifB
/-! LawDBack -/
namespace Go.Proofs.YtmaachmidgfhdaaGreatDoor
open Go.RowKit

/-- What the second call of Patch answers says that it is not the same. -/
def unlikeB (r : Pol) (e : Int) (n : Pol) : Prop := e ≠ 0 ∨ polC r ≠ polC n
theorem sizeStr : (Tryz.prog.info? 9).map (·.size) = some 1 := by kernel_rfl
set_option maxRecDepth 100000 in
theorem exec_build_none {w : World} {o : Oper} {a : Act} (ho : o.op = .buildSlice 32 0 #[]) : (execOp a.eval o).run Tryz.prog w = .ok (.value (.slice (some ⟨w.heap.size, 0, none⟩) 0 0)) (w.alloc (.cells #[] 9)) := by
  obtain ⟨i, hi2, -⟩ := Option.map_eq_some_iff.1 sizeStr
  unfold execOp
  simp [ho, Instr.buildSlice, run_underlying Tryz.underlying32, sizeOf, typeInfo, hi2, newRow, Instr.fill]
  congr 2
  exact Array.eq_empty_of_size_eq_zero (by simp)
theorem exec_takeS {P : Program} {w : World} {o : Oper} {a : Act} {t e : TypeId} {x y : Operand} (hu : P.underlying t = some (.slice e)) (hs : (P.info? e).map (·.size) = some 1) (ho : o.op = .slice t x none (some y) none) {b off n c d : Nat} (hx : a.eval x = .slice (some ⟨b, off, none⟩) n c) (hy : a.eval y = .int .i64 (d : Int)) (hd : d ≤ n) (hn : n ≤ c) :
    (execOp a.eval o).run P w = .ok (.value (.slice (some ⟨b, off, none⟩) d c)) w := by
  obtain ⟨i, hi2, -⟩ := Option.map_eq_some_iff.1 hs
  have h0 : d ≤ c := by omega
  unfold execOp
  simp only [ho, Sem.run_bind, Sem.run_pure]
  simp [Instr.sliceAt, Instr.slice, run_underlying hu, Instr.sliceBounds, Instr.sliceBound, asIntOf, hx, hy, h0, sizeOf, typeInfo, hi2, Addr.add]
/-- Where the rest begins. -/
def OffOk (cap k off o9 : Nat) : Prop := (cap = k + 1 → o9 = off) ∧ (cap ≠ k + 1 → o9 = off + (k + 1))
theorem exec_dropS {P : Program} {w : World} {o : Oper} {a : Act} {t e : TypeId} {x y : Operand} (hu : P.underlying t = some (.slice e)) (hs : (P.info? e).map (·.size) = some 1) (ho : o.op = .slice t x (some y) none none) {b off n c k o9 : Nat} (hx : a.eval x = .slice (some ⟨b, off, none⟩) n c) (hy : a.eval y = .int .i64 ((k : Int) + 1)) (hd : k < n) (_hn : n ≤ c) (h9 : OffOk c k off o9) :
    (execOp a.eval o).run P w = .ok (.value (.slice (some ⟨b, o9, none⟩) (n - (k + 1)) (c - (k + 1)))) w := by
  obtain ⟨i, hi2, hz⟩ := Option.map_eq_some_iff.1 hs
  have hy2 : a.eval y = .int .i64 ((k + 1 : Nat) : Int) := hy
  have h0 : k + 1 ≤ n := by omega
  have hcc : (if c = k + 1 then some (⟨b, off, none⟩ : Addr) else (some (⟨b, off, none⟩ : Addr)).map (·.add ((k + 1) * 1))) = some ⟨b, o9, none⟩ := by
    split
    · rename_i hc; rw [h9.1 hc]
    · rename_i hc; rw [h9.2 hc]; simp [Addr.add]
  generalize k + 1 = d at *
  clear hy h9
  unfold execOp
  simp only [ho, Sem.run_bind, Sem.run_pure]
  simp [Instr.sliceAt, Instr.slice, run_underlying hu, Instr.sliceBounds, Instr.sliceBound, asIntOf, hx, hy2, h0, sizeOf, typeInfo, hi2, hz]
  simpa using hcc
theorem rowIs_take {w : World} {g off cap k : Nat} {ls : List (List UInt8)} (hk : k < ls.length) (h : StrsAt w (.slice (some ⟨g, off, none⟩) ls.length cap) ls) : RowIs strC w (.slice (some ⟨g, off, none⟩) k cap) (ls.take k) := by
  refine .inr ⟨_, cap, by rw [List.length_take, Nat.min_eq_left (Nat.le_of_lt hk)], fun j x hx => h.news strC_size (by decide) j x ?_⟩
  have e : flatC strC ls = flatC strC (ls.take k) ++ flatC strC (ls.drop k) := by rw [← flatC_app, List.take_append_drop]
  rw [e, List.getElem?_append_left (List.getElem?_eq_some_iff.1 hx).1]
  exact hx
theorem rowIs_drop {w : World} {g off o9 cap k : Nat} {ls : List (List UInt8)} (h9 : OffOk cap k off o9) (hc : ls.length ≤ cap) (h : StrsAt w (.slice (some ⟨g, off, none⟩) ls.length cap) ls) : RowIs strC w (.slice (some ⟨g, o9, none⟩) (ls.length - (k + 1)) (cap - (k + 1))) (ls.drop (k + 1)) := by
  refine .inr ⟨_, cap - (k + 1), by rw [List.length_drop], fun j x hx => ?_⟩
  have hj := (List.getElem?_eq_some_iff.1 hx).1
  rw [flatC_length strC_size, List.length_drop] at hj
  have e9 := h9.2 (by omega)
  have hd := h.drop (d := k + 1)
  rw [Nat.mul_one] at hd
  rw [← List.length_drop] at hd
  rw [e9]
  exact hd.news strC_size (by decide) j x hx
theorem leads_append_strs {w : World} {o : Oper} {a : Act} {R : Value → World → Prop} {s x : Operand} {t : TypeId} (ho : o.op = .call { callee := .builtin .append, args := #[s, x], argTypes := #[t, t] }) {base : Nat} (ht : Tryz.prog.underlying t = some (.slice 9))
    {v u : Value} {m l : List (List UInt8)} (hs : a.eval s = v) (hx : a.eval x = u) (hown : StrsRow w base v m) (hu : RowIs strC w u l) (hl : m.length + l.length ≤ 5000) (hbase : base ≤ w.heap.size)
    (h : ∀ v' w', StrsRow w' base v' (m ++ l) → w.grownBy w' v.ownBlock → (v'.ownBlock = v.ownBlock ∨ v'.ownBlock = some w.heap.size) → R v' w') : leads Tryz.prog o a w R := by
  obtain ⟨i, hi2, hx2⟩ := Option.map_eq_some_iff.1 infoStr
  simp only [Prod.mk.injEq] at hx2
  obtain ⟨hz0, hz1, hz2⟩ := hx2
  rcases hu with ⟨rfl, rfl⟩ | ⟨ad, c, rfl, hn⟩
  · have hr := run_append_owned_none (P := Tryz.prog) (w := w) base t o.type _ i 1 ht hi2 v m.length (flatC strC m) hown
    refine leads_value (v := v) (w' := w) ?_ (h v w (by rw [List.append_nil]; exact hown) ⟨rfl, rfl, rfl, Nat.le_refl _, fun _ _ _ => rfl⟩ (.inl rfl))
    unfold execOp
    simp only [ho, resolve, invoke, builtin, Sem.run_bind, Sem.run_pure, Result.andThen_ok, List.map_toArray, List.map_cons, List.map_nil, hs, hx, hr]
  · obtain ⟨v', w', hr, h2, h3, -, h5⟩ := run_append_own_at (P := Tryz.prog) w base t o.type _ i (.string ⟨#[]⟩) 1 16 ht hi2 hz0 hz1 hz2 rfl (by decide) v m.length (flatC strC m) hown ad l.length c (flatC strC l) (flatC_length strC_size l) hn (flatC_cells strC_one l) (by simp only [maxLen]; omega) (by omega) hbase
    refine leads_value (v := v') (w' := w') ?_ (h v' w' (by show w'.ownsRow base _ 1 v' (m ++ l).length (flatC strC (m ++ l)); rw [List.length_append, flatC_app]; exact h2) h3 h5)
    unfold execOp
    simp only [ho, resolve, invoke, builtin, Sem.run_bind, Sem.run_pure, Result.andThen_ok, List.map_toArray, List.map_cons, List.map_nil, hs, hx, hr]
section
variable {w : World} {B : Nat} {m n : Pol} {u : Value} {ls fr le : List (List UInt8)} {R : Pol} {smp : Nat → Option Value} {L : Nat → Bool} {x : Nat → Value} {V : World}
theorem BkI.none_place (h : BkI w B m n u ls fr le R smp L x V) : ∀ g, L 15 = true → x 15 = .pointer (some ⟨g, 0, none⟩) → ¬ (fun _ : Nat => False) g ∧ (Value.slice (some ⟨V.heap.size, 0, none⟩) 0 0).ownBlock ≠ some g := fun g h15 hx => by
  obtain ⟨g', g1, -, g3, -⟩ := h.al h15
  rw [hx] at g1
  cases g1
  refine ⟨fun e => e, fun e => ?_⟩
  have e : some V.heap.size = some g := e
  cases e
  omega
theorem BkI.place1 (h : BkI w B m n u ls fr le R smp L x V) (h1 : L 1 = true) (h5 : L 5 = false) {v' : Value} (ho : v'.ownBlock = (x 1).ownBlock ∨ v'.ownBlock = some V.heap.size) : ∀ g, L 15 = true → x 15 = .pointer (some ⟨g, 0, none⟩) → ¬ (fun k => (x 1).ownBlock = some k) g ∧ v'.ownBlock ≠ some g := fun g h15 hx => by
  obtain ⟨g', g1, -, g3, -, -, g6, -⟩ := h.al h15
  rw [hx] at g1
  cases g1
  refine ⟨g6 h1 h5, fun e => ?_⟩
  rcases ho with ho | ho
  · exact g6 h1 h5 (ho.symm.trans e)
  · rw [ho] at e; cases e; omega
theorem BkI.place5 (h : BkI w B m n u ls fr le R smp L x V) (h5 : L 5 = true) (h10 : L 10 = false) {v' : Value} (ho : v'.ownBlock = (x 5).ownBlock ∨ v'.ownBlock = some V.heap.size) : ∀ g, L 15 = true → x 15 = .pointer (some ⟨g, 0, none⟩) → ¬ (fun k => (x 5).ownBlock = some k) g ∧ v'.ownBlock ≠ some g := fun g h15 hx => by
  obtain ⟨g', g1, -, g3, -, -, -, g7, -⟩ := h.al h15
  rw [hx] at g1
  cases g1
  refine ⟨g7 h5 h10, fun e => ?_⟩
  rcases ho with ho | ho
  · exact g7 h5 h10 (ho.symm.trans e)
  · rw [ho] at e; cases e; omega
end
set_option maxRecDepth 100000 in
set_option maxHeartbeats 6400000 in
theorem dback_any {G : World → Prop} (gK : GoodC G) (cL : DLinesC G) (cP : DPatchC G) (hA : DAliveC G) (p q : Pol) (z : Nat) (hz : z < 65536) (w : World) (hw : G w) (hp : PolOk p) (hq : PolOk q) : Calls Tryz.prog 5 #[.agg (polC p), .agg (polC q), .int .u16 (z : Int)] w fun e w' => e = .returned (.bool true) ∧ Below w.heap.size w w' := by
  have HMp := Lib.hid (fun V => rpMend_any p V hp)
  have HMq := Lib.hid (fun V => rpMend_any q V hq)
  have HG := Lib.hid (SoW.new w p q)
  have HLn := Lib.hid (fun V (hV : Below w.heap.size w V) => cL (mendN p) (mendN q) V (gK.keep hw hV) (mendN_ok hp) (mendN_ok hq) (mend_fine hp) (mend_fine hq))
  have HLz := Lib.hid (fun V (hV : Below w.heap.size w V) => by
    have h := cL (mendN q) (mendN q) V (gK.keep hw hV) (mendN_ok hq) (mendN_ok hq) (mend_fine hq) (mend_fine hq)
    rw [show linesL (mendN q) (mendN q) = [] by unfold linesL; rw [(diff_none (mendN_ok hq) (mendN_ok hq) (mend_fine hq) (mend_fine hq)).2 rfl]; rfl] at h
    exact h)
  have HFew := Lib.hid (linesL_few (mendN p) (mendN q))
  have HShort := Lib.hid (linesL_short (mendN_ok hp) (mendN_ok hq) (mend_fine hq))
  have HPa := Lib.hid (fun V v (hV : Below w.heap.size w V) (hv : StrsAt V v (linesL (mendN p) (mendN q))) => by
    have h := cP (mendN p) v _ V (gK.keep hw hV) (mendN_ok hp) (mend_fine hp) hv (Nat.le_trans (linesL_few _ _) (by decide)) (linesL_short (mendN_ok hp) (mendN_ok hq) (mend_fine hq))
    rw [(pat_back (mendN_ok hp) (mendN_ok hq) (mend_fine hp) (mend_fine hq)).1, (pat_back (mendN_ok hp) (mendN_ok hq) (mend_fine hp) (mend_fine hq)).2] at h
    exact h)
  have HNone := Lib.hid (show linesL (mendN p) (mendN q) = [] ↔ polC (mendN p) = polC (mendN q) by
    rw [← diff_none (mendN_ok hp) (mendN_ok hq) (mend_fine hp) (mend_fine hq)]; unfold linesL; exact List.map_eq_nil_iff)
  have HPy := Lib.hid (fun k (hk : k < (linesL (mendN p) (mendN q)).length) => (⟨patP (mendN p) ((linesL (mendN p) (mendN q)).take k ++ (linesL (mendN p) (mendN q)).drop (k + 1)), patE (mendN p) ((linesL (mendN p) (mendN q)).take k ++ (linesL (mendN p) (mendN q)).drop (k + 1)), patP_ok (mendN_ok hp) _, pat_less (mendN_ok hp) (mendN_ok hq) (mend_fine hq) hk, fun V v hV hv => cP (mendN p) v _ V (gK.keep hw hV) (mendN_ok hp) (mend_fine hp) hv
    (by rw [List.length_append, List.length_take, List.length_drop]; have := linesL_few (mendN p) (mendN q); omega)
    (fun l hl => (linesL_short (mendN_ok hp) (mendN_ok hq) (mend_fine hq)) l (by
      rcases List.mem_append.1 hl with hl | hl
      · exact List.mem_of_mem_take hl
      · exact List.mem_of_mem_drop hl))⟩ : ∃ (R : Pol) (E : Int), PolOk R ∧ unlikeB R E (mendN q) ∧ ∀ (V : World) (v : Value), Below w.heap.size w V → StrsAt V v ((linesL (mendN p) (mendN q)).take k ++ (linesL (mendN p) (mendN q)).drop (k + 1)) → Calls Tryz.prog 11 #[.agg (polC (mendN p)), v] V fun e w' => e = .returned (.tuple #[.agg (polC R), .int .i64 E]) ∧ Below V.heap.size V w'))
  have HAl := Lib.hid (fun V (hV : Below w.heap.size w V) => hA V (gK.keep hw hV))
  have HMo := Lib.hid (mendN_ok hp)
  have HNo := Lib.hid (mendN_ok hq)
  clear gK cL cP hA hw hp hq
  generalize linesL (mendN p) (mendN q) = ls at *
  go_enter Tryz.func5, Tryz.ntmps5
  go_upto_region 1 with fail
  generalize (w.alloc _).alloc _ = w1 at *
  refine wp_region_I (MqI w (w.heap.size) (w.heap.size + 1) p q (mendN p) (mendN q)) (fun x => { tmps := #[.agg (polC p), .agg (polC q), .int .u16 (z : Int), .pointer (some ⟨w.heap.size, 0, none⟩), .pointer (some ⟨w.heap.size + 1, 0, none⟩), undef, .bool false, undef, undef, undef, undef, undef, undef, x 0, x 1, x 2, x 3, undef, undef, undef, undef, undef, undef, undef, undef, undef, undef, undef, undef, undef, undef, undef, undef, undef, undef, undef, undef, undef, undef, undef, undef, undef, undef, undef, undef, undef, undef, undef, undef, undef, undef, undef, undef, undef, undef, undef, undef, undef, undef, undef, undef, undef, undef, undef, undef, undef, undef, undef, undef, undef, undef, undef, undef, undef, undef, undef, undef, undef, undef, undef, undef, undef, undef], defers := [] }) (fun i => ([undef, undef, undef, undef, undef, undef] : List Value).getD i undef) (by kernel_rfl) rfl (by kernel_rfl) (MqI.start _ (HG.out.below.trans ((Below.refl w1.heap.size w1).drew.mono HG.out.below.size)) (HG.out.pr.step (Below.refl _ _).drew) (HG.out.qr.step (Below.refl _ _).drew)) ?_ ?_
  · refine ⟨⟨fun x v => rfl, fun L x V h hL hD => ?_⟩, ?_⟩
    · refine want_yes rfl ?_
      exact leads_value (exec_load_pol rfl rfl (h.p1 (h.early (.inl hL)).1)) (h.meet (i := 0) (by decide) hL _ (Below.refl _ _) (fun _ => rfl) (fun e => by cases e) (fun e => by cases e) (fun e => by cases e))
    refine ⟨⟨fun x v => rfl, fun L x V h hL hD => ?_⟩, ?_⟩
    · refine want_yes rfl ?_
      have h0 := hD.1 rfl
      have e0 := h.v0 h0
      exact leads_enter2 (by go_simp) ((HMp.out V).mono fun en w'' ⟨he, hB⟩ => ⟨_, he, h.meet (i := 1) (by decide) hL _ hB (fun e => by cases e) (fun _ => ⟨rfl, h0⟩) (fun e => by cases e) (fun e => by cases e)⟩)
    refine ⟨⟨fun x v => rfl, fun L x V h hL hD => ?_⟩, ?_⟩
    · refine want_yes rfl ?_
      exact leads_value (exec_load_pol rfl rfl (h.q1 (h.early (.inr (.inr (.inl hL)))).2)) (h.meet (i := 2) (by decide) hL _ (Below.refl _ _) (fun e => by cases e) (fun e => by cases e) (fun _ => rfl) (fun e => by cases e))
    refine ⟨⟨fun x v => rfl, fun L x V h hL hD => ?_⟩, ?_⟩
    · refine want_yes rfl ?_
      have h2 := hD.1 rfl
      have h1 := hD.2.1 rfl
      have e2 := h.v2 h2
      exact leads_enter2 (by go_simp) ((HMq.out V).mono fun en w'' ⟨he, hB⟩ => ⟨_, he, h.meet (i := 3) (by decide) hL _ hB (fun e => by cases e) (fun e => by cases e) (fun e => by cases e) (fun _ => ⟨rfl, h1, h2⟩)⟩)
    refine ⟨⟨fun x v => rfl, fun L x V h hL hD => ?_⟩, ?_⟩
    · refine want_yes rfl ?_
      have h1 := hD.1 rfl
      have h3 := hD.2.1 rfl
      have e1 := h.v1 h1
      exact leadsP_mono (leads_store_row rfl rfl e1 (h.p1 hL) (infoPol _) (by rw [polC_size, polC_size]) (polC_one _)) fun u V' hp => h.store1 (Nat.le_refl _) (by omega) hL h3 (putB_put2 hp) u
    refine ⟨⟨fun x v => rfl, fun L x V h hL hD => ?_⟩, ?_⟩
    · refine want_yes rfl ?_
      have h3 := hD.1 rfl
      have h4 := hD.2.1 rfl
      have e3 := h.v3 h3
      exact leadsP_mono (leads_store_row rfl rfl e3 (h.q1 hL) (infoPol _) (by rw [polC_size, polC_size]) (polC_one _)) fun u V' hp => h.store2 (by omega) (by omega) h4 (putB_put2 hp) u
    trivial
  intro L x V hL hI
  have HG2 := Lib.hid (show SoW w (mendN p) (mendN q) V from ⟨hI.below, hI.p2 (hL 4 (by decide)), hI.q2 (hL 5 (by decide))⟩)
  clear hI hL HG HMp HMq
  generalize x 0 = y0
  generalize x 1 = y1
  generalize x 2 = y2
  generalize x 3 = y3
  have hrp := HG2.out.pr
  have hrq := HG2.out.qr
  go_wp2_with (first
    | (refine wpList_load_arr rfl _ _ rfl rfl hrp Tryz.underlying29 rfl (infoPol _) ?_)
    | (refine wpList_load_arr rfl _ _ rfl rfl hrq Tryz.underlying29 rfl (infoPol _) ?_))
  refine (HLn.out _ HG2.out.below).mono ?_
  rintro e w2 ⟨u, rfl, hu, hB⟩
  have HG3 := Lib.hid (HG2.out.step hB)
  have HU3 := Lib.hid (strsRow_at hu)
  have HUl := Lib.hid (fun a c d (e : u = .slice (some a) c d) => (⟨(hu.lt a.block (by rw [e]; rfl)).1, (hu.lt a.block (by rw [e]; rfl)).2⟩ : V.heap.size ≤ a.block ∧ a.block < w2.heap.size))
  have HV2 := Lib.hid (show w.heap.size + 1 < V.heap.size from HG2.out.qr.lt)
  clear hB hu hrp hrq HG2
  obtain ⟨pt, cap, rfl, ⟨hc1, hc2⟩, -⟩ := HU3.out
  have HC := Lib.hid (And.intro hc1 hc2)
  clear hc1 hc2
  go_upto_region 3 with fail
  have hrow := HG3.out.pr
  go_wp2_with (refine wpList_load_arr rfl _ _ rfl rfl hrow Tryz.underlying29 rfl (infoPol _) ?_)
  refine (HPa.out _ _ HG3.out.below HU3.out).mono ?_
  rintro e w4 ⟨rfl, hB4⟩
  have HG4 := Lib.hid (HG3.out.step hB4)
  have HU4 := Lib.hid (HU3.out.below hB4 (Nat.le_refl _))
  have HS4 := Lib.hid hB4.size
  have hz := PRow.new w4 zeroP
  clear hB4 hrow HG3 HU3
  go_upto_region 4 with (refine wpList_store_arr rfl rfl _ _ _ rfl rfl rfl hz (infoPol _) (by rw [polC_size, polC_size]) (polC_one _) ?_; intro w5 hw5)
  have HS5 := Lib.hid (show w2.heap.size ≤ w5.heap.size from by
    have h1 := HS4.out
    have h2 := hw5.chg.size
    simp only [World.size_alloc] at h2
    omega)
  have hBB := (belowNew w4 (.cells (polC zeroP) 29)).trans (hw5.below (by simp) (Nat.le_refl _))
  have HG5 := Lib.hid (HG4.out.step hBB)
  have HU5 := Lib.hid (HU4.out.below hBB (Nat.le_refl _))
  have HX5 := Lib.hid (show PRow w5 w4.heap.size (mendN q) from hw5.blk)
  clear hw5 hz HG4 HU4 hBB HS4
  generalize w4.heap.size = b8 at *
  obtain ⟨hrp, hrq, hrx⟩ := (⟨HG5.out.pr, HG5.out.qr, HX5.out⟩ : PRow w5 w.heap.size (mendN p) ∧ PRow w5 (w.heap.size + 1) (mendN q) ∧ PRow w5 b8 (mendN q))
  have HLs := Lib.hid hrx
  clear HLs
  by_cases h0 : ls = []
  · have hpq : polC (mendN p) = polC (mendN q) := HNone.out.1 h0
    have d1 : ((ls.length : Int) == (0 : Int)) = true := by rw [h0]; rfl
    clear h0
    go_wp2_with (first
      | (refine wpList_of rfl (exec_load_pol rfl rfl hrp) ?_)
      | (refine wpList_of rfl (exec_load_pol rfl rfl hrq) ?_)
      | (refine wpList_of rfl (exec_load_pol rfl rfl hrx) ?_)
      | (refine wpList_of rfl (exec_neq_pols HNo.out HNo.out (b := true) (by simp) rfl rfl rfl) ?_))
    refine (HLz.out _ HG5.out.below).mono ?_
    rintro e w6 ⟨u6, rfl, hu6, hB6⟩
    have HG6 := Lib.hid (HG5.out.step hB6)
    have hrp6 := HG6.out.pr
    have hrq6 := HG6.out.qr
    obtain ⟨pt6, cap6, rfl, -, -⟩ := strsRow_at hu6
    clear hB6 HG5 hu6 hrp hrq hrx
    go_wp2_with (first
      | (refine wpList_of rfl (exec_load_pol rfl rfl hrp6) ?_)
      | (refine wpList_of rfl (exec_load_pol rfl rfl hrq6) ?_)
      | (refine wpList_of rfl (exec_eql_pols HMo.out HNo.out (b := true) (by simpa using hpq) rfl rfl rfl) ?_))
    refine (HAl.out _ HG6.out.below).mono ?_
    rintro e w8 ⟨rfl, hB⟩
    have HB := Lib.hid (HG6.out.below.trans (hB.mono HG6.out.below.size))
    clear hB
    go_wp2_with fail
    go_ret
    exact ⟨rfl, HB.out⟩
  · have hpq : ¬ polC (mendN p) = polC (mendN q) := fun e => h0 (HNone.out.2 e)
    have hlen : 0 < ls.length := List.length_pos_iff.2 h0
    have d1 : ((ls.length : Int) == (0 : Int)) = false := by rw [beq_eq_false_iff_ne]; omega
    have HL0 := Lib.hid hlen
    clear hlen
    go_wp2_with (first
      | (refine wpList_of rfl (exec_load_pol rfl rfl hrp) ?_)
      | (refine wpList_of rfl (exec_load_pol rfl rfl hrq) ?_)
      | (refine wpList_of rfl (exec_load_pol rfl rfl hrx) ?_)
      | (refine wpList_of rfl (exec_neq_pols HNo.out HNo.out (b := true) (by simp) rfl rfl rfl) ?_))
    refine (HLz.out _ HG5.out.below).mono ?_
    rintro e w6 ⟨u6, rfl, hu6, hB6⟩
    have HG6 := Lib.hid (HG5.out.step hB6)
    have HU6 := Lib.hid (HU5.out.below hB6 (Nat.le_refl _))
    have HS6 := Lib.hid (Nat.le_trans HS5.out hB6.size)
    have hrp6 := HG6.out.pr
    have hrq6 := HG6.out.qr
    obtain ⟨pt6, cap6, rfl, -, -⟩ := strsRow_at hu6
    clear hB6 HG5 HU5 HS5 HX5 hu6 hrp hrq hrx
    have HZ := Lib.hid hz
    have hzl : IntKind.i64.wrap (z : Int) = (z : Int) := by rw [IntKind.wrap_i64]; omega
    clear hz
    go_upto_region 8 with (first
      | (refine wpList_of rfl (exec_load_pol rfl rfl hrp6) ?_)
      | (refine wpList_of rfl (exec_load_pol rfl rfl hrq6) ?_)
      | (refine wpList_of rfl (exec_eql_pols HMo.out HNo.out (b := false) (by simpa using hpq) rfl rfl rfl) ?_))
    go_upto_region 9 with fail
    have ek : ((z : Int) % (ls.length : Int)) = ((z % ls.length : Nat) : Int) := by omega
    have hk : z % ls.length < ls.length := Nat.mod_lt _ HL0.out
    rw [ek]
    generalize z % ls.length = k at *
    clear ek hzl
    obtain ⟨R, E, HRo, HUn, HPat⟩ := HPy.out k hk
    replace HRo := Lib.hid HRo
    replace HUn := Lib.hid HUn
    replace HPat := Lib.hid HPat
    clear HPa HPy HNone HLn HLz HShort hpq
    obtain ⟨g, off, cp9, hse, -, -, hg6⟩ := HU6.out.shape h0
    cases hse
    have HUl6 := Lib.hid (fun a c d (e : (Value.slice (some ⟨g, off, none⟩) ls.length cap) = .slice (some a) c d) => (by cases e; exact hg6 : a.block < w6.heap.size))
    clear h0 hg6
    have hkw : IntKind.i64.wrap ((k : Int) + 1) = (k : Int) + 1 := by have := HFew.out; rw [IntKind.wrap_i64]; omega
    obtain ⟨o9, h9⟩ : ∃ o9, OffOk cap k off o9 := by
      by_cases hcc : cap = k + 1
      · exact ⟨off, fun _ => rfl, fun e => absurd hcc e⟩
      · exact ⟨off + (k + 1), fun e => absurd e hcc, fun _ => rfl⟩
    have hN : BkN (fun i => ([some (.agg (polC (mendN p))), none, some (.slice (some ⟨g, off, none⟩) ls.length cap), some (.int .i64 (k : Int)), some (.slice (some ⟨g, off, none⟩) k cap), none, some (.slice (some ⟨g, off, none⟩) ls.length cap), some (.int .i64 (k : Int)), some (.int .i64 ((k : Int) + 1)), some (.slice (some ⟨g, o9, none⟩) (ls.length - (k + 1)) (cap - (k + 1))), none, some (.tuple #[.agg (polC R), .int .i64 E]), some (.tuple #[.agg (polC R), .int .i64 E]), some (.agg (polC R)), some (.int .i64 E), none, none, some (.int .i64 E)] : List (Option Value)).getD i none) := ⟨rfl, rfl, rfl, rfl, rfl⟩
    refine wp_region_I (BkI w w6.heap.size (mendN p) (mendN q) (.slice (some ⟨g, off, none⟩) ls.length cap) ls (ls.take k) (ls.take k ++ ls.drop (k + 1)) R (fun i => ([some (.agg (polC (mendN p))), none, some (.slice (some ⟨g, off, none⟩) ls.length cap), some (.int .i64 (k : Int)), some (.slice (some ⟨g, off, none⟩) k cap), none, some (.slice (some ⟨g, off, none⟩) ls.length cap), some (.int .i64 (k : Int)), some (.int .i64 ((k : Int) + 1)), some (.slice (some ⟨g, o9, none⟩) (ls.length - (k + 1)) (cap - (k + 1))), none, some (.tuple #[.agg (polC R), .int .i64 E]), some (.tuple #[.agg (polC R), .int .i64 E]), some (.agg (polC R)), some (.int .i64 E), none, none, some (.int .i64 E)] : List (Option Value)).getD i none)) (fun x => { tmps := #[.agg (polC p), .agg (polC q), .int .u16 (z : Int), .pointer (some ⟨w.heap.size, 0, none⟩), .pointer (some ⟨w.heap.size + 1, 0, none⟩), undef, .bool false, .slice (some ⟨g, off, none⟩) ls.length cap, .pointer (some ⟨b8, 0, none⟩), .int .i64 0, .int .i64 (k : Int), x 15, x 17, y0, y1, y2, y3, .agg (polC (mendN p)), .agg (polC (mendN q)), .slice (some ⟨g, off, none⟩) ls.length cap, .tuple #[.agg (polC (mendN q)), .int .i64 0], .agg (polC (mendN p)), .slice (some ⟨g, off, none⟩) ls.length cap, .tuple #[.agg (polC (mendN q)), .int .i64 0], .agg (polC (mendN q)), .int .i64 0, .agg (polC (mendN q)), .agg (polC (mendN q)), .bool false, .bool false, .int .i64 0, .bool false, .bool false, .bool false, .agg (polC (mendN q)), .agg (polC (mendN q)), .slice pt6 0 cap6, .int .i64 0, .bool false, .bool false, .bool false, .slice (some ⟨g, off, none⟩) ls.length cap, .int .i64 (ls.length : Int), .bool false, .agg (polC (mendN p)), .agg (polC (mendN q)), .bool false, .bool false, .bool false, .slice (some ⟨g, off, none⟩) ls.length cap, .int .i64 (ls.length : Int), .bool false, undef, .int .u16 (z : Int), .int .i64 (z : Int), .slice (some ⟨g, off, none⟩) ls.length cap, .int .i64 (ls.length : Int), .int .i64 (k : Int), x 12, x 0, x 1, x 2, x 3, x 4, x 5, x 6, x 7, x 8, x 9, x 10, x 11, x 13, x 14, undef, undef, undef, undef, undef, undef, undef, undef, undef, undef], defers := [] }) (fun i => ([undef, undef, undef, undef, undef, undef, undef, undef, undef, undef, undef, undef, undef, undef, undef, undef, undef, undef] : List Value).getD i undef) (by kernel_rfl) rfl (by kernel_rfl) (BkI.start _ (HG6.out.step (Below.refl _ _).drew) (HU6.out.below (Below.refl _ _).drew (Nat.le_refl _)) (fun a c d e => HUl6.out a c d e) HG6.out.qr.lt) ?_ ?_
    · refine ⟨⟨fun x v => rfl, fun L x V h hL hD => ?_⟩, ?_⟩
      · refine want_yes rfl ?_
        exact leads_value (exec_load_pol rfl rfl h.so.pr) (h.simple hN rfl (fun e => absurd e (by decide)) (Below.refl _ _))
      refine ⟨⟨fun x v => rfl, fun L x V h hL hD => ?_⟩, ?_⟩
      · refine want_yes rfl ?_
        exact leads_value (exec_build_none rfl) (h.row (.inl rfl) rfl hL (fun e => absurd e (by decide)) (fun e => absurd e (by decide)) (Chg.ofBelow (S := fun _ => False) (belowNew V _)) (fun _ e => e.elim) (h.none_place) (own_ofBlk strC_size (l := []) (Blk.new V _ _) (by decide) h.far))
      refine ⟨⟨fun x v => rfl, fun L x V h hL hD => ?_⟩, ?_⟩
      · refine want_yes rfl ?_
        exact leads_value (by go_simp) (h.simple hN rfl (fun e => absurd e (by decide)) (Below.refl _ _))
      refine ⟨⟨fun x v => rfl, fun L x V h hL hD => ?_⟩, ?_⟩
      · refine want_yes rfl ?_
        exact leads_value (by go_simp) (h.simple hN rfl (fun e => absurd e (by decide)) (Below.refl _ _))
      refine ⟨⟨fun x v => rfl, fun L x V h hL hD => ?_⟩, ?_⟩
      · refine want_yes rfl ?_
        have e2 := h.vals 2 _ rfl (hD.1 rfl)
        have e3 := h.vals 3 _ rfl (hD.2.1 rfl)
        exact leads_value (exec_takeS (x := .tmp 61) (y := .tmp 62) Tryz.underlying32 sizeStr rfl e2 e3 (Nat.le_of_lt hk) HC.out.1) (h.simple hN rfl (fun e => absurd e (by decide)) (Below.refl _ _))
      refine ⟨⟨fun x v => rfl, fun L x V h hL hD => ?_⟩, ?_⟩
      · refine want_yes rfl ?_
        have h1 := hD.1 rfl
        have e4 := h.vals 4 _ rfl (hD.2.1 rfl)
        exact leads_append_strs rfl Tryz.underlying32 rfl e4 (h.r1 h1 hL) (rowIs_take hk h.sl) (by have := HFew.out; rw [List.length_take]; simp only [List.length_nil]; omega) h.far fun v' w' hr hg ho => h.row (.inr (.inl rfl)) rfl hL (fun _ => h1) (fun e => absurd e (by decide)) (Chg.ofGrown hg) (fun b e => ((h.r1 h1 hL).lt b e).1) (h.place1 h1 hL ho) hr
      refine ⟨⟨fun x v => rfl, fun L x V h hL hD => ?_⟩, ?_⟩
      · refine want_yes rfl ?_
        exact leads_value (by go_simp) (h.simple hN rfl (fun e => absurd e (by decide)) (Below.refl _ _))
      refine ⟨⟨fun x v => rfl, fun L x V h hL hD => ?_⟩, ?_⟩
      · refine want_yes rfl ?_
        exact leads_value (by go_simp) (h.simple hN rfl (fun e => absurd e (by decide)) (Below.refl _ _))
      refine ⟨⟨fun x v => rfl, fun L x V h hL hD => ?_⟩, ?_⟩
      · refine want_yes rfl ?_
        have e7 := h.vals 7 _ rfl (hD.1 rfl)
        exact leads_value (by go_simp) (h.simple hN rfl (fun e => absurd e (by decide)) (Below.refl _ _))
      refine ⟨⟨fun x v => rfl, fun L x V h hL hD => ?_⟩, ?_⟩
      · refine want_yes rfl ?_
        have e6 := h.vals 6 _ rfl (hD.1 rfl)
        have e8 := h.vals 8 _ rfl (hD.2.1 rfl)
        exact leads_value (exec_dropS (x := .tmp 65) (y := .tmp 67) Tryz.underlying32 sizeStr rfl e6 e8 hk HC.out.1 h9) (h.simple hN rfl (fun e => absurd e (by decide)) (Below.refl _ _))
      refine ⟨⟨fun x v => rfl, fun L x V h hL hD => ?_⟩, ?_⟩
      · refine want_yes rfl ?_
        have h5 := hD.1 rfl
        have e9 := h.vals 9 _ rfl (hD.2.1 rfl)
        exact leads_append_strs rfl Tryz.underlying32 rfl e9 (h.r5 h5 hL) (rowIs_drop h9 HC.out.1 h.sl) (by have := HFew.out; rw [List.length_take, List.length_drop]; omega) h.far fun v' w' hr hg ho => h.row (.inr (.inr rfl)) rfl hL (fun e => absurd e (by decide)) (fun _ => h5) (Chg.ofGrown hg) (fun b e => ((h.r5 h5 hL).lt b e).1) (h.place5 h5 hL ho) hr
      refine ⟨⟨fun x v => rfl, fun L x V h hL hD => ?_⟩, ?_⟩
      · refine want_yes rfl ?_
        have e0 := h.vals 0 _ rfl (hD.1 rfl)
        have h10 := hD.2.1 rfl
        exact leads_enter2 (by go_simp) ((HPat.out V _ h.so.below (strsRow_at (h.r10 h10 hL))).mono fun en w'' ⟨he, hB⟩ => ⟨_, he, h.simple hN rfl (fun _ => h10) hB⟩)
      refine ⟨⟨fun x v => rfl, fun L x V h hL hD => ?_⟩, ?_⟩
      · refine want_yes rfl ?_
        have e11 := h.vals 11 _ rfl (hD.1 rfl)
        exact leads_value (by go_simp) (h.simple hN rfl (fun e => absurd e (by decide)) (Below.refl _ _))
      refine ⟨⟨fun x v => rfl, fun L x V h hL hD => ?_⟩, ?_⟩
      · refine want_yes rfl ?_
        have e12 := h.vals 12 _ rfl (hD.1 rfl)
        exact leads_value (by go_simp) (h.simple hN rfl (fun e => absurd e (by decide)) (Below.refl _ _))
      refine ⟨⟨fun x v => rfl, fun L x V h hL hD => ?_⟩, ?_⟩
      · refine want_yes rfl ?_
        have e12 := h.vals 12 _ rfl (hD.1 rfl)
        exact leads_value (by go_simp) (h.simple hN rfl (fun e => absurd e (by decide)) (Below.refl _ _))
      refine ⟨⟨fun x v => rfl, fun L x V h hL hD => ?_⟩, ?_⟩
      · refine want_yes rfl ?_
        exact leads_value (by go_simp) (h.place hN hL)
      refine ⟨⟨fun x v => rfl, fun L x V h hL hD => ?_⟩, ?_⟩
      · refine want_yes rfl ?_
        have h15 := hD.1 rfl
        have e13 := h.vals 13 _ rfl (hD.2.1 rfl)
        have h11 := hD.2.2.1 rfl
        obtain ⟨g', g1, -, -, g4, -⟩ := h.al h15
        exact leadsP_mono (leads_store_row rfl g1 e13 (g4 hL) (infoPol _) (by rw [polC_size, polC_size]) (polC_one _)) fun u V' hp => h.store hN h15 h11 g1 (putB_put2 hp) u
      refine ⟨⟨fun x v => rfl, fun L x V h hL hD => ?_⟩, ?_⟩
      · refine want_yes rfl ?_
        have e14 := h.vals 14 _ rfl (hD.1 rfl)
        exact leads_value (by go_simp) (h.simple hN rfl (fun e => absurd e (by decide)) (Below.refl _ _))
      trivial
    intro L x V hL hI
    have e17 : x 17 = .int .i64 E := hI.vals 17 _ rfl (hL 17 (by decide))
    obtain ⟨gx, e15, -, -, -, hR, -⟩ := hI.al (hL 15 (by decide))
    have HG7 := Lib.hid hI.so
    have HRR := Lib.hid (hR (hL 16 (by decide)))
    clear hI hL hR HG6 HU6
    rw [e15, e17]
    clear e15 e17 hN hrp6 hrq6
    obtain ⟨hrq7, hrx7⟩ := (⟨HG7.out.qr, HRR.out⟩ : PRow V (w.heap.size + 1) (mendN q) ∧ PRow V gx R)
    by_cases hE : E = 0
    · have hun : ¬ polC R = polC (mendN q) := fun e => (HUn.out.resolve_left (fun q => q hE)) e
      have dE : (E == 0) = true := by rw [hE]; rfl
      subst hE
      go_wp2_with (first | (refine wpList_of rfl (exec_load_pol rfl rfl hrx7) ?_) | (refine wpList_of rfl (exec_load_pol rfl rfl hrq7) ?_) | (refine wpList_of rfl (exec_neq_pols HRo.out HNo.out (b := false) (by simpa using hun) rfl rfl rfl) ?_))
      refine (HAl.out _ HG7.out.below).mono ?_
      rintro e w8 ⟨rfl, hB⟩
      have HB := Lib.hid (HG7.out.below.trans (hB.mono HG7.out.below.size))
      clear hB
      go_wp2_with fail
      go_ret
      exact ⟨rfl, HB.out⟩
    · have dE : (E == 0) = false := by rw [beq_eq_false_iff_ne]; exact hE
      have dE2 : (E != 0) = true := by simp [bne, dE]
      go_wp2_with (first | (refine wpList_of rfl (exec_load_pol rfl rfl hrx7) ?_) | (refine wpList_of rfl (exec_load_pol rfl rfl hrq7) ?_))
      refine (HAl.out _ HG7.out.below).mono ?_
      rintro e w8 ⟨rfl, hB⟩
      have HB := Lib.hid (HG7.out.below.trans (hB.mono HG7.out.below.size))
      clear hB
      go_wp2_with fail
      go_ret
      exact ⟨rfl, HB.out⟩
end Go.Proofs.YtmaachmidgfhdaaGreatDoor

/-
  The document's parser: one.
-/
import Derived.Test.YtfhjmhmgkdadhaaDoorWParD
import Derived.Test.YtfhjmhmgkdadhaaDoorWParO
import Derived.Test.YtfhjmhmgkdadhaaDoorWChainW
import Derived.Test.YtfhjmhmgkdadhaaDoorWRegP
import Derived.Test.YtfhjmhmgkdadhaaDoorW1
/-! ParE -/
namespace Go.Proofs.YtfhjmhmgkdadhaaDoor
open Go.RowKit

/-- The last piece alone is the end. -/
def ToksEnd (T : Toks) : Prop := ∃ T0 k, T = T0 ++ [(endPc, k)] ∧ ∀ x ∈ T0, x.1 ∈ tabPc
theorem ToksEnd.next {T : Toks} (h : ToksEnd T) {I : Nat} (hI : I < T.length) (hx : ¬ T[I].1.kind = 5) : I + 1 < T.length := by
  obtain ⟨T0, k, rfl, -⟩ := h
  rw [List.length_append, List.length_cons, List.length_nil] at hI ⊢
  rcases Nat.lt_or_ge I T0.length with h | h
  · omega
  · exfalso
    apply hx
    rw [List.getElem_append_right h]
    simp [show I - T0.length = 0 by omega, endPc]
theorem ToksEnd.mem {T : Toks} (h : ToksEnd T) {x : Pc × Nat} (hx : x ∈ T) : x.1 ∈ tabPc ∨ x.1 = endPc := by
  obtain ⟨T0, k, rfl, h2⟩ := h
  rcases List.mem_append.1 hx with h | h
  · exact .inl (h2 x h)
  · rw [List.mem_singleton] at h
    subst h
    exact .inr rfl
theorem ToksEnd.text {T : Toks} (h : ToksEnd T) {I : Nat} (hI : I < T.length) (hx : T[I].1.text ≠ []) : ¬ T[I].1.kind = 5 := by
  rcases h.mem (List.getElem_mem hI) with h | h
  · exact tab_kinds _ h
  · exact absurd (by rw [h]; rfl) hx
theorem tab_words : ∀ x ∈ tabPc, x.kind = 1 → kindOf x.text = wordQ x.text := by decide +kernel
theorem ToksEnd.word {T : Toks} (h : ToksEnd T) {I : Nat} (hI : I < T.length) (hx : T[I].1.kind = 1) : kindOf T[I].1.text = wordQ T[I].1.text := by
  rcases h.mem (List.getElem_mem hI) with h | h
  · exact tab_words _ h hx
  · rw [h] at hx
    cases hx
/-- What is known of the state behind. -/
def EndQ (T : Toks) (out : List Qn) (R : QnR) (I A E : Nat) (o' : List Qn) : Prop := match R with
  | .ok (o, r) => E = 0 ∧ r = T.drop I ∧ o' = out ++ o
  | .error (c, k) => E = c ∧ A = k
def RunQ (w : World) (T : Toks) (L : Value) (I : Nat) (out : List Qn) (R : QnR) (e : Ending) (w' : World) : Prop :=
  ∃ (I' : Nat) (O' : Value) (A' E' : Nat) (o' : List Qn), e = .returned (.agg (parC L I' O' A' E')) ∧ PqAt w' T L I' O' o' ∧ I ≤ I' ∧ o'.length + I ≤ out.length + I' ∧ Below w.heap.size w w' ∧ EndQ T out R I' A' E' o'
/-- One more, where it has gone well. -/
def withQ (x : Qn) : QnR → QnR
  | .error e => .error e
  | .ok (o, r) => .ok (o ++ [x], r)
theorem EndQ.with {T : Toks} {out : List Qn} {R : QnR} {I A E : Nat} {o' : List Qn} (h : EndQ T out R I A E o') (x : Qn) : EndQ T out (withQ x R) I A E (o' ++ [x]) := by
  match R, h with
  | .ok (o, r), h => exact ⟨h.1, h.2.1, by rw [h.2.2, List.append_assoc]⟩
  | .error (c, k), h => exact h
def Ok0 (R : QnR) : Prop := ∀ k, R ≠ .error (0, k)
theorem Ok0.with {x : Qn} {R : QnR} (h : Ok0 (withQ x R)) : Ok0 R := fun k e => h k (by rw [e]; rfl)
/-- The fourth place: a piece. -/
structure OneW (w : World) (b : Nat) (p r : Array Value) (x : Pc × Nat) (V : World) : Prop where
  two : TwoP w p r V
  pc : Blk V b (pieC x) 52
  lo : w.heap.size + 2 ≤ b
theorem OneW.step {w : World} {b : Nat} {p r : Array Value} {x : Pc × Nat} {V V' : World} (h : OneW w b p r x V) (hB : Below V.heap.size V V') : OneW w b p r x V' :=
  ⟨h.two.step hB, Blk.below h.pc hB h.pc.lt, h.lo⟩
theorem OneW.put {w : World} {b : Nat} {p q r : Array Value} {x : Pc × Nat} {V V' : World} (h : OneW w b p r x V) (hp : Put V V' w.heap.size q 50) : OneW w b q r x V' :=
  ⟨h.two.put hp, Blk.other h.pc hp (by have := h.lo; omega), h.lo⟩
theorem OneW.end_ {w : World} {b : Nat} {p q r : Array Value} {x : Pc × Nat} {V V' : World} (h : OneW w b p r x V) (hp : Put V V' (w.heap.size + 1) q 50) : OneW w b p q x V' :=
  ⟨h.two.end_ hp, Blk.other h.pc hp (by have := h.lo; omega), h.lo⟩
/-- What is asked of each of the four, with so much fuel. -/
def OneQC (f : Nat) : Prop := ∀ (d : Nat) (T : Toks) (L : Value) (I : Nat) (O : Value) (A : Nat) (out : List Qn) (w : World), ToksEnd T → PqAt w T L I O out → d ≤ 9 → out.length ≤ I → Ok0 (oneQ f d (T.drop I)) → Calls Tryd.prog 45 #[.agg (parC L I O A 0), .int .i64 (d : Int)] w (RunQ w T L I out (oneQ f d (T.drop I)))
def BothQC (f : Nat) : Prop := ∀ (d : Nat) (T : Toks) (L : Value) (I : Nat) (O : Value) (A : Nat) (out : List Qn) (w : World), ToksEnd T → PqAt w T L I O out → d ≤ 9 → out.length ≤ I → Ok0 (bothQ f d (T.drop I)) → Calls Tryd.prog 39 #[.agg (parC L I O A 0), .int .i64 (d : Int)] w (RunQ w T L I out (bothQ f d (T.drop I)))
def SumQC (f : Nat) : Prop := ∀ (d : Nat) (T : Toks) (L : Value) (I : Nat) (O : Value) (A : Nat) (out : List Qn) (w : World), ToksEnd T → PqAt w T L I O out → d ≤ 9 → out.length ≤ I → Ok0 (sumQ f d (T.drop I)) → Calls Tryd.prog 29 #[.agg (parC L I O A 0), .int .i64 (d : Int)] w (RunQ w T L I out (sumQ f d (T.drop I)))
def TestQC (f : Nat) : Prop := ∀ (d : Nat) (T : Toks) (L : Value) (I : Nat) (O : Value) (A : Nat) (out : List Qn) (w : World), ToksEnd T → PqAt w T L I O out → d ≤ 9 → out.length ≤ I → Ok0 (testQ f d (T.drop I)) → Calls Tryd.prog 21 #[.agg (parC L I O A 0), .int .i64 (d : Int)] w (RunQ w T L I out (testQ f d (T.drop I)))
theorem PqAt.oneL {w : World} {T : Toks} {L : Value} {I : Nat} {O : Value} {out : List Qn} (h : PqAt w T L I O out) : L.oneCell' = true := slAt_one h.pcs
theorem PqAt.oneO {w : World} {T : Toks} {L : Value} {I : Nat} {O : Value} {out : List Qn} (h : PqAt w T L I O out) : O.oneCell' = true := slAt_one h.nds.at_
theorem PqAt.one {w : World} {T : Toks} {L : Value} {I : Nat} {O : Value} {out : List Qn} (h : PqAt w T L I O out) (I2 A E : Nat) : (parC L I2 O A E).all (·.oneCell') = true := parC_one I2 A E h.oneL h.oneO
theorem failC_no (L : Value) (I : Nat) (O : Value) (A z c : Nat) : failC L I O A 0 z c = parC L I O z c := rfl
theorem pq_ne : 50 ≠ 34 := by decide
theorem OwnNd.put {V V' : World} {b : Nat} {p q : Array Value} {O : Value} {out : List Qn} (h : OwnNd V O out) (hb : Blk V b p 50) (hp : Put V V' b q 50) : OwnNd V' O out :=
  ndOwn_chg h hp.chg fun r e hr => blk_not_row hb pq_ne h (by rw [e, hr])
theorem PqAt.end_ {w V : World} {T : Toks} {L : Value} {I I2 : Nat} {O O2 : Value} {out o2 : List Qn} (h : PqAt w T L I O out) (hB : Below w.heap.size w V) (hO : OwnNd V O2 o2) (hlt : I2 < T.length) : PqAt V T L I2 O2 o2 := ⟨(h.step hB).pcs, hO, hlt, h.few⟩
/-- Parser's cells with nodes of the call's own. -/
def ndF (C : Value → Array Value) (l : List Qn) : Fact := ⟨fun v w => ∃ O, v = .agg (C O) ∧ OwnNd w O l, fun _ _ _ ⟨O, h1, h2⟩ hB => ⟨O, h1, own_belowC h2 hB⟩⟩
theorem pqPut {w V : World} {b : Nat} {cs : Array Value} {t : TypeId} (h : PutB w V b (.cells cs t (0, 0))) : Put w V b cs t := ⟨⟨h.os, h.tape, h.output, Nat.le_of_eq h.size.symm, fun k _ hk => h.other k hk⟩, h.new⟩
/-- Too deep. -/
theorem one_deep (f d : Nat) (hd : 8 < d) : ∀ (T : Toks) (L : Value) (I : Nat) (O : Value) (A : Nat) (out : List Qn) (w : World), PqAt w T L I O out → Calls Tryd.prog 45 #[.agg (parC L I O A 0), .int .i64 (d : Int)] w (RunQ w T L I out (oneQ (f + 1) d (T.drop I))) := by
  intro T L I O A out w h
  have HR := Lib.hid (show oneQ (f + 1) d (T.drop I) = .error (17, headAt (T.drop I)) from by unfold oneQ; rw [if_pos hd])
  have HP := Lib.hid h
  have HF := Lib.hid (fun V (hV : Below w.heap.size w V) => rqFail_any 17 T L I O A 0 out V (h.step hV))
  have d8 : decide ((8 : Int) < (d : Int)) = true := by simp; omega
  have d8b : decide (8 < d) = true := by simpa using hd
  have HW := Lib.hid (TwoP.start w (parC L I O A 0) parZ)
  have hpz : #[Value.slice none 0 0, Value.int IntKind.i64 0, Value.slice none 0 0, Value.int IntKind.i64 0, Value.int IntKind.i64 0] = parZ := rfl
  clear h hd
  go_enter Tryd.func45, Tryd.ntmps45
  go_upto_region 1 with fail
  generalize ((w.alloc (.cells (parC L I O A 0) 50)).alloc (.cells parZ 50)) = W at *
  clear hpz
  go_wp2_with (refine wpList_load_arr rfl _ _ rfl rfl HW.out.bx Tryd.underlying50 rfl (infoPq _ _ _ _ _) ?_)
  refine (HF.out _ HW.out.below).mono ?_
  rintro e w2 ⟨rfl, hB2⟩
  rw [failC_no]
  have HW2 := Lib.hid (HW.out.step hB2)
  clear hB2 HW
  generalize headAt (T.drop I) = z at *
  go_wp2_with (refine wpList_store_arr (new := parC L I O z 17) rfl rfl _ _ _ rfl rfl rfl HW2.out.rs (infoPq _ _ _ _ _) rfl (HP.out.one I z 17) ?_; intro w9 hw9; have HW9 := Lib.hid (HW2.out.end_ hw9); clear hw9)
  exact bodyPost_ret (v := .agg (parC L I O z 17)) (results_arr rfl rfl HW9.out.rs Tryd.underlying50 rfl (infoPq _ _ _ _ _)) rfl ⟨I, O, z, 17, out, rfl, HP.out.step HW9.out.below, Nat.le_refl _, Nat.le_refl _, HW9.out.below, by rw [HR.out]; exact ⟨rfl, rfl⟩⟩
theorem OneW.startP {w : World} {p r cs : Array Value} {V V' : World} (h : TwoP w p r V) {x : Pc × Nat} (hp : Put (V.alloc (.cells cs 52)) V' V.heap.size (pieC x) 52) : OneW w V.heap.size p r x V' :=
  ⟨h.step ((belowNew _ _).trans (hp.below (by simp) (Nat.le_refl _))), hp.blk, h.lt⟩
/-- Shut by a bracket. -/
def shutQ : QnR → QnR
  | .error e => .error e
  | .ok (o, r2) => if headT r2 = [41] then .ok (o, r2.tail) else .error (3, headAt r2)
theorem Ok0.shut {R : QnR} (h : Ok0 (shutQ R)) : Ok0 R := fun k e => h k (by rw [e]; rfl)
theorem isB_true {E : Nat} {z t : List UInt8} (h : isB E z t = true) : E = 0 ∧ z = t := by simpa [isB] using h
theorem EndQ.zero {T : Toks} {out : List Qn} {R : QnR} {I A E : Nat} {o' : List Qn} (h : EndQ T out R I A E o') (h0 : Ok0 R) (hE : E = 0) : ∃ o, R = .ok (o, T.drop I) ∧ o' = out ++ o := by
  match R, h, h0 with
  | .ok (o, r), h, _ => exact ⟨o, by rw [h.2.1], h.2.2⟩
  | .error (c, k), h, h0 => exact absurd rfl (h0 k |> fun q => by rw [show c = 0 from h.1.symm.trans hE] at q; exact q)
theorem EndQ.err {T : Toks} {out : List Qn} {R : QnR} {I A E : Nat} {o' : List Qn} (h : EndQ T out R I A E o') (hE : ¬ E = 0) : R = .error (E, A) := by
  match R, h with
  | .ok (o, r), h => exact absurd h.1 hE
  | .error (c, k), h => rw [h.1, h.2]
theorem EndQ.shut_yes {T : Toks} {out : List Qn} {R : QnR} {I A E : Nat} {o' : List Qn} (h : EndQ T out R I A E o') (h0 : Ok0 R) (hE : E = 0) (hd : headT (T.drop I) = [41]) : EndQ T out (shutQ R) (I + 1) A E o' := by
  obtain ⟨o, rfl, ho⟩ := h.zero h0 hE
  unfold shutQ
  simp only
  rw [if_pos hd]
  exact ⟨hE, by rw [List.tail_drop], ho⟩
theorem failC_is (L : Value) (I : Nat) (O : Value) (A E z c : Nat) : ∃ A' E', failC L I O A E z c = parC L I O A' E' := by
  unfold failC
  split
  · exact ⟨_, _, rfl⟩
  · exact ⟨_, _, rfl⟩
theorem parC_inj {L O : Value} {I A E A' E' : Nat} (h : parC L I O A E = parC L I O A' E') : A = A' ∧ E = E' := by
  simp [parC] at h
  omega
theorem EndQ.shut_no {T : Toks} {out : List Qn} {R : QnR} {I A E : Nat} {o' : List Qn} (h : EndQ T out R I A E o') (h0 : Ok0 R) (hb : isB E (headT (T.drop I)) [41] = false) {L O : Value} {A' E' : Nat} (hF : failC L I O A E (headAt (T.drop I)) 3 = parC L I O A' E') : EndQ T out (shutQ R) I A' E' o' := by
  by_cases hE : E = 0
  · obtain ⟨o, rfl, ho⟩ := h.zero h0 hE
    have hd : ¬ headT (T.drop I) = [41] := fun e => by simp [isB, hE, e] at hb
    rw [failC, if_pos hE] at hF
    obtain ⟨rfl, rfl⟩ := parC_inj hF
    unfold shutQ
    simp only
    rw [if_neg hd]
    exact ⟨rfl, rfl⟩
  · rw [failC, if_neg hE] at hF
    obtain ⟨rfl, rfl⟩ := parC_inj hF
    rw [h.err hE]
    exact ⟨rfl, rfl⟩
/-- What is read of a piece that stands ahead. -/
theorem oneQ_is {f d : Nat} (h8 : ¬ 8 < d) {T : Toks} {I : Nat} (h : I < T.length) {x : Pc × Nat} (hx : T[I] = x) : oneQ (f + 1) d (T.drop I) = (if x.1.kind = 2 then .ok ([⟨4, x.1.n⟩], T.drop (I + 1)) else if x.1.kind = 3 then .ok ([⟨5, x.1.n⟩], T.drop (I + 1)) else if x.1.kind = 1 then
        (if wordQ x.1.text < 4 then .ok ([⟨wordQ x.1.text, 0⟩], T.drop (I + 1)) else withQ ⟨wordQ x.1.text, 0⟩ (oneQ f (d + 1) (T.drop (I + 1))))
      else if x.1.text = [40] then match testQ f (d + 1) (T.drop (I + 1)) with
        | .error e => .error e
        | .ok (o, r2) => if headT r2 = [41] then .ok (o, r2.tail) else .error (3, headAt r2)
      else .error (3, x.2)) := by
  rw [List.drop_eq_getElem_cons h, hx]
  conv => lhs; unfold oneQ
  rw [if_neg h8]
  simp only
  cases oneQ f (d + 1) (T.drop (I + 1)) <;> rfl
set_option maxRecDepth 100000 in
set_option maxHeartbeats 3200000 in
theorem one_of (f : Nat) (ih1 : OneQC f) (ih2 : TestQC f) : OneQC (f + 1) := by
  intro d T L I O A out w hT h hd hol hR
  by_cases h8 : 8 < d
  · exact one_deep f d h8 T L I O A out w h
  obtain ⟨x, hx⟩ : ∃ x, T[I]'h.lt = x := ⟨_, rfl⟩
  have hRe := oneQ_is (f := f) h8 h.lt hx
  have HP := Lib.hid h
  have HOl := Lib.hid hol
  have HR0 := Lib.hid hR
  have HI1 := Lib.hid ih1
  have HI2 := Lib.hid ih2
  have HTe := Lib.hid hT
  have HRe := Lib.hid hRe
  clear hRe
  obtain ⟨g, off, cap, rfl, hg, hc⟩ := h.cell
  rw [hx] at hc
  have HC := Lib.hid (fun V (hV : Below w.heap.size w V) => hc.below hV hg)
  have hlt := h.lt
  have i0 : (0 : Int) ≤ (I : Int) := by omega
  have i1 : (I : Int) < (T.length : Int) := by omega
  have d8 : decide ((8 : Int) < (d : Int)) = false := by simp; omega
  have d8b : decide (8 < d) = false := by simpa using h8
  have HD := Lib.hid h8
  have HNe := Lib.hid (show ¬ x.1.kind = 5 → I + 1 < T.length from fun h5 => hT.next h.lt (by rw [hx]; exact h5))
  have HTx := Lib.hid (show x.1.text ≠ [] → ¬ x.1.kind = 5 from fun h5 => by have := hT.text h.lt (by rw [hx]; exact h5); rwa [hx] at this)
  have HWd := Lib.hid (show x.1.kind = 1 → kindOf x.1.text = wordQ x.1.text from fun h5 => by have := hT.word h.lt (by rw [hx]; exact h5); rwa [hx] at this)
  have HAt := Lib.hid (show headAt (T.drop I) = x.2 from by rw [headAt_drop h.lt, hx])
  have hfew := HP.out.few
  have hwd : IntKind.i64.wrap ((d : Int) + 1) = (d : Int) + 1 := by rw [IntKind.wrap_i64]; omega
  have HK := Lib.hid (fun t V => rqKind_any t V)
  have HNx := Lib.hid (fun A E V (hV : Below w.heap.size w V) => rqNext_any T _ I O A E out V (HP.out.step hV))
  have HFl := Lib.hid (fun V (hV : Below w.heap.size w V) => rqFail_any 3 T _ I O A 0 out V (HP.out.step hV))
  have HW := Lib.hid (TwoP.start w (parC (.slice (some ⟨g, off, none⟩) T.length cap) I O A 0) parZ)
  have hpz : #[Value.slice none 0 0, Value.int IntKind.i64 0, Value.slice none 0 0, Value.int IntKind.i64 0, Value.int IntKind.i64 0] = parZ := rfl
  clear hc hg h hol hR ih1 ih2 hT h8 hx hd
  go_enter Tryd.func45, Tryd.ntmps45
  go_upto_region 1 with fail
  generalize ((w.alloc (.cells (parC (.slice (some ⟨g, off, none⟩) T.length cap) I O A 0) 50)).alloc (.cells parZ 50)) = W at *
  clear hpz
  have c0 : W.cell? ⟨w.heap.size, 0, none⟩ = some (.slice (some ⟨g, off, none⟩) T.length cap) := HW.out.bx.cell 0
  have c1 : W.cell? ⟨w.heap.size, 1, none⟩ = some (.int .i64 (I : Int)) := HW.out.bx.cell 1
  have c4 : W.cell? ⟨w.heap.size, 4, none⟩ = some (.int .i64 0) := HW.out.bx.cell 4
  obtain ⟨⟨kd, tx, xn⟩, pl⟩ := x
  go_upto_region 6 with (first | (refine wpList_load_cells rfl _ _ rfl rfl (HC.out _ HW.out.below) Tryd.underlying52 rfl (infoPcS _) ?_) | (refine wpList_store_arr rfl rfl _ _ _ rfl rfl rfl (Blk.new _ _ _) (infoPcS _) rfl (pieC_one _) ?_; intro w9 hw9; have HV := Lib.hid (OneW.startP HW.out hw9); clear hw9))
  generalize W.heap.size = b at *
  simp only at HRe HNe HTx HWd HAt
  have x0 : w9.cell? ⟨b, 0, none⟩ = some (.int .i64 (kd : Int)) := HV.out.pc.cell 0
  have x1 : w9.cell? ⟨b, 1, none⟩ = some (.string ⟨tx.toArray⟩) := HV.out.pc.cell 1
  have x2 : w9.cell? ⟨b, 2, none⟩ = some (.int .i64 (xn : Int)) := HV.out.pc.cell 2
  clear c0 c1 c4
  go_wp2_with fail
  refine (HK.out tx w9).mono ?_
  rintro e w10 ⟨rfl, hB10⟩
  have HV2 := Lib.hid (HV.out.step hB10)
  clear hB10 x0 x1 x2 HV HW
  have x0 : w10.cell? ⟨b, 0, none⟩ = some (.int .i64 (kd : Int)) := HV2.out.pc.cell 0
  have x1 : w10.cell? ⟨b, 1, none⟩ = some (.string ⟨tx.toArray⟩) := HV2.out.pc.cell 1
  have x2 : w10.cell? ⟨b, 2, none⟩ = some (.int .i64 (xn : Int)) := HV2.out.pc.cell 2
  obtain ⟨kk, hkk⟩ : ∃ kk, kindOf tx = kk := ⟨_, rfl⟩
  rw [hkk]
  have HKk := Lib.hid hkk
  clear hkk
  by_cases h2 : kd = 2
  · have hskip := True.intro
    clear hskip
    have e2 : ((kd : Int) == 2) = true := by rw [beq_iff_eq]; omega
    have HI := Lib.hid (HNe.out (by omega))
    have HNy := Lib.hid (show ∀ A E V, Below w.heap.size w V → Calls Tryd.prog 32 #[.agg (parC (.slice (some ⟨g, off, none⟩) T.length cap) I O A E)] V fun e w' => e = .returned (.agg (parC (.slice (some ⟨g, off, none⟩) T.length cap) (I + 1) O A E)) ∧ Below V.heap.size V w' from fun A E V hV => by have h := HNx.out A E V hV; rwa [show nextN T.length I = I + 1 from if_pos HI.out] at h)
    have HPn := Lib.hid (fun V (hV : Below w.heap.size w V) => (⟨(HP.out.step hV).pcs, (HP.out.step hV).nds, HI.out, HP.out.few⟩ : PqAt V T (.slice (some ⟨g, off, none⟩) T.length cap) (I + 1) O out))
    have HR := Lib.hid (show oneQ (f + 1) d (T.drop I) = .ok ([⟨4, (xn : Int)⟩], T.drop (I + 1)) from by rw [HRe.out, if_pos h2])
    have HWi := Lib.hid (fun V (hV : Below w.heap.size w V) => rqWith_any 4 (xn : Int) T _ (I + 1) O A 0 out V (HPn.out V hV) (by have := HOl.out; omega))
    clear h2 HRe HNx
    go_upto_region 8 with fail
    refine wp_region_P (fun V => OneW w b (parC (.slice (some ⟨g, off, none⟩) T.length cap) I O A 0) parZ (⟨kd, tx, xn⟩, pl) V) (fun V => ∃ O2, OneW w b (parC (.slice (some ⟨g, off, none⟩) T.length cap) I O A 0) (parC (.slice (some ⟨g, off, none⟩) T.length cap) (I + 1) O2 A 0) (⟨kd, tx, xn⟩, pl) V ∧ OwnNd V O2 (out ++ [⟨4, (xn : Int)⟩])) 5 _ [.val (.agg (parC (.slice (some ⟨g, off, none⟩) T.length cap) I O A 0)), .val (.agg (parC (.slice (some ⟨g, off, none⟩) T.length cap) (I + 1) O A 0)), .val (.pointer (some ⟨b, 2, none⟩)), .val (.int .i64 (xn : Int)), .fact (ndF (parC (.slice (some ⟨g, off, none⟩) T.length cap) (I + 1) · A 0) (out ++ [⟨4, (xn : Int)⟩])), .st]
      (fun x => { tmps := #[.agg (parC (.slice (some ⟨g, off, none⟩) (List.length T) cap) I O A 0), .int .i64 (d : Int), .pointer (some ⟨w.heap.size, 0, none⟩), undef, .pointer (some ⟨w.heap.size + 1, 0, none⟩), .pointer (some ⟨b, 0, none⟩), .int .i64 (kk : Int), .int .i64 (d : Int), .bool false, undef, undef, .pointer (some ⟨w.heap.size, 4, none⟩), .int .i64 0, .bool false, undef, .pointer (some ⟨w.heap.size, 0, none⟩), .slice (some ⟨g, off, none⟩) (List.length T) cap, .pointer (some ⟨w.heap.size, 1, none⟩), .int .i64 (I : Int), .pointer (some ⟨g, off + I * 4, none⟩), .agg (pieC (⟨kd, tx, xn⟩, pl)), .pointer (some ⟨b, 1, none⟩), .string ⟨tx.toArray⟩, .int .i64 (kk : Int), .bool true, .pointer (some ⟨b, 0, none⟩), .int .i64 (kd : Int), .bool true, x 0, x 1, x 2, x 3, x 4, undef, undef, undef, undef, undef, undef, undef, undef, undef, undef, undef, undef, undef, undef, undef, undef, undef, undef, undef, undef, undef, undef, undef, undef, undef, undef, undef, undef, undef, undef, undef, undef, undef, undef, undef, undef, undef, undef, undef, undef, undef, undef, undef, undef, undef, undef, undef, undef, undef, undef], defers := [] }) (fun i => ([undef, undef, undef, undef, undef, undef] : List Value).getD i undef) (by kernel_rfl) rfl (by decide) rfl (by kernel_rfl) (by kernel_rfl) (HV2.out.step (Below.refl _ _).drew) ?_ ?_
    · refine ⟨ObP.of_val rfl (fun x v => rfl) (fun x V hC hD => ?_), ?_⟩
      · clear hD
        refine want_yes rfl ?_
        have hbx := hC.two.bx
        exact leads_value (exec_load_cells rfl rfl (CellsAt.ofBlk hbx fun j u hu => by simpa using hu) Tryd.underlying50 rfl (infoPq _ _ _ _ _)) ⟨rfl, hC, Below.refl _ _⟩
      refine ⟨ObP.of_val rfl (fun x v => rfl) (fun x V hC hD => ?_), ?_⟩
      · have e0 : x 0 = .agg (parC (.slice (some ⟨g, off, none⟩) T.length cap) I O A 0) := hD.1.1 _ rfl rfl
        clear hD
        refine want_yes rfl ?_
        exact leads_enter2 (by go_simp) ((HNy.out A 0 V hC.two.below).mono fun e w'' ⟨he, hB⟩ => ⟨_, he, rfl, hC.step hB, hB⟩)
      refine ⟨ObP.of_val rfl (fun x v => rfl) (fun x V hC hD => ?_), ?_⟩
      · clear hD
        refine want_yes rfl ?_
        exact leads_value (v := .pointer (some ⟨b, 2, none⟩)) (by go_simp) ⟨rfl, hC, Below.refl _ _⟩
      refine ⟨ObP.of_val rfl (fun x v => rfl) (fun x V hC hD => ?_), ?_⟩
      · have e2 : x 2 = .pointer (some ⟨b, 2, none⟩) := hD.1.1 _ rfl rfl
        clear hD
        refine want_yes rfl ?_
        have k0 : V.cell? ⟨b, 2, none⟩ = some (.int .i64 (xn : Int)) := hC.pc.cell 2
        exact leads_value (v := .int .i64 (xn : Int)) (by go_simp) ⟨rfl, hC, Below.refl _ _⟩
      refine ⟨ObP.of_fact rfl (fun x v => rfl) rfl (fun x V hC hD => ?_), ?_⟩
      · have e1 : x 1 = .agg (parC (.slice (some ⟨g, off, none⟩) T.length cap) (I + 1) O A 0) := hD.1.1 _ rfl rfl
        have e3 : x 3 = .int .i64 (xn : Int) := hD.2.1.1 _ rfl rfl
        clear hD
        exact leads_enter2 (by go_simp) ((HWi.out V hC.two.below).mono fun e w'' ⟨O2, he, hO, hB⟩ => ⟨_, he, ⟨O2, rfl, hO⟩, hC.step hB, hB⟩)
      refine ⟨ObP.of_st rfl (fun x v => rfl) rfl (fun x V hC hD => ?_), ?_⟩
      · have e4 : ∃ O2, (x 4) = .agg (parC (.slice (some ⟨g, off, none⟩) T.length cap) (I + 1) O2 A 0) ∧ OwnNd V O2 (out ++ [⟨4, (xn : Int)⟩]) := hD.1.2 _ rfl rfl
        clear hD
        obtain ⟨O2, e4b, hO⟩ := e4
        have h1O := slAt_one hO.at_
        have hrs := hC.two.rs
        exact leadsP_mono (leads_store_row rfl rfl e4b hrs (infoPq _ _ _ _ _) rfl (parC_one (I + 1) A 0 HP.out.oneL h1O)) fun u V' hp => ⟨O2, hC.end_ (pqPut hp), hO.put hrs (pqPut hp)⟩
      trivial
    · intro x V6 hD hx
      obtain ⟨O2, hD1, hD2⟩ := hD
      have HE := Lib.hid hD1
      have HOe := Lib.hid hD2
      clear hx hD1 hD2 HV2 x0 x1 x2
      generalize x 0 = y0
      generalize x 1 = y1
      generalize x 2 = y2
      generalize x 3 = y3
      generalize x 4 = y4
      go_wp2_with fail
      exact bodyPost_ret (v := .agg (parC (.slice (some ⟨g, off, none⟩) T.length cap) (I + 1) O2 A 0)) (results_arr rfl rfl HE.out.two.rs Tryd.underlying50 rfl (infoPq _ _ _ _ _)) rfl ⟨I + 1, O2, A, 0, _, rfl, HP.out.end_ HE.out.two.below HOe.out HI.out, Nat.le_succ _, by simp only [List.length_append, List.length_cons, List.length_nil]; omega, HE.out.two.below, by rw [HR.out]; exact ⟨rfl, rfl, rfl⟩⟩
  have e2 : ((kd : Int) == 2) = false := by rw [beq_eq_false_iff_ne]; omega
  by_cases h3 : kd = 3
  · have hskip := True.intro
    clear hskip
    have e3 : ((kd : Int) == 3) = true := by rw [beq_iff_eq]; omega
    have HI := Lib.hid (HNe.out (by omega))
    have HNy := Lib.hid (show ∀ A E V, Below w.heap.size w V → Calls Tryd.prog 32 #[.agg (parC (.slice (some ⟨g, off, none⟩) T.length cap) I O A E)] V fun e w' => e = .returned (.agg (parC (.slice (some ⟨g, off, none⟩) T.length cap) (I + 1) O A E)) ∧ Below V.heap.size V w' from fun A E V hV => by have h := HNx.out A E V hV; rwa [show nextN T.length I = I + 1 from if_pos HI.out] at h)
    have HPn := Lib.hid (fun V (hV : Below w.heap.size w V) => (⟨(HP.out.step hV).pcs, (HP.out.step hV).nds, HI.out, HP.out.few⟩ : PqAt V T (.slice (some ⟨g, off, none⟩) T.length cap) (I + 1) O out))
    have HR := Lib.hid (show oneQ (f + 1) d (T.drop I) = .ok ([⟨5, (xn : Int)⟩], T.drop (I + 1)) from by rw [HRe.out, if_neg h2, if_pos h3])
    have HWi := Lib.hid (fun V (hV : Below w.heap.size w V) => rqWith_any 5 (xn : Int) T _ (I + 1) O A 0 out V (HPn.out V hV) (by have := HOl.out; omega))
    clear h2 h3 HRe HNx
    go_upto_region 10 with fail
    refine wp_region_P (fun V => OneW w b (parC (.slice (some ⟨g, off, none⟩) T.length cap) I O A 0) parZ (⟨kd, tx, xn⟩, pl) V) (fun V => ∃ O2, OneW w b (parC (.slice (some ⟨g, off, none⟩) T.length cap) I O A 0) (parC (.slice (some ⟨g, off, none⟩) T.length cap) (I + 1) O2 A 0) (⟨kd, tx, xn⟩, pl) V ∧ OwnNd V O2 (out ++ [⟨5, (xn : Int)⟩])) 5 _ [.val (.agg (parC (.slice (some ⟨g, off, none⟩) T.length cap) I O A 0)), .val (.agg (parC (.slice (some ⟨g, off, none⟩) T.length cap) (I + 1) O A 0)), .val (.pointer (some ⟨b, 2, none⟩)), .val (.int .i64 (xn : Int)), .fact (ndF (parC (.slice (some ⟨g, off, none⟩) T.length cap) (I + 1) · A 0) (out ++ [⟨5, (xn : Int)⟩])), .st]
      (fun x => { tmps := #[.agg (parC (.slice (some ⟨g, off, none⟩) (List.length T) cap) I O A 0), .int .i64 (d : Int), .pointer (some ⟨w.heap.size, 0, none⟩), undef, .pointer (some ⟨w.heap.size + 1, 0, none⟩), .pointer (some ⟨b, 0, none⟩), .int .i64 (kk : Int), .int .i64 (d : Int), .bool false, undef, undef, .pointer (some ⟨w.heap.size, 4, none⟩), .int .i64 0, .bool false, undef, .pointer (some ⟨w.heap.size, 0, none⟩), .slice (some ⟨g, off, none⟩) (List.length T) cap, .pointer (some ⟨w.heap.size, 1, none⟩), .int .i64 (I : Int), .pointer (some ⟨g, off + I * 4, none⟩), .agg (pieC (⟨kd, tx, xn⟩, pl)), .pointer (some ⟨b, 1, none⟩), .string ⟨tx.toArray⟩, .int .i64 (kk : Int), .bool false, .pointer (some ⟨b, 0, none⟩), .int .i64 (kd : Int), .bool false, undef, undef, undef, undef, undef, .bool true, .pointer (some ⟨b, 0, none⟩), .int .i64 (kd : Int), .bool true, x 0, x 1, x 2, x 3, x 4, undef, undef, undef, undef, undef, undef, undef, undef, undef, undef, undef, undef, undef, undef, undef, undef, undef, undef, undef, undef, undef, undef, undef, undef, undef, undef, undef, undef, undef, undef, undef, undef, undef, undef, undef, undef, undef, undef, undef, undef, undef], defers := [] }) (fun i => ([undef, undef, undef, undef, undef, undef] : List Value).getD i undef) (by kernel_rfl) rfl (by decide) rfl (by kernel_rfl) (by kernel_rfl) (HV2.out.step (Below.refl _ _).drew) ?_ ?_
    · refine ⟨ObP.of_val rfl (fun x v => rfl) (fun x V hC hD => ?_), ?_⟩
      · clear hD
        refine want_yes rfl ?_
        have hbx := hC.two.bx
        exact leads_value (exec_load_cells rfl rfl (CellsAt.ofBlk hbx fun j u hu => by simpa using hu) Tryd.underlying50 rfl (infoPq _ _ _ _ _)) ⟨rfl, hC, Below.refl _ _⟩
      refine ⟨ObP.of_val rfl (fun x v => rfl) (fun x V hC hD => ?_), ?_⟩
      · have e0 : x 0 = .agg (parC (.slice (some ⟨g, off, none⟩) T.length cap) I O A 0) := hD.1.1 _ rfl rfl
        clear hD
        refine want_yes rfl ?_
        exact leads_enter2 (by go_simp) ((HNy.out A 0 V hC.two.below).mono fun e w'' ⟨he, hB⟩ => ⟨_, he, rfl, hC.step hB, hB⟩)
      refine ⟨ObP.of_val rfl (fun x v => rfl) (fun x V hC hD => ?_), ?_⟩
      · clear hD
        refine want_yes rfl ?_
        exact leads_value (v := .pointer (some ⟨b, 2, none⟩)) (by go_simp) ⟨rfl, hC, Below.refl _ _⟩
      refine ⟨ObP.of_val rfl (fun x v => rfl) (fun x V hC hD => ?_), ?_⟩
      · have e2 : x 2 = .pointer (some ⟨b, 2, none⟩) := hD.1.1 _ rfl rfl
        clear hD
        refine want_yes rfl ?_
        have k0 : V.cell? ⟨b, 2, none⟩ = some (.int .i64 (xn : Int)) := hC.pc.cell 2
        exact leads_value (v := .int .i64 (xn : Int)) (by go_simp) ⟨rfl, hC, Below.refl _ _⟩
      refine ⟨ObP.of_fact rfl (fun x v => rfl) rfl (fun x V hC hD => ?_), ?_⟩
      · have e1 : x 1 = .agg (parC (.slice (some ⟨g, off, none⟩) T.length cap) (I + 1) O A 0) := hD.1.1 _ rfl rfl
        have e3 : x 3 = .int .i64 (xn : Int) := hD.2.1.1 _ rfl rfl
        clear hD
        exact leads_enter2 (by go_simp) ((HWi.out V hC.two.below).mono fun e w'' ⟨O2, he, hO, hB⟩ => ⟨_, he, ⟨O2, rfl, hO⟩, hC.step hB, hB⟩)
      refine ⟨ObP.of_st rfl (fun x v => rfl) rfl (fun x V hC hD => ?_), ?_⟩
      · have e4 : ∃ O2, (x 4) = .agg (parC (.slice (some ⟨g, off, none⟩) T.length cap) (I + 1) O2 A 0) ∧ OwnNd V O2 (out ++ [⟨5, (xn : Int)⟩]) := hD.1.2 _ rfl rfl
        clear hD
        obtain ⟨O2, e4b, hO⟩ := e4
        have h1O := slAt_one hO.at_
        have hrs := hC.two.rs
        exact leadsP_mono (leads_store_row rfl rfl e4b hrs (infoPq _ _ _ _ _) rfl (parC_one (I + 1) A 0 HP.out.oneL h1O)) fun u V' hp => ⟨O2, hC.end_ (pqPut hp), hO.put hrs (pqPut hp)⟩
      trivial
    · intro x V6 hD hx
      obtain ⟨O2, hD1, hD2⟩ := hD
      have HE := Lib.hid hD1
      have HOe := Lib.hid hD2
      clear hx hD1 hD2 HV2 x0 x1 x2
      generalize x 0 = y0
      generalize x 1 = y1
      generalize x 2 = y2
      generalize x 3 = y3
      generalize x 4 = y4
      go_wp2_with fail
      exact bodyPost_ret (v := .agg (parC (.slice (some ⟨g, off, none⟩) T.length cap) (I + 1) O2 A 0)) (results_arr rfl rfl HE.out.two.rs Tryd.underlying50 rfl (infoPq _ _ _ _ _)) rfl ⟨I + 1, O2, A, 0, _, rfl, HP.out.end_ HE.out.two.below HOe.out HI.out, Nat.le_succ _, by simp only [List.length_append, List.length_cons, List.length_nil]; omega, HE.out.two.below, by rw [HR.out]; exact ⟨rfl, rfl, rfl⟩⟩
  have e3 : ((kd : Int) == 3) = false := by rw [beq_eq_false_iff_ne]; omega
  by_cases h1 : kd = 1
  · have e1 : ((kd : Int) == 1) = true := by rw [beq_iff_eq]; omega
    have HI := Lib.hid (HNe.out (by omega))
    have HNy := Lib.hid (show ∀ A E V, Below w.heap.size w V → Calls Tryd.prog 32 #[.agg (parC (.slice (some ⟨g, off, none⟩) T.length cap) I O A E)] V fun e w' => e = .returned (.agg (parC (.slice (some ⟨g, off, none⟩) T.length cap) (I + 1) O A E)) ∧ Below V.heap.size V w' from fun A E V hV => by have h := HNx.out A E V hV; rwa [show nextN T.length I = I + 1 from if_pos HI.out] at h)
    have HPn := Lib.hid (fun V (hV : Below w.heap.size w V) => (⟨(HP.out.step hV).pcs, (HP.out.step hV).nds, HI.out, HP.out.few⟩ : PqAt V T (.slice (some ⟨g, off, none⟩) T.length cap) (I + 1) O out))
    have HWk := Lib.hid (show kk = wordQ tx from HKk.out.symm.trans (HWd.out h1))
    rw [if_neg h2, if_neg h3, if_pos h1] at HRe
    clear HNx
    by_cases h4 : kk < 4
    · have d4 : decide ((kk : Int) < 4) = true := by simp; omega
      have d4b : decide (kk < 4) = true := by simpa using h4
      have HR := Lib.hid (show oneQ (f + 1) d (T.drop I) = .ok ([⟨(kk : Int), 0⟩], T.drop (I + 1)) from by rw [HRe.out, if_pos (by rw [← HWk.out]; exact h4), HWk.out])
      have HWi := Lib.hid (fun V (hV : Below w.heap.size w V) => rqWith_any (kk : Int) 0 T _ (I + 1) O A 0 out V (HPn.out V hV) (by have := HOl.out; omega))
      clear h1 h2 h3 h4 HRe
      go_wp2_with (refine wpList_load_arr rfl _ _ rfl rfl HV2.out.two.bx Tryd.underlying50 rfl (infoPq _ _ _ _ _) ?_)
      refine (HNy.out A 0 _ HV2.out.two.below).mono ?_
      rintro e w3 ⟨rfl, hB3⟩
      have HV3 := Lib.hid (HV2.out.step hB3)
      clear hB3 x0 x1 x2 HV2
      go_wp2_with fail
      refine (HWi.out _ HV3.out.two.below).mono ?_
      rintro e w4 ⟨O2, rfl, hO2, hB4⟩
      have HV4 := Lib.hid (HV3.out.step hB4)
      have HP4 := Lib.hid (show PqAt w4 T (.slice (some ⟨g, off, none⟩) T.length cap) (I + 1) O2 (out ++ [⟨(kk : Int), 0⟩]) from ⟨(HP.out.step HV4.out.two.below).pcs, hO2, HI.out, HP.out.few⟩)
      clear hB4 hO2 HV3
      go_wp2_with (refine wpList_store_arr (new := parC (.slice (some ⟨g, off, none⟩) T.length cap) (I + 1) O2 A 0) rfl rfl _ _ _ rfl rfl rfl HV4.out.two.rs (infoPq _ _ _ _ _) rfl (HP4.out.one (I + 1) A 0) ?_; intro w11 hw11; have HE := Lib.hid (HV4.out.end_ hw11); have HOe := Lib.hid (HP4.out.nds.put HV4.out.two.rs hw11); clear hw11)
      exact bodyPost_ret (v := .agg (parC (.slice (some ⟨g, off, none⟩) T.length cap) (I + 1) O2 A 0)) (results_arr rfl rfl HE.out.two.rs Tryd.underlying50 rfl (infoPq _ _ _ _ _)) rfl ⟨I + 1, O2, A, 0, _, rfl, HP.out.end_ HE.out.two.below HOe.out HI.out, Nat.le_succ _, by simp only [List.length_append, List.length_cons, List.length_nil]; omega, HE.out.two.below, by rw [HR.out]; exact ⟨rfl, rfl, rfl⟩⟩
    · have d4 : decide ((kk : Int) < 4) = false := by simp; omega
      have d4b : decide (kk < 4) = false := by simpa using h4
      have HR := Lib.hid (show oneQ (f + 1) d (T.drop I) = withQ ⟨(kk : Int), 0⟩ (oneQ f (d + 1) (T.drop (I + 1))) from by rw [HRe.out, if_neg (by rw [← HWk.out]; exact h4), HWk.out])
      have HOk := Lib.hid (show Ok0 (oneQ f (d + 1) (T.drop (I + 1))) from Ok0.with (x := ⟨(kk : Int), 0⟩) (by rw [← HR.out]; exact HR0.out))
      have HOn := Lib.hid (show ∀ V, Below w.heap.size w V → Calls Tryd.prog 45 #[.agg (parC (.slice (some ⟨g, off, none⟩) T.length cap) (I + 1) O A 0), .int .i64 ((d : Int) + 1)] V (RunQ V T (.slice (some ⟨g, off, none⟩) T.length cap) (I + 1) out (oneQ f (d + 1) (T.drop (I + 1)))) from fun V hV => by
        have h := HI1.out (d + 1) T (.slice (some ⟨g, off, none⟩) T.length cap) (I + 1) O A out V HTe.out (HPn.out V hV) (by have := HD.out; omega) (by have := HOl.out; omega) HOk.out
        rwa [show ((d + 1 : Nat) : Int) = (d : Int) + 1 by omega] at h)
      clear h1 h2 h3 h4 HRe
      go_wp2_with (refine wpList_load_arr rfl _ _ rfl rfl HV2.out.two.bx Tryd.underlying50 rfl (infoPq _ _ _ _ _) ?_)
      refine (HNy.out A 0 _ HV2.out.two.below).mono ?_
      rintro e w3 ⟨rfl, hB3⟩
      have HV3 := Lib.hid (HV2.out.step hB3)
      clear hB3 x0 x1 x2 HV2
      go_wp2_with fail
      refine (HOn.out _ HV3.out.two.below).mono ?_
      rintro e w4 ⟨I4, O4, A4, E4, o4, rfl, hP4, hI4, hl4, hB4, hE4⟩
      have HV4 := Lib.hid (HV3.out.step hB4)
      have HP4 := Lib.hid hP4
      have HL4 := Lib.hid (And.intro hI4 hl4)
      have HE4 := Lib.hid (hE4.with ⟨(kk : Int), 0⟩)
      have HWi := Lib.hid (rqWith_any (kk : Int) 0 T (.slice (some ⟨g, off, none⟩) T.length cap) I4 O4 A4 E4 o4 w4 hP4 (by have := hP4.lt; have := hP4.few; have := HOl.out; omega))
      clear hP4 hI4 hl4 hB4 hE4 HV3
      go_wp2_with fail
      refine HWi.out.mono ?_
      rintro e w5 ⟨O5, rfl, hO5, hB5⟩
      have HV5 := Lib.hid (HV4.out.step hB5)
      have HP5 := Lib.hid (HP.out.end_ HV5.out.two.below hO5 HP4.out.lt)
      clear hO5 hB5 HV4 HWi
      go_wp2_with (refine wpList_store_arr (new := parC (.slice (some ⟨g, off, none⟩) T.length cap) I4 O5 A4 E4) rfl rfl _ _ _ rfl rfl rfl HV5.out.two.rs (infoPq _ _ _ _ _) rfl (HP5.out.one I4 A4 E4) ?_; intro w11 hw11; have HE := Lib.hid (HV5.out.end_ hw11); have HOe := Lib.hid (HP5.out.nds.put HV5.out.two.rs hw11); clear hw11)
      exact bodyPost_ret (v := .agg (parC (.slice (some ⟨g, off, none⟩) T.length cap) I4 O5 A4 E4)) (results_arr rfl rfl HE.out.two.rs Tryd.underlying50 rfl (infoPq _ _ _ _ _)) rfl ⟨I4, O5, A4, E4, _, rfl, HP.out.end_ HE.out.two.below HOe.out HP4.out.lt, by have := HL4.out.1; omega, by have := HL4.out.2; simp only [List.length_append, List.length_cons, List.length_nil]; omega, HE.out.two.below, by rw [HR.out]; exact HE4.out⟩
      
  · have e1 : ((kd : Int) == 1) = false := by rw [beq_eq_false_iff_ne]; omega
    by_cases h5 : tx = [40]
    · have dt : (tx == [40]) = true := by simpa using h5
      have HI := Lib.hid (HNe.out (HTx.out (by rw [h5]; simp)))
      have HNy := Lib.hid (show ∀ A E V, Below w.heap.size w V → Calls Tryd.prog 32 #[.agg (parC (.slice (some ⟨g, off, none⟩) T.length cap) I O A E)] V fun e w' => e = .returned (.agg (parC (.slice (some ⟨g, off, none⟩) T.length cap) (I + 1) O A E)) ∧ Below V.heap.size V w' from fun A E V hV => by have h := HNx.out A E V hV; rwa [show nextN T.length I = I + 1 from if_pos HI.out] at h)
      have HPn := Lib.hid (fun V (hV : Below w.heap.size w V) => (⟨(HP.out.step hV).pcs, (HP.out.step hV).nds, HI.out, HP.out.few⟩ : PqAt V T (.slice (some ⟨g, off, none⟩) T.length cap) (I + 1) O out))
      have HR := Lib.hid (show oneQ (f + 1) d (T.drop I) = shutQ (testQ f (d + 1) (T.drop (I + 1))) from by rw [HRe.out, if_neg h2, if_neg h3, if_neg h1, if_pos h5]; rfl)
      have HOk := Lib.hid (show Ok0 (testQ f (d + 1) (T.drop (I + 1))) from Ok0.shut (by rw [← HR.out]; exact HR0.out))
      have HOn := Lib.hid (show ∀ V, Below w.heap.size w V → Calls Tryd.prog 21 #[.agg (parC (.slice (some ⟨g, off, none⟩) T.length cap) (I + 1) O A 0), .int .i64 ((d : Int) + 1)] V (RunQ V T (.slice (some ⟨g, off, none⟩) T.length cap) (I + 1) out (testQ f (d + 1) (T.drop (I + 1)))) from fun V hV => by
        have h := HI2.out (d + 1) T (.slice (some ⟨g, off, none⟩) T.length cap) (I + 1) O A out V HTe.out (HPn.out V hV) (by have := HD.out; omega) (by have := HOl.out; omega) HOk.out
        rwa [show ((d + 1 : Nat) : Int) = (d : Int) + 1 by omega] at h)
      clear h1 h2 h3 h5 HRe HNx
      go_wp2_with (refine wpList_load_arr rfl _ _ rfl rfl HV2.out.two.bx Tryd.underlying50 rfl (infoPq _ _ _ _ _) ?_)
      refine (HNy.out A 0 _ HV2.out.two.below).mono ?_
      rintro e w3 ⟨rfl, hB3⟩
      have HV3 := Lib.hid (HV2.out.step hB3)
      clear hB3 x0 x1 x2 HV2
      go_wp2_with fail
      refine (HOn.out _ HV3.out.two.below).mono ?_
      rintro e w4 ⟨I4, O4, A4, E4, o4, rfl, hP4, hI4, hl4, hB4, hE4⟩
      have HV4 := Lib.hid (HV3.out.step hB4)
      have HP4 := Lib.hid hP4
      have HL4 := Lib.hid (And.intro hI4 hl4)
      generalize testQ f (d + 1) (T.drop (I + 1)) = R1 at *
      have HE4 := Lib.hid hE4
      clear hP4 hI4 hl4 hB4 hE4 HV3
      go_upto_region 17 with (refine wpList_store_arr (new := parC (.slice (some ⟨g, off, none⟩) T.length cap) I4 O4 A4 E4) rfl rfl _ _ _ rfl rfl rfl HV4.out.two.bx (infoPq _ _ _ _ _) rfl (HP4.out.one I4 A4 E4) ?_; intro w5 hw5; have HV5 := Lib.hid (HV4.out.put hw5); have HP5 := Lib.hid (HP.out.end_ HV5.out.two.below (HP4.out.nds.put HV4.out.two.bx hw5) HP4.out.lt); clear hw5)
      have HIs := Lib.hid (fun V (hV : Below w5.heap.size w5 V) => rqIs_any [41] T (.slice (some ⟨g, off, none⟩) T.length cap) I4 O4 A4 E4 o4 V (HP5.out.step hV))
      clear HV4 HP4
      go_wp2_with (refine wpList_load_arr rfl _ _ rfl rfl HV5.out.two.bx Tryd.underlying50 rfl (infoPq _ _ _ _ _) ?_)
      refine (HIs.out _ (Below.refl _ _)).mono ?_
      rintro e w6 ⟨rfl, hB6⟩
      have HV6 := Lib.hid (HV5.out.step hB6)
      have HP6 := Lib.hid (HP5.out.step hB6)
      clear hB6 HV5 HP5 HIs
      cases hb : isB E4 (headT (T.drop I4)) [41] with
      | true =>
        have HS := Lib.hid (isB_true hb)
        clear hb
        have HI5 := Lib.hid (HTe.out.next HP6.out.lt (HTe.out.text HP6.out.lt (by rw [← headT_drop HP6.out.lt, HS.out.2]; simp)))
        have HN6 := Lib.hid (rqNext_any T (.slice (some ⟨g, off, none⟩) T.length cap) I4 O4 A4 E4 o4 w6 HP6.out)
        go_wp2_with (refine wpList_load_arr rfl _ _ rfl rfl HV6.out.two.bx Tryd.underlying50 rfl (infoPq _ _ _ _ _) ?_)
        refine HN6.out.mono ?_
        rintro e w7 ⟨rfl, hB7⟩
        rw [show nextN T.length I4 = I4 + 1 from if_pos HI5.out]
        have HV7 := Lib.hid (HV6.out.step hB7)
        have HP7 := Lib.hid (HP6.out.step hB7)
        clear hB7 HV6 HN6
        go_wp2_with (refine wpList_store_arr (new := parC (.slice (some ⟨g, off, none⟩) T.length cap) (I4 + 1) O4 A4 E4) rfl rfl _ _ _ rfl rfl rfl HV7.out.two.rs (infoPq _ _ _ _ _) rfl (HP7.out.one (I4 + 1) A4 E4) ?_; intro w11 hw11; have HE := Lib.hid (HV7.out.end_ hw11); have HOe := Lib.hid (HP7.out.nds.put HV7.out.two.rs hw11); clear hw11)
        exact bodyPost_ret (v := .agg (parC (.slice (some ⟨g, off, none⟩) T.length cap) (I4 + 1) O4 A4 E4)) (results_arr rfl rfl HE.out.two.rs Tryd.underlying50 rfl (infoPq _ _ _ _ _)) rfl ⟨I4 + 1, O4, A4, E4, o4, rfl, HP.out.end_ HE.out.two.below HOe.out HI5.out, by have := HL4.out.1; omega, by have := HL4.out.2; omega, HE.out.two.below, by rw [HR.out]; exact HE4.out.shut_yes HOk.out HS.out.1 HS.out.2⟩
    
      | false =>
        have HS := Lib.hid hb
        clear hb
        have HF6 := Lib.hid (rqFail_any 3 T (.slice (some ⟨g, off, none⟩) T.length cap) I4 O4 A4 E4 o4 w6 HP6.out)
        go_wp2_with (refine wpList_load_arr rfl _ _ rfl rfl HV6.out.two.bx Tryd.underlying50 rfl (infoPq _ _ _ _ _) ?_)
        refine HF6.out.mono ?_
        rintro e w7 ⟨rfl, hB7⟩
        have HV7 := Lib.hid (HV6.out.step hB7)
        have HP7 := Lib.hid (HP6.out.step hB7)
        obtain ⟨A7, E7, hF⟩ := failC_is (.slice (some ⟨g, off, none⟩) T.length cap) I4 O4 A4 E4 (headAt (T.drop I4)) 3
        rw [hF]
        have HFe := Lib.hid (EndQ.shut_no HE4.out HOk.out HS.out hF)
        clear hB7 HV6 HF6 hF
        go_wp2_with (refine wpList_store_arr (new := parC (.slice (some ⟨g, off, none⟩) T.length cap) I4 O4 A7 E7) rfl rfl _ _ _ rfl rfl rfl HV7.out.two.rs (infoPq _ _ _ _ _) rfl (HP7.out.one I4 A7 E7) ?_; intro w11 hw11; have HE := Lib.hid (HV7.out.end_ hw11); have HOe := Lib.hid (HP7.out.nds.put HV7.out.two.rs hw11); clear hw11)
        exact bodyPost_ret (v := .agg (parC (.slice (some ⟨g, off, none⟩) T.length cap) I4 O4 A7 E7)) (results_arr rfl rfl HE.out.two.rs Tryd.underlying50 rfl (infoPq _ _ _ _ _)) rfl ⟨I4, O4, A7, E7, o4, rfl, HP.out.end_ HE.out.two.below HOe.out HP6.out.lt, by have := HL4.out.1; omega, by have := HL4.out.2; omega, HE.out.two.below, by rw [HR.out]; exact HFe.out⟩
    
    · have dt : (tx == [40]) = false := by simpa using h5
      have HR := Lib.hid (show oneQ (f + 1) d (T.drop I) = .error (3, pl) from by rw [HRe.out, if_neg h2, if_neg h3, if_neg h1, if_neg h5])
      clear h1 h2 h3 h5 HRe HNx
      go_wp2_with (refine wpList_load_arr rfl _ _ rfl rfl HV2.out.two.bx Tryd.underlying50 rfl (infoPq _ _ _ _ _) ?_)
      refine (HFl.out _ HV2.out.two.below).mono ?_
      rintro e w3 ⟨rfl, hB3⟩
      rw [failC_no, HAt.out]
      have HV3 := Lib.hid (HV2.out.step hB3)
      have HP3 := Lib.hid (HP.out.step HV3.out.two.below)
      clear hB3 x0 x1 x2 HV2
      go_wp2_with (refine wpList_store_arr (new := parC (.slice (some ⟨g, off, none⟩) T.length cap) I O pl 3) rfl rfl _ _ _ rfl rfl rfl HV3.out.two.rs (infoPq _ _ _ _ _) rfl (HP3.out.one I pl 3) ?_; intro w11 hw11; have HE := Lib.hid (HV3.out.end_ hw11); have HOe := Lib.hid (HP3.out.nds.put HV3.out.two.rs hw11); clear hw11)
      exact bodyPost_ret (v := .agg (parC (.slice (some ⟨g, off, none⟩) T.length cap) I O pl 3)) (results_arr rfl rfl HE.out.two.rs Tryd.underlying50 rfl (infoPq _ _ _ _ _)) rfl ⟨I, O, pl, 3, out, rfl, HP.out.end_ HE.out.two.below HOe.out HP.out.lt, Nat.le_refl _, Nat.le_refl _, HE.out.two.below, by rw [HR.out]; exact ⟨rfl, rfl⟩⟩
    
end Go.Proofs.YtfhjmhmgkdadhaaDoor

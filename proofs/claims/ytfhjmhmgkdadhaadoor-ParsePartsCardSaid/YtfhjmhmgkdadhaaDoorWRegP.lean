/-
  A region that draws its order and stores once: the operations for which the store waits read and call ahead of it; the others do not touch memory. C: what is known of memory ahead of the store, D: behind it.
-/
import Derived.Test.YtfhjmhmgkdadhaaDoorW1
/-! RegP -/
namespace Go.Proofs.YtfhjmhmgkdadhaaDoor
open Go.RowKit

/-- val: this value, ahead of the store; fact: what is known of it; pure: this value, whenever; st: the store. -/
inductive KindP where
  | val (v : Value)
  | fact (F : Fact)
  | pure (v : Value)
  | st
def kindP (ks : List KindP) (i : Nat) : KindP := ks.getD i (.pure undef)
def valP : KindP → Option Value
  | .val v => some v
  | .pure v => some v
  | _ => none
def aheadP : KindP → Bool
  | .val _ => true
  | .fact _ => true
  | _ => false
def isStP : KindP → Bool
  | .st => true
  | _ => false
/-- The store waits for it. -/
def waitsPB (ags : List Edge) (i : Nat) : Bool := ags.any fun e => Region.binds .any e && e.on == i
def kindsPB (ks : List KindP) (s : Nat) (ags : List Edge) : Bool := isStP (kindP ks s) && (List.range ks.length).all fun i => (isStP (kindP ks i) == decide (i = s)) && (!aheadP (kindP ks i) || waitsPB ags i)
def DepsP (ks : List KindP) (x : Nat → Value) : List Edge → Prop
  | [] => True
  | e :: r => (∀ v, Region.binds .any e = true → valP (kindP ks e.on) = some v → x e.on = v) ∧ DepsP ks x r
def DepsPF (ks : List KindP) (x : Nat → Value) (V : World) : List Edge → Prop
  | [] => True
  | e :: r => ((∀ v, Region.binds .any e = true → valP (kindP ks e.on) = some v → x e.on = v) ∧ (∀ F, Region.binds .any e = true → kindP ks e.on = .fact F → F.holds (x e.on) V)) ∧ DepsPF ks x V r
structure KnownP (ks : List KindP) (s : Nat) (ags : List Edge) (C D : World → Prop) (L : Nat → Bool) (x : Nat → Value) (V : World) : Prop where
  val : ∀ i v, valP (kindP ks i) = some v → L i = true → x i = v
  fact : ∀ i F, kindP ks i = .fact F → L i = true → L s = false → F.holds (x i) V
  pre : L s = false → C V
  post : L s = true → D V
  first : L s = true → DepsI L ags
def ObP (P : Program) (ops : Array Oper) (fr : (Nat → Value) → Act) (ks : List KindP) (C D : World → Prop) (i : Nat) (o : Oper) : Prop :=
  (∀ x v, (fr x).put o.dst v = fr (setX x i v)) ∧
  match kindP ks i with
  | .val v => ∀ x V, C V → DepsPF ks x V o.after.toList → if Region.wanted o (yielded ops (fr x).tmps) = true then leads P o (fr x) V (fun u V' => u = v ∧ C V' ∧ Below V.heap.size V V') else undef = v
  | .fact F => o.guard = none ∧ ∀ x V, C V → DepsPF ks x V o.after.toList → leads P o (fr x) V (fun u V' => F.holds u V' ∧ C V' ∧ Below V.heap.size V V')
  | .pure v => ∀ x V, DepsP ks x o.after.toList → if Region.wanted o (yielded ops (fr x).tmps) = true then leads P o (fr x) V (fun u V' => u = v ∧ V' = V) else undef = v
  | .st => o.guard = none ∧ ∀ x V, C V → DepsPF ks x V o.after.toList → leads P o (fr x) V (fun _ V' => D V')
def ObsP (P : Program) (ops : Array Oper) (fr : (Nat → Value) → Act) (ks : List KindP) (C D : World → Prop) : Nat → List Oper → Prop
  | _, [] => True
  | k, o :: r => ObP P ops fr ks C D k o ∧ ObsP P ops fr ks C D (k + 1) r

theorem depsI_more {L : Nat → Bool} {i : Nat} : ∀ {es : List Edge}, DepsI L es → DepsI (setL L i) es
  | [], _ => trivial
  | _ :: _, h => ⟨fun hb => by
      unfold setL; split
      · rfl
      · exact h.1 hb, depsI_more h.2⟩
theorem depsI_waits {L : Nat → Bool} {i : Nat} : ∀ {es : List Edge}, DepsI L es → waitsPB es i = true → L i = true
  | [], _, h => by cases h
  | e :: r, hd, h => by
    unfold waitsPB at h
    rw [List.any_cons, Bool.or_eq_true] at h
    rcases h with h | h
    · simp only [Bool.and_eq_true, beq_iff_eq] at h
      rw [← h.2]; exact hd.1 h.1
    · exact depsI_waits (es := r) hd.2 h
theorem kindP_lt {ks : List KindP} {i : Nat} (h : ∀ v, kindP ks i ≠ .pure v) : i < ks.length := by
  rcases Nat.lt_or_ge i ks.length with h1 | h1
  · exact h1
  · exact absurd (show kindP ks i = .pure undef by unfold kindP; simp [List.getD_eq_getElem?_getD, List.getElem?_eq_none h1]) (h undef)
theorem leadsP_mono {P : Program} {o : Oper} {a : Act} {w : World} {R R' : Value → World → Prop} (h : leads P o a w R) (hR : ∀ v w', R v w' → R' v w') : leads P o a w R' := by
  unfold leads at *
  generalize (execOp a.eval o).run P w = r at *
  cases r with
  | ok n w' =>
    cases n <;> simp only at h ⊢ <;> first | exact hR _ _ h | exact h.mono (fun e w'' he => by obtain ⟨v, h1, h2⟩ := he; exact ⟨v, h1, hR _ _ h2⟩) | exact h.elim
  | halt x w' => exact h
section
variable {P : Program} {ops : Array Oper} {fr : (Nat → Value) → Act} {ks : List KindP} {s : Nat} {ags : List Edge} {C D : World → Prop}

theorem depsP_of {L : Nat → Bool} {x : Nat → Value} {V : World} (h : KnownP ks s ags C D L x V) : ∀ {es : List Edge}, DepsI L es → DepsP ks x es
  | [], _ => trivial
  | _ :: _, hd => ⟨fun v hb hk => h.val _ v hk (hd.1 hb), depsP_of h hd.2⟩
theorem depsPF_of {L : Nat → Bool} {x : Nat → Value} {V : World} (h : KnownP ks s ags C D L x V) (hs : L s = false) : ∀ {es : List Edge}, DepsI L es → DepsPF ks x V es
  | [], _ => trivial
  | _ :: _, hd => ⟨⟨fun v hb hk => h.val _ v hk (hd.1 hb), fun F hb hk => h.fact _ F hk (hd.1 hb) hs⟩, depsPF_of h hs hd.2⟩
theorem KnownP.add {L : Nat → Bool} {x : Nat → Value} {V V' : World} (h : KnownP ks s ags C D L x V) {i : Nat} {v : Value} (hi : i ≠ s) (hB : L s = false → Below V.heap.size V V' ∧ C V') (hD : L s = true → D V')
    (hv : ∀ u, valP (kindP ks i) = some u → v = u) (hf : ∀ F, kindP ks i = .fact F → L s = false → F.holds v V') : KnownP ks s ags C D (setL L i) (setX x i v) V' := by
  have hs : setL L i s = L s := setL_other (fun e => hi e.symm)
  refine ⟨fun j u hj hl => ?_, fun j F hj hl hz => ?_, fun hz => (hB (by rwa [hs] at hz)).2, fun hz => hD (by rwa [hs] at hz), fun hz => depsI_more (h.first (by rwa [hs] at hz))⟩
  · by_cases e : j = i
    · subst e; rw [setX_same]; exact hv u hj
    · rw [setX_other _ e]; rw [setL_other e] at hl; exact h.val j u hj hl
  · rw [hs] at hz
    by_cases e : j = i
    · subst e; rw [setX_same]; exact hf F hj hz
    · rw [setX_other _ e]; rw [setL_other e] at hl
      exact F.keep _ _ _ (h.fact j F hj hl hz) (hB hz).1
theorem ObI.of_P (hkB : kindsPB ks s ags = true) {i : Nat} {o : Oper} (has : i = s → o.after.toList = ags) (h : ObP P ops fr ks C D i o) : ObI P ops fr (KnownP ks s ags C D) i o := by
  obtain ⟨hput, hob⟩ := h
  unfold kindsPB at hkB
  rw [Bool.and_eq_true] at hkB
  obtain ⟨hks, hall⟩ := hkB
  refine ⟨hput, fun L x V hK hL hd => ?_⟩
  have hne : isStP (kindP ks i) = false → i ≠ s := fun h0 e => by rw [e, hks] at h0; cases h0
  have hah : aheadP (kindP ks i) = true → L s = false := fun h0 => by
    have hlt : i < ks.length := kindP_lt (fun v e => by rw [e] at h0; cases h0)
    have h1 := (List.all_eq_true.1 hall) i (List.mem_range.2 hlt)
    rw [Bool.and_eq_true, h0] at h1
    cases hz : L s with
    | false => rfl
    | true => have := depsI_waits (hK.first hz) (by simpa using h1.2); rw [hL] at this; cases this
  cases hkd : kindP ks i with
  | val v =>
    rw [hkd] at hob
    have hz := hah (by rw [hkd]; rfl)
    have hi := hne (by rw [hkd]; rfl)
    have h1 := hob x V (hK.pre hz) (depsPF_of hK hz hd)
    split at h1
    · rename_i hw
      rw [if_pos hw]
      exact leadsP_mono h1 fun u V' ⟨hu, hC, hB⟩ => hK.add hi (fun _ => ⟨hB, hC⟩) (fun h2 => by rw [hz] at h2; cases h2) (fun u' e => by rw [hkd] at e; cases e; exact hu) (fun F e => by rw [hkd] at e; cases e)
    · rename_i hw
      rw [if_neg hw]
      exact hK.add hi (fun _ => ⟨Below.refl _ _, hK.pre hz⟩) (fun h2 => by rw [hz] at h2; cases h2) (fun u' e => by rw [hkd] at e; cases e; exact h1) (fun F e => by rw [hkd] at e; cases e)
  | fact F =>
    rw [hkd] at hob
    have hz := hah (by rw [hkd]; rfl)
    have hi := hne (by rw [hkd]; rfl)
    rw [if_pos (by simp [Region.wanted, hob.1])]
    exact leadsP_mono (hob.2 x V (hK.pre hz) (depsPF_of hK hz hd)) fun u V' ⟨hF, hC, hB⟩ => hK.add hi (fun _ => ⟨hB, hC⟩) (fun h2 => by rw [hz] at h2; cases h2) (fun u' e => by rw [hkd] at e; cases e) (fun F' e _ => by rw [hkd] at e; cases e; exact hF)
  | pure v =>
    rw [hkd] at hob
    have hi := hne (by rw [hkd]; rfl)
    have h1 := hob x V (depsP_of hK hd)
    split at h1
    · rename_i hw
      rw [if_pos hw]
      exact leadsP_mono h1 fun u V' ⟨hu, hV⟩ => hV ▸ hK.add hi (fun h2 => ⟨Below.refl _ _, hK.pre h2⟩) (fun h2 => hK.post h2) (fun u' e => by rw [hkd] at e; cases e; exact hu) (fun F e => by rw [hkd] at e; cases e)
    · rename_i hw
      rw [if_neg hw]
      exact hK.add hi (fun h2 => ⟨Below.refl _ _, hK.pre h2⟩) (fun h2 => hK.post h2) (fun u' e => by rw [hkd] at e; cases e; exact h1) (fun F e => by rw [hkd] at e; cases e)
  | st =>
    rw [hkd] at hob
    have hlt : i < ks.length := kindP_lt (fun v e => by rw [hkd] at e; cases e)
    have hi : i = s := by
      have h1 := (List.all_eq_true.1 hall) i (List.mem_range.2 hlt)
      rw [Bool.and_eq_true, hkd] at h1
      simpa [isStP] using h1.1
    subst hi
    rw [if_pos (by simp [Region.wanted, hob.1])]
    exact leadsP_mono (hob.2 x V (hK.pre hL) (depsPF_of hK hL hd)) fun u V' hD => by
      refine ⟨fun j u hj hl => ?_, fun j F hj hl hz => ?_, fun hz => ?_, fun _ => hD, fun _ => ?_⟩
      · have e : j ≠ i := fun e => by subst e; rw [hkd] at hj; cases hj
        rw [setX_other _ e]; rw [setL_other e] at hl; exact hK.val j u hj hl
      · rw [setL_same] at hz; cases hz
      · rw [setL_same] at hz; cases hz
      · rw [← has rfl]; exact depsI_more hd
theorem obsI_of_P (hkB : kindsPB ks s ags = true) : ∀ {l : List Oper} {k : Nat}, (∀ o, l[s - k]? = some o → k ≤ s → o.after.toList = ags) → ObsP P ops fr ks C D k l → ObsI P ops fr (KnownP ks s ags C D) k l
  | [], _, _, _ => trivial
  | o :: r, k, hs, h => ⟨ObI.of_P hkB (fun e => hs o (by rw [← e, Nat.sub_self]; rfl) (by omega)) h.1, obsI_of_P hkB (l := r) (fun o' ho hk => hs o' (by rw [show s - k = (s - (k + 1)) + 1 by omega]; exact ho) (by omega)) h.2⟩
theorem wp_region_P {id : Nat} {Q : Exit → Act → World → Prop} {l : List Oper} {a : Act} {w : World} (C D : World → Prop) (s : Nat) (ags : List Edge) (ks : List KindP) (fr : (Nat → Value) → Act) (x : Nat → Value) (hm : P.follows .mixedOrders = true) (ha : a = fr x)
    (hn : s < l.length) (hs : (l[s]?).map (fun o => o.after.toList) = some ags) (hk : kindsPB ks s ags = true) (hlow : low2B 0 l = true) (hC : C w.drew) (hob : ObsP P l.toArray fr ks C D 0 l)
    (hK : ∀ x V, D V → (∀ i v, i < l.length → valP (kindP ks i) = some v → x i = v) → wpList P l.toArray Q [] (fr x) V) : (Code.region id l.toArray true).wp P Q a w :=
  wp_region_I (KnownP ks s ags C D) fr x hm ha hlow
    ⟨(fun _ _ _ h => by cases h), (fun _ _ _ h => by cases h), (fun _ => hC), (fun h => by cases h), (fun h => by cases h)⟩
    (obsI_of_P hk (fun o ho _ => by
      rw [Nat.sub_zero] at ho
      rw [ho] at hs
      exact Option.some.inj hs) hob)
    fun L x V hL hKn => hK x V (hKn.post (hL s hn)) fun i v hi hv => hKn.val i v hv (hL i hi)
/-! How an operation's share is paid. -/
theorem ObP.of_val {i : Nat} {o : Oper} {v : Value} (hk : kindP ks i = .val v) (hp : ∀ x v, (fr x).put o.dst v = fr (setX x i v))
    (h : ∀ x V, C V → DepsPF ks x V o.after.toList → if Region.wanted o (yielded ops (fr x).tmps) = true then leads P o (fr x) V (fun u V' => u = v ∧ C V' ∧ Below V.heap.size V V') else undef = v) : ObP P ops fr ks C D i o := by
  refine ⟨hp, ?_⟩
  rw [hk]; exact h
theorem ObP.of_fact {i : Nat} {o : Oper} {F : Fact} (hk : kindP ks i = .fact F) (hp : ∀ x v, (fr x).put o.dst v = fr (setX x i v)) (hg : o.guard = none)
    (h : ∀ x V, C V → DepsPF ks x V o.after.toList → leads P o (fr x) V (fun u V' => F.holds u V' ∧ C V' ∧ Below V.heap.size V V')) : ObP P ops fr ks C D i o := by
  refine ⟨hp, ?_⟩
  rw [hk]; exact ⟨hg, h⟩
theorem ObP.of_st {i : Nat} {o : Oper} (hk : kindP ks i = .st) (hp : ∀ x v, (fr x).put o.dst v = fr (setX x i v)) (hg : o.guard = none)
    (h : ∀ x V, C V → DepsPF ks x V o.after.toList → leads P o (fr x) V (fun _ V' => D V')) : ObP P ops fr ks C D i o := by
  refine ⟨hp, ?_⟩
  rw [hk]; exact ⟨hg, h⟩
end
end Go.Proofs.YtfhjmhmgkdadhaaDoor

/-
  A region that draws its order, where operations have known values, or make blocks of which a fact is known, or make blocks into which others store: in whatever order the edges that bind allow.
-/
import Derived.Test.YtimbhamdblganaaWRegI
import Derived.Test.YtimbhamdblganaaWBlk
/-! RegN -/
namespace Go.Proofs.Ytimbhamdblganaa
open Go.RowKit

theorem leadsN_mono {P : Program} {o : Oper} {a : Act} {w : World} {R R' : Value → World → Prop} (h : leads P o a w R) (hR : ∀ v w', R v w' → R' v w') : leads P o a w R' := by
  unfold leads at *
  generalize (execOp a.eval o).run P w = r at *
  cases r with
  | ok n w' =>
    cases n <;> simp only at h ⊢ <;> first | exact hR _ _ h | exact h.mono (fun e w'' he => by obtain ⟨v, h1, h2⟩ := he; exact ⟨v, h1, hR _ _ h2⟩) | exact h.elim
  | halt x w' => exact h
/-- What is known of a value that leads to a block, and stays known where that block stays. -/
structure FactN where
  holds : Value → World → Prop
  keep : ∀ (S : Nat → Prop) v V V', holds v V → Chg S V V' → ¬ S (blkOf v) → holds v V'
inductive KindN where
  | val (v : Value)
  | fact (F : FactN)
  | mk (o : Obj) (s : Nat) (o' : Obj)
  | st (a : Nat)
def kindN (ks : List KindN) (i : Nat) : KindN := ks.getD i (.val undef)
/-- Does it make a block? -/
def newN : KindN → Bool
  | .fact _ => true
  | .mk _ _ _ => true
  | _ => false
def kindsNB (ks : List KindN) : Bool := (List.range ks.length).all fun i =>
  match kindN ks i with
  | .mk _ s _ => (match kindN ks s with | .st a => a == i | _ => false)
  | .st a => (match kindN ks a with | .mk _ s _ => s == i | _ => false)
  | _ => true
def DepsN (ks : List KindN) (x : Nat → Value) (V : World) : List Edge → Prop
  | [] => True
  | e :: r => ((∀ v, Region.binds .any e = true → kindN ks e.on = .val v → x e.on = v) ∧ (∀ F, Region.binds .any e = true → kindN ks e.on = .fact F → F.holds (x e.on) V)) ∧ DepsN ks x V r
structure KnownN (ks : List KindN) (W0 : World) (L : Nat → Bool) (x : Nat → Value) (V : World) : Prop where
  below : Below W0.heap.size W0 V
  val : ∀ i v, kindN ks i = .val v → L i = true → x i = v
  fact : ∀ i F, kindN ks i = .fact F → L i = true → F.holds (x i) V
  made : ∀ i ob s ob', kindN ks i = .mk ob s ob' → L i = true → x i = .pointer (some ⟨blkOf (x i), 0, none⟩) ∧ V.heap[blkOf (x i)]? = some (if L s then ob' else ob)
  inn : ∀ i, newN (kindN ks i) = true → L i = true → W0.heap.size ≤ blkOf (x i) ∧ blkOf (x i) < V.heap.size
  apart : ∀ i j, newN (kindN ks i) = true → newN (kindN ks j) = true → L i = true → L j = true → i ≠ j → blkOf (x i) ≠ blkOf (x j)
  first : ∀ i a, kindN ks i = .st a → L i = true → L a = true
def ObN (P : Program) (ops : Array Oper) (fr : (Nat → Value) → Act) (ks : List KindN) (W0 : World) (i : Nat) (o : Oper) : Prop :=
  (∀ x v, (fr x).put o.dst v = fr (setX x i v)) ∧
  match kindN ks i with
  | .val v => ∀ x V, Below W0.heap.size W0 V → DepsN ks x V o.after.toList → if Region.wanted o (yielded ops (fr x).tmps) = true then leads P o (fr x) V (fun u V' => u = v ∧ Below V.heap.size V V') else undef = v
  | .fact F => o.guard = none ∧ ∀ x V, Below W0.heap.size W0 V → DepsN ks x V o.after.toList → leads P o (fr x) V (fun u V' => Below V.heap.size V V' ∧ F.holds u V' ∧ V.heap.size ≤ blkOf u ∧ blkOf u < V'.heap.size)
  | .mk ob _ _ => o.guard = none ∧ ∀ x V, leads P o (fr x) V (fun u V' => u = .pointer (some ⟨V.heap.size, 0, none⟩) ∧ Below V.heap.size V V' ∧ V.heap.size < V'.heap.size ∧ V'.heap[V.heap.size]? = some ob)
  | .st a => o.guard = none ∧ (o.after.any fun e => Region.binds .any e && e.on == a) = true ∧
    match kindN ks a with
    | .mk ob _ ob' => ∀ x V g, Below W0.heap.size W0 V → x a = .pointer (some ⟨g, 0, none⟩) → V.heap[g]? = some ob → DepsN ks x V o.after.toList → leads P o (fr x) V (fun _ V' => PutB V V' g ob')
    | _ => False
def ObsN (P : Program) (ops : Array Oper) (fr : (Nat → Value) → Act) (ks : List KindN) (W0 : World) : Nat → List Oper → Prop
  | _, [] => True
  | k, o :: r => ObN P ops fr ks W0 k o ∧ ObsN P ops fr ks W0 (k + 1) r

theorem kindN_lt {ks : List KindN} {i : Nat} (h : ∀ v, kindN ks i ≠ .val v) : i < ks.length := by
  rcases Nat.lt_or_ge i ks.length with h1 | h1
  · exact h1
  · exact absurd (show kindN ks i = .val undef by unfold kindN; simp [List.getD_eq_getElem?_getD, List.getElem?_eq_none h1]) (h undef)
theorem kindsN_mk {ks : List KindN} (hk : kindsNB ks = true) {i s : Nat} {ob ob' : Obj} (h : kindN ks i = .mk ob s ob') : kindN ks s = .st i := by
  have hi := kindN_lt (ks := ks) (i := i) (by rw [h]; intro v hv; cases hv)
  have h1 := (List.all_eq_true.1 hk) i (List.mem_range.2 hi)
  rw [h] at h1
  simp only at h1
  cases hs : kindN ks s with
  | st a => rw [hs] at h1; simp only [beq_iff_eq] at h1; rw [h1]
  | val _ => rw [hs] at h1; cases h1
  | fact _ => rw [hs] at h1; cases h1
  | mk _ _ _ => rw [hs] at h1; cases h1
theorem kindsN_st {ks : List KindN} (hk : kindsNB ks = true) {i a : Nat} (h : kindN ks i = .st a) : ∃ ob ob', kindN ks a = .mk ob i ob' := by
  have hi := kindN_lt (ks := ks) (i := i) (by rw [h]; intro v hv; cases hv)
  have h1 := (List.all_eq_true.1 hk) i (List.mem_range.2 hi)
  rw [h] at h1
  simp only at h1
  cases hs : kindN ks a with
  | mk ob s ob' => rw [hs] at h1; simp only [beq_iff_eq] at h1; exact ⟨ob, ob', by rw [h1]⟩
  | val _ => rw [hs] at h1; cases h1
  | fact _ => rw [hs] at h1; cases h1
  | st _ => rw [hs] at h1; cases h1
section
variable {P : Program} {ops : Array Oper} {fr : (Nat → Value) → Act} {ks : List KindN} {W0 : World}

theorem depsN_of {L : Nat → Bool} {x : Nat → Value} {V : World} (h : KnownN ks W0 L x V) : ∀ {es : List Edge}, DepsI L es → DepsN ks x V es
  | [], _ => trivial
  | _ :: _, hd => ⟨⟨fun v hb hk => h.val _ v hk (hd.1 hb), fun F hb hk => h.fact _ F hk (hd.1 hb)⟩, depsN_of h hd.2⟩
theorem dep_on {L : Nat → Bool} {a : Nat} : ∀ {es : List Edge}, DepsI L es → (∃ e ∈ es, Region.binds .any e = true ∧ e.on = a) → L a = true
  | [], _, ⟨_, h, _⟩ => by cases h
  | e :: r, hd, ⟨e', he, hb, ho⟩ => by
    rcases List.mem_cons.1 he with rfl | he
    · rw [← ho]; exact hd.1 hb
    · exact dep_on hd.2 ⟨e', he, hb, ho⟩
/-- An operation that only adds to memory. -/
theorem KnownN.add (hkB : kindsNB ks = true) {L : Nat → Bool} {x : Nat → Value} {V V' : World} (h : KnownN ks W0 L x V) {i : Nat} {v : Value} (hs : ∀ a, kindN ks i ≠ .st a) (hL : L i = false) (hB : Below V.heap.size V V')
    (hv : ∀ u, kindN ks i = .val u → v = u) (hf : ∀ F, kindN ks i = .fact F → F.holds v V') (hm : ∀ ob s ob', kindN ks i = .mk ob s ob' → v = .pointer (some ⟨blkOf v, 0, none⟩) ∧ V'.heap[blkOf v]? = some ob)
    (hn : newN (kindN ks i) = true → V.heap.size ≤ blkOf v ∧ blkOf v < V'.heap.size) : KnownN ks W0 (setL L i) (setX x i v) V' := by
  have hc := Chg.ofBelow (S := fun _ => False) hB
  have hb0 := h.below.size
  refine ⟨h.below.trans (hB.mono h.below.size), fun j u hj hl => ?_, fun j F hj hl => ?_, fun j ob s ob' hj hl => ?_, fun j hj hl => ?_, fun j k hj hk hl hm hjk => ?_, fun j a hj hl => ?_⟩
  · by_cases e : j = i
    · subst e; rw [setX_same]; exact hv u hj
    · rw [setX_other _ e]; rw [setL_other e] at hl; exact h.val j u hj hl
  · by_cases e : j = i
    · subst e; rw [setX_same]; exact hf F hj
    · rw [setL_other e] at hl; rw [setX_other _ e]
      exact F.keep _ _ _ _ (h.fact j F hj hl) hc (fun h => h)
  · have es : s ≠ i := fun e => hs j (by have := kindsN_mk hkB hj; rwa [e] at this)
    rw [setL_other es]
    by_cases e : j = i
    · subst e
      rw [setX_same]
      obtain ⟨h1, h2⟩ := hm ob s ob' hj
      refine ⟨h1, ?_⟩
      cases hLs : L s with
      | true => have := h.first s j (kindsN_mk hkB hj) hLs; rw [hL] at this; cases this
      | false => exact h2
    · rw [setL_other e] at hl; rw [setX_other _ e]
      obtain ⟨h1, h2⟩ := h.made j ob s ob' hj hl
      refine ⟨h1, ?_⟩
      rw [hB.block _ (h.inn j (by rw [hj]; rfl) hl).2, h2]
  · by_cases e : j = i
    · subst e; rw [setX_same]
      obtain ⟨h1, h2⟩ := hn hj
      exact ⟨by omega, h2⟩
    · rw [setL_other e] at hl; rw [setX_other _ e]
      obtain ⟨h1, h2⟩ := h.inn j hj hl
      exact ⟨h1, Nat.lt_of_lt_of_le h2 hB.size⟩
  · by_cases e : j = i
    · subst e
      have e2 : k ≠ j := fun e => hjk e.symm
      rw [setL_other e2] at hm; rw [setX_same, setX_other _ e2]
      have h1 := (hn hj).1
      have h2 := (h.inn k hk hm).2
      omega
    · by_cases e2 : k = i
      · subst e2
        rw [setL_other e] at hl; rw [setX_same, setX_other _ e]
        have h1 := (hn hk).1
        have h2 := (h.inn j hj hl).2
        omega
      · rw [setL_other e] at hl; rw [setL_other e2] at hm; rw [setX_other _ e, setX_other _ e2]
        exact h.apart j k hj hk hl hm hjk
  · have e : j ≠ i := fun e => hs a (by rw [← e]; exact hj)
    rw [setL_other e] at hl
    have := h.first j a hj hl
    unfold setL; split
    · rfl
    · exact this
/-- An operation that stores into a block that another made. -/
theorem KnownN.store (hkB : kindsNB ks = true) {L : Nat → Bool} {x : Nat → Value} {V V' : World} (h : KnownN ks W0 L x V) {i a : Nat} {ob ob' : Obj} {v : Value} (hi : kindN ks i = .st a) (ha : kindN ks a = .mk ob i ob') (hLa : L a = true) (hp : PutB V V' (blkOf (x a)) ob') : KnownN ks W0 (setL L i) (setX x i v) V' := by
  have hc : Chg (fun k => k = blkOf (x a)) V V' := ⟨hp.os, hp.tape, hp.output, by rw [hp.size]; exact Nat.le_refl _, fun k _ hk => hp.other k hk⟩
  have hna : newN (kindN ks a) = true := by rw [ha]; rfl
  have hne : ∀ {j : Nat}, newN (kindN ks j) = true → j ≠ i := fun hj e => by subst e; rw [hi] at hj; cases hj
  refine ⟨h.below.trans (hp.below (h.inn a hna hLa).1), fun j u hj hl => ?_, fun j F hj hl => ?_, fun j qb s qb' hj hl => ?_, fun j hj hl => ?_, fun j k hj hk hl hm hjk => ?_, fun j b hj hl => ?_⟩
  · have e : j ≠ i := fun e => by subst e; rw [hi] at hj; cases hj
    rw [setX_other _ e]; rw [setL_other e] at hl; exact h.val j u hj hl
  · have hn : newN (kindN ks j) = true := by rw [hj]; rfl
    have e := hne hn
    rw [setL_other e] at hl; rw [setX_other _ e]
    exact F.keep _ _ _ _ (h.fact j F hj hl) hc (h.apart j a hn hna hl hLa (fun e => by subst e; rw [ha] at hj; cases hj))
  · have hn : newN (kindN ks j) = true := by rw [hj]; rfl
    have e := hne hn
    rw [setL_other e] at hl; rw [setX_other _ e]
    obtain ⟨h1, h2⟩ := h.made j qb s qb' hj hl
    refine ⟨h1, ?_⟩
    by_cases ej : j = a
    · subst ej
      rw [ha] at hj
      cases hj
      rw [setL_same]; exact hp.new
    · have es : s ≠ i := fun e => ej (by have h3 := kindsN_mk hkB hj; rw [e, hi] at h3; cases h3; rfl)
      rw [setL_other es, hp.other _ (h.apart j a hn hna hl hLa ej), h2]
  · have e := hne hj
    rw [setL_other e] at hl; rw [setX_other _ e, hp.size]
    exact h.inn j hj hl
  · have e := hne hj
    have e2 := hne hk
    rw [setL_other e] at hl; rw [setL_other e2] at hm; rw [setX_other _ e, setX_other _ e2]
    exact h.apart j k hj hk hl hm hjk
  · by_cases e : j = i
    · subst e
      rw [hi] at hj; cases hj
      unfold setL; split
      · rfl
      · exact hLa
    · rw [setL_other e] at hl
      have := h.first j b hj hl
      unfold setL; split
      · rfl
      · exact this
theorem ObI.of_N (hkB : kindsNB ks = true) {i : Nat} {o : Oper} (h : ObN P ops fr ks W0 i o) : ObI P ops fr (KnownN ks W0) i o := by
  obtain ⟨hput, hob⟩ := h
  refine ⟨hput, fun L x V hK hL hd => ?_⟩
  cases hkd : kindN ks i with
  | val v =>
    rw [hkd] at hob
    have h1 := hob x V hK.below (depsN_of hK hd)
    split at h1
    · rename_i hw
      rw [if_pos hw]
      exact leadsN_mono h1 fun u V' ⟨hu, hB⟩ => hK.add hkB (by rw [hkd]; intro a e; cases e) hL hB (fun u' e => by rw [hkd] at e; cases e; exact hu) (fun F e => by rw [hkd] at e; cases e) (fun _ _ _ e => by rw [hkd] at e; cases e) (fun e => by rw [hkd] at e; cases e)
    · rename_i hw
      rw [if_neg hw]
      exact hK.add hkB (by rw [hkd]; intro a e; cases e) hL (Below.refl _ _) (fun u' e => by rw [hkd] at e; cases e; exact h1) (fun F e => by rw [hkd] at e; cases e) (fun _ _ _ e => by rw [hkd] at e; cases e) (fun e => by rw [hkd] at e; cases e)
  | fact F =>
    rw [hkd] at hob
    rw [if_pos (by simp [Region.wanted, hob.1])]
    exact leadsN_mono (hob.2 x V hK.below (depsN_of hK hd)) fun u V' ⟨hB, hF, h1, h2⟩ => hK.add hkB (by rw [hkd]; intro a e; cases e) hL hB (fun u' e => by rw [hkd] at e; cases e) (fun F e => by rw [hkd] at e; cases e; exact hF) (fun _ _ _ e => by rw [hkd] at e; cases e) (fun _ => ⟨h1, h2⟩)
  | mk ob s ob' =>
    rw [hkd] at hob
    rw [if_pos (by simp [Region.wanted, hob.1])]
    exact leadsN_mono (hob.2 x V) fun u V' ⟨hu, hB, h1, h2⟩ => hK.add hkB (by rw [hkd]; intro a e; cases e) hL hB (fun u' e => by rw [hkd] at e; cases e) (fun F e => by rw [hkd] at e; cases e) (fun _ _ _ e => by rw [hkd] at e; cases e; subst hu; exact ⟨rfl, h2⟩) (fun _ => by subst hu; exact ⟨Nat.le_refl _, h1⟩)
  | st a =>
    rw [hkd] at hob
    obtain ⟨hg, hea, h2⟩ := hob
    obtain ⟨ob, ob', hma⟩ := kindsN_st hkB hkd
    rw [hma] at h2
    have hLa : L a = true := dep_on hd (by
      obtain ⟨e, he, hb⟩ := Array.any_eq_true'.1 hea
      simp only [Bool.and_eq_true, beq_iff_eq] at hb
      exact ⟨e, by simpa using he, hb.1, hb.2⟩)
    obtain ⟨h3, h4⟩ := hK.made a ob i ob' hma hLa
    rw [hL] at h4
    rw [if_pos (by simp [Region.wanted, hg])]
    exact leadsN_mono (h2 x V _ hK.below h3 (by simpa using h4) (depsN_of hK hd)) fun u V' hp => hK.store hkB hkd hma hLa hp
theorem obsI_of_N (hkB : kindsNB ks = true) : ∀ {l : List Oper} {k : Nat}, ObsN P ops fr ks W0 k l → ObsI P ops fr (KnownN ks W0) k l
  | [], _, _ => trivial
  | _ :: _, _, h => ⟨ObI.of_N hkB h.1, obsI_of_N hkB h.2⟩
theorem wp_region_N {id : Nat} {Q : Exit → Act → World → Prop} {l : List Oper} {a : Act} {w : World} (ks : List KindN) (fr : (Nat → Value) → Act) (x : Nat → Value) (hm : P.follows .mixedOrders = true) (ha : a = fr x)
    (_hn : ks.length = l.length) (hk : kindsNB ks = true) (hlow : low2B 0 l = true) (hob : ObsN P l.toArray fr ks w.drew 0 l)
    (hK : ∀ L x V, (∀ i, i < l.length → L i = true) → KnownN ks w.drew L x V → wpList P l.toArray Q [] (fr x) V) : (Code.region id l.toArray true).wp P Q a w :=
  wp_region_I (KnownN ks w.drew) fr x hm ha hlow
    ⟨Below.refl _ _, (fun _ _ _ h => by cases h), (fun _ _ _ h => by cases h), (fun _ _ _ _ _ h => by cases h), (fun _ _ h => by cases h), (fun _ _ _ _ h => by cases h), (fun _ _ _ h => by cases h)⟩
    (obsI_of_N hk hob) hK
/-! How an operation's share is paid. -/
theorem ObN.of_val {i : Nat} {o : Oper} {v : Value} (hk : kindN ks i = .val v) (hp : ∀ x v, (fr x).put o.dst v = fr (setX x i v))
    (h : ∀ x V, Below W0.heap.size W0 V → DepsN ks x V o.after.toList → if Region.wanted o (yielded ops (fr x).tmps) = true then leads P o (fr x) V (fun u V' => u = v ∧ Below V.heap.size V V') else undef = v) : ObN P ops fr ks W0 i o := by
  refine ⟨hp, ?_⟩
  rw [hk]; exact h
theorem ObN.of_mk {i s : Nat} {o : Oper} {ob ob' : Obj} (hk : kindN ks i = .mk ob s ob') (hp : ∀ x v, (fr x).put o.dst v = fr (setX x i v)) (hg : o.guard = none)
    (h : ∀ x V, leads P o (fr x) V (fun u V' => u = .pointer (some ⟨V.heap.size, 0, none⟩) ∧ Below V.heap.size V V' ∧ V.heap.size < V'.heap.size ∧ V'.heap[V.heap.size]? = some ob)) : ObN P ops fr ks W0 i o := by
  refine ⟨hp, ?_⟩
  rw [hk]; exact ⟨hg, h⟩
theorem ObN.of_st {i a s : Nat} {o : Oper} {ob ob' : Obj} (hk : kindN ks i = .st a) (hm : kindN ks a = .mk ob s ob') (hp : ∀ x v, (fr x).put o.dst v = fr (setX x i v)) (hg : o.guard = none) (he : (o.after.any fun e => Region.binds .any e && e.on == a) = true)
    (h : ∀ x V g, Below W0.heap.size W0 V → x a = .pointer (some ⟨g, 0, none⟩) → V.heap[g]? = some ob → DepsN ks x V o.after.toList → leads P o (fr x) V (fun _ V' => PutB V V' g ob')) : ObN P ops fr ks W0 i o := by
  refine ⟨hp, ?_⟩
  rw [hk]
  refine ⟨hg, he, ?_⟩
  rw [hm]; exact h
end
end Go.Proofs.Ytimbhamdblganaa

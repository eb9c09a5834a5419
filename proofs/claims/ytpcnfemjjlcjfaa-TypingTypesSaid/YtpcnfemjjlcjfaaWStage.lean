/-
  A region that draws its order, where some calls come one behind the other and each changes what is known of memory, while all else only reads what none of them changes: each operation is met once. C k is what is known of memory behind k of these calls.
-/
import Derived.Test.YtpcnfemjjlcjfaaWInvM
/-! Stage -/
namespace Go.Proofs.Ytpcnfemjjlcjfaa
open Go.RowKit

/-- What an operation does: it has this value and leaves what is known as it is; it is call number k of those that change memory, and has this value. -/
inductive Turn where
  | val (v : Value)
  | turn (k : Nat) (v : Value)
def Turn.value : Turn → Value
  | .val v => v
  | .turn _ v => v
def turnAt (ks : List Turn) (i : Nat) : Turn := ks.getD i (.val undef)
/-- Each turn but the first waits for the one before; no two are the same. -/
def turnsB (ks : List Turn) (l : List Oper) : Bool := (List.range ks.length).all fun i =>
  match turnAt ks i with
  | .val _ => true
  | .turn k _ => (k == 0 || (match l[i]? with | some o => o.after.any (fun e => Region.binds .any e && (match turnAt ks e.on with | .turn m _ => m + 1 == k | _ => false)) | none => false)) &&
      (List.range ks.length).all fun j => match turnAt ks j with | .turn m _ => m != k || i == j | _ => true
def DepsT (ks : List Turn) (x : Nat → Value) : List Edge → Prop
  | [] => True
  | e :: r => (Region.binds .any e = true → x e.on = (turnAt ks e.on).value) ∧ DepsT ks x r
def ObS (P : Program) (ops : Array Oper) (fr : (Nat → Value) → Act) (C : Nat → World → Prop) (ks : List Turn) (i : Nat) (o : Oper) : Prop :=
  (∀ x v, (fr x).put o.dst v = fr (setX x i v)) ∧
  match turnAt ks i with
  | .val v => ∀ x V k, C k V → DepsT ks x o.after.toList → if Region.wanted o (yielded ops (fr x).tmps) = true then leads P o (fr x) V (fun u V' => u = v ∧ C k V') else undef = v
  | .turn k v => ∀ x V, C k V → DepsT ks x o.after.toList → if Region.wanted o (yielded ops (fr x).tmps) = true then leads P o (fr x) V (fun u V' => u = v ∧ C (k + 1) V') else False
def ObsS (P : Program) (ops : Array Oper) (fr : (Nat → Value) → Act) (C : Nat → World → Prop) (ks : List Turn) : Nat → List Oper → Prop
  | _, [] => True
  | k, o :: r => ObS P ops fr C ks k o ∧ ObsS P ops fr C ks (k + 1) r

structure KnownS (C : Nat → World → Prop) (ks : List Turn) (L : Nat → Bool) (s : Nat) (x : Nat → Value) (V : World) : Prop where
  now : C s V
  val : ∀ i, i < ks.length → L i = true → x i = (turnAt ks i).value
  done : ∀ i k v, i < ks.length → turnAt ks i = .turn k v → (L i = true ↔ k < s)

theorem depsT_of {ks : List Turn} {x : Nat → Value} : ∀ {es : List Edge}, (∀ e ∈ es, Region.binds .any e = true → x e.on = (turnAt ks e.on).value) → DepsT ks x es
  | [], _ => trivial
  | e :: r, h => ⟨h e (by simp), depsT_of (es := r) fun e' he => h e' (List.mem_cons_of_mem _ he)⟩

section
variable {P : Program} {ops : Array Oper} {fr : (Nat → Value) → Act} {C : Nat → World → Prop} {ks : List Turn}

theorem ObsS.at : ∀ {l : List Oper} {k : Nat}, ObsS P ops fr C ks k l → ∀ i o, l[i]? = some o → ObS P ops fr C ks (k + i) o
  | [], _, _, i, o, h => by simp at h
  | o' :: r, k, h, 0, o, hi => by simp at hi; subst hi; exact h.1
  | o' :: r, k, h, i + 1, o, hi => by
    have := ObsS.at (l := r) h.2 i o (by simpa using hi)
    rw [show k + (i + 1) = k + 1 + i by omega]; exact this

theorem turns_at {l : List Oper} (h : turnsB ks l = true) {i k : Nat} {v : Value} (hi : i < ks.length) (hk : turnAt ks i = .turn k v) :
    (k = 0 ∨ ∃ o, l[i]? = some o ∧ ∃ e ∈ o.after, Region.binds .any e = true ∧ ∃ m u, turnAt ks e.on = .turn m u ∧ m + 1 = k) ∧ ∀ j m u, j < ks.length → turnAt ks j = .turn m u → m = k → i = j := by
  have h0 := List.all_eq_true.1 h i (List.mem_range.2 hi)
  simp only [hk, Bool.and_eq_true, Bool.or_eq_true, beq_iff_eq] at h0
  obtain ⟨h1, h2⟩ := h0
  refine ⟨?_, fun j m u hj hm e => ?_⟩
  · rcases h1 with h1 | h1
    · exact .inl h1
    · right
      split at h1
      · rename_i o ho
        obtain ⟨e, he, hb⟩ := Array.any_eq_true'.1 h1
        simp only [Bool.and_eq_true] at hb
        refine ⟨o, ho, e, he, hb.1, ?_⟩
        have hb2 := hb.2
        split at hb2
        · rename_i m u hm
          exact ⟨m, u, hm, by simpa using hb2⟩
        · cases hb2
      · cases h1
  · have h3 := List.all_eq_true.1 h2 j (List.mem_range.2 hj)
    simp only [hm] at h3
    subst e
    simpa using h3

theorem wpAny_of_S {Q : Exit → Act → World → Prop} {l : List Oper} (hl : ops = l.toArray) (hn : ks.length = l.length) (hk : turnsB ks l = true) (hlow : low2B 0 l = true) (hob : ObsS P ops fr C ks 0 l) (m : Nat)
    (hm : ((List.range ks.length).all fun i => match turnAt ks i with | .turn k _ => decide (k < m) | _ => true) = true) (hm2 : ((List.range m).all fun k => (List.range ks.length).any fun i => match turnAt ks i with | .turn q _ => q == k | _ => false) = true)
    (hK : ∀ x V, C m V → (∀ i, i < ks.length → x i = (turnAt ks i).value) → Q .normal (fr x) V) :
    ∀ (f : Nat) (listed : Array Bool) (s : Nat) (x : Nat → Value) (V : World), listed.size = l.length → leftN l.length listed = f → s ≤ m → KnownS C ks (fun i => listed.getD i false) s x V → wpAny P .any ops Q f listed (fr x) V := by
  have hsz : ops.size = l.length := by rw [hl]; simp
  have hat : ∀ i : Nat, ops[i]? = l[i]? := fun i => by rw [hl]; simp
  have hboth : ∀ (listed : Array Bool) i, listed.size = l.length → i < l.length → listed.getD i true = listed.getD i false := by
    intro listed i hs hi
    have hb : i < listed.size := by omega
    simp [Array.getD, hb]
  intro f
  induction f with
  | zero =>
    intro listed s x V hs hle hsm hF
    have h1 : ∀ i, i < l.length → listed.getD i true = true := by
      intro i hi
      have h0 : ((List.range l.length).filter fun i => !listed.getD i true) = [] := List.eq_nil_of_length_eq_zero hle
      have := (List.filter_eq_nil_iff.1 h0) i (List.mem_range.2 hi)
      simpa using this
    have hsm' : s = m := by
      rcases Nat.lt_or_ge s m with h | h
      · exfalso
        have h2 := List.all_eq_true.1 hm2 s (List.mem_range.2 h)
        obtain ⟨i, hi, hq⟩ := List.any_eq_true.1 h2
        have hi' := List.mem_range.1 hi
        split at hq
        · rename_i q v hv
          have hq' : q = s := by simpa using hq
          have := (hF.done i q v hi' hv).1 (by rw [← hboth listed i hs (by omega)]; exact h1 i (by omega))
          omega
        · cases hq
      · omega
    subst hsm'
    refine ⟨?_, hK x V hF.now fun i hi => hF.val i hi (by rw [← hboth listed i hs (by omega)]; exact h1 i (by omega))⟩
    unfold Region.ready
    rw [List.filter_eq_nil_iff]
    intro i hi
    rw [hsz] at hi
    rw [h1 i (List.mem_range.1 hi)]; simp
  | succ f ih =>
    intro listed s x V hs hle hsm hF
    have hne : Region.ready .any ops listed ≠ [] := by
      intro hr
      have hempty : ∀ i, i < l.length → listed.getD i true = true := by
        intro i
        induction i using Nat.strongRecOn with
        | _ i ihh =>
          intro hi
          cases hc : listed.getD i true with
          | true => rfl
          | false =>
            exfalso
            have hmem : i ∈ Region.ready .any ops listed := by
              rw [mem_ready]
              refine ⟨hc, l[i], by rw [hat]; exact List.getElem?_eq_getElem hi, ?_⟩
              intro e he hb
              have h1 := low2B_at hlow i l[i] (List.getElem?_eq_getElem hi) e he hb
              have h2 := ihh e.on (by omega) (by omega)
              rw [← hboth listed e.on hs (by omega)]; exact h2
            rw [hr] at hmem
            cases hmem
      have h0 : leftN l.length listed = 0 := by
        unfold leftN
        rw [List.length_eq_zero_iff, List.filter_eq_nil_iff]
        intro i hi
        rw [hempty i (List.mem_range.1 hi)]; simp
      omega
    refine ⟨fun hr => absurd hr hne, fun i hi => ?_⟩
    obtain ⟨hun, o, ho, hdeps⟩ := mem_ready.1 hi
    have hol : l[i]? = some o := by rw [← hat]; exact ho
    have him : i < l.length := (List.getElem?_eq_some_iff.1 hol).1
    have hob1 := hob.at i o hol
    rw [Nat.zero_add] at hob1
    have hib : i < listed.size := by omega
    have hunf : listed.getD i false = false := by rw [← hboth listed i hs him]; exact hun
    have hset : ∀ j, (listed.setIfInBounds i true).getD j false = if j = i then true else listed.getD j false := fun j => getD_set hib
    have hleft : leftN l.length (listed.setIfInBounds i true) = f := by
      have := filter_one (p := fun j => !listed.getD j true) (q := fun j => !(listed.setIfInBounds i true).getD j true) (i := i) (fun j => by
        rw [getD_set hib]
        by_cases e : j = i
        · simp [e]
        · simp [e]) (by rw [hun]; rfl) List.nodup_range (List.mem_range.2 him)
      unfold leftN at hle ⊢
      omega
    have hd : DepsT ks x o.after.toList := depsT_of fun e he hb => by
      have h1 := low2B_at hlow i o hol e (by simpa using he) hb
      exact hF.val e.on (by omega) (hdeps e (by simpa using he) hb)
    have hval : ∀ v, v = (turnAt ks i).value → ∀ j, j < ks.length → (listed.setIfInBounds i true).getD j false = true → setX x i v j = (turnAt ks j).value := fun v hv j hj hl => by
      rw [hset] at hl
      by_cases e : j = i
      · subst e; rw [setX_same, hv]
      · rw [setX_other _ e]; rw [if_neg e] at hl; exact hF.val j hj hl
    obtain ⟨hput, hob2⟩ := hob1
    unfold wpOp
    rw [ho]
    simp only
    cases hkind : turnAt ks i with
    | val v =>
      rw [hkind] at hob2 hval
      have h2 := hob2 x V s hF.now hd
      have hgo : ∀ V', C s V' → wpAny P .any ops Q f (listed.setIfInBounds i true) (fr (setX x i v)) V' := fun V' hC =>
        ih _ s _ _ (by simp [hs]) hleft hsm ⟨hC, hval v rfl, fun j k u hj hu => by
          have e : j ≠ i := fun e => by subst e; rw [hkind] at hu; cases hu
          rw [hset, if_neg e]; exact hF.done j k u hj hu⟩
      split
      · rename_i hw
        rw [if_pos hw] at h2
        exact .inl (wp_of_leads h2 fun u V' ⟨hu, hB⟩ => by
          subst hu
          rw [hput]
          exact hgo _ hB)
      · rename_i hw
        rw [if_neg hw] at h2
        rw [hput]
        rw [h2]
        exact hgo _ hF.now
    | turn k v =>
      rw [hkind] at hob2 hval
      obtain ⟨ht1, ht2⟩ := turns_at hk (by omega) hkind
      have hks : s ≤ k := by
        rcases Nat.lt_or_ge k s with h | h
        · have := (hF.done i k v (by omega) hkind).2 h
          rw [hunf] at this; cases this
        · exact h
      have hks2 : k ≤ s := by
        rcases ht1 with h | ⟨o', ho', e, he, hb, q, u, hq, hqk⟩
        · omega
        · rw [hol] at ho'; cases ho'
          have h1 := low2B_at hlow i o hol e he hb
          have := (hF.done e.on q u (by omega) hq).1 (hdeps e he hb)
          omega
      have hsk : s = k := by omega
      subst hsk
      have h2 := hob2 x V hF.now hd
      have hsm2 : s < m := by
        have := List.all_eq_true.1 hm i (List.mem_range.2 (by omega))
        simpa only [hkind, decide_eq_true_eq] using this
      split
      · rename_i hw
        rw [if_pos hw] at h2
        exact .inl (wp_of_leads h2 fun u V' ⟨hu, hB⟩ => by
          subst hu
          rw [hput]
          refine ih _ (s + 1) _ _ (by simp [hs]) hleft (by omega) ⟨hB, hval _ rfl, fun j q u hj hu => ?_⟩
          rw [hset]
          by_cases e : j = i
          · subst e; rw [hkind] at hu; cases hu; simp
          · rw [if_neg e, hF.done j q u hj hu]
            have : q ≠ s := fun h => e (ht2 j q u hj hu h).symm
            omega)
      · rename_i hw
        rw [if_neg hw] at h2
        exact h2.elim

theorem wp_region_S {id : Nat} {Q : Exit → Act → World → Prop} {l : List Oper} {a : Act} {w : World} (C : Nat → World → Prop) (m : Nat) (ks : List Turn) (fr : (Nat → Value) → Act) (x : Nat → Value) (hM : P.follows .mixedOrders = true) (ha : a = fr x)
    (hn : ks.length = l.length) (hk : turnsB ks l = true) (hlow : low2B 0 l = true) (hm : ((List.range ks.length).all fun i => match turnAt ks i with | .turn k _ => decide (k < m) | _ => true) = true)
    (hm2 : ((List.range m).all fun k => (List.range ks.length).any fun i => match turnAt ks i with | .turn q _ => q == k | _ => false) = true) (hC : C 0 w.drew) (hob : ObsS P l.toArray fr C ks 0 l)
    (hK : ∀ x V, C m V → (∀ i, i < ks.length → x i = (turnAt ks i).value) → Q .normal (fr x) V) : (Code.region id l.toArray true).wp P Q a w := by
  subst ha
  refine wp_region_any hM ?_
  have hle : leftN l.length (Array.replicate l.toArray.size false) = l.length := by
    unfold leftN
    have : ((List.range l.length).filter fun i => !(Array.replicate l.toArray.size false).getD i true) = List.range l.length := by
      rw [List.filter_eq_self]
      intro i hi
      have h1 := List.mem_range.1 hi
      simp [Array.getD, h1]
    rw [this]; simp
  have h := wpAny_of_S (Q := Q) (ops := l.toArray) rfl hn hk hlow hob m hm hm2 hK l.length _ 0 x w.drew (by simp) hle (Nat.zero_le _)
    ⟨hC, (fun i _ h => by rw [getD_replicate_false] at h; cases h), (fun i k v _ _ => by rw [getD_replicate_false]; simp)⟩
  rw [show l.toArray.size = l.length by simp] at h ⊢
  exact h

theorem ObS.of_val {i : Nat} {o : Oper} {v : Value} (hk : turnAt ks i = .val v) (hp : ∀ x v, (fr x).put o.dst v = fr (setX x i v))
    (h : ∀ x V k, C k V → DepsT ks x o.after.toList → if Region.wanted o (yielded ops (fr x).tmps) = true then leads P o (fr x) V (fun u V' => u = v ∧ C k V') else undef = v) : ObS P ops fr C ks i o := by
  refine ⟨hp, ?_⟩
  rw [hk]; exact h
end
end Go.Proofs.Ytpcnfemjjlcjfaa

/-
  A region that draws its order, where some operations make blocks and others store into just these, in whatever order the edges allow: each operation is met once. What is known: the values of all but the makers, the made blocks, and what they hold.
-/
import Derived.StillTail
import Derived.Laws.Rows
import Derived.Laws.Tables
import Derived.Test.YtcbphjdhafnkmaaDoorFactsT
namespace Go.Proofs.YtcbphjdhafnkmaaDoor
open Go.RowKit

/-- V' is V, but that block g is o now. -/
structure PutB (V V' : World) (g : Nat) (o : Obj) : Prop where
  os : V'.os = V.os
  tape : V'.tape = V.tape
  output : V'.output = V.output
  new : V'.heap[g]? = some o
  size : V'.heap.size = V.heap.size
  other : ∀ k, k ≠ g → V'.heap[k]? = V.heap[k]?
theorem PutB.below {V V' : World} {g B : Nat} {o : Obj} (h : PutB V V' g o) (hB : B ≤ g) : Below B V V' :=
  ⟨h.os, h.tape, h.output, by rw [h.size]; exact Nat.le_refl _, fun k hk => h.other k (by omega)⟩

/-- What an operation does: it has this value; it makes a block that holds o, into which operation s stores, so that it holds o'; it stores into the block that operation a made. -/
inductive Kind where
  | val (v : Value)
  | mk (o : Obj) (s : Nat) (o' : Obj)
  | st (a : Nat)
def kindAt (ks : List Kind) (i : Nat) : Kind := ks.getD i (.val undef)
def kindsB (ks : List Kind) : Bool := (List.range ks.length).all fun i =>
  match kindAt ks i with
  | .val _ => true
  | .mk _ s _ => (match kindAt ks s with | .st a => a == i | _ => false)
  | .st a => (match kindAt ks a with | .mk _ s _ => s == i | _ => false)
/-- Each waits only for earlier ones, as far as it must. -/
def low2B : Nat → List Oper → Bool
  | _, [] => true
  | k, o :: r => o.after.all (fun e => !Region.binds .any e || decide (e.on < k)) && low2B (k + 1) r
/-- What is known of the values that an operation waits for. -/
def DepsV (ks : List Kind) (x : Nat → Value) : List Edge → Prop
  | [] => True
  | e :: r => (∀ v, Region.binds .any e = true → kindAt ks e.on = .val v → x e.on = v) ∧ DepsV ks x r
def ObM (P : Program) (ops : Array Oper) (fr : (Nat → Value) → Act) (ks : List Kind) (W0 : World) (i : Nat) (o : Oper) : Prop :=
  (∀ x v, (fr x).put o.dst v = fr (setX x i v)) ∧
  match kindAt ks i with
  | .val v => ∀ x V, Below W0.heap.size W0 V → DepsV ks x o.after.toList → if Region.wanted o (yielded ops (fr x).tmps) = true then leads P o (fr x) V (fun u V' => u = v ∧ Below V.heap.size V V') else undef = v
  | .mk ob _ _ => o.guard = none ∧ ∀ x V, leads P o (fr x) V (fun u V' => u = .pointer (some ⟨V.heap.size, 0, none⟩) ∧ Below V.heap.size V V' ∧ V.heap.size < V'.heap.size ∧ V'.heap[V.heap.size]? = some ob)
  | .st a => o.guard = none ∧ (o.after.any fun e => Region.binds .any e && e.on == a) = true ∧
    match kindAt ks a with
    | .mk ob _ ob' => ∀ x V g, Below W0.heap.size W0 V → x a = .pointer (some ⟨g, 0, none⟩) → V.heap[g]? = some ob → DepsV ks x o.after.toList → leads P o (fr x) V (fun _ V' => PutB V V' g ob')
    | _ => False
def ObsM (P : Program) (ops : Array Oper) (fr : (Nat → Value) → Act) (ks : List Kind) (W0 : World) : Nat → List Oper → Prop
  | _, [] => True
  | k, o :: r => ObM P ops fr ks W0 k o ∧ ObsM P ops fr ks W0 (k + 1) r

structure KnownM (ks : List Kind) (W0 : World) (L : Nat → Bool) (x : Nat → Value) (V : World) : Prop where
  below : Below W0.heap.size W0 V
  val : ∀ i v, i < ks.length → kindAt ks i = .val v → L i = true → x i = v
  made : ∀ i ob s ob', i < ks.length → kindAt ks i = .mk ob s ob' → L i = true → W0.heap.size ≤ blkOf (x i) ∧ x i = .pointer (some ⟨blkOf (x i), 0, none⟩) ∧ V.heap[blkOf (x i)]? = some (if L s then ob' else ob)
  apart : ∀ i j ob s ob' qb t qb', i < ks.length → j < ks.length → kindAt ks i = .mk ob s ob' → kindAt ks j = .mk qb t qb' → L i = true → L j = true → i ≠ j → blkOf (x i) ≠ blkOf (x j)
  first : ∀ i a, i < ks.length → kindAt ks i = .st a → L i = true → L a = true

theorem low2B_at : ∀ {l : List Oper} {k : Nat}, low2B k l = true → ∀ i o, l[i]? = some o → ∀ e ∈ o.after, Region.binds .any e = true → e.on < k + i
  | [], _, _, i, o, h => by simp at h
  | o' :: r, k, h, 0, o, hi => by
    simp at hi; subst hi
    simp only [low2B, Bool.and_eq_true] at h
    intro e he hb
    have := Array.all_eq_true'.1 h.1 e he
    simpa [hb] using this
  | o' :: r, k, h, i + 1, o, hi => by
    simp only [low2B, Bool.and_eq_true] at h
    intro e he hb
    have := low2B_at (l := r) h.2 i o (by simpa using hi) e he hb
    omega
theorem depsV_of {ks : List Kind} {x : Nat → Value} : ∀ {es : List Edge}, (∀ e ∈ es, ∀ v, Region.binds .any e = true → kindAt ks e.on = .val v → x e.on = v) → DepsV ks x es
  | [], _ => trivial
  | e :: r, h => ⟨h e (by simp), depsV_of (es := r) fun e' he => h e' (List.mem_cons_of_mem _ he)⟩
theorem kinds_mk {ks : List Kind} (h : kindsB ks = true) {i s : Nat} {o o' : Obj} (hi : i < ks.length) (hk : kindAt ks i = .mk o s o') : kindAt ks s = .st i := by
  have := List.all_eq_true.1 h i (List.mem_range.2 hi)
  simp only [hk] at this
  split at this
  · rename_i a ha
    have : a = i := by simpa using this
    rw [ha, this]
  · cases this
theorem kinds_st {ks : List Kind} (h : kindsB ks = true) {i a : Nat} (hi : i < ks.length) (hk : kindAt ks i = .st a) : ∃ o o', kindAt ks a = .mk o i o' := by
  have := List.all_eq_true.1 h i (List.mem_range.2 hi)
  simp only [hk] at this
  split at this
  · rename_i o s o' ha
    have : s = i := by simpa using this
    exact ⟨o, o', by rw [ha, this]⟩
  · cases this
theorem kind_lt {ks : List Kind} {i : Nat} (h : ∀ v, kindAt ks i ≠ .val v) : i < ks.length := by
  rcases Nat.lt_or_ge i ks.length with h1 | h1
  · exact h1
  · exact absurd (by unfold kindAt; rw [List.getD_eq_getElem?_getD, List.getElem?_eq_none h1]; rfl) (h undef)

section
variable {P : Program} {ops : Array Oper} {fr : (Nat → Value) → Act} {ks : List Kind} {W0 : World}

theorem ObsM.at : ∀ {l : List Oper} {k : Nat}, ObsM P ops fr ks W0 k l → ∀ i o, l[i]? = some o → ObM P ops fr ks W0 (k + i) o
  | [], _, _, i, o, h => by simp at h
  | o' :: r, k, h, 0, o, hi => by simp at hi; subst hi; exact h.1
  | o' :: r, k, h, i + 1, o, hi => by
    have := ObsM.at (l := r) h.2 i o (by simpa using hi)
    rw [show k + (i + 1) = k + 1 + i by omega]; exact this

theorem setX_same (x : Nat → Value) (i : Nat) (v : Value) : setX x i v i = v := by unfold setX; rw [if_pos rfl]
theorem setX_other {x : Nat → Value} {i j : Nat} (v : Value) (h : j ≠ i) : setX x i v j = x j := by unfold setX; rw [if_neg h]

/-- A value is laid, memory is only made. -/
theorem KnownM.value (hk : kindsB ks = true) {L : Nat → Bool} {x : Nat → Value} {V V' : World} (h : KnownM ks W0 L x V) {i : Nat} {v : Value} (hL : L i = false) (hi : kindAt ks i = .val v) (hB : Below V.heap.size V V') :
    KnownM ks W0 (fun j => if j = i then true else L j) (setX x i v) V' where
  below := h.below.trans (hB.mono h.below.size)
  val := fun j u hj hu hl => by
    by_cases e : j = i
    · subst e; rw [setX_same]; rw [hi] at hu; cases hu; rfl
    · rw [setX_other _ e]; simp only [e, if_false] at hl; exact h.val j u hj hu hl
  made := fun j ob s ob' hj hu hl => by
    have e : j ≠ i := fun e => by subst e; rw [hi] at hu; cases hu
    have es : s ≠ i := fun e => by have := kinds_mk hk hj hu; rw [e, hi] at this; cases this
    simp only [e, if_false] at hl
    obtain ⟨h1, h2, h3⟩ := h.made j ob s ob' hj hu hl
    rw [setX_other _ e]
    simp only [es, if_false]
    exact ⟨h1, h2, (hB.block _ (Array.getElem?_eq_some_iff.1 h3).1).trans h3⟩
  apart := fun j k ob s ob' qb t qb' hj hk' hu hv hl hm hjk => by
    have e : j ≠ i := fun e => by subst e; rw [hi] at hu; cases hu
    have e' : k ≠ i := fun e => by subst e; rw [hi] at hv; cases hv
    simp only [e, e', if_false] at hl hm
    rw [setX_other _ e, setX_other _ e']
    exact h.apart j k ob s ob' qb t qb' hj hk' hu hv hl hm hjk
  first := fun j a hj hu hl => by
    have e : j ≠ i := fun e => by subst e; rw [hi] at hu; cases hu
    simp only [e, if_false] at hl
    by_cases ea : a = i
    · simp [ea]
    · simp only [ea, if_false]; exact h.first j a hj hu hl

theorem KnownM.make (hk : kindsB ks = true) {L : Nat → Bool} {x : Nat → Value} {V V' : World} (h : KnownM ks W0 L x V) {i s : Nat} {ob ob' : Obj} (hil : i < ks.length) (hL : L i = false) (hi : kindAt ks i = .mk ob s ob') (hB : Below V.heap.size V V') (hnew : V'.heap[V.heap.size]? = some ob) :
    KnownM ks W0 (fun j => if j = i then true else L j) (setX x i (.pointer (some ⟨V.heap.size, 0, none⟩))) V' where
  below := h.below.trans (hB.mono h.below.size)
  val := fun j u hj hu hl => by
    have e : j ≠ i := fun e => by subst e; rw [hi] at hu; cases hu
    rw [setX_other _ e]; simp only [e, if_false] at hl; exact h.val j u hj hu hl
  made := fun j qb t qb' hj hu hl => by
    have hst := kinds_mk hk hj hu
    have es : t ≠ i := fun e => by rw [e, hi] at hst; cases hst
    simp only [es, if_false]
    by_cases e : j = i
    · subst e
      rw [hi] at hu; cases hu
      rw [setX_same]
      have hLs : L s = false := by
        cases hc : L s with
        | false => rfl
        | true => rw [h.first s j (kind_lt (by rw [hst]; intro v hv; cases hv)) hst hc] at hL; cases hL
      rw [hLs]
      exact ⟨h.below.size, rfl, hnew⟩
    · simp only [e, if_false] at hl
      obtain ⟨h1, h2, h3⟩ := h.made j qb t qb' hj hu hl
      rw [setX_other _ e]
      exact ⟨h1, h2, (hB.block _ (Array.getElem?_eq_some_iff.1 h3).1).trans h3⟩
  apart := fun j k o1 s1 o1' o2 s2 o2' hj hk' hu hv hl hm hjk => by
    by_cases e : j = i
    · have e' : k ≠ i := fun e' => hjk (e.trans e'.symm)
      simp only [e', if_false] at hm
      obtain ⟨-, -, h3⟩ := h.made k o2 s2 o2' hk' hv hm
      have hlt := (Array.getElem?_eq_some_iff.1 h3).1
      rw [e, setX_same, setX_other _ e']
      show V.heap.size ≠ _
      omega
    · simp only [e, if_false] at hl
      by_cases e' : k = i
      · obtain ⟨-, -, h3⟩ := h.made j o1 s1 o1' hj hu hl
        have hlt := (Array.getElem?_eq_some_iff.1 h3).1
        rw [e', setX_same, setX_other _ e]
        show _ ≠ V.heap.size
        omega
      · simp only [e', if_false] at hm
        rw [setX_other _ e, setX_other _ e']
        exact h.apart j k o1 s1 o1' o2 s2 o2' hj hk' hu hv hl hm hjk
  first := fun j a hj hu hl => by
    have e : j ≠ i := fun e => by subst e; rw [hi] at hu; cases hu
    simp only [e, if_false] at hl
    by_cases ea : a = i
    · simp [ea]
    · simp only [ea, if_false]; exact h.first j a hj hu hl

theorem KnownM.store (hk : kindsB ks = true) {L : Nat → Bool} {x : Nat → Value} {V V' : World} (h : KnownM ks W0 L x V) {i a : Nat} {ob ob' : Obj} {u : Value} (hil : i < ks.length) (hi : kindAt ks i = .st a) (ha : kindAt ks a = .mk ob i ob') (hLa : L a = true)
    (hp : PutB V V' (blkOf (x a)) ob') : KnownM ks W0 (fun j => if j = i then true else L j) (setX x i u) V' := by
  have hal : a < ks.length := kind_lt (by rw [ha]; intro v hv; cases hv)
  have hg := h.made a ob i ob' hal ha hLa
  have hai : a ≠ i := fun e => by rw [e, hi] at ha; cases ha
  refine ⟨h.below.trans (hp.below hg.1), ?_, ?_, ?_, ?_⟩
  · intro j v hj hv hl
    have e : j ≠ i := fun e => by subst e; rw [hi] at hv; cases hv
    rw [setX_other _ e]; simp only [e, if_false] at hl; exact h.val j v hj hv hl
  · intro j qb t qb' hj hu hl
    have e : j ≠ i := fun e => by subst e; rw [hi] at hu; cases hu
    simp only [e, if_false] at hl
    rw [setX_other _ e]
    obtain ⟨h1, h2, h3⟩ := h.made j qb t qb' hj hu hl
    by_cases ej : j = a
    · subst ej
      rw [ha] at hu; cases hu
      simp only [if_true]
      exact ⟨h1, h2, hp.new⟩
    · have et : t ≠ i := fun e => by
        have := kinds_mk hk hj hu
        rw [e, hi] at this
        cases this
        exact ej rfl
      simp only [et, if_false]
      exact ⟨h1, h2, (hp.other _ (h.apart j a qb t qb' ob i ob' hj hal hu ha hl hLa ej)).trans h3⟩
  · intro j k o1 s1 o1' o2 s2 o2' hj hk' hu hv hl hm hjk
    have e : j ≠ i := fun e => by subst e; rw [hi] at hu; cases hu
    have e' : k ≠ i := fun e => by subst e; rw [hi] at hv; cases hv
    simp only [e, e', if_false] at hl hm
    rw [setX_other _ e, setX_other _ e']
    exact h.apart j k o1 s1 o1' o2 s2 o2' hj hk' hu hv hl hm hjk
  · intro j b hj hu hl
    by_cases ea : b = i
    · simp [ea]
    · simp only [ea, if_false]
      by_cases e : j = i
      · subst e; rw [hi] at hu; cases hu; exact hLa
      · simp only [e, if_false] at hl
        exact h.first j b hj hu hl

theorem wpAny_of_M {Q : Exit → Act → World → Prop} {l : List Oper} (hl : ops = l.toArray) (hn : ks.length = l.length) (hk : kindsB ks = true) (hlow : low2B 0 l = true) (hob : ObsM P ops fr ks W0 0 l)
    (hK : ∀ x V, KnownM ks W0 (fun _ => true) x V → Q .normal (fr x) V) :
    ∀ (f : Nat) (listed : Array Bool) (x : Nat → Value) (V : World), listed.size = l.length → leftN l.length listed = f → KnownM ks W0 (fun i => listed.getD i false) x V → wpAny P .any ops Q f listed (fr x) V := by
  have hsz : ops.size = l.length := by rw [hl]; simp
  have hat : ∀ i : Nat, ops[i]? = l[i]? := fun i => by rw [hl]; simp
  have hboth : ∀ (listed : Array Bool) i, listed.size = l.length → i < l.length → listed.getD i true = listed.getD i false := by
    intro listed i hs hi
    have hb : i < listed.size := by omega
    simp [Array.getD, hb]
  intro f
  induction f with
  | zero =>
    intro listed x V hs hle hF
    have h1 : ∀ i, i < l.length → listed.getD i true = true := by
      intro i hi
      have h0 : ((List.range l.length).filter fun i => !listed.getD i true) = [] := List.eq_nil_of_length_eq_zero hle
      have := (List.filter_eq_nil_iff.1 h0) i (List.mem_range.2 hi)
      simpa using this
    refine ⟨?_, hK x V ⟨hF.below, fun i v hi hv _ => hF.val i v hi hv ?_, fun i ob s ob' hi hv _ => ?_, fun i j ob s ob' qb t qb' hi hj hu hv _ _ hij => hF.apart i j ob s ob' qb t qb' hi hj hu hv ?_ ?_ hij, fun i a hi ha _ => rfl⟩⟩
    · unfold Region.ready
      rw [List.filter_eq_nil_iff]
      intro i hi
      rw [hsz] at hi
      rw [h1 i (List.mem_range.1 hi)]; simp
    · rw [← hboth listed i hs (by omega)]; exact h1 i (by omega)
    · have hst := kinds_mk hk hi hv
      have hsl : s < ks.length := kind_lt (by rw [hst]; intro v hv; cases hv)
      have h2 := hF.made i ob s ob' hi hv (by rw [← hboth listed i hs (by omega)]; exact h1 i (by omega))
      rw [← hboth listed s hs (by omega), h1 s (by omega)] at h2
      exact h2
    · rw [← hboth listed i hs (by omega)]; exact h1 i (by omega)
    · rw [← hboth listed j hs (by omega)]; exact h1 j (by omega)
  | succ f ih =>
    intro listed x V hs hle hF
    have hne : Region.ready .any ops listed ≠ [] := by
      intro hr
      have hempty : ∀ i, i < l.length → listed.getD i true = true := by
        intro i
        induction i using Nat.strongRecOn with
        | _ i ihh =>
          intro hi
          cases hc : listed.getD i true with
          | true => rfl
          | false =>
            exfalso
            have hmem : i ∈ Region.ready .any ops listed := by
              rw [mem_ready]
              refine ⟨hc, l[i], by rw [hat]; exact List.getElem?_eq_getElem hi, ?_⟩
              intro e he hb
              have h1 := low2B_at hlow i l[i] (List.getElem?_eq_getElem hi) e he hb
              have h2 := ihh e.on (by omega) (by omega)
              rw [← hboth listed e.on hs (by omega)]; exact h2
            rw [hr] at hmem
            cases hmem
      have h0 : leftN l.length listed = 0 := by
        unfold leftN
        rw [List.length_eq_zero_iff, List.filter_eq_nil_iff]
        intro i hi
        rw [hempty i (List.mem_range.1 hi)]; simp
      omega
    refine ⟨fun hr => absurd hr hne, fun i hi => ?_⟩
    obtain ⟨hun, o, ho, hdeps⟩ := mem_ready.1 hi
    have hol : l[i]? = some o := by rw [← hat]; exact ho
    have him : i < l.length := (List.getElem?_eq_some_iff.1 hol).1
    have hob1 := hob.at i o hol
    rw [Nat.zero_add] at hob1
    have hib : i < listed.size := by omega
    have hunf : listed.getD i false = false := by rw [← hboth listed i hs him]; exact hun
    have hset : (fun j => (listed.setIfInBounds i true).getD j false) = fun j => if j = i then true else listed.getD j false := funext fun j => getD_set hib
    have hleft : leftN l.length (listed.setIfInBounds i true) = f := by
      have := filter_one (p := fun j => !listed.getD j true) (q := fun j => !(listed.setIfInBounds i true).getD j true) (i := i) (fun j => by
        rw [getD_set hib]
        by_cases e : j = i
        · simp [e]
        · simp [e]) (by rw [hun]; rfl) List.nodup_range (List.mem_range.2 him)
      unfold leftN at hle ⊢
      omega
    have hgo : ∀ v V', KnownM ks W0 (fun j => if j = i then true else listed.getD j false) (setX x i v) V' → wpAny P .any ops Q f (listed.setIfInBounds i true) (fr (setX x i v)) V' := fun v V' h =>
      ih _ _ _ (by simp [hs]) hleft (by rw [hset]; exact h)
    have hd : DepsV ks x o.after.toList := depsV_of fun e he v hb hv => by
      have h1 := low2B_at hlow i o hol e (by simpa using he) hb
      exact hF.val e.on v (by omega) hv (hdeps e (by simpa using he) hb)
    obtain ⟨hput, hob2⟩ := hob1
    unfold wpOp
    rw [ho]
    simp only
    cases hkind : kindAt ks i with
    | val v =>
      rw [hkind] at hob2
      have h2 := hob2 x V hF.below hd
      split
      · rename_i hw
        rw [if_pos hw] at h2
        exact .inl (wp_of_leads h2 fun u V' ⟨hu, hB⟩ => by
          subst hu
          rw [hput]
          exact hgo _ _ (hF.value hk hunf hkind hB))
      · rename_i hw
        rw [if_neg hw] at h2
        rw [hput]
        refine hgo _ _ (hF.value hk hunf ?_ (Below.refl _ _))
        rw [hkind, h2]
    | mk ob s ob' =>
      rw [hkind] at hob2
      obtain ⟨hg, h2⟩ := hob2
      rw [if_pos (by simp [Region.wanted, hg])]
      exact .inl (wp_of_leads (h2 x V) fun u V' ⟨hu, hB, _, hnew⟩ => by
        subst hu
        rw [hput]
        exact hgo _ _ (hF.make hk (by omega) hunf hkind hB hnew))
    | st a =>
      rw [hkind] at hob2
      obtain ⟨hg, hea, h2⟩ := hob2
      obtain ⟨ob, ob', hma⟩ := kinds_st hk (by omega) hkind
      simp only [hma] at h2
      have hal : a < ks.length := kind_lt (by rw [hma]; intro v hv; cases hv)
      have hLa : listed.getD a false = true := by
        obtain ⟨e, he, hb⟩ := Array.any_eq_true'.1 hea
        simp only [Bool.and_eq_true, beq_iff_eq] at hb
        rw [← hb.2]; exact hdeps e he hb.1
      have hgm := hF.made a ob i ob' hal hma hLa
      simp only [hunf] at hgm
      rw [if_pos (by simp [Region.wanted, hg])]
      exact .inl (wp_of_leads (h2 x V (blkOf (x a)) hF.below hgm.2.1 (by simpa using hgm.2.2) hd) fun u V' hp => by
        rw [hput]
        exact hgo _ _ (hF.store hk (by omega) hkind hma hLa hp))

theorem wp_region_M {id : Nat} {Q : Exit → Act → World → Prop} {l : List Oper} {a : Act} {w : World} (ks : List Kind) (fr : (Nat → Value) → Act) (x : Nat → Value) (hm : P.follows .mixedOrders = true) (ha : a = fr x)
    (hn : ks.length = l.length) (hk : kindsB ks = true) (hlow : low2B 0 l = true) (hob : ObsM P l.toArray fr ks w.drew 0 l)
    (hK : ∀ x V, KnownM ks w.drew (fun _ => true) x V → wpList P l.toArray Q [] (fr x) V) : (Code.region id l.toArray true).wp P Q a w := by
  subst ha
  refine wp_region_any hm ?_
  have hle : leftN l.length (Array.replicate l.toArray.size false) = l.length := by
    unfold leftN
    have : ((List.range l.length).filter fun i => !(Array.replicate l.toArray.size false).getD i true) = List.range l.length := by
      rw [List.filter_eq_self]
      intro i hi
      have h1 := List.mem_range.1 hi
      simp [Array.getD, h1]
    rw [this]; simp
  have h := wpAny_of_M (Q := Q) (ops := l.toArray) rfl hn hk hlow hob hK l.length _ x w.drew (by simp) hle
    ⟨Below.refl _ _, (fun i v _ _ h => by rw [getD_replicate_false] at h; cases h), (fun i ob s ob' _ _ h => by rw [getD_replicate_false] at h; cases h), (fun i j ob s ob' qb t qb' _ _ _ _ h => by rw [getD_replicate_false] at h; cases h), (fun i a _ _ h => by rw [getD_replicate_false] at h; cases h)⟩
  rw [show l.toArray.size = l.length by simp] at h ⊢
  exact h

/-! How an operation's share is paid. -/

theorem ObM.of_val {i : Nat} {o : Oper} {v : Value} (hk : kindAt ks i = .val v) (hp : ∀ x v, (fr x).put o.dst v = fr (setX x i v))
    (h : ∀ x V, Below W0.heap.size W0 V → DepsV ks x o.after.toList → if Region.wanted o (yielded ops (fr x).tmps) = true then leads P o (fr x) V (fun u V' => u = v ∧ Below V.heap.size V V') else undef = v) : ObM P ops fr ks W0 i o := by
  refine ⟨hp, ?_⟩
  rw [hk]; exact h
theorem ObM.of_mk {i s : Nat} {o : Oper} {ob ob' : Obj} (hk : kindAt ks i = .mk ob s ob') (hp : ∀ x v, (fr x).put o.dst v = fr (setX x i v)) (hg : o.guard = none)
    (h : ∀ x V, leads P o (fr x) V (fun u V' => u = .pointer (some ⟨V.heap.size, 0, none⟩) ∧ Below V.heap.size V V' ∧ V.heap.size < V'.heap.size ∧ V'.heap[V.heap.size]? = some ob)) : ObM P ops fr ks W0 i o := by
  refine ⟨hp, ?_⟩
  rw [hk]; exact ⟨hg, h⟩
theorem ObM.of_st {i a s : Nat} {o : Oper} {ob ob' : Obj} (hk : kindAt ks i = .st a) (hm : kindAt ks a = .mk ob s ob') (hp : ∀ x v, (fr x).put o.dst v = fr (setX x i v)) (hg : o.guard = none) (he : (o.after.any fun e => Region.binds .any e && e.on == a) = true)
    (h : ∀ x V g, Below W0.heap.size W0 V → x a = .pointer (some ⟨g, 0, none⟩) → V.heap[g]? = some ob → DepsV ks x o.after.toList → leads P o (fr x) V (fun _ V' => PutB V V' g ob')) : ObM P ops fr ks W0 i o := by
  refine ⟨hp, ?_⟩
  rw [hk]
  refine ⟨hg, he, ?_⟩
  rw [hm]; exact h

theorem leads_store_row {o : Oper} {a : Act} {w : World} {x y : Operand} {ty : TypeId} {b : Nat} {old new : Array Value} (ho : o.op = .store ty x y) (hx : a.eval x = .pointer (some ⟨b, 0, none⟩)) (hy : a.eval y = .agg new) (h : w.heap[b]? = some (.cells old ty (0, 0)))
    (hi : (P.info? ty).map (·.size) = some new.size) (hs : old.size = new.size) (h1 : new.all (·.oneCell') = true) : leads P o a w (fun _ V' => PutB w V' b (.cells new ty (0, 0))) := by
  unfold leads execOp
  simp only [ho, hx, hy, Instr.storeAt, Instr.sureAddr, Sem.run_bind, Sem.run_pure, Result.andThen_ok, run_storeVar_row w b _ ty old new h hi hs h1]
  exact ⟨rfl, rfl, rfl, setRow_heap w b _ _ _ _ h, by simp, fun k hk => setRow_other w b k _ hk⟩

end
end Go.Proofs.YtcbphjdhafnkmaaDoor

/-
  The mended policy in plain terms.
-/
import Derived.Test.YtmaachmidgfhdaaGreatDoorW1
import Derived.OrdersIn
import Derived.Maps.AppendAt
import Derived.TacticsIn
import Derived.OwnWalkIn
import Derived.Deep.WholeRow
import Derived.Laws.Rows
import Derived.Outline
import Derived.Laws.Append
import Derived.Laws.MakeOwn
import Derived.Laws.OwnMore
import Derived.Great.BuildSlice
import Derived.ChangeKeysEq
import Derived.BigQuiet
import Derived.Deep.DeepCutAuto
import Derived.DeepKeys
import Derived.RowKit
import Derived.DeepKeys2
/-! Stage -/
namespace Go.Proofs.YtmaachmidgfhdaaGreatDoor
open Go.RowKit

/-- What an operation does: it has this value and leaves what is known as it is; it is call number k of those that change memory, and has this value. -/
inductive Turn where
  | val (v : Value)
  | turn (k : Nat) (v : Value)
def Turn.value : Turn → Value
  | .val v => v
  | .turn _ v => v
def turnAt (ks : List Turn) (i : Nat) : Turn := ks.getD i (.val undef)
/-- Each turn but the first waits for the one before; no two are the same. -/
def turnsB (ks : List Turn) (l : List Oper) : Bool := (List.range ks.length).all fun i =>
  match turnAt ks i with
  | .val _ => true
  | .turn k _ => (k == 0 || (match l[i]? with | some o => o.after.any (fun e => Region.binds .any e && (match turnAt ks e.on with | .turn m _ => m + 1 == k | _ => false)) | none => false)) &&
      (List.range ks.length).all fun j => match turnAt ks j with | .turn m _ => m != k || i == j | _ => true
def DepsT (ks : List Turn) (x : Nat → Value) : List Edge → Prop
  | [] => True
  | e :: r => (Region.binds .any e = true → x e.on = (turnAt ks e.on).value) ∧ DepsT ks x r
def ObS (P : Program) (ops : Array Oper) (fr : (Nat → Value) → Act) (C : Nat → World → Prop) (ks : List Turn) (i : Nat) (o : Oper) : Prop :=
  (∀ x v, (fr x).put o.dst v = fr (setX x i v)) ∧
  match turnAt ks i with
  | .val v => ∀ x V k, C k V → DepsT ks x o.after.toList → if Region.wanted o (yielded ops (fr x).tmps) = true then leads P o (fr x) V (fun u V' => u = v ∧ C k V') else undef = v
  | .turn k v => ∀ x V, C k V → DepsT ks x o.after.toList → if Region.wanted o (yielded ops (fr x).tmps) = true then leads P o (fr x) V (fun u V' => u = v ∧ C (k + 1) V') else False
def ObsS (P : Program) (ops : Array Oper) (fr : (Nat → Value) → Act) (C : Nat → World → Prop) (ks : List Turn) : Nat → List Oper → Prop
  | _, [] => True
  | k, o :: r => ObS P ops fr C ks k o ∧ ObsS P ops fr C ks (k + 1) r

structure KnownS (C : Nat → World → Prop) (ks : List Turn) (L : Nat → Bool) (s : Nat) (x : Nat → Value) (V : World) : Prop where
  now : C s V
  val : ∀ i, i < ks.length → L i = true → x i = (turnAt ks i).value
  done : ∀ i k v, i < ks.length → turnAt ks i = .turn k v → (L i = true ↔ k < s)

theorem depsT_of {ks : List Turn} {x : Nat → Value} : ∀ {es : List Edge}, (∀ e ∈ es, Region.binds .any e = true → x e.on = (turnAt ks e.on).value) → DepsT ks x es
  | [], _ => trivial
  | e :: r, h => ⟨h e (by simp), depsT_of (es := r) fun e' he => h e' (List.mem_cons_of_mem _ he)⟩

section
variable {P : Program} {ops : Array Oper} {fr : (Nat → Value) → Act} {C : Nat → World → Prop} {ks : List Turn}

theorem ObsS.at : ∀ {l : List Oper} {k : Nat}, ObsS P ops fr C ks k l → ∀ i o, l[i]? = some o → ObS P ops fr C ks (k + i) o
  | [], _, _, i, o, h => by simp at h
  | o' :: r, k, h, 0, o, hi => by simp at hi; subst hi; exact h.1
  | o' :: r, k, h, i + 1, o, hi => by
    have := ObsS.at (l := r) h.2 i o (by simpa using hi)
    rw [show k + (i + 1) = k + 1 + i by omega]; exact this

theorem turns_at {l : List Oper} (h : turnsB ks l = true) {i k : Nat} {v : Value} (hi : i < ks.length) (hk : turnAt ks i = .turn k v) :
    (k = 0 ∨ ∃ o, l[i]? = some o ∧ ∃ e ∈ o.after, Region.binds .any e = true ∧ ∃ m u, turnAt ks e.on = .turn m u ∧ m + 1 = k) ∧ ∀ j m u, j < ks.length → turnAt ks j = .turn m u → m = k → i = j := by
  have h0 := List.all_eq_true.1 h i (List.mem_range.2 hi)
  simp only [hk, Bool.and_eq_true, Bool.or_eq_true, beq_iff_eq] at h0
  obtain ⟨h1, h2⟩ := h0
  refine ⟨?_, fun j m u hj hm e => ?_⟩
  · rcases h1 with h1 | h1
    · exact .inl h1
    · right
      split at h1
      · rename_i o ho
        obtain ⟨e, he, hb⟩ := Array.any_eq_true'.1 h1
        simp only [Bool.and_eq_true] at hb
        refine ⟨o, ho, e, he, hb.1, ?_⟩
        have hb2 := hb.2
        split at hb2
        · rename_i m u hm
          exact ⟨m, u, hm, by simpa using hb2⟩
        · cases hb2
      · cases h1
  · have h3 := List.all_eq_true.1 h2 j (List.mem_range.2 hj)
    simp only [hm] at h3
    subst e
    simpa using h3

theorem wpAny_of_S {Q : Exit → Act → World → Prop} {l : List Oper} (hl : ops = l.toArray) (hn : ks.length = l.length) (hk : turnsB ks l = true) (hlow : low2B 0 l = true) (hob : ObsS P ops fr C ks 0 l) (m : Nat)
    (hm : ((List.range ks.length).all fun i => match turnAt ks i with | .turn k _ => decide (k < m) | _ => true) = true) (hm2 : ((List.range m).all fun k => (List.range ks.length).any fun i => match turnAt ks i with | .turn q _ => q == k | _ => false) = true)
    (hK : ∀ x V, C m V → (∀ i, i < ks.length → x i = (turnAt ks i).value) → Q .normal (fr x) V) :
    ∀ (f : Nat) (listed : Array Bool) (s : Nat) (x : Nat → Value) (V : World), listed.size = l.length → leftN l.length listed = f → s ≤ m → KnownS C ks (fun i => listed.getD i false) s x V → wpAny P .any ops Q f listed (fr x) V := by
  have hsz : ops.size = l.length := by rw [hl]; simp
  have hat : ∀ i : Nat, ops[i]? = l[i]? := fun i => by rw [hl]; simp
  have hboth : ∀ (listed : Array Bool) i, listed.size = l.length → i < l.length → listed.getD i true = listed.getD i false := by
    intro listed i hs hi
    have hb : i < listed.size := by omega
    simp [Array.getD, hb]
  intro f
  induction f with
  | zero =>
    intro listed s x V hs hle hsm hF
    have h1 : ∀ i, i < l.length → listed.getD i true = true := by
      intro i hi
      have h0 : ((List.range l.length).filter fun i => !listed.getD i true) = [] := List.eq_nil_of_length_eq_zero hle
      have := (List.filter_eq_nil_iff.1 h0) i (List.mem_range.2 hi)
      simpa using this
    have hsm' : s = m := by
      rcases Nat.lt_or_ge s m with h | h
      · exfalso
        have h2 := List.all_eq_true.1 hm2 s (List.mem_range.2 h)
        obtain ⟨i, hi, hq⟩ := List.any_eq_true.1 h2
        have hi' := List.mem_range.1 hi
        split at hq
        · rename_i q v hv
          have hq' : q = s := by simpa using hq
          have := (hF.done i q v hi' hv).1 (by rw [← hboth listed i hs (by omega)]; exact h1 i (by omega))
          omega
        · cases hq
      · omega
    subst hsm'
    refine ⟨?_, hK x V hF.now fun i hi => hF.val i hi (by rw [← hboth listed i hs (by omega)]; exact h1 i (by omega))⟩
    unfold Region.ready
    rw [List.filter_eq_nil_iff]
    intro i hi
    rw [hsz] at hi
    rw [h1 i (List.mem_range.1 hi)]; simp
  | succ f ih =>
    intro listed s x V hs hle hsm hF
    have hne : Region.ready .any ops listed ≠ [] := by
      intro hr
      have hempty : ∀ i, i < l.length → listed.getD i true = true := by
        intro i
        induction i using Nat.strongRecOn with
        | _ i ihh =>
          intro hi
          cases hc : listed.getD i true with
          | true => rfl
          | false =>
            exfalso
            have hmem : i ∈ Region.ready .any ops listed := by
              rw [mem_ready]
              refine ⟨hc, l[i], by rw [hat]; exact List.getElem?_eq_getElem hi, ?_⟩
              intro e he hb
              have h1 := low2B_at hlow i l[i] (List.getElem?_eq_getElem hi) e he hb
              have h2 := ihh e.on (by omega) (by omega)
              rw [← hboth listed e.on hs (by omega)]; exact h2
            rw [hr] at hmem
            cases hmem
      have h0 : leftN l.length listed = 0 := by
        unfold leftN
        rw [List.length_eq_zero_iff, List.filter_eq_nil_iff]
        intro i hi
        rw [hempty i (List.mem_range.1 hi)]; simp
      omega
    refine ⟨fun hr => absurd hr hne, fun i hi => ?_⟩
    obtain ⟨hun, o, ho, hdeps⟩ := mem_ready.1 hi
    have hol : l[i]? = some o := by rw [← hat]; exact ho
    have him : i < l.length := (List.getElem?_eq_some_iff.1 hol).1
    have hob1 := hob.at i o hol
    rw [Nat.zero_add] at hob1
    have hib : i < listed.size := by omega
    have hunf : listed.getD i false = false := by rw [← hboth listed i hs him]; exact hun
    have hset : ∀ j, (listed.setIfInBounds i true).getD j false = if j = i then true else listed.getD j false := fun j => getD_set hib
    have hleft : leftN l.length (listed.setIfInBounds i true) = f := by
      have := filter_one (p := fun j => !listed.getD j true) (q := fun j => !(listed.setIfInBounds i true).getD j true) (i := i) (fun j => by
        rw [getD_set hib]
        by_cases e : j = i
        · simp [e]
        · simp [e]) (by rw [hun]; rfl) List.nodup_range (List.mem_range.2 him)
      unfold leftN at hle ⊢
      omega
    have hd : DepsT ks x o.after.toList := depsT_of fun e he hb => by
      have h1 := low2B_at hlow i o hol e (by simpa using he) hb
      exact hF.val e.on (by omega) (hdeps e (by simpa using he) hb)
    have hval : ∀ v, v = (turnAt ks i).value → ∀ j, j < ks.length → (listed.setIfInBounds i true).getD j false = true → setX x i v j = (turnAt ks j).value := fun v hv j hj hl => by
      rw [hset] at hl
      by_cases e : j = i
      · subst e; rw [setX_same, hv]
      · rw [setX_other _ e]; rw [if_neg e] at hl; exact hF.val j hj hl
    obtain ⟨hput, hob2⟩ := hob1
    unfold wpOp
    rw [ho]
    simp only
    cases hkind : turnAt ks i with
    | val v =>
      rw [hkind] at hob2 hval
      have h2 := hob2 x V s hF.now hd
      have hgo : ∀ V', C s V' → wpAny P .any ops Q f (listed.setIfInBounds i true) (fr (setX x i v)) V' := fun V' hC =>
        ih _ s _ _ (by simp [hs]) hleft hsm ⟨hC, hval v rfl, fun j k u hj hu => by
          have e : j ≠ i := fun e => by subst e; rw [hkind] at hu; cases hu
          rw [hset, if_neg e]; exact hF.done j k u hj hu⟩
      split
      · rename_i hw
        rw [if_pos hw] at h2
        exact .inl (wp_of_leads h2 fun u V' ⟨hu, hB⟩ => by
          subst hu
          rw [hput]
          exact hgo _ hB)
      · rename_i hw
        rw [if_neg hw] at h2
        rw [hput]
        rw [h2]
        exact hgo _ hF.now
    | turn k v =>
      rw [hkind] at hob2 hval
      obtain ⟨ht1, ht2⟩ := turns_at hk (by omega) hkind
      have hks : s ≤ k := by
        rcases Nat.lt_or_ge k s with h | h
        · have := (hF.done i k v (by omega) hkind).2 h
          rw [hunf] at this; cases this
        · exact h
      have hks2 : k ≤ s := by
        rcases ht1 with h | ⟨o', ho', e, he, hb, q, u, hq, hqk⟩
        · omega
        · rw [hol] at ho'; cases ho'
          have h1 := low2B_at hlow i o hol e he hb
          have := (hF.done e.on q u (by omega) hq).1 (hdeps e he hb)
          omega
      have hsk : s = k := by omega
      subst hsk
      have h2 := hob2 x V hF.now hd
      have hsm2 : s < m := by
        have := List.all_eq_true.1 hm i (List.mem_range.2 (by omega))
        simpa only [hkind, decide_eq_true_eq] using this
      split
      · rename_i hw
        rw [if_pos hw] at h2
        exact .inl (wp_of_leads h2 fun u V' ⟨hu, hB⟩ => by
          subst hu
          rw [hput]
          refine ih _ (s + 1) _ _ (by simp [hs]) hleft (by omega) ⟨hB, hval _ rfl, fun j q u hj hu => ?_⟩
          rw [hset]
          by_cases e : j = i
          · subst e; rw [hkind] at hu; cases hu; simp
          · rw [if_neg e, hF.done j q u hj hu]
            have : q ≠ s := fun h => e (ht2 j q u hj hu h).symm
            omega)
      · rename_i hw
        rw [if_neg hw] at h2
        exact h2.elim

theorem wp_region_S {id : Nat} {Q : Exit → Act → World → Prop} {l : List Oper} {a : Act} {w : World} (C : Nat → World → Prop) (m : Nat) (ks : List Turn) (fr : (Nat → Value) → Act) (x : Nat → Value) (hM : P.follows .mixedOrders = true) (ha : a = fr x)
    (hn : ks.length = l.length) (hk : turnsB ks l = true) (hlow : low2B 0 l = true) (hm : ((List.range ks.length).all fun i => match turnAt ks i with | .turn k _ => decide (k < m) | _ => true) = true)
    (hm2 : ((List.range m).all fun k => (List.range ks.length).any fun i => match turnAt ks i with | .turn q _ => q == k | _ => false) = true) (hC : C 0 w.drew) (hob : ObsS P l.toArray fr C ks 0 l)
    (hK : ∀ x V, C m V → (∀ i, i < ks.length → x i = (turnAt ks i).value) → Q .normal (fr x) V) : (Code.region id l.toArray true).wp P Q a w := by
  subst ha
  refine wp_region_any hM ?_
  have hle : leftN l.length (Array.replicate l.toArray.size false) = l.length := by
    unfold leftN
    have : ((List.range l.length).filter fun i => !(Array.replicate l.toArray.size false).getD i true) = List.range l.length := by
      rw [List.filter_eq_self]
      intro i hi
      have h1 := List.mem_range.1 hi
      simp [Array.getD, h1]
    rw [this]; simp
  have h := wpAny_of_S (Q := Q) (ops := l.toArray) rfl hn hk hlow hob m hm hm2 hK l.length _ 0 x w.drew (by simp) hle (Nat.zero_le _)
    ⟨hC, (fun i _ h => by rw [getD_replicate_false] at h; cases h), (fun i k v _ _ => by rw [getD_replicate_false]; simp)⟩
  rw [show l.toArray.size = l.length by simp] at h ⊢
  exact h

theorem ObS.of_val {i : Nat} {o : Oper} {v : Value} (hk : turnAt ks i = .val v) (hp : ∀ x v, (fr x).put o.dst v = fr (setX x i v))
    (h : ∀ x V k, C k V → DepsT ks x o.after.toList → if Region.wanted o (yielded ops (fr x).tmps) = true then leads P o (fr x) V (fun u V' => u = v ∧ C k V') else undef = v) : ObS P ops fr C ks i o := by
  refine ⟨hp, ?_⟩
  rw [hk]; exact h
theorem ObS.of_turn {i k : Nat} {o : Oper} {v : Value} (hk : turnAt ks i = .turn k v) (hp : ∀ x v, (fr x).put o.dst v = fr (setX x i v))
    (h : ∀ x V, C k V → DepsT ks x o.after.toList → if Region.wanted o (yielded ops (fr x).tmps) = true then leads P o (fr x) V (fun u V' => u = v ∧ C (k + 1) V') else False) : ObS P ops fr C ks i o := by
  refine ⟨hp, ?_⟩
  rw [hk]; exact h
theorem leads_enter2 {o : Oper} {a : Act} {w w' : World} {f : FuncId} {args : Array Value} {R : Value → World → Prop} (h : (execOp a.eval o).run P w = .ok (.enter f args) w') (hc : Calls P f args w' fun e w'' => ∃ v, e = .returned v ∧ R v w'') : leads P o a w R := by
  unfold leads; rw [h]; exact hc

end
end Go.Proofs.YtmaachmidgfhdaaGreatDoor

/-! Chain -/
namespace Go.Proofs.YtmaachmidgfhdaaGreatDoor
open Go.RowKit

/-- It has this value; it is number k of those in turn; it has the value of number k. -/
inductive Step where
  | val (v : Value)
  | turn (k : Nat)
  | same (k : Nat)
def stepAt (ks : List Step) (i : Nat) : Step := ks.getD i (.val undef)
def valueL (ks : List Step) (vs : List Value) (i : Nat) : Value :=
  match stepAt ks i with
  | .val v => v
  | .turn k => vs.getD k undef
  | .same k => vs.getD k undef
def knownL (ks : List Step) (vs : List Value) (i : Nat) : Prop :=
  match stepAt ks i with
  | .val _ => True
  | .turn k => k < vs.length
  | .same k => k < vs.length
theorem valueL_more {ks : List Step} {vs : List Value} {i : Nat} (h : knownL ks vs i) (u : Value) : valueL ks (vs ++ [u]) i = valueL ks vs i ∧ knownL ks (vs ++ [u]) i := by
  unfold valueL knownL at *
  cases hs : stepAt ks i with
  | val v => exact ⟨rfl, trivial⟩
  | turn k => rw [hs] at h; simp only at h ⊢; exact ⟨by simp [h, List.getElem?_append_left], by simp; omega⟩
  | same k => rw [hs] at h; simp only at h ⊢; exact ⟨by simp [h, List.getElem?_append_left], by simp; omega⟩
/-- Each in turn waits for the one before; no two are the same. -/
def stepsB (ks : List Step) (l : List Oper) : Bool := (List.range ks.length).all fun i =>
  match stepAt ks i with
  | .val _ => true
  | .same _ => true
  | .turn k => (k == 0 || (match l[i]? with | some o => o.after.any (fun e => Region.binds .any e && (match stepAt ks e.on with | .turn m => m + 1 == k | _ => false)) | none => false)) &&
      (List.range ks.length).all fun j => match stepAt ks j with | .turn m => m != k || i == j | _ => true
def DepsL (ks : List Step) (vs : List Value) (x : Nat → Value) : List Edge → Prop
  | [] => True
  | e :: r => (Region.binds .any e = true → x e.on = valueL ks vs e.on ∧ knownL ks vs e.on) ∧ DepsL ks vs x r
theorem depsL_of {ks : List Step} {vs : List Value} {x : Nat → Value} : ∀ {es : List Edge}, (∀ e ∈ es, Region.binds .any e = true → x e.on = valueL ks vs e.on ∧ knownL ks vs e.on) → DepsL ks vs x es
  | [], _ => trivial
  | e :: r, h => ⟨h e (by simp), depsL_of (es := r) fun e' he => h e' (List.mem_cons_of_mem _ he)⟩
def ObL (P : Program) (ops : Array Oper) (fr : (Nat → Value) → Act) (C : List Value → World → Prop) (ks : List Step) (i : Nat) (o : Oper) : Prop :=
  (∀ x v, (fr x).put o.dst v = fr (setX x i v)) ∧
  match stepAt ks i with
  | .val v => ∀ x V vs, C vs V → DepsL ks vs x o.after.toList → if Region.wanted o (yielded ops (fr x).tmps) = true then leads P o (fr x) V (fun u V' => u = v ∧ C vs V') else undef = v
  | .same k => ∀ x V vs, C vs V → DepsL ks vs x o.after.toList → if Region.wanted o (yielded ops (fr x).tmps) = true then leads P o (fr x) V (fun u V' => u = vs.getD k undef ∧ k < vs.length ∧ C vs V') else False
  | .turn k => ∀ x V vs, vs.length = k → C vs V → DepsL ks vs x o.after.toList → if Region.wanted o (yielded ops (fr x).tmps) = true then leads P o (fr x) V (fun u V' => C (vs ++ [u]) V') else False
def ObsL (P : Program) (ops : Array Oper) (fr : (Nat → Value) → Act) (C : List Value → World → Prop) (ks : List Step) : Nat → List Oper → Prop
  | _, [] => True
  | k, o :: r => ObL P ops fr C ks k o ∧ ObsL P ops fr C ks (k + 1) r

structure KnownL (C : List Value → World → Prop) (ks : List Step) (L : Nat → Bool) (vs : List Value) (x : Nat → Value) (V : World) : Prop where
  now : C vs V
  val : ∀ i, i < ks.length → L i = true → x i = valueL ks vs i ∧ knownL ks vs i
  done : ∀ i k, i < ks.length → stepAt ks i = .turn k → (L i = true ↔ k < vs.length)

section
variable {P : Program} {ops : Array Oper} {fr : (Nat → Value) → Act} {C : List Value → World → Prop} {ks : List Step}

theorem ObsL.at : ∀ {l : List Oper} {k : Nat}, ObsL P ops fr C ks k l → ∀ i o, l[i]? = some o → ObL P ops fr C ks (k + i) o
  | [], _, _, i, o, h => by simp at h
  | o' :: r, k, h, 0, o, hi => by simp at hi; subst hi; exact h.1
  | o' :: r, k, h, i + 1, o, hi => by
    have := ObsL.at (l := r) h.2 i o (by simpa using hi)
    rw [show k + (i + 1) = k + 1 + i by omega]; exact this

theorem steps_at {l : List Oper} (h : stepsB ks l = true) {i k : Nat} (hi : i < ks.length) (hk : stepAt ks i = .turn k) :
    (k = 0 ∨ ∃ o, l[i]? = some o ∧ ∃ e ∈ o.after, Region.binds .any e = true ∧ ∃ m, stepAt ks e.on = .turn m ∧ m + 1 = k) ∧ ∀ j m, j < ks.length → stepAt ks j = .turn m → m = k → i = j := by
  have h0 := List.all_eq_true.1 h i (List.mem_range.2 hi)
  simp only [hk, Bool.and_eq_true, Bool.or_eq_true, beq_iff_eq] at h0
  obtain ⟨h1, h2⟩ := h0
  refine ⟨?_, fun j m hj hm e => ?_⟩
  · rcases h1 with h1 | h1
    · exact .inl h1
    · right
      split at h1
      · rename_i o ho
        obtain ⟨e, he, hb⟩ := Array.any_eq_true'.1 h1
        simp only [Bool.and_eq_true] at hb
        refine ⟨o, ho, e, he, hb.1, ?_⟩
        have hb2 := hb.2
        split at hb2
        · rename_i m hm
          exact ⟨m, hm, by simpa using hb2⟩
        · cases hb2
      · cases h1
  · have h3 := List.all_eq_true.1 h2 j (List.mem_range.2 hj)
    simp only [hm] at h3
    subst e
    simpa using h3

theorem wpAny_of_L {Q : Exit → Act → World → Prop} {l : List Oper} (hl : ops = l.toArray) (hn : ks.length = l.length) (hk : stepsB ks l = true) (hlow : low2B 0 l = true) (hob : ObsL P ops fr C ks 0 l) (m : Nat)
    (hm : ((List.range ks.length).all fun i => match stepAt ks i with | .turn k => decide (k < m) | _ => true) = true) (hm2 : ((List.range m).all fun k => (List.range ks.length).any fun i => match stepAt ks i with | .turn q => q == k | _ => false) = true)
    (hK : ∀ x V vs, vs.length = m → C vs V → (∀ i, i < ks.length → x i = valueL ks vs i) → Q .normal (fr x) V) :
    ∀ (f : Nat) (listed : Array Bool) (vs : List Value) (x : Nat → Value) (V : World), listed.size = l.length → leftN l.length listed = f → vs.length ≤ m → KnownL C ks (fun i => listed.getD i false) vs x V → wpAny P .any ops Q f listed (fr x) V := by
  have hsz : ops.size = l.length := by rw [hl]; simp
  have hat : ∀ i : Nat, ops[i]? = l[i]? := fun i => by rw [hl]; simp
  have hboth : ∀ (listed : Array Bool) i, listed.size = l.length → i < l.length → listed.getD i true = listed.getD i false := by
    intro listed i hs hi
    have hb : i < listed.size := by omega
    simp [Array.getD, hb]
  intro f
  induction f with
  | zero =>
    intro listed vs x V hs hle hsm hF
    have h1 : ∀ i, i < l.length → listed.getD i true = true := by
      intro i hi
      have h0 : ((List.range l.length).filter fun i => !listed.getD i true) = [] := List.eq_nil_of_length_eq_zero hle
      have := (List.filter_eq_nil_iff.1 h0) i (List.mem_range.2 hi)
      simpa using this
    have hsm' : vs.length = m := by
      rcases Nat.lt_or_ge vs.length m with h | h
      · exfalso
        have h2 := List.all_eq_true.1 hm2 vs.length (List.mem_range.2 h)
        obtain ⟨i, hi, hq⟩ := List.any_eq_true.1 h2
        have hi' := List.mem_range.1 hi
        split at hq
        · rename_i q hv
          have hq' : q = vs.length := by simpa using hq
          have := (hF.done i q hi' hv).1 (by rw [← hboth listed i hs (by omega)]; exact h1 i (by omega))
          omega
        · cases hq
      · omega
    refine ⟨?_, hK x V vs hsm' hF.now fun i hi => (hF.val i hi (by rw [← hboth listed i hs (by omega)]; exact h1 i (by omega))).1⟩
    unfold Region.ready
    rw [List.filter_eq_nil_iff]
    intro i hi
    rw [hsz] at hi
    rw [h1 i (List.mem_range.1 hi)]; simp
  | succ f ih =>
    intro listed vs x V hs hle hsm hF
    have hne : Region.ready .any ops listed ≠ [] := by
      intro hr
      have hempty : ∀ i, i < l.length → listed.getD i true = true := by
        intro i
        induction i using Nat.strongRecOn with
        | _ i ihh =>
          intro hi
          cases hc : listed.getD i true with
          | true => rfl
          | false =>
            exfalso
            have hmem : i ∈ Region.ready .any ops listed := by
              rw [mem_ready]
              refine ⟨hc, l[i], by rw [hat]; exact List.getElem?_eq_getElem hi, ?_⟩
              intro e he hb
              have h1 := low2B_at hlow i l[i] (List.getElem?_eq_getElem hi) e he hb
              have h2 := ihh e.on (by omega) (by omega)
              rw [← hboth listed e.on hs (by omega)]; exact h2
            rw [hr] at hmem
            cases hmem
      have h0 : leftN l.length listed = 0 := by
        unfold leftN
        rw [List.length_eq_zero_iff, List.filter_eq_nil_iff]
        intro i hi
        rw [hempty i (List.mem_range.1 hi)]; simp
      omega
    refine ⟨fun hr => absurd hr hne, fun i hi => ?_⟩
    obtain ⟨hun, o, ho, hdeps⟩ := mem_ready.1 hi
    have hol : l[i]? = some o := by rw [← hat]; exact ho
    have him : i < l.length := (List.getElem?_eq_some_iff.1 hol).1
    have hob1 := hob.at i o hol
    rw [Nat.zero_add] at hob1
    have hib : i < listed.size := by omega
    have hunf : listed.getD i false = false := by rw [← hboth listed i hs him]; exact hun
    have hset : ∀ j, (listed.setIfInBounds i true).getD j false = if j = i then true else listed.getD j false := fun j => getD_set hib
    have hleft : leftN l.length (listed.setIfInBounds i true) = f := by
      have := filter_one (p := fun j => !listed.getD j true) (q := fun j => !(listed.setIfInBounds i true).getD j true) (i := i) (fun j => by
        rw [getD_set hib]
        by_cases e : j = i
        · simp [e]
        · simp [e]) (by rw [hun]; rfl) List.nodup_range (List.mem_range.2 him)
      unfold leftN at hle ⊢
      omega
    have hd : DepsL ks vs x o.after.toList := depsL_of fun e he hb => by
      have h1 := low2B_at hlow i o hol e (by simpa using he) hb
      exact hF.val e.on (by omega) (hdeps e (by simpa using he) hb)
    obtain ⟨hput, hob2⟩ := hob1
    unfold wpOp
    rw [ho]
    simp only
    have hgo : ∀ V' u, C vs V' → (∀ k, stepAt ks i ≠ .turn k) → u = valueL ks vs i → knownL ks vs i → wpAny P .any ops Q f (listed.setIfInBounds i true) (fr (setX x i u)) V' := fun V' u hC hnt hu hkn =>
      ih _ vs _ _ (by simp [hs]) hleft hsm ⟨hC, fun j hj hl => by
        rw [hset] at hl
        by_cases e : j = i
        · subst e; rw [setX_same]; exact ⟨hu, hkn⟩
        · rw [setX_other _ e]; rw [if_neg e] at hl; exact hF.val j hj hl, fun j k hj hq => by
        have e : j ≠ i := fun e => by subst e; exact hnt k hq
        rw [hset, if_neg e]; exact hF.done j k hj hq⟩
    cases hkind : stepAt ks i with
    | val v =>
      rw [hkind] at hob2
      have h2 := hob2 x V vs hF.now hd
      have hnt : ∀ k, stepAt ks i ≠ .turn k := fun k e => by rw [hkind] at e; cases e
      have hv : valueL ks vs i = v := by unfold valueL; rw [hkind]
      have hkn : knownL ks vs i := by unfold knownL; rw [hkind]; trivial
      split
      · rename_i hw
        rw [if_pos hw] at h2
        exact .inl (wp_of_leads h2 fun u V' ⟨hu, hB⟩ => by
          rw [hput]
          exact hgo _ _ hB hnt (hu.trans hv.symm) hkn)
      · rename_i hw
        rw [if_neg hw] at h2
        rw [hput]
        exact hgo _ _ hF.now hnt (h2.trans hv.symm) hkn
    | same k =>
      rw [hkind] at hob2
      have h2 := hob2 x V vs hF.now hd
      have hnt : ∀ k, stepAt ks i ≠ .turn k := fun k e => by rw [hkind] at e; cases e
      have hv : valueL ks vs i = vs.getD k undef := by unfold valueL; rw [hkind]
      split
      · rename_i hw
        rw [if_pos hw] at h2
        exact .inl (wp_of_leads h2 fun u V' ⟨hu, hlt, hB⟩ => by
          rw [hput]
          exact hgo _ _ hB hnt (hu.trans hv.symm) (by unfold knownL; rw [hkind]; exact hlt))
      · rename_i hw
        rw [if_neg hw] at h2
        exact h2.elim
    | turn k =>
      rw [hkind] at hob2
      obtain ⟨ht1, ht2⟩ := steps_at hk (by omega) hkind
      have hks : vs.length ≤ k := by
        rcases Nat.lt_or_ge k vs.length with h | h
        · have := (hF.done i k (by omega) hkind).2 h
          rw [hunf] at this; cases this
        · exact h
      have hks2 : k ≤ vs.length := by
        rcases ht1 with h | ⟨o', ho', e, he, hb, q, hq, hqk⟩
        · omega
        · rw [hol] at ho'; cases ho'
          have h1 := low2B_at hlow i o hol e he hb
          have := (hF.done e.on q (by omega) hq).1 (hdeps e he hb)
          omega
      have hsk : vs.length = k := by omega
      have h2 := hob2 x V vs hsk hF.now hd
      have hsm2 : k < m := by
        have := List.all_eq_true.1 hm i (List.mem_range.2 (by omega))
        simpa only [hkind, decide_eq_true_eq] using this
      split
      · rename_i hw
        rw [if_pos hw] at h2
        exact .inl (wp_of_leads h2 fun u V' hB => by
          rw [hput]
          refine ih _ (vs ++ [u]) _ _ (by simp [hs]) hleft (by simp; omega) ⟨hB, fun j hj hl => ?_, fun j q hj hu => ?_⟩
          · rw [hset] at hl
            by_cases e : j = i
            · subst e
              rw [setX_same]
              unfold valueL knownL
              rw [hkind]
              simp [← hsk]
            · rw [setX_other _ e]
              rw [if_neg e] at hl
              obtain ⟨h5, h6⟩ := hF.val j hj hl
              obtain ⟨h7, h8⟩ := valueL_more h6 u
              exact ⟨h5.trans h7.symm, h8⟩
          · rw [hset]
            by_cases e : j = i
            · subst e; rw [hkind] at hu; cases hu; simp; omega
            · rw [if_neg e, hF.done j q hj hu]
              have : q ≠ k := fun h => e (ht2 j q hj hu h).symm
              simp; omega)
      · rename_i hw
        rw [if_neg hw] at h2
        exact h2.elim

theorem wp_region_L {id : Nat} {Q : Exit → Act → World → Prop} {l : List Oper} {a : Act} {w : World} (C : List Value → World → Prop) (m : Nat) (ks : List Step) (fr : (Nat → Value) → Act) (x : Nat → Value) (hM : P.follows .mixedOrders = true) (ha : a = fr x)
    (hn : ks.length = l.length) (hk : stepsB ks l = true) (hlow : low2B 0 l = true) (hm : ((List.range ks.length).all fun i => match stepAt ks i with | .turn k => decide (k < m) | _ => true) = true)
    (hm2 : ((List.range m).all fun k => (List.range ks.length).any fun i => match stepAt ks i with | .turn q => q == k | _ => false) = true) (hC : C [] w.drew) (hob : ObsL P l.toArray fr C ks 0 l)
    (hK : ∀ x V vs, vs.length = m → C vs V → (∀ i, i < ks.length → x i = valueL ks vs i) → Q .normal (fr x) V) : (Code.region id l.toArray true).wp P Q a w := by
  subst ha
  refine wp_region_any hM ?_
  have hle : leftN l.length (Array.replicate l.toArray.size false) = l.length := by
    unfold leftN
    have : ((List.range l.length).filter fun i => !(Array.replicate l.toArray.size false).getD i true) = List.range l.length := by
      rw [List.filter_eq_self]
      intro i hi
      have h1 := List.mem_range.1 hi
      simp [Array.getD, h1]
    rw [this]; simp
  have h := wpAny_of_L (Q := Q) (ops := l.toArray) rfl hn hk hlow hob m hm hm2 hK l.length _ [] x w.drew (by simp) hle (Nat.zero_le _)
    ⟨hC, (fun i _ h => by rw [getD_replicate_false] at h; cases h), (fun i k _ _ => by rw [getD_replicate_false]; simp)⟩
  rw [show l.toArray.size = l.length by simp] at h ⊢
  exact h

theorem ObL.of_val {i : Nat} {o : Oper} {v : Value} (hk : stepAt ks i = .val v) (hp : ∀ x v, (fr x).put o.dst v = fr (setX x i v))
    (h : ∀ x V vs, C vs V → DepsL ks vs x o.after.toList → if Region.wanted o (yielded ops (fr x).tmps) = true then leads P o (fr x) V (fun u V' => u = v ∧ C vs V') else undef = v) : ObL P ops fr C ks i o := by
  refine ⟨hp, ?_⟩
  rw [hk]; exact h
theorem ObL.of_same {i k : Nat} {o : Oper} (hk : stepAt ks i = .same k) (hp : ∀ x v, (fr x).put o.dst v = fr (setX x i v))
    (h : ∀ x V vs, C vs V → DepsL ks vs x o.after.toList → if Region.wanted o (yielded ops (fr x).tmps) = true then leads P o (fr x) V (fun u V' => u = vs.getD k undef ∧ k < vs.length ∧ C vs V') else False) : ObL P ops fr C ks i o := by
  refine ⟨hp, ?_⟩
  rw [hk]; exact h
theorem ObL.of_turn {i k : Nat} {o : Oper} (hk : stepAt ks i = .turn k) (hp : ∀ x v, (fr x).put o.dst v = fr (setX x i v))
    (h : ∀ x V vs, vs.length = k → C vs V → DepsL ks vs x o.after.toList → if Region.wanted o (yielded ops (fr x).tmps) = true then leads P o (fr x) V (fun u V' => C (vs ++ [u]) V') else False) : ObL P ops fr C ks i o := by
  refine ⟨hp, ?_⟩
  rw [hk]; exact h
theorem len_zero {vs : List Value} (h : vs.length = 0) : vs = [] := List.eq_nil_of_length_eq_zero h
theorem len_one {vs : List Value} (h : vs.length = 1) : ∃ a, vs = [a] := by
  match vs, h with
  | [a], _ => exact ⟨a, rfl⟩
theorem len_two {vs : List Value} (h : vs.length = 2) : ∃ a b, vs = [a, b] := by
  match vs, h with
  | [a, b], _ => exact ⟨a, b, rfl⟩
theorem len_three {vs : List Value} (h : vs.length = 3) : ∃ a b c, vs = [a, b, c] := by
  match vs, h with
  | [a, b, c], _ => exact ⟨a, b, c, rfl⟩
theorem len_four {vs : List Value} (h : vs.length = 4) : ∃ a b c d, vs = [a, b, c, d] := by
  match vs, h with
  | [a, b, c, d], _ => exact ⟨a, b, c, d, rfl⟩
end
end Go.Proofs.YtmaachmidgfhdaaGreatDoor

/-! Round -/
namespace Go.Proofs.YtmaachmidgfhdaaGreatDoor
open Go.RowKit

/-- What is asked of going on alone. -/
def onlyN (Q : Exit → Act → World → Prop) : Exit → Act → World → Prop
  | .normal, a, w => Q .normal a w
  | _, _, _ => False
@[go_sem] theorem onlyN_normal (Q : Exit → Act → World → Prop) (a : Act) (w : World) : onlyN Q .normal a w = Q .normal a w := rfl
/-- No operation defers. -/
def calmB : List Oper → Bool
  | [] => true
  | o :: r => (match o.op with | .defer _ => false | _ => true) && calmB r
theorem calmB_at : ∀ {l : List Oper}, calmB l = true → ∀ (i : Nat) o, l[i]? = some o → ∀ c, o.op ≠ .defer c
  | [], _, i, o, h => by simp at h
  | o' :: r, hc, 0, o, h => by
    simp at h; subst h
    intro c e
    simp [calmB, e] at hc
  | o' :: r, hc, i + 1, o, h => by
    simp only [calmB, Bool.and_eq_true] at hc
    exact calmB_at (l := r) hc.2 i o (by simpa using h)

section
variable {P : Program}
theorem operIn_of_wp {ro : Option Nat} {n : Nat} {Q : Exit → Act → World → Prop} {o : Oper} {a : Act} {w : World} {K : Act → World → Prop} (hd : ∀ c, o.op ≠ .defer c) (h : o.wp P a w K (onlyN Q)) : o.wpIn { Fence.wide with round := ro } n P a w K Q := by
  unfold Oper.wp at h
  unfold Oper.wpIn
  refine ⟨fun f _ => trivial, ?_⟩
  rw [Oper.semAt_eq _ _ _ hd]
  generalize (execOp a.eval o).run P w = r at *
  cases r with
  | ok x w' =>
    cases x <;> simp only [Oper.upon, Oper.uponIn] at h ⊢ <;>
      first
        | exact h
        | exact h.elim
        | exact ⟨fun he => (by cases he), callsIn_wide.2 (Calls.mono h fun e w'' he => by (cases e with | returned v => exact he | panicked c => exact he.elim | outgrown => obtain ⟨_, _, h3⟩ := he; exact h3.elim))⟩
        | exact ⟨fun he => (by cases he), fun c cs _ => by
            obtain ⟨v, w'', h1, h2⟩ := h c cs
            exact ⟨v, w'', h1, stepsIn_wide.2 h2⟩⟩
  | halt x w' => cases x <;> simp only [Oper.upon, Oper.uponIn] at h ⊢ <;> first | exact h.elim | exact h
theorem wpAny_in {ro : Option Nat} {n : Nat} {Q : Exit → Act → World → Prop} {l : List Oper} (hd : calmB l = true) : ∀ (f : Nat) (listed : Array Bool) (a : Act) (w : World),
    wpAny P .any l.toArray (onlyN Q) f listed a w → wpAnyIn { Fence.wide with round := ro } n P .any l.toArray Q f listed a w := by
  intro f
  induction f with
  | zero => exact fun listed a w h => h
  | succ f ih =>
    rintro listed a w ⟨h0, h1⟩
    refine ⟨h0, fun i hi => ?_⟩
    have h2 := h1 i hi
    unfold wpOp at h2
    unfold wpOpIn
    cases ho : l.toArray[i]? with
    | none => rw [ho] at h2; exact ih _ _ _ h2
    | some o =>
      rw [ho] at h2
      simp only at h2 ⊢
      split
      · rename_i hw
        rw [if_pos hw] at h2
        rcases h2 with h2 | h2
        · exact Oper.wpIn_mono (fun a w h => ih _ a w h) (operIn_of_wp (calmB_at hd i o (by simpa using ho)) h2)
        · obtain ⟨_, _, h3⟩ := h2.2; exact h3.elim
      · rename_i hw
        rw [if_neg hw] at h2
        exact ⟨fun f _ => trivial, ih _ _ _ h2⟩
theorem wpIn_region_factsT {ro : Option Nat} {n : Nat} {id : Nat} {Q : Exit → Act → World → Prop} {l : List Oper} {a : Act} {w : World} (m g : Nat) (C : World → Prop) (fs : List Fact) (new : List Nat) (fr : (Nat → Value) → Act) (x : Nat → Value) (hm : P.follows .mixedOrders = true) (ha : a = fr x) (hd : calmB l = true)
    (hmg : l.length = m + g) (hlow : lowB 0 (l.take m) = true) (hT : tailB l.toArray m g = true) (hC : C w.drew) (hCs : ∀ u v, C u → Below u.heap.size u v → C v) (hob : ObsT P l.toArray fr C fs new 0 (l.take m))
    (hK : ∀ x w, Known C fs new m (fun _ => true) x w → wpList P l.toArray (onlyN Q) (l.drop m) (fr x) w) : (Code.region id l.toArray true).wpIn { Fence.wide with round := ro } n P Q a w := by
  subst ha
  refine wpIn_region_any hm (wpAny_in hd _ _ _ _ ?_)
  have inv0 : HeadInv .any l.toArray m (Array.replicate l.toArray.size false) :=
    ⟨by simp, fun j oj _ hl => (by rw [getD_replicate_false] at hl; cases hl), fun t _ ht => getD_in (by simpa using ht) (getD_replicate_false _ _)⟩
  have hle : leftN m (Array.replicate l.toArray.size false) = m := by
    unfold leftN
    have : ((List.range m).filter fun i => !(Array.replicate l.toArray.size false).getD i true) = List.range m := by
      rw [List.filter_eq_self]
      intro i hi
      have h1 := List.mem_range.1 hi
      have h2 : i < l.length := by omega
      simp [Array.getD, h2]
    rw [this]; simp
  have h := wpAny_of_factsT (Q := onlyN Q) (ops := l.toArray) rfl hmg hCs hlow hT hob hK m _ x w.drew inv0 hle
    ⟨hC, (fun i _ h => by rw [getD_replicate_false] at h; cases h), (fun i _ _ h => by rw [getD_replicate_false] at h; cases h), (fun i j _ _ _ _ h => by rw [getD_replicate_false] at h; cases h)⟩
  rw [show l.toArray.size = m + g by simpa using hmg] at h ⊢
  exact h
theorem wpIn_region_S {ro : Option Nat} {n : Nat} {id : Nat} {Q : Exit → Act → World → Prop} {l : List Oper} {a : Act} {w : World} (C : Nat → World → Prop) (m : Nat) (ks : List Turn) (fr : (Nat → Value) → Act) (x : Nat → Value) (hM : P.follows .mixedOrders = true) (ha : a = fr x) (hd : calmB l = true)
    (hn : ks.length = l.length) (hk : turnsB ks l = true) (hlow : low2B 0 l = true) (hm : ((List.range ks.length).all fun i => match turnAt ks i with | .turn k _ => decide (k < m) | _ => true) = true)
    (hm2 : ((List.range m).all fun k => (List.range ks.length).any fun i => match turnAt ks i with | .turn q _ => q == k | _ => false) = true) (hC : C 0 w.drew) (hob : ObsS P l.toArray fr C ks 0 l)
    (hK : ∀ x V, C m V → (∀ i, i < ks.length → x i = (turnAt ks i).value) → Q .normal (fr x) V) : (Code.region id l.toArray true).wpIn { Fence.wide with round := ro } n P Q a w := by
  subst ha
  refine wpIn_region_any hM (wpAny_in hd _ _ _ _ ?_)
  have hle : leftN l.length (Array.replicate l.toArray.size false) = l.length := by
    unfold leftN
    have : ((List.range l.length).filter fun i => !(Array.replicate l.toArray.size false).getD i true) = List.range l.length := by
      rw [List.filter_eq_self]
      intro i hi
      have h1 := List.mem_range.1 hi
      simp [Array.getD, h1]
    rw [this]; simp
  have h := wpAny_of_S (Q := onlyN Q) (ops := l.toArray) rfl hn hk hlow hob m hm hm2 hK l.length _ 0 x w.drew (by simp) hle (Nat.zero_le _)
    ⟨hC, (fun i _ h => by rw [getD_replicate_false] at h; cases h), (fun i k v _ _ => by rw [getD_replicate_false]; simp)⟩
  rw [show l.toArray.size = l.length by simp] at h ⊢
  exact h
end
end Go.Proofs.YtmaachmidgfhdaaGreatDoor

/-! ChainW -/
namespace Go.Proofs.YtmaachmidgfhdaaGreatDoor
open Go.RowKit

/-- Does the operation wait for number i by an edge of its own? -/
def waitsW (l : List Oper) (t i : Nat) : Bool := match l[t]? with | some o => o.after.any fun e => Region.binds .any e && e.on == i | none => false
/-- No turn that waits for number i has been. -/
def AheadW (ks : List Step) (l : List Oper) (i : Nat) (vs : List Value) : Prop := ∀ k t, stepAt ks t = .turn k → waitsW l t i = true → vs.length ≤ k
def ObW (P : Program) (ops : Array Oper) (l : List Oper) (fr : (Nat → Value) → Act) (C : List Value → World → Prop) (ks : List Step) (i : Nat) (o : Oper) : Prop :=
  (∀ x v, (fr x).put o.dst v = fr (setX x i v)) ∧
  match stepAt ks i with
  | .val v => ∀ x V vs, AheadW ks l i vs → C vs V → DepsL ks vs x o.after.toList → if Region.wanted o (yielded ops (fr x).tmps) = true then leads P o (fr x) V (fun u V' => u = v ∧ C vs V') else undef = v
  | .same k => ∀ x V vs, AheadW ks l i vs → C vs V → DepsL ks vs x o.after.toList → if Region.wanted o (yielded ops (fr x).tmps) = true then leads P o (fr x) V (fun u V' => u = vs.getD k undef ∧ k < vs.length ∧ C vs V') else False
  | .turn k => ∀ x V vs, vs.length = k → C vs V → DepsL ks vs x o.after.toList → if Region.wanted o (yielded ops (fr x).tmps) = true then leads P o (fr x) V (fun u V' => C (vs ++ [u]) V') else False
def ObsW (P : Program) (ops : Array Oper) (l : List Oper) (fr : (Nat → Value) → Act) (C : List Value → World → Prop) (ks : List Step) : Nat → List Oper → Prop
  | _, [] => True
  | k, o :: r => ObW P ops l fr C ks k o ∧ ObsW P ops l fr C ks (k + 1) r

structure KnownW (C : List Value → World → Prop) (ks : List Step) (l : List Oper) (L : Nat → Bool) (vs : List Value) (x : Nat → Value) (V : World) : Prop where
  now : C vs V
  val : ∀ i, i < ks.length → L i = true → x i = valueL ks vs i ∧ knownL ks vs i
  done : ∀ i k, i < ks.length → stepAt ks i = .turn k → (L i = true ↔ k < vs.length)
  shut : ∀ t i, L t = true → waitsW l t i = true → L i = true

section
variable {P : Program} {ops : Array Oper} {l : List Oper} {fr : (Nat → Value) → Act} {C : List Value → World → Prop} {ks : List Step}

theorem ObsW.at : ∀ {m : List Oper} {k : Nat}, ObsW P ops l fr C ks k m → ∀ i o, m[i]? = some o → ObW P ops l fr C ks (k + i) o
  | [], _, _, i, o, h => by simp at h
  | o' :: r, k, h, 0, o, hi => by simp at hi; subst hi; exact h.1
  | o' :: r, k, h, i + 1, o, hi => by
    have := ObsW.at (m := r) h.2 i o (by simpa using hi)
    rw [show k + (i + 1) = k + 1 + i by omega]; exact this

theorem wpAny_of_W {Q : Exit → Act → World → Prop} (hl : ops = l.toArray) (hn : ks.length = l.length) (hk : stepsB ks l = true) (hlow : low2B 0 l = true) (hob : ObsW P ops l fr C ks 0 l) (m : Nat)
    (hm : ((List.range ks.length).all fun i => match stepAt ks i with | .turn k => decide (k < m) | _ => true) = true) (hm2 : ((List.range m).all fun k => (List.range ks.length).any fun i => match stepAt ks i with | .turn q => q == k | _ => false) = true)
    (hK : ∀ x V vs, vs.length = m → C vs V → (∀ i, i < ks.length → x i = valueL ks vs i) → Q .normal (fr x) V) :
    ∀ (f : Nat) (listed : Array Bool) (vs : List Value) (x : Nat → Value) (V : World), listed.size = l.length → leftN l.length listed = f → vs.length ≤ m → KnownW C ks l (fun i => listed.getD i false) vs x V → wpAny P .any ops Q f listed (fr x) V := by
  have hsz : ops.size = l.length := by rw [hl]; simp
  have hat : ∀ i : Nat, ops[i]? = l[i]? := fun i => by rw [hl]; simp
  have hboth : ∀ (listed : Array Bool) i, listed.size = l.length → i < l.length → listed.getD i true = listed.getD i false := by
    intro listed i hs hi
    have hb : i < listed.size := by omega
    simp [Array.getD, hb]
  intro f
  induction f with
  | zero =>
    intro listed vs x V hs hle hsm hF
    have h1 : ∀ i, i < l.length → listed.getD i true = true := by
      intro i hi
      have h0 : ((List.range l.length).filter fun i => !listed.getD i true) = [] := List.eq_nil_of_length_eq_zero hle
      have := (List.filter_eq_nil_iff.1 h0) i (List.mem_range.2 hi)
      simpa using this
    have hsm' : vs.length = m := by
      rcases Nat.lt_or_ge vs.length m with h | h
      · exfalso
        have h2 := List.all_eq_true.1 hm2 vs.length (List.mem_range.2 h)
        obtain ⟨i, hi, hq⟩ := List.any_eq_true.1 h2
        have hi' := List.mem_range.1 hi
        split at hq
        · rename_i q hv
          have hq' : q = vs.length := by simpa using hq
          have := (hF.done i q hi' hv).1 (by rw [← hboth listed i hs (by omega)]; exact h1 i (by omega))
          omega
        · cases hq
      · omega
    refine ⟨?_, hK x V vs hsm' hF.now fun i hi => (hF.val i hi (by rw [← hboth listed i hs (by omega)]; exact h1 i (by omega))).1⟩
    unfold Region.ready
    rw [List.filter_eq_nil_iff]
    intro i hi
    rw [hsz] at hi
    rw [h1 i (List.mem_range.1 hi)]; simp
  | succ f ih =>
    intro listed vs x V hs hle hsm hF
    have hne : Region.ready .any ops listed ≠ [] := by
      intro hr
      have hempty : ∀ i, i < l.length → listed.getD i true = true := by
        intro i
        induction i using Nat.strongRecOn with
        | _ i ihh =>
          intro hi
          cases hc : listed.getD i true with
          | true => rfl
          | false =>
            exfalso
            have hmem : i ∈ Region.ready .any ops listed := by
              rw [mem_ready]
              refine ⟨hc, l[i], by rw [hat]; exact List.getElem?_eq_getElem hi, ?_⟩
              intro e he hb
              have h1 := low2B_at hlow i l[i] (List.getElem?_eq_getElem hi) e he hb
              have h2 := ihh e.on (by omega) (by omega)
              rw [← hboth listed e.on hs (by omega)]; exact h2
            rw [hr] at hmem
            cases hmem
      have h0 : leftN l.length listed = 0 := by
        unfold leftN
        rw [List.length_eq_zero_iff, List.filter_eq_nil_iff]
        intro i hi
        rw [hempty i (List.mem_range.1 hi)]; simp
      omega
    refine ⟨fun hr => absurd hr hne, fun i hi => ?_⟩
    obtain ⟨hun, o, ho, hdeps⟩ := mem_ready.1 hi
    have hol : l[i]? = some o := by rw [← hat]; exact ho
    have him : i < l.length := (List.getElem?_eq_some_iff.1 hol).1
    have hob1 := hob.at i o hol
    rw [Nat.zero_add] at hob1
    have hib : i < listed.size := by omega
    have hunf : listed.getD i false = false := by rw [← hboth listed i hs him]; exact hun
    have hset : ∀ j, (listed.setIfInBounds i true).getD j false = if j = i then true else listed.getD j false := fun j => getD_set hib
    have hleft : leftN l.length (listed.setIfInBounds i true) = f := by
      have := filter_one (p := fun j => !listed.getD j true) (q := fun j => !(listed.setIfInBounds i true).getD j true) (i := i) (fun j => by
        rw [getD_set hib]
        by_cases e : j = i
        · simp [e]
        · simp [e]) (by rw [hun]; rfl) List.nodup_range (List.mem_range.2 him)
      unfold leftN at hle ⊢
      omega
    have hd : DepsL ks vs x o.after.toList := depsL_of fun e he hb => by
      have h1 := low2B_at hlow i o hol e (by simpa using he) hb
      exact hF.val e.on (by omega) (hdeps e (by simpa using he) hb)
    obtain ⟨hput, hob2⟩ := hob1
    unfold wpOp
    rw [ho]
    simp only
    have hwt : ∀ i2, waitsW l i i2 = true → listed.getD i2 false = true := fun i2 hw => by
      unfold waitsW at hw
      rw [hol] at hw
      simp only at hw
      obtain ⟨e, he, hb⟩ := Array.any_eq_true'.1 hw
      simp only [Bool.and_eq_true, beq_iff_eq] at hb
      have h1 := low2B_at hlow i o hol e he hb.1
      rw [← hb.2, ← hboth listed e.on hs (by omega)]
      exact (hboth listed e.on hs (by omega)).trans (hdeps e he hb.1)
    have hah : AheadW ks l i vs := fun k t ht hw => by
      rcases Nat.lt_or_ge k vs.length with h | h
      · exfalso
        have htl : t < ks.length := by
          rcases Nat.lt_or_ge t ks.length with h2 | h2
          · exact h2
          · exfalso
            have : stepAt ks t = .val undef := by simp [stepAt, List.getD, h2]
            rw [this] at ht; cases ht
        have h3 := (hF.done t k htl ht).2 h
        have h4 := hF.shut t i h3 hw
        rw [hunf] at h4; cases h4
      · exact h
    have hshut : ∀ t i2, (listed.setIfInBounds i true).getD t false = true → waitsW l t i2 = true → (listed.setIfInBounds i true).getD i2 false = true := fun t i2 ht hw => by
      rw [hset] at ht ⊢
      by_cases e2 : i2 = i
      · rw [if_pos e2]
      · rw [if_neg e2]
        by_cases e : t = i
        · subst e; exact hwt i2 hw
        · rw [if_neg e] at ht; exact hF.shut t i2 ht hw
    have hgo : ∀ V' u, C vs V' → (∀ k, stepAt ks i ≠ .turn k) → u = valueL ks vs i → knownL ks vs i → wpAny P .any ops Q f (listed.setIfInBounds i true) (fr (setX x i u)) V' := fun V' u hC hnt hu hkn =>
      ih _ vs _ _ (by simp [hs]) hleft hsm ⟨hC, fun j hj hl => by
        rw [hset] at hl
        by_cases e : j = i
        · subst e; rw [setX_same]; exact ⟨hu, hkn⟩
        · rw [setX_other _ e]; rw [if_neg e] at hl; exact hF.val j hj hl, fun j k hj hq => by
        have e : j ≠ i := fun e => by subst e; exact hnt k hq
        rw [hset, if_neg e]; exact hF.done j k hj hq, hshut⟩
    cases hkind : stepAt ks i with
    | val v =>
      rw [hkind] at hob2
      have h2 := hob2 x V vs hah hF.now hd
      have hnt : ∀ k, stepAt ks i ≠ .turn k := fun k e => by rw [hkind] at e; cases e
      have hv : valueL ks vs i = v := by unfold valueL; rw [hkind]
      have hkn : knownL ks vs i := by unfold knownL; rw [hkind]; trivial
      split
      · rename_i hw
        rw [if_pos hw] at h2
        exact .inl (wp_of_leads h2 fun u V' ⟨hu, hB⟩ => by
          rw [hput]
          exact hgo _ _ hB hnt (hu.trans hv.symm) hkn)
      · rename_i hw
        rw [if_neg hw] at h2
        rw [hput]
        exact hgo _ _ hF.now hnt (h2.trans hv.symm) hkn
    | same k =>
      rw [hkind] at hob2
      have h2 := hob2 x V vs hah hF.now hd
      have hnt : ∀ k, stepAt ks i ≠ .turn k := fun k e => by rw [hkind] at e; cases e
      have hv : valueL ks vs i = vs.getD k undef := by unfold valueL; rw [hkind]
      split
      · rename_i hw
        rw [if_pos hw] at h2
        exact .inl (wp_of_leads h2 fun u V' ⟨hu, hlt, hB⟩ => by
          rw [hput]
          exact hgo _ _ hB hnt (hu.trans hv.symm) (by unfold knownL; rw [hkind]; exact hlt))
      · rename_i hw
        rw [if_neg hw] at h2
        exact h2.elim
    | turn k =>
      rw [hkind] at hob2
      obtain ⟨ht1, ht2⟩ := steps_at hk (by omega) hkind
      have hks : vs.length ≤ k := by
        rcases Nat.lt_or_ge k vs.length with h | h
        · have := (hF.done i k (by omega) hkind).2 h
          rw [hunf] at this; cases this
        · exact h
      have hks2 : k ≤ vs.length := by
        rcases ht1 with h | ⟨o', ho', e, he, hb, q, hq, hqk⟩
        · omega
        · rw [hol] at ho'; cases ho'
          have h1 := low2B_at hlow i o hol e he hb
          have := (hF.done e.on q (by omega) hq).1 (hdeps e he hb)
          omega
      have hsk : vs.length = k := by omega
      have h2 := hob2 x V vs hsk hF.now hd
      have hsm2 : k < m := by
        have := List.all_eq_true.1 hm i (List.mem_range.2 (by omega))
        simpa only [hkind, decide_eq_true_eq] using this
      split
      · rename_i hw
        rw [if_pos hw] at h2
        exact .inl (wp_of_leads h2 fun u V' hB => by
          rw [hput]
          refine ih _ (vs ++ [u]) _ _ (by simp [hs]) hleft (by simp; omega) ⟨hB, fun j hj hl => ?_, fun j q hj hu => ?_, hshut⟩
          · rw [hset] at hl
            by_cases e : j = i
            · subst e
              rw [setX_same]
              unfold valueL knownL
              rw [hkind]
              simp [← hsk]
            · rw [setX_other _ e]
              rw [if_neg e] at hl
              obtain ⟨h5, h6⟩ := hF.val j hj hl
              obtain ⟨h7, h8⟩ := valueL_more h6 u
              exact ⟨h5.trans h7.symm, h8⟩
          · rw [hset]
            by_cases e : j = i
            · subst e; rw [hkind] at hu; cases hu; simp; omega
            · rw [if_neg e, hF.done j q hj hu]
              have : q ≠ k := fun h => e (ht2 j q hj hu h).symm
              simp; omega)
      · rename_i hw
        rw [if_neg hw] at h2
        exact h2.elim

theorem ObW.of_val {i : Nat} {o : Oper} {v : Value} (hk : stepAt ks i = .val v) (hp : ∀ x v, (fr x).put o.dst v = fr (setX x i v))
    (h : ∀ x V vs, AheadW ks l i vs → C vs V → DepsL ks vs x o.after.toList → if Region.wanted o (yielded ops (fr x).tmps) = true then leads P o (fr x) V (fun u V' => u = v ∧ C vs V') else undef = v) : ObW P ops l fr C ks i o := by
  refine ⟨hp, ?_⟩
  rw [hk]; exact h
theorem ObW.of_turn {i k : Nat} {o : Oper} (hk : stepAt ks i = .turn k) (hp : ∀ x v, (fr x).put o.dst v = fr (setX x i v))
    (h : ∀ x V vs, vs.length = k → C vs V → DepsL ks vs x o.after.toList → if Region.wanted o (yielded ops (fr x).tmps) = true then leads P o (fr x) V (fun u V' => C (vs ++ [u]) V') else False) : ObW P ops l fr C ks i o := by
  refine ⟨hp, ?_⟩
  rw [hk]; exact h
theorem wpIn_region_W {ro : Option Nat} {n : Nat} {id : Nat} {Q : Exit → Act → World → Prop} {a : Act} {w : World} (C : List Value → World → Prop) (m : Nat) (ks : List Step) (fr : (Nat → Value) → Act) (x : Nat → Value) (hM : P.follows .mixedOrders = true) (ha : a = fr x) (hd : calmB l = true)
    (hn : ks.length = l.length) (hk : stepsB ks l = true) (hlow : low2B 0 l = true) (hm : ((List.range ks.length).all fun i => match stepAt ks i with | .turn k => decide (k < m) | _ => true) = true)
    (hm2 : ((List.range m).all fun k => (List.range ks.length).any fun i => match stepAt ks i with | .turn q => q == k | _ => false) = true) (hC : C [] w.drew) (hob : ObsW P l.toArray l fr C ks 0 l)
    (hK : ∀ x V vs, vs.length = m → C vs V → (∀ i, i < ks.length → x i = valueL ks vs i) → Q .normal (fr x) V) : (Code.region id l.toArray true).wpIn { Fence.wide with round := ro } n P Q a w := by
  subst ha
  refine wpIn_region_any hM (wpAny_in hd _ _ _ _ ?_)
  have hle : leftN l.length (Array.replicate l.toArray.size false) = l.length := by
    unfold leftN
    have : ((List.range l.length).filter fun i => !(Array.replicate l.toArray.size false).getD i true) = List.range l.length := by
      rw [List.filter_eq_self]
      intro i hi
      have h1 := List.mem_range.1 hi
      simp [Array.getD, h1]
    rw [this]; simp
  have h := wpAny_of_W (Q := onlyN Q) (ops := l.toArray) rfl hn hk hlow hob m hm hm2 hK l.length _ [] x w.drew (by simp) hle (Nat.zero_le _)
    ⟨hC, (fun i _ h => by rw [getD_replicate_false] at h; cases h), (fun i k _ _ => by rw [getD_replicate_false]; simp), (fun t i h _ => by rw [getD_replicate_false] at h; cases h)⟩
  rw [show l.toArray.size = l.length by simp] at h ⊢
  exact h
end
/-- append to a row of the call's own, as an operation of a drawn region. -/
theorem leads_append_own {P : Program} {o : Oper} {a : Act} {w : World} {R : Value → World → Prop} (s x : Operand) (t : TypeId)
    (ho : o.op = .call { callee := .builtin .append, args := #[s, x], argTypes := #[t, t] })
    (base : Nat) (e : TypeId) (i : TypeInfo) (z : Value) (size bytes : Nat) (ht : P.underlying t = some (.slice e)) (hi : P.info? e = some i) (hz : i.zero = some z)
    (hsize : i.size = size) (hby : i.bytes = bytes) (hzs : z.cells.size = size) (hsz : 0 < size)
    (v : Value) (n : Nat) (xs : List Value) (hs : a.eval s = v) (hown : w.ownsRow base e size v n xs)
    (ad : Addr) (m c : Nat) (news : List Value) (hx : a.eval x = .slice (some ad) m c) (hl : news.length = m * size) (hnews : ∀ j u, news[j]? = some u → w.cell? (ad.add j) = some u) (h1 : ∀ u ∈ news, u.oneCell' = true)
    (h63 : n + m ≤ maxLen) (hbytes : (n + m) * bytes ≤ 140737488355328) (hbase : base ≤ w.heap.size)
    (h : ∀ v' w', w'.ownsRow base e size v' (n + m) (xs ++ news) → w.grownBy w' v.ownBlock → R v' w') : leads P o a w R := by
  obtain ⟨v', w', hr, h2, h3, -, -⟩ := run_append_own_at (P := P) w base t o.type e i z size bytes ht hi hz hsize hby hzs hsz v n xs hown ad m c news hl hnews h1 h63 hbytes hbase
  refine leads_value (v := v') (w' := w') ?_ (h v' w' h2 h3)
  unfold execOp
  simp only [ho, resolve, invoke, builtin, Sem.run_bind, Sem.run_pure, Result.andThen_ok, List.map_toArray, List.map_cons, List.map_nil, hs, hx, hr]
/-- What is loaded, inside a fence, by what its run answers. -/
theorem wpListIn_load_of {P : Program} {F : Fence} {n : Nat} {ops : Array Oper} {rest : List Oper} {o : Oper} {a : Act} {w : World} {Q : Exit → Act → World → Prop} (hgd : Region.wanted o (yielded ops a.tmps) = true) (ty : TypeId) (x : Operand) (ho : o.op = .load ty x)
    {v : Value} (hr : (execOp a.eval o).run P w = .ok (.value v) w) (hK : wpListIn F n P ops Q rest (a.put o.dst v) w) : wpListIn F n P ops Q (o :: rest) a w := by
  simp only [wpListIn]
  rw [if_pos hgd]
  unfold Oper.wpIn
  refine ⟨?_, ?_⟩
  · simp [Oper.about, ho]
  · rw [Oper.semAt_plain F _ _ (by rw [ho]; intro c hc'; cases hc'), hr]
    exact hK
end Go.Proofs.YtmaachmidgfhdaaGreatDoor

/-! WirM -/
namespace Go.Proofs.YtmaachmidgfhdaaGreatDoor

/-- A number's digits to the base 256, the most significant first. -/
def be : Nat → Nat → List UInt8
  | _, 0 => []
  | n, k + 1 => be (n / 256) k ++ [UInt8.ofNat n]
end Go.Proofs.YtmaachmidgfhdaaGreatDoor

/-! Arr -/
namespace Go.Proofs.YtmaachmidgfhdaaGreatDoor
open Go.RowKit

/-- An array's cells. -/
def arrC (k : IntKind) (n : Nat) (f : Nat → Nat) : Array Value := ((List.range n).map fun t => Value.int k (f t : Nat)).toArray
theorem arrC_size (k : IntKind) (n : Nat) (f : Nat → Nat) : (arrC k n f).size = n := by simp [arrC]
theorem arrC_get (k : IntKind) {n : Nat} (f : Nat → Nat) {i : Nat} (h : i < n) : (arrC k n f)[i]? = some (.int k (f i : Nat)) := by simp [arrC, h]
theorem arrC_congr {k : IntKind} {n : Nat} {f g : Nat → Nat} (h : ∀ t, t < n → f t = g t) : arrC k n f = arrC k n g := by
  unfold arrC
  congr 1
  exact List.map_congr_left fun t ht => by rw [h t (List.mem_range.1 ht)]
def setF (f : Nat → Nat) (k v : Nat) : Nat → Nat := fun t => if t = k then v else f t
theorem arrC_set (q : IntKind) {n : Nat} (f : Nat → Nat) {k : Nat} (v : Nat) (h : k < n) : (arrC q n f).setIfInBounds k (.int q (v : Nat)) = arrC q n (setF f k v) := by
  apply Array.ext_getElem?
  intro i
  rw [Array.getElem?_setIfInBounds]
  by_cases hi : i < n
  · rw [arrC_get _ _ hi]
    by_cases e : k = i
    · subst e; rw [arrC_get _ _ h]; simp [setF, arrC_size, h]
    · have e2 : ¬ i = k := fun h => e h.symm
      rw [if_neg e, arrC_get _ _ hi]; simp [setF, e2]
  · have h1 : ¬ k = i := by omega
    rw [if_neg h1]
    simp [arrC, hi]
theorem arrC_one (k : IntKind) (n : Nat) (f : Nat → Nat) : (arrC k n f).all (·.oneCell') = true := by simp [arrC, Value.oneCell']

def rowD (d : TypeDesc) : Bool := match d with | .struct _ | .array _ _ => true | _ => false
section
variable {P : Program}
theorem wpList_load_arr {ops : Array Oper} {rest : List Oper} {o : Oper} {a : Act} {w : World} {Q : Exit → Act → World → Prop} (hgd : o.guard = none) (ty : TypeId) (x : Operand) (ho : o.op = .load ty x)
    {b : Nat} {cs : Array Value} {t : TypeId} {d : TypeDesc} (hx : a.eval x = .pointer (some ⟨b, 0, none⟩)) (h : Blk w b cs t) (hu : P.underlying ty = some d) (hw : rowD d = true) (hi : (P.info? ty).map (·.size) = some cs.size) (hK : wpList P ops Q rest (a.put o.dst (.agg cs)) w) : wpList P ops Q (o :: rest) a w :=
  wpList_load_row hgd ty x ho b hx t cs (0, 0) d h hu (by cases d <;> simp_all [rowD]) hi hK
theorem wpList_store_arr {ops : Array Oper} {rest : List Oper} {o : Oper} {a : Act} {w : World} {Q : Exit → Act → World → Prop} (hgd : o.guard = none) (hd : o.dst = none) (ty : TypeId) (x y : Operand) (ho : o.op = .store ty x y)
    {b : Nat} {old new : Array Value} {t : TypeId} (hx : a.eval x = .pointer (some ⟨b, 0, none⟩)) (hy : a.eval y = .agg new) (h : Blk w b old t) (hi : (P.info? ty).map (·.size) = some new.size) (hs : old.size = new.size) (h1 : new.all (·.oneCell') = true)
    (hK : ∀ w', Put w w' b new t → wpList P ops Q rest a w') : wpList P ops Q (o :: rest) a w :=
  wpList_plain hgd fun K hK' => by
    unfold Oper.wp execOp
    simp only [ho, hx, hy, Instr.storeAt, Instr.sureAddr, Sem.run_bind, Sem.run_pure, Result.andThen_ok, run_storeVar_row w b t ty old new h hi hs h1]
    have e : a.put o.dst undef = a := by rw [hd]; rfl
    exact hK' _ _ (by rw [e]; exact hK _ ⟨⟨rfl, rfl, rfl, by simp, fun k _ hk => setRow_other w b k _ hk⟩, setRow_heap w b _ _ _ _ h⟩)
theorem results_arr {fn : Func} {p : Tmp} {ty : TypeId} (h : fn.results = #[.cell p ty]) {tmps : Array Value} {w : World} {b : Nat} {cs : Array Value} {t : TypeId} {d : TypeDesc} (hp : tmps.getD p undef = .pointer (some ⟨b, 0, none⟩)) (hr : Blk w b cs t) (hu : P.underlying ty = some d) (hw : rowD d = true) (hi : (P.info? ty).map (·.size) = some cs.size) :
    (results fn tmps).run P w = .ok (.agg cs) w :=
  results_cell_row h tmps w b t cs _ d hp hr hu (by cases d <;> simp_all [rowD]) hi
end
theorem Put.below {w w' : World} {b : Nat} {vs : Array Value} {t : TypeId} (h : Put w w' b vs t) {B : Nat} (hw : B ≤ w.heap.size) (hb : B ≤ b) : Below B w w' := h.chg.below hw fun k hk => by subst hk; exact hb
theorem Blk.below {B : Nat} {w w' : World} {b : Nat} {vs : Array Value} {t : TypeId} (h : Blk w b vs t) (hB : Below B w w') (hb : b < B) : Blk w' b vs t := (hB.block b hb).trans h
theorem Blk.set_other {w : World} {b : Nat} {vs : Array Value} {t : TypeId} (h : Blk w b vs t) {a : Addr} (ha : a.block ≠ b) (u : Value) : Blk (w.setCell a u) b vs t := (Below.heap_setCell w a u b (fun e => ha e.symm)).trans h
end Go.Proofs.YtmaachmidgfhdaaGreatDoor

/-! RegU -/
namespace Go.Proofs.YtmaachmidgfhdaaGreatDoor
open Go.RowKit

/-- What the call answers. -/
def tupU (e : Value) (cs : Array Value) : Value := .tuple #[.agg cs, e]
theorem tupU_inj {e : Value} {cs cs' : Array Value} (h : tupU e cs = tupU e cs') : cs = cs' := by
  unfold tupU at h
  simpa using h
/-- What is known of the struct, and the blocks in which it has parts. -/
structure KeepU where
  F : Array Value → World → Prop
  B : Array Value → Nat → Prop
  keep : ∀ (S : Nat → Prop) cs V V', F cs V → Chg S V V' → (∀ k, B cs k → ¬ S k) → F cs V'
  lt : ∀ cs V k, F cs V → B cs k → k < V.heap.size
theorem KeepU.below (K : KeepU) {cs : Array Value} {V V' : World} (h : K.F cs V) (hB : Below V.heap.size V V') : K.F cs V' :=
  K.keep _ _ _ _ h (Chg.ofBelow (S := fun _ => False) hB) fun _ _ h => h
/-- The operations: the call, its move, the struct taken, the block made, the store. -/
structure IxU (c m a l s : Nat) (smp : Nat → Option Value) : Prop where
  cm : c ≠ m
  ca : c ≠ a
  cl : c ≠ l
  cs : c ≠ s
  ma : m ≠ a
  ml : m ≠ l
  ms : m ≠ s
  al : a ≠ l
  as_ : a ≠ s
  ls : l ≠ s
  nc : smp c = none
  nm : smp m = none
  na : smp a = none
  nl : smp l = none
  ns : smp s = none
structure UI (W0 : World) (smp : Nat → Option Value) (c m a l s : Nat) (z : Array Value) (t : TypeId) (e : Value) (K : KeepU) (L : Nat → Bool) (x : Nat → Value) (V : World) : Prop where
  below : Below W0.heap.size W0 V
  vals : ∀ i v, smp i = some v → L i = true → x i = v
  call : L c = true → ∃ cs, x c = tupU e cs ∧ K.F cs V ∧ (L l = true → ¬ K.B cs (blkOf (x l)))
  mov : L m = true → L c = true ∧ x m = x c
  tak : L a = true → L m = true ∧ ∀ cs, x c = tupU e cs → x a = .agg cs
  lay : L l = true → W0.heap.size ≤ blkOf (x l) ∧ x l = .pointer (some ⟨blkOf (x l), 0, none⟩) ∧ (L s = false → Blk V (blkOf (x l)) z t) ∧ (L s = true → ∃ cs, x a = .agg cs ∧ Blk V (blkOf (x l)) cs t)
  sto : L s = true → L l = true ∧ L a = true
section
variable {W0 : World} {smp : Nat → Option Value} {c m a l s : Nat} {z : Array Value} {t : TypeId} {e : Value} {K : KeepU} {L : Nat → Bool} {x : Nat → Value} {V V' : World}
theorem UI.start (x : Nat → Value) : UI W0 smp c m a l s z t e K (fun _ => false) x W0 :=
  ⟨Below.refl _ _, (fun _ _ _ h => by cases h), (fun h => by cases h), (fun h => by cases h), (fun h => by cases h), (fun h => by cases h), (fun h => by cases h)⟩
theorem UI.ls (h : UI W0 smp c m a l s z t e K L x V) (hL : L l = true) : blkOf (x l) < V.heap.size := by
  obtain ⟨-, -, h3, h4⟩ := h.lay hL
  cases hs : L s with
  | false => exact (h3 hs).lt
  | true => obtain ⟨cs, -, h5⟩ := h4 hs; exact h5.lt
theorem UI.simple (hx : IxU c m a l s smp) (h : UI W0 smp c m a l s z t e K L x V) {i : Nat} {v : Value} (hi : smp i = some v) (hB : Below V.heap.size V V') : UI W0 smp c m a l s z t e K (setL L i) (setX x i v) V' := by
  have ec : c ≠ i := fun e => by have := hx.nc; rw [e, hi] at this; cases this
  have em : m ≠ i := fun e => by have := hx.nm; rw [e, hi] at this; cases this
  have ea : a ≠ i := fun e => by have := hx.na; rw [e, hi] at this; cases this
  have el : l ≠ i := fun e => by have := hx.nl; rw [e, hi] at this; cases this
  have es : s ≠ i := fun e => by have := hx.ns; rw [e, hi] at this; cases this
  refine ⟨h.below.trans (hB.mono h.below.size), fun j u hj hl => ?_, fun hl => ?_, fun hl => ?_, fun hl => ?_, fun hl => ?_, fun hl => ?_⟩
  · by_cases e : j = i
    · subst e; rw [setX_same]; rw [hi] at hj; exact Option.some.inj hj
    · rw [setX_other _ e]; rw [setL_other e] at hl; exact h.vals j u hj hl
  · rw [setL_other ec] at hl; rw [setX_other _ ec, setL_other el, setX_other _ el]
    obtain ⟨cs, h1, h2, h4⟩ := h.call hl
    exact ⟨cs, h1, K.below h2 hB, h4⟩
  · rw [setL_other em] at hl; rw [setL_other ec, setX_other _ ec, setX_other _ em]; exact h.mov hl
  · rw [setL_other ea] at hl; rw [setL_other em, setX_other _ ec, setX_other _ ea]; exact h.tak hl
  · rw [setL_other el] at hl; rw [setX_other _ el, setL_other es, setX_other _ ea]
    obtain ⟨h1, h2, h3, h4⟩ := h.lay hl
    refine ⟨h1, h2, fun hn => (h3 hn).below hB (h3 hn).lt, fun hy => ?_⟩
    obtain ⟨cs, h5, h6⟩ := h4 hy
    exact ⟨cs, h5, h6.below hB h6.lt⟩
  · rw [setL_other es] at hl; rw [setL_other el, setL_other ea]; exact h.sto hl
theorem UI.called (hx : IxU c m a l s smp) (h : UI W0 smp c m a l s z t e K L x V) (hL : L c = false) {cs : Array Value} (hF : K.F cs V') (hn : ∀ k, K.B cs k → V.heap.size ≤ k ∨ k < W0.heap.size) (hB : Below V.heap.size V V') : UI W0 smp c m a l s z t e K (setL L c) (setX x c (tupU e cs)) V' := by
  have nm : L m = false := by
    cases hc : L m with
    | false => rfl
    | true => have := (h.mov hc).1; rw [hL] at this; cases this
  have na : L a = false := by
    cases hc : L a with
    | false => rfl
    | true => have := (h.tak hc).1; rw [nm] at this; cases this
  have ns : L s = false := by
    cases hc : L s with
    | false => rfl
    | true => have := (h.sto hc).2; rw [na] at this; cases this
  refine ⟨h.below.trans (hB.mono h.below.size), fun j u hj hl => ?_, fun hl => ?_, fun hl => ?_, fun hl => ?_, fun hl => ?_, fun hl => ?_⟩
  · have ej : j ≠ c := fun e => by rw [e, hx.nc] at hj; cases hj
    rw [setX_other _ ej]; rw [setL_other ej] at hl; exact h.vals j u hj hl
  · rw [setX_same, setL_other hx.cl.symm, setX_other _ hx.cl.symm]
    exact ⟨cs, rfl, hF, fun hl2 hb => by have := h.ls hl2; have := (h.lay hl2).1; have := hn _ hb; omega⟩
  · rw [setL_other hx.cm.symm, nm] at hl; cases hl
  · rw [setL_other hx.ca.symm, na] at hl; cases hl
  · rw [setL_other hx.cl.symm] at hl; rw [setX_other _ hx.cl.symm, setL_other hx.cs.symm, setX_other _ hx.ca.symm]
    obtain ⟨h1, h2, h3, h4⟩ := h.lay hl
    exact ⟨h1, h2, fun hn => (h3 hn).below hB (h3 hn).lt, fun hy => by rw [ns] at hy; cases hy⟩
  · rw [setL_other hx.cs.symm, ns] at hl; cases hl
theorem UI.moved (hx : IxU c m a l s smp) (h : UI W0 smp c m a l s z t e K L x V) (hL : L c = true) : UI W0 smp c m a l s z t e K (setL L m) (setX x m (x c)) V := by
  refine ⟨h.below, fun j u hj hl => ?_, fun hl => ?_, fun hl => ?_, fun hl => ?_, fun hl => ?_, fun hl => ?_⟩
  · have ej : j ≠ m := fun e => by rw [e, hx.nm] at hj; cases hj
    rw [setX_other _ ej]; rw [setL_other ej] at hl; exact h.vals j u hj hl
  · rw [setL_other hx.cm] at hl; rw [setX_other _ hx.cm, setL_other hx.ml.symm, setX_other _ hx.ml.symm]; exact h.call hl
  · rw [setL_other hx.cm, setX_same, setX_other _ hx.cm]; exact ⟨hL, rfl⟩
  · rw [setL_other hx.ma.symm] at hl; rw [setL_same, setX_other _ hx.cm, setX_other _ hx.ma.symm]; exact ⟨rfl, (h.tak hl).2⟩
  · rw [setL_other hx.ml.symm] at hl; rw [setX_other _ hx.ml.symm, setL_other hx.ms.symm, setX_other _ hx.ma.symm]; exact h.lay hl
  · rw [setL_other hx.ms.symm] at hl; rw [setL_other hx.ml.symm, setL_other hx.ma.symm]; exact h.sto hl
theorem UI.taken (hx : IxU c m a l s smp) (h : UI W0 smp c m a l s z t e K L x V) (hN : L a = false) (hL : L m = true) {cs : Array Value} (hv : x c = tupU e cs) : UI W0 smp c m a l s z t e K (setL L a) (setX x a (.agg cs)) V := by
  have ns : L s = false := by
    cases hc : L s with
    | false => rfl
    | true => have := (h.sto hc).2; rw [hN] at this; cases this
  refine ⟨h.below, fun j u hj hl => ?_, fun hl => ?_, fun hl => ?_, fun hl => ?_, fun hl => ?_, fun hl => ?_⟩
  · have ej : j ≠ a := fun e => by rw [e, hx.na] at hj; cases hj
    rw [setX_other _ ej]; rw [setL_other ej] at hl; exact h.vals j u hj hl
  · rw [setL_other hx.ca] at hl; rw [setX_other _ hx.ca, setL_other hx.al.symm, setX_other _ hx.al.symm]; exact h.call hl
  · rw [setL_other hx.ma] at hl; rw [setL_other hx.ca, setX_other _ hx.ca, setX_other _ hx.ma]; exact h.mov hl
  · rw [setL_other hx.ma, setX_other _ hx.ca, setX_same]
    exact ⟨hL, fun cs' hcs => by rw [hv] at hcs; rw [tupU_inj hcs]⟩
  · rw [setL_other hx.al.symm] at hl; rw [setX_other _ hx.al.symm, setL_other hx.as_.symm, setX_same]
    obtain ⟨h1, h2, h3, h4⟩ := h.lay hl
    exact ⟨h1, h2, h3, fun hy => by rw [ns] at hy; cases hy⟩
  · rw [setL_other hx.as_.symm, ns] at hl; cases hl
theorem UI.laid (hx : IxU c m a l s smp) (h : UI W0 smp c m a l s z t e K L x V) (hN : L l = false) : UI W0 smp c m a l s z t e K (setL L l) (setX x l (.pointer (some ⟨V.heap.size, 0, none⟩))) (V.alloc (.cells z t)) := by
  have hB := belowNew V (.cells z t)
  have ns : L s = false := by
    cases hc : L s with
    | false => rfl
    | true => have := (h.sto hc).1; rw [hN] at this; cases this
  refine ⟨h.below.trans (hB.mono h.below.size), fun j u hj hl => ?_, fun hl => ?_, fun hl => ?_, fun hl => ?_, fun hl => ?_, fun hl => ?_⟩
  · have ej : j ≠ l := fun e => by rw [e, hx.nl] at hj; cases hj
    rw [setX_other _ ej]; rw [setL_other ej] at hl; exact h.vals j u hj hl
  · rw [setL_other hx.cl] at hl; rw [setX_other _ hx.cl, setX_same]
    obtain ⟨cs, h1, h2, -⟩ := h.call hl
    exact ⟨cs, h1, K.below h2 hB, fun _ hb => Nat.lt_irrefl _ (K.lt _ _ _ h2 hb)⟩
  · rw [setL_other hx.ml] at hl; rw [setL_other hx.cl, setX_other _ hx.cl, setX_other _ hx.ml]; exact h.mov hl
  · rw [setL_other hx.al] at hl; rw [setL_other hx.ml, setX_other _ hx.cl, setX_other _ hx.al]; exact h.tak hl
  · rw [setX_same, setL_other hx.ls.symm, setX_other _ hx.al]
    exact ⟨h.below.size, rfl, fun _ => Blk.new V _ _, fun hy => by rw [ns] at hy; cases hy⟩
  · rw [setL_other hx.ls.symm, ns] at hl; cases hl
theorem UI.stored (hx : IxU c m a l s smp) (h : UI W0 smp c m a l s z t e K L x V) (hL : L l = true) (hA : L a = true) {cs : Array Value} {u : Value} (hv : x a = .agg cs) (hp : Put V V' (blkOf (x l)) cs t) : UI W0 smp c m a l s z t e K (setL L s) (setX x s u) V' := by
  obtain ⟨k1, k2, -, -⟩ := h.lay hL
  refine ⟨h.below.trans (hp.chg.below h.below.size (fun k hk => by rw [hk]; exact k1)), fun j u hj hl => ?_, fun hl => ?_, fun hl => ?_, fun hl => ?_, fun hl => ?_, fun hl => ?_⟩
  · have ej : j ≠ s := fun e => by rw [e, hx.ns] at hj; cases hj
    rw [setX_other _ ej]; rw [setL_other ej] at hl; exact h.vals j u hj hl
  · rw [setL_other hx.cs] at hl; rw [setX_other _ hx.cs, setL_other hx.ls, setX_other _ hx.ls]
    obtain ⟨cs, h1, h2, h4⟩ := h.call hl
    exact ⟨cs, h1, K.keep _ _ _ _ h2 hp.chg (fun k hk e => h4 hL (by rw [← e]; exact hk)), h4⟩
  · rw [setL_other hx.ms] at hl; rw [setL_other hx.cs, setX_other _ hx.cs, setX_other _ hx.ms]; exact h.mov hl
  · rw [setL_other hx.as_] at hl; rw [setL_other hx.ms, setX_other _ hx.cs, setX_other _ hx.as_]; exact h.tak hl
  · rw [setX_other _ hx.ls, setL_same, setX_other _ hx.as_]
    exact ⟨k1, k2, (fun e => by cases e), fun _ => ⟨cs, hv, hp.blk⟩⟩
  · rw [setL_other hx.ls, setL_other hx.as_]; exact ⟨hL, hA⟩
/-- What is known behind the region. -/
theorem UI.last (h : UI W0 smp c m a l s z t e K L x V) (hs : L s = true) : ∃ b cs, x l = .pointer (some ⟨b, 0, none⟩) ∧ W0.heap.size ≤ b ∧ Blk V b cs t ∧ K.F cs V ∧ ¬ K.B cs b := by
  obtain ⟨hl, ha⟩ := h.sto hs
  obtain ⟨hm, hk⟩ := h.tak ha
  obtain ⟨hc, -⟩ := h.mov hm
  obtain ⟨cs, h1, h2, h4⟩ := h.call hc
  obtain ⟨k1, k2, -, k4⟩ := h.lay hl
  obtain ⟨cs', k5, k6⟩ := k4 hs
  rw [hk cs h1] at k5
  cases k5
  exact ⟨_, cs, k2, k1, k6, h2, h4 hl⟩
end
end Go.Proofs.YtmaachmidgfhdaaGreatDoor

/-! Mid -/
namespace Go.Proofs.YtmaachmidgfhdaaGreatDoor
open Go.RowKit

/-- The cells, with others from a place on. -/
def midC (cs : Array Value) (off : Nat) (new : Array Value) : Array Value := (cs.toList.take off ++ new.toList ++ cs.toList.drop (off + new.size)).toArray
theorem midC_get {cs new : Array Value} {off : Nat} (h : off + new.size ≤ cs.size) (j : Nat) : (midC cs off new)[j]? = if off ≤ j ∧ j < off + new.size then new[j - off]? else cs[j]? := by
  unfold midC
  rw [List.getElem?_toArray]
  have hl : (cs.toList.take off).length = off := by rw [List.length_take, Array.length_toList]; omega
  by_cases h1 : j < off
  · rw [if_neg (by omega), List.append_assoc, List.getElem?_append_left (by rw [hl]; exact h1), List.getElem?_take, if_pos h1, Array.getElem?_toList]
  · by_cases h2 : j < off + new.size
    · rw [if_pos ⟨by omega, h2⟩, List.append_assoc, List.getElem?_append_right (by rw [hl]; omega), hl, List.getElem?_append_left (by rw [Array.length_toList]; omega), Array.getElem?_toList]
    · rw [if_neg (by omega), List.getElem?_append_right (by rw [List.length_append, hl, Array.length_toList]; omega), List.length_append, hl, Array.length_toList, List.getElem?_drop, Array.getElem?_toList]
      congr 1; omega
section
variable {P : Program} {w : World}
theorem run_store_mid {g off : Nat} {cs new : Array Value} {t ty : TypeId} (h : Blk w g cs t) (hn : off + new.size ≤ cs.size) (h1 : new.all (·.oneCell') = true) (hi : (P.info? ty).map (·.size) = some new.size) :
    (storeVar ty ⟨g, off, none⟩ (.agg new)).run P w = .ok () (w.setRow g (midC cs off new)) := by
  have hst := run_storeCells_at P g off t new.toList 0 cs w h (by rw [Array.length_toList]; omega) (fun v hv => (Array.all_eq_true_iff_forall_mem.1 h1) v (by simpa using hv))
  rw [Nat.add_zero, Array.length_toList] at hst
  cases hq : P.info? ty with
  | none => simp [hq] at hi
  | some i =>
    have hs : i.size = new.size := by simpa [hq] using hi
    simp only [storeVar, sizeOf, typeInfo, Sem.run_bind, Sem.run_pure]
    simp [hst, Value.cells, hs, hq, midC]
theorem wpList_store_mid {ops : Array Oper} {rest : List Oper} {o : Oper} {a : Act} {Q : Exit → Act → World → Prop} (hgd : o.guard = none) (hd : o.dst = none) (ty : TypeId) (x y : Operand) (ho : o.op = .store ty x y)
    {g off : Nat} {cs new : Array Value} {t : TypeId} (hx : a.eval x = .pointer (some ⟨g, off, none⟩)) (hy : a.eval y = .agg new) (h : Blk w g cs t) (hn : off + new.size ≤ cs.size) (h1 : new.all (·.oneCell') = true) (hi : (P.info? ty).map (·.size) = some new.size)
    (hK : ∀ w', Put w w' g (midC cs off new) t → wpList P ops Q rest a w') : wpList P ops Q (o :: rest) a w :=
  wpList_plain hgd fun K hK' => by
    unfold Oper.wp execOp
    simp only [ho, hx, hy, Instr.storeAt, Instr.sureAddr, Sem.run_bind, Sem.run_pure, Result.andThen_ok, run_store_mid (P := P) h hn h1 hi]
    have e : a.put o.dst undef = a := by rw [hd]; rfl
    exact hK' _ _ (by rw [e]; exact hK _ ⟨⟨rfl, rfl, rfl, by simp, fun k _ hk => setRow_other w g k _ hk⟩, setRow_heap w g _ _ _ _ h⟩)
theorem run_load_part2 {g off : Nat} {cs new : Array Value} {t ty : TypeId} {d : TypeDesc} (h : Blk w g cs t) (hc : ∀ i, i < new.size → cs[off + i]? = new[i]?) (hu : P.underlying ty = some d) (hw : rowD d = true) (hi : (P.info? ty).map (·.size) = some new.size) :
    (loadVar ty ⟨g, off, none⟩).run P w = .ok (.agg new) w := by
  have hl : (loadCells ⟨g, off, none⟩ new.toList.length).run P w = .ok new.toList.toArray w :=
    run_loadCells_list (P := P) w ⟨g, off, none⟩ _ (fun j v hv => by
      have hj : j < new.size := by
        have := (List.getElem?_eq_some_iff.1 hv).1
        rwa [Array.length_toList] at this
      have hadd : (⟨g, off, none⟩ : Addr).add j = ⟨g, off + j, none⟩ := by unfold Addr.add; split <;> simp_all
      rw [Array.getElem?_toList] at hv
      rw [hadd, h.cell, hc j hj, hv])
  rw [Array.length_toList] at hl
  cases hq : P.info? ty with
  | none => simp [hq] at hi
  | some i =>
    have hs : i.size = new.size := by simpa [hq] using hi
    have hagg : (isAgg ty).run P w = .ok true w := by
      unfold isAgg
      rw [Sem.run_bind, run_underlying hu w]
      cases d <;> first | rfl | cases hw
    simp [loadVar, Sem.run_bind, hagg, sizeOf, typeInfo, hq, hs, hl]
theorem wpList_load_mid {ops : Array Oper} {rest : List Oper} {o : Oper} {a : Act} {Q : Exit → Act → World → Prop} (hgd : Region.wanted o (yielded ops a.tmps) = true) (ty : TypeId) (x : Operand) (ho : o.op = .load ty x)
    {g off : Nat} {cs new : Array Value} {t : TypeId} {d : TypeDesc} (hx : a.eval x = .pointer (some ⟨g, off, none⟩)) (h : Blk w g cs t) (hc : ∀ i, i < new.size → cs[off + i]? = new[i]?) (hu : P.underlying ty = some d) (hw : rowD d = true) (hi : (P.info? ty).map (·.size) = some new.size)
    (hK : wpList P ops Q rest (a.put o.dst (.agg new)) w) : wpList P ops Q (o :: rest) a w :=
  wpList_step fun _ hK' => by
    rw [if_pos hgd]
    unfold Oper.wp execOp
    simp only [ho, hx, Instr.loadAt, Instr.sureAddr, Sem.run_bind, Sem.run_pure, Result.andThen_ok, run_load_part2 (P := P) h hc hu hw hi]
    exact hK' _ _ hK
end
end Go.Proofs.YtmaachmidgfhdaaGreatDoor

/-! Slc -/
namespace Go.Proofs.YtmaachmidgfhdaaGreatDoor
open Go.RowKit

/-- These cells lie in memory from here on. -/
def CellsAt (w : World) (b off : Nat) (cs : Array Value) : Prop := ∀ j u, cs[j]? = some u → w.cell? ⟨b, off + j, none⟩ = some u
theorem CellsAt.below {B b off : Nat} {w w' : World} {cs : Array Value} (h : CellsAt w b off cs) (hB : Below B w w') (hb : b < B) : CellsAt w' b off cs := fun j u hu => (hB.cell (p := ⟨b, off + j, none⟩) hb).trans (h j u hu)
theorem CellsAt.chg {S : Nat → Prop} {b off : Nat} {w w' : World} {cs : Array Value} (h : CellsAt w b off cs) (hc : Chg S w w') (hlt : b < w.heap.size) (hb : ¬ S b) : CellsAt w' b off cs := fun j u hu => by
  rw [← h j u hu]; simp only [World.cell?, hc.block b hlt hb]
theorem wpList_of {P : Program} {ops : Array Oper} {rest : List Oper} {o : Oper} {a : Act} {w : World} {Q : Exit → Act → World → Prop} (hgd : Region.wanted o (yielded ops a.tmps) = true) {v : Value} (hr : (execOp a.eval o).run P w = .ok (.value v) w) (hK : wpList P ops Q rest (a.put o.dst v) w) : wpList P ops Q (o :: rest) a w :=
  wpList_step fun _ hK' => by
    rw [if_pos hgd]
    unfold Oper.wp
    rw [hr]
    exact hK' _ _ hK

section
variable {α : Type} {C : α → Array Value} {k : Nat} {ok : α → Prop}
/-- The cells of a row of such. -/
def flatC (C : α → Array Value) (l : List α) : List Value := l.flatMap fun c => (C c).toList
theorem flatC_app (l m : List α) : flatC C (l ++ m) = flatC C l ++ flatC C m := by simp [flatC]
theorem flatC_one (c : α) : flatC C [c] = (C c).toList := by simp [flatC]
theorem flatC_length (hk : ∀ c, (C c).size = k) : ∀ l : List α, (flatC C l).length = l.length * k
  | [] => by simp [flatC]
  | c :: l => by
    show ((C c).toList ++ flatC C l).length = _
    rw [List.length_append, flatC_length hk l, Array.length_toList, hk, List.length_cons, Nat.succ_mul, Nat.add_comm]
theorem flatC_get (hk : ∀ c, (C c).size = k) : ∀ (l : List α) (i : Nat) (h : i < l.length) (j : Nat) (u : Value), (C l[i])[j]? = some u → (flatC C l)[i * k + j]? = some u
  | c :: l, 0, _, j, u, hu => by
    have hj : j < (C c).size := (Array.getElem?_eq_some_iff.1 hu).1
    show ((C c).toList ++ flatC C l)[0 * k + j]? = some u
    rw [Nat.zero_mul, Nat.zero_add, List.getElem?_append_left (by rw [Array.length_toList]; exact hj), Array.getElem?_toList]
    exact hu
  | c :: l, i + 1, h, j, u, hu => by
    show ((C c).toList ++ flatC C l)[(i + 1) * k + j]? = some u
    rw [List.getElem?_append_right (by rw [Array.length_toList, hk, Nat.succ_mul]; omega), Array.length_toList, hk, show (i + 1) * k + j - k = i * k + j by rw [Nat.succ_mul]; omega]
    exact flatC_get hk l i (by simpa using h) j u hu
theorem flatC_cells (h1 : ∀ c, (C c).all (·.oneCell') = true) (l : List α) : ∀ u ∈ flatC C l, u.oneCell' = true := by
  intro u hu
  obtain ⟨c, -, h⟩ := List.mem_flatMap.1 hu
  have h2 := h1 c
  rw [Array.all_eq_true'] at h2
  exact h2 u (Array.mem_toList_iff.1 h)
/-- In the world w the slice v holds just these. -/
def SlAt (C : α → Array Value) (k : Nat) (ok : α → Prop) (w : World) (v : Value) (l : List α) : Prop :=
  ∃ p cap, v = .slice p l.length cap ∧ (l.length ≤ cap ∧ cap ≤ 9223372036854775807) ∧ (l ≠ [] → ∃ b off, p = some ⟨b, off, none⟩ ∧ b < w.heap.size ∧ ∀ i, (h : i < l.length) → ok l[i] ∧ CellsAt w b (off + i * k) (C l[i]))
theorem SlAt.below {B : Nat} {w w' : World} {v : Value} {l : List α} (h : SlAt C k ok w v l) (hB : Below B w w') (hs : w.heap.size ≤ B) : SlAt C k ok w' v l := by
  obtain ⟨p, cap, h1, h2, h3⟩ := h
  refine ⟨p, cap, h1, h2, fun hne => ?_⟩
  obtain ⟨b, off, h5, h6, h7⟩ := h3 hne
  exact ⟨b, off, h5, Nat.lt_of_lt_of_le h6 hB.size, fun i hi => ⟨(h7 i hi).1, (h7 i hi).2.below hB (Nat.lt_of_lt_of_le h6 hs)⟩⟩
theorem SlAt.chg {S : Nat → Prop} {w w' : World} {v : Value} {l : List α} (h : SlAt C k ok w v l) (hc : Chg S w w') (hS : ∀ a n c, v = .slice (some a) n c → ¬ S a.block) : SlAt C k ok w' v l := by
  obtain ⟨p, cap, rfl, h2, h3⟩ := h
  refine ⟨p, cap, rfl, h2, fun hne => ?_⟩
  obtain ⟨b, off, rfl, h6, h7⟩ := h3 hne
  exact ⟨b, off, rfl, Nat.lt_of_lt_of_le h6 hc.size, fun i hi => ⟨(h7 i hi).1, (h7 i hi).2.chg hc h6 (hS _ _ _ rfl)⟩⟩
theorem SlAt.nil (w : World) : SlAt C k ok w (.slice none 0 0) [] := ⟨none, 0, rfl, ⟨Nat.le_refl _, by decide⟩, fun h => absurd rfl h⟩
/-- A row that is owned is such a slice. -/
theorem SlAt.ofRow (hk : ∀ c, (C c).size = k) {w : World} {base e : Nat} {v : Value} {l : List α} (h : w.ownsRow base e k v l.length (flatC C l)) (hc : ∀ c ∈ l, ok c) : SlAt C k ok w v l := by
  obtain ⟨-, ⟨rfl, h0⟩ | ⟨g, cap, cur, rfl, hb, hg, hcp, hm, hs, ht⟩⟩ := h
  · have e0 : l = [] := List.eq_nil_of_length_eq_zero h0
    subst e0
    exact SlAt.nil w
  · refine ⟨_, cap, rfl, ⟨hcp, by unfold maxLen at hm; exact hm⟩, fun _ => ⟨g, 0, rfl, lt_of_block hg, fun i hi => ⟨hc _ (List.getElem_mem hi), fun j u hu => ?_⟩⟩⟩
    have hcell : ∀ k, w.cell? ⟨g, k, none⟩ = cur[k]? := fun k => Blk.cell (w := w) (t := e) hg k
    have hkk : ∀ k u, (flatC C l)[k]? = some u → cur[k]? = some u := fun k u hu => by
      rw [← ht, List.getElem?_take] at hu
      split at hu
      · rw [← hu, Array.getElem?_toList]
      · cases hu
    rw [Nat.zero_add, hcell]
    exact hkk _ _ (flatC_get hk l i hi j u hu)
/-- A block of just these. -/
theorem SlAt.ofBlk (hk : ∀ c, (C c).size = k) {w : World} {g : Nat} {t : TypeId} {l : List α} (h : Blk w g (flatC C l).toArray t) (hl : l.length ≤ 9223372036854775807) (hc : ∀ c ∈ l, ok c) : SlAt C k ok w (.slice (some ⟨g, 0, none⟩) l.length l.length) l :=
  ⟨_, l.length, rfl, ⟨Nat.le_refl _, hl⟩, fun _ => ⟨g, 0, rfl, h.lt, fun i hi => ⟨hc _ (List.getElem_mem hi), fun j u hu => by
    rw [Nat.zero_add, Blk.cell h, List.getElem?_toArray]
    exact flatC_get hk l i hi j u hu⟩⟩⟩
/-- .. and it is a row that is owned. -/
theorem own_ofBlk (hk : ∀ c, (C c).size = k) {w : World} {base g : Nat} {t : TypeId} {l : List α} (h : Blk w g (flatC C l).toArray t) (hl : l.length ≤ maxLen) (hb : base ≤ g) : w.ownsRow base t k (.slice (some ⟨g, 0, none⟩) l.length l.length) l.length (flatC C l) :=
  ⟨flatC_length hk l, .inr ⟨g, l.length, _, rfl, hb, h, Nat.le_refl _, hl, by simp [flatC_length hk], by
    rw [List.toList_toArray]; exact List.take_of_length_le (by rw [flatC_length hk]; exact Nat.le_refl _)⟩⟩
theorem own_belowC {w w' : World} {base e n z : Nat} {v : Value} {xs : List Value} (h : w.ownsRow base e z v n xs) (hB : Below w.heap.size w w') : w'.ownsRow base e z v n xs := by
  obtain ⟨h1, h2⟩ := h
  refine ⟨h1, ?_⟩
  rcases h2 with h2 | ⟨g, cap, cur, rfl, hg, hgg, rest⟩
  · exact .inl h2
  · exact .inr ⟨g, cap, cur, rfl, hg, (hB.block g (Array.getElem?_eq_some_iff.1 hgg).1).trans hgg, rest⟩
theorem own_snocC {w : World} {base e : Nat} {v : Value} {l : List α} {c : α} (h : w.ownsRow base e k v (l.length + 1) (flatC C l ++ (C c).toList)) : w.ownsRow base e k v (l ++ [c]).length (flatC C (l ++ [c])) := by
  rw [List.length_append, List.length_singleton, flatC_app, flatC_one]; exact h
/-- What a slice's cells are, in a row. -/
theorem SlAt.news (hk : ∀ c, (C c).size = k) (hk0 : 0 < k) {w : World} {b off n c : Nat} {l : List α} (h : SlAt C k ok w (.slice (some ⟨b, off, none⟩) n c) l) : ∀ j u, (flatC C l)[j]? = some u → w.cell? ((⟨b, off, none⟩ : Addr).add j) = some u := by
  intro j u hu
  have hj : j < l.length * k := by rw [← flatC_length hk l]; exact (List.getElem?_eq_some_iff.1 hu).1
  obtain ⟨p, cap, he, -, h3⟩ := h
  obtain ⟨b2, off2, h5, -, h7⟩ := h3 (fun e => by rw [e] at hj; simp at hj)
  cases he; cases h5
  have hd : j / k < l.length := (Nat.div_lt_iff_lt_mul hk0).2 hj
  have hm : j % k < k := Nat.mod_lt _ hk0
  obtain ⟨x, hx⟩ : ∃ x, (C l[j / k])[j % k]? = some x := ⟨(C l[j / k])[j % k]'(by rw [hk]; exact hm), Array.getElem?_eq_getElem _⟩
  have h2 := flatC_get hk l (j / k) hd (j % k) x hx
  rw [show j / k * k + j % k = j from Nat.div_add_mod' j k, hu] at h2
  cases h2
  have h8 := (h7 (j / k) hd).2 (j % k) u hx
  have hadd : (⟨b, off, none⟩ : Addr).add j = ⟨b, off + j, none⟩ := by unfold Addr.add; split <;> simp_all
  rw [hadd, ← h8, Nat.add_assoc, show j / k * k + j % k = j from Nat.div_add_mod' j k]
theorem SlAt.shape {w : World} {v : Value} {l : List α} (h : SlAt C k ok w v l) (hne : l ≠ []) : ∃ b off cap, v = .slice (some ⟨b, off, none⟩) l.length cap ∧ l.length ≤ cap ∧ cap ≤ 9223372036854775807 ∧ b < w.heap.size := by
  obtain ⟨p, cap, rfl, ⟨h1, h2⟩, h3⟩ := h
  obtain ⟨b, off, rfl, h6, -⟩ := h3 hne
  exact ⟨b, off, cap, rfl, h1, h2, h6⟩
theorem SlAt.elem {w : World} {b off n c : Nat} {l : List α} (h : SlAt C k ok w (.slice (some ⟨b, off, none⟩) n c) l) {i : Nat} (hi : i < l.length) : ok l[i] ∧ CellsAt w b (off + i * k) (C l[i]) := by
  obtain ⟨p, cap, he, -, h3⟩ := h
  obtain ⟨b2, off2, h5, -, h7⟩ := h3 (fun e => by rw [e] at hi; cases hi)
  cases he; cases h5
  exact h7 i hi
theorem SlAt.drop {w : World} {b off n c d : Nat} {l : List α} (h : SlAt C k ok w (.slice (some ⟨b, off, none⟩) n c) l) : SlAt C k ok w (.slice (some ⟨b, off + d * k, none⟩) (n - d) (c - d)) (l.drop d) := by
  obtain ⟨p, cap, he, ⟨h1, h2⟩, h3⟩ := h
  cases he
  refine ⟨_, c - d, by rw [List.length_drop], ⟨by rw [List.length_drop]; omega, by omega⟩, fun hne => ?_⟩
  obtain ⟨b2, off2, h5, h6, h7⟩ := h3 (fun e => by rw [e] at hne; simp at hne)
  cases h5
  refine ⟨b, off + d * k, rfl, h6, fun i hi => ?_⟩
  have hi2 : d + i < l.length := by rw [List.length_drop] at hi; omega
  have h8 := h7 (d + i) hi2
  rw [List.getElem_drop, show off + d * k + i * k = off + (d + i) * k by rw [Nat.add_mul]; omega]
  exact h8
end
end Go.Proofs.YtmaachmidgfhdaaGreatDoor

/-! MapR -/
namespace Go.Proofs.YtmaachmidgfhdaaGreatDoor
open Go.RowKit

theorem infoByte : ∃ i, Tryz.prog.info? 5 = some i := Go.info_of_underlying Tryz.underlying5
end Go.Proofs.YtmaachmidgfhdaaGreatDoor

/-! RelA -/
namespace Go.Proofs.YtmaachmidgfhdaaGreatDoor
open Go.RowKit

theorem ints_one (W : World) (a : Int) : IntsAt (W.alloc (.cells #[.int .i64 a] 3)) (.slice (some ⟨W.heap.size, 0, none⟩) 1 1) [a] := by
  refine ⟨_, 1, rfl, by simp, fun _ => ⟨W.heap.size, 0, rfl, fun i hi => ?_⟩⟩
  have h := heap_alloc_new W (.cells #[.int .i64 a] 3)
  have : i = 0 := by simp at hi; omega
  subst this
  simp only [World.cell?, h, Nat.zero_add]
  rfl
theorem ofL_one {t : Nat} (h : t < 16) : ofL 0 [(t : Int)] = pw t := by
  unfold ofL ofL
  rw [if_pos (by omega)]
  unfold withN pw; simp
theorem pw_lt {t : Nat} (h : t < 16) : pw t < 65536 := Nat.lt_of_le_of_lt (pw_le (by omega)) (by decide)
end Go.Proofs.YtmaachmidgfhdaaGreatDoor

/-! LabT -/
namespace Go.Proofs.YtmaachmidgfhdaaGreatDoor
open Go.RowKit

theorem textL_arr (a b : Nat) : (⟨(textN a).toArray⟩ : ByteArray) ++ (⟨#[47]⟩ : ByteArray) ++ (⟨(textN b).toArray⟩ : ByteArray) = ⟨(textL a b).toArray⟩ := by
  rw [show (⟨#[47]⟩ : ByteArray) = ⟨[47].toArray⟩ from rfl, ByteArray.mk_append_mk, ByteArray.mk_append_mk]
  unfold textL
  rw [List.append_assoc]; rfl
theorem textL_len (a b : Nat) : (textL a b).length ≤ 97 := by
  unfold textL
  have h1 := textN_len a
  have h2 := textN_len b
  simp; omega

set_option maxRecDepth 100000 in
set_option maxHeartbeats 1000000 in
theorem lText_any (a b : Nat) (ha : a < 65536) (hb : b < 65536) (w : World) (hE : Env w) :
    Calls Tryz.prog 35 #[.agg #[.int .u16 a, .int .u16 b]] w fun e w' => e = .returned (.string ⟨(textL a b).toArray⟩) ∧ Below w.heap.size w w' := by
  have hs1 := textN_len a
  have hs2 := textN_len b
  have hz1 : (⟨(textN a).toArray⟩ : ByteArray).size = (textN a).length := strB_size _
  have hz2 : (⟨(textN b).toArray⟩ : ByteArray).size = (textN b).length := strB_size _
  have hz3 : (⟨#[47]⟩ : ByteArray).size = 1 := rfl
  have hz4 : ((⟨(textN a).toArray⟩ : ByteArray) ++ (⟨#[47]⟩ : ByteArray)).size = (textN a).length + 1 := by rw [ByteArray.size_append, hz1, hz3]
  have n1 : ¬ 9223372036854775807 < (textN a).length + 1 := by omega
  have n2 : ¬ 9223372036854775807 < (textN a).length + 1 + (textN b).length := by omega
  have HX := Lib.hid (textL_arr a b)
  have hW : Below w.heap.size w (w.alloc (.cells #[.int .u16 a, .int .u16 b] 24)) := below_one w _
  have k0 : (w.alloc (.cells #[.int .u16 a, .int .u16 b] 24)).cell? ⟨w.heap.size, 0, none⟩ = some (.int .u16 a) := (Pair.new w _ _).cell0
  have k1 : (w.alloc (.cells #[.int .u16 a, .int .u16 b] 24)).cell? ⟨w.heap.size, 1, none⟩ = some (.int .u16 b) := (Pair.new w _ _).cell1
  have HE := Lib.hid (hE.below hW hE.lt)
  have K0 := Lib.hid k0
  have K1 := Lib.hid k1
  have HW := Lib.hid hW
  clear k0 k1 hW hE
  have HTa := Lib.hid (fun V hV => Text_any a ha V hV)
  have HTb := Lib.hid (fun V hV => Text_any b hb V hV)
  generalize textL a b = tl at *
  generalize textN a = ta at *
  generalize textN b = tb at *
  go_enter Tryz.func35, Tryz.ntmps35
  go_wp2_with fail
  generalize w.alloc (.cells #[.int .u16 a, .int .u16 b] 24) = W at *
  have k0 := cell_regrown K0.out
  have k1 := cell_regrown K1.out
  have cA := calm (w := W) (fun V hV => HTa.out V (HE.out.below hV HE.out.lt))
  have cB := calm (w := W) (fun V hV => HTb.out V (HE.out.below hV HE.out.lt))
  refine wp_region_quiet_below (by kernel_rfl) (by kernel_rfl) ?_
  repeat (quiet_step (first | with_reducible exact cA _ _ | with_reducible exact cB _ _))
  refine wpQuiet_nil ?_
  intro _ hw'
  obtain ⟨⟨dq, osq⟩, hw''⟩ := hw'
  subst hw''
  clear cA cB k0 k1
  go_wp2_with fail
  go_ret
  exact ⟨by rw [HX.out]; rfl, HW.out.trans ((below_regrown W dq osq).mono HW.out.size)⟩

set_option maxRecDepth 100000 in
set_option maxHeartbeats 1000000 in
theorem rLText_any (a b : Nat) (ha : a < 65536) (hb : b < 65536) (w : World) :
    Calls Tryz.prog 39 #[.agg #[.int .u16 a, .int .u16 b]] w fun e w' => e = .returned (.string ⟨(textL a b).toArray⟩) ∧ Below w.heap.size w w' := by
  have hs1 := textN_len a
  have hs2 := textN_len b
  have hz1 : (⟨(textN a).toArray⟩ : ByteArray).size = (textN a).length := strB_size _
  have hz2 : (⟨(textN b).toArray⟩ : ByteArray).size = (textN b).length := strB_size _
  have hz3 : (⟨#[47]⟩ : ByteArray).size = 1 := rfl
  have hz4 : ((⟨(textN a).toArray⟩ : ByteArray) ++ (⟨#[47]⟩ : ByteArray)).size = (textN a).length + 1 := by rw [ByteArray.size_append, hz1, hz3]
  have n1 : ¬ 9223372036854775807 < (textN a).length + 1 := by omega
  have n2 : ¬ 9223372036854775807 < (textN a).length + 1 + (textN b).length := by omega
  have HX := Lib.hid (textL_arr a b)
  have hW : Below w.heap.size w (w.alloc (.cells #[.int .u16 a, .int .u16 b] 24)) := below_one w _
  have k0 : (w.alloc (.cells #[.int .u16 a, .int .u16 b] 24)).cell? ⟨w.heap.size, 0, none⟩ = some (.int .u16 a) := (Pair.new w _ _).cell0
  have k1 : (w.alloc (.cells #[.int .u16 a, .int .u16 b] 24)).cell? ⟨w.heap.size, 1, none⟩ = some (.int .u16 b) := (Pair.new w _ _).cell1
  have K0 := Lib.hid k0
  have K1 := Lib.hid k1
  have HW := Lib.hid hW
  clear k0 k1 hW
  have HTa := Lib.hid (fun V => rText_any a ha V)
  have HTb := Lib.hid (fun V => rText_any b hb V)
  generalize textL a b = tl at *
  generalize textN a = ta at *
  generalize textN b = tb at *
  go_enter Tryz.func39, Tryz.ntmps39
  go_wp2_with fail
  generalize w.alloc (.cells #[.int .u16 a, .int .u16 b] 24) = W at *
  have k0 := cell_regrown K0.out
  have k1 := cell_regrown K1.out
  have cA := calm_any (w := W) HTa.out
  have cB := calm_any (w := W) HTb.out
  refine wp_region_quiet_below (by kernel_rfl) (by kernel_rfl) ?_
  repeat (quiet_step (first | with_reducible exact cA _ _ | with_reducible exact cB _ _))
  refine wpQuiet_nil ?_
  intro _ hw'
  obtain ⟨⟨dq, osq⟩, hw''⟩ := hw'
  subst hw''
  clear cA cB k0 k1
  go_wp2_with fail
  go_ret
  exact ⟨by rw [HX.out]; rfl, HW.out.trans ((below_regrown W dq osq).mono HW.out.size)⟩

/-! strings.Cut at a slash -/

set_option maxHeartbeats 400000 in
theorem iCutS_no (s : ByteArray) (w : World) (h : (47 : UInt8) ∉ s.data.toList) :
    Calls Tryz.prog 96 #[.string s, .string ⟨#[47]⟩] w fun e w' => e = .returned (.tuple #[.string s, .string ⟨#[]⟩, .bool false]) ∧ w = w' := by
  have HI := Lib.hid (indexByte_none h)
  go_enter Tryz.func96, Tryz.ntmps96
  go_wp2_with (go_at_call 95; refine (Tryz.stringslite_Index_one _ _ _).mono ?_; rintro e w' ⟨rfl, rfl⟩; rw [HI.out])
  go_ret3
  exact ⟨rfl, rfl⟩

set_option maxHeartbeats 400000 in
theorem iCutS_yes (s : ByteArray) (a b : List UInt8) (w : World) (hs : s.size ≤ 9223372036854775807) (h : s.data.toList = a ++ 47 :: b) (ha : (47 : UInt8) ∉ a) :
    Calls Tryz.prog 96 #[.string s, .string ⟨#[47]⟩] w fun e w' => e = .returned (.tuple #[.string (strB a), .string (strB b), .bool true]) ∧ Seen w w' := by
  have HI := Lib.hid (show Lib.indexByte s.data.toList 47 = (a.length : Int) by rw [h]; exact indexByte_some b ha)
  have hsz : s.size = s.data.toList.length := rfl
  have e1 : s.extract 0 a.length = strB a := by
    apply strB_of; rw [Lib.extract_data, h]; simp
  have e2 : s.extract (a.length + 1) s.size = strB b := by
    apply strB_of; rw [Lib.extract_to_end, h]; simp [List.drop_append]
  have hl : a.length + 1 ≤ s.size := by rw [hsz, h]; simp
  have E1 := Lib.hid e1
  have E2 := Lib.hid e2
  clear hsz h e1 e2 ha
  generalize hk : a.length = k at *
  have HK := Lib.hid hk
  clear hk
  have b0 : (0 : Int) ≤ k := by omega
  have b1 : (k : Int) ≤ s.size := by omega
  have b2 : (0 : Int) ≤ (k : Int) + 1 := by omega
  have b3 : (k : Int) + 1 ≤ s.size := by omega
  go_enter Tryz.func96, Tryz.ntmps96
  go_wp2_with (go_at_call 95; refine (Tryz.stringslite_Index_one _ _ _).mono ?_; rintro e w' ⟨rfl, rfl⟩; rw [HI.out])
  go_quiet (fail)
  go_wp2
  go_ret3
  exact ⟨by rw [E1.out, E2.out]; rfl, nq, rfl⟩

set_option maxHeartbeats 400000 in
theorem CutS_no (l : List UInt8) (w : World) (h : (47 : UInt8) ∉ l) :
    Calls Tryz.prog 85 #[.string ⟨l.toArray⟩, .string ⟨#[47]⟩] w fun e w' => e = .returned (.tuple #[.string ⟨l.toArray⟩, .string ⟨#[]⟩, .bool false]) ∧ Below w.heap.size w w' := by
  go_enter Tryz.func85, Tryz.ntmps85
  go_wp2_with (go_at_call 96; refine (iCutS_no _ _ h).mono ?_; rintro e w' ⟨rfl, rfl⟩)
  go_ret3
  exact ⟨rfl, Below.refl _ _⟩

set_option maxHeartbeats 400000 in
theorem CutS_yes (l a b : List UInt8) (w : World) (hs : l.length ≤ 1000) (h : l = a ++ 47 :: b) (ha : (47 : UInt8) ∉ a) :
    Calls Tryz.prog 85 #[.string ⟨l.toArray⟩, .string ⟨#[47]⟩] w fun e w' => e = .returned (.tuple #[.string ⟨a.toArray⟩, .string ⟨b.toArray⟩, .bool true]) ∧ Below w.heap.size w w' := by
  have H := Lib.hid (fun W => iCutS_yes ⟨l.toArray⟩ a b W (by have := strB_size l; unfold strB at this; omega) h ha)
  clear h
  go_enter Tryz.func85, Tryz.ntmps85
  go_wp2_with (go_at_call 96; refine (H.out _).mono ?_; rintro e w' ⟨rfl, nq, rfl⟩)
  go_ret3
  exact ⟨rfl, below_drewN' _ _⟩

/-- What the two parsers of labels answer to a text. -/
def IsText (l : List UInt8) : Prop := ∃ a b : Nat, a < 65536 ∧ b < 65536 ∧ textL a b = l

set_option maxRecDepth 100000 in
set_option maxHeartbeats 2000000 in
theorem lParse_yes (a b : Nat) (ha : a < 65536) (hb : b < 65536) (w : World) (hE : Env w) :
    Calls Tryz.prog 72 #[.string ⟨(textL a b).toArray⟩] w fun e w' => e = .returned (.tuple #[.agg #[.int .u16 a, .int .u16 b], .int .i64 0]) ∧ Below w.heap.size w w' := by
  have hC := fun W => CutS_yes (textL a b) (textN a) (textN b) W (by have := textL_len a b; omega) rfl (textN_slash a)
  have hA := fun W hW => Parse_is ⟨(textN a).toArray⟩ a ha rfl (by have h1 := strB_size (textN a); have := textN_len a; unfold strB at h1; omega) W hW
  have hB := fun W hW => Parse_is ⟨(textN b).toArray⟩ b hb rfl (by have h1 := strB_size (textN b); have := textN_len b; unfold strB at h1; omega) W hW
  have HC := Lib.hid hC
  have HA := Lib.hid hA
  have HB := Lib.hid hB
  have HE := Lib.hid hE
  have hL := hE.lt
  clear hC hA hB hE
  generalize textL a b = l at *
  generalize textN a = ta at *
  generalize textN b = tb at *
  go_enter Tryz.func72, Tryz.ntmps72
  go_wp2_with fail
  (with_reducible refine (HC.out _).mono ?_); rintro e w1 ⟨rfl, hB1⟩
  have hP := (Pair.new w (.int .u16 0) (.int .u16 0)).below hB1 (by simp)
  have hBw := (below_one w _).trans (hB1.mono (by simp))
  clear hB1
  have HP := Lib.hid hP
  clear hP
  go_wp2_with fail
  (with_reducible refine (HA.out _ (HE.out.below hBw hL)).mono ?_); rintro e w2 ⟨rfl, hB1⟩
  have hP := HP.out.below hB1 HP.out.lt
  have hBw2 := hBw.trans (hB1.mono hBw.size)
  clear hB1 hBw HP
  have HP := Lib.hid hP
  clear hP
  go_wp2_with fail
  (with_reducible refine (HB.out _ (HE.out.below hBw2 hL)).mono ?_); rintro e w3 ⟨rfl, hB1⟩
  have hP := HP.out.below hB1 HP.out.lt
  have hBw := hBw2.trans (hB1.mono hBw2.size)
  clear hB1 hBw2 HP
  have p0 := hP.cell0
  have p1 := hP.cell1
  have p2 := hP.free0
  have p3 := hP.free1
  have HP := Lib.hid hP
  clear hP
  go_wp2_with fail
  have r0 := (HP.out.set0 (.int .u16 a)).cell0
  have r1 := ((HP.out.set0 (.int .u16 a)).set1 (.int .u16 b)).cell1
  exact bodyPost_ret (v := .tuple #[.agg #[.int .u16 a, .int .u16 b], .int .i64 0]) (by simp [results, Tryz.results72, go_sem, r0, r1]) rfl ⟨rfl, (hBw.setCell (Nat.le_refl _) _).setCell (Nat.le_refl _) _⟩

set_option maxRecDepth 100000 in
set_option maxHeartbeats 2000000 in
theorem lParse_none (l : List UInt8) (h : (47 : UInt8) ∉ l) (w : World) :
    Calls Tryz.prog 72 #[.string ⟨l.toArray⟩] w fun e w' => e = .returned (.tuple #[.agg #[.int .u16 0, .int .u16 0], .int .i64 3]) ∧ Below w.heap.size w w' := by
  have HC := Lib.hid (fun W => CutS_no l W h)
  go_enter Tryz.func72, Tryz.ntmps72
  go_wp2_with fail
  (with_reducible refine (HC.out _).mono ?_); rintro e w1 ⟨rfl, hB1⟩
  have hP := (Pair.new w (.int .u16 0) (.int .u16 0)).below hB1 (by simp)
  have hBw := (below_one w _).trans (hB1.mono (by simp))
  clear hB1
  have p0 := hP.cell0
  have p1 := hP.cell1
  have p2 := hP.free0
  have p3 := hP.free1
  have HP := Lib.hid hP
  clear hP
  go_wp2_with fail
  have r0 := (HP.out.set0 (.int .u16 0)).cell0
  have r1 := ((HP.out.set0 (.int .u16 0)).set1 (.int .u16 0)).cell1
  exact bodyPost_ret (v := .tuple #[.agg #[.int .u16 0, .int .u16 0], .int .i64 3]) (by simp [results, Tryz.results72, go_sem, r0, r1]) rfl ⟨rfl, (hBw.setCell (Nat.le_refl _) _).setCell (Nat.le_refl _) _⟩

set_option maxRecDepth 100000 in
set_option maxHeartbeats 2000000 in
theorem lParse_left (l x y : List UInt8) (hl : l.length ≤ 1000) (h : l = x ++ 47 :: y) (hx : (47 : UInt8) ∉ x) (hn : ∀ a : Nat, a < 65536 → textN a ≠ x) (w : World) (hE : Env w) :
    Calls Tryz.prog 72 #[.string ⟨l.toArray⟩] w fun e w' => e = .returned (.tuple #[.agg #[.int .u16 0, .int .u16 0], .int .i64 3]) ∧ Below w.heap.size w w' := by
  have HC := Lib.hid (fun W => CutS_yes l x y W hl h hx)
  have hxl : x.length ≤ 1000 := by have := congrArg List.length h; simp at this; omega
  have HA := Lib.hid (fun W hW => Parse_not ⟨x.toArray⟩ hn (by have h1 := strB_size x; unfold strB at h1; omega) W hW)
  have HE := Lib.hid hE
  have hL := hE.lt
  clear h hx hn hE
  go_enter Tryz.func72, Tryz.ntmps72
  go_wp2_with fail
  (with_reducible refine (HC.out _).mono ?_); rintro e w1 ⟨rfl, hB1⟩
  have hP := (Pair.new w (.int .u16 0) (.int .u16 0)).below hB1 (by simp)
  have hBw := (below_one w _).trans (hB1.mono (by simp))
  clear hB1
  have HP := Lib.hid hP
  clear hP
  go_wp2_with fail
  (with_reducible refine (HA.out _ (HE.out.below hBw hL)).mono ?_); rintro e w2 ⟨rfl, hB1⟩
  have hP := HP.out.below hB1 HP.out.lt
  have hBx := hBw.trans (hB1.mono hBw.size)
  clear hB1 hBw HP
  have hBw := hBx
  clear hBx
  have p0 := hP.cell0
  have p1 := hP.cell1
  have p2 := hP.free0
  have p3 := hP.free1
  have HP := Lib.hid hP
  clear hP
  go_wp2_with fail
  have r0 := (HP.out.set0 (.int .u16 0)).cell0
  have r1 := ((HP.out.set0 (.int .u16 0)).set1 (.int .u16 0)).cell1
  exact bodyPost_ret (v := .tuple #[.agg #[.int .u16 0, .int .u16 0], .int .i64 3]) (by simp [results, Tryz.results72, go_sem, r0, r1]) rfl ⟨rfl, (hBw.setCell (Nat.le_refl _) _).setCell (Nat.le_refl _) _⟩

set_option maxRecDepth 100000 in
set_option maxHeartbeats 2000000 in
theorem lParse_right (l x y : List UInt8) (a : Nat) (ha : a < 65536) (hl : l.length ≤ 1000) (h : l = x ++ 47 :: y) (hx : (47 : UInt8) ∉ x) (hxa : textN a = x) (hn : ∀ b : Nat, b < 65536 → textN b ≠ y) (w : World) (hE : Env w) :
    Calls Tryz.prog 72 #[.string ⟨l.toArray⟩] w fun e w' => e = .returned (.tuple #[.agg #[.int .u16 0, .int .u16 0], .int .i64 3]) ∧ Below w.heap.size w w' := by
  have HC := Lib.hid (fun W => CutS_yes l x y W hl h hx)
  have hxl : x.length ≤ 1000 ∧ y.length ≤ 1000 := by have := congrArg List.length h; simp at this; omega
  have HA := Lib.hid (fun W hW => Parse_is ⟨x.toArray⟩ a ha hxa (by have h1 := strB_size x; unfold strB at h1; omega) W hW)
  have HB := Lib.hid (fun W hW => Parse_not ⟨y.toArray⟩ hn (by have h1 := strB_size y; unfold strB at h1; omega) W hW)
  have HE := Lib.hid hE
  have hL := hE.lt
  clear h hx hn hE hxa
  go_enter Tryz.func72, Tryz.ntmps72
  go_wp2_with fail
  (with_reducible refine (HC.out _).mono ?_); rintro e w1 ⟨rfl, hB1⟩
  have hP := (Pair.new w (.int .u16 0) (.int .u16 0)).below hB1 (by simp)
  have hBw := (below_one w _).trans (hB1.mono (by simp))
  clear hB1
  have HP := Lib.hid hP
  clear hP
  go_wp2_with fail
  (with_reducible refine (HA.out _ (HE.out.below hBw hL)).mono ?_); rintro e w2 ⟨rfl, hB1⟩
  have hP := HP.out.below hB1 HP.out.lt
  have hBx := hBw.trans (hB1.mono hBw.size)
  clear hB1 hBw HP
  have hBw := hBx
  clear hBx
  have HP := Lib.hid hP
  clear hP
  go_wp2_with fail
  (with_reducible refine (HB.out _ (HE.out.below hBw hL)).mono ?_); rintro e w3 ⟨rfl, hB1⟩
  have hP := HP.out.below hB1 HP.out.lt
  have hBx := hBw.trans (hB1.mono hBw.size)
  clear hB1 hBw HP
  have hBw := hBx
  clear hBx
  have p0 := hP.cell0
  have p1 := hP.cell1
  have p2 := hP.free0
  have p3 := hP.free1
  have HP := Lib.hid hP
  clear hP
  go_wp2_with fail
  have r0 := (HP.out.set0 (.int .u16 0)).cell0
  have r1 := ((HP.out.set0 (.int .u16 0)).set1 (.int .u16 0)).cell1
  exact bodyPost_ret (v := .tuple #[.agg #[.int .u16 0, .int .u16 0], .int .i64 3]) (by simp [results, Tryz.results72, go_sem, r0, r1]) rfl ⟨rfl, (hBw.setCell (Nat.le_refl _) _).setCell (Nat.le_refl _) _⟩

theorem lParse_not (l : List UInt8) (hl : l.length ≤ 1000) (h : ¬ IsText l) (w : World) (hE : Env w) :
    Calls Tryz.prog 72 #[.string ⟨l.toArray⟩] w fun e w' => e = .returned (.tuple #[.agg #[.int .u16 0, .int .u16 0], .int .i64 3]) ∧ Below w.heap.size w w' := by
  by_cases h47 : (47 : UInt8) ∈ l
  · obtain ⟨x, y, hab, hx⟩ := List.eq_append_cons_of_mem h47
    by_cases ha : ∃ a, a < 65536 ∧ textN a = x
    · obtain ⟨a, ha, hxa⟩ := ha
      refine lParse_right l x y a ha hl hab hx hxa (fun b hb hy => h ⟨a, b, ha, hb, ?_⟩) w hE
      unfold textL; rw [hxa, hy, hab]
    · exact lParse_left l x y hl hab hx (fun a ha2 hxa => ha ⟨a, ha2, hxa⟩) w hE
  · exact lParse_none l h47 w

end Go.Proofs.YtmaachmidgfhdaaGreatDoor

/-! LabU -/
namespace Go.Proofs.YtmaachmidgfhdaaGreatDoor
open Go.RowKit

theorem byte_at (l : List UInt8) (k : Nat) (_h : k < l.length) (h2 : k < (⟨l.toArray⟩ : ByteArray).size) : (⟨l.toArray⟩ : ByteArray)[k] = l[k] := rfl
theorem byte_not {l : List UInt8} {k : Nat} (h : k < l.length) (h2 : k < (⟨l.toArray⟩ : ByteArray).size) (hn : l[k] ≠ 47) : (((⟨l.toArray⟩ : ByteArray)[k].toNat : Int) == 47) = false := by
  rw [byte_at l k h h2, beq_eq_false_iff_ne]
  intro e
  apply hn
  apply UInt8.toNat_inj.1
  have : (47 : UInt8).toNat = 47 := rfl
  omega
theorem byte_is {l : List UInt8} {k : Nat} (h : k < l.length) (h2 : k < (⟨l.toArray⟩ : ByteArray).size) (hn : l[k] = 47) : (((⟨l.toArray⟩ : ByteArray)[k].toNat : Int) == 47) = true := by
  rw [byte_at l k h h2, hn]; rfl

set_option maxRecDepth 100000 in
set_option maxHeartbeats 2000000 in
theorem rLParse_none (l : List UInt8) (hl : l.length ≤ 1000) (h : (47 : UInt8) ∉ l) (w : World) :
    Calls Tryz.prog 54 #[.string ⟨l.toArray⟩] w fun e w' => e = .returned (.tuple #[.agg #[.int .u16 0, .int .u16 0], .bool false]) ∧ Below w.heap.size w w' := by
  have hz : (⟨l.toArray⟩ : ByteArray).size = l.length := strB_size l
  have hP := Pair.new w (.int .u16 0) (.int .u16 0)
  have hB := below_one w (.cells #[.int .u16 0, .int .u16 0] 24)
  have HP := Lib.hid hP
  have HB := Lib.hid hB
  have H := Lib.hid h
  clear hP hB h
  go_enter Tryz.func54, Tryz.ntmps54
  go_wp2_with fail
  generalize w.alloc (.cells #[.int .u16 0, .int .u16 0] 24) = W at *
  go_loop [4] (fun i => ∃ k : Nat, k ≤ l.length ∧ i = .int .i64 k) (fun i => l.length - (intOf i).toNat)
  case atStart => exact ⟨0, by omega, rfl⟩
  case round =>
    obtain ⟨k, hk, rfl⟩ := hrel
    by_cases hlt : k < l.length
    · have hk2 : k < (⟨l.toArray⟩ : ByteArray).size := by omega
      have hq := byte_not hlt hk2 (fun e => H.out (e ▸ List.getElem_mem hlt))
      go_wp2_with fail
      go_round
      case rel => exact ⟨k + 1, by omega, by go_num⟩
      case measure => simp [intOf]; omega
    · have p0 := HP.out.cell0
      have p1 := HP.out.cell1
      have p2 := HP.out.free0
      have p3 := HP.out.free1
      go_wp2_with fail
      have r0 := (HP.out.set0 (.int .u16 0)).cell0
      have r1 := ((HP.out.set0 (.int .u16 0)).set1 (.int .u16 0)).cell1
      exact bodyPost_ret (v := .tuple #[.agg #[.int .u16 0, .int .u16 0], .bool false]) (by simp [results, Tryz.results54, go_sem, r0, r1]) rfl ⟨rfl, (HB.out.setCell (Nat.le_refl _) _).setCell (Nat.le_refl _) _⟩

theorem front_str (l x y : List UInt8) (h : l = x ++ 47 :: y) : (⟨l.toArray⟩ : ByteArray).extract 0 x.length = ⟨x.toArray⟩ := by
  apply strB_of; rw [Lib.extract_data, h]; simp
theorem back_str (l x y : List UInt8) (h : l = x ++ 47 :: y) : (⟨l.toArray⟩ : ByteArray).extract (x.length + 1) l.length = ⟨y.toArray⟩ := by
  apply strB_of
  rw [show l.length = (⟨l.toArray⟩ : ByteArray).size from (strB_size l).symm, Lib.extract_to_end, h]; simp [List.drop_append]

set_option maxRecDepth 100000 in
set_option maxHeartbeats 2000000 in
theorem rLParse_tt (l x y : List UInt8) (a b : Nat) (hl : l.length ≤ 1000) (h : l = x ++ 47 :: y) (hx : (47 : UInt8) ∉ x)
    (hA : ∀ W, Calls Tryz.prog 74 #[.string ⟨x.toArray⟩] W fun e w' => e = .returned (.tuple #[.int .u16 a, .bool true]) ∧ W = w')
    (hB : ∀ W, Calls Tryz.prog 74 #[.string ⟨y.toArray⟩] W fun e w' => e = .returned (.tuple #[.int .u16 b, .bool true]) ∧ W = w') (w : World) :
    Calls Tryz.prog 54 #[.string ⟨l.toArray⟩] w fun e w' => e = .returned (.tuple #[.agg #[.int .u16 a, .int .u16 b], .bool true]) ∧ Below w.heap.size w w' := by
  have hz : (⟨l.toArray⟩ : ByteArray).size = l.length := strB_size l
  have hxl : x.length + 1 ≤ l.length := by have := congrArg List.length h; simp at this; omega
  have HF := Lib.hid (front_str l x y h)
  have HK := Lib.hid (back_str l x y h)
  have H := Lib.hid h
  have HX := Lib.hid hx
  have HA := Lib.hid hA
  have HB := Lib.hid hB
  have hP := Pair.new w (.int .u16 0) (.int .u16 0)
  have hW := below_one w (.cells #[.int .u16 0, .int .u16 0] 24)
  have HP := Lib.hid hP
  have HW := Lib.hid hW
  clear hP hW h hx hA hB
  go_enter Tryz.func54, Tryz.ntmps54
  go_wp2_with fail
  generalize w.alloc (.cells #[.int .u16 0, .int .u16 0] 24) = W at *
  go_loop [4] (fun i => ∃ k : Nat, k ≤ x.length ∧ i = .int .i64 k) (fun i => l.length - (intOf i).toNat)
  case atStart => exact ⟨0, by omega, rfl⟩
  case round =>
    obtain ⟨k, hk, rfl⟩ := hrel
    have hk1 : k < l.length := by omega
    have hk2 : k < (⟨l.toArray⟩ : ByteArray).size := by omega
    by_cases hlt : k < x.length
    · have hq := byte_not hk1 hk2 (fun e => HX.out (by
        have h1 : l[k] = x[k] := by simp only [H.out]; rw [List.getElem_append_left hlt]
        rw [← e, h1]; exact List.getElem_mem hlt))
      go_wp2_with fail
      go_round
      case rel => exact ⟨k + 1, by omega, by go_num⟩
      case measure => simp [intOf]; omega
    · have HE := Lib.hid (show x.length = k by omega)
      have hq := byte_is hk1 hk2 (by simp only [H.out]; rw [List.getElem_append_right (by omega)]; simp [HE.out])
      rw [HE.out] at HF HK
      have hF := HF.out
      have hK := HK.out
      have b0 : (0 : Int) ≤ k := by omega
      have b1 : (k : Int) ≤ l.length := by omega
      have b2 : (0 : Int) ≤ (k : Int) + 1 := by omega
      have b3 : (k : Int) + 1 ≤ l.length := by omega
      have p0 := HP.out.cell0
      have p1 := HP.out.cell1
      have p2 := HP.out.free0
      have p3 := HP.out.free1
      go_wp2_with fail
      (with_reducible refine (HA.out _).mono ?_); rintro e w' ⟨rfl, rfl⟩
      go_wp2_with fail
      (with_reducible refine (HB.out _).mono ?_); rintro e w' ⟨rfl, rfl⟩
      go_wp2_with fail
      have r0 := (HP.out.set0 (.int .u16 a)).cell0
      have r1 := ((HP.out.set0 (.int .u16 a)).set1 (.int .u16 b)).cell1
      exact bodyPost_ret (v := .tuple #[.agg #[.int .u16 a, .int .u16 b], .bool true]) (by simp [results, Tryz.results54, go_sem, r0, r1]) rfl ⟨rfl, (HW.out.setCell (Nat.le_refl _) _).setCell (Nat.le_refl _) _⟩

set_option maxRecDepth 100000 in
set_option maxHeartbeats 2000000 in
theorem rLParse_ft (l x y : List UInt8) (a b : Nat) (hl : l.length ≤ 1000) (h : l = x ++ 47 :: y) (hx : (47 : UInt8) ∉ x)
    (hA : ∀ W, Calls Tryz.prog 74 #[.string ⟨x.toArray⟩] W fun e w' => e = .returned (.tuple #[.int .u16 a, .bool false]) ∧ W = w')
    (hB : ∀ W, Calls Tryz.prog 74 #[.string ⟨y.toArray⟩] W fun e w' => e = .returned (.tuple #[.int .u16 b, .bool true]) ∧ W = w') (w : World) :
    Calls Tryz.prog 54 #[.string ⟨l.toArray⟩] w fun e w' => e = .returned (.tuple #[.agg #[.int .u16 0, .int .u16 0], .bool false]) ∧ Below w.heap.size w w' := by
  have hz : (⟨l.toArray⟩ : ByteArray).size = l.length := strB_size l
  have hxl : x.length + 1 ≤ l.length := by have := congrArg List.length h; simp at this; omega
  have HF := Lib.hid (front_str l x y h)
  have HK := Lib.hid (back_str l x y h)
  have H := Lib.hid h
  have HX := Lib.hid hx
  have HA := Lib.hid hA
  have HB := Lib.hid hB
  have hP := Pair.new w (.int .u16 0) (.int .u16 0)
  have hW := below_one w (.cells #[.int .u16 0, .int .u16 0] 24)
  have HP := Lib.hid hP
  have HW := Lib.hid hW
  clear hP hW h hx hA hB
  go_enter Tryz.func54, Tryz.ntmps54
  go_wp2_with fail
  generalize w.alloc (.cells #[.int .u16 0, .int .u16 0] 24) = W at *
  go_loop [4] (fun i => ∃ k : Nat, k ≤ x.length ∧ i = .int .i64 k) (fun i => l.length - (intOf i).toNat)
  case atStart => exact ⟨0, by omega, rfl⟩
  case round =>
    obtain ⟨k, hk, rfl⟩ := hrel
    have hk1 : k < l.length := by omega
    have hk2 : k < (⟨l.toArray⟩ : ByteArray).size := by omega
    by_cases hlt : k < x.length
    · have hq := byte_not hk1 hk2 (fun e => HX.out (by
        have h1 : l[k] = x[k] := by simp only [H.out]; rw [List.getElem_append_left hlt]
        rw [← e, h1]; exact List.getElem_mem hlt))
      go_wp2_with fail
      go_round
      case rel => exact ⟨k + 1, by omega, by go_num⟩
      case measure => simp [intOf]; omega
    · have HE := Lib.hid (show x.length = k by omega)
      have hq := byte_is hk1 hk2 (by simp only [H.out]; rw [List.getElem_append_right (by omega)]; simp [HE.out])
      rw [HE.out] at HF HK
      have hF := HF.out
      have hK := HK.out
      have b0 : (0 : Int) ≤ k := by omega
      have b1 : (k : Int) ≤ l.length := by omega
      have b2 : (0 : Int) ≤ (k : Int) + 1 := by omega
      have b3 : (k : Int) + 1 ≤ l.length := by omega
      have p0 := HP.out.cell0
      have p1 := HP.out.cell1
      have p2 := HP.out.free0
      have p3 := HP.out.free1
      go_wp2_with fail
      (with_reducible refine (HA.out _).mono ?_); rintro e w' ⟨rfl, rfl⟩
      go_wp2_with fail
      (with_reducible refine (HB.out _).mono ?_); rintro e w' ⟨rfl, rfl⟩
      go_wp2_with fail
      have r0 := (HP.out.set0 (.int .u16 0)).cell0
      have r1 := ((HP.out.set0 (.int .u16 0)).set1 (.int .u16 0)).cell1
      exact bodyPost_ret (v := .tuple #[.agg #[.int .u16 0, .int .u16 0], .bool false]) (by simp [results, Tryz.results54, go_sem, r0, r1]) rfl ⟨rfl, (HW.out.setCell (Nat.le_refl _) _).setCell (Nat.le_refl _) _⟩

set_option maxRecDepth 100000 in
set_option maxHeartbeats 2000000 in
theorem rLParse_ff (l x y : List UInt8) (a b : Nat) (hl : l.length ≤ 1000) (h : l = x ++ 47 :: y) (hx : (47 : UInt8) ∉ x)
    (hA : ∀ W, Calls Tryz.prog 74 #[.string ⟨x.toArray⟩] W fun e w' => e = .returned (.tuple #[.int .u16 a, .bool false]) ∧ W = w')
    (hB : ∀ W, Calls Tryz.prog 74 #[.string ⟨y.toArray⟩] W fun e w' => e = .returned (.tuple #[.int .u16 b, .bool false]) ∧ W = w') (w : World) :
    Calls Tryz.prog 54 #[.string ⟨l.toArray⟩] w fun e w' => e = .returned (.tuple #[.agg #[.int .u16 0, .int .u16 0], .bool false]) ∧ Below w.heap.size w w' := by
  have hz : (⟨l.toArray⟩ : ByteArray).size = l.length := strB_size l
  have hxl : x.length + 1 ≤ l.length := by have := congrArg List.length h; simp at this; omega
  have HF := Lib.hid (front_str l x y h)
  have HK := Lib.hid (back_str l x y h)
  have H := Lib.hid h
  have HX := Lib.hid hx
  have HA := Lib.hid hA
  have HB := Lib.hid hB
  have hP := Pair.new w (.int .u16 0) (.int .u16 0)
  have hW := below_one w (.cells #[.int .u16 0, .int .u16 0] 24)
  have HP := Lib.hid hP
  have HW := Lib.hid hW
  clear hP hW h hx hA hB
  go_enter Tryz.func54, Tryz.ntmps54
  go_wp2_with fail
  generalize w.alloc (.cells #[.int .u16 0, .int .u16 0] 24) = W at *
  go_loop [4] (fun i => ∃ k : Nat, k ≤ x.length ∧ i = .int .i64 k) (fun i => l.length - (intOf i).toNat)
  case atStart => exact ⟨0, by omega, rfl⟩
  case round =>
    obtain ⟨k, hk, rfl⟩ := hrel
    have hk1 : k < l.length := by omega
    have hk2 : k < (⟨l.toArray⟩ : ByteArray).size := by omega
    by_cases hlt : k < x.length
    · have hq := byte_not hk1 hk2 (fun e => HX.out (by
        have h1 : l[k] = x[k] := by simp only [H.out]; rw [List.getElem_append_left hlt]
        rw [← e, h1]; exact List.getElem_mem hlt))
      go_wp2_with fail
      go_round
      case rel => exact ⟨k + 1, by omega, by go_num⟩
      case measure => simp [intOf]; omega
    · have HE := Lib.hid (show x.length = k by omega)
      have hq := byte_is hk1 hk2 (by simp only [H.out]; rw [List.getElem_append_right (by omega)]; simp [HE.out])
      rw [HE.out] at HF HK
      have hF := HF.out
      have hK := HK.out
      have b0 : (0 : Int) ≤ k := by omega
      have b1 : (k : Int) ≤ l.length := by omega
      have b2 : (0 : Int) ≤ (k : Int) + 1 := by omega
      have b3 : (k : Int) + 1 ≤ l.length := by omega
      have p0 := HP.out.cell0
      have p1 := HP.out.cell1
      have p2 := HP.out.free0
      have p3 := HP.out.free1
      go_wp2_with fail
      (with_reducible refine (HA.out _).mono ?_); rintro e w' ⟨rfl, rfl⟩
      go_wp2_with fail
      (with_reducible refine (HB.out _).mono ?_); rintro e w' ⟨rfl, rfl⟩
      go_wp2_with fail
      have r0 := (HP.out.set0 (.int .u16 0)).cell0
      have r1 := ((HP.out.set0 (.int .u16 0)).set1 (.int .u16 0)).cell1
      exact bodyPost_ret (v := .tuple #[.agg #[.int .u16 0, .int .u16 0], .bool false]) (by simp [results, Tryz.results54, go_sem, r0, r1]) rfl ⟨rfl, (HW.out.setCell (Nat.le_refl _) _).setCell (Nat.le_refl _) _⟩

set_option maxRecDepth 100000 in
set_option maxHeartbeats 2000000 in
theorem rLParse_tf (l x y : List UInt8) (a b : Nat) (hl : l.length ≤ 1000) (h : l = x ++ 47 :: y) (hx : (47 : UInt8) ∉ x)
    (hA : ∀ W, Calls Tryz.prog 74 #[.string ⟨x.toArray⟩] W fun e w' => e = .returned (.tuple #[.int .u16 a, .bool true]) ∧ W = w')
    (hB : ∀ W, Calls Tryz.prog 74 #[.string ⟨y.toArray⟩] W fun e w' => e = .returned (.tuple #[.int .u16 b, .bool false]) ∧ W = w') (w : World) :
    Calls Tryz.prog 54 #[.string ⟨l.toArray⟩] w fun e w' => e = .returned (.tuple #[.agg #[.int .u16 0, .int .u16 0], .bool false]) ∧ Below w.heap.size w w' := by
  have hz : (⟨l.toArray⟩ : ByteArray).size = l.length := strB_size l
  have hxl : x.length + 1 ≤ l.length := by have := congrArg List.length h; simp at this; omega
  have HF := Lib.hid (front_str l x y h)
  have HK := Lib.hid (back_str l x y h)
  have H := Lib.hid h
  have HX := Lib.hid hx
  have HA := Lib.hid hA
  have HB := Lib.hid hB
  have hP := Pair.new w (.int .u16 0) (.int .u16 0)
  have hW := below_one w (.cells #[.int .u16 0, .int .u16 0] 24)
  have HP := Lib.hid hP
  have HW := Lib.hid hW
  clear hP hW h hx hA hB
  go_enter Tryz.func54, Tryz.ntmps54
  go_wp2_with fail
  generalize w.alloc (.cells #[.int .u16 0, .int .u16 0] 24) = W at *
  go_loop [4] (fun i => ∃ k : Nat, k ≤ x.length ∧ i = .int .i64 k) (fun i => l.length - (intOf i).toNat)
  case atStart => exact ⟨0, by omega, rfl⟩
  case round =>
    obtain ⟨k, hk, rfl⟩ := hrel
    have hk1 : k < l.length := by omega
    have hk2 : k < (⟨l.toArray⟩ : ByteArray).size := by omega
    by_cases hlt : k < x.length
    · have hq := byte_not hk1 hk2 (fun e => HX.out (by
        have h1 : l[k] = x[k] := by simp only [H.out]; rw [List.getElem_append_left hlt]
        rw [← e, h1]; exact List.getElem_mem hlt))
      go_wp2_with fail
      go_round
      case rel => exact ⟨k + 1, by omega, by go_num⟩
      case measure => simp [intOf]; omega
    · have HE := Lib.hid (show x.length = k by omega)
      have hq := byte_is hk1 hk2 (by simp only [H.out]; rw [List.getElem_append_right (by omega)]; simp [HE.out])
      rw [HE.out] at HF HK
      have hF := HF.out
      have hK := HK.out
      have b0 : (0 : Int) ≤ k := by omega
      have b1 : (k : Int) ≤ l.length := by omega
      have b2 : (0 : Int) ≤ (k : Int) + 1 := by omega
      have b3 : (k : Int) + 1 ≤ l.length := by omega
      have p0 := HP.out.cell0
      have p1 := HP.out.cell1
      have p2 := HP.out.free0
      have p3 := HP.out.free1
      go_wp2_with fail
      (with_reducible refine (HA.out _).mono ?_); rintro e w' ⟨rfl, rfl⟩
      go_wp2_with fail
      (with_reducible refine (HB.out _).mono ?_); rintro e w' ⟨rfl, rfl⟩
      go_wp2_with fail
      have r0 := (HP.out.set0 (.int .u16 0)).cell0
      have r1 := ((HP.out.set0 (.int .u16 0)).set1 (.int .u16 0)).cell1
      exact bodyPost_ret (v := .tuple #[.agg #[.int .u16 0, .int .u16 0], .bool false]) (by simp [results, Tryz.results54, go_sem, r0, r1]) rfl ⟨rfl, (HW.out.setCell (Nat.le_refl _) _).setCell (Nat.le_refl _) _⟩

theorem rLParse_yes (a b : Nat) (ha : a < 65536) (hb : b < 65536) (w : World) :
    Calls Tryz.prog 54 #[.string ⟨(textL a b).toArray⟩] w fun e w' => e = .returned (.tuple #[.agg #[.int .u16 a, .int .u16 b], .bool true]) ∧ Below w.heap.size w w' :=
  rLParse_tt (textL a b) (textN a) (textN b) a b (by have := textL_len a b; omega) rfl (textN_slash a)
    (fun W => rParse_is ⟨(textN a).toArray⟩ a ha rfl (by have h1 := strB_size (textN a); have := textN_len a; unfold strB at h1; omega) W)
    (fun W => rParse_is ⟨(textN b).toArray⟩ b hb rfl (by have h1 := strB_size (textN b); have := textN_len b; unfold strB at h1; omega) W) w

theorem rLParse_not (l : List UInt8) (hl : l.length ≤ 1000) (h : ¬ IsText l) (w : World) :
    Calls Tryz.prog 54 #[.string ⟨l.toArray⟩] w fun e w' => e = .returned (.tuple #[.agg #[.int .u16 0, .int .u16 0], .bool false]) ∧ Below w.heap.size w w' := by
  by_cases h47 : (47 : UInt8) ∈ l
  · obtain ⟨x, y, hab, hx⟩ := List.eq_append_cons_of_mem h47
    have hxl : x.length ≤ 1000 ∧ y.length ≤ 1000 := by have := congrArg List.length hab; simp at this; omega
    have hs1 : (⟨x.toArray⟩ : ByteArray).size ≤ 1000 := by have h1 := strB_size x; unfold strB at h1; omega
    have hs2 : (⟨y.toArray⟩ : ByteArray).size ≤ 1000 := by have h1 := strB_size y; unfold strB at h1; omega
    by_cases ha : ∃ a, a < 65536 ∧ textN a = x
    · obtain ⟨a, ha, hxa⟩ := ha
      refine rLParse_tf l x y a 0 hl hab hx (fun W => rParse_is ⟨x.toArray⟩ a ha hxa hs1 W) (fun W => rParse_not ⟨y.toArray⟩ (fun b hb hy => h ⟨a, b, ha, hb, ?_⟩) hs2 W) w
      unfold textL; rw [hxa, hy, hab]
    · have hnx : ∀ a, a < 65536 → textN a ≠ x := fun a ha2 hxa => ha ⟨a, ha2, hxa⟩
      by_cases hb : ∃ b, b < 65536 ∧ textN b = y
      · obtain ⟨b, hb, hyb⟩ := hb
        exact rLParse_ft l x y 0 b hl hab hx (fun W => rParse_not ⟨x.toArray⟩ hnx hs1 W) (fun W => rParse_is ⟨y.toArray⟩ b hb hyb hs2 W) w
      · exact rLParse_ff l x y 0 0 hl hab hx (fun W => rParse_not ⟨x.toArray⟩ hnx hs1 W) (fun W => rParse_not ⟨y.toArray⟩ (fun b hb2 hyb => hb ⟨b, hb2, hyb⟩) hs2 W) w
  · exact rLParse_none l hl h47 w

end Go.Proofs.YtmaachmidgfhdaaGreatDoor

/-! GraM -/
namespace Go.Proofs.YtmaachmidgfhdaaGreatDoor

/-! How many bits are set. -/
/-! The document's walk, round by round. -/
def cutF (f : Nat → Nat) (W a : Nat) : Nat := if W.testBit a then f a &&& W else 0

/-! What each step keeps. -/
theorem cutF_lt {f : Nat → Nat} {a : Nat} (W : Nat) (h : f a < 65536) : cutF f W a < 65536 := by
  unfold cutF; split
  · exact and_lt W h
  · decide

/-! What is reached. -/
theorem one_bit (a t : Nat) : (withN 0 a).testBit t = decide (a = t) := by rw [withN_bit]; simp
end Go.Proofs.YtmaachmidgfhdaaGreatDoor

/-! GphA -/
namespace Go.Proofs.YtmaachmidgfhdaaGreatDoor
open Go.RowKit

/-- A graph's cells. -/
def grC (f : Nat → Nat) : Array Value := arrC .u16 16 f
theorem grC_size (f : Nat → Nat) : (grC f).size = 16 := arrC_size _ _ _
theorem grC_get (f : Nat → Nat) {i : Nat} (h : i < 16) : (grC f)[i]? = some (.int .u16 (f i : Nat)) := arrC_get _ f h
theorem grC_congr {f g : Nat → Nat} (h : ∀ t, t < 16 → f t = g t) : grC f = grC g := arrC_congr h
theorem grC_one (f : Nat → Nat) : (grC f).all (·.oneCell') = true := arrC_one _ _ _
theorem zeroGr : (#[.int .u16 0, .int .u16 0, .int .u16 0, .int .u16 0, .int .u16 0, .int .u16 0, .int .u16 0, .int .u16 0, .int .u16 0, .int .u16 0, .int .u16 0, .int .u16 0, .int .u16 0, .int .u16 0, .int .u16 0, .int .u16 0] : Array Value) = grC fun _ => 0 := rfl
def GrOk (f : Nat → Nat) : Prop := ∀ t, t < 16 → f t < 65536
def GRow (w : World) (b : Nat) (f : Nat → Nat) : Prop := Blk w b (grC f) 26
theorem GRow.lt {w : World} {b : Nat} {f : Nat → Nat} (h : GRow w b f) : b < w.heap.size := Blk.lt h
theorem GRow.cell {w : World} {b : Nat} {f : Nat → Nat} (h : GRow w b f) {k : Nat} (hk : k < 16) : w.cell? ⟨b, k, none⟩ = some (.int .u16 (f k : Nat)) := (Blk.cell h k).trans (grC_get f hk)
theorem GRow.free {w : World} {b : Nat} {f : Nat → Nat} (h : GRow w b f) (k : Nat) : w.frozen? ⟨b, k, none⟩ = false := Blk.free h k
theorem GRow.new (w : World) (f : Nat → Nat) : GRow (w.alloc (.cells (grC f) 26)) w.heap.size f := Blk.new w _ _
theorem GRow.alloc {w : World} {b : Nat} {f : Nat → Nat} (h : GRow w b f) (o : Obj) : GRow (w.alloc o) b f := Blk.alloc h o
theorem GRow.step {w w' : World} {b : Nat} {f : Nat → Nat} (h : GRow w b f) (hB : Below w.heap.size w w') : GRow w' b f := Blk.below h hB h.lt
theorem GRow.congr {w : World} {b : Nat} {f g : Nat → Nat} (h : GRow w b f) (hc : ∀ t, t < 16 → f t = g t) : GRow w b g := by unfold GRow; rw [← grC_congr hc]; exact h
theorem GRow.set {w : World} {b : Nat} {f : Nat → Nat} (h : GRow w b f) {k : Nat} (hk : k < 16) (v : Nat) : GRow (w.setCell ⟨b, k, none⟩ (.int .u16 (v : Int))) b (setF f k v) := by
  have h1 := Blk.set h k (.int .u16 (v : Int))
  unfold GRow grC at *
  rw [arrC_set .u16 f v hk] at h1
  exact h1
theorem GRow.other {w : World} {b : Nat} {f : Nat → Nat} (h : GRow w b f) {a : Addr} (ha : a.block ≠ b) (u : Value) : GRow (w.setCell a u) b f := Blk.set_other h ha u
theorem infoGr (f : Nat → Nat) : (Tryz.prog.info? 26).map (·.size) = some (grC f).size := by rw [grC_size]; kernel_rfl
theorem wpList_load_gr {ops : Array Oper} {rest : List Oper} {o : Oper} {a : Act} {w : World} {Q : Exit → Act → World → Prop} (hgd : Region.wanted o (yielded ops a.tmps) = true) (x : Operand) (ho : o.op = .load 26 x)
    {b : Nat} {f : Nat → Nat} (hx : a.eval x = .pointer (some ⟨b, 0, none⟩)) (h : GRow w b f) (hK : wpList Tryz.prog ops Q rest (a.put o.dst (.agg (grC f))) w) : wpList Tryz.prog ops Q (o :: rest) a w :=
  wpList_step fun _ hK' => by
    rw [if_pos hgd]
    exact wp_load_row 26 x ho b hx 26 (grC f) (0, 0) _ h Tryz.underlying26 rfl (infoGr f) (hK' _ _ hK)
theorem wpList_store_gr {ops : Array Oper} {rest : List Oper} {o : Oper} {a : Act} {w : World} {Q : Exit → Act → World → Prop} (hgd : o.guard = none) (hd : o.dst = none) (x y : Operand) (ho : o.op = .store 26 x y)
    {b : Nat} {f g : Nat → Nat} (hx : a.eval x = .pointer (some ⟨b, 0, none⟩)) (hy : a.eval y = .agg (grC g)) (h : GRow w b f) (hK : ∀ w', Put w w' b (grC g) 26 → wpList Tryz.prog ops Q rest a w') : wpList Tryz.prog ops Q (o :: rest) a w :=
  wpList_store_arr hgd hd 26 x y ho hx hy h (infoGr g) (by rw [grC_size, grC_size]) (grC_one g) hK
theorem results_gr {fn : Func} {p : Tmp} (h : fn.results = #[.cell p 26]) {tmps : Array Value} {w : World} {b : Nat} {f : Nat → Nat} (hp : tmps.getD p undef = .pointer (some ⟨b, 0, none⟩)) (hr : GRow w b f) : (results fn tmps).run Tryz.prog w = .ok (.agg (grC f)) w :=
  results_arr h hp hr Tryz.underlying26 rfl (infoGr f)

/-- A graph in the middle of a block. -/
theorem run_load_mid {w : World} {g off : Nat} {cs : Array Value} {t : TypeId} {f : Nat → Nat} (hb : Blk w g cs t) (hc : ∀ i, i < 16 → cs[off + i]? = some (.int .u16 (f i : Nat))) :
    (loadVar 26 ⟨g, off, none⟩).run Tryz.prog w = .ok (.agg (grC f)) w := by
  have hl : (loadCells ⟨g, off, none⟩ (grC f).toList.length).run Tryz.prog w = .ok (grC f).toList.toArray w :=
    run_loadCells_list (P := Tryz.prog) w ⟨g, off, none⟩ _ (fun j v hv => by
      have hj : j < 16 := by
        have := (List.getElem?_eq_some_iff.1 hv).1
        rwa [Array.length_toList, grC_size] at this
      have hadd : (⟨g, off, none⟩ : Addr).add j = ⟨g, off + j, none⟩ := by unfold Addr.add; split <;> simp_all
      rw [Array.getElem?_toList, grC_get f hj] at hv
      cases hv
      rw [hadd, hb.cell, hc j hj])
  rw [Array.length_toList, grC_size] at hl
  have hi := infoGr f
  rw [grC_size] at hi
  cases hq : Tryz.prog.info? 26 with
  | none => simp [hq] at hi
  | some i =>
    have hs : i.size = 16 := by simpa [hq] using hi
    have hagg : (isAgg 26).run Tryz.prog w = .ok true w := by
      unfold isAgg
      rw [Sem.run_bind, run_underlying Tryz.underlying26 w]
      rfl
    simp [loadVar, Sem.run_bind, hagg, sizeOf, typeInfo, hq, hs, hl]
theorem exec_load_mid {o : Oper} {a : Act} {w : World} {x : Operand} {b off : Nat} {cs : Array Value} {t : TypeId} {f : Nat → Nat} (ho : o.op = .load 26 x) (hx : a.eval x = .pointer (some ⟨b, off, none⟩)) (hb : Blk w b cs t)
    (hc : ∀ j, j < 16 → cs[off + j]? = some (.int .u16 (f j : Nat))) : (execOp a.eval o).run Tryz.prog w = .ok (.value (.agg (grC f))) w := by
  unfold execOp
  simp only [ho, hx, Instr.loadAt, Instr.sureAddr, Sem.run_bind, Sem.run_pure, Result.andThen_ok, run_load_mid hb hc]
/-! Sets, by their bits. -/
theorem hasB_bit (s a : Nat) : hasB (s : Int) (a : Int) = s.testBit a := by simp [hasB]
theorem gHas_any (s a : Nat) (w : World) (hs : s < 65536) : Calls Tryz.prog 13 #[.int .u16 (s : Int), .int .i64 (a : Int)] w fun e w' => e = .returned (.bool (s.testBit a)) ∧ w = w' := by
  rw [← hasB_bit]; exact rHas_any s a w hs
end Go.Proofs.YtmaachmidgfhdaaGreatDoor

/-! GraC -/
namespace Go.Proofs.YtmaachmidgfhdaaGreatDoor
open Go.RowKit

def GCutC : Prop := ∀ (f : Nat → Nat) (W : Nat) (w : World), TabOk w → GrOk f → W < 65536 → Calls Tryz.prog 73 #[.agg (grC f), .int .u16 (W : Int)] w fun e w' => e = .returned (.agg (grC (cutF f W))) ∧ Below w.heap.size w w'
end Go.Proofs.YtmaachmidgfhdaaGreatDoor

/-! EqR -/
namespace Go.Proofs.YtmaachmidgfhdaaGreatDoor
open Go.RowKit

def intsL (cs : List Value) : Prop := ∀ v ∈ cs, ∃ q n, v = .int q n ∧ (Lit.int q n).wf = true
def kindV : Value → Option IntKind
  | .int q _ => some q
  | _ => none
theorem mapM_some {α β : Type} (f : α → Option β) : ∀ l : List α, (l.mapM f).isSome = true ↔ ∀ x ∈ l, (f x).isSome = true
  | [] => by simp
  | a :: l => by
    rw [List.mapM_cons]
    have ih := mapM_some f l
    cases ha : f a with
    | none => simp [ha]
    | some b =>
      cases hl : l.mapM f with
      | none =>
        rw [hl] at ih
        simp only [Option.isSome_none, Bool.false_eq_true, false_iff] at ih
        simp only [bind, Option.bind]
        constructor
        · intro h; cases h
        · intro h; exact absurd (fun x hx => h x (List.mem_cons_of_mem _ hx)) ih
      | some r =>
        rw [hl] at ih
        simp only [bind, Option.bind]
        constructor
        · intro _ x hx
          rcases List.mem_cons.1 hx with rfl | hx
          · rw [ha]; rfl
          · exact (ih.1 rfl) x hx
        · intro _; rfl
theorem intsL_part {cs : List Value} (h : intsL cs) (i n : Nat) : intsL ((cs.drop i).take n) := fun v hv => h v (List.mem_of_mem_drop (List.mem_of_mem_take hv))
theorem kinds_part {cs ds : List Value} (h : cs.map kindV = ds.map kindV) (i n : Nat) : ((cs.drop i).take n).map kindV = ((ds.drop i).take n).map kindV := by
  rw [List.map_take, List.map_drop, h, ← List.map_drop, ← List.map_take]
theorem one_int {cs ds : List Value} (hc : intsL cs) (hk : cs.map kindV = ds.map kindV) {v : Value} (hd : ds = [v]) : ∃ q n, cs = [.int q n] ∧ (Lit.int q n).wf = true ∧ kindV v = some q := by
  subst hd
  rcases cs with _ | ⟨c, _ | ⟨c2, cs⟩⟩
  · simp at hk
  · obtain ⟨q, n, rfl, hw⟩ := hc c (by simp)
    exact ⟨q, n, rfl, hw, by simpa [kindV] using hk.symm⟩
  · simp at hk
theorem keyLits_kinds {P : Program} : ∀ (d : Nat) (t : TypeId) (cs ds : List Value), intsL cs → cs.map kindV = ds.map kindV → (P.keyLits d t ds).isSome = true → (P.keyLits d t cs).isSome = true
  | 0, _, _, _, _, _, h => by simp [Program.keyLits] at h
  | d + 1, t, cs, ds, hc, hk, h => by
    have hlen : cs.length = ds.length := by have := congrArg List.length hk; simpa using this
    have hu := (rfl : P.underlying t = P.underlying t)
    revert hu
    generalize hq : P.underlying t = kd
    intro _
    unfold Program.keyLits at h ⊢
    rw [hq] at h ⊢
    split at h
    · obtain ⟨q, n, -, -, e⟩ := one_int hc hk rfl
      simp [kindV] at e
    · obtain ⟨q, n, rfl, hw, e⟩ := one_int hc hk rfl
      simp only [kindV, Option.some.injEq] at e
      subst e
      split at h
      · rename_i hh
        rw [hh.1] at hw
        simp [hh.1, hw]
      · cases h
    · obtain ⟨q, n, -, -, e⟩ := one_int hc hk rfl
      simp [kindV] at e
    · rename_i n e _
      by_cases hl : ds.length = P.cellsOf t
      · rw [if_pos hl, Option.isSome_map, mapM_some] at h
        simp only [hlen.trans hl, if_true]
        rw [Option.isSome_map, mapM_some]
        intro i hi
        exact keyLits_kinds d e _ _ (intsL_part hc _ _) (kinds_part hk _ _) (h i hi)
      · rw [if_neg hl] at h
        cases h
    · rename_i fs _
      by_cases hl : ds.length = P.cellsOf t ∧ fs.all (·.name != "_") = true
      · rw [if_pos hl, Option.isSome_map, mapM_some] at h
        simp only [hlen.trans hl.1, hl.2, and_self, if_true]
        rw [Option.isSome_map, mapM_some]
        intro i hi
        exact keyLits_kinds d i.type _ _ (intsL_part hc _ _) (kinds_part hk _ _) (h i hi)
      · rw [if_neg hl] at h
        cases h
    · cases h
end Go.Proofs.YtmaachmidgfhdaaGreatDoor

/-! EqS -/
namespace Go.Proofs.YtmaachmidgfhdaaGreatDoor
open Go.RowKit

/-- two structs or arrays of whole numbers are equal where their cells are -/
theorem equal_ints {P : Program} (w : World) {m : Nat} {t : TypeId} (hm : m ≤ 10000) (hk : P.keyTypeAt m t = true) (ht : P.tiled m t = true) {cs es : Array Value} {ds : List Value} (D : Nat)
    (hfc : (Value.agg cs).formed P t = true) (hfe : (Value.agg es).formed P t = true) (hc : intsL cs.toList) (he : intsL es.toList) (hdc : cs.toList.map kindV = ds.map kindV) (hde : es.toList.map kindV = ds.map kindV) (h : (P.keyLits D t ds).isSome = true) :
    ∃ r, (Op.equalIn 10000 t (.agg cs) (.agg es)).run P w = .ok r w ∧ (r = true ↔ cs = es) := by
  obtain ⟨L, hL⟩ := Option.isSome_iff_exists.1 (keyLits_kinds D t cs.toList ds hc hdc h)
  obtain ⟨M, hM⟩ := Option.isSome_iff_exists.1 (keyLits_kinds D t es.toList ds he hde h)
  obtain ⟨r, hr, hiff⟩ := run_equalIn_deep (10000 - m) m t hk w D D (.agg cs) (.agg es) L M hfc hfe (by simpa [Value.cells] using hL) (by simpa [Value.cells] using hM)
  rw [show 10000 - m + m = 10000 by omega] at hr
  refine ⟨r, hr, hiff.trans ⟨fun e => ?_, fun e => ?_⟩⟩
  · have h1 := cells_of_lits m t ht D _ _ hL
    have h2 := cells_of_lits m t ht D _ _ hM
    rw [e, ← h2] at h1
    exact Array.toList_inj.1 h1
  · subst e
    exact Option.some.inj (hL.symm.trans hM)
theorem equal_yes {P : Program} {t : TypeId} {cs es : Array Value} {b : Bool} (h : ∀ w, ∃ r, (Op.equalIn 10000 t (.agg cs) (.agg es)).run P w = .ok r w ∧ (r = true ↔ cs = es)) (hb : b = true ↔ cs = es) (w : World) : (Op.equalIn 10000 t (.agg cs) (.agg es)).run P w = .ok b w := by
  obtain ⟨r, hr, hi⟩ := h w
  rw [hr]
  congr 1
  exact Bool.eq_iff_iff.2 (hi.trans hb.symm)
end Go.Proofs.YtmaachmidgfhdaaGreatDoor

/-! PolM -/
namespace Go.Proofs.YtmaachmidgfhdaaGreatDoor

structure Pol where
  live : Nat
  s : Nat → Nat
  i : Nat → Nat
  acts : Nat → Nat
  owner : Nat → Nat
  active : Nat
/-- What every policy's numbers are. -/
structure PolOk (p : Pol) : Prop where
  live : p.live < 65536
  active : p.active < 65536
  s : ∀ r, r < 16 → p.s r < 65536
  i : ∀ r, r < 16 → p.i r < 65536
  acts : ∀ r, r < 16 → p.acts r < 65536
  owner : ∀ t, t < 16 → p.owner t < 256
/-- A set, bit by bit. -/
def setG (b : Nat → Bool) : Nat → Nat
  | 0 => 0
  | k + 1 => if b k = true then withN (setG b k) k else setG b k
theorem setG_bit (b : Nat → Bool) (k t : Nat) : (setG b k).testBit t = (decide (t < k) && b t) := by
  induction k with
  | zero => simp [setG]
  | succ k ih =>
    unfold setG
    split
    · rename_i h
      rw [withN_bit, ih]
      by_cases e : k = t
      · subst e; rw [h]; simp
      · rw [show decide (k = t) = false by simpa using e, Bool.or_false, show decide (t < k + 1) = decide (t < k) by simp; omega]
    · rename_i h
      rw [ih]
      by_cases e : k = t
      · subst e; rw [show b k = false by simpa using h]; simp
      · rw [show decide (t < k + 1) = decide (t < k) by simp; omega]
theorem setG_lt (b : Nat → Bool) {k : Nat} (hk : k ≤ 16) : setG b k < 65536 := by
  induction k with
  | zero => show (0 : Nat) < 65536; decide
  | succ k ih =>
    unfold setG; split
    · exact withN_lt (ih (by omega)) (by omega)
    · exact ih (by omega)
theorem setG_yes {b : Nat → Bool} {k : Nat} (h : b k = true) : setG b (k + 1) = withN (setG b k) k := by show (if b k = true then _ else _) = _; rw [if_pos h]
theorem setG_no {b : Nat → Bool} {k : Nat} (h : b k = false) : setG b (k + 1) = setG b k := by show (if b k = true then _ else _) = _; rw [if_neg (by rw [h]; simp)]
def ownedN (p : Pol) (R : Nat) : Nat := setG (fun t => R.testBit (p.owner t)) 16
end Go.Proofs.YtmaachmidgfhdaaGreatDoor

/-! PolA -/
namespace Go.Proofs.YtmaachmidgfhdaaGreatDoor
open Go.RowKit

/-- Cell k of a policy. -/
def polAt (p : Pol) (k : Nat) : Value :=
  if k = 0 then .int .u16 (p.live : Int)
  else if k < 33 then (if k % 2 = 1 then .int .u16 (p.s (k / 2) : Nat) else .int .u16 (p.i (k / 2 - 1) : Nat))
  else if k < 49 then .int .u16 (p.acts (k - 33) : Nat)
  else if k < 65 then .int .u8 (p.owner (k - 49) : Nat)
  else .int .u16 (p.active : Int)
def polC (p : Pol) : Array Value := ((List.range 66).map (polAt p)).toArray
theorem polC_size (p : Pol) : (polC p).size = 66 := by simp [polC]
theorem polC_get (p : Pol) {k : Nat} (h : k < 66) : (polC p)[k]? = some (polAt p k) := by simp [polC, h]
theorem polAt_one (p : Pol) (k : Nat) : (polAt p k).oneCell' = true := by
  unfold polAt
  split
  · rfl
  · split
    · split <;> rfl
    · split
      · rfl
      · split <;> rfl
theorem polC_one (p : Pol) : (polC p).all (·.oneCell') = true := by simp [polC, polAt_one]
def PRow (w : World) (b : Nat) (p : Pol) : Prop := Blk w b (polC p) 29
section
variable {w w' : World} {b : Nat} {p : Pol}
theorem PRow.lt (h : PRow w b p) : b < w.heap.size := Blk.lt h
theorem PRow.new (w : World) (p : Pol) : PRow (w.alloc (.cells (polC p) 29)) w.heap.size p := Blk.new w _ _
theorem PRow.step (h : PRow w b p) (hB : Below w.heap.size w w') : PRow w' b p := Blk.below h hB h.lt
theorem PRow.alloc (h : PRow w b p) (o : Obj) : PRow (w.alloc o) b p := Blk.alloc h o
theorem PRow.at_ (h : PRow w b p) {k : Nat} (hk : k < 66) : w.cell? ⟨b, k, none⟩ = some (polAt p k) := (Blk.cell h k).trans (polC_get p hk)
theorem PRow.live (h : PRow w b p) : w.cell? ⟨b, 0, none⟩ = some (.int .u16 (p.live : Int)) := h.at_ (by decide)
theorem PRow.active (h : PRow w b p) : w.cell? ⟨b, 65, none⟩ = some (.int .u16 (p.active : Int)) := h.at_ (by decide)
theorem PRow.s (h : PRow w b p) {r : Nat} (hr : r < 16) : w.cell? ⟨b, 1 + r * 2, none⟩ = some (.int .u16 (p.s r : Nat)) := by
  rw [h.at_ (by omega)]; unfold polAt
  rw [if_neg (by omega), if_pos (by omega), if_pos (by omega), show (1 + r * 2) / 2 = r by omega]
theorem PRow.i (h : PRow w b p) {r : Nat} (hr : r < 16) : w.cell? ⟨b, 1 + r * 2 + 1, none⟩ = some (.int .u16 (p.i r : Nat)) := by
  rw [h.at_ (by omega)]; unfold polAt
  rw [if_neg (by omega), if_pos (by omega), if_neg (by omega), show (1 + r * 2 + 1) / 2 - 1 = r by omega]
theorem PRow.acts (h : PRow w b p) {r : Nat} (hr : r < 16) : w.cell? ⟨b, 33 + r, none⟩ = some (.int .u16 (p.acts r : Nat)) := by
  rw [h.at_ (by omega)]; unfold polAt
  rw [if_neg (by omega), if_neg (by omega), if_pos (by omega), show 33 + r - 33 = r by omega]
theorem PRow.owner (h : PRow w b p) {t : Nat} (ht : t < 16) : w.cell? ⟨b, 49 + t, none⟩ = some (.int .u8 (p.owner t : Nat)) := by
  rw [h.at_ (by omega)]; unfold polAt
  rw [if_neg (by omega), if_neg (by omega), if_neg (by omega), if_pos (by omega), show 49 + t - 49 = t by omega]
end
theorem pol_acts (p : Pol) {r : Nat} (hr : r < 16) : (polC p)[33 + r]? = some (.int .u16 (p.acts r : Nat)) := by
  rw [polC_get p (by omega)]; unfold polAt
  rw [if_neg (by omega), if_neg (by omega), if_pos (by omega), show 33 + r - 33 = r by omega]
theorem infoPol (p : Pol) : (Tryz.prog.info? 29).map (·.size) = some (polC p).size := by rw [polC_size]; kernel_rfl
theorem exec_load_pol {o : Oper} {a : Act} {w : World} {x : Operand} {b : Nat} {p : Pol} (ho : o.op = .load 29 x) (hx : a.eval x = .pointer (some ⟨b, 0, none⟩)) (h : PRow w b p) :
    (execOp a.eval o).run Tryz.prog w = .ok (.value (.agg (polC p))) w := by
  unfold execOp
  simp only [ho, hx, Instr.loadAt, Instr.sureAddr, Sem.run_bind, Sem.run_pure, Result.andThen_ok, run_loadVar_row w b _ 29 (polC p) _ _ h Tryz.underlying29 rfl (infoPol p)]
/-- A policy and a label that stay where they are. -/
structure PW (w : World) (b : Nat) (p : Pol) (V : World) : Prop where
  below : Below b w V
  row : PRow V b p
  at_ : b = w.heap.size
theorem PW.step {w : World} {b : Nat} {p : Pol} {V V' : World} (h : PW w b p V) (hB : Below V.heap.size V V') : PW w b p V' :=
  ⟨h.below.trans (hB.mono (by rw [h.at_]; exact h.below.size)), h.row.step hB, h.at_⟩
theorem PW.all {w : World} {b : Nat} {p : Pol} {V : World} (h : PW w b p V) : Below w.heap.size w V := by rw [← h.at_]; exact h.below
end Go.Proofs.YtmaachmidgfhdaaGreatDoor

/-! PolD -/
namespace Go.Proofs.YtmaachmidgfhdaaGreatDoor
open Go.RowKit

theorem mem_range_map {α : Type} {f : Nat → α} {n : Nat} {v : α} (h : v ∈ (List.range n).map f) : ∃ k, k < n ∧ v = f k := by
  obtain ⟨k, hk, rfl⟩ := List.mem_map.1 h
  exact ⟨k, List.mem_range.1 hk, rfl⟩
theorem wfU16 {n : Nat} (h : n < 65536) : (Lit.int .u16 (n : Int)).wf = true := by
  have h1 : (0 : Int) ≤ (n : Int) := Int.natCast_nonneg n
  have h2 : (n : Int) ≤ 65535 := by omega
  simp only [Lit.wf, show IntKind.u16.min = 0 by decide, show IntKind.u16.max = 65535 by decide, decide_eq_true h1, decide_eq_true h2, Bool.and_self]
theorem wfU8 {n : Nat} (h : n < 256) : (Lit.int .u8 (n : Int)).wf = true := by
  have h1 : (0 : Int) ≤ (n : Int) := Int.natCast_nonneg n
  have h2 : (n : Int) ≤ 255 := by omega
  simp only [Lit.wf, show IntKind.u8.min = 0 by decide, show IntKind.u8.max = 255 by decide, decide_eq_true h1, decide_eq_true h2, Bool.and_self]
theorem polAt_int {p : Pol} (hp : PolOk p) {k : Nat} (hk : k < 66) : ∃ q n, polAt p k = .int q n ∧ (Lit.int q n).wf = true := by
  unfold polAt
  split
  · exact ⟨_, _, rfl, wfU16 hp.live⟩
  · split
    · split
      · exact ⟨_, _, rfl, wfU16 (hp.s _ (by omega))⟩
      · exact ⟨_, _, rfl, wfU16 (hp.i _ (by omega))⟩
    · split
      · exact ⟨_, _, rfl, wfU16 (hp.acts _ (by omega))⟩
      · split
        · exact ⟨_, _, rfl, wfU8 (hp.owner _ (by omega))⟩
        · exact ⟨_, _, rfl, wfU16 hp.active⟩
def polZ : Pol := ⟨0, fun _ => 0, fun _ => 0, fun _ => 0, fun _ => 0, 0⟩
theorem polAt_kind (p q : Pol) (k : Nat) : kindV (polAt p k) = kindV (polAt q k) := by
  unfold polAt
  split
  · rfl
  · split
    · split <;> rfl
    · split
      · rfl
      · split <;> rfl
theorem polC_kinds (p q : Pol) : (polC p).toList.map kindV = (polC q).toList.map kindV := by
  simp only [polC, List.map_map]
  exact List.map_congr_left fun k _ => polAt_kind p q k
theorem polC_ints {p : Pol} (hp : PolOk p) : intsL (polC p).toList := by
  intro v hv
  simp only [polC] at hv
  obtain ⟨k, hk, rfl⟩ := mem_range_map hv
  exact polAt_int hp hk
theorem polZ_lits : (Tryz.prog.keyLits 4 29 (polC polZ).toList).isSome = true := by kernel_rfl
theorem key_pol : Tryz.prog.keyTypeAt 4 29 = true := by kernel_rfl
theorem formed_pol (p : Pol) : (Value.agg (polC p)).formed Tryz.prog 29 = true := by
  simp only [Value.formed, Tryz.underlying29, polC_size]
  kernel_rfl
theorem guard_pol : Tryz.prog.eqGuardType Tryz.prog.depth 29 = false := by kernel_rfl
end Go.Proofs.YtmaachmidgfhdaaGreatDoor

/-! PolEq -/
namespace Go.Proofs.YtmaachmidgfhdaaGreatDoor
open Go.RowKit

theorem tiled_pol : Tryz.prog.tiled 4 29 = true := by kernel_rfl
theorem equal_pols {p q : Pol} (hp : PolOk p) (hq : PolOk q) {b : Bool} (hb : b = true ↔ polC p = polC q) (w : World) : (Op.equalIn 10000 29 (.agg (polC p)) (.agg (polC q))).run Tryz.prog w = .ok b w :=
  equal_yes (fun w => equal_ints w (m := 4) (by decide) key_pol tiled_pol 4 (formed_pol p) (formed_pol q) (polC_ints hp) (polC_ints hq) (polC_kinds p polZ) (polC_kinds q polZ) polZ_lits) hb w
theorem exec_eql_pols {o : Oper} {a : Act} {w : World} {x y : Operand} {ty : TypeId} {p q : Pol} (hp : PolOk p) (hq : PolOk q) {b : Bool} (hb : b = true ↔ polC p = polC q) (ho : o.op = .binOp .eql 29 x y ty) (hx : a.eval x = .agg (polC p)) (hy : a.eval y = .agg (polC q)) :
    (execOp a.eval o).run Tryz.prog w = .ok (.value (.bool b)) w := by
  unfold execOp
  simp only [ho, hx, hy, Sem.run_bind, run_eqGuard_agg w .eql 29 x y _ _ guard_pol, run_eql_struct, equal_pols hp hq hb, Result.andThen_ok, Sem.run_pure]
theorem exec_neq_pols {o : Oper} {a : Act} {w : World} {x y : Operand} {ty : TypeId} {p q : Pol} (hp : PolOk p) (hq : PolOk q) {b : Bool} (hb : b = true ↔ polC p = polC q) (ho : o.op = .binOp .neq 29 x y ty) (hx : a.eval x = .agg (polC p)) (hy : a.eval y = .agg (polC q)) :
    (execOp a.eval o).run Tryz.prog w = .ok (.value (.bool (!b))) w := by
  unfold execOp
  simp only [ho, hx, hy, Sem.run_bind, run_eqGuard_agg w .neq 29 x y _ _ guard_pol, run_neq_struct, equal_pols hp hq hb, Result.andThen_ok, Sem.run_pure]
end Go.Proofs.YtmaachmidgfhdaaGreatDoor

/-! PolS -/
namespace Go.Proofs.YtmaachmidgfhdaaGreatDoor
open Go.RowKit

/-- Is role r as it must be? -/
def nilB (p : Pol) (r : Nat) : Bool := decide (p.s r = 0) && decide (p.i r = 0) && decide (p.acts r = 0)
def roleB (p : Pol) (r : Nat) : Bool := (p.live.testBit r || nilB p r) && (subB (p.s r ||| p.i r) p.active && subB (p.acts r) p.live && !(p.acts r).testBit r)
def ownerB (p : Pol) (t : Nat) : Bool := decide (p.owner t ≤ 16) && (decide (p.owner t = 16) || (p.live.testBit (p.owner t) && p.active.testBit t))
def fineP (p : Pol) : Bool := ((List.range 16).all (roleB p)) && ((List.range 16).all (ownerB p))
theorem fine_role {p : Pol} {k : Nat} (hk : k < 16) (h : roleB p k = false) : fineP p = false := by
  unfold fineP
  cases hx : (List.range 16).all (roleB p) with
  | false => rfl
  | true => have := List.all_eq_true.1 hx k (List.mem_range.2 hk); rw [h] at this; cases this
theorem fine_owner {p : Pol} {k : Nat} (hk : k < 16) (h : ownerB p k = false) : fineP p = false := by
  unfold fineP
  cases hx : (List.range 16).all (ownerB p) with
  | false => simp
  | true => have := List.all_eq_true.1 hx k (List.mem_range.2 hk); rw [h] at this; cases this
theorem fine_yes {p : Pol} (h1 : ∀ k, k < 16 → roleB p k = true) (h2 : ∀ k, k < 16 → ownerB p k = true) : fineP p = true := by
  unfold fineP
  rw [List.all_eq_true.2 fun k hk => h1 k (List.mem_range.1 hk), List.all_eq_true.2 fun k hk => h2 k (List.mem_range.1 hk)]; rfl
/-- A policy, and a label of the round's own. -/
structure FW (w : World) (bp : Nat) (p : Pol) (ba x y : Nat) (V : World) : Prop where
  pw : PW w bp p V
  lab : Blk V ba #[.int .u16 (x : Int), .int .u16 (y : Int)] 24
theorem FW.step {w : World} {bp : Nat} {p : Pol} {ba x y : Nat} {V V' : World} (h : FW w bp p ba x y V) (hB : Below V.heap.size V V') : FW w bp p ba x y V' := ⟨h.pw.step hB, h.lab.below hB h.lab.lt⟩
theorem infoLb : (Tryz.prog.info? 24).map (·.size) = some 2 := by kernel_rfl
set_option maxRecDepth 100000 in
set_option maxHeartbeats 6400000 in
theorem rpFine_any (p : Pol) (w : World) (hp : PolOk p) :
    Calls Tryz.prog 29 #[.agg (polC p)] w fun e w' => e = .returned (.bool (fineP p)) ∧ Below w.heap.size w w' := by
  have HG0 := Lib.hid (show PW w w.heap.size p (w.alloc (.cells (polC p) 29)) from ⟨belowNew w _, PRow.new w p, rfl⟩)
  have HHl := Lib.hid (fun V r => gHas_any p.live r V hp.live)
  have HHa := Lib.hid (fun V r => gHas_any p.active r V hp.active)
  have HTg := Lib.hid (fun V r (hr : r < 16) => rTags_any (p.s r) (p.i r) V (hp.s r hr) (hp.i r hr))
  have HS1 := Lib.hid (fun V r (hr : r < 16) => rSub_any (p.s r ||| p.i r) p.active V (or_lt (hp.s r hr) (hp.i r hr)) hp.active)
  have HS2 := Lib.hid (fun V r (hr : r < 16) => rSub_any (p.acts r) p.live V (hp.acts r hr) hp.live)
  have HAr := Lib.hid (fun V r (hr : r < 16) => gHas_any (p.acts r) r V (hp.acts r hr))
  have HOw := Lib.hid hp.owner
  have HFr := Lib.hid (fun k hk => fine_role (p := p) (k := k) hk)
  have HFo := Lib.hid (fun k hk => fine_owner (p := p) (k := k) hk)
  have HFy := Lib.hid (@fine_yes p)
  clear hp
  generalize fineP p = fb at *
  go_enter Tryz.func29, Tryz.ntmps29
  go_wp2_with fail
  generalize w.alloc (.cells (polC p) 29) = w1 at *
  generalize w.heap.size = bp at *
  go_loopw [3] (fun i wr => ∃ k : Nat, k ≤ 16 ∧ i = .int .i64 (k : Int) ∧ (∀ r, r < k → roleB p r = true) ∧ PW w bp p wr) (fun i _ => 16 - (intOf i).toNat)
  case atStart => exact ⟨0, by omega, rfl, fun r hr => by omega, HG0.out⟩
  case round =>
    obtain ⟨k, hk, rfl, hall, hg⟩ := hrel
    have HG := Lib.hid hg
    have HAll := Lib.hid hall
    clear hall HG0
    by_cases hlt : k < 16
    · have dk : decide ((k : Int) < 16) = true := by simp; omega
      have hk16 : (k : Int) < 16 := by omega
      have k0 := hg.row.s hlt
      have k1 := hg.row.i hlt
      have HHl1 := Lib.hid (fun V => HHl.out V k)
      have HTg1 := Lib.hid (fun V => HTg.out V k hlt)
      have HS11 := Lib.hid (fun V => HS1.out V k hlt)
      have HS21 := Lib.hid (fun V => HS2.out V k hlt)
      have HAr1 := Lib.hid (fun V => HAr.out V k hlt)
      have HRb := Lib.hid (show roleB p k = ((p.live.testBit k || nilB p k) && (subB (p.s k ||| p.i k) p.active && subB (p.acts k) p.live && !(p.acts k).testBit k)) from rfl)
      have HNb := Lib.hid (show nilB p k = (decide (p.s k = 0) && decide (p.i k = 0) && decide (p.acts k = 0)) from rfl)
      have hact : ∀ V, PW w bp p V → V.cell? ⟨bp, 33 + k, none⟩ = some (.int .u16 (p.acts k : Nat)) := fun V hV => hV.row.acts hlt
      have HAct := Lib.hid hact
      clear hg hact
      generalize p.s k = ps at *
      generalize p.i k = pi at *
      generalize p.acts k = pa at *
      generalize ps ||| pi = tg at *
      have hbk := Blk.new wr #[.int .u16 0, .int .u16 0] 24
      have hne : bp ≠ wr.heap.size := Nat.ne_of_lt HG.out.row.lt
      go_upto_region 5 with (refine wpList_store_arr rfl rfl _ _ _ rfl rfl rfl hbk infoLb rfl (by simp [Value.oneCell']) ?_; intro w2 hw2; have HW2 := Lib.hid hw2; clear hw2)
      have hB2 : Below wr.heap.size wr w2 := (belowNew wr _).trans (HW2.out.below (by simp) (Nat.le_refl _))
      have HF := Lib.hid (show FW w bp p wr.heap.size ps pi w2 from ⟨HG.out.step hB2, HW2.out.blk⟩)
      clear hbk HW2 hB2 HG k0 k1 hne
      generalize wr.heap.size = ba at *
      have l0 := HF.out.pw.row.live
      have a0 : w2.cell? ⟨ba, 0, none⟩ = some (.int .u16 (ps : Int)) := HF.out.lab.cell 0
      have a1 : w2.cell? ⟨ba, 1, none⟩ = some (.int .u16 (pi : Int)) := HF.out.lab.cell 1
      have r0 := HAct.out w2 HF.out.pw
      obtain ⟨c5, hc5⟩ : ∃ c5 : Bool, c5 = (!p.live.testBit k && !nilB p k) := ⟨_, rfl⟩
      have HC5 := Lib.hid hc5
      clear hc5
      go_cut [36] (fun s wx => s = .bool c5 ∧ wx = w2)
      case first =>
        cases hl : p.live.testBit k with
        | true =>
          rw [hl] at HHl1
          have h5 : c5 = false := by rw [HC5.out, hl]; rfl
          subst h5
          clear hl
          go_wp2_with fail
          with_reducible refine (HHl1.out _).mono ?_
          rintro e wx ⟨rfl, rfl⟩
          go_wp2_with fail
          go_meet
          exact ⟨rfl, rfl⟩
        | false =>
          rw [hl] at HHl1
          have h5 : c5 = !nilB p k := by rw [HC5.out, hl]; rfl
          rw [HNb.out] at h5
          by_cases z1 : ps = 0
          · subst z1
            by_cases z2 : pi = 0
            · subst z2
              by_cases z3 : pa = 0
              · subst z3
                have h6 : c5 = false := by rw [h5]; rfl
                subst h6
                clear hl h5
                go_wp2_with fail
                with_reducible refine (HHl1.out _).mono ?_
                rintro e wx ⟨rfl, rfl⟩
                go_wp2_with fail
                go_meet
                exact ⟨rfl, rfl⟩
              · have h6 : c5 = true := by rw [h5]; simp [z3]
                have z4 : ((pa : Int) != 0) = true := by simp; omega
                subst h6
                clear hl h5 z3
                go_wp2_with fail
                with_reducible refine (HHl1.out _).mono ?_
                rintro e wx ⟨rfl, rfl⟩
                go_wp2_with fail
                go_meet
                exact ⟨rfl, rfl⟩
            · have h6 : c5 = true := by rw [h5]; simp [z2]
              have z4 : ((pi : Int) != 0) = true := by simp; omega
              subst h6
              clear hl h5 z2
              go_wp2_with fail
              with_reducible refine (HHl1.out _).mono ?_
              rintro e wx ⟨rfl, rfl⟩
              go_wp2_with fail
              go_meet
              exact ⟨rfl, rfl⟩
          · have h6 : c5 = true := by rw [h5]; simp [z1]
            have z4 : ((ps : Int) != 0) = true := by simp; omega
            subst h6
            clear hl h5 z1
            go_wp2_with fail
            with_reducible refine (HHl1.out _).mono ?_
            rintro e wx ⟨rfl, rfl⟩
            go_wp2_with fail
            go_meet
            exact ⟨rfl, rfl⟩
      case rest =>
      obtain ⟨rfl, rfl⟩ := hcut
      clear l0 a0 a1 r0
      cases c5 with
      | true =>
        have hfb : fb = false := HFr.out k hlt (by
          have := HC5.out
          rw [HRb.out]
          cases hl : p.live.testBit k with
          | true => rw [hl] at this; cases this
          | false =>
            cases hn : nilB p k with
            | true => rw [hl, hn] at this; cases this
            | false => rfl)
        subst hfb
        go_wp2_with fail
        go_ret
        exact ⟨rfl, HF.out.pw.all⟩
      | false =>
        have hor : (p.live.testBit k || nilB p k) = true := by
          have := HC5.out
          cases hl : p.live.testBit k with
          | true => rfl
          | false =>
            cases hn : nilB p k with
            | true => rfl
            | false => rw [hl, hn] at this; cases this
        rw [hor, Bool.true_and] at HRb
        clear hor HC5 HNb
        cases h1 : subB tg p.active with
        | false =>
          rw [h1] at HS11
          have hfb : fb = false := HFr.out k hlt (by rw [HRb.out, h1]; rfl)
          subst hfb
          clear h1
          go_upto_region 7 with fail
          refine wp_region_S (fun _ V => FW w bp p ba ps pi V) 0 [.val (.agg #[.int .u16 (ps : Int), .int .u16 (pi : Int)]), .val (.int .u16 (tg : Int)), .val (.pointer (some ⟨bp, 65, none⟩)), .val (.int .u16 (p.active : Int)), .val (.bool false), .val (.bool true), .val (.bool true), .val undef, .val undef, .val undef, .val undef, .val undef, .val undef, .val undef, .val undef, .val (.bool true), .val (.bool true), .val undef, .val undef, .val undef, .val undef, .val undef, .val undef, .val (.bool true)]
            (fun x => { tmps := #[.agg (polC p), .pointer (some ⟨bp, 0, none⟩), u2, .int .i64 (k : Int), .pointer (some ⟨ba, 0, none⟩), undef, undef, u7, u8, u9, u10, u11, u12, u13, u14, u15, u16, u17, u18, u19, u20, u21, u22, u23, u24, u25, u26, u27, u28, u29, u30, u31, u32, u33, u34, u35, .bool false, x 0, x 1, x 2, x 3, x 4, x 5, x 6, x 7, x 8, x 9, x 10, x 11, x 12, x 13, x 14, x 15, x 16, x 17, x 18, x 19, x 20, x 21, x 22, x 23, undef, undef, undef, undef, undef, undef, undef, undef, undef, undef, undef, undef, undef, undef, undef, undef, undef, undef, undef, undef, undef, undef, undef, undef, undef, undef, undef, undef, undef], defers := [] }) (fun i => ([u37, u38, u39, u40, u41, u42, u43, u44, u45, u46, u47, u48, u49, u50, u51, u52, u53, u54, u55, u56, u57, u58, u59, u60] : List Value).getD i undef) (by kernel_rfl) rfl rfl (by kernel_rfl) (by kernel_rfl) (by kernel_rfl) (by kernel_rfl) (HF.out.step (Below.refl _ _).drew) ?_ ?_
          · refine ⟨ObS.of_val rfl (fun x v => rfl) (fun x V kst hC hD => ?_), ?_⟩
            · clear hD
              refine want_yes rfl ?_
              have k0 := hC.lab.cell 0
              have k1 := hC.lab.cell 1
              exact leads_value (v := .agg #[.int .u16 (ps : Int), .int .u16 (pi : Int)]) (by go_simp) ⟨rfl, hC⟩
            refine ⟨ObS.of_val rfl (fun x v => rfl) (fun x V kst hC hD => ?_), ?_⟩
            · have e0 : x 0 = .agg #[.int .u16 (ps : Int), .int .u16 (pi : Int)] := hD.1 rfl
              clear hD
              refine want_yes rfl ?_
              exact leads_enter2 (by go_simp) ((HTg1.out V).mono fun e w'' ⟨he, hB⟩ => ⟨_, he, rfl, hC.step hB⟩)
            refine ⟨ObS.of_val rfl (fun x v => rfl) (fun x V kst hC hD => ?_), ?_⟩
            · clear hD
              refine want_yes rfl ?_
              exact leads_value (v := .pointer (some ⟨bp, 65, none⟩)) (by go_simp) ⟨rfl, hC⟩
            refine ⟨ObS.of_val rfl (fun x v => rfl) (fun x V kst hC hD => ?_), ?_⟩
            · have e2 : x 2 = .pointer (some ⟨bp, 65, none⟩) := hD.1 rfl
              clear hD
              refine want_yes rfl ?_
              have k0 := hC.pw.row.active
              exact leads_value (v := .int .u16 (p.active : Int)) (by go_simp) ⟨rfl, hC⟩
            refine ⟨ObS.of_val rfl (fun x v => rfl) (fun x V kst hC hD => ?_), ?_⟩
            · have e1 : x 1 = .int .u16 (tg : Int) := hD.1 rfl
              have e3 : x 3 = .int .u16 (p.active : Int) := hD.2.1 rfl
              clear hD
              refine want_yes rfl ?_
              exact leads_enter2 (by go_simp) ((HS11.out V).mono fun e w'' ⟨he, hB⟩ => ⟨_, he, rfl, hB ▸ hC⟩)
            refine ⟨ObS.of_val rfl (fun x v => rfl) (fun x V kst hC hD => ?_), ?_⟩
            · have e4 : x 4 = .bool false := hD.1 rfl
              clear hD
              refine want_yes rfl ?_
              exact leads_value (v := .bool true) (by go_simp) ⟨rfl, hC⟩
            refine ⟨ObS.of_val rfl (fun x v => rfl) (fun x V kst hC hD => ?_), ?_⟩
            · have e5 : x 5 = .bool true := hD.1 rfl
              have e4 : x 4 = .bool false := hD.2.1 rfl
              clear hD
              refine want_yes rfl ?_
              exact leads_value (v := .bool true) (by go_simp) ⟨rfl, hC⟩
            refine ⟨ObS.of_val rfl (fun x v => rfl) (fun x V kst hC hD => ?_), ?_⟩
            · have e6 : x 6 = .bool true := hD.1 rfl
              clear hD
              exact want_no (by simp [Region.wanted, yielded, e6]) rfl
            refine ⟨ObS.of_val rfl (fun x v => rfl) (fun x V kst hC hD => ?_), ?_⟩
            · have e6 : x 6 = .bool true := hD.1 rfl
              clear hD
              exact want_no (by simp [Region.wanted, yielded, e6]) rfl
            refine ⟨ObS.of_val rfl (fun x v => rfl) (fun x V kst hC hD => ?_), ?_⟩
            · have e8 : x 8 = undef := hD.1 rfl
              have e7 : x 7 = undef := hD.2.1 rfl
              have e6 : x 6 = .bool true := hD.2.2.1 rfl
              clear hD
              exact want_no (by simp [Region.wanted, yielded, e6]) rfl
            refine ⟨ObS.of_val rfl (fun x v => rfl) (fun x V kst hC hD => ?_), ?_⟩
            · have e9 : x 9 = undef := hD.1 rfl
              have e6 : x 6 = .bool true := hD.2.1 rfl
              clear hD
              exact want_no (by simp [Region.wanted, yielded, e6]) rfl
            refine ⟨ObS.of_val rfl (fun x v => rfl) (fun x V kst hC hD => ?_), ?_⟩
            · have e6 : x 6 = .bool true := hD.1 rfl
              clear hD
              exact want_no (by simp [Region.wanted, yielded, e6]) rfl
            refine ⟨ObS.of_val rfl (fun x v => rfl) (fun x V kst hC hD => ?_), ?_⟩
            · have e11 : x 11 = undef := hD.1 rfl
              have e6 : x 6 = .bool true := hD.2.1 rfl
              clear hD
              exact want_no (by simp [Region.wanted, yielded, e6]) rfl
            refine ⟨ObS.of_val rfl (fun x v => rfl) (fun x V kst hC hD => ?_), ?_⟩
            · have e10 : x 10 = undef := hD.1 rfl
              have e12 : x 12 = undef := hD.2.1 rfl
              have e6 : x 6 = .bool true := hD.2.2.1 rfl
              clear hD
              exact want_no (by simp [Region.wanted, yielded, e6]) rfl
            refine ⟨ObS.of_val rfl (fun x v => rfl) (fun x V kst hC hD => ?_), ?_⟩
            · have e13 : x 13 = undef := hD.1 rfl
              have e6 : x 6 = .bool true := hD.2.1 rfl
              clear hD
              exact want_no (by simp [Region.wanted, yielded, e6]) rfl
            refine ⟨ObS.of_val rfl (fun x v => rfl) (fun x V kst hC hD => ?_), ?_⟩
            · have e6 : x 6 = .bool true := hD.1 rfl
              have e14 : x 14 = undef := hD.2.1 rfl
              clear hD
              refine want_yes rfl ?_
              exact leads_value (v := .bool true) (by go_simp) ⟨rfl, hC⟩
            refine ⟨ObS.of_val rfl (fun x v => rfl) (fun x V kst hC hD => ?_), ?_⟩
            · have e15 : x 15 = .bool true := hD.1 rfl
              have e13 : x 13 = undef := hD.2.1 rfl
              clear hD
              refine want_yes rfl ?_
              exact leads_value (v := .bool true) (by go_simp) ⟨rfl, hC⟩
            refine ⟨ObS.of_val rfl (fun x v => rfl) (fun x V kst hC hD => ?_), ?_⟩
            · have e16 : x 16 = .bool true := hD.1 rfl
              clear hD
              exact want_no (by simp [Region.wanted, yielded, e16]) rfl
            refine ⟨ObS.of_val rfl (fun x v => rfl) (fun x V kst hC hD => ?_), ?_⟩
            · have e16 : x 16 = .bool true := hD.1 rfl
              clear hD
              exact want_no (by simp [Region.wanted, yielded, e16]) rfl
            refine ⟨ObS.of_val rfl (fun x v => rfl) (fun x V kst hC hD => ?_), ?_⟩
            · have e18 : x 18 = undef := hD.1 rfl
              have e17 : x 17 = undef := hD.2.1 rfl
              have e16 : x 16 = .bool true := hD.2.2.1 rfl
              clear hD
              exact want_no (by simp [Region.wanted, yielded, e16]) rfl
            refine ⟨ObS.of_val rfl (fun x v => rfl) (fun x V kst hC hD => ?_), ?_⟩
            · have e19 : x 19 = undef := hD.1 rfl
              have e16 : x 16 = .bool true := hD.2.1 rfl
              clear hD
              exact want_no (by simp [Region.wanted, yielded, e16]) rfl
            refine ⟨ObS.of_val rfl (fun x v => rfl) (fun x V kst hC hD => ?_), ?_⟩
            · have e16 : x 16 = .bool true := hD.1 rfl
              clear hD
              exact want_no (by simp [Region.wanted, yielded, e16]) rfl
            refine ⟨ObS.of_val rfl (fun x v => rfl) (fun x V kst hC hD => ?_), ?_⟩
            · have e20 : x 20 = undef := hD.1 rfl
              have e21 : x 21 = undef := hD.2.1 rfl
              have e16 : x 16 = .bool true := hD.2.2.1 rfl
              clear hD
              exact want_no (by simp [Region.wanted, yielded, e16]) rfl
            refine ⟨ObS.of_val rfl (fun x v => rfl) (fun x V kst hC hD => ?_), ?_⟩
            · have e16 : x 16 = .bool true := hD.1 rfl
              have e22 : x 22 = undef := hD.2.1 rfl
              clear hD
              refine want_yes rfl ?_
              exact leads_value (v := .bool true) (by go_simp) ⟨rfl, hC⟩
            trivial
          · intro xa V hC hx
            have e23 : xa 23 = .bool true := hx 23 (by simp)
            have HV := Lib.hid (show FW w bp p ba ps pi V from hC)
            clear hx hC
            rw [e23]
            clear e23
            go_wp2_with fail
            go_ret
            exact ⟨rfl, HV.out.pw.all⟩
        | true =>
          rw [h1] at HS11
          cases h2 : subB pa p.live with
          | false =>
            rw [h2] at HS21
            have hfb : fb = false := HFr.out k hlt (by rw [HRb.out, h1, h2]; rfl)
            subst hfb
            clear h1 h2
            go_upto_region 7 with fail
            refine wp_region_S (fun _ V => FW w bp p ba ps pi V) 0 [.val (.agg #[.int .u16 (ps : Int), .int .u16 (pi : Int)]), .val (.int .u16 (tg : Int)), .val (.pointer (some ⟨bp, 65, none⟩)), .val (.int .u16 (p.active : Int)), .val (.bool true), .val (.bool false), .val (.bool false), .val (.int .i64 (k : Int)), .val (.pointer (some ⟨bp, 33, none⟩)), .val (.pointer (some ⟨bp, 33 + k, none⟩)), .val (.int .u16 (pa : Int)), .val (.pointer (some ⟨bp, 0, none⟩)), .val (.int .u16 (p.live : Int)), .val (.bool false), .val (.bool true), .val (.bool true), .val (.bool true), .val undef, .val undef, .val undef, .val undef, .val undef, .val undef, .val (.bool true)]
              (fun x => { tmps := #[.agg (polC p), .pointer (some ⟨bp, 0, none⟩), u2, .int .i64 (k : Int), .pointer (some ⟨ba, 0, none⟩), undef, undef, u7, u8, u9, u10, u11, u12, u13, u14, u15, u16, u17, u18, u19, u20, u21, u22, u23, u24, u25, u26, u27, u28, u29, u30, u31, u32, u33, u34, u35, .bool false, x 0, x 1, x 2, x 3, x 4, x 5, x 6, x 7, x 8, x 9, x 10, x 11, x 12, x 13, x 14, x 15, x 16, x 17, x 18, x 19, x 20, x 21, x 22, x 23, undef, undef, undef, undef, undef, undef, undef, undef, undef, undef, undef, undef, undef, undef, undef, undef, undef, undef, undef, undef, undef, undef, undef, undef, undef, undef, undef, undef, undef], defers := [] }) (fun i => ([u37, u38, u39, u40, u41, u42, u43, u44, u45, u46, u47, u48, u49, u50, u51, u52, u53, u54, u55, u56, u57, u58, u59, u60] : List Value).getD i undef) (by kernel_rfl) rfl rfl (by kernel_rfl) (by kernel_rfl) (by kernel_rfl) (by kernel_rfl) (HF.out.step (Below.refl _ _).drew) ?_ ?_
            · refine ⟨ObS.of_val rfl (fun x v => rfl) (fun x V kst hC hD => ?_), ?_⟩
              · clear hD
                refine want_yes rfl ?_
                have k0 := hC.lab.cell 0
                have k1 := hC.lab.cell 1
                exact leads_value (v := .agg #[.int .u16 (ps : Int), .int .u16 (pi : Int)]) (by go_simp) ⟨rfl, hC⟩
              refine ⟨ObS.of_val rfl (fun x v => rfl) (fun x V kst hC hD => ?_), ?_⟩
              · have e0 : x 0 = .agg #[.int .u16 (ps : Int), .int .u16 (pi : Int)] := hD.1 rfl
                clear hD
                refine want_yes rfl ?_
                exact leads_enter2 (by go_simp) ((HTg1.out V).mono fun e w'' ⟨he, hB⟩ => ⟨_, he, rfl, hC.step hB⟩)
              refine ⟨ObS.of_val rfl (fun x v => rfl) (fun x V kst hC hD => ?_), ?_⟩
              · clear hD
                refine want_yes rfl ?_
                exact leads_value (v := .pointer (some ⟨bp, 65, none⟩)) (by go_simp) ⟨rfl, hC⟩
              refine ⟨ObS.of_val rfl (fun x v => rfl) (fun x V kst hC hD => ?_), ?_⟩
              · have e2 : x 2 = .pointer (some ⟨bp, 65, none⟩) := hD.1 rfl
                clear hD
                refine want_yes rfl ?_
                have k0 := hC.pw.row.active
                exact leads_value (v := .int .u16 (p.active : Int)) (by go_simp) ⟨rfl, hC⟩
              refine ⟨ObS.of_val rfl (fun x v => rfl) (fun x V kst hC hD => ?_), ?_⟩
              · have e1 : x 1 = .int .u16 (tg : Int) := hD.1 rfl
                have e3 : x 3 = .int .u16 (p.active : Int) := hD.2.1 rfl
                clear hD
                refine want_yes rfl ?_
                exact leads_enter2 (by go_simp) ((HS11.out V).mono fun e w'' ⟨he, hB⟩ => ⟨_, he, rfl, hB ▸ hC⟩)
              refine ⟨ObS.of_val rfl (fun x v => rfl) (fun x V kst hC hD => ?_), ?_⟩
              · have e4 : x 4 = .bool true := hD.1 rfl
                clear hD
                refine want_yes rfl ?_
                exact leads_value (v := .bool false) (by go_simp) ⟨rfl, hC⟩
              refine ⟨ObS.of_val rfl (fun x v => rfl) (fun x V kst hC hD => ?_), ?_⟩
              · have e5 : x 5 = .bool false := hD.1 rfl
                have e4 : x 4 = .bool true := hD.2.1 rfl
                clear hD
                refine want_yes rfl ?_
                exact leads_value (v := .bool false) (by go_simp) ⟨rfl, hC⟩
              refine ⟨ObS.of_val rfl (fun x v => rfl) (fun x V kst hC hD => ?_), ?_⟩
              · have e6 : x 6 = .bool false := hD.1 rfl
                clear hD
                refine want_yes (by simp [Region.wanted, yielded, e6]) ?_
                exact leads_value (v := .int .i64 (k : Int)) (by go_simp) ⟨rfl, hC⟩
              refine ⟨ObS.of_val rfl (fun x v => rfl) (fun x V kst hC hD => ?_), ?_⟩
              · have e6 : x 6 = .bool false := hD.1 rfl
                clear hD
                refine want_yes (by simp [Region.wanted, yielded, e6]) ?_
                exact leads_value (v := .pointer (some ⟨bp, 33, none⟩)) (by go_simp) ⟨rfl, hC⟩
              refine ⟨ObS.of_val rfl (fun x v => rfl) (fun x V kst hC hD => ?_), ?_⟩
              · have e8 : x 8 = .pointer (some ⟨bp, 33, none⟩) := hD.1 rfl
                have e7 : x 7 = .int .i64 (k : Int) := hD.2.1 rfl
                have e6 : x 6 = .bool false := hD.2.2.1 rfl
                clear hD
                refine want_yes (by simp [Region.wanted, yielded, e6]) ?_
                exact leads_value (v := .pointer (some ⟨bp, 33 + k, none⟩)) (by go_simp) ⟨rfl, hC⟩
              refine ⟨ObS.of_val rfl (fun x v => rfl) (fun x V kst hC hD => ?_), ?_⟩
              · have e9 : x 9 = .pointer (some ⟨bp, 33 + k, none⟩) := hD.1 rfl
                have e6 : x 6 = .bool false := hD.2.1 rfl
                clear hD
                refine want_yes (by simp [Region.wanted, yielded, e6]) ?_
                have k0 := HAct.out V hC.pw
                exact leads_value (v := .int .u16 (pa : Int)) (by go_simp) ⟨rfl, hC⟩
              refine ⟨ObS.of_val rfl (fun x v => rfl) (fun x V kst hC hD => ?_), ?_⟩
              · have e6 : x 6 = .bool false := hD.1 rfl
                clear hD
                refine want_yes (by simp [Region.wanted, yielded, e6]) ?_
                exact leads_value (v := .pointer (some ⟨bp, 0, none⟩)) (by go_simp) ⟨rfl, hC⟩
              refine ⟨ObS.of_val rfl (fun x v => rfl) (fun x V kst hC hD => ?_), ?_⟩
              · have e11 : x 11 = .pointer (some ⟨bp, 0, none⟩) := hD.1 rfl
                have e6 : x 6 = .bool false := hD.2.1 rfl
                clear hD
                refine want_yes (by simp [Region.wanted, yielded, e6]) ?_
                have k0 := hC.pw.row.live
                exact leads_value (v := .int .u16 (p.live : Int)) (by go_simp) ⟨rfl, hC⟩
              refine ⟨ObS.of_val rfl (fun x v => rfl) (fun x V kst hC hD => ?_), ?_⟩
              · have e10 : x 10 = .int .u16 (pa : Int) := hD.1 rfl
                have e12 : x 12 = .int .u16 (p.live : Int) := hD.2.1 rfl
                have e6 : x 6 = .bool false := hD.2.2.1 rfl
                clear hD
                refine want_yes (by simp [Region.wanted, yielded, e6]) ?_
                exact leads_enter2 (by go_simp) ((HS21.out V).mono fun e w'' ⟨he, hB⟩ => ⟨_, he, rfl, hB ▸ hC⟩)
              refine ⟨ObS.of_val rfl (fun x v => rfl) (fun x V kst hC hD => ?_), ?_⟩
              · have e13 : x 13 = .bool false := hD.1 rfl
                have e6 : x 6 = .bool false := hD.2.1 rfl
                clear hD
                refine want_yes (by simp [Region.wanted, yielded, e6]) ?_
                exact leads_value (v := .bool true) (by go_simp) ⟨rfl, hC⟩
              refine ⟨ObS.of_val rfl (fun x v => rfl) (fun x V kst hC hD => ?_), ?_⟩
              · have e6 : x 6 = .bool false := hD.1 rfl
                have e14 : x 14 = .bool true := hD.2.1 rfl
                clear hD
                refine want_yes rfl ?_
                exact leads_value (v := .bool true) (by go_simp) ⟨rfl, hC⟩
              refine ⟨ObS.of_val rfl (fun x v => rfl) (fun x V kst hC hD => ?_), ?_⟩
              · have e15 : x 15 = .bool true := hD.1 rfl
                have e13 : x 13 = .bool false := hD.2.1 rfl
                clear hD
                refine want_yes rfl ?_
                exact leads_value (v := .bool true) (by go_simp) ⟨rfl, hC⟩
              refine ⟨ObS.of_val rfl (fun x v => rfl) (fun x V kst hC hD => ?_), ?_⟩
              · have e16 : x 16 = .bool true := hD.1 rfl
                clear hD
                exact want_no (by simp [Region.wanted, yielded, e16]) rfl
              refine ⟨ObS.of_val rfl (fun x v => rfl) (fun x V kst hC hD => ?_), ?_⟩
              · have e16 : x 16 = .bool true := hD.1 rfl
                clear hD
                exact want_no (by simp [Region.wanted, yielded, e16]) rfl
              refine ⟨ObS.of_val rfl (fun x v => rfl) (fun x V kst hC hD => ?_), ?_⟩
              · have e18 : x 18 = undef := hD.1 rfl
                have e17 : x 17 = undef := hD.2.1 rfl
                have e16 : x 16 = .bool true := hD.2.2.1 rfl
                clear hD
                exact want_no (by simp [Region.wanted, yielded, e16]) rfl
              refine ⟨ObS.of_val rfl (fun x v => rfl) (fun x V kst hC hD => ?_), ?_⟩
              · have e19 : x 19 = undef := hD.1 rfl
                have e16 : x 16 = .bool true := hD.2.1 rfl
                clear hD
                exact want_no (by simp [Region.wanted, yielded, e16]) rfl
              refine ⟨ObS.of_val rfl (fun x v => rfl) (fun x V kst hC hD => ?_), ?_⟩
              · have e16 : x 16 = .bool true := hD.1 rfl
                clear hD
                exact want_no (by simp [Region.wanted, yielded, e16]) rfl
              refine ⟨ObS.of_val rfl (fun x v => rfl) (fun x V kst hC hD => ?_), ?_⟩
              · have e20 : x 20 = undef := hD.1 rfl
                have e21 : x 21 = undef := hD.2.1 rfl
                have e16 : x 16 = .bool true := hD.2.2.1 rfl
                clear hD
                exact want_no (by simp [Region.wanted, yielded, e16]) rfl
              refine ⟨ObS.of_val rfl (fun x v => rfl) (fun x V kst hC hD => ?_), ?_⟩
              · have e16 : x 16 = .bool true := hD.1 rfl
                have e22 : x 22 = undef := hD.2.1 rfl
                clear hD
                refine want_yes rfl ?_
                exact leads_value (v := .bool true) (by go_simp) ⟨rfl, hC⟩
              trivial
            · intro xa V hC hx
              have e23 : xa 23 = .bool true := hx 23 (by simp)
              have HV := Lib.hid (show FW w bp p ba ps pi V from hC)
              clear hx hC
              rw [e23]
              clear e23
              go_wp2_with fail
              go_ret
              exact ⟨rfl, HV.out.pw.all⟩
          | true =>
            rw [h2] at HS21
            cases h3 : pa.testBit k with
            | true =>
              rw [h3] at HAr1
              have hfb : fb = false := HFr.out k hlt (by rw [HRb.out, h1, h2, h3]; rfl)
              subst hfb
              clear h1 h2 h3
              go_upto_region 7 with fail
              refine wp_region_S (fun _ V => FW w bp p ba ps pi V) 0 [.val (.agg #[.int .u16 (ps : Int), .int .u16 (pi : Int)]), .val (.int .u16 (tg : Int)), .val (.pointer (some ⟨bp, 65, none⟩)), .val (.int .u16 (p.active : Int)), .val (.bool true), .val (.bool false), .val (.bool false), .val (.int .i64 (k : Int)), .val (.pointer (some ⟨bp, 33, none⟩)), .val (.pointer (some ⟨bp, 33 + k, none⟩)), .val (.int .u16 (pa : Int)), .val (.pointer (some ⟨bp, 0, none⟩)), .val (.int .u16 (p.live : Int)), .val (.bool true), .val (.bool false), .val (.bool false), .val (.bool false), .val (.int .i64 (k : Int)), .val (.pointer (some ⟨bp, 33, none⟩)), .val (.pointer (some ⟨bp, 33 + k, none⟩)), .val (.int .u16 (pa : Int)), .val (.int .i64 (k : Int)), .val (.bool true), .val (.bool true)]
                (fun x => { tmps := #[.agg (polC p), .pointer (some ⟨bp, 0, none⟩), u2, .int .i64 (k : Int), .pointer (some ⟨ba, 0, none⟩), undef, undef, u7, u8, u9, u10, u11, u12, u13, u14, u15, u16, u17, u18, u19, u20, u21, u22, u23, u24, u25, u26, u27, u28, u29, u30, u31, u32, u33, u34, u35, .bool false, x 0, x 1, x 2, x 3, x 4, x 5, x 6, x 7, x 8, x 9, x 10, x 11, x 12, x 13, x 14, x 15, x 16, x 17, x 18, x 19, x 20, x 21, x 22, x 23, undef, undef, undef, undef, undef, undef, undef, undef, undef, undef, undef, undef, undef, undef, undef, undef, undef, undef, undef, undef, undef, undef, undef, undef, undef, undef, undef, undef, undef], defers := [] }) (fun i => ([u37, u38, u39, u40, u41, u42, u43, u44, u45, u46, u47, u48, u49, u50, u51, u52, u53, u54, u55, u56, u57, u58, u59, u60] : List Value).getD i undef) (by kernel_rfl) rfl rfl (by kernel_rfl) (by kernel_rfl) (by kernel_rfl) (by kernel_rfl) (HF.out.step (Below.refl _ _).drew) ?_ ?_
              · refine ⟨ObS.of_val rfl (fun x v => rfl) (fun x V kst hC hD => ?_), ?_⟩
                · clear hD
                  refine want_yes rfl ?_
                  have k0 := hC.lab.cell 0
                  have k1 := hC.lab.cell 1
                  exact leads_value (v := .agg #[.int .u16 (ps : Int), .int .u16 (pi : Int)]) (by go_simp) ⟨rfl, hC⟩
                refine ⟨ObS.of_val rfl (fun x v => rfl) (fun x V kst hC hD => ?_), ?_⟩
                · have e0 : x 0 = .agg #[.int .u16 (ps : Int), .int .u16 (pi : Int)] := hD.1 rfl
                  clear hD
                  refine want_yes rfl ?_
                  exact leads_enter2 (by go_simp) ((HTg1.out V).mono fun e w'' ⟨he, hB⟩ => ⟨_, he, rfl, hC.step hB⟩)
                refine ⟨ObS.of_val rfl (fun x v => rfl) (fun x V kst hC hD => ?_), ?_⟩
                · clear hD
                  refine want_yes rfl ?_
                  exact leads_value (v := .pointer (some ⟨bp, 65, none⟩)) (by go_simp) ⟨rfl, hC⟩
                refine ⟨ObS.of_val rfl (fun x v => rfl) (fun x V kst hC hD => ?_), ?_⟩
                · have e2 : x 2 = .pointer (some ⟨bp, 65, none⟩) := hD.1 rfl
                  clear hD
                  refine want_yes rfl ?_
                  have k0 := hC.pw.row.active
                  exact leads_value (v := .int .u16 (p.active : Int)) (by go_simp) ⟨rfl, hC⟩
                refine ⟨ObS.of_val rfl (fun x v => rfl) (fun x V kst hC hD => ?_), ?_⟩
                · have e1 : x 1 = .int .u16 (tg : Int) := hD.1 rfl
                  have e3 : x 3 = .int .u16 (p.active : Int) := hD.2.1 rfl
                  clear hD
                  refine want_yes rfl ?_
                  exact leads_enter2 (by go_simp) ((HS11.out V).mono fun e w'' ⟨he, hB⟩ => ⟨_, he, rfl, hB ▸ hC⟩)
                refine ⟨ObS.of_val rfl (fun x v => rfl) (fun x V kst hC hD => ?_), ?_⟩
                · have e4 : x 4 = .bool true := hD.1 rfl
                  clear hD
                  refine want_yes rfl ?_
                  exact leads_value (v := .bool false) (by go_simp) ⟨rfl, hC⟩
                refine ⟨ObS.of_val rfl (fun x v => rfl) (fun x V kst hC hD => ?_), ?_⟩
                · have e5 : x 5 = .bool false := hD.1 rfl
                  have e4 : x 4 = .bool true := hD.2.1 rfl
                  clear hD
                  refine want_yes rfl ?_
                  exact leads_value (v := .bool false) (by go_simp) ⟨rfl, hC⟩
                refine ⟨ObS.of_val rfl (fun x v => rfl) (fun x V kst hC hD => ?_), ?_⟩
                · have e6 : x 6 = .bool false := hD.1 rfl
                  clear hD
                  refine want_yes (by simp [Region.wanted, yielded, e6]) ?_
                  exact leads_value (v := .int .i64 (k : Int)) (by go_simp) ⟨rfl, hC⟩
                refine ⟨ObS.of_val rfl (fun x v => rfl) (fun x V kst hC hD => ?_), ?_⟩
                · have e6 : x 6 = .bool false := hD.1 rfl
                  clear hD
                  refine want_yes (by simp [Region.wanted, yielded, e6]) ?_
                  exact leads_value (v := .pointer (some ⟨bp, 33, none⟩)) (by go_simp) ⟨rfl, hC⟩
                refine ⟨ObS.of_val rfl (fun x v => rfl) (fun x V kst hC hD => ?_), ?_⟩
                · have e8 : x 8 = .pointer (some ⟨bp, 33, none⟩) := hD.1 rfl
                  have e7 : x 7 = .int .i64 (k : Int) := hD.2.1 rfl
                  have e6 : x 6 = .bool false := hD.2.2.1 rfl
                  clear hD
                  refine want_yes (by simp [Region.wanted, yielded, e6]) ?_
                  exact leads_value (v := .pointer (some ⟨bp, 33 + k, none⟩)) (by go_simp) ⟨rfl, hC⟩
                refine ⟨ObS.of_val rfl (fun x v => rfl) (fun x V kst hC hD => ?_), ?_⟩
                · have e9 : x 9 = .pointer (some ⟨bp, 33 + k, none⟩) := hD.1 rfl
                  have e6 : x 6 = .bool false := hD.2.1 rfl
                  clear hD
                  refine want_yes (by simp [Region.wanted, yielded, e6]) ?_
                  have k0 := HAct.out V hC.pw
                  exact leads_value (v := .int .u16 (pa : Int)) (by go_simp) ⟨rfl, hC⟩
                refine ⟨ObS.of_val rfl (fun x v => rfl) (fun x V kst hC hD => ?_), ?_⟩
                · have e6 : x 6 = .bool false := hD.1 rfl
                  clear hD
                  refine want_yes (by simp [Region.wanted, yielded, e6]) ?_
                  exact leads_value (v := .pointer (some ⟨bp, 0, none⟩)) (by go_simp) ⟨rfl, hC⟩
                refine ⟨ObS.of_val rfl (fun x v => rfl) (fun x V kst hC hD => ?_), ?_⟩
                · have e11 : x 11 = .pointer (some ⟨bp, 0, none⟩) := hD.1 rfl
                  have e6 : x 6 = .bool false := hD.2.1 rfl
                  clear hD
                  refine want_yes (by simp [Region.wanted, yielded, e6]) ?_
                  have k0 := hC.pw.row.live
                  exact leads_value (v := .int .u16 (p.live : Int)) (by go_simp) ⟨rfl, hC⟩
                refine ⟨ObS.of_val rfl (fun x v => rfl) (fun x V kst hC hD => ?_), ?_⟩
                · have e10 : x 10 = .int .u16 (pa : Int) := hD.1 rfl
                  have e12 : x 12 = .int .u16 (p.live : Int) := hD.2.1 rfl
                  have e6 : x 6 = .bool false := hD.2.2.1 rfl
                  clear hD
                  refine want_yes (by simp [Region.wanted, yielded, e6]) ?_
                  exact leads_enter2 (by go_simp) ((HS21.out V).mono fun e w'' ⟨he, hB⟩ => ⟨_, he, rfl, hB ▸ hC⟩)
                refine ⟨ObS.of_val rfl (fun x v => rfl) (fun x V kst hC hD => ?_), ?_⟩
                · have e13 : x 13 = .bool true := hD.1 rfl
                  have e6 : x 6 = .bool false := hD.2.1 rfl
                  clear hD
                  refine want_yes (by simp [Region.wanted, yielded, e6]) ?_
                  exact leads_value (v := .bool false) (by go_simp) ⟨rfl, hC⟩
                refine ⟨ObS.of_val rfl (fun x v => rfl) (fun x V kst hC hD => ?_), ?_⟩
                · have e6 : x 6 = .bool false := hD.1 rfl
                  have e14 : x 14 = .bool false := hD.2.1 rfl
                  clear hD
                  refine want_yes rfl ?_
                  exact leads_value (v := .bool false) (by go_simp) ⟨rfl, hC⟩
                refine ⟨ObS.of_val rfl (fun x v => rfl) (fun x V kst hC hD => ?_), ?_⟩
                · have e15 : x 15 = .bool false := hD.1 rfl
                  have e13 : x 13 = .bool true := hD.2.1 rfl
                  clear hD
                  refine want_yes rfl ?_
                  exact leads_value (v := .bool false) (by go_simp) ⟨rfl, hC⟩
                refine ⟨ObS.of_val rfl (fun x v => rfl) (fun x V kst hC hD => ?_), ?_⟩
                · have e16 : x 16 = .bool false := hD.1 rfl
                  clear hD
                  refine want_yes (by simp [Region.wanted, yielded, e16]) ?_
                  exact leads_value (v := .int .i64 (k : Int)) (by go_simp) ⟨rfl, hC⟩
                refine ⟨ObS.of_val rfl (fun x v => rfl) (fun x V kst hC hD => ?_), ?_⟩
                · have e16 : x 16 = .bool false := hD.1 rfl
                  clear hD
                  refine want_yes (by simp [Region.wanted, yielded, e16]) ?_
                  exact leads_value (v := .pointer (some ⟨bp, 33, none⟩)) (by go_simp) ⟨rfl, hC⟩
                refine ⟨ObS.of_val rfl (fun x v => rfl) (fun x V kst hC hD => ?_), ?_⟩
                · have e18 : x 18 = .pointer (some ⟨bp, 33, none⟩) := hD.1 rfl
                  have e17 : x 17 = .int .i64 (k : Int) := hD.2.1 rfl
                  have e16 : x 16 = .bool false := hD.2.2.1 rfl
                  clear hD
                  refine want_yes (by simp [Region.wanted, yielded, e16]) ?_
                  exact leads_value (v := .pointer (some ⟨bp, 33 + k, none⟩)) (by go_simp) ⟨rfl, hC⟩
                refine ⟨ObS.of_val rfl (fun x v => rfl) (fun x V kst hC hD => ?_), ?_⟩
                · have e19 : x 19 = .pointer (some ⟨bp, 33 + k, none⟩) := hD.1 rfl
                  have e16 : x 16 = .bool false := hD.2.1 rfl
                  clear hD
                  refine want_yes (by simp [Region.wanted, yielded, e16]) ?_
                  have k0 := HAct.out V hC.pw
                  exact leads_value (v := .int .u16 (pa : Int)) (by go_simp) ⟨rfl, hC⟩
                refine ⟨ObS.of_val rfl (fun x v => rfl) (fun x V kst hC hD => ?_), ?_⟩
                · have e16 : x 16 = .bool false := hD.1 rfl
                  clear hD
                  refine want_yes (by simp [Region.wanted, yielded, e16]) ?_
                  exact leads_value (v := .int .i64 (k : Int)) (by go_simp) ⟨rfl, hC⟩
                refine ⟨ObS.of_val rfl (fun x v => rfl) (fun x V kst hC hD => ?_), ?_⟩
                · have e20 : x 20 = .int .u16 (pa : Int) := hD.1 rfl
                  have e21 : x 21 = .int .i64 (k : Int) := hD.2.1 rfl
                  have e16 : x 16 = .bool false := hD.2.2.1 rfl
                  clear hD
                  refine want_yes (by simp [Region.wanted, yielded, e16]) ?_
                  exact leads_enter2 (by go_simp) ((HAr1.out V).mono fun e w'' ⟨he, hB⟩ => ⟨_, he, rfl, hB ▸ hC⟩)
                refine ⟨ObS.of_val rfl (fun x v => rfl) (fun x V kst hC hD => ?_), ?_⟩
                · have e16 : x 16 = .bool false := hD.1 rfl
                  have e22 : x 22 = .bool true := hD.2.1 rfl
                  clear hD
                  refine want_yes rfl ?_
                  exact leads_value (v := .bool true) (by go_simp) ⟨rfl, hC⟩
                trivial
              · intro xa V hC hx
                have e23 : xa 23 = .bool true := hx 23 (by simp)
                have HV := Lib.hid (show FW w bp p ba ps pi V from hC)
                clear hx hC
                rw [e23]
                clear e23
                go_wp2_with fail
                go_ret
                exact ⟨rfl, HV.out.pw.all⟩
            | false =>
              rw [h3] at HAr1
              have HAll2 := Lib.hid (show ∀ r, r < k + 1 → roleB p r = true from fun r hr => by
                by_cases e : r = k
                · subst e; rw [HRb.out, h1, h2, h3]; rfl
                · exact HAll.out r (by omega))
              clear h1 h2 h3
              go_upto_region 7 with fail
              refine wp_region_S (fun _ V => FW w bp p ba ps pi V) 0 [.val (.agg #[.int .u16 (ps : Int), .int .u16 (pi : Int)]), .val (.int .u16 (tg : Int)), .val (.pointer (some ⟨bp, 65, none⟩)), .val (.int .u16 (p.active : Int)), .val (.bool true), .val (.bool false), .val (.bool false), .val (.int .i64 (k : Int)), .val (.pointer (some ⟨bp, 33, none⟩)), .val (.pointer (some ⟨bp, 33 + k, none⟩)), .val (.int .u16 (pa : Int)), .val (.pointer (some ⟨bp, 0, none⟩)), .val (.int .u16 (p.live : Int)), .val (.bool true), .val (.bool false), .val (.bool false), .val (.bool false), .val (.int .i64 (k : Int)), .val (.pointer (some ⟨bp, 33, none⟩)), .val (.pointer (some ⟨bp, 33 + k, none⟩)), .val (.int .u16 (pa : Int)), .val (.int .i64 (k : Int)), .val (.bool false), .val (.bool false)]
                (fun x => { tmps := #[.agg (polC p), .pointer (some ⟨bp, 0, none⟩), u2, .int .i64 (k : Int), .pointer (some ⟨ba, 0, none⟩), undef, undef, u7, u8, u9, u10, u11, u12, u13, u14, u15, u16, u17, u18, u19, u20, u21, u22, u23, u24, u25, u26, u27, u28, u29, u30, u31, u32, u33, u34, u35, .bool false, x 0, x 1, x 2, x 3, x 4, x 5, x 6, x 7, x 8, x 9, x 10, x 11, x 12, x 13, x 14, x 15, x 16, x 17, x 18, x 19, x 20, x 21, x 22, x 23, undef, undef, undef, undef, undef, undef, undef, undef, undef, undef, undef, undef, undef, undef, undef, undef, undef, undef, undef, undef, undef, undef, undef, undef, undef, undef, undef, undef, undef], defers := [] }) (fun i => ([u37, u38, u39, u40, u41, u42, u43, u44, u45, u46, u47, u48, u49, u50, u51, u52, u53, u54, u55, u56, u57, u58, u59, u60] : List Value).getD i undef) (by kernel_rfl) rfl rfl (by kernel_rfl) (by kernel_rfl) (by kernel_rfl) (by kernel_rfl) (HF.out.step (Below.refl _ _).drew) ?_ ?_
              · refine ⟨ObS.of_val rfl (fun x v => rfl) (fun x V kst hC hD => ?_), ?_⟩
                · clear hD
                  refine want_yes rfl ?_
                  have k0 := hC.lab.cell 0
                  have k1 := hC.lab.cell 1
                  exact leads_value (v := .agg #[.int .u16 (ps : Int), .int .u16 (pi : Int)]) (by go_simp) ⟨rfl, hC⟩
                refine ⟨ObS.of_val rfl (fun x v => rfl) (fun x V kst hC hD => ?_), ?_⟩
                · have e0 : x 0 = .agg #[.int .u16 (ps : Int), .int .u16 (pi : Int)] := hD.1 rfl
                  clear hD
                  refine want_yes rfl ?_
                  exact leads_enter2 (by go_simp) ((HTg1.out V).mono fun e w'' ⟨he, hB⟩ => ⟨_, he, rfl, hC.step hB⟩)
                refine ⟨ObS.of_val rfl (fun x v => rfl) (fun x V kst hC hD => ?_), ?_⟩
                · clear hD
                  refine want_yes rfl ?_
                  exact leads_value (v := .pointer (some ⟨bp, 65, none⟩)) (by go_simp) ⟨rfl, hC⟩
                refine ⟨ObS.of_val rfl (fun x v => rfl) (fun x V kst hC hD => ?_), ?_⟩
                · have e2 : x 2 = .pointer (some ⟨bp, 65, none⟩) := hD.1 rfl
                  clear hD
                  refine want_yes rfl ?_
                  have k0 := hC.pw.row.active
                  exact leads_value (v := .int .u16 (p.active : Int)) (by go_simp) ⟨rfl, hC⟩
                refine ⟨ObS.of_val rfl (fun x v => rfl) (fun x V kst hC hD => ?_), ?_⟩
                · have e1 : x 1 = .int .u16 (tg : Int) := hD.1 rfl
                  have e3 : x 3 = .int .u16 (p.active : Int) := hD.2.1 rfl
                  clear hD
                  refine want_yes rfl ?_
                  exact leads_enter2 (by go_simp) ((HS11.out V).mono fun e w'' ⟨he, hB⟩ => ⟨_, he, rfl, hB ▸ hC⟩)
                refine ⟨ObS.of_val rfl (fun x v => rfl) (fun x V kst hC hD => ?_), ?_⟩
                · have e4 : x 4 = .bool true := hD.1 rfl
                  clear hD
                  refine want_yes rfl ?_
                  exact leads_value (v := .bool false) (by go_simp) ⟨rfl, hC⟩
                refine ⟨ObS.of_val rfl (fun x v => rfl) (fun x V kst hC hD => ?_), ?_⟩
                · have e5 : x 5 = .bool false := hD.1 rfl
                  have e4 : x 4 = .bool true := hD.2.1 rfl
                  clear hD
                  refine want_yes rfl ?_
                  exact leads_value (v := .bool false) (by go_simp) ⟨rfl, hC⟩
                refine ⟨ObS.of_val rfl (fun x v => rfl) (fun x V kst hC hD => ?_), ?_⟩
                · have e6 : x 6 = .bool false := hD.1 rfl
                  clear hD
                  refine want_yes (by simp [Region.wanted, yielded, e6]) ?_
                  exact leads_value (v := .int .i64 (k : Int)) (by go_simp) ⟨rfl, hC⟩
                refine ⟨ObS.of_val rfl (fun x v => rfl) (fun x V kst hC hD => ?_), ?_⟩
                · have e6 : x 6 = .bool false := hD.1 rfl
                  clear hD
                  refine want_yes (by simp [Region.wanted, yielded, e6]) ?_
                  exact leads_value (v := .pointer (some ⟨bp, 33, none⟩)) (by go_simp) ⟨rfl, hC⟩
                refine ⟨ObS.of_val rfl (fun x v => rfl) (fun x V kst hC hD => ?_), ?_⟩
                · have e8 : x 8 = .pointer (some ⟨bp, 33, none⟩) := hD.1 rfl
                  have e7 : x 7 = .int .i64 (k : Int) := hD.2.1 rfl
                  have e6 : x 6 = .bool false := hD.2.2.1 rfl
                  clear hD
                  refine want_yes (by simp [Region.wanted, yielded, e6]) ?_
                  exact leads_value (v := .pointer (some ⟨bp, 33 + k, none⟩)) (by go_simp) ⟨rfl, hC⟩
                refine ⟨ObS.of_val rfl (fun x v => rfl) (fun x V kst hC hD => ?_), ?_⟩
                · have e9 : x 9 = .pointer (some ⟨bp, 33 + k, none⟩) := hD.1 rfl
                  have e6 : x 6 = .bool false := hD.2.1 rfl
                  clear hD
                  refine want_yes (by simp [Region.wanted, yielded, e6]) ?_
                  have k0 := HAct.out V hC.pw
                  exact leads_value (v := .int .u16 (pa : Int)) (by go_simp) ⟨rfl, hC⟩
                refine ⟨ObS.of_val rfl (fun x v => rfl) (fun x V kst hC hD => ?_), ?_⟩
                · have e6 : x 6 = .bool false := hD.1 rfl
                  clear hD
                  refine want_yes (by simp [Region.wanted, yielded, e6]) ?_
                  exact leads_value (v := .pointer (some ⟨bp, 0, none⟩)) (by go_simp) ⟨rfl, hC⟩
                refine ⟨ObS.of_val rfl (fun x v => rfl) (fun x V kst hC hD => ?_), ?_⟩
                · have e11 : x 11 = .pointer (some ⟨bp, 0, none⟩) := hD.1 rfl
                  have e6 : x 6 = .bool false := hD.2.1 rfl
                  clear hD
                  refine want_yes (by simp [Region.wanted, yielded, e6]) ?_
                  have k0 := hC.pw.row.live
                  exact leads_value (v := .int .u16 (p.live : Int)) (by go_simp) ⟨rfl, hC⟩
                refine ⟨ObS.of_val rfl (fun x v => rfl) (fun x V kst hC hD => ?_), ?_⟩
                · have e10 : x 10 = .int .u16 (pa : Int) := hD.1 rfl
                  have e12 : x 12 = .int .u16 (p.live : Int) := hD.2.1 rfl
                  have e6 : x 6 = .bool false := hD.2.2.1 rfl
                  clear hD
                  refine want_yes (by simp [Region.wanted, yielded, e6]) ?_
                  exact leads_enter2 (by go_simp) ((HS21.out V).mono fun e w'' ⟨he, hB⟩ => ⟨_, he, rfl, hB ▸ hC⟩)
                refine ⟨ObS.of_val rfl (fun x v => rfl) (fun x V kst hC hD => ?_), ?_⟩
                · have e13 : x 13 = .bool true := hD.1 rfl
                  have e6 : x 6 = .bool false := hD.2.1 rfl
                  clear hD
                  refine want_yes (by simp [Region.wanted, yielded, e6]) ?_
                  exact leads_value (v := .bool false) (by go_simp) ⟨rfl, hC⟩
                refine ⟨ObS.of_val rfl (fun x v => rfl) (fun x V kst hC hD => ?_), ?_⟩
                · have e6 : x 6 = .bool false := hD.1 rfl
                  have e14 : x 14 = .bool false := hD.2.1 rfl
                  clear hD
                  refine want_yes rfl ?_
                  exact leads_value (v := .bool false) (by go_simp) ⟨rfl, hC⟩
                refine ⟨ObS.of_val rfl (fun x v => rfl) (fun x V kst hC hD => ?_), ?_⟩
                · have e15 : x 15 = .bool false := hD.1 rfl
                  have e13 : x 13 = .bool true := hD.2.1 rfl
                  clear hD
                  refine want_yes rfl ?_
                  exact leads_value (v := .bool false) (by go_simp) ⟨rfl, hC⟩
                refine ⟨ObS.of_val rfl (fun x v => rfl) (fun x V kst hC hD => ?_), ?_⟩
                · have e16 : x 16 = .bool false := hD.1 rfl
                  clear hD
                  refine want_yes (by simp [Region.wanted, yielded, e16]) ?_
                  exact leads_value (v := .int .i64 (k : Int)) (by go_simp) ⟨rfl, hC⟩
                refine ⟨ObS.of_val rfl (fun x v => rfl) (fun x V kst hC hD => ?_), ?_⟩
                · have e16 : x 16 = .bool false := hD.1 rfl
                  clear hD
                  refine want_yes (by simp [Region.wanted, yielded, e16]) ?_
                  exact leads_value (v := .pointer (some ⟨bp, 33, none⟩)) (by go_simp) ⟨rfl, hC⟩
                refine ⟨ObS.of_val rfl (fun x v => rfl) (fun x V kst hC hD => ?_), ?_⟩
                · have e18 : x 18 = .pointer (some ⟨bp, 33, none⟩) := hD.1 rfl
                  have e17 : x 17 = .int .i64 (k : Int) := hD.2.1 rfl
                  have e16 : x 16 = .bool false := hD.2.2.1 rfl
                  clear hD
                  refine want_yes (by simp [Region.wanted, yielded, e16]) ?_
                  exact leads_value (v := .pointer (some ⟨bp, 33 + k, none⟩)) (by go_simp) ⟨rfl, hC⟩
                refine ⟨ObS.of_val rfl (fun x v => rfl) (fun x V kst hC hD => ?_), ?_⟩
                · have e19 : x 19 = .pointer (some ⟨bp, 33 + k, none⟩) := hD.1 rfl
                  have e16 : x 16 = .bool false := hD.2.1 rfl
                  clear hD
                  refine want_yes (by simp [Region.wanted, yielded, e16]) ?_
                  have k0 := HAct.out V hC.pw
                  exact leads_value (v := .int .u16 (pa : Int)) (by go_simp) ⟨rfl, hC⟩
                refine ⟨ObS.of_val rfl (fun x v => rfl) (fun x V kst hC hD => ?_), ?_⟩
                · have e16 : x 16 = .bool false := hD.1 rfl
                  clear hD
                  refine want_yes (by simp [Region.wanted, yielded, e16]) ?_
                  exact leads_value (v := .int .i64 (k : Int)) (by go_simp) ⟨rfl, hC⟩
                refine ⟨ObS.of_val rfl (fun x v => rfl) (fun x V kst hC hD => ?_), ?_⟩
                · have e20 : x 20 = .int .u16 (pa : Int) := hD.1 rfl
                  have e21 : x 21 = .int .i64 (k : Int) := hD.2.1 rfl
                  have e16 : x 16 = .bool false := hD.2.2.1 rfl
                  clear hD
                  refine want_yes (by simp [Region.wanted, yielded, e16]) ?_
                  exact leads_enter2 (by go_simp) ((HAr1.out V).mono fun e w'' ⟨he, hB⟩ => ⟨_, he, rfl, hB ▸ hC⟩)
                refine ⟨ObS.of_val rfl (fun x v => rfl) (fun x V kst hC hD => ?_), ?_⟩
                · have e16 : x 16 = .bool false := hD.1 rfl
                  have e22 : x 22 = .bool false := hD.2.1 rfl
                  clear hD
                  refine want_yes rfl ?_
                  exact leads_value (v := .bool false) (by go_simp) ⟨rfl, hC⟩
                trivial
              · intro xa V hC hx
                have e23 : xa 23 = .bool false := hx 23 (by simp)
                have HV := Lib.hid (show FW w bp p ba ps pi V from hC)
                clear hx hC
                rw [e23]
                clear e23
                go_wp2_with fail
                go_roundw
                case rel => first | exact ⟨k + 1, by omega, by go_num, HAll2.out, HV.out.pw⟩ | ((repeat apply Exists.intro); exact ⟨⟨k + 1, by omega, by go_num, HAll2.out, HV.out.pw⟩, rfl⟩)
                case measure => simp [intOf]; omega
    · obtain rfl : k = 16 := by omega
      clear hg HTg HS1 HS2 HAr HFr
      go_wp2_with fail
      go_loopw [5] (fun i wr => ∃ k : Nat, k ≤ 16 ∧ i = .int .i64 (k : Int) ∧ (∀ r, r < k → ownerB p r = true) ∧ PW w bp p wr) (fun i _ => 16 - (intOf i).toNat)
      case atStart => exact ⟨0, by omega, rfl, fun r hr => by omega, HG.out⟩
      case round =>
        obtain ⟨k, hk, rfl, hall, hg⟩ := hrel
        have HG2 := Lib.hid hg
        have HAllO := Lib.hid hall
        clear hall HG
        by_cases hlt : k < 16
        · have dk : decide ((k : Int) < 16) = true := by simp; omega
          have hk16 : (k : Int) < 16 := by omega
          have k0 := hg.row.owner hlt
          have l0 := hg.row.live
          have l1 := hg.row.active
          have ho := HOw.out k hlt
          have HHl1 := Lib.hid (fun V => HHl.out V (p.owner k))
          have HHa1 := Lib.hid (fun V => HHa.out V k)
          have HOb := Lib.hid (show ownerB p k = (decide (p.owner k ≤ 16) && (decide (p.owner k = 16) || (p.live.testBit (p.owner k) && p.active.testBit k))) from rfl)
          clear hg
          generalize p.owner k = po at *
          by_cases g16 : 16 < po
          · have hfb : fb = false := HFo.out k hlt (by rw [HOb.out, decide_eq_false (by omega)]; rfl)
            have d16 : decide (16 < (po : Int)) = true := by simp; omega
            subst hfb
            clear g16
            go_wp2_with fail
            go_ret
            exact ⟨rfl, HG2.out.all⟩
          · have d16 : decide (16 < (po : Int)) = false := by simp; omega
            by_cases e16 : po = 16
            · have HAll2 := Lib.hid (show ∀ r, r < k + 1 → ownerB p r = true from fun r hr => by
                by_cases e : r = k
                · subst e; rw [HOb.out, e16]; rfl
                · exact HAllO.out r (by omega))
              subst e16
              clear g16
              go_wp2_with fail
              go_roundw
              case rel => first | exact ⟨k + 1, by omega, by go_num, HAll2.out, HG2.out⟩ | ((repeat apply Exists.intro); exact ⟨⟨k + 1, by omega, by go_num, HAll2.out, HG2.out⟩, rfl⟩)
              case measure => simp [intOf]; omega
            · have l16 : decide ((po : Int) < 16) = true := by simp; omega
              have HD := Lib.hid (And.intro (decide_eq_true (show po ≤ 16 by omega)) (decide_eq_false e16))
              clear g16 e16
              cases h1 : p.live.testBit po with
              | false =>
                rw [h1] at HHl1
                have hfb : fb = false := HFo.out k hlt (by rw [HOb.out, HD.out.1, HD.out.2, h1]; rfl)
                subst hfb
                clear h1
                go_wp2_with fail
                with_reducible refine (HHl1.out _).mono ?_
                rintro e wx ⟨rfl, rfl⟩
                go_wp2_with fail
                go_ret
                exact ⟨rfl, HG2.out.all⟩
              | true =>
                rw [h1] at HHl1
                cases h2 : p.active.testBit k with
                | false =>
                  rw [h2] at HHa1
                  have hfb : fb = false := HFo.out k hlt (by rw [HOb.out, HD.out.1, HD.out.2, h1, h2]; rfl)
                  subst hfb
                  clear h1 h2
                  go_wp2_with fail
                  with_reducible refine (HHl1.out _).mono ?_
                  rintro e wx ⟨rfl, rfl⟩
                  go_wp2_with fail
                  with_reducible refine (HHa1.out _).mono ?_
                  rintro e wx ⟨rfl, rfl⟩
                  go_wp2_with fail
                  go_ret
                  exact ⟨rfl, HG2.out.all⟩
                | true =>
                  rw [h2] at HHa1
                  have HAll2 := Lib.hid (show ∀ r, r < k + 1 → ownerB p r = true from fun r hr => by
                    by_cases e : r = k
                    · subst e; rw [HOb.out, HD.out.1, HD.out.2, h1, h2]; rfl
                    · exact HAllO.out r (by omega))
                  clear h1 h2
                  go_wp2_with fail
                  with_reducible refine (HHl1.out _).mono ?_
                  rintro e wx ⟨rfl, rfl⟩
                  go_wp2_with fail
                  with_reducible refine (HHa1.out _).mono ?_
                  rintro e wx ⟨rfl, rfl⟩
                  go_wp2_with fail
                  go_roundw
                  case rel => first | exact ⟨k + 1, by omega, by go_num, HAll2.out, HG2.out⟩ | ((repeat apply Exists.intro); exact ⟨⟨k + 1, by omega, by go_num, HAll2.out, HG2.out⟩, rfl⟩)
                  case measure => simp [intOf]; omega
        · obtain rfl : k = 16 := by omega
          clear hg
          have hfb : fb = true := HFy.out HAll.out HAllO.out
          subst hfb
          go_wp2_with fail
          go_ret
          exact ⟨rfl, HG2.out.all⟩
end Go.Proofs.YtmaachmidgfhdaaGreatDoor

/-! PolT -/
namespace Go.Proofs.YtmaachmidgfhdaaGreatDoor
open Go.RowKit

/-- The first policy: role 0 alone is there, without secrets and with all integrity; all tags are active. -/
def firstP : Pol := ⟨1, fun _ => 0, fun r => if r = 0 then 65535 else 0, fun _ => 0, fun _ => 0, 65535⟩
theorem firstP_ok : PolOk firstP := by
  refine ⟨by decide, by decide, fun r _ => ?_, fun r _ => ?_, fun r _ => ?_, fun r _ => ?_⟩
  · show (0 : Nat) < 65536; decide
  · show (if r = 0 then 65535 else 0) < 65536; split <;> decide
  · show (0 : Nat) < 65536; decide
  · show (0 : Nat) < 256; decide
def zeroP : Pol := ⟨0, fun _ => 0, fun _ => 0, fun _ => 0, fun _ => 0, 0⟩
theorem zeroP_ok : PolOk zeroP := ⟨by decide, by decide, fun _ _ => by show (0 : Nat) < 65536; decide, fun _ _ => by show (0 : Nat) < 65536; decide, fun _ _ => by show (0 : Nat) < 65536; decide, fun _ _ => by show (0 : Nat) < 256; decide⟩
theorem zeroPol (w : World) : (zeroValue 29).run Tryz.prog w = .ok (.agg (polC zeroP)) w := by kernel_rfl
theorem zeroPolC : Tryz.zeroCells29 = polC zeroP := by kernel_rfl
attribute [go_sem] zeroPolC
theorem below_row {w : World} {b B : Nat} {c : Array Value} (h : B ≤ b) : Below B w (w.setRow b c) where
  os := rfl
  tape := rfl
  output := rfl
  size := by simp
  block := fun i hi => by rw [setRow_other w b i c (by omega)]
def midP : Pol := ⟨1, fun _ => 0, fun _ => 0, fun _ => 0, fun _ => 0, 65535⟩
theorem store_pol {w : World} {b : Nat} {p q : Pol} (h : PRow w b p) {l : List Value} (hl : l = (polC q).toList) : (storeCells ⟨b, 0, none⟩ l).run Tryz.prog w = .ok () (w.setRow b (polC q)) := by
  subst hl
  exact run_storeCells_from (P := Tryz.prog) b _ (polC q).toList 0 (polC p) w h (by simp [polC_size]) (fun v hv => (Array.all_eq_true_iff_forall_mem.1 (polC_one q)) v (by simpa using hv))
set_option maxRecDepth 100000 in
theorem mid_pol : (((polC zeroP).toList.set 0 (.int .u16 1)).set 65 (.int .u16 65535)) = (polC midP).toList := by kernel_rfl
set_option maxRecDepth 100000 in
theorem first_pol : ((polC midP).setIfInBounds 1 (.int .u16 0)).setIfInBounds 2 (.int .u16 65535) = polC firstP := by kernel_rfl
end Go.Proofs.YtmaachmidgfhdaaGreatDoor

/-! PolU -/
namespace Go.Proofs.YtmaachmidgfhdaaGreatDoor
open Go.RowKit

def upd (f : Nat → Nat) (r v : Nat) : Nat → Nat := fun j => if j = r then v else f j
theorem upd_same (f : Nat → Nat) (r v : Nat) : upd f r v r = v := if_pos rfl
theorem upd_other (f : Nat → Nat) {r j : Nat} (v : Nat) (h : j ≠ r) : upd f r v j = f j := if_neg h
theorem upd_lt {f : Nat → Nat} {r v n : Nat} (hf : ∀ j, j < 16 → f j < n) (hv : v < n) (j : Nat) (hj : j < 16) : upd f r v j < n := by
  unfold upd; split
  · exact hv
  · exact hf j hj
def Pol.putS (p : Pol) (r v : Nat) : Pol := { p with s := upd p.s r v }
def Pol.putI (p : Pol) (r v : Nat) : Pol := { p with i := upd p.i r v }
def Pol.putA (p : Pol) (r v : Nat) : Pol := { p with acts := upd p.acts r v }
def Pol.putO (p : Pol) (t v : Nat) : Pol := { p with owner := upd p.owner t v }
theorem polC_put {p q : Pol} {k : Nat} {u : Value} (h : ∀ j, j < 66 → polAt q j = if j = k then u else polAt p j) : (polC p).setIfInBounds k u = polC q := by
  apply Array.ext
  · rw [Array.size_setIfInBounds, polC_size, polC_size]
  · intro j h1 h2
    have hj : j < 66 := by rw [polC_size] at h2; exact h2
    have e1 := polC_get q hj
    have e2 := polC_get p hj
    rw [Array.getElem?_eq_getElem h2] at e1
    rw [Array.getElem?_eq_getElem (by rw [polC_size]; exact hj)] at e2
    have hj2 : j < (polC p).size := by rw [polC_size]; exact hj
    rw [Array.getElem_setIfInBounds hj2, Option.some.inj e1, h j hj]
    by_cases e : k = j
    · subst e; rw [if_pos rfl, if_pos rfl]
    · rw [if_neg e, if_neg (fun x => e x.symm)]; exact Option.some.inj e2
theorem PRow.put {w : World} {b : Nat} {p q : Pol} {k : Nat} {u : Value} (h : PRow w b p) (hq : ∀ j, j < 66 → polAt q j = if j = k then u else polAt p j) : PRow (w.setCell ⟨b, k, none⟩ u) b q := by
  have h2 := Blk.set h k u
  rw [polC_put hq] at h2
  exact h2
section
variable {w : World} {b : Nat} {p : Pol}
theorem PRow.putS (h : PRow w b p) {r : Nat} (hr : r < 16) (v : Nat) : PRow (w.setCell ⟨b, 1 + r * 2, none⟩ (.int .u16 (v : Int))) b (p.putS r v) := by
  refine h.put fun j _ => ?_
  by_cases e : j = 1 + r * 2
  · subst e
    rw [if_pos rfl]; unfold polAt
    rw [if_neg (by omega), if_pos (by omega), if_pos (by omega), show (1 + r * 2) / 2 = r by omega]
    show Value.int .u16 (upd p.s r v r : Nat) = _
    rw [upd_same]
  · rw [if_neg e]; unfold polAt
    by_cases h0 : j = 0
    · rw [if_pos h0, if_pos h0]; rfl
    · rw [if_neg h0, if_neg h0]
      by_cases h1 : j < 33
      · rw [if_pos h1, if_pos h1]
        by_cases h2 : j % 2 = 1
        · rw [if_pos h2, if_pos h2]
          show Value.int .u16 (upd p.s r v (j / 2) : Nat) = _
          rw [upd_other _ _ (by omega)]
        · rw [if_neg h2, if_neg h2]; rfl
      · rw [if_neg h1, if_neg h1]; rfl
theorem PRow.putI (h : PRow w b p) {r : Nat} (hr : r < 16) (v : Nat) : PRow (w.setCell ⟨b, 1 + r * 2 + 1, none⟩ (.int .u16 (v : Int))) b (p.putI r v) := by
  refine h.put fun j _ => ?_
  by_cases e : j = 1 + r * 2 + 1
  · subst e
    rw [if_pos rfl]; unfold polAt
    rw [if_neg (by omega), if_pos (by omega), if_neg (by omega), show (1 + r * 2 + 1) / 2 - 1 = r by omega]
    show Value.int .u16 (upd p.i r v r : Nat) = _
    rw [upd_same]
  · rw [if_neg e]; unfold polAt
    by_cases h0 : j = 0
    · rw [if_pos h0, if_pos h0]; rfl
    · rw [if_neg h0, if_neg h0]
      by_cases h1 : j < 33
      · rw [if_pos h1, if_pos h1]
        by_cases h2 : j % 2 = 1
        · rw [if_pos h2, if_pos h2]; rfl
        · rw [if_neg h2, if_neg h2]
          show Value.int .u16 (upd p.i r v (j / 2 - 1) : Nat) = _
          rw [upd_other _ _ (by omega)]
      · rw [if_neg h1, if_neg h1]; rfl
theorem PRow.putA (h : PRow w b p) {r : Nat} (hr : r < 16) (v : Nat) : PRow (w.setCell ⟨b, 33 + r, none⟩ (.int .u16 (v : Int))) b (p.putA r v) := by
  refine h.put fun j _ => ?_
  by_cases e : j = 33 + r
  · subst e
    rw [if_pos rfl]; unfold polAt
    rw [if_neg (by omega), if_neg (by omega), if_pos (by omega), show 33 + r - 33 = r by omega]
    show Value.int .u16 (upd p.acts r v r : Nat) = _
    rw [upd_same]
  · rw [if_neg e]; unfold polAt
    by_cases h0 : j = 0
    · rw [if_pos h0, if_pos h0]; rfl
    · rw [if_neg h0, if_neg h0]
      by_cases h1 : j < 33
      · rw [if_pos h1, if_pos h1]; rfl
      · rw [if_neg h1, if_neg h1]
        by_cases h2 : j < 49
        · rw [if_pos h2, if_pos h2]
          show Value.int .u16 (upd p.acts r v (j - 33) : Nat) = _
          rw [upd_other _ _ (by omega)]
        · rw [if_neg h2, if_neg h2]; rfl
theorem PRow.putO (h : PRow w b p) {t : Nat} (ht : t < 16) (v : Nat) : PRow (w.setCell ⟨b, 49 + t, none⟩ (.int .u8 (v : Int))) b (p.putO t v) := by
  refine h.put fun j _ => ?_
  by_cases e : j = 49 + t
  · subst e
    rw [if_pos rfl]; unfold polAt
    rw [if_neg (by omega), if_neg (by omega), if_neg (by omega), if_pos (by omega), show 49 + t - 49 = t by omega]
    show Value.int .u8 (upd p.owner t v t : Nat) = _
    rw [upd_same]
  · rw [if_neg e]; unfold polAt
    by_cases h0 : j = 0
    · rw [if_pos h0, if_pos h0]; rfl
    · rw [if_neg h0, if_neg h0]
      by_cases h1 : j < 33
      · rw [if_pos h1, if_pos h1]; rfl
      · rw [if_neg h1, if_neg h1]
        by_cases h2 : j < 49
        · rw [if_pos h2, if_pos h2]; rfl
        · rw [if_neg h2, if_neg h2]
          by_cases h3 : j < 65
          · rw [if_pos h3, if_pos h3]
            show Value.int .u8 (upd p.owner t v (j - 49) : Nat) = _
            rw [upd_other _ _ (by omega)]
          · rw [if_neg h3, if_neg h3]; rfl
end
end Go.Proofs.YtmaachmidgfhdaaGreatDoor

/-! PolLb -/
namespace Go.Proofs.YtmaachmidgfhdaaGreatDoor
open Go.RowKit

theorem midC_two {cs : Array Value} {off : Nat} {x y : Value} (h : off + 2 ≤ cs.size) : midC cs off #[x, y] = (cs.setIfInBounds off x).setIfInBounds (off + 1) y := by
  apply Array.ext_getElem?
  intro j
  rw [midC_get (by simpa using h), Array.getElem?_setIfInBounds, Array.getElem?_setIfInBounds, Array.size_setIfInBounds]
  show (if off ≤ j ∧ j < off + 2 then _ else _) = _
  by_cases e1 : j = off + 1
  · subst e1
    rw [if_pos (by omega), if_pos rfl, if_pos (by omega), show off + 1 - off = 1 by omega]; rfl
  · by_cases e0 : j = off
    · subst e0
      rw [if_pos (by omega), if_neg (by omega), if_pos rfl, if_pos (by omega), Nat.sub_self]; rfl
    · rw [if_neg (by omega), if_neg (by omega), if_neg (by omega)]
theorem cells_inj {w : World} {b : Nat} {xs ys : Array Value} {t : TypeId} (h : Blk w b xs t) (k : Blk w b ys t) : xs = ys := by
  unfold Blk at h k
  rw [h] at k
  cases k; rfl
/-- A whole label is set. -/
theorem PRow.putLab {w w' : World} {b : Nat} {q : Pol} {a : Nat} {s i : Nat} (h : PRow w b q) (ha : a < 16) (hp : Put w w' b (midC (polC q) (1 + a * 2) #[.int .u16 (s : Int), .int .u16 (i : Int)]) 29) : Put w w' b (polC ((q.putS a s).putI a i)) 29 := by
  have e := cells_inj (Blk.set (Blk.set h (1 + a * 2) (.int .u16 (s : Int))) (1 + a * 2 + 1) (.int .u16 (i : Int))) ((PRow.putS h ha s).putI ha i)
  rw [midC_two (by rw [polC_size]; omega), e] at hp
  exact hp
/-- A whole policy is stored. -/
theorem put_pol {w : World} {b : Nat} {p q : Pol} (h : PRow w b p) : Put w (w.setRow b (polC q)) b (polC q) 29 := ⟨⟨rfl, rfl, rfl, by simp, fun k _ hk => setRow_other w b k _ hk⟩, setRow_heap w b _ _ _ _ h⟩
theorem results_pol2 {fn : Func} {p q : Tmp} (h : fn.results = #[.cell p 29, .tmp q]) {tmps : Array Value} {w : World} {b : Nat} {P : Pol} {v : Value} (hp : tmps.getD p undef = .pointer (some ⟨b, 0, none⟩)) (hq : tmps.getD q undef = v) (hr : PRow w b P) :
    (results fn tmps).run Tryz.prog w = .ok (.tuple #[.agg (polC P), v]) w := by
  have hp' : tmps[p]?.getD undef = .pointer (some ⟨b, 0, none⟩) := by simpa using hp
  have hq' : tmps[q]?.getD undef = v := by simpa using hq
  simp [results, h, hp', hq', asAddr, run_loadVar_row w b _ 29 (polC P) _ _ hr Tryz.underlying29 rfl (infoPol P)]
end Go.Proofs.YtmaachmidgfhdaaGreatDoor

/-! PolV -/
namespace Go.Proofs.YtmaachmidgfhdaaGreatDoor
open Go.RowKit

/-- What is left of a role's label, of what it acts for, and of a tag's owner. -/
def mSet (p : Pol) (f : Nat → Nat) (r : Nat) : Nat := if p.live.testBit r = true then f r &&& p.active else 0
def mAct (p : Pol) (r : Nat) : Nat := if p.live.testBit r = true then lessN (p.acts r &&& p.live) (withN 0 r) else 0
def mOwn (p : Pol) (t : Nat) : Nat := if (p.live.testBit (p.owner t) && p.active.testBit t) = true then p.owner t else 16
def uptoN (f g : Nat → Nat) (k : Nat) : Nat → Nat := fun r => if r < k then f r else g r
theorem uptoN_zero (f g : Nat → Nat) : uptoN f g 0 = g := by funext r; exact if_neg (by omega)
theorem uptoN_at (f g : Nat → Nat) (k : Nat) : uptoN f g k k = g k := if_neg (by omega)
theorem uptoN_step (f g : Nat → Nat) (k : Nat) : upd (uptoN f g k) k (f k) = uptoN f g (k + 1) := by
  funext r; unfold upd uptoN
  by_cases h : r = k
  · subst h; rw [if_pos rfl, if_pos (by omega)]
  · rw [if_neg h]
    by_cases h2 : r < k
    · rw [if_pos h2, if_pos (by omega)]
    · rw [if_neg h2, if_neg (by omega)]
theorem upd_upd (f : Nat → Nat) (k u v : Nat) : upd (upd f k u) k v = upd f k v := by
  funext r; unfold upd
  by_cases h : r = k
  · rw [if_pos h, if_pos h]
  · rw [if_neg h, if_neg h, if_neg h]
/-- The roles below k are mended. -/
def mendK (p : Pol) (k : Nat) : Pol := ⟨p.live, uptoN (mSet p p.s) p.s k, uptoN (mSet p p.i) p.i k, uptoN (mAct p) p.acts k, p.owner, p.active⟩
/-- All roles are mended, and the tags below k. -/
def mendT (p : Pol) (k : Nat) : Pol := { mendK p 16 with owner := uptoN (mOwn p) p.owner k }
def mendN (p : Pol) : Pol := mendT p 16
theorem mendK_zero (p : Pol) : mendK p 0 = p := by unfold mendK; rw [uptoN_zero, uptoN_zero, uptoN_zero]
theorem mendT_zero (p : Pol) : mendT p 0 = mendK p 16 := by unfold mendT; rw [uptoN_zero]; rfl
theorem mendK_live (p : Pol) (k : Nat) (h : p.live.testBit k = true) :
    (((mendK p k).putS k ((mendK p k).s k &&& p.active)).putI k ((mendK p k).i k &&& p.active)).putA k (lessN ((mendK p k).acts k &&& p.live) (withN 0 k)) = mendK p (k + 1) := by
  have e1 : (mendK p k).s k &&& p.active = mSet p p.s k := by
    show uptoN _ _ k k &&& _ = _
    rw [uptoN_at]; exact (if_pos h).symm
  have e2 : (mendK p k).i k &&& p.active = mSet p p.i k := by
    show uptoN _ _ k k &&& _ = _
    rw [uptoN_at]; exact (if_pos h).symm
  have e3 : lessN ((mendK p k).acts k &&& p.live) (withN 0 k) = mAct p k := by
    show lessN (uptoN _ _ k k &&& _) _ = _
    rw [uptoN_at]; exact (if_pos h).symm
  rw [e1, e2, e3]
  unfold Pol.putS Pol.putI Pol.putA mendK
  simp only [uptoN_step]
theorem mendK_dead (p : Pol) (k : Nat) (h : p.live.testBit k = false) :
    ((((((mendK p k).putS k 0).putI k 0).putA k 0).putS k (0 &&& p.active)).putI k (0 &&& p.active)).putA k (lessN (0 &&& p.live) (withN 0 k)) = mendK p (k + 1) := by
  have hn : ¬ p.live.testBit k = true := by rw [h]; simp
  have e1 : (0 &&& p.active) = mSet p p.s k := by rw [Nat.zero_and]; exact (if_neg hn).symm
  have e2 : (0 &&& p.active) = mSet p p.i k := by rw [Nat.zero_and]; exact (if_neg hn).symm
  have e3 : lessN (0 &&& p.live) (withN 0 k) = mAct p k := by
    rw [Nat.zero_and]; unfold lessN; rw [Nat.zero_and]; exact (if_neg hn).symm
  rw [e3, show ((((mendK p k).putS k 0).putI k 0).putA k 0).putS k (0 &&& p.active) = ((((mendK p k).putS k 0).putI k 0).putA k 0).putS k (mSet p p.s k) by rw [e1], e2]
  unfold Pol.putS Pol.putI Pol.putA mendK
  simp only [upd_upd, uptoN_step]
theorem mendT_step (p : Pol) (k : Nat) : (mendT p k).putO k (mOwn p k) = mendT p (k + 1) := by
  unfold Pol.putO mendT
  simp only [uptoN_step]
theorem mendT_keep (p : Pol) (k : Nat) (h : (p.live.testBit (p.owner k) && p.active.testBit k) = true) : mendT p k = mendT p (k + 1) := by
  rw [← mendT_step]
  unfold Pol.putO mendT
  have e : upd (uptoN (mOwn p) p.owner k) k (mOwn p k) = uptoN (mOwn p) p.owner k := by
    funext r; unfold upd
    by_cases hr : r = k
    · subst hr; rw [if_pos rfl, uptoN_at]; exact if_pos h
    · rw [if_neg hr]
  simp only [e]
theorem mSet_lt {p : Pol} {f : Nat → Nat} {r : Nat} (h : f r < 65536) : mSet p f r < 65536 := by
  unfold mSet; split
  · exact and_lt _ h
  · decide
theorem mendK_ok {p : Pol} (h : PolOk p) (k : Nat) : PolOk (mendK p k) := by
  refine ⟨h.live, h.active, fun r hr => ?_, fun r hr => ?_, fun r hr => ?_, h.owner⟩
  · show uptoN _ _ k r < _
    unfold uptoN; split
    · exact mSet_lt (h.s r hr)
    · exact h.s r hr
  · show uptoN _ _ k r < _
    unfold uptoN; split
    · exact mSet_lt (h.i r hr)
    · exact h.i r hr
  · show uptoN _ _ k r < _
    unfold uptoN; split
    · unfold mAct; split
      · exact lessN_lt _ (and_lt _ (h.acts r hr))
      · decide
    · exact h.acts r hr
end Go.Proofs.YtmaachmidgfhdaaGreatDoor

/-
  A region that draws its order, where some operations come one behind the other, each with a value that need not be known beforehand, and change what is known; all else has a value that is known, or hands one of these on. C vs is what is known of memory when these have had the values vs.
-/
import Derived.Test.YtcbphjdhafnkmaaDoorStage
namespace Go.Proofs.YtcbphjdhafnkmaaDoor
open Go.RowKit

/-- It has this value; it is number k of those in turn; it has the value of number k. -/
inductive Step where
  | val (v : Value)
  | turn (k : Nat)
  | same (k : Nat)
def stepAt (ks : List Step) (i : Nat) : Step := ks.getD i (.val undef)
def valueL (ks : List Step) (vs : List Value) (i : Nat) : Value :=
  match stepAt ks i with
  | .val v => v
  | .turn k => vs.getD k undef
  | .same k => vs.getD k undef
def knownL (ks : List Step) (vs : List Value) (i : Nat) : Prop :=
  match stepAt ks i with
  | .val _ => True
  | .turn k => k < vs.length
  | .same k => k < vs.length
theorem valueL_more {ks : List Step} {vs : List Value} {i : Nat} (h : knownL ks vs i) (u : Value) : valueL ks (vs ++ [u]) i = valueL ks vs i ∧ knownL ks (vs ++ [u]) i := by
  unfold valueL knownL at *
  cases hs : stepAt ks i with
  | val v => exact ⟨rfl, trivial⟩
  | turn k => rw [hs] at h; simp only at h ⊢; exact ⟨by simp [h, List.getElem?_append_left], by simp; omega⟩
  | same k => rw [hs] at h; simp only at h ⊢; exact ⟨by simp [h, List.getElem?_append_left], by simp; omega⟩
/-- Each in turn waits for the one before; no two are the same. -/
def stepsB (ks : List Step) (l : List Oper) : Bool := (List.range ks.length).all fun i =>
  match stepAt ks i with
  | .val _ => true
  | .same _ => true
  | .turn k => (k == 0 || (match l[i]? with | some o => o.after.any (fun e => Region.binds .any e && (match stepAt ks e.on with | .turn m => m + 1 == k | _ => false)) | none => false)) &&
      (List.range ks.length).all fun j => match stepAt ks j with | .turn m => m != k || i == j | _ => true
def DepsL (ks : List Step) (vs : List Value) (x : Nat → Value) : List Edge → Prop
  | [] => True
  | e :: r => (Region.binds .any e = true → x e.on = valueL ks vs e.on ∧ knownL ks vs e.on) ∧ DepsL ks vs x r
theorem depsL_of {ks : List Step} {vs : List Value} {x : Nat → Value} : ∀ {es : List Edge}, (∀ e ∈ es, Region.binds .any e = true → x e.on = valueL ks vs e.on ∧ knownL ks vs e.on) → DepsL ks vs x es
  | [], _ => trivial
  | e :: r, h => ⟨h e (by simp), depsL_of (es := r) fun e' he => h e' (List.mem_cons_of_mem _ he)⟩
def ObL (P : Program) (ops : Array Oper) (fr : (Nat → Value) → Act) (C : List Value → World → Prop) (ks : List Step) (i : Nat) (o : Oper) : Prop :=
  (∀ x v, (fr x).put o.dst v = fr (setX x i v)) ∧
  match stepAt ks i with
  | .val v => ∀ x V vs, C vs V → DepsL ks vs x o.after.toList → if Region.wanted o (yielded ops (fr x).tmps) = true then leads P o (fr x) V (fun u V' => u = v ∧ C vs V') else undef = v
  | .same k => ∀ x V vs, C vs V → DepsL ks vs x o.after.toList → if Region.wanted o (yielded ops (fr x).tmps) = true then leads P o (fr x) V (fun u V' => u = vs.getD k undef ∧ k < vs.length ∧ C vs V') else False
  | .turn k => ∀ x V vs, vs.length = k → C vs V → DepsL ks vs x o.after.toList → if Region.wanted o (yielded ops (fr x).tmps) = true then leads P o (fr x) V (fun u V' => C (vs ++ [u]) V') else False
def ObsL (P : Program) (ops : Array Oper) (fr : (Nat → Value) → Act) (C : List Value → World → Prop) (ks : List Step) : Nat → List Oper → Prop
  | _, [] => True
  | k, o :: r => ObL P ops fr C ks k o ∧ ObsL P ops fr C ks (k + 1) r

structure KnownL (C : List Value → World → Prop) (ks : List Step) (L : Nat → Bool) (vs : List Value) (x : Nat → Value) (V : World) : Prop where
  now : C vs V
  val : ∀ i, i < ks.length → L i = true → x i = valueL ks vs i ∧ knownL ks vs i
  done : ∀ i k, i < ks.length → stepAt ks i = .turn k → (L i = true ↔ k < vs.length)

section
variable {P : Program} {ops : Array Oper} {fr : (Nat → Value) → Act} {C : List Value → World → Prop} {ks : List Step}

theorem ObsL.at : ∀ {l : List Oper} {k : Nat}, ObsL P ops fr C ks k l → ∀ i o, l[i]? = some o → ObL P ops fr C ks (k + i) o
  | [], _, _, i, o, h => by simp at h
  | o' :: r, k, h, 0, o, hi => by simp at hi; subst hi; exact h.1
  | o' :: r, k, h, i + 1, o, hi => by
    have := ObsL.at (l := r) h.2 i o (by simpa using hi)
    rw [show k + (i + 1) = k + 1 + i by omega]; exact this

theorem steps_at {l : List Oper} (h : stepsB ks l = true) {i k : Nat} (hi : i < ks.length) (hk : stepAt ks i = .turn k) :
    (k = 0 ∨ ∃ o, l[i]? = some o ∧ ∃ e ∈ o.after, Region.binds .any e = true ∧ ∃ m, stepAt ks e.on = .turn m ∧ m + 1 = k) ∧ ∀ j m, j < ks.length → stepAt ks j = .turn m → m = k → i = j := by
  have h0 := List.all_eq_true.1 h i (List.mem_range.2 hi)
  simp only [hk, Bool.and_eq_true, Bool.or_eq_true, beq_iff_eq] at h0
  obtain ⟨h1, h2⟩ := h0
  refine ⟨?_, fun j m hj hm e => ?_⟩
  · rcases h1 with h1 | h1
    · exact .inl h1
    · right
      split at h1
      · rename_i o ho
        obtain ⟨e, he, hb⟩ := Array.any_eq_true'.1 h1
        simp only [Bool.and_eq_true] at hb
        refine ⟨o, ho, e, he, hb.1, ?_⟩
        have hb2 := hb.2
        split at hb2
        · rename_i m hm
          exact ⟨m, hm, by simpa using hb2⟩
        · cases hb2
      · cases h1
  · have h3 := List.all_eq_true.1 h2 j (List.mem_range.2 hj)
    simp only [hm] at h3
    subst e
    simpa using h3

theorem wpAny_of_L {Q : Exit → Act → World → Prop} {l : List Oper} (hl : ops = l.toArray) (hn : ks.length = l.length) (hk : stepsB ks l = true) (hlow : low2B 0 l = true) (hob : ObsL P ops fr C ks 0 l) (m : Nat)
    (hm : ((List.range ks.length).all fun i => match stepAt ks i with | .turn k => decide (k < m) | _ => true) = true) (hm2 : ((List.range m).all fun k => (List.range ks.length).any fun i => match stepAt ks i with | .turn q => q == k | _ => false) = true)
    (hK : ∀ x V vs, vs.length = m → C vs V → (∀ i, i < ks.length → x i = valueL ks vs i) → Q .normal (fr x) V) :
    ∀ (f : Nat) (listed : Array Bool) (vs : List Value) (x : Nat → Value) (V : World), listed.size = l.length → leftN l.length listed = f → vs.length ≤ m → KnownL C ks (fun i => listed.getD i false) vs x V → wpAny P .any ops Q f listed (fr x) V := by
  have hsz : ops.size = l.length := by rw [hl]; simp
  have hat : ∀ i : Nat, ops[i]? = l[i]? := fun i => by rw [hl]; simp
  have hboth : ∀ (listed : Array Bool) i, listed.size = l.length → i < l.length → listed.getD i true = listed.getD i false := by
    intro listed i hs hi
    have hb : i < listed.size := by omega
    simp [Array.getD, hb]
  intro f
  induction f with
  | zero =>
    intro listed vs x V hs hle hsm hF
    have h1 : ∀ i, i < l.length → listed.getD i true = true := by
      intro i hi
      have h0 : ((List.range l.length).filter fun i => !listed.getD i true) = [] := List.eq_nil_of_length_eq_zero hle
      have := (List.filter_eq_nil_iff.1 h0) i (List.mem_range.2 hi)
      simpa using this
    have hsm' : vs.length = m := by
      rcases Nat.lt_or_ge vs.length m with h | h
      · exfalso
        have h2 := List.all_eq_true.1 hm2 vs.length (List.mem_range.2 h)
        obtain ⟨i, hi, hq⟩ := List.any_eq_true.1 h2
        have hi' := List.mem_range.1 hi
        split at hq
        · rename_i q hv
          have hq' : q = vs.length := by simpa using hq
          have := (hF.done i q hi' hv).1 (by rw [← hboth listed i hs (by omega)]; exact h1 i (by omega))
          omega
        · cases hq
      · omega
    refine ⟨?_, hK x V vs hsm' hF.now fun i hi => (hF.val i hi (by rw [← hboth listed i hs (by omega)]; exact h1 i (by omega))).1⟩
    unfold Region.ready
    rw [List.filter_eq_nil_iff]
    intro i hi
    rw [hsz] at hi
    rw [h1 i (List.mem_range.1 hi)]; simp
  | succ f ih =>
    intro listed vs x V hs hle hsm hF
    have hne : Region.ready .any ops listed ≠ [] := by
      intro hr
      have hempty : ∀ i, i < l.length → listed.getD i true = true := by
        intro i
        induction i using Nat.strongRecOn with
        | _ i ihh =>
          intro hi
          cases hc : listed.getD i true with
          | true => rfl
          | false =>
            exfalso
            have hmem : i ∈ Region.ready .any ops listed := by
              rw [mem_ready]
              refine ⟨hc, l[i], by rw [hat]; exact List.getElem?_eq_getElem hi, ?_⟩
              intro e he hb
              have h1 := low2B_at hlow i l[i] (List.getElem?_eq_getElem hi) e he hb
              have h2 := ihh e.on (by omega) (by omega)
              rw [← hboth listed e.on hs (by omega)]; exact h2
            rw [hr] at hmem
            cases hmem
      have h0 : leftN l.length listed = 0 := by
        unfold leftN
        rw [List.length_eq_zero_iff, List.filter_eq_nil_iff]
        intro i hi
        rw [hempty i (List.mem_range.1 hi)]; simp
      omega
    refine ⟨fun hr => absurd hr hne, fun i hi => ?_⟩
    obtain ⟨hun, o, ho, hdeps⟩ := mem_ready.1 hi
    have hol : l[i]? = some o := by rw [← hat]; exact ho
    have him : i < l.length := (List.getElem?_eq_some_iff.1 hol).1
    have hob1 := hob.at i o hol
    rw [Nat.zero_add] at hob1
    have hib : i < listed.size := by omega
    have hunf : listed.getD i false = false := by rw [← hboth listed i hs him]; exact hun
    have hset : ∀ j, (listed.setIfInBounds i true).getD j false = if j = i then true else listed.getD j false := fun j => getD_set hib
    have hleft : leftN l.length (listed.setIfInBounds i true) = f := by
      have := filter_one (p := fun j => !listed.getD j true) (q := fun j => !(listed.setIfInBounds i true).getD j true) (i := i) (fun j => by
        rw [getD_set hib]
        by_cases e : j = i
        · simp [e]
        · simp [e]) (by rw [hun]; rfl) List.nodup_range (List.mem_range.2 him)
      unfold leftN at hle ⊢
      omega
    have hd : DepsL ks vs x o.after.toList := depsL_of fun e he hb => by
      have h1 := low2B_at hlow i o hol e (by simpa using he) hb
      exact hF.val e.on (by omega) (hdeps e (by simpa using he) hb)
    obtain ⟨hput, hob2⟩ := hob1
    unfold wpOp
    rw [ho]
    simp only
    have hgo : ∀ V' u, C vs V' → (∀ k, stepAt ks i ≠ .turn k) → u = valueL ks vs i → knownL ks vs i → wpAny P .any ops Q f (listed.setIfInBounds i true) (fr (setX x i u)) V' := fun V' u hC hnt hu hkn =>
      ih _ vs _ _ (by simp [hs]) hleft hsm ⟨hC, fun j hj hl => by
        rw [hset] at hl
        by_cases e : j = i
        · subst e; rw [setX_same]; exact ⟨hu, hkn⟩
        · rw [setX_other _ e]; rw [if_neg e] at hl; exact hF.val j hj hl, fun j k hj hq => by
        have e : j ≠ i := fun e => by subst e; exact hnt k hq
        rw [hset, if_neg e]; exact hF.done j k hj hq⟩
    cases hkind : stepAt ks i with
    | val v =>
      rw [hkind] at hob2
      have h2 := hob2 x V vs hF.now hd
      have hnt : ∀ k, stepAt ks i ≠ .turn k := fun k e => by rw [hkind] at e; cases e
      have hv : valueL ks vs i = v := by unfold valueL; rw [hkind]
      have hkn : knownL ks vs i := by unfold knownL; rw [hkind]; trivial
      split
      · rename_i hw
        rw [if_pos hw] at h2
        exact .inl (wp_of_leads h2 fun u V' ⟨hu, hB⟩ => by
          rw [hput]
          exact hgo _ _ hB hnt (hu.trans hv.symm) hkn)
      · rename_i hw
        rw [if_neg hw] at h2
        rw [hput]
        exact hgo _ _ hF.now hnt (h2.trans hv.symm) hkn
    | same k =>
      rw [hkind] at hob2
      have h2 := hob2 x V vs hF.now hd
      have hnt : ∀ k, stepAt ks i ≠ .turn k := fun k e => by rw [hkind] at e; cases e
      have hv : valueL ks vs i = vs.getD k undef := by unfold valueL; rw [hkind]
      split
      · rename_i hw
        rw [if_pos hw] at h2
        exact .inl (wp_of_leads h2 fun u V' ⟨hu, hlt, hB⟩ => by
          rw [hput]
          exact hgo _ _ hB hnt (hu.trans hv.symm) (by unfold knownL; rw [hkind]; exact hlt))
      · rename_i hw
        rw [if_neg hw] at h2
        exact h2.elim
    | turn k =>
      rw [hkind] at hob2
      obtain ⟨ht1, ht2⟩ := steps_at hk (by omega) hkind
      have hks : vs.length ≤ k := by
        rcases Nat.lt_or_ge k vs.length with h | h
        · have := (hF.done i k (by omega) hkind).2 h
          rw [hunf] at this; cases this
        · exact h
      have hks2 : k ≤ vs.length := by
        rcases ht1 with h | ⟨o', ho', e, he, hb, q, hq, hqk⟩
        · omega
        · rw [hol] at ho'; cases ho'
          have h1 := low2B_at hlow i o hol e he hb
          have := (hF.done e.on q (by omega) hq).1 (hdeps e he hb)
          omega
      have hsk : vs.length = k := by omega
      have h2 := hob2 x V vs hsk hF.now hd
      have hsm2 : k < m := by
        have := List.all_eq_true.1 hm i (List.mem_range.2 (by omega))
        simpa only [hkind, decide_eq_true_eq] using this
      split
      · rename_i hw
        rw [if_pos hw] at h2
        exact .inl (wp_of_leads h2 fun u V' hB => by
          rw [hput]
          refine ih _ (vs ++ [u]) _ _ (by simp [hs]) hleft (by simp; omega) ⟨hB, fun j hj hl => ?_, fun j q hj hu => ?_⟩
          · rw [hset] at hl
            by_cases e : j = i
            · subst e
              rw [setX_same]
              unfold valueL knownL
              rw [hkind]
              simp [← hsk]
            · rw [setX_other _ e]
              rw [if_neg e] at hl
              obtain ⟨h5, h6⟩ := hF.val j hj hl
              obtain ⟨h7, h8⟩ := valueL_more h6 u
              exact ⟨h5.trans h7.symm, h8⟩
          · rw [hset]
            by_cases e : j = i
            · subst e; rw [hkind] at hu; cases hu; simp; omega
            · rw [if_neg e, hF.done j q hj hu]
              have : q ≠ k := fun h => e (ht2 j q hj hu h).symm
              simp; omega)
      · rename_i hw
        rw [if_neg hw] at h2
        exact h2.elim

theorem wp_region_L {id : Nat} {Q : Exit → Act → World → Prop} {l : List Oper} {a : Act} {w : World} (C : List Value → World → Prop) (m : Nat) (ks : List Step) (fr : (Nat → Value) → Act) (x : Nat → Value) (hM : P.follows .mixedOrders = true) (ha : a = fr x)
    (hn : ks.length = l.length) (hk : stepsB ks l = true) (hlow : low2B 0 l = true) (hm : ((List.range ks.length).all fun i => match stepAt ks i with | .turn k => decide (k < m) | _ => true) = true)
    (hm2 : ((List.range m).all fun k => (List.range ks.length).any fun i => match stepAt ks i with | .turn q => q == k | _ => false) = true) (hC : C [] w.drew) (hob : ObsL P l.toArray fr C ks 0 l)
    (hK : ∀ x V vs, vs.length = m → C vs V → (∀ i, i < ks.length → x i = valueL ks vs i) → Q .normal (fr x) V) : (Code.region id l.toArray true).wp P Q a w := by
  subst ha
  refine wp_region_any hM ?_
  have hle : leftN l.length (Array.replicate l.toArray.size false) = l.length := by
    unfold leftN
    have : ((List.range l.length).filter fun i => !(Array.replicate l.toArray.size false).getD i true) = List.range l.length := by
      rw [List.filter_eq_self]
      intro i hi
      have h1 := List.mem_range.1 hi
      simp [Array.getD, h1]
    rw [this]; simp
  have h := wpAny_of_L (Q := Q) (ops := l.toArray) rfl hn hk hlow hob m hm hm2 hK l.length _ [] x w.drew (by simp) hle (Nat.zero_le _)
    ⟨hC, (fun i _ h => by rw [getD_replicate_false] at h; cases h), (fun i k _ _ => by rw [getD_replicate_false]; simp)⟩
  rw [show l.toArray.size = l.length by simp] at h ⊢
  exact h

theorem ObL.of_val {i : Nat} {o : Oper} {v : Value} (hk : stepAt ks i = .val v) (hp : ∀ x v, (fr x).put o.dst v = fr (setX x i v))
    (h : ∀ x V vs, C vs V → DepsL ks vs x o.after.toList → if Region.wanted o (yielded ops (fr x).tmps) = true then leads P o (fr x) V (fun u V' => u = v ∧ C vs V') else undef = v) : ObL P ops fr C ks i o := by
  refine ⟨hp, ?_⟩
  rw [hk]; exact h
theorem ObL.of_same {i k : Nat} {o : Oper} (hk : stepAt ks i = .same k) (hp : ∀ x v, (fr x).put o.dst v = fr (setX x i v))
    (h : ∀ x V vs, C vs V → DepsL ks vs x o.after.toList → if Region.wanted o (yielded ops (fr x).tmps) = true then leads P o (fr x) V (fun u V' => u = vs.getD k undef ∧ k < vs.length ∧ C vs V') else False) : ObL P ops fr C ks i o := by
  refine ⟨hp, ?_⟩
  rw [hk]; exact h
theorem ObL.of_turn {i k : Nat} {o : Oper} (hk : stepAt ks i = .turn k) (hp : ∀ x v, (fr x).put o.dst v = fr (setX x i v))
    (h : ∀ x V vs, vs.length = k → C vs V → DepsL ks vs x o.after.toList → if Region.wanted o (yielded ops (fr x).tmps) = true then leads P o (fr x) V (fun u V' => C (vs ++ [u]) V') else False) : ObL P ops fr C ks i o := by
  refine ⟨hp, ?_⟩
  rw [hk]; exact h
theorem len_zero {vs : List Value} (h : vs.length = 0) : vs = [] := List.eq_nil_of_length_eq_zero h
theorem len_one {vs : List Value} (h : vs.length = 1) : ∃ a, vs = [a] := by
  match vs, h with
  | [a], _ => exact ⟨a, rfl⟩
theorem len_two {vs : List Value} (h : vs.length = 2) : ∃ a b, vs = [a, b] := by
  match vs, h with
  | [a, b], _ => exact ⟨a, b, rfl⟩
theorem len_three {vs : List Value} (h : vs.length = 3) : ∃ a b c, vs = [a, b, c] := by
  match vs, h with
  | [a, b, c], _ => exact ⟨a, b, c, rfl⟩
theorem len_four {vs : List Value} (h : vs.length = 4) : ∃ a b c d, vs = [a, b, c, d] := by
  match vs, h with
  | [a, b, c, d], _ => exact ⟨a, b, c, d, rfl⟩
end
end Go.Proofs.YtcbphjdhafnkmaaDoor

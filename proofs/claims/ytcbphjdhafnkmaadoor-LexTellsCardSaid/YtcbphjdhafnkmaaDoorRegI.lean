/-
  A region that draws its order, by any invariant of what was met so far: I L x V, L the operations met, x their values, V the world. Each operation is met once, in whatever order the edges allow.
-/
import Derived.Test.YtcbphjdhafnkmaaDoorInvM
namespace Go.Proofs.YtcbphjdhafnkmaaDoor
open Go.RowKit

def setL (L : Nat → Bool) (i : Nat) : Nat → Bool := fun j => if j = i then true else L j
theorem setL_same (L : Nat → Bool) (i : Nat) : setL L i i = true := by unfold setL; rw [if_pos rfl]
theorem setL_other {L : Nat → Bool} {i j : Nat} (h : j ≠ i) : setL L i j = L j := by unfold setL; rw [if_neg h]
/-- What an operation waits for has been met. -/
def DepsI (L : Nat → Bool) : List Edge → Prop
  | [] => True
  | e :: r => (Region.binds .any e = true → L e.on = true) ∧ DepsI L r
theorem depsI_of {L : Nat → Bool} : ∀ {es : List Edge}, (∀ e ∈ es, Region.binds .any e = true → L e.on = true) → DepsI L es
  | [], _ => trivial
  | e :: r, h => ⟨h e (by simp), depsI_of (es := r) fun e' he => h e' (List.mem_cons_of_mem _ he)⟩
def ObI (P : Program) (ops : Array Oper) (fr : (Nat → Value) → Act) (I : (Nat → Bool) → (Nat → Value) → World → Prop) (i : Nat) (o : Oper) : Prop :=
  (∀ x v, (fr x).put o.dst v = fr (setX x i v)) ∧
  ∀ L x V, I L x V → L i = false → DepsI L o.after.toList → if Region.wanted o (yielded ops (fr x).tmps) = true then leads P o (fr x) V (fun u V' => I (setL L i) (setX x i u) V') else I (setL L i) (setX x i undef) V
def ObsI (P : Program) (ops : Array Oper) (fr : (Nat → Value) → Act) (I : (Nat → Bool) → (Nat → Value) → World → Prop) : Nat → List Oper → Prop
  | _, [] => True
  | k, o :: r => ObI P ops fr I k o ∧ ObsI P ops fr I (k + 1) r

section
variable {P : Program} {ops : Array Oper} {fr : (Nat → Value) → Act} {I : (Nat → Bool) → (Nat → Value) → World → Prop}

theorem ObsI.at : ∀ {l : List Oper} {k : Nat}, ObsI P ops fr I k l → ∀ i o, l[i]? = some o → ObI P ops fr I (k + i) o
  | [], _, _, i, o, h => by simp at h
  | o' :: r, k, h, 0, o, hi => by simp at hi; subst hi; exact h.1
  | o' :: r, k, h, i + 1, o, hi => by
    have := ObsI.at (l := r) h.2 i o (by simpa using hi)
    rw [show k + (i + 1) = k + 1 + i by omega]; exact this

theorem wpAny_of_I {Q : Exit → Act → World → Prop} {l : List Oper} (hl : ops = l.toArray) (hlow : low2B 0 l = true) (hob : ObsI P ops fr I 0 l)
    (hK : ∀ L x V, (∀ i, i < l.length → L i = true) → I L x V → Q .normal (fr x) V) :
    ∀ (f : Nat) (listed : Array Bool) (x : Nat → Value) (V : World), listed.size = l.length → leftN l.length listed = f → I (fun i => listed.getD i false) x V → wpAny P .any ops Q f listed (fr x) V := by
  have hsz : ops.size = l.length := by rw [hl]; simp
  have hat : ∀ i : Nat, ops[i]? = l[i]? := fun i => by rw [hl]; simp
  have hboth : ∀ (listed : Array Bool) i, listed.size = l.length → i < l.length → listed.getD i true = listed.getD i false := by
    intro listed i hs hi
    have hb : i < listed.size := by omega
    simp [Array.getD, hb]
  intro f
  induction f with
  | zero =>
    intro listed x V hs hle hF
    have h1 : ∀ i, i < l.length → listed.getD i true = true := by
      intro i hi
      have h0 : ((List.range l.length).filter fun i => !listed.getD i true) = [] := List.eq_nil_of_length_eq_zero hle
      have := (List.filter_eq_nil_iff.1 h0) i (List.mem_range.2 hi)
      simpa using this
    refine ⟨?_, hK _ x V (fun i hi => by rw [← hboth listed i hs hi]; exact h1 i hi) hF⟩
    unfold Region.ready
    rw [List.filter_eq_nil_iff]
    intro i hi
    rw [hsz] at hi
    rw [h1 i (List.mem_range.1 hi)]; simp
  | succ f ih =>
    intro listed x V hs hle hF
    have hne : Region.ready .any ops listed ≠ [] := by
      intro hr
      have hempty : ∀ i, i < l.length → listed.getD i true = true := by
        intro i
        induction i using Nat.strongRecOn with
        | _ i ihh =>
          intro hi
          cases hc : listed.getD i true with
          | true => rfl
          | false =>
            exfalso
            have hmem : i ∈ Region.ready .any ops listed := by
              rw [mem_ready]
              refine ⟨hc, l[i], by rw [hat]; exact List.getElem?_eq_getElem hi, ?_⟩
              intro e he hb
              have h1 := low2B_at hlow i l[i] (List.getElem?_eq_getElem hi) e he hb
              have h2 := ihh e.on (by omega) (by omega)
              rw [← hboth listed e.on hs (by omega)]; exact h2
            rw [hr] at hmem
            cases hmem
      have h0 : leftN l.length listed = 0 := by
        unfold leftN
        rw [List.length_eq_zero_iff, List.filter_eq_nil_iff]
        intro i hi
        rw [hempty i (List.mem_range.1 hi)]; simp
      omega
    refine ⟨fun hr => absurd hr hne, fun i hi => ?_⟩
    obtain ⟨hun, o, ho, hdeps⟩ := mem_ready.1 hi
    have hol : l[i]? = some o := by rw [← hat]; exact ho
    have him : i < l.length := (List.getElem?_eq_some_iff.1 hol).1
    have hob1 := hob.at i o hol
    rw [Nat.zero_add] at hob1
    have hib : i < listed.size := by omega
    have hunf : listed.getD i false = false := by rw [← hboth listed i hs him]; exact hun
    have hset : (fun j => (listed.setIfInBounds i true).getD j false) = setL (fun j => listed.getD j false) i := funext fun j => getD_set hib
    have hleft : leftN l.length (listed.setIfInBounds i true) = f := by
      have := filter_one (p := fun j => !listed.getD j true) (q := fun j => !(listed.setIfInBounds i true).getD j true) (i := i) (fun j => by
        rw [getD_set hib]
        by_cases e : j = i
        · simp [e]
        · simp [e]) (by rw [hun]; rfl) List.nodup_range (List.mem_range.2 him)
      unfold leftN at hle ⊢
      omega
    have hgo : ∀ v V', I (setL (fun j => listed.getD j false) i) (setX x i v) V' → wpAny P .any ops Q f (listed.setIfInBounds i true) (fr (setX x i v)) V' := fun v V' h =>
      ih _ _ _ (by simp [hs]) hleft (by rw [hset]; exact h)
    have hd : DepsI (fun j => listed.getD j false) o.after.toList := depsI_of fun e he hb => hdeps e (by simpa using he) hb
    obtain ⟨hput, hob2⟩ := hob1
    have h2 := hob2 _ x V hF hunf hd
    unfold wpOp
    rw [ho]
    simp only
    split
    · rename_i hw
      rw [if_pos hw] at h2
      exact .inl (wp_of_leads h2 fun u V' hu => by
        rw [hput]
        exact hgo _ _ hu)
    · rename_i hw
      rw [if_neg hw] at h2
      rw [hput]
      exact hgo _ _ h2

theorem wp_region_I {id : Nat} {Q : Exit → Act → World → Prop} {l : List Oper} {a : Act} {w : World} (I : (Nat → Bool) → (Nat → Value) → World → Prop) (fr : (Nat → Value) → Act) (x : Nat → Value) (hm : P.follows .mixedOrders = true) (ha : a = fr x)
    (hlow : low2B 0 l = true) (h0 : I (fun _ => false) x w.drew) (hob : ObsI P l.toArray fr I 0 l)
    (hK : ∀ L x V, (∀ i, i < l.length → L i = true) → I L x V → wpList P l.toArray Q [] (fr x) V) : (Code.region id l.toArray true).wp P Q a w := by
  subst ha
  refine wp_region_any hm ?_
  have hle : leftN l.length (Array.replicate l.toArray.size false) = l.length := by
    unfold leftN
    have : ((List.range l.length).filter fun i => !(Array.replicate l.toArray.size false).getD i true) = List.range l.length := by
      rw [List.filter_eq_self]
      intro i hi
      have h1 := List.mem_range.1 hi
      simp [Array.getD, h1]
    rw [this]; simp
  have h := wpAny_of_I (Q := Q) (ops := l.toArray) (fr := fr) (I := I) rfl hlow hob hK l.length (Array.replicate l.toArray.size false) x w.drew (by simp) hle
    (by rw [show (fun i => (Array.replicate l.toArray.size false).getD i false) = fun _ => false from funext fun i => getD_replicate_false ..]; exact h0)
  rw [show l.toArray.size = l.length by simp] at h ⊢
  exact h
end
end Go.Proofs.YtcbphjdhafnkmaaDoor

/-
  A region that draws its order, walked once in the order of the text, where the operations may make memory and their values may be known only by what holds of them: each operation is shown to keep what was there, from the facts on those that it waits for.
-/
import Derived.Orders
import Derived.Below
import Derived.Tactics
namespace Go.Proofs.YtcbphjdhafnkmaaDoor
open Go.RowKit

/-- What may be known of a value, and stays true while memory is only made. -/
structure Fact where
  holds : Value → World → Prop
  keep : ∀ v u u', holds v u → Below u.heap.size u u' → holds v u'
def Fact.any : Fact := ⟨fun _ _ => True, fun _ _ _ _ _ => trivial⟩
/-- The value is this one. -/
def Fact.is (x : Value) : Fact := ⟨fun v _ => v = x, fun _ _ _ h _ => h⟩
def factAt (fs : List Fact) (i : Nat) : Fact := fs.getD i Fact.any

/-- What is known of those that an operation waits for. -/
def DepsOk (fs : List Fact) (x : Nat → Value) (w : World) : List Edge → Prop
  | [] => True
  | e :: r => (Region.binds .any e = true → (factAt fs e.on).holds (x e.on) w) ∧ DepsOk fs x w r

/-- What an operation yields, with no way out but onward. -/
def leads (P : Program) (o : Oper) (a : Act) (w : World) (R : Value → World → Prop) : Prop :=
  match (execOp a.eval o).run P w with
  | .ok (.value v) w' => R v w'
  | .ok .skip w' => R undef w'
  | .ok (.enter f args) w' => Calls P f args w' fun e w'' => ∃ v, e = .returned v ∧ R v w''
  | _ => False

theorem wp_of_leads {P : Program} {o : Oper} {a : Act} {w : World} {R : Value → World → Prop} {K : Act → World → Prop} {Q : Exit → Act → World → Prop} (h : leads P o a w R) (hK : ∀ v w', R v w' → K (a.put o.dst v) w') : o.wp P a w K Q := by
  unfold leads at h
  unfold Oper.wp
  generalize (execOp a.eval o).run P w = r at *
  cases r with
  | ok n w' =>
    cases n <;> simp only [Oper.upon] at h ⊢ <;>
      first
        | exact hK _ _ h
        | exact Calls.mono h (fun e w'' he => by obtain ⟨v, rfl, hR⟩ := he; exact hK _ _ hR)
        | exact h.elim
  | halt x w' => exact h.elim

def setX (x : Nat → Value) (i : Nat) (v : Value) : Nat → Value := fun j => if j = i then v else x j

/-- One operation's share. -/
def Ob (P : Program) (ops : Array Oper) (fr : (Nat → Value) → Act) (C : World → Prop) (fs : List Fact) (k : Nat) (o : Oper) : Prop :=
  (∀ x v, (fr x).put o.dst v = fr (setX x k v)) ∧
  ∀ x w, C w → DepsOk fs x w o.after.toList →
    if Region.wanted o (yielded ops (fr x).tmps) = true then leads P o (fr x) w (fun v w' => Below w.heap.size w w' ∧ (factAt fs k).holds v w') else (factAt fs k).holds undef w
def Obs (P : Program) (ops : Array Oper) (fr : (Nat → Value) → Act) (C : World → Prop) (fs : List Fact) : Nat → List Oper → Prop
  | _, [] => True
  | k, o :: r => Ob P ops fr C fs k o ∧ Obs P ops fr C fs (k + 1) r
/-- Each waits only for earlier ones. -/
def lowB : Nat → List Oper → Bool
  | _, [] => true
  | k, o :: r => o.after.all (fun e => decide (e.on < k)) && lowB (k + 1) r

section
variable {P : Program} {ops : Array Oper} {fr : (Nat → Value) → Act} {C : World → Prop} {fs : List Fact}

theorem Obs.at : ∀ {l : List Oper} {k : Nat}, Obs P ops fr C fs k l → ∀ i o, l[i]? = some o → Ob P ops fr C fs (k + i) o
  | [], _, _, i, o, h => by simp at h
  | o' :: r, k, h, 0, o, hi => by simp at hi; subst hi; exact h.1
  | o' :: r, k, h, i + 1, o, hi => by
    have := Obs.at (l := r) h.2 i o (by simpa using hi)
    rw [show k + (i + 1) = k + 1 + i by omega]; exact this
theorem lowB_at : ∀ {l : List Oper} {k : Nat}, lowB k l = true → ∀ i o, l[i]? = some o → ∀ e ∈ o.after, e.on < k + i
  | [], _, _, i, o, h => by simp at h
  | o' :: r, k, h, 0, o, hi => by
    simp at hi; subst hi
    simp only [lowB, Bool.and_eq_true] at h
    intro e he
    have := Array.all_eq_true'.1 h.1 e he
    simpa using this
  | o' :: r, k, h, i + 1, o, hi => by
    simp only [lowB, Bool.and_eq_true] at h
    intro e he
    have := lowB_at (l := r) h.2 i o (by simpa using hi) e he
    omega

theorem filter_lt {p q : Nat → Bool} (hpq : ∀ j, q j = true → p j = true) {i : Nat} (hp : p i = true) (hq : q i = false) : ∀ {L : List Nat}, i ∈ L → (L.filter q).length < (L.filter p).length
  | j :: r, h => by
    have hle : ∀ L : List Nat, (L.filter q).length ≤ (L.filter p).length := by
      intro L
      induction L with
      | nil => simp
      | cons a t ih =>
        rw [List.filter_cons, List.filter_cons]
        cases ha : q a
        · cases hb : p a <;> simp <;> omega
        · rw [hpq a ha]; simp; exact ih
    by_cases e : j = i
    · subst e
      rw [List.filter_cons, List.filter_cons, hp, hq]
      simp
      have := hle r
      omega
    · have h2 : i ∈ r := by
        rcases List.mem_cons.1 h with h | h
        · exact absurd h.symm e
        · exact h
      have ih := filter_lt hpq hp hq h2
      rw [List.filter_cons, List.filter_cons]
      cases ha : q j
      · cases hb : p j <;> simp <;> omega
      · rw [hpq j ha]; simp; exact ih

def leftN (n : Nat) (listed : Array Bool) : Nat := ((List.range n).filter fun i => !listed.getD i true).length

theorem getD_set {b : Bool} {listed : Array Bool} {i j : Nat} (hi : i < listed.size) : (listed.setIfInBounds i true).getD j b = if j = i then true else listed.getD j b := by
  by_cases e : j = i
  · subst e; simp [hi]
  · have : ¬ i = j := fun h => e h.symm
    simp [this, e]

theorem depsOk_of {x : Nat → Value} {w : World} : ∀ {es : List Edge}, (∀ e ∈ es, Region.binds .any e = true → (factAt fs e.on).holds (x e.on) w) → DepsOk fs x w es
  | [], _ => trivial
  | e :: r, h => ⟨h e (by simp), depsOk_of (es := r) fun e' he => h e' (List.mem_cons_of_mem _ he)⟩

theorem wpAny_of_facts {Q : Exit → Act → World → Prop} {l : List Oper} (hl : ops = l.toArray) (hCs : ∀ u v, C u → Below u.heap.size u v → C v) (hlow : lowB 0 l = true) (hob : Obs P ops fr C fs 0 l)
    (hK : ∀ x w, C w → (∀ i, i < l.length → (factAt fs i).holds (x i) w) → Q .normal (fr x) w) :
    ∀ (fuel : Nat) (listed : Array Bool) (x : Nat → Value) (w : World), listed.size = l.length → leftN l.length listed ≤ fuel → C w →
      (∀ i, i < l.length → listed.getD i false = true → (factAt fs i).holds (x i) w) → wpAny P .any ops Q fuel listed (fr x) w := by
  have hsz : ops.size = l.length := by rw [hl]; simp
  have hat : ∀ i : Nat, ops[i]? = l[i]? := fun i => by rw [hl]; simp
  have hall : ∀ (listed : Array Bool) (x : Nat → Value) (w : World), listed.size = l.length → C w → (∀ i, i < l.length → listed.getD i false = true → (factAt fs i).holds (x i) w) →
      (∀ i, i < l.length → listed.getD i true = true) → Region.ready .any ops listed = [] ∧ Q .normal (fr x) w := by
    intro listed x w hs hC hF ha
    constructor
    · unfold Region.ready
      rw [List.filter_eq_nil_iff]
      intro i hi
      rw [hsz] at hi
      rw [ha i (List.mem_range.1 hi)]
      simp
    · exact hK x w hC fun i hi => hF i hi (by
        have := ha i hi
        simp [Array.getD, hs, hi] at this ⊢
        exact this)
  have hempty : ∀ (listed : Array Bool), listed.size = l.length → Region.ready .any ops listed = [] → ∀ i, i < l.length → listed.getD i true = true := by
    intro listed hs hr i
    induction i using Nat.strongRecOn with
    | _ i ih =>
      intro hi
      cases hc : listed.getD i true with
      | true => rfl
      | false =>
        exfalso
        have hmem : i ∈ Region.ready .any ops listed := by
          unfold Region.ready
          rw [List.mem_filter]
          refine ⟨by rw [hsz]; exact List.mem_range.2 hi, ?_⟩
          obtain ⟨o, ho⟩ : ∃ o, l[i]? = some o := ⟨l[i], List.getElem?_eq_getElem hi⟩
          rw [hc, hat, ho]
          simp only [Bool.not_false, Bool.true_and, Option.map_some, Option.getD_some]
          rw [Array.all_eq_true']
          intro e he
          have h1 := lowB_at hlow i o ho e he
          have h2 := ih e.on (by omega) (by omega)
          have h3 : listed.getD e.on false = true := by
            have hb : e.on < listed.size := by omega
            simp [Array.getD, hb] at h2 ⊢
            exact h2
          rw [h3]; simp
        rw [hr] at hmem
        cases hmem
  intro fuel
  induction fuel with
  | zero =>
    intro listed x w hs hle hC hF
    refine hall listed x w hs hC hF fun i hi => ?_
    have h0 : ((List.range l.length).filter fun i => !listed.getD i true) = [] := List.eq_nil_of_length_eq_zero (by unfold leftN at hle; omega)
    have := (List.filter_eq_nil_iff.1 h0) i (List.mem_range.2 hi)
    simpa using this
  | succ fuel ih =>
    intro listed x w hs hle hC hF
    refine ⟨fun hr => (hall listed x w hs hC hF (hempty listed hs hr)).2, fun i hi => ?_⟩
    obtain ⟨hun, o, ho, hdeps⟩ := mem_ready.1 hi
    have hol : l[i]? = some o := by rw [← hat]; exact ho
    have hil : i < l.length := (List.getElem?_eq_some_iff.1 hol).1
    have hob1 := hob.at i o hol
    rw [Nat.zero_add] at hob1
    have hstep : ∀ v w', C w' → (∀ j, j < l.length → listed.getD j false = true → (factAt fs j).holds (x j) w') → (factAt fs i).holds v w' →
        wpAny P .any ops Q fuel (listed.setIfInBounds i true) (fr (setX x i v)) w' := by
      intro v w' hC' hF' hv
      refine ih _ _ _ (by simpa using hs) ?_ hC' ?_
      · have : leftN l.length (listed.setIfInBounds i true) < leftN l.length listed := by
          unfold leftN
          refine filter_lt (i := i) ?_ (by rw [hun]; rfl) ?_ (List.mem_range.2 hil)
          · intro j hj
            rw [getD_set (by omega)] at hj
            by_cases e : j = i
            · rw [if_pos e] at hj; cases hj
            · rw [if_neg e] at hj; exact hj
          · rw [getD_set (by omega), if_pos rfl]; rfl
        omega
      · intro j hj hjl
        rw [getD_set (by omega)] at hjl
        unfold setX
        by_cases e : j = i
        · rw [if_pos e, e]; exact hv
        · rw [if_neg e] at hjl ⊢; exact hF' j hj hjl
    have hd : DepsOk fs x w o.after.toList := depsOk_of fun e he hb => by
      have h1 := hdeps e (by simpa using he) hb
      have h2 := lowB_at hlow i o hol e (by simpa using he)
      exact hF e.on (by omega) h1
    have h2 := hob1.2 x w hC hd
    unfold wpOp
    rw [ho]
    simp only
    split
    · rename_i hw
      rw [if_pos hw] at h2
      exact .inl (wp_of_leads h2 fun v w' ⟨hB, hv⟩ => by
        rw [hob1.1]
        exact hstep v w' (hCs w w' hC hB) (fun j hj hjl => (factAt fs j).keep _ _ _ (hF j hj hjl) hB) hv)
    · rename_i hw
      rw [if_neg hw] at h2
      rw [hob1.1]
      exact hstep undef w hC hF h2

/-- **One walk in the order of the text serves every order.** -/
theorem wp_region_facts {id : Nat} {Q : Exit → Act → World → Prop} {l : List Oper} {a : Act} {w : World} (C : World → Prop) (fs : List Fact) (fr : (Nat → Value) → Act) (x : Nat → Value) (hm : P.follows .mixedOrders = true) (ha : a = fr x)
    (hlow : lowB 0 l = true) (hC : C w.drew) (hCs : ∀ u v, C u → Below u.heap.size u v → C v) (hob : Obs P l.toArray fr C fs 0 l)
    (hK : ∀ x w, C w → (∀ i, i < l.length → (factAt fs i).holds (x i) w) → Q .normal (fr x) w) : (Code.region id l.toArray true).wp P Q a w := by
  subst ha
  refine wp_region_any hm ?_
  have hle : leftN l.length (Array.replicate l.length false) ≤ l.length := by
    unfold leftN
    exact Nat.le_trans (List.length_filter_le _ _) (by simp)
  have h := wpAny_of_facts (Q := Q) (ops := l.toArray) rfl hCs hlow hob hK l.length (Array.replicate l.length false) x w.drew (by simp) hle hC (fun i hi h => by simp [Array.getD, hi] at h)
  simpa using h

end
end Go.Proofs.YtcbphjdhafnkmaaDoor

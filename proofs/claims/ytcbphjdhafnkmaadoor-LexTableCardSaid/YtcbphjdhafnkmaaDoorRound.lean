/-
  Regions that draw their order, where the code is walked inside a fence: in a round of a range over a function, or beside one.
-/
import Derived.OrdersIn
import Derived.Test.YtcbphjdhafnkmaaDoorRegI
import Derived.Test.YtcbphjdhafnkmaaDoorLate
import Derived.Test.YtcbphjdhafnkmaaDoorChain
namespace Go.Proofs.YtcbphjdhafnkmaaDoor
open Go.RowKit

/-- What is asked of going on alone. -/
def onlyN (Q : Exit → Act → World → Prop) : Exit → Act → World → Prop
  | .normal, a, w => Q .normal a w
  | _, _, _ => False
@[go_sem] theorem onlyN_normal (Q : Exit → Act → World → Prop) (a : Act) (w : World) : onlyN Q .normal a w = Q .normal a w := rfl
/-- No operation defers. -/
def calmB : List Oper → Bool
  | [] => true
  | o :: r => (match o.op with | .defer _ => false | _ => true) && calmB r
theorem calmB_at : ∀ {l : List Oper}, calmB l = true → ∀ (i : Nat) o, l[i]? = some o → ∀ c, o.op ≠ .defer c
  | [], _, i, o, h => by simp at h
  | o' :: r, hc, 0, o, h => by
    simp at h; subst h
    intro c e
    simp [calmB, e] at hc
  | o' :: r, hc, i + 1, o, h => by
    simp only [calmB, Bool.and_eq_true] at hc
    exact calmB_at (l := r) hc.2 i o (by simpa using h)

section
variable {P : Program}
theorem operIn_of_wp {ro : Option Nat} {n : Nat} {Q : Exit → Act → World → Prop} {o : Oper} {a : Act} {w : World} {K : Act → World → Prop} (hd : ∀ c, o.op ≠ .defer c) (h : o.wp P a w K (onlyN Q)) : o.wpIn { Fence.wide with round := ro } n P a w K Q := by
  unfold Oper.wp at h
  unfold Oper.wpIn
  refine ⟨fun f _ => trivial, ?_⟩
  rw [Oper.semAt_eq _ _ _ hd]
  generalize (execOp a.eval o).run P w = r at *
  cases r with
  | ok x w' =>
    cases x <;> simp only [Oper.upon, Oper.uponIn] at h ⊢ <;>
      first
        | exact h
        | exact h.elim
        | exact ⟨fun he => (by cases he), callsIn_wide.2 (Calls.mono h fun e w'' he => by (cases e with | returned v => exact he | panicked c => exact he.elim | outgrown => obtain ⟨_, _, h3⟩ := he; exact h3.elim))⟩
        | exact ⟨fun he => (by cases he), fun c cs _ => by
            obtain ⟨v, w'', h1, h2⟩ := h c cs
            exact ⟨v, w'', h1, stepsIn_wide.2 h2⟩⟩
  | halt x w' => cases x <;> simp only [Oper.upon, Oper.uponIn] at h ⊢ <;> first | exact h.elim | exact h
theorem wpAny_in {ro : Option Nat} {n : Nat} {Q : Exit → Act → World → Prop} {l : List Oper} (hd : calmB l = true) : ∀ (f : Nat) (listed : Array Bool) (a : Act) (w : World),
    wpAny P .any l.toArray (onlyN Q) f listed a w → wpAnyIn { Fence.wide with round := ro } n P .any l.toArray Q f listed a w := by
  intro f
  induction f with
  | zero => exact fun listed a w h => h
  | succ f ih =>
    rintro listed a w ⟨h0, h1⟩
    refine ⟨h0, fun i hi => ?_⟩
    have h2 := h1 i hi
    unfold wpOp at h2
    unfold wpOpIn
    cases ho : l.toArray[i]? with
    | none => rw [ho] at h2; exact ih _ _ _ h2
    | some o =>
      rw [ho] at h2
      simp only at h2 ⊢
      split
      · rename_i hw
        rw [if_pos hw] at h2
        rcases h2 with h2 | h2
        · exact Oper.wpIn_mono (fun a w h => ih _ a w h) (operIn_of_wp (calmB_at hd i o (by simpa using ho)) h2)
        · obtain ⟨_, _, h3⟩ := h2.2; exact h3.elim
      · rename_i hw
        rw [if_neg hw] at h2
        exact ⟨fun f _ => trivial, ih _ _ _ h2⟩
theorem wpIn_region_factsT {ro : Option Nat} {n : Nat} {id : Nat} {Q : Exit → Act → World → Prop} {l : List Oper} {a : Act} {w : World} (m g : Nat) (C : World → Prop) (fs : List Fact) (new : List Nat) (fr : (Nat → Value) → Act) (x : Nat → Value) (hm : P.follows .mixedOrders = true) (ha : a = fr x) (hd : calmB l = true)
    (hmg : l.length = m + g) (hlow : lowB 0 (l.take m) = true) (hT : tailB l.toArray m g = true) (hC : C w.drew) (hCs : ∀ u v, C u → Below u.heap.size u v → C v) (hob : ObsT P l.toArray fr C fs new 0 (l.take m))
    (hK : ∀ x w, Known C fs new m (fun _ => true) x w → wpList P l.toArray (onlyN Q) (l.drop m) (fr x) w) : (Code.region id l.toArray true).wpIn { Fence.wide with round := ro } n P Q a w := by
  subst ha
  refine wpIn_region_any hm (wpAny_in hd _ _ _ _ ?_)
  have inv0 : HeadInv .any l.toArray m (Array.replicate l.toArray.size false) :=
    ⟨by simp, fun j oj _ hl => (by rw [getD_replicate_false] at hl; cases hl), fun t _ ht => getD_in (by simpa using ht) (getD_replicate_false _ _)⟩
  have hle : leftN m (Array.replicate l.toArray.size false) = m := by
    unfold leftN
    have : ((List.range m).filter fun i => !(Array.replicate l.toArray.size false).getD i true) = List.range m := by
      rw [List.filter_eq_self]
      intro i hi
      have h1 := List.mem_range.1 hi
      have h2 : i < l.length := by omega
      simp [Array.getD, h2]
    rw [this]; simp
  have h := wpAny_of_factsT (Q := onlyN Q) (ops := l.toArray) rfl hmg hCs hlow hT hob hK m _ x w.drew inv0 hle
    ⟨hC, (fun i _ h => by rw [getD_replicate_false] at h; cases h), (fun i _ _ h => by rw [getD_replicate_false] at h; cases h), (fun i j _ _ _ _ h => by rw [getD_replicate_false] at h; cases h)⟩
  rw [show l.toArray.size = m + g by simpa using hmg] at h ⊢
  exact h
theorem wpIn_region_S {ro : Option Nat} {n : Nat} {id : Nat} {Q : Exit → Act → World → Prop} {l : List Oper} {a : Act} {w : World} (C : Nat → World → Prop) (m : Nat) (ks : List Turn) (fr : (Nat → Value) → Act) (x : Nat → Value) (hM : P.follows .mixedOrders = true) (ha : a = fr x) (hd : calmB l = true)
    (hn : ks.length = l.length) (hk : turnsB ks l = true) (hlow : low2B 0 l = true) (hm : ((List.range ks.length).all fun i => match turnAt ks i with | .turn k _ => decide (k < m) | _ => true) = true)
    (hm2 : ((List.range m).all fun k => (List.range ks.length).any fun i => match turnAt ks i with | .turn q _ => q == k | _ => false) = true) (hC : C 0 w.drew) (hob : ObsS P l.toArray fr C ks 0 l)
    (hK : ∀ x V, C m V → (∀ i, i < ks.length → x i = (turnAt ks i).value) → Q .normal (fr x) V) : (Code.region id l.toArray true).wpIn { Fence.wide with round := ro } n P Q a w := by
  subst ha
  refine wpIn_region_any hM (wpAny_in hd _ _ _ _ ?_)
  have hle : leftN l.length (Array.replicate l.toArray.size false) = l.length := by
    unfold leftN
    have : ((List.range l.length).filter fun i => !(Array.replicate l.toArray.size false).getD i true) = List.range l.length := by
      rw [List.filter_eq_self]
      intro i hi
      have h1 := List.mem_range.1 hi
      simp [Array.getD, h1]
    rw [this]; simp
  have h := wpAny_of_S (Q := onlyN Q) (ops := l.toArray) rfl hn hk hlow hob m hm hm2 hK l.length _ 0 x w.drew (by simp) hle (Nat.zero_le _)
    ⟨hC, (fun i _ h => by rw [getD_replicate_false] at h; cases h), (fun i k v _ _ => by rw [getD_replicate_false]; simp)⟩
  rw [show l.toArray.size = l.length by simp] at h ⊢
  exact h
theorem wpIn_region_M {ro : Option Nat} {n : Nat} {id : Nat} {Q : Exit → Act → World → Prop} {l : List Oper} {a : Act} {w : World} (ks : List Kind) (fr : (Nat → Value) → Act) (x : Nat → Value) (hm : P.follows .mixedOrders = true) (ha : a = fr x) (hd : calmB l = true)
    (hn : ks.length = l.length) (hk : kindsB ks = true) (hlow : low2B 0 l = true) (hob : ObsM P l.toArray fr ks w.drew 0 l)
    (hK : ∀ x V, KnownM ks w.drew (fun _ => true) x V → Q .normal (fr x) V) : (Code.region id l.toArray true).wpIn { Fence.wide with round := ro } n P Q a w := by
  subst ha
  refine wpIn_region_any hm (wpAny_in hd _ _ _ _ ?_)
  have hle : leftN l.length (Array.replicate l.toArray.size false) = l.length := by
    unfold leftN
    have : ((List.range l.length).filter fun i => !(Array.replicate l.toArray.size false).getD i true) = List.range l.length := by
      rw [List.filter_eq_self]
      intro i hi
      have h1 := List.mem_range.1 hi
      simp [Array.getD, h1]
    rw [this]; simp
  have h := wpAny_of_M (Q := onlyN Q) (ops := l.toArray) rfl hn hk hlow hob hK l.length _ x w.drew (by simp) hle
    ⟨Below.refl _ _, (fun i v _ _ h => by rw [getD_replicate_false] at h; cases h), (fun i ob s ob' _ _ h => by rw [getD_replicate_false] at h; cases h), (fun i j ob s ob' qb t qb' _ _ _ _ h => by rw [getD_replicate_false] at h; cases h), (fun i a _ _ h => by rw [getD_replicate_false] at h; cases h)⟩
  rw [show l.toArray.size = l.length by simp] at h ⊢
  exact h
theorem wpIn_region_F {ro : Option Nat} {n : Nat} {id : Nat} {Q : Exit → Act → World → Prop} {l : List Oper} {a : Act} {w : World} (C : World → Prop) (fs : List Fact) (fr : (Nat → Value) → Act) (x : Nat → Value) (hM : P.follows .mixedOrders = true) (ha : a = fr x) (hd : calmB l = true)
    (hn : fs.length = l.length) (hlow : low2B 0 l = true) (hC : C w.drew) (hCs : ∀ u v, C u → Below u.heap.size u v → C v) (hob : Obs P l.toArray fr C fs 0 l)
    (hK : ∀ x V, C V → (∀ i, i < fs.length → (factAt fs i).holds (x i) V) → Q .normal (fr x) V) : (Code.region id l.toArray true).wpIn { Fence.wide with round := ro } n P Q a w := by
  subst ha
  refine wpIn_region_any hM (wpAny_in hd _ _ _ _ ?_)
  have hle : leftN l.length (Array.replicate l.toArray.size false) = l.length := by
    unfold leftN
    have : ((List.range l.length).filter fun i => !(Array.replicate l.toArray.size false).getD i true) = List.range l.length := by
      rw [List.filter_eq_self]
      intro i hi
      have h1 := List.mem_range.1 hi
      simp [Array.getD, h1]
    rw [this]; simp
  have h := wpAny_of_F (Q := onlyN Q) (ops := l.toArray) rfl hn hlow hCs hob hK l.length _ x w.drew (by simp) hle ⟨hC, (fun i _ h => by rw [getD_replicate_false] at h; cases h)⟩
  rw [show l.toArray.size = l.length by simp] at h ⊢
  exact h
theorem wpIn_region_L {ro : Option Nat} {n : Nat} {id : Nat} {Q : Exit → Act → World → Prop} {l : List Oper} {a : Act} {w : World} (C : List Value → World → Prop) (m : Nat) (ks : List Step) (fr : (Nat → Value) → Act) (x : Nat → Value) (hM : P.follows .mixedOrders = true) (ha : a = fr x) (hd : calmB l = true)
    (hn : ks.length = l.length) (hk : stepsB ks l = true) (hlow : low2B 0 l = true) (hm : ((List.range ks.length).all fun i => match stepAt ks i with | .turn k => decide (k < m) | _ => true) = true)
    (hm2 : ((List.range m).all fun k => (List.range ks.length).any fun i => match stepAt ks i with | .turn q => q == k | _ => false) = true) (hC : C [] w.drew) (hob : ObsL P l.toArray fr C ks 0 l)
    (hK : ∀ x V vs, vs.length = m → C vs V → (∀ i, i < ks.length → x i = valueL ks vs i) → Q .normal (fr x) V) : (Code.region id l.toArray true).wpIn { Fence.wide with round := ro } n P Q a w := by
  subst ha
  refine wpIn_region_any hM (wpAny_in hd _ _ _ _ ?_)
  have hle : leftN l.length (Array.replicate l.toArray.size false) = l.length := by
    unfold leftN
    have : ((List.range l.length).filter fun i => !(Array.replicate l.toArray.size false).getD i true) = List.range l.length := by
      rw [List.filter_eq_self]
      intro i hi
      have h1 := List.mem_range.1 hi
      simp [Array.getD, h1]
    rw [this]; simp
  have h := wpAny_of_L (Q := onlyN Q) (ops := l.toArray) rfl hn hk hlow hob m hm hm2 hK l.length _ [] x w.drew (by simp) hle (Nat.zero_le _)
    ⟨hC, (fun i _ h => by rw [getD_replicate_false] at h; cases h), (fun i k _ _ => by rw [getD_replicate_false]; simp)⟩
  rw [show l.toArray.size = l.length by simp] at h ⊢
  exact h
theorem wpIn_region_I {ro : Option Nat} {n : Nat} {id : Nat} {Q : Exit → Act → World → Prop} {l : List Oper} {a : Act} {w : World} (I : (Nat → Bool) → (Nat → Value) → World → Prop) (fr : (Nat → Value) → Act) (x : Nat → Value) (hm : P.follows .mixedOrders = true) (ha : a = fr x) (hd : calmB l = true)
    (hlow : low2B 0 l = true) (h0 : I (fun _ => false) x w.drew) (hob : ObsI P l.toArray fr I 0 l)
    (hK : ∀ L x V, (∀ i, i < l.length → L i = true) → I L x V → Q .normal (fr x) V) : (Code.region id l.toArray true).wpIn { Fence.wide with round := ro } n P Q a w := by
  subst ha
  refine wpIn_region_any hm (wpAny_in hd _ _ _ _ ?_)
  have hle : leftN l.length (Array.replicate l.toArray.size false) = l.length := by
    unfold leftN
    have : ((List.range l.length).filter fun i => !(Array.replicate l.toArray.size false).getD i true) = List.range l.length := by
      rw [List.filter_eq_self]
      intro i hi
      have h1 := List.mem_range.1 hi
      simp [Array.getD, h1]
    rw [this]; simp
  have h := wpAny_of_I (Q := onlyN Q) (ops := l.toArray) (fr := fr) (I := I) rfl hlow hob hK l.length (Array.replicate l.toArray.size false) x w.drew (by simp) hle
    (by rw [show (fun i => (Array.replicate l.toArray.size false).getD i false) = fun _ => false from funext fun i => getD_replicate_false ..]; exact h0)
  rw [show l.toArray.size = l.length by simp] at h ⊢
  exact h
end
end Go.Proofs.YtcbphjdhafnkmaaDoor

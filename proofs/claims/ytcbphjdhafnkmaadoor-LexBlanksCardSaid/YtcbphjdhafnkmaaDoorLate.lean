/-
  As the text of regions by facts, for a region some of whose operations may come behind later ones of the text (edges that do not bind).
-/
import Derived.Test.YtcbphjdhafnkmaaDoorInvM
namespace Go.Proofs.YtcbphjdhafnkmaaDoor
open Go.RowKit

section
variable {P : Program} {ops : Array Oper} {fr : (Nat → Value) → Act} {C : World → Prop} {fs : List Fact}

structure KnownF (C : World → Prop) (fs : List Fact) (L : Nat → Bool) (x : Nat → Value) (V : World) : Prop where
  now : C V
  val : ∀ i, i < fs.length → L i = true → (factAt fs i).holds (x i) V

theorem wpAny_of_F {Q : Exit → Act → World → Prop} {l : List Oper} (hl : ops = l.toArray) (hn : fs.length = l.length) (hlow : low2B 0 l = true) (hCs : ∀ u v, C u → Below u.heap.size u v → C v) (hob : Obs P ops fr C fs 0 l)
    (hK : ∀ x V, C V → (∀ i, i < fs.length → (factAt fs i).holds (x i) V) → Q .normal (fr x) V) :
    ∀ (f : Nat) (listed : Array Bool) (x : Nat → Value) (V : World), listed.size = l.length → leftN l.length listed = f → KnownF C fs (fun i => listed.getD i false) x V → wpAny P .any ops Q f listed (fr x) V := by
  have hsz : ops.size = l.length := by rw [hl]; simp
  have hat : ∀ i : Nat, ops[i]? = l[i]? := fun i => by rw [hl]; simp
  have hboth : ∀ (listed : Array Bool) i, listed.size = l.length → i < l.length → listed.getD i true = listed.getD i false := by
    intro listed i hs hi
    have hb : i < listed.size := by omega
    simp [Array.getD, hb]
  intro f
  induction f with
  | zero =>
    intro listed x V hs hle hF
    have h1 : ∀ i, i < l.length → listed.getD i true = true := by
      intro i hi
      have h0 : ((List.range l.length).filter fun i => !listed.getD i true) = [] := List.eq_nil_of_length_eq_zero hle
      have := (List.filter_eq_nil_iff.1 h0) i (List.mem_range.2 hi)
      simpa using this
    refine ⟨?_, hK x V hF.now fun i hi => hF.val i hi (by rw [← hboth listed i hs (by omega)]; exact h1 i (by omega))⟩
    unfold Region.ready
    rw [List.filter_eq_nil_iff]
    intro i hi
    rw [hsz] at hi
    rw [h1 i (List.mem_range.1 hi)]; simp
  | succ f ih =>
    intro listed x V hs hle hF
    have hne : Region.ready .any ops listed ≠ [] := by
      intro hr
      have hempty : ∀ i, i < l.length → listed.getD i true = true := by
        intro i
        induction i using Nat.strongRecOn with
        | _ i ihh =>
          intro hi
          cases hc : listed.getD i true with
          | true => rfl
          | false =>
            exfalso
            have hmem : i ∈ Region.ready .any ops listed := by
              rw [mem_ready]
              refine ⟨hc, l[i], by rw [hat]; exact List.getElem?_eq_getElem hi, ?_⟩
              intro e he hb
              have h1 := low2B_at hlow i l[i] (List.getElem?_eq_getElem hi) e he hb
              have h2 := ihh e.on (by omega) (by omega)
              rw [← hboth listed e.on hs (by omega)]; exact h2
            rw [hr] at hmem
            cases hmem
      have h0 : leftN l.length listed = 0 := by
        unfold leftN
        rw [List.length_eq_zero_iff, List.filter_eq_nil_iff]
        intro i hi
        rw [hempty i (List.mem_range.1 hi)]; simp
      omega
    refine ⟨fun hr => absurd hr hne, fun i hi => ?_⟩
    obtain ⟨hun, o, ho, hdeps⟩ := mem_ready.1 hi
    have hol : l[i]? = some o := by rw [← hat]; exact ho
    have him : i < l.length := (List.getElem?_eq_some_iff.1 hol).1
    have hob1 := hob.at i o hol
    rw [Nat.zero_add] at hob1
    have hib : i < listed.size := by omega
    have hset : ∀ j, (listed.setIfInBounds i true).getD j false = if j = i then true else listed.getD j false := fun j => getD_set hib
    have hleft : leftN l.length (listed.setIfInBounds i true) = f := by
      have := filter_one (p := fun j => !listed.getD j true) (q := fun j => !(listed.setIfInBounds i true).getD j true) (i := i) (fun j => by
        rw [getD_set hib]
        by_cases e : j = i
        · simp [e]
        · simp [e]) (by rw [hun]; rfl) List.nodup_range (List.mem_range.2 him)
      unfold leftN at hle ⊢
      omega
    have hd : DepsOk fs x V o.after.toList := depsOk_of fun e he hb => by
      have h1 := low2B_at hlow i o hol e (by simpa using he) hb
      exact hF.val e.on (by omega) (hdeps e (by simpa using he) hb)
    obtain ⟨hput, hob2⟩ := hob1
    have h2 := hob2 x V hF.now hd
    have hgo : ∀ v V', Below V.heap.size V V' → (factAt fs i).holds v V' → wpAny P .any ops Q f (listed.setIfInBounds i true) (fr (setX x i v)) V' := fun v V' hB hv =>
      ih _ _ _ (by simp [hs]) hleft ⟨hCs _ _ hF.now hB, fun j hj hl => by
        rw [hset] at hl
        by_cases e : j = i
        · subst e; rw [setX_same]; exact hv
        · rw [setX_other _ e]; rw [if_neg e] at hl; exact (factAt fs j).keep _ _ _ (hF.val j hj hl) hB⟩
    unfold wpOp
    rw [ho]
    simp only
    split
    · rename_i hw
      rw [if_pos hw] at h2
      exact .inl (wp_of_leads h2 fun u V' ⟨hB, hv⟩ => by
        rw [hput]
        exact hgo _ _ hB hv)
    · rename_i hw
      rw [if_neg hw] at h2
      rw [hput]
      exact hgo _ _ (Below.refl _ _) h2

theorem wp_region_F {id : Nat} {Q : Exit → Act → World → Prop} {l : List Oper} {a : Act} {w : World} (C : World → Prop) (fs : List Fact) (fr : (Nat → Value) → Act) (x : Nat → Value) (hM : P.follows .mixedOrders = true) (ha : a = fr x)
    (hn : fs.length = l.length) (hlow : low2B 0 l = true) (hC : C w.drew) (hCs : ∀ u v, C u → Below u.heap.size u v → C v) (hob : Obs P l.toArray fr C fs 0 l)
    (hK : ∀ x V, C V → (∀ i, i < fs.length → (factAt fs i).holds (x i) V) → Q .normal (fr x) V) : (Code.region id l.toArray true).wp P Q a w := by
  subst ha
  refine wp_region_any hM ?_
  have hle : leftN l.length (Array.replicate l.toArray.size false) = l.length := by
    unfold leftN
    have : ((List.range l.length).filter fun i => !(Array.replicate l.toArray.size false).getD i true) = List.range l.length := by
      rw [List.filter_eq_self]
      intro i hi
      have h1 := List.mem_range.1 hi
      simp [Array.getD, h1]
    rw [this]; simp
  have h := wpAny_of_F (Q := Q) (ops := l.toArray) rfl hn hlow hCs hob hK l.length _ x w.drew (by simp) hle ⟨hC, (fun i _ h => by rw [getD_replicate_false] at h; cases h)⟩
  rw [show l.toArray.size = l.length by simp] at h ⊢
  exact h

end
end Go.Proofs.YtcbphjdhafnkmaaDoor

/-
  As the text of regions by facts, for a region whose last operations come in one order behind all others: these are walked one by one. Blocks that the region makes are known to be apart.
-/
import Derived.StillTail
import Derived.Test.YtcbphjdhafnkmaaDoorFacts
namespace Go.Proofs.YtcbphjdhafnkmaaDoor
open Go.RowKit

/-- The block that a pointer or a slice leads to. -/
def blkOf : Value → Nat
  | .pointer (some a) => a.block
  | .slice (some a) _ _ => a.block
  | _ => 0

/-- One operation's share: 'new k': it makes a block, to which its value leads. -/
def ObT (P : Program) (ops : Array Oper) (fr : (Nat → Value) → Act) (C : World → Prop) (fs : List Fact) (new : List Nat) (k : Nat) (o : Oper) : Prop :=
  (∀ x v, (fr x).put o.dst v = fr (setX x k v)) ∧
  ∀ x w, C w → DepsOk fs x w o.after.toList →
    if Region.wanted o (yielded ops (fr x).tmps) = true then leads P o (fr x) w (fun v w' => Below w.heap.size w w' ∧ (factAt fs k).holds v w' ∧ (k ∈ new → w.heap.size ≤ blkOf v ∧ blkOf v < w'.heap.size)) else ((factAt fs k).holds undef w ∧ k ∉ new)
def ObsT (P : Program) (ops : Array Oper) (fr : (Nat → Value) → Act) (C : World → Prop) (fs : List Fact) (new : List Nat) : Nat → List Oper → Prop
  | _, [] => True
  | k, o :: r => ObT P ops fr C fs new k o ∧ ObsT P ops fr C fs new (k + 1) r

def headL (m g : Nat) : Array Bool := (List.replicate m true ++ List.replicate g false).toArray
/-- The Bools that a region's text must meet: m operations, then g in one order. -/
def tailB (ops : Array Oper) (m g : Nat) : Bool := decide (m < ops.size) && Region.sinkB .any ops m && Region.chainB .any ops m && Region.seqB .any ops g m (headL m g)

theorem filter_one {p q : Nat → Bool} {i : Nat} (hq : ∀ j, q j = (p j && decide (j ≠ i))) (hp : p i = true) : ∀ {L : List Nat}, L.Nodup → i ∈ L → (L.filter q).length + 1 = (L.filter p).length
  | j :: r, hn, h => by
    rw [List.nodup_cons] at hn
    by_cases e : j = i
    · subst e
      have hqj : q j = false := by rw [hq]; simp
      have hr : r.filter q = r.filter p := List.filter_congr fun k hk => by
        have : k ≠ j := fun e => hn.1 (e ▸ hk)
        rw [hq]; simp [this]
      rw [List.filter_cons, List.filter_cons, hp, hqj, hr]
      simp
    · have h2 : i ∈ r := by
        rcases List.mem_cons.1 h with h | h
        · exact absurd h.symm e
        · exact h
      have ih := filter_one hq hp hn.2 h2
      have hqj : q j = p j := by rw [hq]; simp [e]
      rw [List.filter_cons, List.filter_cons, hqj]
      cases p j <;> simp <;> omega

section
variable {P : Program} {ops : Array Oper} {fr : (Nat → Value) → Act} {C : World → Prop} {fs : List Fact} {new : List Nat}

theorem ObsT.at : ∀ {l : List Oper} {k : Nat}, ObsT P ops fr C fs new k l → ∀ i o, l[i]? = some o → ObT P ops fr C fs new (k + i) o
  | [], _, _, i, o, h => by simp at h
  | o' :: r, k, h, 0, o, hi => by simp at hi; subst hi; exact h.1
  | o' :: r, k, h, i + 1, o, hi => by
    have := ObsT.at (l := r) h.2 i o (by simpa using hi)
    rw [show k + (i + 1) = k + 1 + i by omega]; exact this

/-- What is known when some have come up. -/
structure Known (C : World → Prop) (fs : List Fact) (new : List Nat) (m : Nat) (L : Nat → Bool) (x : Nat → Value) (w : World) : Prop where
  c : C w
  fact : ∀ i, i < m → L i = true → (factAt fs i).holds (x i) w
  lt : ∀ i, i < m → i ∈ new → L i = true → blkOf (x i) < w.heap.size
  apart : ∀ i j, i < m → j < m → i ∈ new → j ∈ new → L i = true → L j = true → i ≠ j → blkOf (x i) ≠ blkOf (x j)

theorem listed_head {m g : Nat} {listed : Array Bool} (hs : listed.size = m + g) (h1 : ∀ i, i < m → listed.getD i true = true) (h2 : ∀ t, m ≤ t → t < m + g → listed.getD t true = false) : listed = headL m g := by
  apply Array.ext
  · unfold headL; simp [hs]
  · intro i hi hi2
    have hb : i < (List.replicate m true ++ List.replicate g false).length := by simp; omega
    show listed[i] = (List.replicate m true ++ List.replicate g false)[i]
    rw [List.getElem_append]
    by_cases hm : i < m
    · have := h1 i hm
      simp [Array.getD, hi] at this
      rw [this]
      simp [hm]
    · have := h2 i (by omega) (by omega)
      simp [Array.getD, hi] at this
      rw [this]
      simp [hm]

theorem wpAny_of_factsT {Q : Exit → Act → World → Prop} {l : List Oper} {m g : Nat} (hl : ops = l.toArray) (hmg : l.length = m + g) (hCs : ∀ u v, C u → Below u.heap.size u v → C v) (hlow : lowB 0 (l.take m) = true) (hT : tailB ops m g = true) (hob : ObsT P ops fr C fs new 0 (l.take m))
    (hK : ∀ x w, Known C fs new m (fun _ => true) x w → wpList P ops Q (l.drop m) (fr x) w) :
    ∀ (f : Nat) (listed : Array Bool) (x : Nat → Value) (w : World), HeadInv .any ops m listed → leftN m listed = f → Known C fs new m (fun i => listed.getD i false) x w → wpAny P .any ops Q (f + g) listed (fr x) w := by
  have hsz : ops.size = l.length := by rw [hl]; simp
  have hat : ∀ i : Nat, ops[i]? = l[i]? := fun i => by rw [hl]; simp
  simp only [tailB, Bool.and_eq_true, decide_eq_true_eq] at hT
  obtain ⟨⟨⟨hm, hsink⟩, hchain⟩, hseq⟩ := hT
  have hboth : ∀ (listed : Array Bool) i, listed.size = l.length → i < m → listed.getD i true = true → listed.getD i false = true := by
    intro listed i hs hi h
    have hb : i < listed.size := by omega
    simp [Array.getD, hb] at h ⊢
    exact h
  intro f
  induction f with
  | zero =>
    intro listed x w inv hle hF
    have hs : listed.size = l.length := by rw [inv.size, hsz]
    have h1 : ∀ i, i < m → listed.getD i true = true := by
      intro i hi
      have h0 : ((List.range m).filter fun i => !listed.getD i true) = [] := List.eq_nil_of_length_eq_zero hle
      have := (List.filter_eq_nil_iff.1 h0) i (List.mem_range.2 hi)
      simpa using this
    have hL := listed_head (m := m) (g := g) (by omega) h1 (fun t ht ht2 => inv.tail t ht (by omega))
    have hk := hK x w ⟨hF.c, fun i hi _ => hF.fact i hi (hboth listed i hs hi (h1 i hi)), fun i hi hn _ => hF.lt i hi hn (hboth listed i hs hi (h1 i hi)),
      fun i j hi hj hni hnj _ _ hij => hF.apart i j hi hj hni hnj (hboth listed i hs hi (h1 i hi)) (hboth listed j hs hj (h1 j hj)) hij⟩
    have hdl : (l.drop m).length = g := by simp; omega
    have := wpAny_of_seq (md := .any) (Q' := Q) (l.drop m) m listed (fr x) w (fun j => by rw [hat, List.getElem?_drop]) (by rw [hdl, hL]; exact hseq) hk
    rw [hdl] at this
    rw [Nat.zero_add]; exact this
  | succ f ih =>
    intro listed x w inv hle hF
    have hs : listed.size = l.length := by rw [inv.size, hsz]
    obtain ⟨i0, hi0, hun0⟩ : ∃ i, i < m ∧ listed.getD i true = false := by
      cases h0 : ((List.range m).filter fun i => !listed.getD i true) with
      | nil => unfold leftN at hle; rw [h0] at hle; simp at hle
      | cons a r =>
        have : a ∈ ((List.range m).filter fun i => !listed.getD i true) := by rw [h0]; simp
        rw [List.mem_filter] at this
        exact ⟨a, List.mem_range.1 this.1, by simpa using this.2⟩
    have hhead : ∀ i ∈ Region.ready .any ops listed, i < m := by
      intro i hi
      rcases Nat.lt_or_ge i m with h | h
      · exact h
      · exact absurd hi (tail_waits hsink hchain hm inv _ i0 rfl hi0 hun0 i h)
    have htk : ∀ i, i < m → (l.take m)[i]? = l[i]? := fun i hi => by rw [List.getElem?_take_of_lt hi]
    have hne : Region.ready .any ops listed ≠ [] := by
      intro hr
      have hempty : ∀ i, i < m → listed.getD i true = true := by
        intro i
        induction i using Nat.strongRecOn with
        | _ i ihh =>
          intro hi
          cases hc : listed.getD i true with
          | true => rfl
          | false =>
            exfalso
            have hmem : i ∈ Region.ready .any ops listed := by
              unfold Region.ready
              rw [List.mem_filter]
              refine ⟨by rw [hsz]; exact List.mem_range.2 (by omega), ?_⟩
              have hil : i < l.length := by omega
              obtain ⟨o, ho⟩ : ∃ o, l[i]? = some o := ⟨l[i], List.getElem?_eq_getElem hil⟩
              rw [hc, hat, ho]
              simp only [Bool.not_false, Bool.true_and, Option.map_some, Option.getD_some]
              rw [Array.all_eq_true']
              intro e he
              have h1 := lowB_at hlow i o (by rw [htk i hi]; exact ho) e he
              have h2 := ihh e.on (by omega) (by omega)
              rw [hboth listed e.on hs (by omega) h2]; simp
            rw [hr] at hmem
            cases hmem
      rw [hempty i0 hi0] at hun0
      cases hun0
    rw [show f + 1 + g = (f + g) + 1 by omega]
    refine ⟨fun hr => absurd hr hne, fun i hi => ?_⟩
    have him := hhead i hi
    obtain ⟨hun, o, ho, hdeps⟩ := mem_ready.1 hi
    have hol : (l.take m)[i]? = some o := by rw [htk i him, ← hat]; exact ho
    have hob1 := hob.at i o hol
    rw [Nat.zero_add] at hob1
    have hib : i < listed.size := by omega
    have hset : ∀ j, (listed.setIfInBounds i true).getD j false = if j = i then true else listed.getD j false := fun j => getD_set hib
    have hun' : listed.getD i false = false := by
      simp [Array.getD, hib] at hun ⊢
      exact hun
    have hstep : ∀ v w', Below w.heap.size w w' → (factAt fs i).holds v w' → (i ∈ new → w.heap.size ≤ blkOf v ∧ blkOf v < w'.heap.size) →
        wpAny P .any ops Q (f + g) (listed.setIfInBounds i true) (fr (setX x i v)) w' := by
      intro v w' hB hv hnew
      have hx : setX x i v i = v := by unfold setX; rw [if_pos rfl]
      have hx2 : ∀ j, j ≠ i → setX x i v j = x j := fun j hj => by unfold setX; rw [if_neg hj]
      refine ih _ _ _ (inv.set hi him) ?_ ⟨hCs w w' hF.c hB, ?_, ?_, ?_⟩
      · have := filter_one (p := fun j => !listed.getD j true) (q := fun j => !(listed.setIfInBounds i true).getD j true) (i := i) (fun j => by
          rw [getD_set hib]
          by_cases e : j = i
          · simp [e]
          · simp [e]) (by rw [hun]; rfl) List.nodup_range (List.mem_range.2 him)
        unfold leftN at hle ⊢
        omega
      · intro j hj hjl
        rw [hset] at hjl
        by_cases e : j = i
        · rw [e, hx]; exact hv
        · rw [if_neg e] at hjl; rw [hx2 j e]; exact (factAt fs j).keep _ _ _ (hF.fact j hj hjl) hB
      · intro j hj hn hjl
        rw [hset] at hjl
        by_cases e : j = i
        · rw [e, hx]; rw [e] at hn; exact (hnew hn).2
        · rw [if_neg e] at hjl; rw [hx2 j e]; exact Nat.lt_of_lt_of_le (hF.lt j hj hn hjl) hB.size
      · intro j k hj hk hnj hnk hjl hkl hjk
        rw [hset] at hjl hkl
        by_cases e : j = i
        · have e2 : k ≠ i := fun h => hjk (e.trans h.symm)
          rw [if_neg e2] at hkl
          rw [e, hx, hx2 k e2]
          rw [e] at hnj
          have h1 := (hnew hnj).1
          have h2 := hF.lt k hk hnk hkl
          omega
        · rw [if_neg e] at hjl
          by_cases e2 : k = i
          · rw [e2, hx, hx2 j e]
            rw [e2] at hnk
            have h1 := (hnew hnk).1
            have h2 := hF.lt j hj hnj hjl
            omega
          · rw [if_neg e2] at hkl
            rw [hx2 j e, hx2 k e2]
            exact hF.apart j k hj hk hnj hnk hjl hkl hjk
    have hd : DepsOk fs x w o.after.toList := depsOk_of fun e he hb => by
      have h1 := hdeps e (by simpa using he) hb
      have h2 := lowB_at hlow i o hol e (by simpa using he)
      exact hF.fact e.on (by omega) h1
    have h2 := hob1.2 x w hF.c hd
    unfold wpOp
    rw [ho]
    simp only
    split
    · rename_i hw
      rw [if_pos hw] at h2
      exact .inl (wp_of_leads h2 fun v w' ⟨hB, hv, hn⟩ => by
        rw [hob1.1]
        exact hstep v w' hB hv hn)
    · rename_i hw
      rw [if_neg hw] at h2
      rw [hob1.1]
      exact hstep undef w (Below.refl _ _) h2.1 (fun h => absurd h h2.2)

theorem wp_region_factsT {id : Nat} {Q : Exit → Act → World → Prop} {l : List Oper} {a : Act} {w : World} (m g : Nat) (C : World → Prop) (fs : List Fact) (new : List Nat) (fr : (Nat → Value) → Act) (x : Nat → Value) (hm : P.follows .mixedOrders = true) (ha : a = fr x)
    (hmg : l.length = m + g) (hlow : lowB 0 (l.take m) = true) (hT : tailB l.toArray m g = true) (hC : C w.drew) (hCs : ∀ u v, C u → Below u.heap.size u v → C v) (hob : ObsT P l.toArray fr C fs new 0 (l.take m))
    (hK : ∀ x w, Known C fs new m (fun _ => true) x w → wpList P l.toArray Q (l.drop m) (fr x) w) : (Code.region id l.toArray true).wp P Q a w := by
  subst ha
  refine wp_region_any hm ?_
  have inv0 : HeadInv .any l.toArray m (Array.replicate l.toArray.size false) :=
    ⟨by simp, fun j oj _ hl => (by rw [getD_replicate_false] at hl; cases hl), fun t _ ht => getD_in (by simpa using ht) (getD_replicate_false _ _)⟩
  have hle : leftN m (Array.replicate l.toArray.size false) = m := by
    unfold leftN
    have : ((List.range m).filter fun i => !(Array.replicate l.toArray.size false).getD i true) = List.range m := by
      rw [List.filter_eq_self]
      intro i hi
      have h1 := List.mem_range.1 hi
      have h2 : i < l.length := by omega
      simp [Array.getD, h2]
    rw [this]; simp
  have h := wpAny_of_factsT (Q := Q) (ops := l.toArray) rfl hmg hCs hlow hT hob hK m _ x w.drew inv0 hle
    ⟨hC, (fun i _ h => by rw [getD_replicate_false] at h; cases h), (fun i _ _ h => by rw [getD_replicate_false] at h; cases h), (fun i j _ _ _ _ h => by rw [getD_replicate_false] at h; cases h)⟩
  rw [show l.toArray.size = m + g by simpa using hmg] at h ⊢
  exact h

end

/-! How an operation's share is paid. -/

theorem want_yes {b : Bool} {A B : Prop} (h : b = true) (hA : A) : if b = true then A else B := by rw [if_pos h]; exact hA
theorem want_no {b : Bool} {A B : Prop} (h : b = false) (hB : B) : if b = true then A else B := by rw [h]; simpa using hB
theorem leads_value {P : Program} {o : Oper} {a : Act} {w w' : World} {v : Value} {R : Value → World → Prop} (h : (execOp a.eval o).run P w = .ok (.value v) w') (hR : R v w') : leads P o a w R := by
  unfold leads; rw [h]; exact hR
theorem leads_enter {P : Program} {o : Oper} {a : Act} {w w' : World} {f : FuncId} {args : Array Value} {v : Value} {R : Value → World → Prop} (h : (execOp a.eval o).run P w = .ok (.enter f args) w') (hc : Calls P f args w' fun e w'' => e = .returned v ∧ Below w'.heap.size w' w'') (hR : ∀ w'', Below w'.heap.size w' w'' → R v w'') : leads P o a w R := by
  unfold leads; rw [h]; exact hc.mono fun e w'' ⟨he, hB⟩ => ⟨v, he, hR w'' hB⟩

end Go.Proofs.YtcbphjdhafnkmaaDoor

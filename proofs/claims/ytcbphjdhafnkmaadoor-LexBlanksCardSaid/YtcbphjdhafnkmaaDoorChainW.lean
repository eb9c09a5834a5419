/-
  A region that draws its order, as in the text on chains of turns; and an operation for which a turn waits by an edge of its own may rely on it that this turn has not been.
-/
import Derived.Test.YtcbphjdhafnkmaaDoorChain
import Derived.Maps.AppendAt
import Derived.TacticsIn
import Derived.OwnWalkIn
import Derived.Test.YtcbphjdhafnkmaaDoorRound
namespace Go.Proofs.YtcbphjdhafnkmaaDoor
open Go.RowKit

/-- Does the operation wait for number i by an edge of its own? -/
def waitsW (l : List Oper) (t i : Nat) : Bool := match l[t]? with | some o => o.after.any fun e => Region.binds .any e && e.on == i | none => false
/-- No turn that waits for number i has been. -/
def AheadW (ks : List Step) (l : List Oper) (i : Nat) (vs : List Value) : Prop := ∀ k t, stepAt ks t = .turn k → waitsW l t i = true → vs.length ≤ k
def ObW (P : Program) (ops : Array Oper) (l : List Oper) (fr : (Nat → Value) → Act) (C : List Value → World → Prop) (ks : List Step) (i : Nat) (o : Oper) : Prop :=
  (∀ x v, (fr x).put o.dst v = fr (setX x i v)) ∧
  match stepAt ks i with
  | .val v => ∀ x V vs, AheadW ks l i vs → C vs V → DepsL ks vs x o.after.toList → if Region.wanted o (yielded ops (fr x).tmps) = true then leads P o (fr x) V (fun u V' => u = v ∧ C vs V') else undef = v
  | .same k => ∀ x V vs, AheadW ks l i vs → C vs V → DepsL ks vs x o.after.toList → if Region.wanted o (yielded ops (fr x).tmps) = true then leads P o (fr x) V (fun u V' => u = vs.getD k undef ∧ k < vs.length ∧ C vs V') else False
  | .turn k => ∀ x V vs, vs.length = k → C vs V → DepsL ks vs x o.after.toList → if Region.wanted o (yielded ops (fr x).tmps) = true then leads P o (fr x) V (fun u V' => C (vs ++ [u]) V') else False
def ObsW (P : Program) (ops : Array Oper) (l : List Oper) (fr : (Nat → Value) → Act) (C : List Value → World → Prop) (ks : List Step) : Nat → List Oper → Prop
  | _, [] => True
  | k, o :: r => ObW P ops l fr C ks k o ∧ ObsW P ops l fr C ks (k + 1) r

structure KnownW (C : List Value → World → Prop) (ks : List Step) (l : List Oper) (L : Nat → Bool) (vs : List Value) (x : Nat → Value) (V : World) : Prop where
  now : C vs V
  val : ∀ i, i < ks.length → L i = true → x i = valueL ks vs i ∧ knownL ks vs i
  done : ∀ i k, i < ks.length → stepAt ks i = .turn k → (L i = true ↔ k < vs.length)
  shut : ∀ t i, L t = true → waitsW l t i = true → L i = true

section
variable {P : Program} {ops : Array Oper} {l : List Oper} {fr : (Nat → Value) → Act} {C : List Value → World → Prop} {ks : List Step}

theorem ObsW.at : ∀ {m : List Oper} {k : Nat}, ObsW P ops l fr C ks k m → ∀ i o, m[i]? = some o → ObW P ops l fr C ks (k + i) o
  | [], _, _, i, o, h => by simp at h
  | o' :: r, k, h, 0, o, hi => by simp at hi; subst hi; exact h.1
  | o' :: r, k, h, i + 1, o, hi => by
    have := ObsW.at (m := r) h.2 i o (by simpa using hi)
    rw [show k + (i + 1) = k + 1 + i by omega]; exact this

theorem wpAny_of_W {Q : Exit → Act → World → Prop} (hl : ops = l.toArray) (hn : ks.length = l.length) (hk : stepsB ks l = true) (hlow : low2B 0 l = true) (hob : ObsW P ops l fr C ks 0 l) (m : Nat)
    (hm : ((List.range ks.length).all fun i => match stepAt ks i with | .turn k => decide (k < m) | _ => true) = true) (hm2 : ((List.range m).all fun k => (List.range ks.length).any fun i => match stepAt ks i with | .turn q => q == k | _ => false) = true)
    (hK : ∀ x V vs, vs.length = m → C vs V → (∀ i, i < ks.length → x i = valueL ks vs i) → Q .normal (fr x) V) :
    ∀ (f : Nat) (listed : Array Bool) (vs : List Value) (x : Nat → Value) (V : World), listed.size = l.length → leftN l.length listed = f → vs.length ≤ m → KnownW C ks l (fun i => listed.getD i false) vs x V → wpAny P .any ops Q f listed (fr x) V := by
  have hsz : ops.size = l.length := by rw [hl]; simp
  have hat : ∀ i : Nat, ops[i]? = l[i]? := fun i => by rw [hl]; simp
  have hboth : ∀ (listed : Array Bool) i, listed.size = l.length → i < l.length → listed.getD i true = listed.getD i false := by
    intro listed i hs hi
    have hb : i < listed.size := by omega
    simp [Array.getD, hb]
  intro f
  induction f with
  | zero =>
    intro listed vs x V hs hle hsm hF
    have h1 : ∀ i, i < l.length → listed.getD i true = true := by
      intro i hi
      have h0 : ((List.range l.length).filter fun i => !listed.getD i true) = [] := List.eq_nil_of_length_eq_zero hle
      have := (List.filter_eq_nil_iff.1 h0) i (List.mem_range.2 hi)
      simpa using this
    have hsm' : vs.length = m := by
      rcases Nat.lt_or_ge vs.length m with h | h
      · exfalso
        have h2 := List.all_eq_true.1 hm2 vs.length (List.mem_range.2 h)
        obtain ⟨i, hi, hq⟩ := List.any_eq_true.1 h2
        have hi' := List.mem_range.1 hi
        split at hq
        · rename_i q hv
          have hq' : q = vs.length := by simpa using hq
          have := (hF.done i q hi' hv).1 (by rw [← hboth listed i hs (by omega)]; exact h1 i (by omega))
          omega
        · cases hq
      · omega
    refine ⟨?_, hK x V vs hsm' hF.now fun i hi => (hF.val i hi (by rw [← hboth listed i hs (by omega)]; exact h1 i (by omega))).1⟩
    unfold Region.ready
    rw [List.filter_eq_nil_iff]
    intro i hi
    rw [hsz] at hi
    rw [h1 i (List.mem_range.1 hi)]; simp
  | succ f ih =>
    intro listed vs x V hs hle hsm hF
    have hne : Region.ready .any ops listed ≠ [] := by
      intro hr
      have hempty : ∀ i, i < l.length → listed.getD i true = true := by
        intro i
        induction i using Nat.strongRecOn with
        | _ i ihh =>
          intro hi
          cases hc : listed.getD i true with
          | true => rfl
          | false =>
            exfalso
            have hmem : i ∈ Region.ready .any ops listed := by
              rw [mem_ready]
              refine ⟨hc, l[i], by rw [hat]; exact List.getElem?_eq_getElem hi, ?_⟩
              intro e he hb
              have h1 := low2B_at hlow i l[i] (List.getElem?_eq_getElem hi) e he hb
              have h2 := ihh e.on (by omega) (by omega)
              rw [← hboth listed e.on hs (by omega)]; exact h2
            rw [hr] at hmem
            cases hmem
      have h0 : leftN l.length listed = 0 := by
        unfold leftN
        rw [List.length_eq_zero_iff, List.filter_eq_nil_iff]
        intro i hi
        rw [hempty i (List.mem_range.1 hi)]; simp
      omega
    refine ⟨fun hr => absurd hr hne, fun i hi => ?_⟩
    obtain ⟨hun, o, ho, hdeps⟩ := mem_ready.1 hi
    have hol : l[i]? = some o := by rw [← hat]; exact ho
    have him : i < l.length := (List.getElem?_eq_some_iff.1 hol).1
    have hob1 := hob.at i o hol
    rw [Nat.zero_add] at hob1
    have hib : i < listed.size := by omega
    have hunf : listed.getD i false = false := by rw [← hboth listed i hs him]; exact hun
    have hset : ∀ j, (listed.setIfInBounds i true).getD j false = if j = i then true else listed.getD j false := fun j => getD_set hib
    have hleft : leftN l.length (listed.setIfInBounds i true) = f := by
      have := filter_one (p := fun j => !listed.getD j true) (q := fun j => !(listed.setIfInBounds i true).getD j true) (i := i) (fun j => by
        rw [getD_set hib]
        by_cases e : j = i
        · simp [e]
        · simp [e]) (by rw [hun]; rfl) List.nodup_range (List.mem_range.2 him)
      unfold leftN at hle ⊢
      omega
    have hd : DepsL ks vs x o.after.toList := depsL_of fun e he hb => by
      have h1 := low2B_at hlow i o hol e (by simpa using he) hb
      exact hF.val e.on (by omega) (hdeps e (by simpa using he) hb)
    obtain ⟨hput, hob2⟩ := hob1
    unfold wpOp
    rw [ho]
    simp only
    have hwt : ∀ i2, waitsW l i i2 = true → listed.getD i2 false = true := fun i2 hw => by
      unfold waitsW at hw
      rw [hol] at hw
      simp only at hw
      obtain ⟨e, he, hb⟩ := Array.any_eq_true'.1 hw
      simp only [Bool.and_eq_true, beq_iff_eq] at hb
      have h1 := low2B_at hlow i o hol e he hb.1
      rw [← hb.2, ← hboth listed e.on hs (by omega)]
      exact (hboth listed e.on hs (by omega)).trans (hdeps e he hb.1)
    have hah : AheadW ks l i vs := fun k t ht hw => by
      rcases Nat.lt_or_ge k vs.length with h | h
      · exfalso
        have htl : t < ks.length := by
          rcases Nat.lt_or_ge t ks.length with h2 | h2
          · exact h2
          · exfalso
            have : stepAt ks t = .val undef := by simp [stepAt, List.getD, h2]
            rw [this] at ht; cases ht
        have h3 := (hF.done t k htl ht).2 h
        have h4 := hF.shut t i h3 hw
        rw [hunf] at h4; cases h4
      · exact h
    have hshut : ∀ t i2, (listed.setIfInBounds i true).getD t false = true → waitsW l t i2 = true → (listed.setIfInBounds i true).getD i2 false = true := fun t i2 ht hw => by
      rw [hset] at ht ⊢
      by_cases e2 : i2 = i
      · rw [if_pos e2]
      · rw [if_neg e2]
        by_cases e : t = i
        · subst e; exact hwt i2 hw
        · rw [if_neg e] at ht; exact hF.shut t i2 ht hw
    have hgo : ∀ V' u, C vs V' → (∀ k, stepAt ks i ≠ .turn k) → u = valueL ks vs i → knownL ks vs i → wpAny P .any ops Q f (listed.setIfInBounds i true) (fr (setX x i u)) V' := fun V' u hC hnt hu hkn =>
      ih _ vs _ _ (by simp [hs]) hleft hsm ⟨hC, fun j hj hl => by
        rw [hset] at hl
        by_cases e : j = i
        · subst e; rw [setX_same]; exact ⟨hu, hkn⟩
        · rw [setX_other _ e]; rw [if_neg e] at hl; exact hF.val j hj hl, fun j k hj hq => by
        have e : j ≠ i := fun e => by subst e; exact hnt k hq
        rw [hset, if_neg e]; exact hF.done j k hj hq, hshut⟩
    cases hkind : stepAt ks i with
    | val v =>
      rw [hkind] at hob2
      have h2 := hob2 x V vs hah hF.now hd
      have hnt : ∀ k, stepAt ks i ≠ .turn k := fun k e => by rw [hkind] at e; cases e
      have hv : valueL ks vs i = v := by unfold valueL; rw [hkind]
      have hkn : knownL ks vs i := by unfold knownL; rw [hkind]; trivial
      split
      · rename_i hw
        rw [if_pos hw] at h2
        exact .inl (wp_of_leads h2 fun u V' ⟨hu, hB⟩ => by
          rw [hput]
          exact hgo _ _ hB hnt (hu.trans hv.symm) hkn)
      · rename_i hw
        rw [if_neg hw] at h2
        rw [hput]
        exact hgo _ _ hF.now hnt (h2.trans hv.symm) hkn
    | same k =>
      rw [hkind] at hob2
      have h2 := hob2 x V vs hah hF.now hd
      have hnt : ∀ k, stepAt ks i ≠ .turn k := fun k e => by rw [hkind] at e; cases e
      have hv : valueL ks vs i = vs.getD k undef := by unfold valueL; rw [hkind]
      split
      · rename_i hw
        rw [if_pos hw] at h2
        exact .inl (wp_of_leads h2 fun u V' ⟨hu, hlt, hB⟩ => by
          rw [hput]
          exact hgo _ _ hB hnt (hu.trans hv.symm) (by unfold knownL; rw [hkind]; exact hlt))
      · rename_i hw
        rw [if_neg hw] at h2
        exact h2.elim
    | turn k =>
      rw [hkind] at hob2
      obtain ⟨ht1, ht2⟩ := steps_at hk (by omega) hkind
      have hks : vs.length ≤ k := by
        rcases Nat.lt_or_ge k vs.length with h | h
        · have := (hF.done i k (by omega) hkind).2 h
          rw [hunf] at this; cases this
        · exact h
      have hks2 : k ≤ vs.length := by
        rcases ht1 with h | ⟨o', ho', e, he, hb, q, hq, hqk⟩
        · omega
        · rw [hol] at ho'; cases ho'
          have h1 := low2B_at hlow i o hol e he hb
          have := (hF.done e.on q (by omega) hq).1 (hdeps e he hb)
          omega
      have hsk : vs.length = k := by omega
      have h2 := hob2 x V vs hsk hF.now hd
      have hsm2 : k < m := by
        have := List.all_eq_true.1 hm i (List.mem_range.2 (by omega))
        simpa only [hkind, decide_eq_true_eq] using this
      split
      · rename_i hw
        rw [if_pos hw] at h2
        exact .inl (wp_of_leads h2 fun u V' hB => by
          rw [hput]
          refine ih _ (vs ++ [u]) _ _ (by simp [hs]) hleft (by simp; omega) ⟨hB, fun j hj hl => ?_, fun j q hj hu => ?_, hshut⟩
          · rw [hset] at hl
            by_cases e : j = i
            · subst e
              rw [setX_same]
              unfold valueL knownL
              rw [hkind]
              simp [← hsk]
            · rw [setX_other _ e]
              rw [if_neg e] at hl
              obtain ⟨h5, h6⟩ := hF.val j hj hl
              obtain ⟨h7, h8⟩ := valueL_more h6 u
              exact ⟨h5.trans h7.symm, h8⟩
          · rw [hset]
            by_cases e : j = i
            · subst e; rw [hkind] at hu; cases hu; simp; omega
            · rw [if_neg e, hF.done j q hj hu]
              have : q ≠ k := fun h => e (ht2 j q hj hu h).symm
              simp; omega)
      · rename_i hw
        rw [if_neg hw] at h2
        exact h2.elim

theorem wp_region_W {id : Nat} {Q : Exit → Act → World → Prop} {a : Act} {w : World} (C : List Value → World → Prop) (m : Nat) (ks : List Step) (fr : (Nat → Value) → Act) (x : Nat → Value) (hM : P.follows .mixedOrders = true) (ha : a = fr x)
    (hn : ks.length = l.length) (hk : stepsB ks l = true) (hlow : low2B 0 l = true) (hm : ((List.range ks.length).all fun i => match stepAt ks i with | .turn k => decide (k < m) | _ => true) = true)
    (hm2 : ((List.range m).all fun k => (List.range ks.length).any fun i => match stepAt ks i with | .turn q => q == k | _ => false) = true) (hC : C [] w.drew) (hob : ObsW P l.toArray l fr C ks 0 l)
    (hK : ∀ x V vs, vs.length = m → C vs V → (∀ i, i < ks.length → x i = valueL ks vs i) → Q .normal (fr x) V) : (Code.region id l.toArray true).wp P Q a w := by
  subst ha
  refine wp_region_any hM ?_
  have hle : leftN l.length (Array.replicate l.toArray.size false) = l.length := by
    unfold leftN
    have : ((List.range l.length).filter fun i => !(Array.replicate l.toArray.size false).getD i true) = List.range l.length := by
      rw [List.filter_eq_self]
      intro i hi
      have h1 := List.mem_range.1 hi
      simp [Array.getD, h1]
    rw [this]; simp
  have h := wpAny_of_W (Q := Q) (ops := l.toArray) rfl hn hk hlow hob m hm hm2 hK l.length _ [] x w.drew (by simp) hle (Nat.zero_le _)
    ⟨hC, (fun i _ h => by rw [getD_replicate_false] at h; cases h), (fun i k _ _ => by rw [getD_replicate_false]; simp), (fun t i h _ => by rw [getD_replicate_false] at h; cases h)⟩
  rw [show l.toArray.size = l.length by simp] at h ⊢
  exact h

theorem ObW.of_val {i : Nat} {o : Oper} {v : Value} (hk : stepAt ks i = .val v) (hp : ∀ x v, (fr x).put o.dst v = fr (setX x i v))
    (h : ∀ x V vs, AheadW ks l i vs → C vs V → DepsL ks vs x o.after.toList → if Region.wanted o (yielded ops (fr x).tmps) = true then leads P o (fr x) V (fun u V' => u = v ∧ C vs V') else undef = v) : ObW P ops l fr C ks i o := by
  refine ⟨hp, ?_⟩
  rw [hk]; exact h
theorem ObW.of_same {i k : Nat} {o : Oper} (hk : stepAt ks i = .same k) (hp : ∀ x v, (fr x).put o.dst v = fr (setX x i v))
    (h : ∀ x V vs, AheadW ks l i vs → C vs V → DepsL ks vs x o.after.toList → if Region.wanted o (yielded ops (fr x).tmps) = true then leads P o (fr x) V (fun u V' => u = vs.getD k undef ∧ k < vs.length ∧ C vs V') else False) : ObW P ops l fr C ks i o := by
  refine ⟨hp, ?_⟩
  rw [hk]; exact h
theorem ObW.of_turn {i k : Nat} {o : Oper} (hk : stepAt ks i = .turn k) (hp : ∀ x v, (fr x).put o.dst v = fr (setX x i v))
    (h : ∀ x V vs, vs.length = k → C vs V → DepsL ks vs x o.after.toList → if Region.wanted o (yielded ops (fr x).tmps) = true then leads P o (fr x) V (fun u V' => C (vs ++ [u]) V') else False) : ObW P ops l fr C ks i o := by
  refine ⟨hp, ?_⟩
  rw [hk]; exact h
theorem wpIn_region_W {ro : Option Nat} {n : Nat} {id : Nat} {Q : Exit → Act → World → Prop} {a : Act} {w : World} (C : List Value → World → Prop) (m : Nat) (ks : List Step) (fr : (Nat → Value) → Act) (x : Nat → Value) (hM : P.follows .mixedOrders = true) (ha : a = fr x) (hd : calmB l = true)
    (hn : ks.length = l.length) (hk : stepsB ks l = true) (hlow : low2B 0 l = true) (hm : ((List.range ks.length).all fun i => match stepAt ks i with | .turn k => decide (k < m) | _ => true) = true)
    (hm2 : ((List.range m).all fun k => (List.range ks.length).any fun i => match stepAt ks i with | .turn q => q == k | _ => false) = true) (hC : C [] w.drew) (hob : ObsW P l.toArray l fr C ks 0 l)
    (hK : ∀ x V vs, vs.length = m → C vs V → (∀ i, i < ks.length → x i = valueL ks vs i) → Q .normal (fr x) V) : (Code.region id l.toArray true).wpIn { Fence.wide with round := ro } n P Q a w := by
  subst ha
  refine wpIn_region_any hM (wpAny_in hd _ _ _ _ ?_)
  have hle : leftN l.length (Array.replicate l.toArray.size false) = l.length := by
    unfold leftN
    have : ((List.range l.length).filter fun i => !(Array.replicate l.toArray.size false).getD i true) = List.range l.length := by
      rw [List.filter_eq_self]
      intro i hi
      have h1 := List.mem_range.1 hi
      simp [Array.getD, h1]
    rw [this]; simp
  have h := wpAny_of_W (Q := onlyN Q) (ops := l.toArray) rfl hn hk hlow hob m hm hm2 hK l.length _ [] x w.drew (by simp) hle (Nat.zero_le _)
    ⟨hC, (fun i _ h => by rw [getD_replicate_false] at h; cases h), (fun i k _ _ => by rw [getD_replicate_false]; simp), (fun t i h _ => by rw [getD_replicate_false] at h; cases h)⟩
  rw [show l.toArray.size = l.length by simp] at h ⊢
  exact h
end
/-- append to a row of the call's own, as an operation of a drawn region. -/
theorem leads_append_own {P : Program} {o : Oper} {a : Act} {w : World} {R : Value → World → Prop} (s x : Operand) (t : TypeId)
    (ho : o.op = .call { callee := .builtin .append, args := #[s, x], argTypes := #[t, t] })
    (base : Nat) (e : TypeId) (i : TypeInfo) (z : Value) (size bytes : Nat) (ht : P.underlying t = some (.slice e)) (hi : P.info? e = some i) (hz : i.zero = some z)
    (hsize : i.size = size) (hby : i.bytes = bytes) (hzs : z.cells.size = size) (hsz : 0 < size)
    (v : Value) (n : Nat) (xs : List Value) (hs : a.eval s = v) (hown : w.ownsRow base e size v n xs)
    (ad : Addr) (m c : Nat) (news : List Value) (hx : a.eval x = .slice (some ad) m c) (hl : news.length = m * size) (hnews : ∀ j u, news[j]? = some u → w.cell? (ad.add j) = some u) (h1 : ∀ u ∈ news, u.oneCell' = true)
    (h63 : n + m ≤ maxLen) (hbytes : (n + m) * bytes ≤ 140737488355328) (hbase : base ≤ w.heap.size)
    (h : ∀ v' w', w'.ownsRow base e size v' (n + m) (xs ++ news) → w.grownBy w' v.ownBlock → R v' w') : leads P o a w R := by
  obtain ⟨v', w', hr, h2, h3, -, -⟩ := run_append_own_at (P := P) w base t o.type e i z size bytes ht hi hz hsize hby hzs hsz v n xs hown ad m c news hl hnews h1 h63 hbytes hbase
  refine leads_value (v := v') (w' := w') ?_ (h v' w' h2 h3)
  unfold execOp
  simp only [ho, resolve, invoke, builtin, Sem.run_bind, Sem.run_pure, Result.andThen_ok, List.map_toArray, List.map_cons, List.map_nil, hs, hx, hr]
/-- What is loaded, inside a fence, by what its run answers. -/
theorem wpListIn_load_of {P : Program} {F : Fence} {n : Nat} {ops : Array Oper} {rest : List Oper} {o : Oper} {a : Act} {w : World} {Q : Exit → Act → World → Prop} (hgd : Region.wanted o (yielded ops a.tmps) = true) (ty : TypeId) (x : Operand) (ho : o.op = .load ty x)
    {v : Value} (hr : (execOp a.eval o).run P w = .ok (.value v) w) (hK : wpListIn F n P ops Q rest (a.put o.dst v) w) : wpListIn F n P ops Q (o :: rest) a w := by
  simp only [wpListIn]
  rw [if_pos hgd]
  unfold Oper.wpIn
  refine ⟨?_, ?_⟩
  · simp [Oper.about, ho]
  · rw [Oper.semAt_plain F _ _ (by rw [ho]; intro c hc'; cases hc'), hr]
    exact hK
/-- A block of another type is not the row's. -/
theorem blk_not_row {W : World} {b : Nat} {cs : Array Value} {t e : TypeId} {lo hi : Nat} (h : W.heap[b]? = some (.cells cs t (lo, hi))) (hte : t ≠ e) {base size k : Nat} {v : Value} {xs : List Value} (hr : W.ownsRow base e size v k xs) : v.ownBlock ≠ some b := by
  rcases hr.2 with ⟨rfl, _⟩ | ⟨g, cap, cur, rfl, _, hgb, _⟩
  · simp [Value.ownBlock]
  · intro e'
    obtain rfl : g = b := by simpa [Value.ownBlock] using e'
    rw [hgb] at h
    cases h
    exact hte rfl
end Go.Proofs.YtcbphjdhafnkmaaDoor

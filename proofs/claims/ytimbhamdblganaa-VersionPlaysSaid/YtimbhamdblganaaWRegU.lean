/-
  A region that draws its order: 'x, e := f(..)' where x is a struct with parts that are not known beforehand and lies in memory: the call's answer is moved, taken apart, and stored into a block made whenever; all else has known values.
-/
import Derived.Test.YtimbhamdblganaaWRegI
import Derived.Test.YtimbhamdblganaaWArr
/-! RegU -/
namespace Go.Proofs.Ytimbhamdblganaa
open Go.RowKit

/-- What the call answers. -/
def tupU (e : Value) (cs : Array Value) : Value := .tuple #[.agg cs, e]
theorem tupU_inj {e : Value} {cs cs' : Array Value} (h : tupU e cs = tupU e cs') : cs = cs' := by
  unfold tupU at h
  simpa using h
/-- What is known of the struct, and the blocks in which it has parts. -/
structure KeepU where
  F : Array Value → World → Prop
  B : Array Value → Nat → Prop
  keep : ∀ (S : Nat → Prop) cs V V', F cs V → Chg S V V' → (∀ k, B cs k → ¬ S k) → F cs V'
  lt : ∀ cs V k, F cs V → B cs k → k < V.heap.size
theorem KeepU.below (K : KeepU) {cs : Array Value} {V V' : World} (h : K.F cs V) (hB : Below V.heap.size V V') : K.F cs V' :=
  K.keep _ _ _ _ h (Chg.ofBelow (S := fun _ => False) hB) fun _ _ h => h
/-- The operations: the call, its move, the struct taken, the block made, the store. -/
structure IxU (c m a l s : Nat) (smp : Nat → Option Value) : Prop where
  cm : c ≠ m
  ca : c ≠ a
  cl : c ≠ l
  cs : c ≠ s
  ma : m ≠ a
  ml : m ≠ l
  ms : m ≠ s
  al : a ≠ l
  as_ : a ≠ s
  ls : l ≠ s
  nc : smp c = none
  nm : smp m = none
  na : smp a = none
  nl : smp l = none
  ns : smp s = none
structure UI (W0 : World) (smp : Nat → Option Value) (c m a l s : Nat) (z : Array Value) (t : TypeId) (e : Value) (K : KeepU) (L : Nat → Bool) (x : Nat → Value) (V : World) : Prop where
  below : Below W0.heap.size W0 V
  vals : ∀ i v, smp i = some v → L i = true → x i = v
  call : L c = true → ∃ cs, x c = tupU e cs ∧ K.F cs V ∧ (L l = true → ¬ K.B cs (blkOf (x l)))
  mov : L m = true → L c = true ∧ x m = x c
  tak : L a = true → L m = true ∧ ∀ cs, x c = tupU e cs → x a = .agg cs
  lay : L l = true → W0.heap.size ≤ blkOf (x l) ∧ x l = .pointer (some ⟨blkOf (x l), 0, none⟩) ∧ (L s = false → Blk V (blkOf (x l)) z t) ∧ (L s = true → ∃ cs, x a = .agg cs ∧ Blk V (blkOf (x l)) cs t)
  sto : L s = true → L l = true ∧ L a = true
section
variable {W0 : World} {smp : Nat → Option Value} {c m a l s : Nat} {z : Array Value} {t : TypeId} {e : Value} {K : KeepU} {L : Nat → Bool} {x : Nat → Value} {V V' : World}
theorem UI.start (x : Nat → Value) : UI W0 smp c m a l s z t e K (fun _ => false) x W0 :=
  ⟨Below.refl _ _, (fun _ _ _ h => by cases h), (fun h => by cases h), (fun h => by cases h), (fun h => by cases h), (fun h => by cases h), (fun h => by cases h)⟩
theorem UI.ls (h : UI W0 smp c m a l s z t e K L x V) (hL : L l = true) : blkOf (x l) < V.heap.size := by
  obtain ⟨-, -, h3, h4⟩ := h.lay hL
  cases hs : L s with
  | false => exact (h3 hs).lt
  | true => obtain ⟨cs, -, h5⟩ := h4 hs; exact h5.lt
theorem UI.simple (hx : IxU c m a l s smp) (h : UI W0 smp c m a l s z t e K L x V) {i : Nat} {v : Value} (hi : smp i = some v) (hB : Below V.heap.size V V') : UI W0 smp c m a l s z t e K (setL L i) (setX x i v) V' := by
  have ec : c ≠ i := fun e => by have := hx.nc; rw [e, hi] at this; cases this
  have em : m ≠ i := fun e => by have := hx.nm; rw [e, hi] at this; cases this
  have ea : a ≠ i := fun e => by have := hx.na; rw [e, hi] at this; cases this
  have el : l ≠ i := fun e => by have := hx.nl; rw [e, hi] at this; cases this
  have es : s ≠ i := fun e => by have := hx.ns; rw [e, hi] at this; cases this
  refine ⟨h.below.trans (hB.mono h.below.size), fun j u hj hl => ?_, fun hl => ?_, fun hl => ?_, fun hl => ?_, fun hl => ?_, fun hl => ?_⟩
  · by_cases e : j = i
    · subst e; rw [setX_same]; rw [hi] at hj; exact Option.some.inj hj
    · rw [setX_other _ e]; rw [setL_other e] at hl; exact h.vals j u hj hl
  · rw [setL_other ec] at hl; rw [setX_other _ ec, setL_other el, setX_other _ el]
    obtain ⟨cs, h1, h2, h4⟩ := h.call hl
    exact ⟨cs, h1, K.below h2 hB, h4⟩
  · rw [setL_other em] at hl; rw [setL_other ec, setX_other _ ec, setX_other _ em]; exact h.mov hl
  · rw [setL_other ea] at hl; rw [setL_other em, setX_other _ ec, setX_other _ ea]; exact h.tak hl
  · rw [setL_other el] at hl; rw [setX_other _ el, setL_other es, setX_other _ ea]
    obtain ⟨h1, h2, h3, h4⟩ := h.lay hl
    refine ⟨h1, h2, fun hn => (h3 hn).below hB (h3 hn).lt, fun hy => ?_⟩
    obtain ⟨cs, h5, h6⟩ := h4 hy
    exact ⟨cs, h5, h6.below hB h6.lt⟩
  · rw [setL_other es] at hl; rw [setL_other el, setL_other ea]; exact h.sto hl
theorem UI.called (hx : IxU c m a l s smp) (h : UI W0 smp c m a l s z t e K L x V) (hL : L c = false) {cs : Array Value} (hF : K.F cs V') (hn : ∀ k, K.B cs k → V.heap.size ≤ k ∨ k < W0.heap.size) (hB : Below V.heap.size V V') : UI W0 smp c m a l s z t e K (setL L c) (setX x c (tupU e cs)) V' := by
  have nm : L m = false := by
    cases hc : L m with
    | false => rfl
    | true => have := (h.mov hc).1; rw [hL] at this; cases this
  have na : L a = false := by
    cases hc : L a with
    | false => rfl
    | true => have := (h.tak hc).1; rw [nm] at this; cases this
  have ns : L s = false := by
    cases hc : L s with
    | false => rfl
    | true => have := (h.sto hc).2; rw [na] at this; cases this
  refine ⟨h.below.trans (hB.mono h.below.size), fun j u hj hl => ?_, fun hl => ?_, fun hl => ?_, fun hl => ?_, fun hl => ?_, fun hl => ?_⟩
  · have ej : j ≠ c := fun e => by rw [e, hx.nc] at hj; cases hj
    rw [setX_other _ ej]; rw [setL_other ej] at hl; exact h.vals j u hj hl
  · rw [setX_same, setL_other hx.cl.symm, setX_other _ hx.cl.symm]
    exact ⟨cs, rfl, hF, fun hl2 hb => by have := h.ls hl2; have := (h.lay hl2).1; have := hn _ hb; omega⟩
  · rw [setL_other hx.cm.symm, nm] at hl; cases hl
  · rw [setL_other hx.ca.symm, na] at hl; cases hl
  · rw [setL_other hx.cl.symm] at hl; rw [setX_other _ hx.cl.symm, setL_other hx.cs.symm, setX_other _ hx.ca.symm]
    obtain ⟨h1, h2, h3, h4⟩ := h.lay hl
    exact ⟨h1, h2, fun hn => (h3 hn).below hB (h3 hn).lt, fun hy => by rw [ns] at hy; cases hy⟩
  · rw [setL_other hx.cs.symm, ns] at hl; cases hl
theorem UI.moved (hx : IxU c m a l s smp) (h : UI W0 smp c m a l s z t e K L x V) (hL : L c = true) : UI W0 smp c m a l s z t e K (setL L m) (setX x m (x c)) V := by
  refine ⟨h.below, fun j u hj hl => ?_, fun hl => ?_, fun hl => ?_, fun hl => ?_, fun hl => ?_, fun hl => ?_⟩
  · have ej : j ≠ m := fun e => by rw [e, hx.nm] at hj; cases hj
    rw [setX_other _ ej]; rw [setL_other ej] at hl; exact h.vals j u hj hl
  · rw [setL_other hx.cm] at hl; rw [setX_other _ hx.cm, setL_other hx.ml.symm, setX_other _ hx.ml.symm]; exact h.call hl
  · rw [setL_other hx.cm, setX_same, setX_other _ hx.cm]; exact ⟨hL, rfl⟩
  · rw [setL_other hx.ma.symm] at hl; rw [setL_same, setX_other _ hx.cm, setX_other _ hx.ma.symm]; exact ⟨rfl, (h.tak hl).2⟩
  · rw [setL_other hx.ml.symm] at hl; rw [setX_other _ hx.ml.symm, setL_other hx.ms.symm, setX_other _ hx.ma.symm]; exact h.lay hl
  · rw [setL_other hx.ms.symm] at hl; rw [setL_other hx.ml.symm, setL_other hx.ma.symm]; exact h.sto hl
theorem UI.taken (hx : IxU c m a l s smp) (h : UI W0 smp c m a l s z t e K L x V) (hN : L a = false) (hL : L m = true) {cs : Array Value} (hv : x c = tupU e cs) : UI W0 smp c m a l s z t e K (setL L a) (setX x a (.agg cs)) V := by
  have ns : L s = false := by
    cases hc : L s with
    | false => rfl
    | true => have := (h.sto hc).2; rw [hN] at this; cases this
  refine ⟨h.below, fun j u hj hl => ?_, fun hl => ?_, fun hl => ?_, fun hl => ?_, fun hl => ?_, fun hl => ?_⟩
  · have ej : j ≠ a := fun e => by rw [e, hx.na] at hj; cases hj
    rw [setX_other _ ej]; rw [setL_other ej] at hl; exact h.vals j u hj hl
  · rw [setL_other hx.ca] at hl; rw [setX_other _ hx.ca, setL_other hx.al.symm, setX_other _ hx.al.symm]; exact h.call hl
  · rw [setL_other hx.ma] at hl; rw [setL_other hx.ca, setX_other _ hx.ca, setX_other _ hx.ma]; exact h.mov hl
  · rw [setL_other hx.ma, setX_other _ hx.ca, setX_same]
    exact ⟨hL, fun cs' hcs => by rw [hv] at hcs; rw [tupU_inj hcs]⟩
  · rw [setL_other hx.al.symm] at hl; rw [setX_other _ hx.al.symm, setL_other hx.as_.symm, setX_same]
    obtain ⟨h1, h2, h3, h4⟩ := h.lay hl
    exact ⟨h1, h2, h3, fun hy => by rw [ns] at hy; cases hy⟩
  · rw [setL_other hx.as_.symm, ns] at hl; cases hl
theorem UI.laid (hx : IxU c m a l s smp) (h : UI W0 smp c m a l s z t e K L x V) (hN : L l = false) : UI W0 smp c m a l s z t e K (setL L l) (setX x l (.pointer (some ⟨V.heap.size, 0, none⟩))) (V.alloc (.cells z t)) := by
  have hB := belowNew V (.cells z t)
  have ns : L s = false := by
    cases hc : L s with
    | false => rfl
    | true => have := (h.sto hc).1; rw [hN] at this; cases this
  refine ⟨h.below.trans (hB.mono h.below.size), fun j u hj hl => ?_, fun hl => ?_, fun hl => ?_, fun hl => ?_, fun hl => ?_, fun hl => ?_⟩
  · have ej : j ≠ l := fun e => by rw [e, hx.nl] at hj; cases hj
    rw [setX_other _ ej]; rw [setL_other ej] at hl; exact h.vals j u hj hl
  · rw [setL_other hx.cl] at hl; rw [setX_other _ hx.cl, setX_same]
    obtain ⟨cs, h1, h2, -⟩ := h.call hl
    exact ⟨cs, h1, K.below h2 hB, fun _ hb => Nat.lt_irrefl _ (K.lt _ _ _ h2 hb)⟩
  · rw [setL_other hx.ml] at hl; rw [setL_other hx.cl, setX_other _ hx.cl, setX_other _ hx.ml]; exact h.mov hl
  · rw [setL_other hx.al] at hl; rw [setL_other hx.ml, setX_other _ hx.cl, setX_other _ hx.al]; exact h.tak hl
  · rw [setX_same, setL_other hx.ls.symm, setX_other _ hx.al]
    exact ⟨h.below.size, rfl, fun _ => Blk.new V _ _, fun hy => by rw [ns] at hy; cases hy⟩
  · rw [setL_other hx.ls.symm, ns] at hl; cases hl
theorem UI.stored (hx : IxU c m a l s smp) (h : UI W0 smp c m a l s z t e K L x V) (hL : L l = true) (hA : L a = true) {cs : Array Value} {u : Value} (hv : x a = .agg cs) (hp : Put V V' (blkOf (x l)) cs t) : UI W0 smp c m a l s z t e K (setL L s) (setX x s u) V' := by
  obtain ⟨k1, k2, -, -⟩ := h.lay hL
  refine ⟨h.below.trans (hp.chg.below h.below.size (fun k hk => by rw [hk]; exact k1)), fun j u hj hl => ?_, fun hl => ?_, fun hl => ?_, fun hl => ?_, fun hl => ?_, fun hl => ?_⟩
  · have ej : j ≠ s := fun e => by rw [e, hx.ns] at hj; cases hj
    rw [setX_other _ ej]; rw [setL_other ej] at hl; exact h.vals j u hj hl
  · rw [setL_other hx.cs] at hl; rw [setX_other _ hx.cs, setL_other hx.ls, setX_other _ hx.ls]
    obtain ⟨cs, h1, h2, h4⟩ := h.call hl
    exact ⟨cs, h1, K.keep _ _ _ _ h2 hp.chg (fun k hk e => h4 hL (by rw [← e]; exact hk)), h4⟩
  · rw [setL_other hx.ms] at hl; rw [setL_other hx.cs, setX_other _ hx.cs, setX_other _ hx.ms]; exact h.mov hl
  · rw [setL_other hx.as_] at hl; rw [setL_other hx.ms, setX_other _ hx.cs, setX_other _ hx.as_]; exact h.tak hl
  · rw [setX_other _ hx.ls, setL_same, setX_other _ hx.as_]
    exact ⟨k1, k2, (fun e => by cases e), fun _ => ⟨cs, hv, hp.blk⟩⟩
  · rw [setL_other hx.ls, setL_other hx.as_]; exact ⟨hL, hA⟩
/-- What is known behind the region. -/
theorem UI.last (h : UI W0 smp c m a l s z t e K L x V) (hs : L s = true) : ∃ b cs, x l = .pointer (some ⟨b, 0, none⟩) ∧ W0.heap.size ≤ b ∧ Blk V b cs t ∧ K.F cs V ∧ ¬ K.B cs b := by
  obtain ⟨hl, ha⟩ := h.sto hs
  obtain ⟨hm, hk⟩ := h.tak ha
  obtain ⟨hc, -⟩ := h.mov hm
  obtain ⟨cs, h1, h2, h4⟩ := h.call hc
  obtain ⟨k1, k2, -, k4⟩ := h.lay hl
  obtain ⟨cs', k5, k6⟩ := k4 hs
  rw [hk cs h1] at k5
  cases k5
  exact ⟨_, cs, k2, k1, k6, h2, h4 hl⟩
end
end Go.Proofs.Ytimbhamdblganaa

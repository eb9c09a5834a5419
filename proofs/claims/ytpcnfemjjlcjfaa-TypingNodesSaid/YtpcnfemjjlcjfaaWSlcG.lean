/-
  Slices of structs (or arrays), of any type: append to one that has no room left makes new memory; a slice whose capacity is cut.
-/
import Derived.Test.YtpcnfemjjlcjfaaWSlc
import Derived.Test.YtpcnfemjjlcjfaaWFactsT
/-! SlcG -/
namespace Go.Proofs.Ytpcnfemjjlcjfaa
open Go.RowKit

section
variable {P : Program} {α : Type} {C : α → Array Value} {k : Nat} {ok : α → Prop}
theorem SlAt.cut {w : World} {p : Option Addr} {n c : Nat} {l : List α} (h : SlAt C k ok w (.slice p n c) l) : SlAt C k ok w (.slice p n n) l := by
  obtain ⟨q, cap, e, ⟨h1, h2⟩, h3⟩ := h
  cases e
  exact ⟨_, l.length, rfl, ⟨Nat.le_refl _, by omega⟩, h3⟩
/-- What a slice's cells are, where it may be nil. -/
def RowIs (C : α → Array Value) (w : World) (u : Value) (l : List α) : Prop := u = .slice none 0 0 ∧ l = [] ∨ ∃ ad c, u = .slice (some ad) l.length c ∧ ∀ j x, (flatC C l)[j]? = some x → w.cell? (ad.add j) = some x
theorem rowIs_own (_hk : ∀ c, (C c).size = k) {w : World} {base e : Nat} {u : Value} {l : List α} (h : w.ownsRow base e k u l.length (flatC C l)) : RowIs C w u l := by
  obtain ⟨-, ⟨rfl, h0⟩ | ⟨g, cap, cur, rfl, hb, hg, hcp, hm, hs, ht⟩⟩ := h
  · exact .inl ⟨rfl, List.eq_nil_of_length_eq_zero h0⟩
  · refine .inr ⟨_, cap, rfl, fun j x hx => ?_⟩
    have hadd : (⟨g, 0, none⟩ : Addr).add j = ⟨g, j, none⟩ := by unfold Addr.add; split <;> simp_all
    rw [← ht, List.getElem?_take] at hx
    split at hx
    · rw [hadd, Blk.cell (w := w) (t := e) hg, ← hx, Array.getElem?_toList]
    · cases hx
theorem rowIs_at (hk : ∀ c, (C c).size = k) (hk0 : 0 < k) {w : World} {b off n c : Nat} {l : List α} (h : SlAt C k ok w (.slice (some ⟨b, off, none⟩) n c) l) : RowIs C w (.slice (some ⟨b, off, none⟩) n c) l := by
  have h2 := h.news hk hk0
  obtain ⟨p, cap, he, -, -⟩ := h
  cases he
  exact .inr ⟨_, _, rfl, h2⟩
/-- append of a row to a row of the call's own. -/
theorem wpList_append_rows (hk : ∀ c, (C c).size = k) (hk0 : 0 < k) (h1 : ∀ c, (C c).all (·.oneCell') = true) {w : World} {ops : Array Oper} {rest : List Oper} {o : Oper} {a : Act} {Q : Exit → Act → World → Prop} (hgd : o.guard = none) (s x : Operand) (t : TypeId)
    (ho : o.op = .call { callee := .builtin .append, args := #[s, x], argTypes := #[t, t] }) (base : Nat) {e : TypeId} (ht : P.underlying t = some (.slice e)) {z : Value} {bytes : Nat} (hi : (P.info? e).map (fun i => (i.zero, i.size, i.bytes)) = some (some z, k, bytes)) (hz : z.cells.size = k)
    {v u : Value} {m l : List α} (hs : a.eval s = v) (hx : a.eval x = u) (hown : w.ownsRow base e k v m.length (flatC C m)) (hu : RowIs C w u l) (h63 : m.length + l.length ≤ maxLen) (hb : (m.length + l.length) * bytes ≤ 140737488355328) (hbase : base ≤ w.heap.size)
    (h : ∀ v' w', w'.ownsRow base e k v' (m ++ l).length (flatC C (m ++ l)) → w.grownBy w' v.ownBlock → wpList P ops Q rest (a.put o.dst v') w') : wpList P ops Q (o :: rest) a w := by
  obtain ⟨i, hi2, hx2⟩ := Option.map_eq_some_iff.1 hi
  simp only [Prod.mk.injEq] at hx2
  obtain ⟨hz0, hz1, hz2⟩ := hx2
  rcases hu with ⟨rfl, rfl⟩ | ⟨ad, c, rfl, hn⟩
  · refine wpList_plain hgd fun K hK => ?_
    have hr := run_append_owned_none (P := P) (w := w) base t o.type e i k ht hi2 v m.length (flatC C m) hown
    unfold Oper.wp execOp
    simp only [ho, resolve, invoke, builtin, Sem.run_bind, Sem.run_pure, Result.andThen_ok, List.map_toArray, List.map_cons, List.map_nil, hs, hx, hr]
    refine hK _ _ (h v w (by rw [List.append_nil]; exact hown) ⟨rfl, rfl, rfl, Nat.le_refl _, fun _ _ _ => rfl⟩)
  · refine wpList_append_own_at _ hgd s x t ho base e i z k bytes ht hi2 hz0 hz1 hz2 hz hk0 v m.length (flatC C m) hs hown ad l.length c (flatC C l) hx (flatC_length hk l) hn (flatC_cells h1 l) h63 hb hbase fun v' w' h2 h3 _ _ => h v' w' ?_ h3
    rw [List.length_append, flatC_app]
    exact h2
end
end Go.Proofs.Ytpcnfemjjlcjfaa

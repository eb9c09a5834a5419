/-
  The first elements of a slice of structs.
-/
import Derived.Test.YtpcnfemjjlcjfaaWSlc
/-! SlcT -/
namespace Go.Proofs.Ytpcnfemjjlcjfaa
open Go.RowKit

theorem slAt_take {α : Type} {C : α → Array Value} {k : Nat} {ok : α → Prop} {w : World} {p : Option Addr} {n c m : Nat} {l : List α} (h : SlAt C k ok w (.slice p n c) l) (hm : m ≤ l.length) : SlAt C k ok w (.slice p m c) (l.take m) := by
  obtain ⟨q, cap, e, hc, h3⟩ := h
  cases e
  have hlen : (l.take m).length = m := by rw [List.length_take, Nat.min_eq_left hm]
  refine ⟨_, _, by rw [hlen], ⟨by rw [hlen]; exact Nat.le_trans hm hc.1, hc.2⟩, fun hne => ?_⟩
  obtain ⟨b, off, h5, h6, h7⟩ := h3 (fun e => hne (by rw [e, List.take_nil]))
  refine ⟨b, off, h5, h6, fun i hi => ?_⟩
  have hi2 : i < l.length := by rw [hlen] at hi; omega
  rw [List.getElem_take]
  exact h7 i hi2
end Go.Proofs.Ytpcnfemjjlcjfaa

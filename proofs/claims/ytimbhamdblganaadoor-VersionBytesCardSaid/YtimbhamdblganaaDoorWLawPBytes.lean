/-
  The law PolicyBytes, from the program's contracts.
-/
import Derived.Test.YtimbhamdblganaaDoorWPolC
import Derived.Test.YtimbhamdblganaaDoorWPolD
import Derived.Test.YtimbhamdblganaaDoorWPolX
import Derived.Test.YtimbhamdblganaaDoorWPolZ
import Derived.Test.YtimbhamdblganaaDoorW2
import Derived.Test.YtimbhamdblganaaDoorW1
/-! LawPBytes -/
namespace Go.Proofs.YtimbhamdblganaaDoor
open Go.RowKit

theorem newRd2_any (p : Option Addr) (len cap : Nat) (l : List UInt8) (w : World) (h : BsAt w p len cap l) (hsm : l.length ≤ 1000000) (hw : 0 < w.heap.size) :
    Calls Tryd.prog 5 #[.slice p len cap] w fun e w' => ∃ b g, e = .returned (.pointer (some ⟨b, 0, none⟩)) ∧ w.heap.size ≤ b ∧ g ≠ b ∧ ((g = 0 ∨ w.heap.size ≤ g) ∧ g < w'.heap.size) ∧ RAt w' b 62 g (l, 0) ∧ Below w.heap.size w w' :=
  (newReader_any p len cap l w h hsm).mono fun e w' ⟨b, v, he, hb, hk, hn, hne, hB⟩ => by
    have hR := RAt.new hk hn.inBlock
    obtain ⟨q, n, c, rfl, h1, h2⟩ := hn
    refine ⟨b, blockOf _, he, hb, ?_, ?_, hR, hB⟩
    · cases q with
      | none => show 0 ≠ b; omega
      | some a => exact hne a.block rfl
    · cases q with
      | none => exact ⟨.inl rfl, show 0 < w'.heap.size by have := hk.lt; omega⟩
      | some a => exact ⟨.inr (h2 a rfl).1, (h2 a rfl).2⟩
section
variable {w : World} {bp : Nat} {m : Pol} {B0 : Nat} {v5 : Value} {B : List UInt8} {br g bx gx : Nat} {L : List UInt8} {s r s' r' : WSt} {V V' : World}
end
/-- The one call whose answer is a slice. -/
def C7 (K : World → Prop) (B : List UInt8) : List Value → World → Prop
  | [], V => K V
  | [a], V => K V ∧ ∃ p c, a = .slice p B.length c ∧ BsAt V p B.length c B
  | _, _ => False
theorem C7_com {K : World → Prop} {B : List UInt8} : ∀ {vs : List Value} {V : World}, C7 K B vs V → K V
  | [], _, h => h
  | [_], _, h => h.1
  | _ :: _ :: _, _, h => h.elim
theorem C7_val {K : World → Prop} {B : List UInt8} {vs : List Value} {V : World} (hn : 0 < vs.length) (h : C7 K B vs V) : ∃ p c, vs.getD 0 undef = .slice p B.length c ∧ BsAt V p B.length c B := by
  match vs, hn, h with
  | [_], _, h => exact h.2
theorem C7_step {K : World → Prop} {B : List UInt8} {V V' : World} (hK : K V → K V') (hB : Below V.heap.size V V') : ∀ {vs : List Value}, C7 K B vs V → C7 K B vs V'
  | [], h => hK h
  | [_], ⟨h, p, c, e, hb⟩ => ⟨hK h, p, c, e, hb.below hB (Nat.le_refl _)⟩
  | _ :: _ :: _, h => h.elim
section
variable {K R0 R1 : World → Prop} {kn : List Value} {bq : List UInt8} {vs : List Value} {V V' : World}
end
end Go.Proofs.YtimbhamdblganaaDoor

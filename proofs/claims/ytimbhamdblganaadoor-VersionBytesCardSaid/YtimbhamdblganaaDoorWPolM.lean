/-
  Policies in plain terms: what they are, who is seen, who acts for whom, who has which tags.
-/
import Derived.Test.YtimbhamdblganaaDoorW2
import Derived.Test.YtimbhamdblganaaDoorW1
/-! PolM -/
namespace Go.Proofs.YtimbhamdblganaaDoor

structure Pol where
  live : Nat
  s : Nat → Nat
  i : Nat → Nat
  acts : Nat → Nat
  owner : Nat → Nat
  active : Nat
/-- What every policy's numbers are. -/
structure PolOk (p : Pol) : Prop where
  live : p.live < 65536
  active : p.active < 65536
  s : ∀ r, r < 16 → p.s r < 65536
  i : ∀ r, r < 16 → p.i r < 65536
  acts : ∀ r, r < 16 → p.acts r < 65536
  owner : ∀ t, t < 16 → p.owner t < 256
end Go.Proofs.YtimbhamdblganaaDoor

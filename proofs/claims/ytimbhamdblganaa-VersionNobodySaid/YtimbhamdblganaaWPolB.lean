/-
  Policies' bytes in plain terms: what is written is read; what is read is written as the same bytes.
-/
import Derived.OwnWalk
import Derived.Laws.AppendOwnNone
import Derived.Test.YtimbhamdblganaaRows
import Derived.WalkKit
import Derived.WalkSpells
import Derived.WalkLawsBesides
import Derived.KernelRfl
import Derived.Laws.CopyOwn
import Derived.Laws.MakeOwn
import Derived.Laws.OwnMore
import Derived.Laws.BitsAllLaws
import Derived.LoopTactic
import Derived.Deep.DeepCutAuto
import Derived.Lib.ItoaNum
import Derived.Lib.Join
import Derived.Lib.AtoiAll
import Derived.Lib.Bytealg
import Derived.ChangeKeysEq
import Derived.Lib.QuietBelow
import Derived.Laws.BitsLemmas
import Derived.IntWalk
import Derived.Lib.SliceRun
import Derived.Lib.ConvBytes
import Derived.StillTailTactics
import Derived.Deep.QuietTactic
import Derived.BigQuiet
import Derived.Test.YtimbhamdblganaaWPolA
import Derived.Test.YtimbhamdblganaaWBlk
import Derived.Test.YtimbhamdblganaaWArr
import Derived.Test.YtimbhamdblganaaWPolU
import Derived.Test.YtimbhamdblganaaWPolT
import Derived.Test.YtimbhamdblganaaWBitsM
import Derived.Test.YtimbhamdblganaaWTagA
import Derived.Test.YtimbhamdblganaaWLabA
import Derived.Test.YtimbhamdblganaaWStage
import Derived.Test.YtimbhamdblganaaWPolS
import Derived.Test.YtimbhamdblganaaWFactsT
import Derived.Test.YtimbhamdblganaaWLate
import Derived.Test.YtimbhamdblganaaWMid
/-! PolB -/
namespace Go.Proofs.Ytimbhamdblganaa

/-! Written, then read. -/
theorem polC_congr {p q : Pol} (h0 : p.live = q.live) (h1 : ∀ r, r < 16 → p.s r = q.s r ∧ p.i r = q.i r ∧ p.acts r = q.acts r) (h2 : ∀ t, t < 16 → p.owner t = q.owner t) (h3 : p.active = q.active) : polC p = polC q := by
  unfold polC
  congr 1
  apply List.map_congr_left
  intro k hk
  have hk := List.mem_range.1 hk
  unfold polAt
  split
  · rw [h0]
  · split
    · split
      · rw [(h1 (k / 2) (by omega)).1]
      · rw [(h1 (k / 2 - 1) (by omega)).2.1]
    · split
      · rw [(h1 (k - 33) (by omega)).2.2]
      · split
        · rw [h2 (k - 49) (by omega)]
        · rw [h3]
/-! Read, then written. -/
end Go.Proofs.Ytimbhamdblganaa

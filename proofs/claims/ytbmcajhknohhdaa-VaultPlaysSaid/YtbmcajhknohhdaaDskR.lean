/-
  The document's disk.
-/
import Derived.Test.YtbmcajhknohhdaaDskK
import Derived.Test.YtbmcajhknohhdaaChain
import Derived.IntWalk
namespace Go.Proofs.Ytbmcajhknohhdaa
open Go.RowKit

/-- The document's disk at block c: its bytes are v's. -/
structure RDisk (B : Nat) (w : World) (c : Nat) (v : Value) (S : DS) : Prop where
  blk : Blk w c #[v, .bool S.off, .int .i64 S.fuse, .int .i64 S.keep, .int .i64 S.wr] 33
  row : w.ownsRow B 5 1 v S.all.length (bvs S.all)
  apart : v.ownBlock ≠ some c

set_option maxRecDepth 100000 in
set_option maxHeartbeats 1600000 in
theorem rdHas_any (S : DS) (p : Option Addr) (cap : Nat) (i : Int) (w : World) (h : S.all.length ≤ 1000000) :
    Calls Try.prog 34 #[.agg #[.slice p S.all.length cap, .bool S.off, .int .i64 S.fuse, .int .i64 S.keep, .int .i64 S.wr], .int .i64 i] w fun e w' => e = .returned (.bool (hasD S i)) ∧ Below w.heap.size w w' := by
  have HB := Lib.hid (belowNew w (.cells #[.slice p S.all.length cap, .bool S.off, .int .i64 S.fuse, .int .i64 S.keep, .int .i64 S.wr] 33))
  have HH := Lib.hid (show hasD S i = (decide (0 ≤ i) && decide (i < ((S.all.length / 128 : Nat) : Int))) from rfl)
  generalize S.all.length = m at *
  by_cases h0 : 0 ≤ i
  · have b0 : decide (0 ≤ i) = true := by simpa using h0
    rw [b0] at HH
    clear h0
    go_enter Try.func34, Try.ntmps34
    go_wp2_with fail
    go_ret
    exact ⟨by rw [HH.out]; rfl, HB.out⟩
  · have b0 : decide (0 ≤ i) = false := by simpa using h0
    rw [b0] at HH
    clear h0
    go_enter Try.func34, Try.ntmps34
    go_wp2_with fail
    go_ret
    exact ⟨by rw [HH.out]; rfl, HB.out⟩

end Go.Proofs.Ytbmcajhknohhdaa

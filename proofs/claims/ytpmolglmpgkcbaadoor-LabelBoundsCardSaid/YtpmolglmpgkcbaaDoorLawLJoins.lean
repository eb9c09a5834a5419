/-
  The walk of the law LabelJoins.
-/
import Derived.Test.YtpmolglmpgkcbaaDoorLabV
import Derived.Test.YtpmolglmpgkcbaaDoorLabK
namespace Go.Proofs.YtpmolglmpgkcbaaDoor
open Go.RowKit

theorem LabsAt.below {w w' : World} {v : Value} {l : List (Nat × Nat)} (h : LabsAt w v l) (hB : Below w.heap.size w w') : LabsAt w' v l := by
  obtain ⟨p, cap, hv, hl, hc⟩ := h
  refine ⟨p, cap, hv, hl, fun hne => ?_⟩
  obtain ⟨b, off, hp, hb, hcs⟩ := hc hne
  refine ⟨b, off, hp, Nat.lt_of_lt_of_le hb hB.size, fun i hi => ?_⟩
  obtain ⟨h0, h1⟩ := hcs i hi
  exact ⟨(hB.cell (p := ⟨b, off + i * 2, none⟩) hb).trans h0, (hB.cell (p := ⟨b, off + i * 2 + 1, none⟩) hb).trans h1⟩

set_option maxRecDepth 100000 in
set_option maxHeartbeats 4000000 in
theorem ljoins_any (p : Option Addr) (cap : Nat) (l : List (Nat × Nat)) (hl : SmallL l) (w : World) (hI : l.length ≤ 40 → LabsAt w (.slice p l.length cap) l) (hE : Env w) :
    Calls Tryd.prog 4 #[.slice p l.length cap] w fun e w' => e = .returned (.bool true) ∧ Below w.heap.size w w' := by
  have HE := Lib.hid hE
  have hL := hE.lt
  have HX := Lib.hid hI
  have HS := Lib.hid hl
  clear hE hl hI
  have H1 := Lib.hid (fun W hW => lJoin_any (.slice p l.length cap) l HS.out W hW)
  have H2 := Lib.hid (fun W hW => rJoin_any (.slice p l.length cap) l HS.out W hW)
  have H3 := Lib.hid (fun W hW => lMeet_any (.slice p l.length cap) l HS.out W hW)
  have H4 := Lib.hid (fun W hW => rMeet_any (.slice p l.length cap) l HS.out W hW)
  generalize joinS 0 l = js at *
  generalize joinI 65535 l = ji at *
  generalize meetS 65535 l = ms at *
  generalize meetI 0 l = mi at *
  by_cases hlen : 40 < l.length
  · have h1 : (40 : Int) < l.length := by omega
    go_enter Tryd.func4, Tryd.ntmps4
    go_wp2_with fail
    refine (lalive_any _ HE.out).mono ?_
    rintro e w1 ⟨rfl, hB⟩
    go_wp2_with fail
    go_ret
    exact ⟨rfl, hB⟩
  · have h1 : ¬ (40 : Int) < l.length := by omega
    have HI := Lib.hid (HX.out (by omega))
    clear HX
    go_enter Tryd.func4, Tryd.ntmps4
    go_wp2_with fail
    refine (H1.out _ HI.out).mono ?_
    rintro e w1 ⟨rfl, hB⟩
    go_wp2_with fail
    refine (H2.out _ (HI.out.below hB)).mono ?_
    rintro e w2 ⟨rfl, hB1⟩
    have hB2 := hB.trans (hB1.mono hB.size)
    clear hB hB1
    go_wp2_with fail
    refine (H3.out _ (HI.out.below hB2)).mono ?_
    rintro e w3 ⟨rfl, hB1⟩
    have hB3 := hB2.trans (hB1.mono hB2.size)
    clear hB2 hB1
    go_wp2_with fail
    refine (H4.out _ (HI.out.below hB3)).mono ?_
    rintro e w4 ⟨rfl, hB1⟩
    have hB4 := hB3.trans (hB1.mono hB3.size)
    clear hB3 hB1
    go_wp2_with fail
    refine (lalive_any _ (HE.out.below hB4 hL)).mono ?_
    rintro e w5 ⟨rfl, hB1⟩
    go_wp2_with fail
    go_ret
    exact ⟨rfl, hB4.trans (hB1.mono hB4.size)⟩

end Go.Proofs.YtpmolglmpgkcbaaDoor

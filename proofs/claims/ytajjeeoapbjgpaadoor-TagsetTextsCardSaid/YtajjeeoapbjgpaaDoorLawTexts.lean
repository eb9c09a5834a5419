/-
  The walk of the law TagsetTexts.
-/
import Derived.Test.YtajjeeoapbjgpaaDoorTagV
namespace Go.Proofs.YtajjeeoapbjgpaaDoor
open Go.RowKit

theorem rParse_is (s : ByteArray) (a : Nat) (ha : a < 65536) (h : textN a = s.data.toList) (hs : s.size ≤ 1000) (w : World) :
    Calls Tryd.prog 20 #[.string s] w fun e w' => e = .returned (.tuple #[.int .u16 (a : Int), .bool true]) ∧ w = w' := by
  refine (rParse_any s hs w).mono ?_
  rintro e w' ⟨hp, hB⟩
  rcases hp with ⟨b, hb, ht, he⟩ | ⟨hn, _⟩
  · have := textN_inj hb ha (ht.trans h.symm)
    subst this
    exact ⟨he, hB⟩
  · exact absurd h (hn a ha)
theorem rParse_not (s : ByteArray) (h : ∀ a, a < 65536 → textN a ≠ s.data.toList) (hs : s.size ≤ 1000) (w : World) :
    Calls Tryd.prog 20 #[.string s] w fun e w' => e = .returned (.tuple #[.int .u16 0, .bool false]) ∧ w = w' := by
  refine (rParse_any s hs w).mono ?_
  rintro e w' ⟨hp, hB⟩
  rcases hp with ⟨b, hb, ht, _⟩ | ⟨_, he⟩
  · exact absurd ht (h b hb)
  · exact ⟨he, hB⟩

set_option maxHeartbeats 2000000 in
theorem texts_any (a : Nat) (ha : a < 65536) (s : ByteArray) (w : World) (hE : Env w) :
    Calls Tryd.prog 4 #[.int .u16 (a : Int), .string s] w fun e w' => e = .returned (.bool true) ∧ Below w.heap.size w w' := by
  have HE := Lib.hid hE
  have hL := hE.lt
  clear hE
  by_cases hlen : 200 < s.size
  · have h1 : (200 : Int) < s.size := by omega
    go_enter Tryd.func4, Tryd.ntmps4
    go_wp2_with fail
    refine (alive_any _ HE.out).mono ?_
    rintro e w1 ⟨rfl, hB⟩
    go_wp2_with fail
    go_ret
    exact ⟨rfl, hB⟩
  · have h1 : ¬ (200 : Int) < s.size := by omega
    have hs : s.size ≤ 1000 := by omega
    by_cases hex : ∃ b, b < 65536 ∧ textN b = s.data.toList
    · obtain ⟨b, hb, ht⟩ := hex
      have HP := Lib.hid (fun W hW => Parse_is s b hb ht hs W hW)
      have HR := Lib.hid (fun W => rParse_is s b hb ht hs W)
      clear ht
      go_enter Tryd.func4, Tryd.ntmps4
      go_wp2_with fail
      refine (HP.out _ HE.out).mono ?_
      rintro e w1 ⟨rfl, hB⟩
      go_wp2_with fail
      refine (HR.out _).mono ?_
      rintro e w2 ⟨rfl, rfl⟩
      go_wp2_with fail
      refine (Text_any a ha _ (HE.out.below hB hL)).mono ?_
      rintro e w2 ⟨rfl, hB1⟩
      have hB2 := hB.trans (hB1.mono hB.size)
      clear hB hB1
      go_wp2_with fail
      refine (rText_any a ha _).mono ?_
      rintro e w3 ⟨rfl, hB1⟩
      have hB3 := hB2.trans (hB1.mono hB2.size)
      clear hB2 hB1
      go_wp2_with fail
      refine (alive_any _ (HE.out.below hB3 hL)).mono ?_
      rintro e w4 ⟨rfl, hB1⟩
      go_wp2_with fail
      go_ret
      exact ⟨rfl, hB3.trans (hB1.mono hB3.size)⟩
    · have HP := Lib.hid (fun W hW => Parse_not s (fun b hb ht => hex ⟨b, hb, ht⟩) hs W hW)
      have HR := Lib.hid (fun W => rParse_not s (fun b hb ht => hex ⟨b, hb, ht⟩) hs W)
      clear hex
      go_enter Tryd.func4, Tryd.ntmps4
      go_wp2_with fail
      refine (HP.out _ HE.out).mono ?_
      rintro e w1 ⟨rfl, hB⟩
      go_wp2_with fail
      refine (HR.out _).mono ?_
      rintro e w2 ⟨rfl, rfl⟩
      go_wp2_with fail
      refine (Text_any a ha _ (HE.out.below hB hL)).mono ?_
      rintro e w2 ⟨rfl, hB1⟩
      have hB2 := hB.trans (hB1.mono hB.size)
      clear hB hB1
      go_wp2_with fail
      refine (rText_any a ha _).mono ?_
      rintro e w3 ⟨rfl, hB1⟩
      have hB3 := hB2.trans (hB1.mono hB2.size)
      clear hB2 hB1
      go_wp2_with fail
      refine (alive_any _ (HE.out.below hB3 hL)).mono ?_
      rintro e w4 ⟨rfl, hB1⟩
      go_wp2_with fail
      go_ret
      exact ⟨rfl, hB3.trans (hB1.mono hB3.size)⟩

end Go.Proofs.YtajjeeoapbjgpaaDoor

/-
  tagset.Parse: which set has a text.
-/
import Derived.Test.YtpmolglmpgkcbaaDoorTagP
namespace Go.Proofs.YtpmolglmpgkcbaaDoor
open Go.RowKit

/-- What Parse answers to a text. -/
def ParseSays (l : List UInt8) (e : Ending) : Prop :=
  (∃ a : Nat, a < 65536 ∧ textN a = l ∧ e = .returned (.tuple #[.int .u16 a, .int .i64 0])) ∨ ((∀ a : Nat, a < 65536 → textN a ≠ l) ∧ e = .returned (.tuple #[.int .u16 0, .int .i64 3]))

theorem Cut_noL (r : List UInt8) (w : World) (h : (44 : UInt8) ∉ r) :
    Calls Tryd.prog 30 #[.string ⟨r.toArray⟩, .string ⟨#[44]⟩] w fun e w' => e = .returned (.tuple #[.string ⟨r.toArray⟩, .string ⟨#[]⟩, .bool false]) ∧ w = w' := Cut_no _ _ h
theorem Cut_yesL (r a b : List UInt8) (w : World) (hs : r.length ≤ 1000) (h : r = a ++ 44 :: b) (ha : (44 : UInt8) ∉ a) :
    Calls Tryd.prog 30 #[.string ⟨r.toArray⟩, .string ⟨#[44]⟩] w fun e w' => e = .returned (.tuple #[.string ⟨a.toArray⟩, .string ⟨b.toArray⟩, .bool true]) ∧ Seen w w' :=
  Cut_yes _ a b w (by have := strB_size r; unfold strB at this; omega) h ha
theorem below_drewN' (w : World) (n : Nat) : Below w.heap.size w (w.drewN n) := ⟨rfl, rfl, rfl, Nat.le_refl _, fun _ _ => rfl⟩

theorem shl_orN (s t : Nat) (hs : s < 65536) (h1 : t < 16) : bits .or .u16 (s : Int) (IntKind.u16.wrap (2 ^ t)) = (withN s t : Nat) := by
  have := shl_or s (t : Int) hs (by omega) (by omega)
  simpa using this

def measP : Value → Value → Nat
  | .string s, .bool true => s.size + 1
  | _, _ => 0

set_option maxHeartbeats 2000000 in
theorem Parse_any (s : ByteArray) (hs : s.size ≤ 1000) (w : World) (hE : Env w) :
    Calls Tryd.prog 31 #[.string s] w fun e w' => ParseSays s.data.toList e ∧ Below w.heap.size w w' := by
  obtain ⟨l, rfl⟩ : ∃ l, s = ⟨l.toArray⟩ := ⟨s.data.toList, strB_of rfl⟩
  have hs' : l.length ≤ 1000 := by have := strB_size l; unfold strB at this; omega
  show Calls _ _ _ _ fun e w' => ParseSays l e ∧ _
  clear hs
  by_cases hm : l = [45]
  · subst hm
    have hpost : ParseSays [45] (.returned (.tuple #[.int .u16 0, .int .i64 0])) := .inl ⟨0, by decide, by decide, rfl⟩
    go_enter Tryd.func31, Tryd.ntmps31
    go_wp2_with fail
    go_ret2
    exact ⟨hpost, Below.refl _ _⟩
  · have hne : ((⟨l.toArray⟩ : ByteArray).toList == [45]) = false := by rw [Lib.toList_data]; simpa using hm
    have hne2 : (l == [45]) = false := by simpa using hm
    have HE := Lib.hid hE
    have HM := Lib.hid hm
    have hEl := hE.lt
    have hpostN : (∀ a, a < 65536 → textN a ≠ l) → ParseSays l (.returned (.tuple #[.int .u16 0, .int .i64 3])) := fun h => .inr ⟨h, rfl⟩
    have hpostY : ∀ pre r, Inv l pre r false → ParseSays l (.returned (.tuple #[.int .u16 (setN 0 pre : Nat), .int .i64 0])) := fun pre r h => .inl ⟨_, h.done.1, h.done.2, rfl⟩
    have HN := Lib.hid hpostN
    have HY := Lib.hid hpostY
    have hSt := Inv.start l
    have HSt := Lib.hid hSt
    generalize hPS : ParseSays l = PS at *
    clear hE hm hpostN hpostY hSt hPS
    go_enter Tryd.func31, Tryd.ntmps31
    go_wp2_with fail
    go_loopw [4, 5, 6, 7] (fun st la re mo wr => ∃ (pre : List Nat) (r : List UInt8) (m : Bool), st = .int .u16 (setN 0 pre : Nat) ∧ la = .int .i64 (lastI pre) ∧ re = .string ⟨r.toArray⟩ ∧ mo = .bool m ∧ r.length ≤ 1000 ∧ Hid (Inv l pre r m) ∧ Hid (Env wr) ∧ Below w.heap.size w wr) (fun _ _ re mo _ => measP re mo)
    case atStart => exact ⟨[], l, true, rfl, rfl, rfl, rfl, hs', HSt, HE, Below.refl _ _⟩
    case round =>
      obtain ⟨pre, r, m, rfl, rfl, rfl, rfl, hr, HI, HEr, hB⟩ := hrel
      cases m
      · go_wp2_with fail
        go_ret2
        exact ⟨HY.out pre r HI.out, hB⟩
      · have hset := setN_lt pre 0 (by decide) HI.out.small
        obtain ⟨hla0, hla1⟩ := HI.out.last_lt
        by_cases h44 : (44 : UInt8) ∈ r
        · obtain ⟨a, b, hab, ha⟩ := List.eq_append_cons_of_mem h44
          have hCut := Cut_yesL r a b wr hr hab ha
          have hbl : b.length + 1 ≤ r.length := by rw [hab]; simp
          have hal : a.length ≤ 1000 := by have := congrArg List.length hab; simp at this; omega
          have HEr2 := HEr
          by_cases hd : ∃ t, t < 16 ∧ a = dig t
          · obtain ⟨t, ht, rfl⟩ := hd
            by_cases hlt : lastI pre < (t : Int)
            · have HI2 := Lib.hid (HI.out.step ht hlt hab)
              have HS := Lib.hid (setN_snoc 0 pre t)
              have HL := Lib.hid (lastI_snoc pre t)
              have HO := Lib.hid (shl_orN (setN 0 pre) t hset ht)
              have hPT := fun W => parseTag_yes t ht W
              have HPT := Lib.hid hPT
              clear hab ha h44 hPT
              generalize dig t = d at *
              generalize lastI pre = la at *
              go_wp2_with (first | (go_at_call 30; refine hCut.mono ?_; clear hCut; rintro e w' ⟨rfl, nq, rfl⟩) | (go_at_call 38; refine (HPT.out _).mono ?_; rintro e w' ⟨rfl, hB1⟩))
              have hB2 : Below w.heap.size w w' := hB.trans (((below_drewN' wr nq).trans (by simpa using hB1)).mono hB.size)
              go_roundw
              case rel => exact ⟨pre ++ [t], b, true, by rw [HS.out, ← HO.out], by rw [HL.out], rfl, rfl, by omega, HI2, Lib.hid (HE.out.below hB2 hEl), hB2⟩
              case measure => simp only [measP]; have h1 := strB_size b; have h2 := strB_size r; unfold strB at h1 h2; omega
            · have HF := Lib.hid (HI.out.fail_cut HM.out hab ha (fun u hu e => by rw [← dig_inj ht hu e]; exact hlt))
              have hPT := fun W => parseTag_yes t ht W
              have HPT := Lib.hid hPT
              clear hab ha h44 hPT
              have hle : (t : Int) ≤ lastI pre := by omega
              generalize dig t = d at *
              generalize lastI pre = la at *
              go_wp2_with (first | (go_at_call 30; refine hCut.mono ?_; clear hCut; rintro e w' ⟨rfl, nq, rfl⟩) | (go_at_call 38; refine (HPT.out _).mono ?_; rintro e w' ⟨rfl, hB1⟩))
              have hB2 : Below w.heap.size w w' := hB.trans (((below_drewN' wr nq).trans (by simpa using hB1)).mono hB.size)
              go_ret2
              exact ⟨HN.out HF.out, hB2⟩
          · have HF := Lib.hid (HI.out.fail_cut HM.out hab ha (fun u hu e => absurd ⟨u, hu, e⟩ hd))
            have hPT := fun (W : World) (hW : Env W) => parseTag_no ⟨a.toArray⟩ (by have := strB_size a; unfold strB at this; omega) (fun u hu e => hd ⟨u, hu, e⟩) W hW
            have HPT := Lib.hid hPT
            clear hab ha h44 hPT hd
            go_wp2_with (first | (go_at_call 30; refine hCut.mono ?_; clear hCut; rintro e w' ⟨rfl, nq, rfl⟩) | (go_at_call 38; refine (HPT.out _ (HEr.out.below (below_drewN' _ _) HEr.out.lt)).mono ?_; rintro e w' ⟨rfl, hB1⟩))
            have hB2 : Below w.heap.size w w' := hB.trans (((below_drewN' wr nq).trans (by simpa using hB1)).mono hB.size)
            go_ret2
            exact ⟨HN.out HF.out, hB2⟩
        · have hCut := Cut_noL r wr h44
          by_cases hd : ∃ t, t < 16 ∧ r = dig t
          · obtain ⟨t, ht, hrt⟩ := hd
            by_cases hlt : lastI pre < (t : Int)
            · have HI2 := Lib.hid (HI.out.stop (r' := []) ht hlt hrt)
              have HS := Lib.hid (setN_snoc 0 pre t)
              have HL := Lib.hid (lastI_snoc pre t)
              have HO := Lib.hid (shl_orN (setN 0 pre) t hset ht)
              have hPT := fun W => parseTag_yes t ht W
              rw [← hrt] at hPT
              have HPT := Lib.hid hPT
              clear hrt h44 hPT
              generalize lastI pre = la at *
              go_wp2_with (first | (go_at_call 30; refine hCut.mono ?_; clear hCut; rintro e w' ⟨rfl, rfl⟩) | (go_at_call 38; refine (HPT.out _).mono ?_; rintro e w' ⟨rfl, hB1⟩))
              have hB2 : Below w.heap.size w w' := hB.trans (hB1.mono hB.size)
              go_roundw
              case rel => exact ⟨pre ++ [t], [], false, by rw [HS.out, ← HO.out], by rw [HL.out], rfl, rfl, by simp, HI2, Lib.hid (HE.out.below hB2 hEl), hB2⟩
              case measure => simp only [measP]; omega
            · have HF := Lib.hid (HI.out.fail_end HM.out h44 (fun u hu e => by rw [← dig_inj ht hu (hrt.symm.trans e)]; exact hlt))
              have hPT := fun W => parseTag_yes t ht W
              rw [← hrt] at hPT
              have HPT := Lib.hid hPT
              clear hrt h44 hPT
              have hle : (t : Int) ≤ lastI pre := by omega
              generalize lastI pre = la at *
              go_wp2_with (first | (go_at_call 30; refine hCut.mono ?_; clear hCut; rintro e w' ⟨rfl, rfl⟩) | (go_at_call 38; refine (HPT.out _).mono ?_; rintro e w' ⟨rfl, hB1⟩))
              have hB2 : Below w.heap.size w w' := hB.trans (hB1.mono hB.size)
              go_ret2
              exact ⟨HN.out HF.out, hB2⟩
          · have HF := Lib.hid (HI.out.fail_end HM.out h44 (fun u hu e => absurd ⟨u, hu, e⟩ hd))
            have hPT := fun (W : World) (hW : Env W) => parseTag_no ⟨r.toArray⟩ (by have := strB_size r; unfold strB at this; omega) (fun u hu e => hd ⟨u, hu, e⟩) W hW
            have HPT := Lib.hid hPT
            clear h44 hPT hd
            go_wp2_with (first | (go_at_call 30; refine hCut.mono ?_; clear hCut; rintro e w' ⟨rfl, rfl⟩) | (go_at_call 38; refine (HPT.out _ HEr.out).mono ?_; rintro e w' ⟨rfl, hB1⟩))
            have hB2 : Below w.heap.size w w' := hB.trans (hB1.mono hB.size)
            go_ret2
            exact ⟨HN.out HF.out, hB2⟩

end Go.Proofs.YtpmolglmpgkcbaaDoor

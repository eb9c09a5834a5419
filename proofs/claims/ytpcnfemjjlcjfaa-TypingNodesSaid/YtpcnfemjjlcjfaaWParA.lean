/-
  The document's Args, Begin.
-/
import Derived.BigQuiet
import Derived.Deep.DeepCutAuto
import Derived.LoopTactic
import Derived.RangeFuncNested
import Derived.RangeFuncBound
import Derived.RangeFuncCalls
import Derived.RangeFuncLeaves
import Derived.RangeFuncBox
import Derived.RangeFuncWrites
import Derived.Shelf.Abstract
import Derived.Shelf.RegionOpen
import Derived.WalkKit
import Derived.OwnWalkIn
import Derived.TacticsInMore
import Derived.LoopNIn
import Derived.LoopIn
import Derived.Maps.AppendAt
import Derived.Test.YtpcnfemjjlcjfaaRows
import Derived.WalkSpells
import Derived.WalkLawsBesides
import Derived.Lib.Hide
import Derived.Deep.QuietTactic
import Derived.Outline
import Derived.Laws.BitsAllLaws
import Derived.Laws.ShiftsVarLaws
import Derived.Lib.TrailingZeros
import Derived.TacticsIn
import Derived.OwnWalk
import Derived.Laws.AppendOwnNone
import Derived.Lib.ItoaNum
import Derived.Lib.Join
import Derived.Lib.AtoiAll
import Derived.Lib.Bytealg
import Derived.Test.YtpcnfemjjlcjfaaWParR
import Derived.Test.YtpcnfemjjlcjfaaWLexM
import Derived.Test.YtpcnfemjjlcjfaaWSlcG
import Derived.Test.YtpcnfemjjlcjfaaWChain
import Derived.Test.YtpcnfemjjlcjfaaWRound
import Derived.Test.YtpcnfemjjlcjfaaWBlk
import Derived.Test.YtpcnfemjjlcjfaaWStage
/-! ParA -/
namespace Go.Proofs.Ytpcnfemjjlcjfaa
open Go.RowKit

/-- A node's cells. -/
def nodC (x : Qn) : Array Value := #[.int .i64 x.kind, .int .i64 x.n]
theorem nodC_size (x : Qn) : (nodC x).size = 2 := rfl
theorem nodC_one (x : Qn) : (nodC x).all (·.oneCell') = true := by simp [nodC, Value.oneCell']
abbrev NodesAt (w : World) (v : Value) (l : List Qn) : Prop := SlAt nodC 2 (fun _ => True) w v l
def argsC : Array Value := #[.int .i64 0, .int .i64 0, .int .i64 0, .int .i64 0, .int .i64 0, .int .i64 0, .int .i64 1, .int .i64 1, .int .i64 1, .int .i64 1, .int .i64 1, .int .i64 1, .int .i64 2, .int .i64 2, .int .i64 2, .int .i64 2]
theorem argsC_at : ∀ n : Fin 16, 0 < n.val → argsC[n.val]? = some (.int .i64 (argN (n.val : Int))) := by
  intro n hn
  have h : n.val = 1 ∨ n.val = 2 ∨ n.val = 3 ∨ n.val = 4 ∨ n.val = 5 ∨ n.val = 6 ∨ n.val = 7 ∨ n.val = 8 ∨ n.val = 9 ∨ n.val = 10 ∨ n.val = 11 ∨ n.val = 12 ∨ n.val = 13 ∨ n.val = 14 ∨ n.val = 15 := by omega
  rcases h with h | h | h | h | h | h | h | h | h | h | h | h | h | h | h <;> rw [h] <;> rfl
set_option maxRecDepth 100000 in
set_option maxHeartbeats 3200000 in
theorem rqArgs_any (k : Int) (w : World) : Calls Try.prog 22 #[.int .i64 k] w fun e w' => e = .returned (.int .i64 (argN k)) ∧ Below w.heap.size w w' := by
  by_cases h1 : k < 1
  · have d1 : decide (k < 1) = true := by simp; omega
    have ha : argN k = -1 := by unfold argN; rw [if_pos (.inl h1)]
    rw [ha]
    clear h1 ha
    go_enter Try.func22, Try.ntmps22
    go_wp2_with fail
    go_ret
    exact ⟨rfl, Below.refl _ _⟩
  · have d1 : decide (k < 1) = false := by simp; omega
    by_cases h2 : 15 < k
    · have d2 : decide (15 < k) = true := by simp; omega
      have ha : argN k = -1 := by unfold argN; rw [if_pos (.inr h2)]
      rw [ha]
      clear h1 h2 ha
      go_enter Try.func22, Try.ntmps22
      go_wp2_with fail
      go_ret
      exact ⟨rfl, Below.refl _ _⟩
    · have d2 : decide (15 < k) = false := by simp; omega
      have i0 : (0 : Int) ≤ k := by omega
      have i1 : k < 16 := by omega
      obtain ⟨n, rfl⟩ := Int.eq_ofNat_of_zero_le i0
      have HA := Lib.hid (show argsC[n]? = some (.int .i64 (argN (n : Int))) from argsC_at ⟨n, by omega⟩ (by show 0 < n; omega))
      clear h1 h2
      go_enter Try.func22, Try.ntmps22
      have hc : (w.alloc (.cells argsC 3)).cell? ⟨w.heap.size, n, none⟩ = some (.int .i64 (argN (n : Int))) := ((Blk.new w argsC 3).cell n).trans HA.out
      have HB := Lib.hid (belowNew w (.cells argsC 3))
      unfold argsC at hc HB
      go_wp2_with fail
      go_ret
      exact ⟨rfl, HB.out⟩
/-- So many arguments ahead. -/
def loopB (f : Nat) (l : List Qn) : Nat → Nat → Option Nat
  | 0, b => some b
  | r + 1, b => if b < 1 then none else match begF f l (b - 1) with
    | none => none
    | some c => loopB f l r c
theorem begF_loop (f : Nat) (l : List Qn) (i : Nat) : begF (f + 1) l i = loopB f l (argN (kindQ l i)).toNat i := by
  unfold begF
  rcases argN_cases (kindQ l i) with e | e | e | e
  · rw [e]; rfl
  · rw [e]; rfl
  · rw [e, if_pos rfl, show (1 : Int).toNat = 0 + 1 from rfl]
    unfold loopB
    split
    · rfl
    · cases begF f l (i - 1) <;> rfl
  · rw [e, if_neg (by decide), if_pos rfl, show (2 : Int).toNat = 0 + 1 + 1 from rfl]
    unfold loopB
    split
    · rfl
    · cases begF f l (i - 1) with
      | none => rfl
      | some a =>
        simp only
        unfold loopB
        split
        · rfl
        · cases begF f l (a - 1) <;> rfl
def begI : Option Nat → Int
  | none => -1
  | some b => (b : Int)
set_option maxRecDepth 100000 in
set_option maxHeartbeats 3200000 in
theorem rqBegin_any : ∀ (f : Nat) (l : List Qn) (i : Nat) (v : Value) (w : World), NodesAt w v l → i < l.length → l.length ≤ 1000 → i < f → Calls Try.prog 23 #[v, .int .i64 (i : Int)] w fun e w' => e = .returned (.int .i64 (begI (begF f l i))) ∧ Below w.heap.size w w'
  | 0, _, _, _, _, _, _, _, h => absurd h (by omega)
  | f + 1, l, i, v, w, hv, hi, h1000, hf => by
    have HI := Lib.hid (fun (c : Nat) (V : World) (hV : NodesAt V v l) (hc : c < l.length) (hcf : c < f) => rqBegin_any f l c v V hV hc h1000 hcf)
    rw [begF_loop]
    have hk := kindQ_at hi
    obtain ⟨g, off, cap, rfl, -, -, hg⟩ := hv.shape (by intro e; rw [e] at hi; cases hi)
    have HV := Lib.hid hv
    have HK := Lib.hid (fun V (hV : Below w.heap.size w V) => (show V.cell? ⟨g, off + i * 2, none⟩ = some (.int .i64 (kindQ l i)) from by rw [hk]; exact (hv.elem hi).2.below hV hg 0 _ rfl))
    have HAc := Lib.hid (argN_cases (kindQ l i))
    have HAr := Lib.hid (fun V => rqArgs_any (kindQ l i) V)
    generalize kindQ l i = kk at *
    generalize argN kk = A at *
    have HBd := Lib.hid (And.intro hi (And.intro h1000 hf))
    have i0 : (0 : Int) ≤ (i : Int) := by omega
    have i1 : (i : Int) < (l.length : Int) := by omega
    clear hv hg hk
    generalize hR : loopB f l A.toNat i = R at *
    have HR := Lib.hid hR
    clear hR hi h1000 hf
    go_enter Try.func23, Try.ntmps23
    go_wp2_with fail
    go_loopw [5, 6] (fun a k V => ∃ b j : Nat, a = .int .i64 (b : Int) ∧ k = .int .i64 (j : Int) ∧ j ≤ A.toNat ∧ b ≤ i ∧ loopB f l (A.toNat - j) b = R ∧ Below w.heap.size w V) (fun _ k _ => 3 - (intOf k).toNat)
    case atStart => exact ⟨i, 0, rfl, rfl, Nat.zero_le _, Nat.le_refl _, HR.out, Below.refl _ _⟩
    case round =>
      obtain ⟨b, j, rfl, rfl, hj, hb, hl, hB⟩ := hrel
      have HB := Lib.hid hB
      have k0 := HK.out wr hB
      clear hB
      by_cases hlt : j < A.toNat
      · have dj : decide ((j : Int) < A) = true := by
          have := HAc.out
          simp
          omega
        have hj1 : j ≤ 1 := by
          have := HAc.out
          omega
        have hwj : IntKind.i64.wrap ((j : Int) + 1) = (j : Int) + 1 := by rw [IntKind.wrap_i64]; omega
        have hlp : loopB f l (A.toNat - j) b = if b < 1 then none else match begF f l (b - 1) with
            | none => none
            | some c => loopB f l (A.toNat - (j + 1)) c := by
          rw [show A.toNat - j = (A.toNat - (j + 1)) + 1 by omega]
          rfl
        have HJ := Lib.hid (And.intro hlt hj1)
        by_cases hb1 : b < 1
        · have HE := Lib.hid (show R = none from by rw [← hl, hlp, if_pos hb1])
          have db : decide ((b : Int) < 1) = true := by simp; omega
          have db2 : decide (b < 1) = true := by simp; omega
          clear hlp hl hb hlt hj hj1 hb1
          go_wp2_with fail
          refine (HAr.out wr).mono ?_
          rintro e w2 ⟨rfl, hB2⟩
          have HB2 := Lib.hid (HB.out.trans (hB2.mono HB.out.size))
          clear hB2 k0
          go_wp2_with fail
          go_ret
          exact ⟨by rw [HE.out]; rfl, HB2.out⟩
        · obtain ⟨c0, rfl⟩ : ∃ c, b = c + 1 := ⟨b - 1, by omega⟩
          rw [if_neg hb1, Nat.add_sub_cancel] at hlp
          have HLp := Lib.hid (hl.symm.trans hlp)
          have HC := Lib.hid (show c0 < l.length ∧ c0 < f ∧ c0 + 1 ≤ i from by have := HBd.out; omega)
          have db : decide ((c0 : Int) + 1 < 1) = false := by simp; omega
          have hw1 : IntKind.i64.wrap ((c0 : Int) + 1 - 1) = (c0 : Int) := by have := HBd.out; rw [IntKind.wrap_i64]; omega
          have hw2 : IntKind.i64.wrap (c0 : Int) = (c0 : Int) := by have := HBd.out; rw [IntKind.wrap_i64]; omega
          clear hlp hl hb hlt hj hj1 hb1
          go_wp2_with fail
          refine (HAr.out wr).mono ?_
          rintro e w2 ⟨rfl, hB2⟩
          have HB2 := Lib.hid (HB.out.trans (hB2.mono HB.out.size))
          clear hB2 k0
          go_wp2_with fail
          refine (HI.out c0 w2 (HV.out.below HB2.out (Nat.le_refl _)) HC.out.1 HC.out.2.1).mono ?_
          rintro e w3 ⟨rfl, hB3⟩
          have HB3 := Lib.hid (HB2.out.trans (hB3.mono HB2.out.size))
          clear hB3 HB2
          cases hbg : begF f l c0 with
          | none =>
            have HE := Lib.hid (show R = none from by rw [HLp.out, hbg])
            have dn : decide (begI none < 0) = true := by decide
            unfold begI
            go_wp2_with fail
            go_ret
            exact ⟨by rw [HE.out]; rfl, HB3.out⟩
          | some c =>
            have HE := Lib.hid (show loopB f l (A.toNat - (j + 1)) c = R from by rw [HLp.out, hbg])
            have HCl := Lib.hid (begF_le _ _ _ _ hbg)
            have dn : decide ((c : Int) < 0) = false := by simp
            unfold begI
            go_wp2_with fail
            go_roundw
            case rel => exact ⟨c, j + 1, rfl, by go_num, HJ.out.1, by have := HC.out.2.2; have := HCl.out; omega, HE.out, HB3.out⟩
            case measure => have := HJ.out.2; simp [intOf]; omega
      · have HE := Lib.hid (show R = some b from by rw [← hl, show A.toNat - j = 0 by omega]; rfl)
        have dj : decide ((j : Int) < A) = false := by
          have := HAc.out
          simp
          omega
        clear hlt hl hj hb
        go_wp2_with fail
        refine (HAr.out wr).mono ?_
        rintro e w2 ⟨rfl, hB2⟩
        have HB2 := Lib.hid (HB.out.trans (hB2.mono HB.out.size))
        clear hB2 k0
        go_wp2_with fail
        go_ret
        exact ⟨by rw [HE.out]; rfl, HB2.out⟩
end Go.Proofs.Ytpcnfemjjlcjfaa

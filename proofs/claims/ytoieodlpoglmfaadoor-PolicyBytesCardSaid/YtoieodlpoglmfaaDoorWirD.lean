/-
  The program's Reader.
-/
import Derived.Test.YtoieodlpoglmfaaDoorWirW
import Derived.Laws.BitsLemmas
import Derived.IntWalk
import Derived.LoopTactic
namespace Go.Proofs.YtoieodlpoglmfaaDoor
open Go.RowKit

/-- The Reader at b holds s; its bytes lie in block g. -/
def RAt (w : World) (b : Nat) (t : TypeId) (g : Nat) (s : List UInt8 × Int) : Prop :=
  ∃ p n c, Blk w b #[.slice p n c, .int .i64 s.2] t ∧ BsAt w p n c s.1 ∧ ∀ a, p = some a → a.block = g
/-- From w to w' the Reader at b came to hold s. -/
def RTo (w : World) (b : Nat) (t : TypeId) (g : Nat) (s : List UInt8 × Int) (w' : World) : Prop := RAt w' b t g s ∧ Chg (fun k => k = b) w w'
theorem RAt.kept {S : Nat → Prop} {w w' : World} {b : Nat} {t : TypeId} {g : Nat} {s : List UInt8 × Int} (h : RAt w b t g s) (hc : Chg S w w') (hb : ¬ S b) (hg : ¬ S g) : RAt w' b t g s := by
  obtain ⟨p, n, c, h1, h2, h3⟩ := h
  exact ⟨p, n, c, hc.kept h1 hb, h2.chg hc fun a ha => by rw [h3 a ha]; exact hg, h3⟩
theorem RAt.below {B : Nat} {w w' : World} {b : Nat} {t : TypeId} {g : Nat} {s : List UInt8 × Int} (h : RAt w b t g s) (hB : Below B w w') (hs : w.heap.size ≤ B) : RAt w' b t g s :=
  h.kept (S := fun _ => False) ⟨hB.os, hB.tape, hB.output, hB.size, fun k hk _ => hB.block k (by omega)⟩ (fun h => h) (fun h => h)
theorem RTo.refl {w : World} {b : Nat} {t : TypeId} {g : Nat} {s : List UInt8 × Int} (h : RAt w b t g s) : RTo w b t g s w := ⟨h, Chg.refl _ _⟩
theorem RTo.trans {w w' w'' : World} {b : Nat} {t : TypeId} {g : Nat} {s s' : List UInt8 × Int} (h : RTo w b t g s w') (k : RTo w' b t g s' w'') : RTo w b t g s' w'' := ⟨k.1, h.2.trans k.2⟩
theorem RTo.drew {w w' : World} {b : Nat} {t : TypeId} {g : Nat} {s : List UInt8 × Int} (h : RTo w b t g s w') : RTo w b t g s w'.drew := by
  obtain ⟨⟨p, n, c, h1, h2, h3⟩, h4⟩ := h
  exact ⟨⟨p, n, c, h1, h2.drew, h3⟩, h4.drew⟩
/-- A slice in block g that reads as l. -/
def BsIn (w : World) (g : Nat) (l : List UInt8) (v : Value) : Prop := ∃ p n c, v = .slice p n c ∧ BsAt w p n c l ∧ ∀ a, p = some a → a.block = g
def TakeIs (w : World) (b : Nat) (t : TypeId) (g : Nat) (T : List UInt8) (S : List UInt8 × Int) (e : Ending) (w' : World) : Prop := ∃ v, e = .returned v ∧ BsIn w' g T v ∧ RTo w b t g S w'

set_option maxHeartbeats 800000 in
theorem take_any (b : Nat) (t : TypeId) (g : Nat) (s : List UInt8 × Int) (n : Nat) (w : World) (h : RAt w b t g s) (hg : g ≠ b) (hsm : s.1.length ≤ 1000000) :
    Calls Tryd.prog 80 #[.pointer (some ⟨b, 0, none⟩), .int .i64 (n : Int)] w (TakeIs w b t g (tookS s n) (takeS s n)) := by
  obtain ⟨p, len, cap, hb, hs, hp⟩ := h
  have hl := hs.same
  obtain ⟨l, e⟩ := s
  simp only at hl hs hb hsm
  subst hl
  have c0 : w.cell? ⟨b, 0, none⟩ = some (.slice p l.length cap) := hb.cell 0
  have f0 := hb.free 0
  have HB := Lib.hid hb
  have HS := Lib.hid hs
  have HP := Lib.hid hp
  have hcap := hs.le
  clear hb hs hp
  by_cases hlt : l.length < n
  · have e1 : takeS (l, e) n = failS (l, e) 4 := by unfold takeS; rw [if_pos hlt]
    have e2 : tookS (l, e) n = [] := by unfold tookS; rw [if_pos hlt]
    have HE := Lib.hid (And.intro e1 e2)
    clear e1 e2
    go_enter Tryd.func80, Tryd.ntmps80
    go_wp2_with fail
    refine (wfail_any b t _ e 4 _ HB.out).mono ?_
    rintro e' w' ⟨rfl, hP⟩
    have HP2 := Lib.hid hP
    clear hP
    go_wp2_with fail
    go_ret
    refine ⟨_, rfl, ⟨none, 0, 0, rfl, by rw [HE.out.2]; exact bsAt_nil _, fun _ h => by cases h⟩, ?_, HP2.out.chg⟩
    rw [HE.out.1]
    have hk := HP2.out.blk
    unfold failV failE at hk
    unfold failS
    by_cases hc : e = 0 ∧ (4 : Int) ≠ 0
    · rw [if_pos hc] at hk ⊢
      rw [if_pos hc] at hk
      exact ⟨none, 0, 0, hk, bsAt_nil _, fun _ h => by cases h⟩
    · rw [if_neg hc] at hk ⊢
      rw [if_neg hc] at hk
      exact ⟨p, l.length, cap, hk, HS.out.chg HP2.out.chg (fun a ha => by rw [HP.out a ha]; exact hg), HP.out⟩
  · have e1 : takeS (l, e) n = (l.drop n, e) := by unfold takeS; rw [if_neg hlt]
    have e2 : tookS (l, e) n = l.take n := by unfold tookS; rw [if_neg hlt]
    have HE := Lib.hid (And.intro e1 e2)
    have u1 := fun V => run_upto V p l.length cap n (by omega)
    have u2 := fun V => run_from V p l.length cap n (by omega)
    obtain ⟨q, hq⟩ : ∃ q, q = (if cap = n then p else p.map (·.add n)) := ⟨_, rfl⟩
    rw [← hq] at u2
    have HQ := Lib.hid hq
    clear e1 e2 hq
    go_enter Tryd.func80, Tryd.ntmps80
    go_wp2_with fail
    go_ret
    have hP := (Put.refl HB.out).set 0 (.slice q (l.length - n) (cap - n))
    have hS' := HS.out.chg hP.chg (fun a ha => by rw [HP.out a ha]; exact hg)
    refine ⟨_, rfl, ⟨p, n, cap, rfl, by rw [HE.out.2]; exact bs_take hS' (by omega), HP.out⟩, ?_, hP.chg⟩
    rw [HE.out.1]
    have hd := bs_drop (n := n) hS' (by omega)
    have hd2 := drop_block (cap := cap) (n := n) HP.out
    rw [← HQ.out] at hd hd2
    exact ⟨q, _, _, hP.blk, hd, hd2⟩

theorem shl_byte (a x : Nat) (ha : a < 4294967296) (hx : x < 256) : bits .or .i64 ((a : Int) * 256) (x : Int) = ((256 * a + x : Nat) : Int) := by
  rw [bits_join .i64 62 (by decide) (fun n h1 h2 => IntWalk.i64_in n (by omega)) 8 ((a : Int) * 256) (x : Int) (by omega) (by omega) (by omega) (by omega) (by omega) (by omega)]
  omega

def DNumIs (w : World) (b : Nat) (t : TypeId) (g : Nat) (r : Int × (List UInt8 × Int)) (e : Ending) (w' : World) : Prop := e = .returned (.int .i64 r.1) ∧ RTo w b t g r.2 w'
/-- What fail makes of a Reader. -/
theorem RAt.fail {w w' : World} {b : Nat} {t : TypeId} {g : Nat} {s : List UInt8 × Int} {c : Int} {p : Option Addr} {n cap : Nat} (hs : BsAt w p n cap s.1) (hp : ∀ a, p = some a → a.block = g) (hg : g ≠ b) (h : Put w w' b #[failV (.slice p n cap) s.2 c, .int .i64 (failE s.2 c)] t) : RTo w b t g (failS s c) w' := by
  refine ⟨?_, h.chg⟩
  have hk := h.blk
  unfold failV failE at hk
  unfold failS
  by_cases hc : s.2 = 0 ∧ c ≠ 0
  · rw [if_pos hc] at hk ⊢
    rw [if_pos hc] at hk
    exact ⟨none, 0, 0, hk, bsAt_nil _, fun _ h => by cases h⟩
  · rw [if_neg hc] at hk ⊢
    rw [if_neg hc] at hk
    exact ⟨p, n, cap, hk, hs.chg h.chg (fun a ha => by rw [hp a ha]; exact hg), hp⟩

set_option maxHeartbeats 1600000 in
theorem rdnum_ok (b : Nat) (t : TypeId) (g : Nat) (s : List UInt8 × Int) (k : Nat) (most : Int) (w : World) (h : RAt w b t g s) (hg : g ≠ b) (hsm : s.1.length ≤ 1000000) (hk : k ≤ 4) (hz : sizedB k = true) :
    Calls Tryd.prog 61 #[.pointer (some ⟨b, 0, none⟩), .int .i64 (k : Int), .int .i64 most] w (DNumIs w b t g (dNum s k most)) := by
  have hs := fun V => wsized_any (k : Int) V
  rw [hz] at hs
  have HS := Lib.hid hs
  have HT := Lib.hid (take_any b t g s k w h hg hsm)
  have HL := Lib.hid (show (tookS s k).length ≤ 4 from Nat.le_trans (tookS_le s k) hk)
  have hD : dNum s k most = if most < (valB (tookS s k) : Int) then (0, failS (takeS s k) 8) else ((valB (tookS s k) : Int), takeS s k) := by
    unfold dNum; rw [hz]; simp
  have HD := Lib.hid hD
  have HG := Lib.hid hg
  generalize dNum s k most = D at *
  generalize takeS s k = S at *
  generalize tookS s k = T at *
  clear hs h hz hD hsm hg
  go_enter Tryd.func61, Tryd.ntmps61
  go_wp2_with fail
  refine (HS.out _).mono ?_
  rintro e w' ⟨rfl, rfl⟩
  go_wp2_with fail
  refine HT.out.mono ?_
  rintro e w1 ⟨v, rfl, ⟨p, len, cap, rfl, hb, hp⟩, hR⟩
  have hlen := hb.same
  subst hlen
  have HB := Lib.hid hb
  have HR := Lib.hid hR
  have hl4 := HL.out
  clear hb hp hR HT
  go_wp2_with fail
  go_loop [7, 25] (fun n i => ∃ j : Nat, j ≤ T.length ∧ i = .int .i64 j ∧ n = .int .i64 (valB (T.take j) : Nat)) (fun _ i => T.length - (intOf i).toNat)
  case atStart => exact ⟨0, Nat.zero_le _, rfl, by simp [valB]⟩
  case round =>
    obtain ⟨j, hj, rfl, rfl⟩ := hrel
    by_cases hlt : j < T.length
    · obtain ⟨g', off, rfl, hc⟩ : ∃ g' off, p = some ⟨g', off, none⟩ ∧ w1.cell? ⟨g', off + j, none⟩ = some (.int .u8 (T[j].toNat : Int)) := by
        rcases HB.out.place with ⟨-, h2⟩ | ⟨h2, -⟩ | ⟨g', off, rfl, -, h3⟩
        · have := HB.out.le; omega
        · rw [h2] at hlt; simp at hlt
        · exact ⟨g', off, rfl, h3 j hlt⟩
      have hvs := valB_small (T.take j) (by simp; omega)
      have hx : T[j].toNat < 256 := T[j].toNat_lt
      have HN := Lib.hid (valB_take_succ T j hlt)
      have HO := Lib.hid (shl_byte _ _ hvs hx)
      generalize valB (T.take j) = a at *
      generalize T[j].toNat = x at *
      go_wp2
      go_round
      case rel => exact ⟨j + 1, by omega, by go_num, by rw [HO.out, HN.out]⟩
      case measure => simp [intOf]; omega
    · have hT : T.take j = T := List.take_of_length_le (by omega)
      rw [hT]
      have hvs := valB_small T (by omega)
      generalize valB T = a at *
      obtain ⟨⟨p2, n2, c2, hb2, hs2, hp2⟩, hch⟩ := HR.out
      have HB2 := Lib.hid hb2
      have HS2 := Lib.hid hs2
      have HP2 := Lib.hid hp2
      clear hb2 hs2 hp2 hch hT
      by_cases hm : most < (a : Int)
      · have hD := HD.out
        rw [if_pos hm] at hD
        have HD2 := Lib.hid hD
        clear hD HD
        go_wp2_with fail
        refine (wfail_any b t _ S.2 8 _ HB2.out).mono ?_
        rintro e' w' ⟨rfl, hP⟩
        have HP3 := Lib.hid hP
        clear hP
        go_wp2_with fail
        go_ret
        refine ⟨by rw [HD2.out]; rfl, ?_⟩
        rw [HD2.out]
        exact HR.out.trans (RAt.fail HS2.out HP2.out HG.out HP3.out)
      · have hD := HD.out
        rw [if_neg hm] at hD
        have HD2 := Lib.hid hD
        clear hD HD
        go_wp2_with fail
        go_ret
        refine ⟨by rw [HD2.out]; rfl, ?_⟩
        rw [HD2.out]
        exact HR.out

set_option maxHeartbeats 800000 in
theorem rdnum_size (b : Nat) (t : TypeId) (g : Nat) (s : List UInt8 × Int) (size most : Int) (w : World) (h : RAt w b t g s) (hg : g ≠ b) (hz : sizedB size = false) :
    Calls Tryd.prog 61 #[.pointer (some ⟨b, 0, none⟩), .int .i64 size, .int .i64 most] w (DNumIs w b t g (0, failS s 8)) := by
  have hs := fun V => wsized_any size V
  rw [hz] at hs
  have HS := Lib.hid hs
  obtain ⟨p, n, c, hb, hs2, hp⟩ := h
  have HB := Lib.hid hb
  have HS2 := Lib.hid hs2
  have HP := Lib.hid hp
  clear hs hb hs2 hp hz
  go_enter Tryd.func61, Tryd.ntmps61
  go_wp2_with fail
  refine (HS.out _).mono ?_
  rintro e w' ⟨rfl, rfl⟩
  go_wp2_with fail
  refine (wfail_any b t _ s.2 8 _ HB.out).mono ?_
  rintro e w' ⟨rfl, hP⟩
  have HP3 := Lib.hid hP
  clear hP
  go_wp2_with fail
  go_ret
  exact ⟨rfl, RAt.fail HS2.out HP.out hg HP3.out⟩

theorem rdnum_any (b : Nat) (t : TypeId) (g : Nat) (s : List UInt8 × Int) (size most : Int) (w : World) (h : RAt w b t g s) (hg : g ≠ b) (hsm : s.1.length ≤ 1000000) :
    Calls Tryd.prog 61 #[.pointer (some ⟨b, 0, none⟩), .int .i64 size, .int .i64 most] w (DNumIs w b t g (dNum s size most)) := by
  cases hz : sizedB size with
  | false =>
    rw [show dNum s size most = (0, failS s 8) by unfold dNum; rw [hz]; rfl]
    exact rdnum_size b t g s size most w h hg hz
  | true =>
    have hz' := hz
    simp only [sizedB, Bool.and_eq_true, decide_eq_true_eq] at hz'
    obtain ⟨k, rfl⟩ := Int.eq_ofNat_of_zero_le (show 0 ≤ size by omega)
    exact rdnum_ok b t g s k most w h hg hsm (by omega) hz

end Go.Proofs.YtoieodlpoglmfaaDoor

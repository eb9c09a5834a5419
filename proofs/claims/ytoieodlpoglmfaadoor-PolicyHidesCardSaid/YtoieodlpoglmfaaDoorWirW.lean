/-
  The program's Writer: what it refuses, strings, Done; slices.Clone; NewReader.
-/
import Derived.Test.YtoieodlpoglmfaaDoorWirA
import Derived.Test.YtoieodlpoglmfaaDoorLate
import Derived.WalkSpells
import Derived.Lib.SliceRun
import Derived.Lib.ConvBytes
namespace Go.Proofs.YtoieodlpoglmfaaDoor
open Go.RowKit

theorem WAt.refused {B : Nat} {w w1 : World} {b : Nat} {t : TypeId} {v : Value} {s : List UInt8 × Int} {c : Int} (h : WAt 5 B w b t v s) (hp : Put w w1 b #[failV v s.2 c, .int .i64 (failE s.2 c)] t) : WNow B w b t v (failS s c) w1 := ⟨_, h.fail hp⟩

set_option maxHeartbeats 800000 in
theorem wnum_size (B b : Nat) (t : TypeId) (v : Value) (s : List UInt8 × Int) (n size : Int) (w : World) (h : WAt 5 B w b t v s) (hz : sizedB size = false) :
    Calls Tryd.prog 57 #[.pointer (some ⟨b, 0, none⟩), .int .i64 n, .int .i64 size] w fun en w' => en = .returned (.tuple #[]) ∧ WNow B w b t v (failS s 8) w' := by
  have hs := fun V => wsized_any size V
  rw [hz] at hs
  have HS := Lib.hid hs
  have HH := Lib.hid h
  clear hs hz h
  go_enter Tryd.func57, Tryd.ntmps57
  go_wp2_with fail
  refine (HS.out _).mono ?_
  rintro e w' ⟨rfl, rfl⟩
  go_wp2_with fail
  refine (wfail_any b t v s.2 8 _ HH.out.blk).mono ?_
  rintro e w' ⟨rfl, hP⟩
  go_wp2_with fail
  refine bodyPost_ret (results_none rfl _ _ _) rfl ?_
  exact ⟨rfl, HH.out.refused hP⟩

set_option maxHeartbeats 800000 in
theorem wnum_no1 (B b : Nat) (t : TypeId) (v : Value) (s : List UInt8 × Int) (n : Int) (w : World) (h : WAt 5 B w b t v s) (hn : n < 0 ∨ 256 ≤ n) :
    Calls Tryd.prog 57 #[.pointer (some ⟨b, 0, none⟩), .int .i64 n, .int .i64 1] w fun en w' => en = .returned (.tuple #[]) ∧ WNow B w b t v (failS s 8) w' := by
  have hs := fun V => wsized_any 1 V
  rw [show sizedB 1 = true from rfl] at hs
  have HS := Lib.hid hs
  have HH := Lib.hid h
  have b1 : (n / 256 != 0) = true := by simp; omega
  clear hs h hn
  go_enter Tryd.func57, Tryd.ntmps57
  go_wp2_with fail
  refine (HS.out _).mono ?_
  rintro e w' ⟨rfl, rfl⟩
  go_wp2_with fail
  refine (wfail_any b t v s.2 8 _ HH.out.blk).mono ?_
  rintro e w' ⟨rfl, hP⟩
  go_wp2_with fail
  refine bodyPost_ret (results_none rfl _ _ _) rfl ?_
  exact ⟨rfl, HH.out.refused hP⟩

set_option maxHeartbeats 800000 in
theorem wnum_no2 (B b : Nat) (t : TypeId) (v : Value) (s : List UInt8 × Int) (n : Int) (w : World) (h : WAt 5 B w b t v s) (hn : n < 0 ∨ 65536 ≤ n) :
    Calls Tryd.prog 57 #[.pointer (some ⟨b, 0, none⟩), .int .i64 n, .int .i64 2] w fun en w' => en = .returned (.tuple #[]) ∧ WNow B w b t v (failS s 8) w' := by
  have hs := fun V => wsized_any 2 V
  rw [show sizedB 2 = true from rfl] at hs
  have HS := Lib.hid hs
  have HH := Lib.hid h
  have b1 : (n / 65536 != 0) = true := by simp; omega
  clear hs h hn
  go_enter Tryd.func57, Tryd.ntmps57
  go_wp2_with fail
  refine (HS.out _).mono ?_
  rintro e w' ⟨rfl, rfl⟩
  go_wp2_with fail
  refine (wfail_any b t v s.2 8 _ HH.out.blk).mono ?_
  rintro e w' ⟨rfl, hP⟩
  go_wp2_with fail
  refine bodyPost_ret (results_none rfl _ _ _) rfl ?_
  exact ⟨rfl, HH.out.refused hP⟩

set_option maxHeartbeats 800000 in
theorem wnum_no3 (B b : Nat) (t : TypeId) (v : Value) (s : List UInt8 × Int) (n : Int) (w : World) (h : WAt 5 B w b t v s) (hn : n < 0 ∨ 16777216 ≤ n) :
    Calls Tryd.prog 57 #[.pointer (some ⟨b, 0, none⟩), .int .i64 n, .int .i64 3] w fun en w' => en = .returned (.tuple #[]) ∧ WNow B w b t v (failS s 8) w' := by
  have hs := fun V => wsized_any 3 V
  rw [show sizedB 3 = true from rfl] at hs
  have HS := Lib.hid hs
  have HH := Lib.hid h
  have b1 : (n / 16777216 != 0) = true := by simp; omega
  clear hs h hn
  go_enter Tryd.func57, Tryd.ntmps57
  go_wp2_with fail
  refine (HS.out _).mono ?_
  rintro e w' ⟨rfl, rfl⟩
  go_wp2_with fail
  refine (wfail_any b t v s.2 8 _ HH.out.blk).mono ?_
  rintro e w' ⟨rfl, hP⟩
  go_wp2_with fail
  refine bodyPost_ret (results_none rfl _ _ _) rfl ?_
  exact ⟨rfl, HH.out.refused hP⟩

set_option maxHeartbeats 800000 in
theorem wnum_no4 (B b : Nat) (t : TypeId) (v : Value) (s : List UInt8 × Int) (n : Int) (w : World) (h : WAt 5 B w b t v s) (hn : n < 0 ∨ 4294967296 ≤ n) :
    Calls Tryd.prog 57 #[.pointer (some ⟨b, 0, none⟩), .int .i64 n, .int .i64 4] w fun en w' => en = .returned (.tuple #[]) ∧ WNow B w b t v (failS s 8) w' := by
  have hs := fun V => wsized_any 4 V
  rw [show sizedB 4 = true from rfl] at hs
  have HS := Lib.hid hs
  have HH := Lib.hid h
  have b1 : (n / 4294967296 != 0) = true := by simp; omega
  clear hs h hn
  go_enter Tryd.func57, Tryd.ntmps57
  go_wp2_with fail
  refine (HS.out _).mono ?_
  rintro e w' ⟨rfl, rfl⟩
  go_wp2_with fail
  refine (wfail_any b t v s.2 8 _ HH.out.blk).mono ?_
  rintro e w' ⟨rfl, hP⟩
  go_wp2_with fail
  refine bodyPost_ret (results_none rfl _ _ _) rfl ?_
  exact ⟨rfl, HH.out.refused hP⟩

theorem wnum_any (B b : Nat) (t : TypeId) (v : Value) (s : List UInt8 × Int) (n size : Int) (w : World) (h : WAt 5 B w b t v s) (hB : B ≤ w.heap.size) (hsm : s.1.length ≤ 900000) :
    Calls Tryd.prog 57 #[.pointer (some ⟨b, 0, none⟩), .int .i64 n, .int .i64 size] w fun en w' => en = .returned (.tuple #[]) ∧ WNow B w b t v (wNum s n size) w' := by
  cases hz : sizedB size with
  | false =>
    rw [show wNum s n size = failS s 8 by unfold wNum okN; rw [hz]; rfl]
    exact wnum_size B b t v s n size w h hz
  | true =>
    have hz' := hz
    simp only [sizedB, Bool.and_eq_true, decide_eq_true_eq] at hz'
    have hc : size = 1 ∨ size = 2 ∨ size = 3 ∨ size = 4 := by omega
    by_cases hn : 0 ≤ n ∧ n < 256 ^ size.toNat
    · have ho : okN n size = true := by unfold okN; rw [hz]; simp [hn]
      rw [show wNum s n size = addS s (be n.toNat size.toNat) by unfold wNum; rw [ho]; rfl]
      obtain ⟨k, rfl⟩ := Int.eq_ofNat_of_zero_le hn.1
      rcases hc with rfl | rfl | rfl | rfl
      · exact wnum_ok1 B b t v s k w h hB hsm (by have := hn.2; simp at this; omega)
      · exact wnum_ok2 B b t v s k w h hB hsm (by have := hn.2; simp at this; omega)
      · exact wnum_ok3 B b t v s k w h hB hsm (by have := hn.2; simp at this; omega)
      · exact wnum_ok4 B b t v s k w h hB hsm (by have := hn.2; simp at this; omega)
    · have ho : okN n size = false := by
        cases hk : okN n size with
        | false => rfl
        | true => exact absurd (okN_iff.1 hk).2.2 (fun x => hn ⟨x.1, x.2⟩)
      rw [show wNum s n size = failS s 8 by unfold wNum; rw [ho]; rfl]
      rcases hc with rfl | rfl | rfl | rfl
      · exact wnum_no1 B b t v s n w h (by simp at hn; omega)
      · exact wnum_no2 B b t v s n w h (by simp at hn; omega)
      · exact wnum_no3 B b t v s n w h (by simp at hn; omega)
      · exact wnum_no4 B b t v s n w h (by simp at hn; omega)

/-- A slice that reads as l, in memory that was not there in w. -/
def BsNew (w : World) (l : List UInt8) (v : Value) (w' : World) : Prop := ∃ p n c, v = .slice p n c ∧ BsAt w' p n c l ∧ ∀ a, p = some a → w.heap.size ≤ a.block ∧ a.block < w'.heap.size
def CloneIs (w : World) (l : List UInt8) (e : Ending) (w' : World) : Prop := ∃ v, e = .returned v ∧ BsNew w l v w' ∧ Below w.heap.size w w'

set_option maxHeartbeats 800000 in
theorem clone_any (p : Option Addr) (len cap : Nat) (l : List UInt8) (w : World) (h : BsAt w p len cap l) (hsm : l.length ≤ 1000000) :
    Calls Tryd.prog 59 #[.slice p len cap] w (CloneIs w l) := by
  have hnil := fun (V : World) => Lib.run_eql_slice_nil (P := Tryd.prog) V 48 5 p len cap 0 0 Tryd.underlying48
  have HH := Lib.hid h
  have hle : l.length ≤ 140737488355328 := by omega
  cases p with
  | none =>
    have hl : l = [] := by
      rcases h.place with ⟨-, hc⟩ | ⟨hl, -⟩ | ⟨g, off, hp, -⟩
      · have := h.le; have := h.same; exact List.eq_nil_of_length_eq_zero (by omega)
      · exact hl
      · cases hp
    have HL := Lib.hid hl
    clear h hsm hl
    go_enter Tryd.func59, Tryd.ntmps59
    go_wp2_with fail
    go_ret
    exact ⟨_, rfl, ⟨_, _, _, rfl, by rw [HL.out]; exact bsAt_nil w, fun _ h => by cases h⟩, Below.refl _ _⟩
  | some a =>
    have hb2 := (h.below (belowNew w (.cells #[] 5)) (Nat.le_refl _))
    have hown : (w.alloc (.cells #[] 5)).ownsRow w.heap.size 5 1 (.slice (some ⟨w.heap.size, 0, none⟩) 0 0) ([] : List UInt8).length (bvs []) := World.ownsRow_lit w #[] 0 (Nat.le_refl _) (by decide) rfl
    have HB2 := Lib.hid hb2
    clear h hsm hb2
    go_enter Tryd.func59, Tryd.ntmps59
    go_wp2_with (at_builtin; refine wpList_append_bytes rfl _ _ 48 rfl w.heap.size 5 Tryd.underlying48 infoU8 rfl hown rfl HB2.out (by simpa using hle) (by simp) ?_; intro p1 n1 c1' w1 hrow1 hg1 hn1; have HR := Lib.hid hrow1; have HG := Lib.hid hg1; clear hrow1 hg1 hn1 hown)
    go_ret
    obtain ⟨p2, c2, hp2, hb2⟩ := BsAt.ofRow HR.out
    refine ⟨_, rfl, ⟨_, _, _, hp2, by rw [List.nil_append] at hb2; simpa using hb2, fun a ha => ?_⟩, ((belowNew w _).grown HG.out (by simp) (fun k hk => by cases hk; exact Nat.le_refl _))⟩
    rw [hp2, ha] at HR
    exact HR.out.lt a.block rfl

set_option maxHeartbeats 800000 in
theorem newReader_any (p : Option Addr) (len cap : Nat) (l : List UInt8) (w : World) (h : BsAt w p len cap l) (hsm : l.length ≤ 1000000) :
    Calls Tryd.prog 27 #[.slice p len cap] w fun e w' => ∃ b v, e = .returned (.pointer (some ⟨b, 0, none⟩)) ∧ w.heap.size ≤ b ∧ Blk w' b #[v, .int .i64 0] 90 ∧ BsNew w l v w' ∧ (∀ k, v.ownBlock = some k → k ≠ b) ∧ Below w.heap.size w w' := by
  have HH := Lib.hid h
  have HC := Lib.hid (clone_any p len cap l w h hsm)
  clear h hsm
  go_enter Tryd.func27, Tryd.ntmps27
  go_wp2_with fail
  refine HC.out.mono ?_
  rintro e w1 ⟨v, rfl, ⟨p1, n1, c1', rfl, hb1, hp1⟩, hB1⟩
  have HB1 := Lib.hid hB1
  have HS1 := Lib.hid hb1
  have HP1 := Lib.hid hp1
  clear hB1 hb1 hp1
  go_wp2_with fail
  go_ret
  refine ⟨w1.heap.size, _, rfl, HB1.out.size, Blk.new w1 _ _, ⟨p1, n1, c1', rfl, HS1.out.below (belowNew w1 _) (Nat.le_refl _), fun a ha => ⟨(HP1.out a ha).1, Nat.lt_of_lt_of_le (HP1.out a ha).2 (belowNew w1 _).size⟩⟩, fun k hk => ?_, HB1.out.trans ((belowNew w1 _).mono HB1.out.size)⟩
  cases p1 with
  | none => cases hk
  | some a =>
    have h1 := (HP1.out a rfl).2
    simp [Value.ownBlock] at hk
    omega

end Go.Proofs.YtoieodlpoglmfaaDoor

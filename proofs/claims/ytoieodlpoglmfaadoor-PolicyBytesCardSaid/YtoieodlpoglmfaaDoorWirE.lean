/-
  The rest of the program's Reader; Writer.Done; nil receivers.
-/
import Derived.Test.YtoieodlpoglmfaaDoorWirD
import Derived.Test.YtoieodlpoglmfaaDoorStage
namespace Go.Proofs.YtoieodlpoglmfaaDoor
open Go.RowKit

theorem takeS_le (s : WSt) (n : Nat) : (takeS s n).1.length ≤ s.1.length := by
  unfold takeS; split
  · exact fail_le s 4
  · simp
theorem dNum_le (s : WSt) (size most : Int) : (dNum s size most).2.1.length ≤ s.1.length := by
  unfold dNum; split
  · split
    · exact Nat.le_trans (fail_le _ _) (takeS_le _ _)
    · exact takeS_le _ _
  · exact fail_le _ _
theorem dNum_nonneg (s : WSt) (size most : Int) : 0 ≤ (dNum s size most).1 := by
  unfold dNum; split
  · split
    · exact Int.le_refl _
    · exact Int.natCast_nonneg _
  · exact Int.le_refl _
theorem dText_le (s : WSt) (most : Int) : (dText s most).2.1.length ≤ s.1.length := by
  unfold dText; split
  · exact Nat.le_trans (fail_le _ _) (dNum_le _ _ _)
  · exact Nat.le_trans (takeS_le _ _) (dNum_le _ _ _)

def DTextIs (w : World) (b : Nat) (t : TypeId) (g : Nat) (r : List UInt8 × (List UInt8 × Int)) (e : Ending) (w' : World) : Prop := e = .returned (.string ⟨r.1.toArray⟩) ∧ RTo w b t g r.2 w'
set_option maxHeartbeats 400000 in
theorem rdleft_any (b : Nat) (t : TypeId) (g : Nat) (s : List UInt8 × Int) (w : World) (h : RAt w b t g s) :
    Calls Tryd.prog 32 #[.pointer (some ⟨b, 0, none⟩)] w fun e w' => e = .returned (.int .i64 (s.1.length : Nat)) ∧ w = w' := by
  obtain ⟨p, len, cap, hb, hs, -⟩ := h
  have hl := hs.same
  subst hl
  have c0 : w.cell? ⟨b, 0, none⟩ = some (.slice p s.1.length cap) := hb.cell 0
  clear hb hs
  go_enter Tryd.func32, Tryd.ntmps32
  go_wp2_with fail
  go_ret
  exact ⟨rfl, rfl⟩
set_option maxHeartbeats 400000 in
theorem rderr_any (b : Nat) (t : TypeId) (g : Nat) (s : List UInt8 × Int) (w : World) (h : RAt w b t g s) :
    Calls Tryd.prog 31 #[.pointer (some ⟨b, 0, none⟩)] w fun e w' => e = .returned (.int .i64 s.2) ∧ w = w' := by
  obtain ⟨p, len, cap, hb, hs, -⟩ := h
  have c1 : w.cell? ⟨b, 1, none⟩ = some (.int .i64 s.2) := hb.cell 1
  clear hb hs
  go_enter Tryd.func31, Tryd.ntmps31
  go_wp2_with fail
  go_ret
  exact ⟨rfl, rfl⟩
set_option maxHeartbeats 400000 in
theorem rdfail_any (b : Nat) (t : TypeId) (g : Nat) (s : List UInt8 × Int) (c : Int) (w : World) (h : RAt w b t g s) (hg : g ≠ b) :
    Calls Tryd.prog 62 #[.pointer (some ⟨b, 0, none⟩), .int .i64 c] w fun e w' => e = .returned (.tuple #[]) ∧ RTo w b t g (failS s c) w' := by
  obtain ⟨p, len, cap, hb, hs, hp⟩ := h
  have HB := Lib.hid hb
  have HS := Lib.hid hs
  have HP := Lib.hid hp
  clear hb hs hp
  go_enter Tryd.func62, Tryd.ntmps62
  go_wp2_with fail
  refine (wfail_any b t _ s.2 c _ HB.out).mono ?_
  rintro e' w' ⟨rfl, hP⟩
  have HP3 := Lib.hid hP
  clear hP
  go_wp2_with fail
  go_end0
  exact ⟨rfl, RAt.fail HS.out HP.out hg HP3.out⟩

/-! Nil receivers. -/
set_option maxHeartbeats 400000 in
theorem nilWNum (n size : Int) (w : World) : Calls Tryd.prog 57 #[.pointer none, .int .i64 n, .int .i64 size] w fun e w' => e = .returned (.tuple #[]) ∧ w = w' := by
  go_enter Tryd.func57, Tryd.ntmps57
  go_wp2_with fail
  refine bodyPost_ret (results_none rfl _ _ _) rfl ?_
  exact ⟨rfl, rfl⟩
set_option maxHeartbeats 400000 in
theorem nilWDone (w : World) : Calls Tryd.prog 58 #[.pointer none] w fun e w' => e = .returned (.tuple #[.slice none 0 0, .int .i64 2]) ∧ w = w' := by
  go_enter Tryd.func58, Tryd.ntmps58
  go_wp2_with fail
  go_ret2
  exact ⟨rfl, rfl⟩
set_option maxHeartbeats 400000 in
theorem nilRNum (size most : Int) (w : World) : Calls Tryd.prog 61 #[.pointer none, .int .i64 size, .int .i64 most] w fun e w' => e = .returned (.int .i64 0) ∧ w = w' := by
  go_enter Tryd.func61, Tryd.ntmps61
  go_wp2_with fail
  go_ret
  exact ⟨rfl, rfl⟩
set_option maxHeartbeats 400000 in
theorem nilRLeft (w : World) : Calls Tryd.prog 32 #[.pointer none] w fun e w' => e = .returned (.int .i64 0) ∧ w = w' := by
  go_enter Tryd.func32, Tryd.ntmps32
  go_wp2_with fail
  go_ret
  exact ⟨rfl, rfl⟩
set_option maxHeartbeats 400000 in
theorem nilRFail (c : Int) (w : World) : Calls Tryd.prog 62 #[.pointer none, .int .i64 c] w fun e w' => e = .returned (.tuple #[]) ∧ w = w' := by
  go_enter Tryd.func62, Tryd.ntmps62
  go_wp2_with fail
  go_end0
  exact ⟨rfl, rfl⟩
set_option maxHeartbeats 400000 in
theorem nilRErr (w : World) : Calls Tryd.prog 31 #[.pointer none] w fun e w' => e = .returned (.int .i64 2) ∧ w = w' := by
  go_enter Tryd.func31, Tryd.ntmps31
  go_wp2_with fail
  go_ret
  exact ⟨rfl, rfl⟩

/-! Writer.Done. -/
theorem BsNew.older {w V w' : World} {l : List UInt8} {v : Value} (h : BsNew V l v w') (hs : w.heap.size ≤ V.heap.size) : BsNew w l v w' := by
  obtain ⟨p, n, c, h1, h2, h3⟩ := h
  exact ⟨p, n, c, h1, h2, fun a ha => ⟨Nat.le_trans hs (h3 a ha).1, (h3 a ha).2⟩⟩
def bsFact (w : World) (l : List UInt8) : Fact := ⟨fun v V => BsNew w l v V, fun _ _ _ ⟨p, n, c, h1, h2, h3⟩ hB => ⟨p, n, c, h1, h2.below hB (Nat.le_refl _), fun a ha => ⟨(h3 a ha).1, Nat.lt_of_lt_of_le (h3 a ha).2 hB.size⟩⟩⟩
/-- Bytes of its own, and the error. -/
def DoneIs (w : World) (l : List UInt8) (e : Int) (en : Ending) (w' : World) : Prop := ∃ v, en = .returned (.tuple #[v, .int .i64 e]) ∧ BsNew w l v w' ∧ Below w.heap.size w w'
set_option maxRecDepth 100000 in
set_option maxHeartbeats 1600000 in
theorem done_any (B b : Nat) (t : TypeId) (v : Value) (s : List UInt8 × Int) (w : World) (h : WAt 5 B w b t v s) (hsm : s.1.length ≤ 1000000) :
    Calls Tryd.prog 58 #[.pointer (some ⟨b, 0, none⟩)] w (DoneIs w s.1 s.2) := by
  obtain ⟨l, e⟩ := s
  simp only at hsm
  obtain ⟨p, cap, rfl, hb⟩ := BsAt.ofRow h.row
  have hlen := hb.same
  simp only at hlen
  generalize hn : l.length = len at *
  have HB := Lib.hid (fun V (hV : Below w.heap.size w V) => (show Blk V b #[.slice p len cap, .int .i64 e] t from (hV.block b h.blk.lt).trans h.blk))
  have HS := Lib.hid (fun V (hV : Below w.heap.size w V) => hb.below hV (Nat.le_refl _))
  rw [← hn] at hsm
  clear h hb hlen hn
  go_enter Tryd.func58, Tryd.ntmps58
  go_wp2_with fail
  refine wp_region_F (fun V => Below w.heap.size w V) [Fact.is (.pointer (some ⟨b, 0, none⟩)), Fact.is (.pointer (some ⟨b, 0, none⟩)), Fact.is (.pointer (some ⟨b, 0, none⟩)), Fact.is (.pointer (some ⟨b, 0, none⟩)), Fact.is (.slice p len cap), bsFact w l, Fact.is (.pointer (some ⟨b, 0, none⟩)), Fact.is (.pointer (some ⟨b, 0, none⟩)), Fact.is (.pointer (some ⟨b, 0, none⟩)), Fact.is (.pointer (some ⟨b, 1, none⟩)), Fact.is (.int .i64 e), bsFact w l, Fact.is (.int .i64 e)]
    (fun x => { tmps := #[.pointer (some ⟨b, 0, none⟩), undef, x 11, x 12, .pointer (some ⟨b, 0, none⟩), .bool false, x 0, x 1, x 2, x 3, x 4, x 5, x 6, x 7, x 8, x 9, x 10], defers := [] }) (fun i => ([undef, undef, undef, undef, undef, undef, undef, undef, undef, undef, undef, .slice none 0 0, .int .i64 0] : List Value).getD i undef) (by kernel_rfl) rfl rfl (by kernel_rfl) ((Below.refl _ _).drew) (fun u v hu hB => hu.trans (hB.mono hu.size)) ?_ ?_
  · refine ⟨⟨fun x v => rfl, fun x V hC hD => ?_⟩, ?_⟩
    · clear hD
      refine want_yes rfl ?_
      exact leads_value (v := .pointer (some ⟨b, 0, none⟩)) (by go_simp) ⟨Below.refl _ _, rfl⟩
    refine ⟨⟨fun x v => rfl, fun x V hC hD => ?_⟩, ?_⟩
    · have e0 : (x 0) = .pointer (some ⟨b, 0, none⟩) := hD.1 rfl
      clear hD
      refine want_yes rfl ?_
      exact leads_value (v := .pointer (some ⟨b, 0, none⟩)) (by go_simp) ⟨Below.refl _ _, rfl⟩
    refine ⟨⟨fun x v => rfl, fun x V hC hD => ?_⟩, ?_⟩
    · have e1 : (x 1) = .pointer (some ⟨b, 0, none⟩) := hD.1 rfl
      clear hD
      refine want_yes rfl ?_
      exact leads_value (v := .pointer (some ⟨b, 0, none⟩)) (by go_simp) ⟨Below.refl _ _, rfl⟩
    refine ⟨⟨fun x v => rfl, fun x V hC hD => ?_⟩, ?_⟩
    · have e2 : (x 2) = .pointer (some ⟨b, 0, none⟩) := hD.1 rfl
      clear hD
      refine want_yes rfl ?_
      exact leads_value (v := .pointer (some ⟨b, 0, none⟩)) (by go_simp) ⟨Below.refl _ _, rfl⟩
    refine ⟨⟨fun x v => rfl, fun x V hC hD => ?_⟩, ?_⟩
    · have e3 : (x 3) = .pointer (some ⟨b, 0, none⟩) := hD.1 rfl
      clear hD
      refine want_yes rfl ?_
      have k0 : V.cell? ⟨b, 0, none⟩ = some (.slice p len cap) := (HB.out V hC).cell 0
      exact leads_value (v := .slice p len cap) (by go_simp) ⟨Below.refl _ _, rfl⟩
    refine ⟨⟨fun x v => rfl, fun x V hC hD => ?_⟩, ?_⟩
    · have e4 : (x 4) = .slice p len cap := hD.1 rfl
      clear hD
      refine want_yes rfl ?_
      exact leads_enter2 (by go_simp) ((clone_any p len cap l V (HS.out V hC) hsm).mono fun en w'' ⟨u, he, hb, hB⟩ => ⟨u, he, hB, hb.older hC.size⟩)
    refine ⟨⟨fun x v => rfl, fun x V hC hD => ?_⟩, ?_⟩
    · clear hD
      refine want_yes rfl ?_
      exact leads_value (v := .pointer (some ⟨b, 0, none⟩)) (by go_simp) ⟨Below.refl _ _, rfl⟩
    refine ⟨⟨fun x v => rfl, fun x V hC hD => ?_⟩, ?_⟩
    · have e6 : (x 6) = .pointer (some ⟨b, 0, none⟩) := hD.1 rfl
      clear hD
      refine want_yes rfl ?_
      exact leads_value (v := .pointer (some ⟨b, 0, none⟩)) (by go_simp) ⟨Below.refl _ _, rfl⟩
    refine ⟨⟨fun x v => rfl, fun x V hC hD => ?_⟩, ?_⟩
    · have e7 : (x 7) = .pointer (some ⟨b, 0, none⟩) := hD.1 rfl
      clear hD
      refine want_yes rfl ?_
      exact leads_value (v := .pointer (some ⟨b, 0, none⟩)) (by go_simp) ⟨Below.refl _ _, rfl⟩
    refine ⟨⟨fun x v => rfl, fun x V hC hD => ?_⟩, ?_⟩
    · have e8 : (x 8) = .pointer (some ⟨b, 0, none⟩) := hD.1 rfl
      clear hD
      refine want_yes rfl ?_
      exact leads_value (v := .pointer (some ⟨b, 1, none⟩)) (by go_simp) ⟨Below.refl _ _, rfl⟩
    refine ⟨⟨fun x v => rfl, fun x V hC hD => ?_⟩, ?_⟩
    · have e9 : (x 9) = .pointer (some ⟨b, 1, none⟩) := hD.1 rfl
      clear hD
      refine want_yes rfl ?_
      have k1 : V.cell? ⟨b, 1, none⟩ = some (.int .i64 e) := (HB.out V hC).cell 1
      exact leads_value (v := .int .i64 e) (by go_simp) ⟨Below.refl _ _, rfl⟩
    refine ⟨⟨fun x v => rfl, fun x V hC hD => ?_⟩, ?_⟩
    · have e5 : BsNew w l (x 5) V := hD.1 rfl
      have e0 : (x 0) = .pointer (some ⟨b, 0, none⟩) := hD.2.2.1 rfl
      have e1 : (x 1) = .pointer (some ⟨b, 0, none⟩) := hD.2.2.2.1 rfl
      have e2 : (x 2) = .pointer (some ⟨b, 0, none⟩) := hD.2.2.2.2.1 rfl
      have e3 : (x 3) = .pointer (some ⟨b, 0, none⟩) := hD.2.2.2.2.2.1 rfl
      have e4 : (x 4) = .slice p len cap := hD.2.2.2.2.2.2.1 rfl
      clear hD
      refine want_yes rfl ?_
      exact leads_value (v := x 5) (by go_simp) ⟨Below.refl _ _, e5⟩
    refine ⟨⟨fun x v => rfl, fun x V hC hD => ?_⟩, ?_⟩
    · have e10 : (x 10) = .int .i64 e := hD.1 rfl
      have e11 : BsNew w l (x 11) V := hD.2.1 rfl
      have e0 : (x 0) = .pointer (some ⟨b, 0, none⟩) := hD.2.2.1 rfl
      have e1 : (x 1) = .pointer (some ⟨b, 0, none⟩) := hD.2.2.2.1 rfl
      have e2 : (x 2) = .pointer (some ⟨b, 0, none⟩) := hD.2.2.2.2.1 rfl
      have e3 : (x 3) = .pointer (some ⟨b, 0, none⟩) := hD.2.2.2.2.2.1 rfl
      have e4 : (x 4) = .slice p len cap := hD.2.2.2.2.2.2.1 rfl
      have e5 : BsNew w l (x 5) V := hD.2.2.2.2.2.2.2.1 rfl
      have e6 : (x 6) = .pointer (some ⟨b, 0, none⟩) := hD.2.2.2.2.2.2.2.2.1 rfl
      have e7 : (x 7) = .pointer (some ⟨b, 0, none⟩) := hD.2.2.2.2.2.2.2.2.2.1 rfl
      have e8 : (x 8) = .pointer (some ⟨b, 0, none⟩) := hD.2.2.2.2.2.2.2.2.2.2.1 rfl
      have e9 : (x 9) = .pointer (some ⟨b, 1, none⟩) := hD.2.2.2.2.2.2.2.2.2.2.2.1 rfl
      clear hD
      refine want_yes rfl ?_
      exact leads_value (v := .int .i64 e) (by go_simp) ⟨Below.refl _ _, rfl⟩
    trivial

  · intro x V hC hF
    have e11 : BsNew w l (x 11) V := hF 11 (by simp)
    have e12 : x 12 = .int .i64 e := hF 12 (by simp)
    have E11 := Lib.hid e11
    have hC' := Lib.hid hC
    clear hF hC e11
    generalize x 11 = y11 at *
    go_wp2_with fail
    refine bodyPost_ret (v := .tuple #[y11, .int .i64 e]) (by simp [results, Tryd.results58, go_sem, e12]) rfl ⟨_, rfl, E11.out, hC'.out⟩

end Go.Proofs.YtoieodlpoglmfaaDoor


/-
  Bytes that a call hands back as the caller's own: slices.Clone, Writer.Done.
-/
import Derived.Test.YtoieodlpoglmfaaDoorWirE
import Derived.Test.YtoieodlpoglmfaaDoorMkB
import Derived.Test.YtoieodlpoglmfaaDoorLate
namespace Go.Proofs.YtoieodlpoglmfaaDoor
open Go.RowKit

/-- An owned row of bytes, made since w. -/
def OwnBs (w : World) (l : List UInt8) (v : Value) (w' : World) : Prop := w'.ownsRow w.heap.size 5 1 v l.length (bvs l)
theorem own_older {w' : World} {B B' e n : Nat} {v : Value} {xs : List Value} (h : w'.ownsRow B e 1 v n xs) (hb : B' ≤ B) : w'.ownsRow B' e 1 v n xs := by
  obtain ⟨h1, h2⟩ := h
  refine ⟨h1, ?_⟩
  rcases h2 with h2 | ⟨g, cap, cur, rfl, hg, rest⟩
  · exact .inl h2
  · exact .inr ⟨g, cap, cur, rfl, Nat.le_trans hb hg, rest⟩
def ownF (w : World) (l : List UInt8) : Fact := ⟨fun v V => OwnBs w l v V, fun _ _ _ h hB => own_below h hB (Nat.le_refl _)⟩
def CloneOwn (w : World) (l : List UInt8) (e : Ending) (w' : World) : Prop := ∃ v, e = .returned v ∧ OwnBs w l v w' ∧ Below w.heap.size w w'
def DoneOwn (w : World) (l : List UInt8) (e : Int) (en : Ending) (w' : World) : Prop := ∃ v, en = .returned (.tuple #[v, .int .i64 e]) ∧ OwnBs w l v w' ∧ Below w.heap.size w w'
set_option maxHeartbeats 800000 in
theorem clone_own (p : Option Addr) (len cap : Nat) (l : List UInt8) (w : World) (h : BsAt w p len cap l) (hsm : l.length ≤ 1000000) :
    Calls Tryd.prog 59 #[.slice p len cap] w (CloneOwn w l) := by
  have hnil := fun (V : World) => Lib.run_eql_slice_nil (P := Tryd.prog) V 48 5 p len cap 0 0 Tryd.underlying48
  have HH := Lib.hid h
  have hle : l.length ≤ 140737488355328 := by omega
  cases p with
  | none =>
    have hl : l = [] := by
      rcases h.place with ⟨-, hc⟩ | ⟨hl, -⟩ | ⟨g, off, hp, -⟩
      · have := h.le; have := h.same; exact List.eq_nil_of_length_eq_zero (by omega)
      · exact hl
      · cases hp
    have HL := Lib.hid hl
    clear h hsm hl
    go_enter Tryd.func59, Tryd.ntmps59
    go_wp2_with fail
    go_ret
    exact ⟨_, rfl, by rw [HL.out]; exact World.ownsRow_nil _ _ _ _, Below.refl _ _⟩
  | some a =>
    have hb2 := (h.below (belowNew w (.cells #[] 5)) (Nat.le_refl _))
    have hown : (w.alloc (.cells #[] 5)).ownsRow w.heap.size 5 1 (.slice (some ⟨w.heap.size, 0, none⟩) 0 0) ([] : List UInt8).length (bvs []) := World.ownsRow_lit w #[] 0 (Nat.le_refl _) (by decide) rfl
    have HB2 := Lib.hid hb2
    clear h hsm hb2
    go_enter Tryd.func59, Tryd.ntmps59
    go_wp2_with (at_builtin; refine wpList_append_bytes rfl _ _ 48 rfl w.heap.size 5 Tryd.underlying48 infoU8 rfl hown rfl HB2.out (by simpa using hle) (by simp) ?_; intro p1 n1 c1' w1 hrow1 hg1 hn1; have HR := Lib.hid hrow1; have HG := Lib.hid hg1; clear hrow1 hg1 hn1 hown)
    go_ret
    exact ⟨_, rfl, by have h := HR.out; rw [List.nil_append] at h; unfold OwnBs; simpa using h, ((belowNew w _).grown HG.out (by simp) (fun k hk => by cases hk; exact Nat.le_refl _))⟩
set_option maxRecDepth 100000 in
set_option maxHeartbeats 1600000 in
theorem done_own (B b : Nat) (t : TypeId) (v : Value) (s : List UInt8 × Int) (w : World) (h : WAt 5 B w b t v s) (hsm : s.1.length ≤ 1000000) :
    Calls Tryd.prog 58 #[.pointer (some ⟨b, 0, none⟩)] w (DoneOwn w s.1 s.2) := by
  obtain ⟨l, e⟩ := s
  simp only at hsm
  obtain ⟨p, cap, rfl, hb⟩ := BsAt.ofRow h.row
  have hlen := hb.same
  simp only at hlen
  generalize hn : l.length = len at *
  have HB := Lib.hid (fun V (hV : Below w.heap.size w V) => (show Blk V b #[.slice p len cap, .int .i64 e] t from (hV.block b h.blk.lt).trans h.blk))
  have HS := Lib.hid (fun V (hV : Below w.heap.size w V) => hb.below hV (Nat.le_refl _))
  rw [← hn] at hsm
  clear h hb hlen hn
  go_enter Tryd.func58, Tryd.ntmps58
  go_wp2_with fail
  refine wp_region_F (fun V => Below w.heap.size w V) [Fact.is (.pointer (some ⟨b, 0, none⟩)), Fact.is (.pointer (some ⟨b, 0, none⟩)), Fact.is (.pointer (some ⟨b, 0, none⟩)), Fact.is (.pointer (some ⟨b, 0, none⟩)), Fact.is (.slice p len cap), ownF w l, Fact.is (.pointer (some ⟨b, 0, none⟩)), Fact.is (.pointer (some ⟨b, 0, none⟩)), Fact.is (.pointer (some ⟨b, 0, none⟩)), Fact.is (.pointer (some ⟨b, 1, none⟩)), Fact.is (.int .i64 e), ownF w l, Fact.is (.int .i64 e)]
    (fun x => { tmps := #[.pointer (some ⟨b, 0, none⟩), undef, x 11, x 12, .pointer (some ⟨b, 0, none⟩), .bool false, x 0, x 1, x 2, x 3, x 4, x 5, x 6, x 7, x 8, x 9, x 10], defers := [] }) (fun i => ([undef, undef, undef, undef, undef, undef, undef, undef, undef, undef, undef, .slice none 0 0, .int .i64 0] : List Value).getD i undef) (by kernel_rfl) rfl rfl (by kernel_rfl) ((Below.refl _ _).drew) (fun u v hu hB => hu.trans (hB.mono hu.size)) ?_ ?_
  · refine ⟨⟨fun x v => rfl, fun x V hC hD => ?_⟩, ?_⟩
    · clear hD
      refine want_yes rfl ?_
      exact leads_value (v := .pointer (some ⟨b, 0, none⟩)) (by go_simp) ⟨Below.refl _ _, rfl⟩
    refine ⟨⟨fun x v => rfl, fun x V hC hD => ?_⟩, ?_⟩
    · have e0 : (x 0) = .pointer (some ⟨b, 0, none⟩) := hD.1 rfl
      clear hD
      refine want_yes rfl ?_
      exact leads_value (v := .pointer (some ⟨b, 0, none⟩)) (by go_simp) ⟨Below.refl _ _, rfl⟩
    refine ⟨⟨fun x v => rfl, fun x V hC hD => ?_⟩, ?_⟩
    · have e1 : (x 1) = .pointer (some ⟨b, 0, none⟩) := hD.1 rfl
      clear hD
      refine want_yes rfl ?_
      exact leads_value (v := .pointer (some ⟨b, 0, none⟩)) (by go_simp) ⟨Below.refl _ _, rfl⟩
    refine ⟨⟨fun x v => rfl, fun x V hC hD => ?_⟩, ?_⟩
    · have e2 : (x 2) = .pointer (some ⟨b, 0, none⟩) := hD.1 rfl
      clear hD
      refine want_yes rfl ?_
      exact leads_value (v := .pointer (some ⟨b, 0, none⟩)) (by go_simp) ⟨Below.refl _ _, rfl⟩
    refine ⟨⟨fun x v => rfl, fun x V hC hD => ?_⟩, ?_⟩
    · have e3 : (x 3) = .pointer (some ⟨b, 0, none⟩) := hD.1 rfl
      clear hD
      refine want_yes rfl ?_
      have k0 : V.cell? ⟨b, 0, none⟩ = some (.slice p len cap) := (HB.out V hC).cell 0
      exact leads_value (v := .slice p len cap) (by go_simp) ⟨Below.refl _ _, rfl⟩
    refine ⟨⟨fun x v => rfl, fun x V hC hD => ?_⟩, ?_⟩
    · have e4 : (x 4) = .slice p len cap := hD.1 rfl
      clear hD
      refine want_yes rfl ?_
      exact leads_enter2 (by go_simp) ((clone_own p len cap l V (HS.out V hC) hsm).mono fun en w'' ⟨u, he, hb, hB⟩ => ⟨u, he, hB, own_older hb hC.size⟩)
    refine ⟨⟨fun x v => rfl, fun x V hC hD => ?_⟩, ?_⟩
    · clear hD
      refine want_yes rfl ?_
      exact leads_value (v := .pointer (some ⟨b, 0, none⟩)) (by go_simp) ⟨Below.refl _ _, rfl⟩
    refine ⟨⟨fun x v => rfl, fun x V hC hD => ?_⟩, ?_⟩
    · have e6 : (x 6) = .pointer (some ⟨b, 0, none⟩) := hD.1 rfl
      clear hD
      refine want_yes rfl ?_
      exact leads_value (v := .pointer (some ⟨b, 0, none⟩)) (by go_simp) ⟨Below.refl _ _, rfl⟩
    refine ⟨⟨fun x v => rfl, fun x V hC hD => ?_⟩, ?_⟩
    · have e7 : (x 7) = .pointer (some ⟨b, 0, none⟩) := hD.1 rfl
      clear hD
      refine want_yes rfl ?_
      exact leads_value (v := .pointer (some ⟨b, 0, none⟩)) (by go_simp) ⟨Below.refl _ _, rfl⟩
    refine ⟨⟨fun x v => rfl, fun x V hC hD => ?_⟩, ?_⟩
    · have e8 : (x 8) = .pointer (some ⟨b, 0, none⟩) := hD.1 rfl
      clear hD
      refine want_yes rfl ?_
      exact leads_value (v := .pointer (some ⟨b, 1, none⟩)) (by go_simp) ⟨Below.refl _ _, rfl⟩
    refine ⟨⟨fun x v => rfl, fun x V hC hD => ?_⟩, ?_⟩
    · have e9 : (x 9) = .pointer (some ⟨b, 1, none⟩) := hD.1 rfl
      clear hD
      refine want_yes rfl ?_
      have k1 : V.cell? ⟨b, 1, none⟩ = some (.int .i64 e) := (HB.out V hC).cell 1
      exact leads_value (v := .int .i64 e) (by go_simp) ⟨Below.refl _ _, rfl⟩
    refine ⟨⟨fun x v => rfl, fun x V hC hD => ?_⟩, ?_⟩
    · have e5 : OwnBs w l (x 5) V := hD.1 rfl
      have e0 : (x 0) = .pointer (some ⟨b, 0, none⟩) := hD.2.2.1 rfl
      have e1 : (x 1) = .pointer (some ⟨b, 0, none⟩) := hD.2.2.2.1 rfl
      have e2 : (x 2) = .pointer (some ⟨b, 0, none⟩) := hD.2.2.2.2.1 rfl
      have e3 : (x 3) = .pointer (some ⟨b, 0, none⟩) := hD.2.2.2.2.2.1 rfl
      have e4 : (x 4) = .slice p len cap := hD.2.2.2.2.2.2.1 rfl
      clear hD
      refine want_yes rfl ?_
      exact leads_value (v := x 5) (by go_simp) ⟨Below.refl _ _, e5⟩
    refine ⟨⟨fun x v => rfl, fun x V hC hD => ?_⟩, ?_⟩
    · have e10 : (x 10) = .int .i64 e := hD.1 rfl
      have e11 : OwnBs w l (x 11) V := hD.2.1 rfl
      have e0 : (x 0) = .pointer (some ⟨b, 0, none⟩) := hD.2.2.1 rfl
      have e1 : (x 1) = .pointer (some ⟨b, 0, none⟩) := hD.2.2.2.1 rfl
      have e2 : (x 2) = .pointer (some ⟨b, 0, none⟩) := hD.2.2.2.2.1 rfl
      have e3 : (x 3) = .pointer (some ⟨b, 0, none⟩) := hD.2.2.2.2.2.1 rfl
      have e4 : (x 4) = .slice p len cap := hD.2.2.2.2.2.2.1 rfl
      have e5 : OwnBs w l (x 5) V := hD.2.2.2.2.2.2.2.1 rfl
      have e6 : (x 6) = .pointer (some ⟨b, 0, none⟩) := hD.2.2.2.2.2.2.2.2.1 rfl
      have e7 : (x 7) = .pointer (some ⟨b, 0, none⟩) := hD.2.2.2.2.2.2.2.2.2.1 rfl
      have e8 : (x 8) = .pointer (some ⟨b, 0, none⟩) := hD.2.2.2.2.2.2.2.2.2.2.1 rfl
      have e9 : (x 9) = .pointer (some ⟨b, 1, none⟩) := hD.2.2.2.2.2.2.2.2.2.2.2.1 rfl
      clear hD
      refine want_yes rfl ?_
      exact leads_value (v := .int .i64 e) (by go_simp) ⟨Below.refl _ _, rfl⟩
    trivial
  · intro x V hC hF
    have e11 : OwnBs w l (x 11) V := hF 11 (by simp)
    have e12 : x 12 = .int .i64 e := hF 12 (by simp)
    have E11 := Lib.hid e11
    have hC' := Lib.hid hC
    clear hF hC e11
    generalize x 11 = y11 at *
    go_wp2_with fail
    refine bodyPost_ret (v := .tuple #[y11, .int .i64 e]) (by simp [results, Tryd.results58, go_sem, e12]) rfl ⟨_, rfl, E11.out, hC'.out⟩

end Go.Proofs.YtoieodlpoglmfaaDoor

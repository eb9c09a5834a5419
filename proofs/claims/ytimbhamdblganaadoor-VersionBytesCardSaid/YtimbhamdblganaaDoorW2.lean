/-
  What is asked of the program's graphs: contracts, as words.
-/
import Derived.Test.YtimbhamdblganaaDoorW1
import Derived.LoopTactic
import Derived.Deep.WholeRow
import Derived.ChangeKeysEq
import Derived.Laws.Rows
import Derived.Outline
import Derived.OneCell
import Derived.Deep.DeepCutAuto
import Derived.Lib.QuietBelow
/-! WirE -/
namespace Go.Proofs.YtimbhamdblganaaDoor
open Go.RowKit

theorem takeS_le (s : WSt) (n : Nat) : (takeS s n).1.length ≤ s.1.length := by
  unfold takeS; split
  · exact fail_le s 4
  · simp
theorem dNum_le (s : WSt) (size most : Int) : (dNum s size most).2.1.length ≤ s.1.length := by
  unfold dNum; split
  · split
    · exact Nat.le_trans (fail_le _ _) (takeS_le _ _)
    · exact takeS_le _ _
  · exact fail_le _ _
set_option maxHeartbeats 400000 in
theorem rdleft_any (b : Nat) (t : TypeId) (g : Nat) (s : List UInt8 × Int) (w : World) (h : RAt w b t g s) :
    Calls Tryd.prog 10 #[.pointer (some ⟨b, 0, none⟩)] w fun e w' => e = .returned (.int .i64 (s.1.length : Nat)) ∧ w = w' := by
  obtain ⟨p, len, cap, hb, hs, -⟩ := h
  have hl := hs.same
  subst hl
  have c0 : w.cell? ⟨b, 0, none⟩ = some (.slice p s.1.length cap) := hb.cell 0
  clear hb hs
  go_enter Tryd.func10, Tryd.ntmps10
  go_wp2_with fail
  go_ret
  exact ⟨rfl, rfl⟩
set_option maxHeartbeats 400000 in
theorem rderr_any (b : Nat) (t : TypeId) (g : Nat) (s : List UInt8 × Int) (w : World) (h : RAt w b t g s) :
    Calls Tryd.prog 9 #[.pointer (some ⟨b, 0, none⟩)] w fun e w' => e = .returned (.int .i64 s.2) ∧ w = w' := by
  obtain ⟨p, len, cap, hb, hs, -⟩ := h
  have c1 : w.cell? ⟨b, 1, none⟩ = some (.int .i64 s.2) := hb.cell 1
  clear hb hs
  go_enter Tryd.func9, Tryd.ntmps9
  go_wp2_with fail
  go_ret
  exact ⟨rfl, rfl⟩
set_option maxHeartbeats 400000 in
theorem rdfail_any (b : Nat) (t : TypeId) (g : Nat) (s : List UInt8 × Int) (c : Int) (w : World) (h : RAt w b t g s) (hg : g ≠ b) :
    Calls Tryd.prog 50 #[.pointer (some ⟨b, 0, none⟩), .int .i64 c] w fun e w' => e = .returned (.tuple #[]) ∧ RTo w b t g (failS s c) w' := by
  obtain ⟨p, len, cap, hb, hs, hp⟩ := h
  have HB := Lib.hid hb
  have HS := Lib.hid hs
  have HP := Lib.hid hp
  clear hb hs hp
  go_enter Tryd.func50, Tryd.ntmps50
  go_wp2_with fail
  refine (wfail_any b t _ s.2 c _ HB.out).mono ?_
  rintro e' w' ⟨rfl, hP⟩
  have HP3 := Lib.hid hP
  clear hP
  go_wp2_with fail
  go_end0
  exact ⟨rfl, RAt.fail HS.out HP.out hg HP3.out⟩

/-! Nil receivers. -/
/-! Writer.Done. -/
end Go.Proofs.YtimbhamdblganaaDoor


/-! WirO -/
namespace Go.Proofs.YtimbhamdblganaaDoor
open Go.RowKit

/-- An owned row of bytes, made since w. -/
def OwnBs (w : World) (l : List UInt8) (v : Value) (w' : World) : Prop := w'.ownsRow w.heap.size 5 1 v l.length (bvs l)
theorem own_older {w' : World} {B B' e n : Nat} {v : Value} {xs : List Value} (h : w'.ownsRow B e 1 v n xs) (hb : B' ≤ B) : w'.ownsRow B' e 1 v n xs := by
  obtain ⟨h1, h2⟩ := h
  refine ⟨h1, ?_⟩
  rcases h2 with h2 | ⟨g, cap, cur, rfl, hg, rest⟩
  · exact .inl h2
  · exact .inr ⟨g, cap, cur, rfl, Nat.le_trans hb hg, rest⟩
def ownF (w : World) (l : List UInt8) : Fact := ⟨fun v V => OwnBs w l v V, fun _ _ _ h hB => own_below h hB (Nat.le_refl _)⟩
def CloneOwn (w : World) (l : List UInt8) (e : Ending) (w' : World) : Prop := ∃ v, e = .returned v ∧ OwnBs w l v w' ∧ Below w.heap.size w w'
def DoneOwn (w : World) (l : List UInt8) (e : Int) (en : Ending) (w' : World) : Prop := ∃ v, en = .returned (.tuple #[v, .int .i64 e]) ∧ OwnBs w l v w' ∧ Below w.heap.size w w'
set_option maxHeartbeats 800000 in
theorem clone_own (p : Option Addr) (len cap : Nat) (l : List UInt8) (w : World) (h : BsAt w p len cap l) (hsm : l.length ≤ 1000000) :
    Calls Tryd.prog 25 #[.slice p len cap] w (CloneOwn w l) := by
  have hnil := fun (V : World) => Lib.run_eql_slice_nil (P := Tryd.prog) V 23 5 p len cap 0 0 Tryd.underlying23
  have HH := Lib.hid h
  have hle : l.length ≤ 140737488355328 := by omega
  cases p with
  | none =>
    have hl : l = [] := by
      rcases h.place with ⟨-, hc⟩ | ⟨hl, -⟩ | ⟨g, off, hp, -⟩
      · have := h.le; have := h.same; exact List.eq_nil_of_length_eq_zero (by omega)
      · exact hl
      · cases hp
    have HL := Lib.hid hl
    clear h hsm hl
    go_enter Tryd.func25, Tryd.ntmps25
    go_wp2_with fail
    go_ret
    exact ⟨_, rfl, by rw [HL.out]; exact World.ownsRow_nil _ _ _ _, Below.refl _ _⟩
  | some a =>
    have hb2 := (h.below (belowNew w (.cells #[] 5)) (Nat.le_refl _))
    have hown : (w.alloc (.cells #[] 5)).ownsRow w.heap.size 5 1 (.slice (some ⟨w.heap.size, 0, none⟩) 0 0) ([] : List UInt8).length (bvs []) := World.ownsRow_lit w #[] 0 (Nat.le_refl _) (by decide) rfl
    have HB2 := Lib.hid hb2
    clear h hsm hb2
    go_enter Tryd.func25, Tryd.ntmps25
    go_wp2_with (at_builtin; refine wpList_append_bytes rfl _ _ 23 rfl w.heap.size 5 Tryd.underlying23 infoU8 rfl hown rfl HB2.out (by simpa using hle) (by simp) ?_; intro p1 n1 c1' w1 hrow1 hg1 hn1; have HR := Lib.hid hrow1; have HG := Lib.hid hg1; clear hrow1 hg1 hn1 hown)
    go_ret
    exact ⟨_, rfl, by have h := HR.out; rw [List.nil_append] at h; unfold OwnBs; simpa using h, ((belowNew w _).grown HG.out (by simp) (fun k hk => by cases hk; exact Nat.le_refl _))⟩
set_option maxRecDepth 100000 in
set_option maxHeartbeats 1600000 in
theorem done_own (B b : Nat) (t : TypeId) (v : Value) (s : List UInt8 × Int) (w : World) (h : WAt 5 B w b t v s) (hsm : s.1.length ≤ 1000000) :
    Calls Tryd.prog 31 #[.pointer (some ⟨b, 0, none⟩)] w (DoneOwn w s.1 s.2) := by
  obtain ⟨l, e⟩ := s
  simp only at hsm
  obtain ⟨p, cap, rfl, hb⟩ := BsAt.ofRow h.row
  have hlen := hb.same
  simp only at hlen
  generalize hn : l.length = len at *
  have HB := Lib.hid (fun V (hV : Below w.heap.size w V) => (show Blk V b #[.slice p len cap, .int .i64 e] t from (hV.block b h.blk.lt).trans h.blk))
  have HS := Lib.hid (fun V (hV : Below w.heap.size w V) => hb.below hV (Nat.le_refl _))
  rw [← hn] at hsm
  clear h hb hlen hn
  go_enter Tryd.func31, Tryd.ntmps31
  go_wp2_with fail
  refine wp_region_F (fun V => Below w.heap.size w V) [Fact.is (.pointer (some ⟨b, 0, none⟩)), Fact.is (.pointer (some ⟨b, 0, none⟩)), Fact.is (.pointer (some ⟨b, 0, none⟩)), Fact.is (.pointer (some ⟨b, 0, none⟩)), Fact.is (.slice p len cap), ownF w l, Fact.is (.pointer (some ⟨b, 0, none⟩)), Fact.is (.pointer (some ⟨b, 0, none⟩)), Fact.is (.pointer (some ⟨b, 0, none⟩)), Fact.is (.pointer (some ⟨b, 1, none⟩)), Fact.is (.int .i64 e), ownF w l, Fact.is (.int .i64 e)]
    (fun x => { tmps := #[.pointer (some ⟨b, 0, none⟩), undef, x 11, x 12, .pointer (some ⟨b, 0, none⟩), .bool false, x 0, x 1, x 2, x 3, x 4, x 5, x 6, x 7, x 8, x 9, x 10], defers := [] }) (fun i => ([undef, undef, undef, undef, undef, undef, undef, undef, undef, undef, undef, .slice none 0 0, .int .i64 0] : List Value).getD i undef) (by kernel_rfl) rfl rfl (by kernel_rfl) ((Below.refl _ _).drew) (fun u v hu hB => hu.trans (hB.mono hu.size)) ?_ ?_
  · refine ⟨⟨fun x v => rfl, fun x V hC hD => ?_⟩, ?_⟩
    · clear hD
      refine want_yes rfl ?_
      exact leads_value (v := .pointer (some ⟨b, 0, none⟩)) (by go_simp) ⟨Below.refl _ _, rfl⟩
    refine ⟨⟨fun x v => rfl, fun x V hC hD => ?_⟩, ?_⟩
    · have e0 : (x 0) = .pointer (some ⟨b, 0, none⟩) := hD.1 rfl
      clear hD
      refine want_yes rfl ?_
      exact leads_value (v := .pointer (some ⟨b, 0, none⟩)) (by go_simp) ⟨Below.refl _ _, rfl⟩
    refine ⟨⟨fun x v => rfl, fun x V hC hD => ?_⟩, ?_⟩
    · have e1 : (x 1) = .pointer (some ⟨b, 0, none⟩) := hD.1 rfl
      clear hD
      refine want_yes rfl ?_
      exact leads_value (v := .pointer (some ⟨b, 0, none⟩)) (by go_simp) ⟨Below.refl _ _, rfl⟩
    refine ⟨⟨fun x v => rfl, fun x V hC hD => ?_⟩, ?_⟩
    · have e2 : (x 2) = .pointer (some ⟨b, 0, none⟩) := hD.1 rfl
      clear hD
      refine want_yes rfl ?_
      exact leads_value (v := .pointer (some ⟨b, 0, none⟩)) (by go_simp) ⟨Below.refl _ _, rfl⟩
    refine ⟨⟨fun x v => rfl, fun x V hC hD => ?_⟩, ?_⟩
    · have e3 : (x 3) = .pointer (some ⟨b, 0, none⟩) := hD.1 rfl
      clear hD
      refine want_yes rfl ?_
      have k0 : V.cell? ⟨b, 0, none⟩ = some (.slice p len cap) := (HB.out V hC).cell 0
      exact leads_value (v := .slice p len cap) (by go_simp) ⟨Below.refl _ _, rfl⟩
    refine ⟨⟨fun x v => rfl, fun x V hC hD => ?_⟩, ?_⟩
    · have e4 : (x 4) = .slice p len cap := hD.1 rfl
      clear hD
      refine want_yes rfl ?_
      exact leads_enter2 (by go_simp) ((clone_own p len cap l V (HS.out V hC) hsm).mono fun en w'' ⟨u, he, hb, hB⟩ => ⟨u, he, hB, own_older hb hC.size⟩)
    refine ⟨⟨fun x v => rfl, fun x V hC hD => ?_⟩, ?_⟩
    · clear hD
      refine want_yes rfl ?_
      exact leads_value (v := .pointer (some ⟨b, 0, none⟩)) (by go_simp) ⟨Below.refl _ _, rfl⟩
    refine ⟨⟨fun x v => rfl, fun x V hC hD => ?_⟩, ?_⟩
    · have e6 : (x 6) = .pointer (some ⟨b, 0, none⟩) := hD.1 rfl
      clear hD
      refine want_yes rfl ?_
      exact leads_value (v := .pointer (some ⟨b, 0, none⟩)) (by go_simp) ⟨Below.refl _ _, rfl⟩
    refine ⟨⟨fun x v => rfl, fun x V hC hD => ?_⟩, ?_⟩
    · have e7 : (x 7) = .pointer (some ⟨b, 0, none⟩) := hD.1 rfl
      clear hD
      refine want_yes rfl ?_
      exact leads_value (v := .pointer (some ⟨b, 0, none⟩)) (by go_simp) ⟨Below.refl _ _, rfl⟩
    refine ⟨⟨fun x v => rfl, fun x V hC hD => ?_⟩, ?_⟩
    · have e8 : (x 8) = .pointer (some ⟨b, 0, none⟩) := hD.1 rfl
      clear hD
      refine want_yes rfl ?_
      exact leads_value (v := .pointer (some ⟨b, 1, none⟩)) (by go_simp) ⟨Below.refl _ _, rfl⟩
    refine ⟨⟨fun x v => rfl, fun x V hC hD => ?_⟩, ?_⟩
    · have e9 : (x 9) = .pointer (some ⟨b, 1, none⟩) := hD.1 rfl
      clear hD
      refine want_yes rfl ?_
      have k1 : V.cell? ⟨b, 1, none⟩ = some (.int .i64 e) := (HB.out V hC).cell 1
      exact leads_value (v := .int .i64 e) (by go_simp) ⟨Below.refl _ _, rfl⟩
    refine ⟨⟨fun x v => rfl, fun x V hC hD => ?_⟩, ?_⟩
    · have e5 : OwnBs w l (x 5) V := hD.1 rfl
      have e0 : (x 0) = .pointer (some ⟨b, 0, none⟩) := hD.2.2.1 rfl
      have e1 : (x 1) = .pointer (some ⟨b, 0, none⟩) := hD.2.2.2.1 rfl
      have e2 : (x 2) = .pointer (some ⟨b, 0, none⟩) := hD.2.2.2.2.1 rfl
      have e3 : (x 3) = .pointer (some ⟨b, 0, none⟩) := hD.2.2.2.2.2.1 rfl
      have e4 : (x 4) = .slice p len cap := hD.2.2.2.2.2.2.1 rfl
      clear hD
      refine want_yes rfl ?_
      exact leads_value (v := x 5) (by go_simp) ⟨Below.refl _ _, e5⟩
    refine ⟨⟨fun x v => rfl, fun x V hC hD => ?_⟩, ?_⟩
    · have e10 : (x 10) = .int .i64 e := hD.1 rfl
      have e11 : OwnBs w l (x 11) V := hD.2.1 rfl
      have e0 : (x 0) = .pointer (some ⟨b, 0, none⟩) := hD.2.2.1 rfl
      have e1 : (x 1) = .pointer (some ⟨b, 0, none⟩) := hD.2.2.2.1 rfl
      have e2 : (x 2) = .pointer (some ⟨b, 0, none⟩) := hD.2.2.2.2.1 rfl
      have e3 : (x 3) = .pointer (some ⟨b, 0, none⟩) := hD.2.2.2.2.2.1 rfl
      have e4 : (x 4) = .slice p len cap := hD.2.2.2.2.2.2.1 rfl
      have e5 : OwnBs w l (x 5) V := hD.2.2.2.2.2.2.2.1 rfl
      have e6 : (x 6) = .pointer (some ⟨b, 0, none⟩) := hD.2.2.2.2.2.2.2.2.1 rfl
      have e7 : (x 7) = .pointer (some ⟨b, 0, none⟩) := hD.2.2.2.2.2.2.2.2.2.1 rfl
      have e8 : (x 8) = .pointer (some ⟨b, 0, none⟩) := hD.2.2.2.2.2.2.2.2.2.2.1 rfl
      have e9 : (x 9) = .pointer (some ⟨b, 1, none⟩) := hD.2.2.2.2.2.2.2.2.2.2.2.1 rfl
      clear hD
      refine want_yes rfl ?_
      exact leads_value (v := .int .i64 e) (by go_simp) ⟨Below.refl _ _, rfl⟩
    trivial
  · intro x V hC hF
    have e11 : OwnBs w l (x 11) V := hF 11 (by simp)
    have e12 : x 12 = .int .i64 e := hF 12 (by simp)
    have E11 := Lib.hid e11
    have hC' := Lib.hid hC
    clear hF hC e11
    generalize x 11 = y11 at *
    go_wp2_with fail
    refine bodyPost_ret (v := .tuple #[y11, .int .i64 e]) (by simp [results, Tryd.results31, go_sem, e12]) rfl ⟨_, rfl, E11.out, hC'.out⟩

end Go.Proofs.YtimbhamdblganaaDoor

/-! WirV -/
namespace Go.Proofs.YtimbhamdblganaaDoor
open Go.RowKit

/-- A new Writer. -/
theorem WAt.new (w : World) (t : TypeId) : WAt 5 w.heap.size (w.alloc (.cells #[.slice none 0 0, .int .i64 0] t)) w.heap.size t (.slice none 0 0) ([], 0) :=
  ⟨Blk.new w _ _, World.ownsRow_nil _ _ _ _, fun e => by cases e⟩
/-- A new Reader of bytes of one's own. -/
theorem RAt.new {w : World} {b g : Nat} {v : Value} {t : TypeId} {l : List UInt8} (hk : Blk w b #[v, .int .i64 0] t) (hv : BsIn w g l v) : RAt w b t g (l, 0) := by
  obtain ⟨p, n, c, rfl, h1, h2⟩ := hv
  exact ⟨p, n, c, hk, h1, h2⟩
def blockOf : Value → Nat
  | .slice (some a) _ _ => a.block
  | _ => 0
theorem BsNew.inBlock {w w' : World} {l : List UInt8} {v : Value} (h : BsNew w l v w') : BsIn w' (blockOf v) l v := by
  obtain ⟨p, n, c, rfl, h1, h2⟩ := h
  exact ⟨p, n, c, rfl, h1, fun a ha => by rw [ha]; rfl⟩
end Go.Proofs.YtimbhamdblganaaDoor

/-! WirC -/
namespace Go.Proofs.YtimbhamdblganaaDoor
open Go.RowKit

theorem bs_nil_any {w w' : World} {p : Option Addr} {len cap : Nat} (h : BsAt w p len cap []) : BsAt w' p len cap [] := by
  refine ⟨h.same, h.le, h.small, ?_⟩
  rcases h.place with h1 | h1 | ⟨g, off, rfl, -⟩
  · exact .inl h1
  · exact .inr (.inl h1)
  · exact .inr (.inl ⟨rfl, by simp⟩)
/-- Bytes stay, if there are any, where their block does. -/
theorem bs_in {S : Nat → Prop} {w w' : World} {p : Option Addr} {len cap g : Nat} {L : List UInt8} (h : BsAt w p len cap L) (hp : ∀ a, p = some a → L ≠ [] → a.block = g) (hc : Chg S w w') (hg : L ≠ [] → ¬ S g) : BsAt w' p len cap L := by
  by_cases hL : L = []
  · subst hL; exact bs_nil_any h
  · exact h.chg hc fun a ha => by rw [hp a ha hL]; exact hg hL
/-- The document's Reader at b tells s: the whole is L, in block g. -/
def XRd (w : World) (b : Nat) (t : TypeId) (g : Nat) (L : List UInt8) (s : List UInt8 × Int) : Prop :=
  ∃ (p : Option Addr) (c k : Nat), Blk w b #[.slice p L.length c, .int .i64 (k : Int), .int .i64 s.2] t ∧ BsAt w p L.length c L ∧ (∀ a, p = some a → L ≠ [] → a.block = g) ∧ (s.2 = 0 → s.1 = L.drop k ∧ k ≤ L.length) ∧ Fit s
def XTo (w : World) (b : Nat) (t : TypeId) (g : Nat) (L : List UInt8) (s : List UInt8 × Int) (w' : World) : Prop := XRd w' b t g L s ∧ Chg (fun k => k = b) w w'
theorem XRd.kept {S : Nat → Prop} {w w' : World} {b : Nat} {t : TypeId} {g : Nat} {L : List UInt8} {s : List UInt8 × Int} (h : XRd w b t g L s) (hc : Chg S w w') (hb : ¬ S b) (hg : ¬ S g) : XRd w' b t g L s := by
  obtain ⟨p, c, k, h1, h2, h3, h4⟩ := h
  exact ⟨p, c, k, hc.kept h1 hb, bs_in h2 h3 hc (fun _ => hg), h3, h4⟩
theorem XRd.below {B : Nat} {w w' : World} {b : Nat} {t : TypeId} {g : Nat} {L : List UInt8} {s : List UInt8 × Int} (h : XRd w b t g L s) (hB : Below B w w') (hs : w.heap.size ≤ B) : XRd w' b t g L s :=
  h.kept (S := fun _ => False) ⟨hB.os, hB.tape, hB.output, hB.size, fun k hk _ => hB.block k (by omega)⟩ (fun h => h) (fun h => h)
theorem XTo.refl {w : World} {b : Nat} {t : TypeId} {g : Nat} {L : List UInt8} {s : List UInt8 × Int} (h : XRd w b t g L s) : XTo w b t g L s w := ⟨h, Chg.refl _ _⟩
theorem XTo.trans {w w' w'' : World} {b : Nat} {t : TypeId} {g : Nat} {L : List UInt8} {s s' : List UInt8 × Int} (h : XTo w b t g L s w') (k : XTo w' b t g L s' w'') : XTo w b t g L s' w'' := ⟨k.1, h.2.trans k.2⟩
theorem XRd.drewN {w : World} {b : Nat} {t : TypeId} {g : Nat} {L : List UInt8} {s : List UInt8 × Int} (h : XRd w b t g L s) (n : Nat) : XRd (w.drewN n) b t g L s := h.below (B := w.heap.size) ⟨rfl, rfl, rfl, Nat.le_refl _, fun _ _ => rfl⟩ (Nat.le_refl _)
theorem chg_drewN (S : Nat → Prop) (w : World) (n : Nat) : Chg S w (w.drewN n) := ⟨rfl, rfl, rfl, Nat.le_refl _, fun _ _ _ => rfl⟩
/-- The error is set. -/
theorem XRd.set {w : World} {b : Nat} {t : TypeId} {g : Nat} {L : List UInt8} {s : List UInt8 × Int} (h : XRd w b t g L s) (hg : g ≠ b) {c : Int} (hc : c ≠ 0) : XTo w b t g L ([], c) (w.setCell ⟨b, 2, none⟩ (.int .i64 c)) := by
  obtain ⟨p, c', k, h1, h2, h3, h4, h5⟩ := h
  have hP := (Put.refl h1).set 2 (.int .i64 c)
  exact ⟨⟨p, c', k, hP.blk, bs_in h2 h3 hP.chg (fun _ => hg), h3, (fun e => absurd e hc), fun _ => rfl⟩, hP.chg⟩

def byteV (s : List UInt8 × Int) : Nat := if s.2 = 0 then (s.1.headD 0).toNat else 0
def byteS (s : List UInt8 × Int) : List UInt8 × Int := if s.2 = 0 then (match s.1 with | [] => ([], 4) | _ :: r => (r, 0)) else s
def XByteIs (w : World) (b : Nat) (t : TypeId) (g : Nat) (L : List UInt8) (s : List UInt8 × Int) (e : Ending) (w' : World) : Prop := e = .returned (.int .i64 (byteV s : Nat)) ∧ XTo w b t g L (byteS s) w'

set_option maxHeartbeats 1600000 in
theorem xbyte_any (b : Nat) (t : TypeId) (g : Nat) (L : List UInt8) (s : List UInt8 × Int) (w : World) (h : XRd w b t g L s) (hg : g ≠ b) (hL : L.length ≤ 1000000) :
    Calls Tryd.prog 28 #[.pointer (some ⟨b, 0, none⟩)] w (XByteIs w b t g L s) := by
  obtain ⟨p, c, k, hk, hb, hp, hs, hf⟩ := h
  have c0 : w.cell? ⟨b, 0, none⟩ = some (.slice p L.length c) := hk.cell 0
  have c1 : w.cell? ⟨b, 1, none⟩ = some (.int .i64 (k : Int)) := hk.cell 1
  have c2 : w.cell? ⟨b, 2, none⟩ = some (.int .i64 s.2) := hk.cell 2
  have f1 := hk.free 1
  have f2 := hk.free 2
  have HX := Lib.hid (show XRd w b t g L s from ⟨p, c, k, hk, hb, hp, hs, hf⟩)
  have HK := Lib.hid hk
  have HB := Lib.hid hb
  have HP := Lib.hid hp
  have HG := Lib.hid hg
  by_cases he : s.2 = 0
  · obtain ⟨l, e⟩ := s
    simp only at he hs
    subst he
    obtain ⟨rfl, hkl⟩ := hs rfl
    by_cases hlt : k < L.length
    · have hd : L.drop k = L[k] :: L.drop (k + 1) := List.drop_eq_getElem_cons hlt
      have HV := Lib.hid (show byteV (L.drop k, 0) = L[k].toNat by unfold byteV; rw [if_pos rfl, hd]; rfl)
      have HS := Lib.hid (show byteS (L.drop k, 0) = (L.drop (k + 1), 0) by unfold byteS; rw [if_pos rfl, hd])
      obtain ⟨g', off, rfl, hc⟩ : ∃ g' off, p = some ⟨g', off, none⟩ ∧ w.cell? ⟨g', off + k, none⟩ = some (.int .u8 (L[k].toNat : Int)) := by
        rcases hb.place with ⟨-, h2⟩ | ⟨h2, -⟩ | ⟨g', off, rfl, -, h3⟩
        · have := hb.le; omega
        · rw [h2] at hlt; simp at hlt
        · exact ⟨g', off, rfl, h3 k hlt⟩
      have hg' : g' ≠ b := by rw [← hp _ rfl (by intro e; rw [e] at hlt; simp at hlt)] at hg; exact hg
      have hx : L[k].toNat < 256 := L[k].toNat_lt
      generalize L[k].toNat = x at *
      clear hk hb hp hs hf hg hd
      go_enter Tryd.func28, Tryd.ntmps28
      go_wp2_with fail
      go_quiet (fail)
      go_wp2_with fail
      have hP := ((Put.refl HK.out).drewN nq).set 1 (.int .i64 ((k : Int) + 1))
      generalize ((w.drewN nq).setCell ⟨b, 1, none⟩ (.int .i64 ((k : Int) + 1))) = W2 at *
      have d0 : W2.cell? ⟨b, 0, none⟩ = some (.slice (some ⟨g', off, none⟩) L.length c) := hP.blk.cell 0
      have d1 : W2.cell? ⟨b, 1, none⟩ = some (.int .i64 ((k : Int) + 1)) := hP.blk.cell 1
      have dc : W2.cell? ⟨g', off + k, none⟩ = some (.int .u8 (x : Int)) := by
        rw [World.cell?_of_block (w := w) (a := ⟨g', off + k, none⟩) (hP.chg.block g' (World.block_lt_of_cell? w _ hc) hg')]; exact hc
      have ws : IntKind.i64.wrap ((k : Int) + 1 - 1) = (k : Int) := by rw [IntWalk.i64_in _ (by omega)]; omega
      have wx : IntKind.i64.wrap (x : Int) = (x : Int) := IntWalk.i64_in _ (by omega)
      have HPP := Lib.hid hP
      clear hP c0 c1 c2 f1 f2 hc
      go_quiet (fail)
      go_wp2_with fail
      go_ret
      refine ⟨by rw [HV.out]; rfl, ?_⟩
      rw [HS.out]
      exact ⟨⟨_, c, k + 1, HPP.out.blk, (bs_in HB.out HP.out (HPP.out.chg.drewN _) (fun _ => HG.out)), HP.out, fun _ => ⟨rfl, hlt⟩, fun e => absurd rfl e⟩, HPP.out.chg.drewN _⟩
    · have hd : L.drop k = [] := List.drop_eq_nil_of_le (by omega)
      have HV := Lib.hid (show byteV (L.drop k, 0) = 0 by unfold byteV; rw [if_pos rfl, hd]; rfl)
      have HS := Lib.hid (show byteS (L.drop k, 0) = ([], 4) by unfold byteS; rw [if_pos rfl, hd])
      clear hk hb hp hs hf hg hd
      go_enter Tryd.func28, Tryd.ntmps28
      go_wp2_with fail
      go_quiet (fail)
      go_wp2_with fail
      go_ret
      refine ⟨by rw [HV.out]; rfl, ?_⟩
      rw [HS.out]
      obtain ⟨h1, h2⟩ := (HX.out.drewN nq).set HG.out (c := 4) (by decide)
      exact ⟨h1, (chg_drewN _ w nq).trans h2⟩
  · have b1 : (s.2 != 0) = true := by simpa using he
    have HV := Lib.hid (show byteV s = 0 by unfold byteV; rw [if_neg he])
    have HS := Lib.hid (show byteS s = s by unfold byteS; rw [if_neg he])
    clear hk hb hp hs hf hg he
    go_enter Tryd.func28, Tryd.ntmps28
    go_wp2_with fail
    go_ret
    refine ⟨by rw [HV.out]; rfl, ?_⟩
    rw [HS.out]
    exact XTo.refl HX.out

set_option maxHeartbeats 800000 in
theorem xleft_any (b : Nat) (t : TypeId) (g : Nat) (L : List UInt8) (s : List UInt8 × Int) (w : World) (h : XRd w b t g L s) (hL : L.length ≤ 1000000) :
    Calls Tryd.prog 11 #[.pointer (some ⟨b, 0, none⟩)] w fun e w' => e = .returned (.int .i64 (s.1.length : Nat)) ∧ ∃ n, w' = w.drewN n := by
  obtain ⟨p, c, k, hk, hb, hp, hs, hf⟩ := h
  have c0 : w.cell? ⟨b, 0, none⟩ = some (.slice p L.length c) := hk.cell 0
  have c1 : w.cell? ⟨b, 1, none⟩ = some (.int .i64 (k : Int)) := hk.cell 1
  have c2 : w.cell? ⟨b, 2, none⟩ = some (.int .i64 s.2) := hk.cell 2
  by_cases he : s.2 = 0
  · obtain ⟨hl, hkl⟩ := hs he
    have b1 : (s.2 != 0) = false := by simpa using he
    have HE := Lib.hid (show (s.1.length : Int) = (L.length : Int) - k by rw [hl, List.length_drop]; omega)
    have ws : IntKind.i64.wrap ((L.length : Int) - k) = (L.length : Int) - k := IntWalk.i64_in _ (by omega)
    clear hk hb hp hs hf hl he
    go_enter Tryd.func11, Tryd.ntmps11
    go_wp2_with fail
    go_quiet (fail)
    go_wp2_with fail
    go_ret
    exact ⟨by rw [HE.out]; rfl, nq, rfl⟩
  · have b1 : (s.2 != 0) = true := by simpa using he
    have HE := Lib.hid (show (s.1.length : Int) = 0 by rw [hf he]; rfl)
    clear hk hb hp hs hf he
    go_enter Tryd.func11, Tryd.ntmps11
    go_wp2_with fail
    go_ret
    exact ⟨by rw [HE.out]; rfl, 0, rfl⟩

end Go.Proofs.YtimbhamdblganaaDoor

/-! WirX -/
namespace Go.Proofs.YtimbhamdblganaaDoor
open Go.RowKit

theorem dNum_err {s : WSt} (he : s.2 ≠ 0) (hf : Fit s) (size most : Int) : dNum s size most = (0, s) := by
  have hn : ∀ c, failS s c = s := fun c => by unfold failS; rw [if_neg (fun x => he x.1)]
  have hl := hf he
  unfold dNum
  split
  · rename_i hz
    have h1 : 1 ≤ size.toNat := by simp only [sizedB, Bool.and_eq_true, decide_eq_true_eq] at hz; omega
    have ht : takeS s size.toNat = s := by unfold takeS; rw [if_pos (by rw [hl]; exact h1), hn]
    have hk : tookS s size.toNat = [] := by unfold tookS; rw [if_pos (by rw [hl]; exact h1)]
    rw [ht, hk, hn]
    split <;> rfl
  · rw [hn]
theorem dNum_size {l : List UInt8} {size : Int} (hz : sizedB size = false) (most : Int) : dNum (l, 0) size most = (0, ([], 8)) := by
  unfold dNum; rw [hz]; rfl
theorem dNum_short {l : List UInt8} {z : Nat} (hz : sizedB z = true) (h : l.length < z) (most : Int) : dNum (l, 0) z most = (0, ([], 4)) := by
  have ht : takeS (l, 0) z = ([], 4) := by unfold takeS; rw [if_pos h]; rfl
  have hk : tookS (l, 0) z = [] := by unfold tookS; rw [if_pos h]
  unfold dNum
  rw [hz, if_pos rfl]
  simp only [Int.toNat_natCast]
  rw [ht, hk]
  split <;> rfl
theorem dNum_long {l : List UInt8} {z : Nat} (hz : sizedB z = true) (h : z ≤ l.length) (most : Int) : dNum (l, 0) z most = if most < (valB (l.take z) : Int) then (0, ([], 8)) else (((valB (l.take z) : Nat) : Int), (l.drop z, 0)) := by
  have ht : takeS (l, 0) z = (l.drop z, 0) := by unfold takeS; rw [if_neg (by simp; omega)]
  have hk : tookS (l, 0) z = l.take z := by unfold tookS; rw [if_neg (by simp; omega)]
  unfold dNum
  rw [hz, if_pos rfl]
  simp only [Int.toNat_natCast]
  rw [ht, hk]
  rfl
theorem byte_cons {l : List UInt8} {j : Nat} (h : j < l.length) : byteV (l.drop j, 0) = l[j].toNat ∧ byteS (l.drop j, 0) = (l.drop (j + 1), 0) := by
  have hd : l.drop j = l[j] :: l.drop (j + 1) := List.drop_eq_getElem_cons h
  exact ⟨by unfold byteV; rw [if_pos rfl, hd]; rfl, by unfold byteS; rw [if_pos rfl, hd]⟩
theorem byte_nil {l : List UInt8} {j : Nat} (h : l.length ≤ j) : byteV (l.drop j, 0) = 0 ∧ byteS (l.drop j, 0) = ([], 4) := by
  have hd : l.drop j = [] := List.drop_eq_nil_of_le h
  exact ⟨by unfold byteV; rw [if_pos rfl, hd]; rfl, by unfold byteS; rw [if_pos rfl, hd]⟩

def XNumIs (w : World) (b : Nat) (t : TypeId) (g : Nat) (L : List UInt8) (r : Int × (List UInt8 × Int)) (e : Ending) (w' : World) : Prop := e = .returned (.int .i64 r.1) ∧ XTo w b t g L r.2 w'

set_option maxHeartbeats 1600000 in
theorem xnum_err (b : Nat) (t : TypeId) (g : Nat) (L : List UInt8) (s : List UInt8 × Int) (size most : Int) (w : World) (h : XRd w b t g L s) (he : s.2 ≠ 0) :
    Calls Tryd.prog 51 #[.pointer (some ⟨b, 0, none⟩), .int .i64 size, .int .i64 most] w (XNumIs w b t g L (dNum s size most)) := by
  obtain ⟨p, c, k, hk, hb, hp, hs, hf⟩ := h
  rw [dNum_err he hf]
  have c2 : w.cell? ⟨b, 2, none⟩ = some (.int .i64 s.2) := hk.cell 2
  have HX := Lib.hid (show XRd w b t g L s from ⟨p, c, k, hk, hb, hp, hs, hf⟩)
  have b1 : (s.2 == 0) = false := by simpa using he
  have b2 : (s.2 != 0) = true := by simpa using he
  clear hk hb hp hs hf he
  go_enter Tryd.func51, Tryd.ntmps51
  go_wp2_with fail
  go_loop [7, 8] (fun n i => n = .int .i64 0 ∧ i = .int .i64 0) (fun _ _ => 0)
  case atStart => exact ⟨rfl, rfl⟩
  case round =>
    obtain ⟨rfl, rfl⟩ := hrel
    by_cases h0 : 0 < size
    · go_wp2_with fail
      go_ret
      exact ⟨rfl, XTo.refl HX.out⟩
    · go_wp2_with fail
      go_ret
      exact ⟨rfl, XTo.refl HX.out⟩

set_option maxHeartbeats 1600000 in
theorem xnum_size (b : Nat) (t : TypeId) (g : Nat) (L : List UInt8) (l : List UInt8) (size most : Int) (w : World) (h : XRd w b t g L (l, 0)) (hg : g ≠ b) (hz : size < 1 ∨ 4 < size) :
    Calls Tryd.prog 51 #[.pointer (some ⟨b, 0, none⟩), .int .i64 size, .int .i64 most] w (XNumIs w b t g L (0, ([], 8))) := by
  have HX := Lib.hid h
  obtain ⟨p, c, k, hk, hb, hp, hs, hf⟩ := h
  have c2 : w.cell? ⟨b, 2, none⟩ = some (.int .i64 0) := hk.cell 2
  have f2 := hk.free 2
  have HS := Lib.hid (HX.out.set hg (c := 8) (by decide))
  clear hk hb hp hs hf
  by_cases h1 : size < 1
  · have h0 : ¬ 0 < size := by omega
    clear hz
    go_enter Tryd.func51, Tryd.ntmps51
    go_wp2_with fail
    go_loop [7, 8] (fun n i => n = .int .i64 0 ∧ i = .int .i64 0) (fun _ _ => 0)
    case atStart => exact ⟨rfl, rfl⟩
    case round =>
      obtain ⟨rfl, rfl⟩ := hrel
      go_wp2_with fail
      go_ret
      exact ⟨rfl, HS.out⟩
  · have h4 : 4 < size := by omega
    have h0 : 0 < size := by omega
    clear hz
    go_enter Tryd.func51, Tryd.ntmps51
    go_wp2_with fail
    go_loop [7, 8] (fun n i => n = .int .i64 0 ∧ i = .int .i64 0) (fun _ _ => 0)
    case atStart => exact ⟨rfl, rfl⟩
    case round =>
      obtain ⟨rfl, rfl⟩ := hrel
      go_wp2_with fail
      go_ret
      exact ⟨rfl, HS.out⟩

/-- What holds at the head of a round. -/
def NumAt (w : World) (b : Nat) (t : TypeId) (g : Nat) (L l : List UInt8) (z j : Nat) (n : Value) (wr : World) : Prop :=
  (j ≤ l.length ∧ n = .int .i64 (valB (l.take j) : Nat) ∧ XTo w b t g L (l.drop j, 0) wr) ∨ (l.length < z ∧ (∃ m : Int, n = .int .i64 m) ∧ XTo w b t g L ([], 4) wr)
set_option maxRecDepth 100000 in
set_option maxHeartbeats 3200000 in
theorem xnum_in (b : Nat) (t : TypeId) (g : Nat) (L : List UInt8) (l : List UInt8) (z : Nat) (most : Int) (w : World) (h : XRd w b t g L (l, 0)) (hg : g ≠ b) (hL : L.length ≤ 1000000) (h1 : 1 ≤ z) (h4 : z ≤ 4) :
    Calls Tryd.prog 51 #[.pointer (some ⟨b, 0, none⟩), .int .i64 z, .int .i64 most] w (XNumIs w b t g L (dNum (l, 0) z most)) := by
  have hz : sizedB z = true := by unfold sizedB; simp; omega
  have HX := Lib.hid h
  have HG := Lib.hid hg
  obtain ⟨p, c, k, hk, hb, hp, hs, hf⟩ := h
  have c2 : w.cell? ⟨b, 2, none⟩ = some (.int .i64 0) := hk.cell 2
  have HSh := Lib.hid (fun (h : l.length < z) => dNum_short hz h most)
  have HLo := Lib.hid (fun (h : z ≤ l.length) => dNum_long hz h most)
  clear hk hb hp hs hf hz hg
  generalize dNum (l, 0) z most = D at *
  go_enter Tryd.func51, Tryd.ntmps51
  go_wp2_with fail
  go_loopw [7, 8] (fun n i wr => ∃ j : Nat, j ≤ z ∧ i = .int .i64 j ∧ NumAt w b t g L l z j n wr) (fun _ i _ => z - (intOf i).toNat)
  case atStart => exact ⟨0, Nat.zero_le _, rfl, .inl ⟨Nat.zero_le _, by simp [valB], XTo.refl HX.out⟩⟩
  case round =>
    obtain ⟨j, hj, rfl, hN⟩ := hrel
    rcases hN with ⟨hjl, rfl, hX⟩ | ⟨hlz, ⟨m, rfl⟩, hX⟩
    · have HXX := Lib.hid hX
      obtain ⟨⟨p, c, k, hk, -⟩, -⟩ := hX
      have d2 : wr.cell? ⟨b, 2, none⟩ = some (.int .i64 0) := hk.cell 2
      have e2 := hk.free 2
      have hvs := valB_small (l.take j) (by simp; omega)
      clear hk c2
      by_cases hjz : j < z
      · have HC := Lib.hid (xbyte_any b t g L (l.drop j, 0) wr HXX.out.1 HG.out hL)
        by_cases hjl2 : j < l.length
        · obtain ⟨hv, hs⟩ := byte_cons hjl2
          have HV := Lib.hid (valB_take_succ l j hjl2)
          have hx : l[j].toNat < 256 := l[j].toNat_lt
          have HB := Lib.hid (And.intro hv hs)
          clear hv hs
          generalize valB (l.take j) = a at *
          generalize l[j].toNat = x at *
          go_wp2_with fail
          refine HC.out.mono ?_
          rintro e w2 ⟨rfl, hX2⟩
          rw [HB.out.1]
          have HX2 := Lib.hid (HXX.out.trans hX2)
          clear hX2 d2 e2
          go_wp2_with fail
          go_roundw
          case rel => exact ⟨j + 1, by omega, by go_num, .inl ⟨by omega, by rw [HV.out]; go_num, by have := HX2.out; rw [HB.out.2] at this; exact this⟩⟩
          case measure => simp [intOf]; omega
        · obtain ⟨hv, hs⟩ := byte_nil (l := l) (j := j) (by omega)
          have HB := Lib.hid (And.intro hv hs)
          clear hv hs
          generalize valB (l.take j) = a at *
          go_wp2_with fail
          refine HC.out.mono ?_
          rintro e w2 ⟨rfl, hX2⟩
          rw [HB.out.1]
          have HX2 := Lib.hid (HXX.out.trans hX2)
          clear hX2 d2 e2
          go_wp2_with fail
          go_roundw
          case rel => exact ⟨j + 1, by omega, by go_num, .inr ⟨by omega, ⟨_, rfl⟩, by have := HX2.out; rw [HB.out.2] at this; exact this⟩⟩
          case measure => simp [intOf]; omega
      · obtain rfl : j = z := by omega
        have hD := HLo.out hjl
        have HSet := Lib.hid (HXX.out.1.set HG.out (c := 8) (by decide))
        clear HSh HLo
        generalize valB (l.take j) = a at *
        by_cases hm : most < (a : Int)
        · rw [if_pos hm] at hD
          have HD := Lib.hid hD
          clear hD
          go_wp2_with fail
          go_ret
          refine ⟨by rw [HD.out]; rfl, ?_⟩
          rw [HD.out]
          exact HXX.out.trans HSet.out
        · rw [if_neg hm] at hD
          have HD := Lib.hid hD
          clear hD
          go_wp2_with fail
          go_ret
          refine ⟨by rw [HD.out]; rfl, ?_⟩
          rw [HD.out]
          exact HXX.out
    · have HXX := Lib.hid hX
      obtain ⟨⟨p, c, k, hk, -⟩, -⟩ := hX
      have d2 : wr.cell? ⟨b, 2, none⟩ = some (.int .i64 4) := hk.cell 2
      have HD := Lib.hid (HSh.out hlz)
      clear hk c2 HSh HLo
      by_cases hjz : j < z
      · go_wp2_with fail
        go_ret
        refine ⟨by rw [HD.out]; rfl, ?_⟩
        rw [HD.out]
        exact HXX.out
      · go_wp2_with fail
        go_ret
        refine ⟨by rw [HD.out]; rfl, ?_⟩
        rw [HD.out]
        exact HXX.out

theorem xnum_any (b : Nat) (t : TypeId) (g : Nat) (L : List UInt8) (s : List UInt8 × Int) (size most : Int) (w : World) (h : XRd w b t g L s) (hg : g ≠ b) (hL : L.length ≤ 1000000) :
    Calls Tryd.prog 51 #[.pointer (some ⟨b, 0, none⟩), .int .i64 size, .int .i64 most] w (XNumIs w b t g L (dNum s size most)) := by
  by_cases he : s.2 = 0
  · obtain ⟨l, e⟩ := s
    simp only at he
    subst he
    by_cases hz : size < 1 ∨ 4 < size
    · rw [dNum_size (by simp only [sizedB, Bool.and_eq_false_iff, decide_eq_false_iff_not]; omega)]
      exact xnum_size b t g L l size most w h hg hz
    · obtain ⟨z, rfl⟩ := Int.eq_ofNat_of_zero_le (show 0 ≤ size by omega)
      exact xnum_in b t g L l z most w h hg hL (by omega) (by omega)
  · exact xnum_err b t g L s size most w h he

end Go.Proofs.YtimbhamdblganaaDoor

/-! RelA -/
namespace Go.Proofs.YtimbhamdblganaaDoor
open Go.RowKit

theorem ints_one (W : World) (a : Int) : IntsAt (W.alloc (.cells #[.int .i64 a] 3)) (.slice (some ⟨W.heap.size, 0, none⟩) 1 1) [a] := by
  refine ⟨_, 1, rfl, by simp, fun _ => ⟨W.heap.size, 0, rfl, fun i hi => ?_⟩⟩
  have h := heap_alloc_new W (.cells #[.int .i64 a] 3)
  have : i = 0 := by simp at hi; omega
  subst this
  simp only [World.cell?, h, Nat.zero_add]
  rfl
theorem ofL_one {t : Nat} (h : t < 16) : ofL 0 [(t : Int)] = pw t := by
  unfold ofL ofL
  rw [if_pos (by omega)]
  unfold withN pw; simp
end Go.Proofs.YtimbhamdblganaaDoor

/-! GraM -/
namespace Go.Proofs.YtimbhamdblganaaDoor

/-! How many bits are set. -/
/-! The document's walk, round by round. -/
def cutF (f : Nat → Nat) (W a : Nat) : Nat := if W.testBit a then f a &&& W else 0

/-! What each step keeps. -/
theorem cutF_lt {f : Nat → Nat} {a : Nat} (W : Nat) (h : f a < 65536) : cutF f W a < 65536 := by
  unfold cutF; split
  · exact and_lt W h
  · decide

/-! What is reached. -/
theorem one_bit (a t : Nat) : (withN 0 a).testBit t = decide (a = t) := by rw [withN_bit]; simp
end Go.Proofs.YtimbhamdblganaaDoor

/-! GphA -/
namespace Go.Proofs.YtimbhamdblganaaDoor
open Go.RowKit

/-- A graph's cells. -/
def grC (f : Nat → Nat) : Array Value := arrC .u16 16 f
theorem grC_size (f : Nat → Nat) : (grC f).size = 16 := arrC_size _ _ _
theorem grC_get (f : Nat → Nat) {i : Nat} (h : i < 16) : (grC f)[i]? = some (.int .u16 (f i : Nat)) := arrC_get _ f h
theorem grC_congr {f g : Nat → Nat} (h : ∀ t, t < 16 → f t = g t) : grC f = grC g := arrC_congr h
theorem grC_one (f : Nat → Nat) : (grC f).all (·.oneCell') = true := arrC_one _ _ _
theorem zeroGr : (#[.int .u16 0, .int .u16 0, .int .u16 0, .int .u16 0, .int .u16 0, .int .u16 0, .int .u16 0, .int .u16 0, .int .u16 0, .int .u16 0, .int .u16 0, .int .u16 0, .int .u16 0, .int .u16 0, .int .u16 0, .int .u16 0] : Array Value) = grC fun _ => 0 := rfl
def GrOk (f : Nat → Nat) : Prop := ∀ t, t < 16 → f t < 65536
def GRow (w : World) (b : Nat) (f : Nat → Nat) : Prop := Blk w b (grC f) 43
theorem GRow.lt {w : World} {b : Nat} {f : Nat → Nat} (h : GRow w b f) : b < w.heap.size := Blk.lt h
theorem GRow.cell {w : World} {b : Nat} {f : Nat → Nat} (h : GRow w b f) {k : Nat} (hk : k < 16) : w.cell? ⟨b, k, none⟩ = some (.int .u16 (f k : Nat)) := (Blk.cell h k).trans (grC_get f hk)
theorem GRow.free {w : World} {b : Nat} {f : Nat → Nat} (h : GRow w b f) (k : Nat) : w.frozen? ⟨b, k, none⟩ = false := Blk.free h k
theorem GRow.new (w : World) (f : Nat → Nat) : GRow (w.alloc (.cells (grC f) 43)) w.heap.size f := Blk.new w _ _
theorem GRow.alloc {w : World} {b : Nat} {f : Nat → Nat} (h : GRow w b f) (o : Obj) : GRow (w.alloc o) b f := Blk.alloc h o
theorem GRow.step {w w' : World} {b : Nat} {f : Nat → Nat} (h : GRow w b f) (hB : Below w.heap.size w w') : GRow w' b f := Blk.below h hB h.lt
theorem GRow.congr {w : World} {b : Nat} {f g : Nat → Nat} (h : GRow w b f) (hc : ∀ t, t < 16 → f t = g t) : GRow w b g := by unfold GRow; rw [← grC_congr hc]; exact h
theorem GRow.set {w : World} {b : Nat} {f : Nat → Nat} (h : GRow w b f) {k : Nat} (hk : k < 16) (v : Nat) : GRow (w.setCell ⟨b, k, none⟩ (.int .u16 (v : Int))) b (setF f k v) := by
  have h1 := Blk.set h k (.int .u16 (v : Int))
  unfold GRow grC at *
  rw [arrC_set .u16 f v hk] at h1
  exact h1
theorem GRow.other {w : World} {b : Nat} {f : Nat → Nat} (h : GRow w b f) {a : Addr} (ha : a.block ≠ b) (u : Value) : GRow (w.setCell a u) b f := Blk.set_other h ha u
theorem infoGr (f : Nat → Nat) : (Tryd.prog.info? 43).map (·.size) = some (grC f).size := by rw [grC_size]; kernel_rfl
theorem wpList_load_gr {ops : Array Oper} {rest : List Oper} {o : Oper} {a : Act} {w : World} {Q : Exit → Act → World → Prop} (hgd : Region.wanted o (yielded ops a.tmps) = true) (x : Operand) (ho : o.op = .load 43 x)
    {b : Nat} {f : Nat → Nat} (hx : a.eval x = .pointer (some ⟨b, 0, none⟩)) (h : GRow w b f) (hK : wpList Tryd.prog ops Q rest (a.put o.dst (.agg (grC f))) w) : wpList Tryd.prog ops Q (o :: rest) a w :=
  wpList_step fun _ hK' => by
    rw [if_pos hgd]
    exact wp_load_row 43 x ho b hx 43 (grC f) (0, 0) _ h Tryd.underlying43 rfl (infoGr f) (hK' _ _ hK)
theorem wpList_store_gr {ops : Array Oper} {rest : List Oper} {o : Oper} {a : Act} {w : World} {Q : Exit → Act → World → Prop} (hgd : o.guard = none) (hd : o.dst = none) (x y : Operand) (ho : o.op = .store 43 x y)
    {b : Nat} {f g : Nat → Nat} (hx : a.eval x = .pointer (some ⟨b, 0, none⟩)) (hy : a.eval y = .agg (grC g)) (h : GRow w b f) (hK : ∀ w', Put w w' b (grC g) 43 → wpList Tryd.prog ops Q rest a w') : wpList Tryd.prog ops Q (o :: rest) a w :=
  wpList_store_arr hgd hd 43 x y ho hx hy h (infoGr g) (by rw [grC_size, grC_size]) (grC_one g) hK
theorem results_gr {fn : Func} {p : Tmp} (h : fn.results = #[.cell p 43]) {tmps : Array Value} {w : World} {b : Nat} {f : Nat → Nat} (hp : tmps.getD p undef = .pointer (some ⟨b, 0, none⟩)) (hr : GRow w b f) : (results fn tmps).run Tryd.prog w = .ok (.agg (grC f)) w :=
  results_arr h hp hr Tryd.underlying43 rfl (infoGr f)

/-- A graph in the middle of a block. -/
theorem run_load_mid {w : World} {g off : Nat} {cs : Array Value} {t : TypeId} {f : Nat → Nat} (hb : Blk w g cs t) (hc : ∀ i, i < 16 → cs[off + i]? = some (.int .u16 (f i : Nat))) :
    (loadVar 43 ⟨g, off, none⟩).run Tryd.prog w = .ok (.agg (grC f)) w := by
  have hl : (loadCells ⟨g, off, none⟩ (grC f).toList.length).run Tryd.prog w = .ok (grC f).toList.toArray w :=
    run_loadCells_list (P := Tryd.prog) w ⟨g, off, none⟩ _ (fun j v hv => by
      have hj : j < 16 := by
        have := (List.getElem?_eq_some_iff.1 hv).1
        rwa [Array.length_toList, grC_size] at this
      have hadd : (⟨g, off, none⟩ : Addr).add j = ⟨g, off + j, none⟩ := by unfold Addr.add; split <;> simp_all
      rw [Array.getElem?_toList, grC_get f hj] at hv
      cases hv
      rw [hadd, hb.cell, hc j hj])
  rw [Array.length_toList, grC_size] at hl
  have hi := infoGr f
  rw [grC_size] at hi
  cases hq : Tryd.prog.info? 43 with
  | none => simp [hq] at hi
  | some i =>
    have hs : i.size = 16 := by simpa [hq] using hi
    have hagg : (isAgg 43).run Tryd.prog w = .ok true w := by
      unfold isAgg
      rw [Sem.run_bind, run_underlying Tryd.underlying43 w]
      rfl
    simp [loadVar, Sem.run_bind, hagg, sizeOf, typeInfo, hq, hs, hl]
theorem exec_load_mid {o : Oper} {a : Act} {w : World} {x : Operand} {b off : Nat} {cs : Array Value} {t : TypeId} {f : Nat → Nat} (ho : o.op = .load 43 x) (hx : a.eval x = .pointer (some ⟨b, off, none⟩)) (hb : Blk w b cs t)
    (hc : ∀ j, j < 16 → cs[off + j]? = some (.int .u16 (f j : Nat))) : (execOp a.eval o).run Tryd.prog w = .ok (.value (.agg (grC f))) w := by
  unfold execOp
  simp only [ho, hx, Instr.loadAt, Instr.sureAddr, Sem.run_bind, Sem.run_pure, Result.andThen_ok, run_load_mid hb hc]
/-! Sets, by their bits. -/
theorem hasB_bit (s a : Nat) : hasB (s : Int) (a : Int) = s.testBit a := by simp [hasB]
theorem gHas_any (s a : Nat) (w : World) (hs : s < 65536) : Calls Tryd.prog 33 #[.int .u16 (s : Int), .int .i64 (a : Int)] w fun e w' => e = .returned (.bool (s.testBit a)) ∧ w = w' := by
  rw [← hasB_bit]; exact rHas_any s a w hs
end Go.Proofs.YtimbhamdblganaaDoor

/-! GraC -/
namespace Go.Proofs.YtimbhamdblganaaDoor
open Go.RowKit

def GCutC : Prop := ∀ (f : Nat → Nat) (W : Nat) (w : World), TabOk w → GrOk f → W < 65536 → Calls Tryd.prog 60 #[.agg (grC f), .int .u16 (W : Int)] w fun e w' => e = .returned (.agg (grC (cutF f W))) ∧ Below w.heap.size w w'
end Go.Proofs.YtimbhamdblganaaDoor

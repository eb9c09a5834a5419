/-
  The document's Reader.
-/
import Derived.Test.YtoieodlpoglmfaaDoorWirB
namespace Go.Proofs.YtoieodlpoglmfaaDoor
open Go.RowKit

theorem bs_nil_any {w w' : World} {p : Option Addr} {len cap : Nat} (h : BsAt w p len cap []) : BsAt w' p len cap [] := by
  refine ⟨h.same, h.le, h.small, ?_⟩
  rcases h.place with h1 | h1 | ⟨g, off, rfl, -⟩
  · exact .inl h1
  · exact .inr (.inl h1)
  · exact .inr (.inl ⟨rfl, by simp⟩)
/-- Bytes stay, if there are any, where their block does. -/
theorem bs_in {S : Nat → Prop} {w w' : World} {p : Option Addr} {len cap g : Nat} {L : List UInt8} (h : BsAt w p len cap L) (hp : ∀ a, p = some a → L ≠ [] → a.block = g) (hc : Chg S w w') (hg : L ≠ [] → ¬ S g) : BsAt w' p len cap L := by
  by_cases hL : L = []
  · subst hL; exact bs_nil_any h
  · exact h.chg hc fun a ha => by rw [hp a ha hL]; exact hg hL
/-- The document's Reader at b tells s: the whole is L, in block g. -/
def XRd (w : World) (b : Nat) (t : TypeId) (g : Nat) (L : List UInt8) (s : List UInt8 × Int) : Prop :=
  ∃ (p : Option Addr) (c k : Nat), Blk w b #[.slice p L.length c, .int .i64 (k : Int), .int .i64 s.2] t ∧ BsAt w p L.length c L ∧ (∀ a, p = some a → L ≠ [] → a.block = g) ∧ (s.2 = 0 → s.1 = L.drop k ∧ k ≤ L.length) ∧ Fit s
def XTo (w : World) (b : Nat) (t : TypeId) (g : Nat) (L : List UInt8) (s : List UInt8 × Int) (w' : World) : Prop := XRd w' b t g L s ∧ Chg (fun k => k = b) w w'
theorem XRd.kept {S : Nat → Prop} {w w' : World} {b : Nat} {t : TypeId} {g : Nat} {L : List UInt8} {s : List UInt8 × Int} (h : XRd w b t g L s) (hc : Chg S w w') (hb : ¬ S b) (hg : ¬ S g) : XRd w' b t g L s := by
  obtain ⟨p, c, k, h1, h2, h3, h4⟩ := h
  exact ⟨p, c, k, hc.kept h1 hb, bs_in h2 h3 hc (fun _ => hg), h3, h4⟩
theorem XRd.below {B : Nat} {w w' : World} {b : Nat} {t : TypeId} {g : Nat} {L : List UInt8} {s : List UInt8 × Int} (h : XRd w b t g L s) (hB : Below B w w') (hs : w.heap.size ≤ B) : XRd w' b t g L s :=
  h.kept (S := fun _ => False) ⟨hB.os, hB.tape, hB.output, hB.size, fun k hk _ => hB.block k (by omega)⟩ (fun h => h) (fun h => h)
theorem XTo.refl {w : World} {b : Nat} {t : TypeId} {g : Nat} {L : List UInt8} {s : List UInt8 × Int} (h : XRd w b t g L s) : XTo w b t g L s w := ⟨h, Chg.refl _ _⟩
theorem XTo.trans {w w' w'' : World} {b : Nat} {t : TypeId} {g : Nat} {L : List UInt8} {s s' : List UInt8 × Int} (h : XTo w b t g L s w') (k : XTo w' b t g L s' w'') : XTo w b t g L s' w'' := ⟨k.1, h.2.trans k.2⟩
theorem XRd.drewN {w : World} {b : Nat} {t : TypeId} {g : Nat} {L : List UInt8} {s : List UInt8 × Int} (h : XRd w b t g L s) (n : Nat) : XRd (w.drewN n) b t g L s := h.below (B := w.heap.size) ⟨rfl, rfl, rfl, Nat.le_refl _, fun _ _ => rfl⟩ (Nat.le_refl _)
theorem chg_drewN (S : Nat → Prop) (w : World) (n : Nat) : Chg S w (w.drewN n) := ⟨rfl, rfl, rfl, Nat.le_refl _, fun _ _ _ => rfl⟩
/-- The error is set. -/
theorem XRd.set {w : World} {b : Nat} {t : TypeId} {g : Nat} {L : List UInt8} {s : List UInt8 × Int} (h : XRd w b t g L s) (hg : g ≠ b) {c : Int} (hc : c ≠ 0) : XTo w b t g L ([], c) (w.setCell ⟨b, 2, none⟩ (.int .i64 c)) := by
  obtain ⟨p, c', k, h1, h2, h3, h4, h5⟩ := h
  have hP := (Put.refl h1).set 2 (.int .i64 c)
  exact ⟨⟨p, c', k, hP.blk, bs_in h2 h3 hP.chg (fun _ => hg), h3, (fun e => absurd e hc), fun _ => rfl⟩, hP.chg⟩

theorem XRd.short {w : World} {b : Nat} {t : TypeId} {g : Nat} {L : List UInt8} {s : List UInt8 × Int} (h : XRd w b t g L s) : s.1.length ≤ L.length := by
  obtain ⟨p, c, k, h1, h2, h3, h4, h5⟩ := h
  by_cases he : s.2 = 0
  · rw [(h4 he).1, List.length_drop]; omega
  · rw [h5 he]; simp
def byteV (s : List UInt8 × Int) : Nat := if s.2 = 0 then (s.1.headD 0).toNat else 0
def byteS (s : List UInt8 × Int) : List UInt8 × Int := if s.2 = 0 then (match s.1 with | [] => ([], 4) | _ :: r => (r, 0)) else s
def XByteIs (w : World) (b : Nat) (t : TypeId) (g : Nat) (L : List UInt8) (s : List UInt8 × Int) (e : Ending) (w' : World) : Prop := e = .returned (.int .i64 (byteV s : Nat)) ∧ XTo w b t g L (byteS s) w'

set_option maxHeartbeats 1600000 in
theorem xbyte_any (b : Nat) (t : TypeId) (g : Nat) (L : List UInt8) (s : List UInt8 × Int) (w : World) (h : XRd w b t g L s) (hg : g ≠ b) (hL : L.length ≤ 1000000) :
    Calls Tryd.prog 81 #[.pointer (some ⟨b, 0, none⟩)] w (XByteIs w b t g L s) := by
  obtain ⟨p, c, k, hk, hb, hp, hs, hf⟩ := h
  have c0 : w.cell? ⟨b, 0, none⟩ = some (.slice p L.length c) := hk.cell 0
  have c1 : w.cell? ⟨b, 1, none⟩ = some (.int .i64 (k : Int)) := hk.cell 1
  have c2 : w.cell? ⟨b, 2, none⟩ = some (.int .i64 s.2) := hk.cell 2
  have f1 := hk.free 1
  have f2 := hk.free 2
  have HX := Lib.hid (show XRd w b t g L s from ⟨p, c, k, hk, hb, hp, hs, hf⟩)
  have HK := Lib.hid hk
  have HB := Lib.hid hb
  have HP := Lib.hid hp
  have HG := Lib.hid hg
  by_cases he : s.2 = 0
  · obtain ⟨l, e⟩ := s
    simp only at he hs
    subst he
    obtain ⟨rfl, hkl⟩ := hs rfl
    by_cases hlt : k < L.length
    · have hd : L.drop k = L[k] :: L.drop (k + 1) := List.drop_eq_getElem_cons hlt
      have HV := Lib.hid (show byteV (L.drop k, 0) = L[k].toNat by unfold byteV; rw [if_pos rfl, hd]; rfl)
      have HS := Lib.hid (show byteS (L.drop k, 0) = (L.drop (k + 1), 0) by unfold byteS; rw [if_pos rfl, hd])
      obtain ⟨g', off, rfl, hc⟩ : ∃ g' off, p = some ⟨g', off, none⟩ ∧ w.cell? ⟨g', off + k, none⟩ = some (.int .u8 (L[k].toNat : Int)) := by
        rcases hb.place with ⟨-, h2⟩ | ⟨h2, -⟩ | ⟨g', off, rfl, -, h3⟩
        · have := hb.le; omega
        · rw [h2] at hlt; simp at hlt
        · exact ⟨g', off, rfl, h3 k hlt⟩
      have hg' : g' ≠ b := by rw [← hp _ rfl (by intro e; rw [e] at hlt; simp at hlt)] at hg; exact hg
      have hx : L[k].toNat < 256 := L[k].toNat_lt
      generalize L[k].toNat = x at *
      clear hk hb hp hs hf hg hd
      go_enter Tryd.func81, Tryd.ntmps81
      go_wp2_with fail
      go_quiet (fail)
      go_wp2_with fail
      have hP := ((Put.refl HK.out).drewN nq).set 1 (.int .i64 ((k : Int) + 1))
      generalize ((w.drewN nq).setCell ⟨b, 1, none⟩ (.int .i64 ((k : Int) + 1))) = W2 at *
      have d0 : W2.cell? ⟨b, 0, none⟩ = some (.slice (some ⟨g', off, none⟩) L.length c) := hP.blk.cell 0
      have d1 : W2.cell? ⟨b, 1, none⟩ = some (.int .i64 ((k : Int) + 1)) := hP.blk.cell 1
      have dc : W2.cell? ⟨g', off + k, none⟩ = some (.int .u8 (x : Int)) := by
        rw [World.cell?_of_block (w := w) (a := ⟨g', off + k, none⟩) (hP.chg.block g' (World.block_lt_of_cell? w _ hc) hg')]; exact hc
      have ws : IntKind.i64.wrap ((k : Int) + 1 - 1) = (k : Int) := by rw [IntWalk.i64_in _ (by omega)]; omega
      have wx : IntKind.i64.wrap (x : Int) = (x : Int) := IntWalk.i64_in _ (by omega)
      have HPP := Lib.hid hP
      clear hP c0 c1 c2 f1 f2 hc
      go_quiet (fail)
      go_wp2_with fail
      go_ret
      refine ⟨by rw [HV.out]; rfl, ?_⟩
      rw [HS.out]
      exact ⟨⟨_, c, k + 1, HPP.out.blk, (bs_in HB.out HP.out (HPP.out.chg.drewN _) (fun _ => HG.out)), HP.out, fun _ => ⟨rfl, hlt⟩, fun e => absurd rfl e⟩, HPP.out.chg.drewN _⟩
    · have hd : L.drop k = [] := List.drop_eq_nil_of_le (by omega)
      have HV := Lib.hid (show byteV (L.drop k, 0) = 0 by unfold byteV; rw [if_pos rfl, hd]; rfl)
      have HS := Lib.hid (show byteS (L.drop k, 0) = ([], 4) by unfold byteS; rw [if_pos rfl, hd])
      clear hk hb hp hs hf hg hd
      go_enter Tryd.func81, Tryd.ntmps81
      go_wp2_with fail
      go_quiet (fail)
      go_wp2_with fail
      go_ret
      refine ⟨by rw [HV.out]; rfl, ?_⟩
      rw [HS.out]
      obtain ⟨h1, h2⟩ := (HX.out.drewN nq).set HG.out (c := 4) (by decide)
      exact ⟨h1, (chg_drewN _ w nq).trans h2⟩
  · have b1 : (s.2 != 0) = true := by simpa using he
    have HV := Lib.hid (show byteV s = 0 by unfold byteV; rw [if_neg he])
    have HS := Lib.hid (show byteS s = s by unfold byteS; rw [if_neg he])
    clear hk hb hp hs hf hg he
    go_enter Tryd.func81, Tryd.ntmps81
    go_wp2_with fail
    go_ret
    refine ⟨by rw [HV.out]; rfl, ?_⟩
    rw [HS.out]
    exact XTo.refl HX.out

set_option maxHeartbeats 800000 in
theorem xleft_any (b : Nat) (t : TypeId) (g : Nat) (L : List UInt8) (s : List UInt8 × Int) (w : World) (h : XRd w b t g L s) (hL : L.length ≤ 1000000) :
    Calls Tryd.prog 33 #[.pointer (some ⟨b, 0, none⟩)] w fun e w' => e = .returned (.int .i64 (s.1.length : Nat)) ∧ ∃ n, w' = w.drewN n := by
  obtain ⟨p, c, k, hk, hb, hp, hs, hf⟩ := h
  have c0 : w.cell? ⟨b, 0, none⟩ = some (.slice p L.length c) := hk.cell 0
  have c1 : w.cell? ⟨b, 1, none⟩ = some (.int .i64 (k : Int)) := hk.cell 1
  have c2 : w.cell? ⟨b, 2, none⟩ = some (.int .i64 s.2) := hk.cell 2
  by_cases he : s.2 = 0
  · obtain ⟨hl, hkl⟩ := hs he
    have b1 : (s.2 != 0) = false := by simpa using he
    have HE := Lib.hid (show (s.1.length : Int) = (L.length : Int) - k by rw [hl, List.length_drop]; omega)
    have ws : IntKind.i64.wrap ((L.length : Int) - k) = (L.length : Int) - k := IntWalk.i64_in _ (by omega)
    clear hk hb hp hs hf hl he
    go_enter Tryd.func33, Tryd.ntmps33
    go_wp2_with fail
    go_quiet (fail)
    go_wp2_with fail
    go_ret
    exact ⟨by rw [HE.out]; rfl, nq, rfl⟩
  · have b1 : (s.2 != 0) = true := by simpa using he
    have HE := Lib.hid (show (s.1.length : Int) = 0 by rw [hf he]; rfl)
    clear hk hb hp hs hf he
    go_enter Tryd.func33, Tryd.ntmps33
    go_wp2_with fail
    go_ret
    exact ⟨by rw [HE.out]; rfl, 0, rfl⟩

end Go.Proofs.YtoieodlpoglmfaaDoor

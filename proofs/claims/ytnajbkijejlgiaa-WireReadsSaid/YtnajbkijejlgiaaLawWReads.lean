/-
  The law WireReads: what is read is as the document says.
-/
import Derived.Test.YtnajbkijejlgiaaPartA
import Derived.Test.YtnajbkijejlgiaaWirY
import Derived.Test.YtnajbkijejlgiaaStage
namespace Go.Proofs.Ytnajbkijejlgiaa
open Go.RowKit

theorem failS_zero_id (s : WSt) : failS s 0 = s := by unfold failS; rw [if_neg (fun x => x.2 rfl)]
/-- The two Readers, and what was there. -/
structure Both (w : World) (br g bx gx : Nat) (L : List UInt8) (s r : WSt) (V : World) : Prop where
  below : Below w.heap.size w V
  rd : RAt V br 60 g s
  xd : XRd V bx 44 gx L r
structure Far (w : World) (br g bx gx : Nat) : Prop where
  gr : g ≠ br
  xx : gx ≠ bx
  bb : br ≠ bx
  gb : g ≠ bx
  xb : gx ≠ br
  wr : w.heap.size ≤ br
  wx : w.heap.size ≤ bx
theorem Both.drew {w : World} {br g bx gx : Nat} {L : List UInt8} {s r : WSt} {V : World} (h : Both w br g bx gx L s r V) : Both w br g bx gx L s r V.drew :=
  ⟨h.below.drew, h.rd.below (Below.refl V.heap.size V).drew (Nat.le_refl _), h.xd.below (Below.refl V.heap.size V).drew (Nat.le_refl _)⟩
theorem Both.drewN {w : World} {br g bx gx : Nat} {L : List UInt8} {s r : WSt} {V : World} (h : Both w br g bx gx L s r V) (n : Nat) : Both w br g bx gx L s r (V.drewN n) :=
  have hB : Below V.heap.size V (V.drewN n) := ⟨rfl, rfl, rfl, Nat.le_refl _, fun _ _ => rfl⟩
  ⟨h.below.trans (hB.mono h.below.size), h.rd.below hB (Nat.le_refl _), h.xd.below hB (Nat.le_refl _)⟩
theorem Both.first {w : World} {br g bx gx : Nat} {L : List UInt8} {s r s' : WSt} {V V' : World} (h : Both w br g bx gx L s r V) (hf : Far w br g bx gx) (hR : RTo V br 60 g s' V') : Both w br g bx gx L s' r V' :=
  ⟨h.below.trans (hR.2.below h.below.size fun _ hk => hk ▸ hf.wr), hR.1, h.xd.kept hR.2 (fun e => hf.bb e.symm) hf.xb⟩
theorem Both.second {w : World} {br g bx gx : Nat} {L : List UInt8} {s r r' : WSt} {V V' : World} (h : Both w br g bx gx L s r V) (hf : Far w br g bx gx) (hX : XTo V bx 44 gx L r' V') : Both w br g bx gx L s r' V' :=
  ⟨h.below.trans (hX.2.below h.below.size fun _ hk => hk ▸ hf.wx), h.rd.kept hX.2 hf.bb hf.gb, hX.1⟩
theorem Both.cell {w : World} {br g bx gx : Nat} {L : List UInt8} {s r : WSt} {V : World} (h : Both w br g bx gx L s r V) : V.cell? ⟨bx, 2, none⟩ = some (.int .i64 r.2) := by
  obtain ⟨p, c, k, hk, -⟩ := h.xd
  exact hk.cell 2
theorem Both.free {w : World} {br g bx gx : Nat} {L : List UInt8} {s r : WSt} {V : World} (h : Both w br g bx gx L s r V) : V.frozen? ⟨bx, 2, none⟩ = false := by
  obtain ⟨p, c, k, hk, -⟩ := h.xd
  exact hk.free 2
/-- x.E = bad, where no error was there. -/
theorem Both.bad {w : World} {br g bx gx : Nat} {L : List UInt8} {s l : WSt} {V : World} (h : Both w br g bx gx L s l V) (hf : Far w br g bx gx) (he : l.2 = 0) (c : Int) : Both w br g bx gx L s (failS l c) (V.setCell ⟨bx, 2, none⟩ (.int .i64 c)) := by
  by_cases hc : c = 0
  · subst hc
    rw [failS_zero_id]
    obtain ⟨p, c', k, h1, h2, h3, h4⟩ := h.xd
    have hP := (Put.refl h1).set 2 (.int .i64 0)
    have hk : Blk (V.setCell ⟨bx, 2, none⟩ (.int .i64 0)) bx #[.slice p L.length c', .int .i64 (k : Int), .int .i64 l.2] 44 := by rw [he]; exact hP.blk
    exact h.second hf ⟨⟨p, c', k, hk, bs_in h2 h3 hP.chg (fun _ => hf.xx), h3, h4⟩, hP.chg⟩
  · have e1 : failS l c = ([], c) := by unfold failS; rw [if_pos ⟨he, hc⟩]
    rw [e1]
    exact h.second hf (h.xd.set hf.xx hc)
theorem Both.short {w : World} {br g bx gx : Nat} {L : List UInt8} {s : WSt} {V : World} (h : Both w br g bx gx L s s V) : s.1.length ≤ L.length := h.xd.short

set_option maxRecDepth 100000 in
set_option maxHeartbeats 16000000 in
theorem wreads_near (a0 : Option Addr) (n0 cap0 : Nat) (L : List UInt8) (v : Value) (l : List PartM) (at_ bad : Int) (w : World) (hb0 : BsAt w a0 n0 cap0 L) (hL : L.length ≤ 3000) (h : PartsAt w v l) (hf : farB l = false) :
    Calls Try.prog 4 #[.slice a0 n0 cap0, v, .int .i64 at_, .int .i64 bad] w fun e w' => e = .returned (.bool true) ∧ Below w.heap.size w w' := by
  obtain ⟨h40, hlong⟩ := farB_not hf
  have HF := Lib.hid (far_any v l w h)
  rw [hf] at HF
  obtain ⟨p, cap, rfl, hm, hc⟩ := h
  have hn0 := hb0.same
  subst hn0
  have HC := Lib.hid hc
  have HG := Lib.hid hlong
  have HL := Lib.hid hL
  have HB0 := Lib.hid hb0
  clear hc hlong hf hb0
  go_enter Try.func4, Try.ntmps4
  go_wp2_with fail
  refine HF.out.mono ?_
  rintro e w' ⟨rfl, rfl⟩
  clear HF
  go_wp2_with fail
  refine (newReader_any _ _ _ L _ HB0.out (by omega)).mono ?_
  rintro e w1 ⟨br, vr, rfl, hbr, hkr, hnr, hner, hB1⟩
  obtain ⟨gx, hgx, hgx2, hgx3⟩ : ∃ gx, (∀ a, a0 = some a → L ≠ [] → a.block = gx) ∧ gx ≠ w1.heap.size ∧ gx ≠ br := by
    by_cases hL0 : L = []
    · exact ⟨w1.heap.size + br + 1, fun _ _ h => absurd hL0 h, by omega, by omega⟩
    · rcases HB0.out.place with ⟨-, h2⟩ | ⟨h2, -⟩ | ⟨g', off, rfl, h3, -⟩
      · have := HB0.out.le
        exact absurd (List.eq_nil_of_length_eq_zero (by omega)) hL0
      · exact absurd h2 hL0
      · have := hB1.size
        exact ⟨g', fun a ha _ => by cases ha; rfl, by omega, by omega⟩
  have hltr := hkr.lt
  obtain ⟨g, hbi, hg1, hg2⟩ : ∃ g, BsIn w1 g L vr ∧ g ≠ br ∧ g ≠ w1.heap.size := by
    obtain ⟨q, n, c, rfl, h1, h2⟩ := hnr
    cases q with
    | none => exact ⟨w1.heap.size + br + 1, ⟨none, n, c, rfl, h1, fun _ h => by cases h⟩, by omega, by omega⟩
    | some a =>
      have h3 := (h2 a rfl).2
      exact ⟨a.block, ⟨some a, n, c, rfl, h1, fun _ h => by cases h; rfl⟩, hner a.block rfl, by omega⟩
  have HFar := Lib.hid (show Far w br g w1.heap.size gx from ⟨hg1, hgx2, by omega, hg2, hgx3, hbr, hB1.size⟩)
  have HBo := Lib.hid (show Both w br g w1.heap.size gx L (L, 0) (L, 0) (w1.alloc (.cells #[.slice a0 L.length cap0, .int .i64 0, .int .i64 0] 44)) from
    ⟨hB1.trans ((belowNew w1 _).mono hB1.size), (RAt.new hkr hbi).below (belowNew w1 _) (Nat.le_refl _),
     ⟨a0, cap0, 0, Blk.new w1 _ _, HB0.out.below (hB1.trans ((belowNew w1 _).mono hB1.size)) (Nat.le_refl _), hgx, fun _ => ⟨rfl, Nat.zero_le _⟩, fun h => absurd rfl h⟩⟩)
  clear hkr hnr hner hB1 hgx hgx2 hgx3 hbi hg1 hg2 hltr hbr
  have HBX := Lib.hid (show w1.heap.size = w1.heap.size from rfl)
  go_wp2_with fail
  go_loopw [11] (fun i wr => ∃ (j : Nat) (s : WSt), j ≤ l.length ∧ i = .int .i64 j ∧ Both w br g w1.heap.size gx L s s wr) (fun i _ => l.length - (intOf i).toNat)
  case atStart => exact ⟨0, (L, 0), Nat.zero_le _, rfl, HBo.out⟩
  case round =>
    obtain ⟨j, s, hj, rfl, hBo⟩ := hrel
    have HB := Lib.hid hBo
    clear HBo
    by_cases hlt : j < l.length
    · obtain ⟨b, off, rfl, hb, hcs⟩ := HC.out (by intro e; rw [e] at hlt; simp at hlt)
      obtain ⟨-, c0, c1, c2, c3, c4⟩ := hcs j hlt
      have HC2 := Lib.hid (fun V (hV : Below w.heap.size w V) => (hV.cell (p := ⟨b, off + j * 5 + 2, none⟩) hb).trans c2)
      have HC3 := Lib.hid (fun V (hV : Below w.heap.size w V) => (hV.cell (p := ⟨b, off + j * 5 + 3, none⟩) hb).trans c3)
      replace c0 := (hBo.below.cell (p := ⟨b, off + j * 5, none⟩) hb).trans c0
      have HLs := Lib.hid (Nat.le_trans hBo.short (Nat.le_trans HL.out (by decide)) : s.1.length ≤ 1000000)
      clear hcs c1 c2 c3 c4 hBo
      generalize w1.heap.size = bx at *
      generalize l[j] = q at *
      obtain ⟨qt, qn, qz, qm, qs⟩ := q
      simp only at c0 HC2 HC3
      cases qt with
      | true =>
        have HT1 := Lib.hid (fun V (hV : Both w br g bx gx L s s V) => (show Calls Try.prog 15 #[.pointer (some ⟨br, 0, none⟩), .int .i64 qm] V fun e w'' => ∃ u, e = .returned u ∧ u = .string ⟨(dText s qm).1.toArray⟩ ∧ Both w br g bx gx L (dText s qm).2 s w'' from
          (rdtext_any br _ g s qm V hV.rd HFar.out.gr HLs.out).mono fun e w'' ⟨he, hR⟩ => ⟨_, he, rfl, hV.first HFar.out hR⟩))
        have HT2 := Lib.hid (fun V (hV : Both w br g bx gx L (dText s qm).2 s V) => (show Calls Try.prog 16 #[.pointer (some ⟨bx, 0, none⟩), .int .i64 qm] V fun e w'' => ∃ u, e = .returned u ∧ u = .string ⟨(dText s qm).1.toArray⟩ ∧ Both w br g bx gx L (dText s qm).2 (dText s qm).2 w'' from
          (xtext_any bx _ gx L s qm V hV.xd HFar.out.xx (by have := HL.out; omega)).mono fun e w'' ⟨he, hX⟩ => ⟨_, he, rfl, hV.second HFar.out hX⟩))
        generalize dText s qm = D at *
        obtain ⟨d, S⟩ := D
        simp only at HT1 HT2
        have T0 := Lib.hid HB.out.drew
        go_wp2_with fail
        refine wp_region_S (fun k V => Both w br g bx gx L (turnSt s S S k) (turnSt s s S k) V) 2 [.val (.pointer (some ⟨br, 0, none⟩)), .val (.slice (some ⟨b, off, none⟩) l.length cap), .val (.int .i64 (j : Int)), .val (.pointer (some ⟨b, off + j * 5, none⟩)), .val (.pointer (some ⟨b, off + j * 5 + 3, none⟩)), .val (.int .i64 qm), .turn 0 (.string ⟨d.toArray⟩), .val (.pointer (some ⟨bx, 0, none⟩)), .val (.slice (some ⟨b, off, none⟩) l.length cap), .val (.int .i64 (j : Int)), .val (.pointer (some ⟨b, off + j * 5, none⟩)), .val (.pointer (some ⟨b, off + j * 5 + 3, none⟩)), .val (.int .i64 qm), .turn 1 (.string ⟨d.toArray⟩), .val (.bool false)]
          (fun x => { tmps := #[.slice a0 L.length cap0, .slice (some ⟨b, off, none⟩) l.length cap, .int .i64 at_, .int .i64 bad, undef, undef, undef, undef, u8, .pointer (some ⟨br, 0, none⟩), .pointer (some ⟨bx, 0, none⟩), .int .i64 (j : Int), .slice (some ⟨b, off, none⟩) l.length cap, .bool false, .bool false, .slice a0 L.length cap0, .int .i64 (L.length : Int), .bool (decide (3000 < (L.length : Int))), .bool (decide (3000 < (L.length : Int))), undef, .slice a0 L.length cap0, .pointer (some ⟨br, 0, none⟩), .slice a0 L.length cap0, .agg #[.slice a0 L.length cap0, .int .i64 0, .int .i64 0], .pointer (some ⟨bx, 0, none⟩), .pointer (some ⟨br, 0, none⟩), .bool false, .int .i64 (j : Int), .slice (some ⟨b, off, none⟩) l.length cap, .int .i64 (l.length : Int), .bool true, u31, u32, .slice (some ⟨b, off, none⟩) l.length cap, .int .i64 (j : Int), .pointer (some ⟨b, off + j * 5, none⟩), .pointer (some ⟨b, off + j * 5, none⟩), .bool true, x 0, x 1, x 2, x 3, x 4, x 5, x 6, x 7, x 8, x 9, x 10, x 11, x 12, x 13, x 14, u53, u54, u55, u56, u57, u58, u59, u60, u61, u62, u63, u64, u65, u66, u67, u68, u69, u70, u71, u72, u73, u74, u75, u76, u77, u78, u79, u80, u81, u82, u83, u84, u85, u86, u87, u88, u89, u90, u91, u92, u93, u94, u95, u96, u97, u98, u99, u100, u101, u102, u103, u104, u105, u106, undef], defers := [] }) (fun i => ([u38, u39, u40, u41, u42, u43, u44, u45, u46, u47, u48, u49, u50, u51, u52] : List Value).getD i undef) (by kernel_rfl) rfl rfl (by kernel_rfl) (by kernel_rfl) (by kernel_rfl) (by kernel_rfl) (T0.out) ?_ ?_
        · refine ⟨ObS.of_val rfl (fun x v => rfl) (fun x V k hC hD => ?_), ?_⟩
          · clear hD
            refine want_yes rfl ?_
            exact leads_value (v := .pointer (some ⟨br, 0, none⟩)) (by go_simp) ⟨rfl, hC⟩
          refine ⟨ObS.of_val rfl (fun x v => rfl) (fun x V k hC hD => ?_), ?_⟩
          · clear hD
            refine want_yes rfl ?_
            exact leads_value (v := .slice (some ⟨b, off, none⟩) l.length cap) (by go_simp) ⟨rfl, hC⟩
          refine ⟨ObS.of_val rfl (fun x v => rfl) (fun x V k hC hD => ?_), ?_⟩
          · clear hD
            refine want_yes rfl ?_
            exact leads_value (v := .int .i64 (j : Int)) (by go_simp) ⟨rfl, hC⟩
          refine ⟨ObS.of_val rfl (fun x v => rfl) (fun x V k hC hD => ?_), ?_⟩
          · have e1 : x 1 = .slice (some ⟨b, off, none⟩) l.length cap := hD.1 rfl
            have e2 : x 2 = .int .i64 (j : Int) := hD.2.1 rfl
            clear hD
            refine want_yes rfl ?_
            exact leads_value (v := .pointer (some ⟨b, off + j * 5, none⟩)) (by go_simp) ⟨rfl, hC⟩
          refine ⟨ObS.of_val rfl (fun x v => rfl) (fun x V k hC hD => ?_), ?_⟩
          · have e3 : x 3 = .pointer (some ⟨b, off + j * 5, none⟩) := hD.1 rfl
            clear hD
            refine want_yes rfl ?_
            exact leads_value (v := .pointer (some ⟨b, off + j * 5 + 3, none⟩)) (by go_simp) ⟨rfl, hC⟩
          refine ⟨ObS.of_val rfl (fun x v => rfl) (fun x V k hC hD => ?_), ?_⟩
          · have e4 : x 4 = .pointer (some ⟨b, off + j * 5 + 3, none⟩) := hD.1 rfl
            clear hD
            refine want_yes rfl ?_
            have k0 := HC3.out V hC.below
            exact leads_value (v := .int .i64 qm) (by go_simp) ⟨rfl, hC⟩
          refine ⟨ObS.of_turn rfl (fun x v => rfl) (fun x V hC hD => ?_), ?_⟩
          · have e0 : x 0 = .pointer (some ⟨br, 0, none⟩) := hD.1 rfl
            have e5 : x 5 = .int .i64 qm := hD.2.1 rfl
            clear hD
            refine want_yes rfl ?_
            exact leads_enter2 (by go_simp) (HT1.out V hC)
          refine ⟨ObS.of_val rfl (fun x v => rfl) (fun x V k hC hD => ?_), ?_⟩
          · clear hD
            refine want_yes rfl ?_
            exact leads_value (v := .pointer (some ⟨bx, 0, none⟩)) (by go_simp) ⟨rfl, hC⟩
          refine ⟨ObS.of_val rfl (fun x v => rfl) (fun x V k hC hD => ?_), ?_⟩
          · clear hD
            refine want_yes rfl ?_
            exact leads_value (v := .slice (some ⟨b, off, none⟩) l.length cap) (by go_simp) ⟨rfl, hC⟩
          refine ⟨ObS.of_val rfl (fun x v => rfl) (fun x V k hC hD => ?_), ?_⟩
          · clear hD
            refine want_yes rfl ?_
            exact leads_value (v := .int .i64 (j : Int)) (by go_simp) ⟨rfl, hC⟩
          refine ⟨ObS.of_val rfl (fun x v => rfl) (fun x V k hC hD => ?_), ?_⟩
          · have e8 : x 8 = .slice (some ⟨b, off, none⟩) l.length cap := hD.1 rfl
            have e9 : x 9 = .int .i64 (j : Int) := hD.2.1 rfl
            clear hD
            refine want_yes rfl ?_
            exact leads_value (v := .pointer (some ⟨b, off + j * 5, none⟩)) (by go_simp) ⟨rfl, hC⟩
          refine ⟨ObS.of_val rfl (fun x v => rfl) (fun x V k hC hD => ?_), ?_⟩
          · have e10 : x 10 = .pointer (some ⟨b, off + j * 5, none⟩) := hD.1 rfl
            clear hD
            refine want_yes rfl ?_
            exact leads_value (v := .pointer (some ⟨b, off + j * 5 + 3, none⟩)) (by go_simp) ⟨rfl, hC⟩
          refine ⟨ObS.of_val rfl (fun x v => rfl) (fun x V k hC hD => ?_), ?_⟩
          · have e11 : x 11 = .pointer (some ⟨b, off + j * 5 + 3, none⟩) := hD.1 rfl
            clear hD
            refine want_yes rfl ?_
            have k0 := HC3.out V hC.below
            exact leads_value (v := .int .i64 qm) (by go_simp) ⟨rfl, hC⟩
          refine ⟨ObS.of_turn rfl (fun x v => rfl) (fun x V hC hD => ?_), ?_⟩
          · have e7 : x 7 = .pointer (some ⟨bx, 0, none⟩) := hD.1 rfl
            have e12 : x 12 = .int .i64 qm := hD.2.1 rfl
            have e6 : x 6 = .string ⟨d.toArray⟩ := hD.2.2.1 rfl
            clear hD
            refine want_yes rfl ?_
            exact leads_enter2 (by go_simp) (HT2.out V hC)
          refine ⟨ObS.of_val rfl (fun x v => rfl) (fun x V k hC hD => ?_), ?_⟩
          · have e6 : x 6 = .string ⟨d.toArray⟩ := hD.1 rfl
            have e13 : x 13 = .string ⟨d.toArray⟩ := hD.2.1 rfl
            clear hD
            refine want_yes rfl ?_
            exact leads_value (v := .bool false) (by go_simp) ⟨rfl, hC⟩
          trivial
        · intro xa Va hC hx
          have e14 : xa 14 = .bool false := hx 14 (by simp)
          have HB1 := Lib.hid (show Both w br g bx gx L S S Va from hC)
          clear hx hC
          rw [e14]
          clear e14
          by_cases hat : (j : Int) = at_
          · have b0 : ((j : Int) == at_) = true := by simpa using hat
            clear hat
            go_wp2_with fail
            refine (rdfail_any br _ g S bad _ HB1.out.rd HFar.out.gr).mono ?_
            rintro e w3 ⟨rfl, hR⟩
            have hB2 := HB1.out.first HFar.out hR
            have d2 := hB2.cell
            have f2 := hB2.free
            by_cases he : S.2 = 0
            · have b1 : (S.2 == 0) = true := by simpa using he
              have HB3 := Lib.hid (hB2.bad HFar.out he bad)
              clear he hB2 hR
              go_wp2_with fail
              clear d2 f2 b1
              generalize (w3.setCell ⟨bx, 2, none⟩ (.int .i64 bad)) = W at *
              generalize failS S bad = T at *
              have HLe := Lib.hid (fun V (hV : Both w br g bx gx L T T V) => (show Calls Try.prog 20 #[.pointer (some ⟨br, 0, none⟩)] V fun e w'' => ∃ u, e = .returned u ∧ u = .int .i64 (T.1.length : Nat) ∧ Both w br g bx gx L T T w'' from (rdleft_any br _ g T V hV.rd).mono fun e w'' ⟨he, hw⟩ => ⟨_, he, rfl, hw ▸ hV⟩))
              have HXl := Lib.hid (fun V (hV : Both w br g bx gx L T T V) => (show Calls Try.prog 21 #[.pointer (some ⟨bx, 0, none⟩)] V fun e w'' => ∃ u, e = .returned u ∧ u = .int .i64 (T.1.length : Nat) ∧ Both w br g bx gx L T T w'' from (xleft_any bx _ gx L T V hV.xd (by have := HL.out; omega)).mono fun e w'' ⟨he, n, hw⟩ => ⟨_, he, rfl, hw ▸ hV.drewN n⟩))
              have HEr := Lib.hid (fun V (hV : Both w br g bx gx L T T V) => (show Calls Try.prog 22 #[.pointer (some ⟨br, 0, none⟩)] V fun e w'' => ∃ u, e = .returned u ∧ u = .int .i64 T.2 ∧ Both w br g bx gx L T T w'' from (rderr_any br _ g T V hV.rd).mono fun e w'' ⟨he, hw⟩ => ⟨_, he, rfl, hw ▸ hV⟩))
              have T1 := Lib.hid HB3.out.drew
              refine wp_region_S (fun _ V => Both w br g bx gx L T T V) 0 [.val (.pointer (some ⟨br, 0, none⟩)), .val (.int .i64 (T.1.length : Nat)), .val (.pointer (some ⟨bx, 0, none⟩)), .val (.int .i64 (T.1.length : Nat)), .val (.bool false), .val (.bool false), .val (.pointer (some ⟨br, 0, none⟩)), .val (.int .i64 T.2), .val (.pointer (some ⟨bx, 0, none⟩)), .val (.pointer (some ⟨bx, 0, none⟩)), .val (.pointer (some ⟨bx, 2, none⟩)), .val (.int .i64 T.2), .val (.bool false), .val (.bool false)]
                (fun x => { tmps := #[.slice a0 L.length cap0, .slice (some ⟨b, off, none⟩) l.length cap, .int .i64 at_, .int .i64 bad, undef, undef, undef, undef, u8, .pointer (some ⟨br, 0, none⟩), .pointer (some ⟨bx, 0, none⟩), .int .i64 (j : Int), .slice (some ⟨b, off, none⟩) l.length cap, .bool false, .bool false, .slice a0 L.length cap0, .int .i64 (L.length : Int), .bool (decide (3000 < (L.length : Int))), .bool (decide (3000 < (L.length : Int))), undef, .slice a0 L.length cap0, .pointer (some ⟨br, 0, none⟩), .slice a0 L.length cap0, .agg #[.slice a0 L.length cap0, .int .i64 0, .int .i64 0], .pointer (some ⟨bx, 0, none⟩), .pointer (some ⟨br, 0, none⟩), .bool false, .int .i64 (j : Int), .slice (some ⟨b, off, none⟩) l.length cap, .int .i64 (l.length : Int), .bool true, u31, u32, .slice (some ⟨b, off, none⟩) l.length cap, .int .i64 (j : Int), .pointer (some ⟨b, off + j * 5, none⟩), .pointer (some ⟨b, off + j * 5, none⟩), .bool true, xa 0, xa 1, xa 2, xa 3, xa 4, xa 5, xa 6, xa 7, xa 8, xa 9, xa 10, xa 11, xa 12, xa 13, .bool false, u53, u54, u55, u56, u57, u58, u59, u60, u61, u62, u63, u64, u65, u66, u67, u68, u69, u70, u71, u72, u73, u74, u75, u76, u77, .int .i64 (j : Int), .int .i64 at_, .bool true, .pointer (some ⟨br, 0, none⟩), .int .i64 bad, .tuple #[], .pointer (some ⟨bx, 0, none⟩), .pointer (some ⟨bx, 0, none⟩), .pointer (some ⟨bx, 2, none⟩), .int .i64 S.snd, .bool true, .pointer (some ⟨bx, 0, none⟩), .int .i64 bad, .pointer (some ⟨bx, 0, none⟩), .pointer (some ⟨bx, 2, none⟩), x 0, x 1, x 2, x 3, x 4, x 5, x 6, x 7, x 8, x 9, x 10, x 11, x 12, x 13, undef], defers := [] }) (fun i => ([u93, u94, u95, u96, u97, u98, u99, u100, u101, u102, u103, u104, u105, u106] : List Value).getD i undef) (by kernel_rfl) rfl rfl (by kernel_rfl) (by kernel_rfl) (by kernel_rfl) (by kernel_rfl) (T1.out) ?_ ?_
              · refine ⟨ObS.of_val rfl (fun x v => rfl) (fun x V k hC hD => ?_), ?_⟩
                · clear hD
                  refine want_yes rfl ?_
                  exact leads_value (v := .pointer (some ⟨br, 0, none⟩)) (by go_simp) ⟨rfl, hC⟩
                refine ⟨ObS.of_val rfl (fun x v => rfl) (fun x V k hC hD => ?_), ?_⟩
                · have e0 : x 0 = .pointer (some ⟨br, 0, none⟩) := hD.1 rfl
                  clear hD
                  refine want_yes rfl ?_
                  exact leads_enter2 (by go_simp) (HLe.out V hC)
                refine ⟨ObS.of_val rfl (fun x v => rfl) (fun x V k hC hD => ?_), ?_⟩
                · clear hD
                  refine want_yes rfl ?_
                  exact leads_value (v := .pointer (some ⟨bx, 0, none⟩)) (by go_simp) ⟨rfl, hC⟩
                refine ⟨ObS.of_val rfl (fun x v => rfl) (fun x V k hC hD => ?_), ?_⟩
                · have e2 : x 2 = .pointer (some ⟨bx, 0, none⟩) := hD.1 rfl
                  have e1 : x 1 = .int .i64 (T.1.length : Nat) := hD.2.1 rfl
                  clear hD
                  refine want_yes rfl ?_
                  exact leads_enter2 (by go_simp) (HXl.out V hC)
                refine ⟨ObS.of_val rfl (fun x v => rfl) (fun x V k hC hD => ?_), ?_⟩
                · have e1 : x 1 = .int .i64 (T.1.length : Nat) := hD.1 rfl
                  have e3 : x 3 = .int .i64 (T.1.length : Nat) := hD.2.1 rfl
                  clear hD
                  refine want_yes rfl ?_
                  exact leads_value (v := .bool false) (by go_simp) ⟨rfl, hC⟩
                refine ⟨ObS.of_val rfl (fun x v => rfl) (fun x V k hC hD => ?_), ?_⟩
                · have e4 : x 4 = .bool false := hD.1 rfl
                  have e3 : x 3 = .int .i64 (T.1.length : Nat) := hD.2.1 rfl
                  clear hD
                  refine want_yes rfl ?_
                  exact leads_value (v := .bool false) (by go_simp) ⟨rfl, hC⟩
                refine ⟨ObS.of_val rfl (fun x v => rfl) (fun x V k hC hD => ?_), ?_⟩
                · have e5 : x 5 = .bool false := hD.1 rfl
                  clear hD
                  refine want_yes (by simp [Region.wanted, yielded, e5]) ?_
                  exact leads_value (v := .pointer (some ⟨br, 0, none⟩)) (by go_simp) ⟨rfl, hC⟩
                refine ⟨ObS.of_val rfl (fun x v => rfl) (fun x V k hC hD => ?_), ?_⟩
                · have e6 : x 6 = .pointer (some ⟨br, 0, none⟩) := hD.1 rfl
                  have e5 : x 5 = .bool false := hD.2.1 rfl
                  clear hD
                  refine want_yes (by simp [Region.wanted, yielded, e5]) ?_
                  exact leads_enter2 (by go_simp) (HEr.out V hC)
                refine ⟨ObS.of_val rfl (fun x v => rfl) (fun x V k hC hD => ?_), ?_⟩
                · have e5 : x 5 = .bool false := hD.1 rfl
                  clear hD
                  refine want_yes (by simp [Region.wanted, yielded, e5]) ?_
                  exact leads_value (v := .pointer (some ⟨bx, 0, none⟩)) (by go_simp) ⟨rfl, hC⟩
                refine ⟨ObS.of_val rfl (fun x v => rfl) (fun x V k hC hD => ?_), ?_⟩
                · have e8 : x 8 = .pointer (some ⟨bx, 0, none⟩) := hD.1 rfl
                  have e5 : x 5 = .bool false := hD.2.1 rfl
                  clear hD
                  refine want_yes (by simp [Region.wanted, yielded, e5]) ?_
                  exact leads_value (v := .pointer (some ⟨bx, 0, none⟩)) (by go_simp) ⟨rfl, hC⟩
                refine ⟨ObS.of_val rfl (fun x v => rfl) (fun x V k hC hD => ?_), ?_⟩
                · have e9 : x 9 = .pointer (some ⟨bx, 0, none⟩) := hD.1 rfl
                  have e5 : x 5 = .bool false := hD.2.1 rfl
                  clear hD
                  refine want_yes (by simp [Region.wanted, yielded, e5]) ?_
                  exact leads_value (v := .pointer (some ⟨bx, 2, none⟩)) (by go_simp) ⟨rfl, hC⟩
                refine ⟨ObS.of_val rfl (fun x v => rfl) (fun x V k hC hD => ?_), ?_⟩
                · have e10 : x 10 = .pointer (some ⟨bx, 2, none⟩) := hD.1 rfl
                  have e5 : x 5 = .bool false := hD.2.1 rfl
                  clear hD
                  refine want_yes (by simp [Region.wanted, yielded, e5]) ?_
                  have k0 : V.cell? ⟨bx, 2, none⟩ = some (.int .i64 T.2) := hC.cell
                  exact leads_value (v := .int .i64 T.2) (by go_simp) ⟨rfl, hC⟩
                refine ⟨ObS.of_val rfl (fun x v => rfl) (fun x V k hC hD => ?_), ?_⟩
                · have e7 : x 7 = .int .i64 T.2 := hD.1 rfl
                  have e11 : x 11 = .int .i64 T.2 := hD.2.1 rfl
                  have e5 : x 5 = .bool false := hD.2.2.1 rfl
                  clear hD
                  refine want_yes (by simp [Region.wanted, yielded, e5]) ?_
                  exact leads_value (v := .bool false) (by go_simp) ⟨rfl, hC⟩
                refine ⟨ObS.of_val rfl (fun x v => rfl) (fun x V k hC hD => ?_), ?_⟩
                · have e5 : x 5 = .bool false := hD.1 rfl
                  have e12 : x 12 = .bool false := hD.2.1 rfl
                  clear hD
                  refine want_yes rfl ?_
                  exact leads_value (v := .bool false) (by go_simp) ⟨rfl, hC⟩
                trivial
              · intro xb Vb hC hx
                have e13 : xb 13 = .bool false := hx 13 (by simp)
                have HB4 := Lib.hid (show Both w br g bx gx L T T Vb from hC)
                clear hx hC
                rw [e13]
                clear e13
                go_wp2_with fail
                go_roundw
                case rel => exact ⟨j + 1, T, by omega, by go_num, HB4.out⟩
                case measure => simp [intOf]; omega
            · have b1 : (S.2 == 0) = false := by simpa using he
              have HB3 := Lib.hid (show Both w br g bx gx L (failS S bad) (failS S bad) w3 by
                have e1 : failS S bad = S := by unfold failS; rw [if_neg (fun x => he x.1)]
                rw [e1] at hB2 ⊢; exact hB2)
              clear he hB2 hR
              go_wp2_with fail
              clear d2 f2 b1
              generalize w3 = W at *
              generalize failS S bad = T at *
              have HLe := Lib.hid (fun V (hV : Both w br g bx gx L T T V) => (show Calls Try.prog 20 #[.pointer (some ⟨br, 0, none⟩)] V fun e w'' => ∃ u, e = .returned u ∧ u = .int .i64 (T.1.length : Nat) ∧ Both w br g bx gx L T T w'' from (rdleft_any br _ g T V hV.rd).mono fun e w'' ⟨he, hw⟩ => ⟨_, he, rfl, hw ▸ hV⟩))
              have HXl := Lib.hid (fun V (hV : Both w br g bx gx L T T V) => (show Calls Try.prog 21 #[.pointer (some ⟨bx, 0, none⟩)] V fun e w'' => ∃ u, e = .returned u ∧ u = .int .i64 (T.1.length : Nat) ∧ Both w br g bx gx L T T w'' from (xleft_any bx _ gx L T V hV.xd (by have := HL.out; omega)).mono fun e w'' ⟨he, n, hw⟩ => ⟨_, he, rfl, hw ▸ hV.drewN n⟩))
              have HEr := Lib.hid (fun V (hV : Both w br g bx gx L T T V) => (show Calls Try.prog 22 #[.pointer (some ⟨br, 0, none⟩)] V fun e w'' => ∃ u, e = .returned u ∧ u = .int .i64 T.2 ∧ Both w br g bx gx L T T w'' from (rderr_any br _ g T V hV.rd).mono fun e w'' ⟨he, hw⟩ => ⟨_, he, rfl, hw ▸ hV⟩))
              have T1 := Lib.hid HB3.out.drew
              refine wp_region_S (fun _ V => Both w br g bx gx L T T V) 0 [.val (.pointer (some ⟨br, 0, none⟩)), .val (.int .i64 (T.1.length : Nat)), .val (.pointer (some ⟨bx, 0, none⟩)), .val (.int .i64 (T.1.length : Nat)), .val (.bool false), .val (.bool false), .val (.pointer (some ⟨br, 0, none⟩)), .val (.int .i64 T.2), .val (.pointer (some ⟨bx, 0, none⟩)), .val (.pointer (some ⟨bx, 0, none⟩)), .val (.pointer (some ⟨bx, 2, none⟩)), .val (.int .i64 T.2), .val (.bool false), .val (.bool false)]
                (fun x => { tmps := #[.slice a0 L.length cap0, .slice (some ⟨b, off, none⟩) l.length cap, .int .i64 at_, .int .i64 bad, undef, undef, undef, undef, u8, .pointer (some ⟨br, 0, none⟩), .pointer (some ⟨bx, 0, none⟩), .int .i64 (j : Int), .slice (some ⟨b, off, none⟩) l.length cap, .bool false, .bool false, .slice a0 L.length cap0, .int .i64 (L.length : Int), .bool (decide (3000 < (L.length : Int))), .bool (decide (3000 < (L.length : Int))), undef, .slice a0 L.length cap0, .pointer (some ⟨br, 0, none⟩), .slice a0 L.length cap0, .agg #[.slice a0 L.length cap0, .int .i64 0, .int .i64 0], .pointer (some ⟨bx, 0, none⟩), .pointer (some ⟨br, 0, none⟩), .bool false, .int .i64 (j : Int), .slice (some ⟨b, off, none⟩) l.length cap, .int .i64 (l.length : Int), .bool true, u31, u32, .slice (some ⟨b, off, none⟩) l.length cap, .int .i64 (j : Int), .pointer (some ⟨b, off + j * 5, none⟩), .pointer (some ⟨b, off + j * 5, none⟩), .bool true, xa 0, xa 1, xa 2, xa 3, xa 4, xa 5, xa 6, xa 7, xa 8, xa 9, xa 10, xa 11, xa 12, xa 13, .bool false, u53, u54, u55, u56, u57, u58, u59, u60, u61, u62, u63, u64, u65, u66, u67, u68, u69, u70, u71, u72, u73, u74, u75, u76, u77, .int .i64 (j : Int), .int .i64 at_, .bool true, .pointer (some ⟨br, 0, none⟩), .int .i64 bad, .tuple #[], .pointer (some ⟨bx, 0, none⟩), .pointer (some ⟨bx, 0, none⟩), .pointer (some ⟨bx, 2, none⟩), .int .i64 S.snd, .bool false, u89, u90, u91, u92, x 0, x 1, x 2, x 3, x 4, x 5, x 6, x 7, x 8, x 9, x 10, x 11, x 12, x 13, undef], defers := [] }) (fun i => ([u93, u94, u95, u96, u97, u98, u99, u100, u101, u102, u103, u104, u105, u106] : List Value).getD i undef) (by kernel_rfl) rfl rfl (by kernel_rfl) (by kernel_rfl) (by kernel_rfl) (by kernel_rfl) (T1.out) ?_ ?_
              · refine ⟨ObS.of_val rfl (fun x v => rfl) (fun x V k hC hD => ?_), ?_⟩
                · clear hD
                  refine want_yes rfl ?_
                  exact leads_value (v := .pointer (some ⟨br, 0, none⟩)) (by go_simp) ⟨rfl, hC⟩
                refine ⟨ObS.of_val rfl (fun x v => rfl) (fun x V k hC hD => ?_), ?_⟩
                · have e0 : x 0 = .pointer (some ⟨br, 0, none⟩) := hD.1 rfl
                  clear hD
                  refine want_yes rfl ?_
                  exact leads_enter2 (by go_simp) (HLe.out V hC)
                refine ⟨ObS.of_val rfl (fun x v => rfl) (fun x V k hC hD => ?_), ?_⟩
                · clear hD
                  refine want_yes rfl ?_
                  exact leads_value (v := .pointer (some ⟨bx, 0, none⟩)) (by go_simp) ⟨rfl, hC⟩
                refine ⟨ObS.of_val rfl (fun x v => rfl) (fun x V k hC hD => ?_), ?_⟩
                · have e2 : x 2 = .pointer (some ⟨bx, 0, none⟩) := hD.1 rfl
                  have e1 : x 1 = .int .i64 (T.1.length : Nat) := hD.2.1 rfl
                  clear hD
                  refine want_yes rfl ?_
                  exact leads_enter2 (by go_simp) (HXl.out V hC)
                refine ⟨ObS.of_val rfl (fun x v => rfl) (fun x V k hC hD => ?_), ?_⟩
                · have e1 : x 1 = .int .i64 (T.1.length : Nat) := hD.1 rfl
                  have e3 : x 3 = .int .i64 (T.1.length : Nat) := hD.2.1 rfl
                  clear hD
                  refine want_yes rfl ?_
                  exact leads_value (v := .bool false) (by go_simp) ⟨rfl, hC⟩
                refine ⟨ObS.of_val rfl (fun x v => rfl) (fun x V k hC hD => ?_), ?_⟩
                · have e4 : x 4 = .bool false := hD.1 rfl
                  have e3 : x 3 = .int .i64 (T.1.length : Nat) := hD.2.1 rfl
                  clear hD
                  refine want_yes rfl ?_
                  exact leads_value (v := .bool false) (by go_simp) ⟨rfl, hC⟩
                refine ⟨ObS.of_val rfl (fun x v => rfl) (fun x V k hC hD => ?_), ?_⟩
                · have e5 : x 5 = .bool false := hD.1 rfl
                  clear hD
                  refine want_yes (by simp [Region.wanted, yielded, e5]) ?_
                  exact leads_value (v := .pointer (some ⟨br, 0, none⟩)) (by go_simp) ⟨rfl, hC⟩
                refine ⟨ObS.of_val rfl (fun x v => rfl) (fun x V k hC hD => ?_), ?_⟩
                · have e6 : x 6 = .pointer (some ⟨br, 0, none⟩) := hD.1 rfl
                  have e5 : x 5 = .bool false := hD.2.1 rfl
                  clear hD
                  refine want_yes (by simp [Region.wanted, yielded, e5]) ?_
                  exact leads_enter2 (by go_simp) (HEr.out V hC)
                refine ⟨ObS.of_val rfl (fun x v => rfl) (fun x V k hC hD => ?_), ?_⟩
                · have e5 : x 5 = .bool false := hD.1 rfl
                  clear hD
                  refine want_yes (by simp [Region.wanted, yielded, e5]) ?_
                  exact leads_value (v := .pointer (some ⟨bx, 0, none⟩)) (by go_simp) ⟨rfl, hC⟩
                refine ⟨ObS.of_val rfl (fun x v => rfl) (fun x V k hC hD => ?_), ?_⟩
                · have e8 : x 8 = .pointer (some ⟨bx, 0, none⟩) := hD.1 rfl
                  have e5 : x 5 = .bool false := hD.2.1 rfl
                  clear hD
                  refine want_yes (by simp [Region.wanted, yielded, e5]) ?_
                  exact leads_value (v := .pointer (some ⟨bx, 0, none⟩)) (by go_simp) ⟨rfl, hC⟩
                refine ⟨ObS.of_val rfl (fun x v => rfl) (fun x V k hC hD => ?_), ?_⟩
                · have e9 : x 9 = .pointer (some ⟨bx, 0, none⟩) := hD.1 rfl
                  have e5 : x 5 = .bool false := hD.2.1 rfl
                  clear hD
                  refine want_yes (by simp [Region.wanted, yielded, e5]) ?_
                  exact leads_value (v := .pointer (some ⟨bx, 2, none⟩)) (by go_simp) ⟨rfl, hC⟩
                refine ⟨ObS.of_val rfl (fun x v => rfl) (fun x V k hC hD => ?_), ?_⟩
                · have e10 : x 10 = .pointer (some ⟨bx, 2, none⟩) := hD.1 rfl
                  have e5 : x 5 = .bool false := hD.2.1 rfl
                  clear hD
                  refine want_yes (by simp [Region.wanted, yielded, e5]) ?_
                  have k0 : V.cell? ⟨bx, 2, none⟩ = some (.int .i64 T.2) := hC.cell
                  exact leads_value (v := .int .i64 T.2) (by go_simp) ⟨rfl, hC⟩
                refine ⟨ObS.of_val rfl (fun x v => rfl) (fun x V k hC hD => ?_), ?_⟩
                · have e7 : x 7 = .int .i64 T.2 := hD.1 rfl
                  have e11 : x 11 = .int .i64 T.2 := hD.2.1 rfl
                  have e5 : x 5 = .bool false := hD.2.2.1 rfl
                  clear hD
                  refine want_yes (by simp [Region.wanted, yielded, e5]) ?_
                  exact leads_value (v := .bool false) (by go_simp) ⟨rfl, hC⟩
                refine ⟨ObS.of_val rfl (fun x v => rfl) (fun x V k hC hD => ?_), ?_⟩
                · have e5 : x 5 = .bool false := hD.1 rfl
                  have e12 : x 12 = .bool false := hD.2.1 rfl
                  clear hD
                  refine want_yes rfl ?_
                  exact leads_value (v := .bool false) (by go_simp) ⟨rfl, hC⟩
                trivial
              · intro xb Vb hC hx
                have e13 : xb 13 = .bool false := hx 13 (by simp)
                have HB4 := Lib.hid (show Both w br g bx gx L T T Vb from hC)
                clear hx hC
                rw [e13]
                clear e13
                go_wp2_with fail
                go_roundw
                case rel => exact ⟨j + 1, T, by omega, by go_num, HB4.out⟩
                case measure => simp [intOf]; omega
          · have b0 : ((j : Int) == at_) = false := by simpa using hat
            have HB3 := Lib.hid HB1.out
            clear hat
            go_wp2_with fail
            generalize Va = W at *
            generalize S = T at *
            have HLe := Lib.hid (fun V (hV : Both w br g bx gx L T T V) => (show Calls Try.prog 20 #[.pointer (some ⟨br, 0, none⟩)] V fun e w'' => ∃ u, e = .returned u ∧ u = .int .i64 (T.1.length : Nat) ∧ Both w br g bx gx L T T w'' from (rdleft_any br _ g T V hV.rd).mono fun e w'' ⟨he, hw⟩ => ⟨_, he, rfl, hw ▸ hV⟩))
            have HXl := Lib.hid (fun V (hV : Both w br g bx gx L T T V) => (show Calls Try.prog 21 #[.pointer (some ⟨bx, 0, none⟩)] V fun e w'' => ∃ u, e = .returned u ∧ u = .int .i64 (T.1.length : Nat) ∧ Both w br g bx gx L T T w'' from (xleft_any bx _ gx L T V hV.xd (by have := HL.out; omega)).mono fun e w'' ⟨he, n, hw⟩ => ⟨_, he, rfl, hw ▸ hV.drewN n⟩))
            have HEr := Lib.hid (fun V (hV : Both w br g bx gx L T T V) => (show Calls Try.prog 22 #[.pointer (some ⟨br, 0, none⟩)] V fun e w'' => ∃ u, e = .returned u ∧ u = .int .i64 T.2 ∧ Both w br g bx gx L T T w'' from (rderr_any br _ g T V hV.rd).mono fun e w'' ⟨he, hw⟩ => ⟨_, he, rfl, hw ▸ hV⟩))
            have T1 := Lib.hid HB3.out.drew
            refine wp_region_S (fun _ V => Both w br g bx gx L T T V) 0 [.val (.pointer (some ⟨br, 0, none⟩)), .val (.int .i64 (T.1.length : Nat)), .val (.pointer (some ⟨bx, 0, none⟩)), .val (.int .i64 (T.1.length : Nat)), .val (.bool false), .val (.bool false), .val (.pointer (some ⟨br, 0, none⟩)), .val (.int .i64 T.2), .val (.pointer (some ⟨bx, 0, none⟩)), .val (.pointer (some ⟨bx, 0, none⟩)), .val (.pointer (some ⟨bx, 2, none⟩)), .val (.int .i64 T.2), .val (.bool false), .val (.bool false)]
              (fun x => { tmps := #[.slice a0 L.length cap0, .slice (some ⟨b, off, none⟩) l.length cap, .int .i64 at_, .int .i64 bad, undef, undef, undef, undef, u8, .pointer (some ⟨br, 0, none⟩), .pointer (some ⟨bx, 0, none⟩), .int .i64 (j : Int), .slice (some ⟨b, off, none⟩) l.length cap, .bool false, .bool false, .slice a0 L.length cap0, .int .i64 (L.length : Int), .bool (decide (3000 < (L.length : Int))), .bool (decide (3000 < (L.length : Int))), undef, .slice a0 L.length cap0, .pointer (some ⟨br, 0, none⟩), .slice a0 L.length cap0, .agg #[.slice a0 L.length cap0, .int .i64 0, .int .i64 0], .pointer (some ⟨bx, 0, none⟩), .pointer (some ⟨br, 0, none⟩), .bool false, .int .i64 (j : Int), .slice (some ⟨b, off, none⟩) l.length cap, .int .i64 (l.length : Int), .bool true, u31, u32, .slice (some ⟨b, off, none⟩) l.length cap, .int .i64 (j : Int), .pointer (some ⟨b, off + j * 5, none⟩), .pointer (some ⟨b, off + j * 5, none⟩), .bool true, xa 0, xa 1, xa 2, xa 3, xa 4, xa 5, xa 6, xa 7, xa 8, xa 9, xa 10, xa 11, xa 12, xa 13, .bool false, u53, u54, u55, u56, u57, u58, u59, u60, u61, u62, u63, u64, u65, u66, u67, u68, u69, u70, u71, u72, u73, u74, u75, u76, u77, .int .i64 (j : Int), .int .i64 at_, .bool false, u81, u82, u83, u84, u85, u86, u87, u88, u89, u90, u91, u92, x 0, x 1, x 2, x 3, x 4, x 5, x 6, x 7, x 8, x 9, x 10, x 11, x 12, x 13, undef], defers := [] }) (fun i => ([u93, u94, u95, u96, u97, u98, u99, u100, u101, u102, u103, u104, u105, u106] : List Value).getD i undef) (by kernel_rfl) rfl rfl (by kernel_rfl) (by kernel_rfl) (by kernel_rfl) (by kernel_rfl) (T1.out) ?_ ?_
            · refine ⟨ObS.of_val rfl (fun x v => rfl) (fun x V k hC hD => ?_), ?_⟩
              · clear hD
                refine want_yes rfl ?_
                exact leads_value (v := .pointer (some ⟨br, 0, none⟩)) (by go_simp) ⟨rfl, hC⟩
              refine ⟨ObS.of_val rfl (fun x v => rfl) (fun x V k hC hD => ?_), ?_⟩
              · have e0 : x 0 = .pointer (some ⟨br, 0, none⟩) := hD.1 rfl
                clear hD
                refine want_yes rfl ?_
                exact leads_enter2 (by go_simp) (HLe.out V hC)
              refine ⟨ObS.of_val rfl (fun x v => rfl) (fun x V k hC hD => ?_), ?_⟩
              · clear hD
                refine want_yes rfl ?_
                exact leads_value (v := .pointer (some ⟨bx, 0, none⟩)) (by go_simp) ⟨rfl, hC⟩
              refine ⟨ObS.of_val rfl (fun x v => rfl) (fun x V k hC hD => ?_), ?_⟩
              · have e2 : x 2 = .pointer (some ⟨bx, 0, none⟩) := hD.1 rfl
                have e1 : x 1 = .int .i64 (T.1.length : Nat) := hD.2.1 rfl
                clear hD
                refine want_yes rfl ?_
                exact leads_enter2 (by go_simp) (HXl.out V hC)
              refine ⟨ObS.of_val rfl (fun x v => rfl) (fun x V k hC hD => ?_), ?_⟩
              · have e1 : x 1 = .int .i64 (T.1.length : Nat) := hD.1 rfl
                have e3 : x 3 = .int .i64 (T.1.length : Nat) := hD.2.1 rfl
                clear hD
                refine want_yes rfl ?_
                exact leads_value (v := .bool false) (by go_simp) ⟨rfl, hC⟩
              refine ⟨ObS.of_val rfl (fun x v => rfl) (fun x V k hC hD => ?_), ?_⟩
              · have e4 : x 4 = .bool false := hD.1 rfl
                have e3 : x 3 = .int .i64 (T.1.length : Nat) := hD.2.1 rfl
                clear hD
                refine want_yes rfl ?_
                exact leads_value (v := .bool false) (by go_simp) ⟨rfl, hC⟩
              refine ⟨ObS.of_val rfl (fun x v => rfl) (fun x V k hC hD => ?_), ?_⟩
              · have e5 : x 5 = .bool false := hD.1 rfl
                clear hD
                refine want_yes (by simp [Region.wanted, yielded, e5]) ?_
                exact leads_value (v := .pointer (some ⟨br, 0, none⟩)) (by go_simp) ⟨rfl, hC⟩
              refine ⟨ObS.of_val rfl (fun x v => rfl) (fun x V k hC hD => ?_), ?_⟩
              · have e6 : x 6 = .pointer (some ⟨br, 0, none⟩) := hD.1 rfl
                have e5 : x 5 = .bool false := hD.2.1 rfl
                clear hD
                refine want_yes (by simp [Region.wanted, yielded, e5]) ?_
                exact leads_enter2 (by go_simp) (HEr.out V hC)
              refine ⟨ObS.of_val rfl (fun x v => rfl) (fun x V k hC hD => ?_), ?_⟩
              · have e5 : x 5 = .bool false := hD.1 rfl
                clear hD
                refine want_yes (by simp [Region.wanted, yielded, e5]) ?_
                exact leads_value (v := .pointer (some ⟨bx, 0, none⟩)) (by go_simp) ⟨rfl, hC⟩
              refine ⟨ObS.of_val rfl (fun x v => rfl) (fun x V k hC hD => ?_), ?_⟩
              · have e8 : x 8 = .pointer (some ⟨bx, 0, none⟩) := hD.1 rfl
                have e5 : x 5 = .bool false := hD.2.1 rfl
                clear hD
                refine want_yes (by simp [Region.wanted, yielded, e5]) ?_
                exact leads_value (v := .pointer (some ⟨bx, 0, none⟩)) (by go_simp) ⟨rfl, hC⟩
              refine ⟨ObS.of_val rfl (fun x v => rfl) (fun x V k hC hD => ?_), ?_⟩
              · have e9 : x 9 = .pointer (some ⟨bx, 0, none⟩) := hD.1 rfl
                have e5 : x 5 = .bool false := hD.2.1 rfl
                clear hD
                refine want_yes (by simp [Region.wanted, yielded, e5]) ?_
                exact leads_value (v := .pointer (some ⟨bx, 2, none⟩)) (by go_simp) ⟨rfl, hC⟩
              refine ⟨ObS.of_val rfl (fun x v => rfl) (fun x V k hC hD => ?_), ?_⟩
              · have e10 : x 10 = .pointer (some ⟨bx, 2, none⟩) := hD.1 rfl
                have e5 : x 5 = .bool false := hD.2.1 rfl
                clear hD
                refine want_yes (by simp [Region.wanted, yielded, e5]) ?_
                have k0 : V.cell? ⟨bx, 2, none⟩ = some (.int .i64 T.2) := hC.cell
                exact leads_value (v := .int .i64 T.2) (by go_simp) ⟨rfl, hC⟩
              refine ⟨ObS.of_val rfl (fun x v => rfl) (fun x V k hC hD => ?_), ?_⟩
              · have e7 : x 7 = .int .i64 T.2 := hD.1 rfl
                have e11 : x 11 = .int .i64 T.2 := hD.2.1 rfl
                have e5 : x 5 = .bool false := hD.2.2.1 rfl
                clear hD
                refine want_yes (by simp [Region.wanted, yielded, e5]) ?_
                exact leads_value (v := .bool false) (by go_simp) ⟨rfl, hC⟩
              refine ⟨ObS.of_val rfl (fun x v => rfl) (fun x V k hC hD => ?_), ?_⟩
              · have e5 : x 5 = .bool false := hD.1 rfl
                have e12 : x 12 = .bool false := hD.2.1 rfl
                clear hD
                refine want_yes rfl ?_
                exact leads_value (v := .bool false) (by go_simp) ⟨rfl, hC⟩
              trivial
            · intro xb Vb hC hx
              have e13 : xb 13 = .bool false := hx 13 (by simp)
              have HB4 := Lib.hid (show Both w br g bx gx L T T Vb from hC)
              clear hx hC
              rw [e13]
              clear e13
              go_wp2_with fail
              go_roundw
              case rel => exact ⟨j + 1, T, by omega, by go_num, HB4.out⟩
              case measure => simp [intOf]; omega
      | false =>
        have HT1 := Lib.hid (fun V (hV : Both w br g bx gx L s s V) => (show Calls Try.prog 17 #[.pointer (some ⟨br, 0, none⟩), .int .i64 qz, .int .i64 qm] V fun e w'' => ∃ u, e = .returned u ∧ u = .int .i64 (dNum s qz qm).1 ∧ Both w br g bx gx L (dNum s qz qm).2 s w'' from
          (rdnum_any br _ g s qz qm V hV.rd HFar.out.gr HLs.out).mono fun e w'' ⟨he, hR⟩ => ⟨_, he, rfl, hV.first HFar.out hR⟩))
        have HT2 := Lib.hid (fun V (hV : Both w br g bx gx L (dNum s qz qm).2 s V) => (show Calls Try.prog 18 #[.pointer (some ⟨bx, 0, none⟩), .int .i64 qz, .int .i64 qm] V fun e w'' => ∃ u, e = .returned u ∧ u = .int .i64 (dNum s qz qm).1 ∧ Both w br g bx gx L (dNum s qz qm).2 (dNum s qz qm).2 w'' from
          (xnum_any bx _ gx L s qz qm V hV.xd HFar.out.xx (by have := HL.out; omega)).mono fun e w'' ⟨he, hX⟩ => ⟨_, he, rfl, hV.second HFar.out hX⟩))
        generalize dNum s qz qm = D at *
        obtain ⟨d, S⟩ := D
        simp only at HT1 HT2
        have T0 := Lib.hid HB.out.drew
        go_wp2_with fail
        refine wp_region_S (fun k V => Both w br g bx gx L (turnSt s S S k) (turnSt s s S k) V) 2 [.val (.pointer (some ⟨br, 0, none⟩)), .val (.slice (some ⟨b, off, none⟩) l.length cap), .val (.int .i64 (j : Int)), .val (.pointer (some ⟨b, off + j * 5, none⟩)), .val (.pointer (some ⟨b, off + j * 5 + 2, none⟩)), .val (.int .i64 qz), .val (.slice (some ⟨b, off, none⟩) l.length cap), .val (.int .i64 (j : Int)), .val (.pointer (some ⟨b, off + j * 5, none⟩)), .val (.pointer (some ⟨b, off + j * 5 + 3, none⟩)), .val (.int .i64 qm), .turn 0 (.int .i64 d), .val (.pointer (some ⟨bx, 0, none⟩)), .val (.slice (some ⟨b, off, none⟩) l.length cap), .val (.int .i64 (j : Int)), .val (.pointer (some ⟨b, off + j * 5, none⟩)), .val (.pointer (some ⟨b, off + j * 5 + 2, none⟩)), .val (.int .i64 qz), .val (.slice (some ⟨b, off, none⟩) l.length cap), .val (.int .i64 (j : Int)), .val (.pointer (some ⟨b, off + j * 5, none⟩)), .val (.pointer (some ⟨b, off + j * 5 + 3, none⟩)), .val (.int .i64 qm), .turn 1 (.int .i64 d), .val (.bool false)]
          (fun x => { tmps := #[.slice a0 L.length cap0, .slice (some ⟨b, off, none⟩) l.length cap, .int .i64 at_, .int .i64 bad, undef, undef, undef, undef, u8, .pointer (some ⟨br, 0, none⟩), .pointer (some ⟨bx, 0, none⟩), .int .i64 (j : Int), .slice (some ⟨b, off, none⟩) l.length cap, .bool false, .bool false, .slice a0 L.length cap0, .int .i64 (L.length : Int), .bool (decide (3000 < (L.length : Int))), .bool (decide (3000 < (L.length : Int))), undef, .slice a0 L.length cap0, .pointer (some ⟨br, 0, none⟩), .slice a0 L.length cap0, .agg #[.slice a0 L.length cap0, .int .i64 0, .int .i64 0], .pointer (some ⟨bx, 0, none⟩), .pointer (some ⟨br, 0, none⟩), .bool false, .int .i64 (j : Int), .slice (some ⟨b, off, none⟩) l.length cap, .int .i64 (l.length : Int), .bool true, u31, u32, .slice (some ⟨b, off, none⟩) l.length cap, .int .i64 (j : Int), .pointer (some ⟨b, off + j * 5, none⟩), .pointer (some ⟨b, off + j * 5, none⟩), .bool false, u38, u39, u40, u41, u42, u43, u44, u45, u46, u47, u48, u49, u50, u51, u52, x 0, x 1, x 2, x 3, x 4, x 5, x 6, x 7, x 8, x 9, x 10, x 11, x 12, x 13, x 14, x 15, x 16, x 17, x 18, x 19, x 20, x 21, x 22, x 23, x 24, u78, u79, u80, u81, u82, u83, u84, u85, u86, u87, u88, u89, u90, u91, u92, u93, u94, u95, u96, u97, u98, u99, u100, u101, u102, u103, u104, u105, u106, undef], defers := [] }) (fun i => ([u53, u54, u55, u56, u57, u58, u59, u60, u61, u62, u63, u64, u65, u66, u67, u68, u69, u70, u71, u72, u73, u74, u75, u76, u77] : List Value).getD i undef) (by kernel_rfl) rfl rfl (by kernel_rfl) (by kernel_rfl) (by kernel_rfl) (by kernel_rfl) (T0.out) ?_ ?_
        · refine ⟨ObS.of_val rfl (fun x v => rfl) (fun x V k hC hD => ?_), ?_⟩
          · clear hD
            refine want_yes rfl ?_
            exact leads_value (v := .pointer (some ⟨br, 0, none⟩)) (by go_simp) ⟨rfl, hC⟩
          refine ⟨ObS.of_val rfl (fun x v => rfl) (fun x V k hC hD => ?_), ?_⟩
          · clear hD
            refine want_yes rfl ?_
            exact leads_value (v := .slice (some ⟨b, off, none⟩) l.length cap) (by go_simp) ⟨rfl, hC⟩
          refine ⟨ObS.of_val rfl (fun x v => rfl) (fun x V k hC hD => ?_), ?_⟩
          · clear hD
            refine want_yes rfl ?_
            exact leads_value (v := .int .i64 (j : Int)) (by go_simp) ⟨rfl, hC⟩
          refine ⟨ObS.of_val rfl (fun x v => rfl) (fun x V k hC hD => ?_), ?_⟩
          · have e1 : x 1 = .slice (some ⟨b, off, none⟩) l.length cap := hD.1 rfl
            have e2 : x 2 = .int .i64 (j : Int) := hD.2.1 rfl
            clear hD
            refine want_yes rfl ?_
            exact leads_value (v := .pointer (some ⟨b, off + j * 5, none⟩)) (by go_simp) ⟨rfl, hC⟩
          refine ⟨ObS.of_val rfl (fun x v => rfl) (fun x V k hC hD => ?_), ?_⟩
          · have e3 : x 3 = .pointer (some ⟨b, off + j * 5, none⟩) := hD.1 rfl
            clear hD
            refine want_yes rfl ?_
            exact leads_value (v := .pointer (some ⟨b, off + j * 5 + 2, none⟩)) (by go_simp) ⟨rfl, hC⟩
          refine ⟨ObS.of_val rfl (fun x v => rfl) (fun x V k hC hD => ?_), ?_⟩
          · have e4 : x 4 = .pointer (some ⟨b, off + j * 5 + 2, none⟩) := hD.1 rfl
            clear hD
            refine want_yes rfl ?_
            have k0 := HC2.out V hC.below
            exact leads_value (v := .int .i64 qz) (by go_simp) ⟨rfl, hC⟩
          refine ⟨ObS.of_val rfl (fun x v => rfl) (fun x V k hC hD => ?_), ?_⟩
          · clear hD
            refine want_yes rfl ?_
            exact leads_value (v := .slice (some ⟨b, off, none⟩) l.length cap) (by go_simp) ⟨rfl, hC⟩
          refine ⟨ObS.of_val rfl (fun x v => rfl) (fun x V k hC hD => ?_), ?_⟩
          · clear hD
            refine want_yes rfl ?_
            exact leads_value (v := .int .i64 (j : Int)) (by go_simp) ⟨rfl, hC⟩
          refine ⟨ObS.of_val rfl (fun x v => rfl) (fun x V k hC hD => ?_), ?_⟩
          · have e6 : x 6 = .slice (some ⟨b, off, none⟩) l.length cap := hD.1 rfl
            have e7 : x 7 = .int .i64 (j : Int) := hD.2.1 rfl
            clear hD
            refine want_yes rfl ?_
            exact leads_value (v := .pointer (some ⟨b, off + j * 5, none⟩)) (by go_simp) ⟨rfl, hC⟩
          refine ⟨ObS.of_val rfl (fun x v => rfl) (fun x V k hC hD => ?_), ?_⟩
          · have e8 : x 8 = .pointer (some ⟨b, off + j * 5, none⟩) := hD.1 rfl
            clear hD
            refine want_yes rfl ?_
            exact leads_value (v := .pointer (some ⟨b, off + j * 5 + 3, none⟩)) (by go_simp) ⟨rfl, hC⟩
          refine ⟨ObS.of_val rfl (fun x v => rfl) (fun x V k hC hD => ?_), ?_⟩
          · have e9 : x 9 = .pointer (some ⟨b, off + j * 5 + 3, none⟩) := hD.1 rfl
            clear hD
            refine want_yes rfl ?_
            have k0 := HC3.out V hC.below
            exact leads_value (v := .int .i64 qm) (by go_simp) ⟨rfl, hC⟩
          refine ⟨ObS.of_turn rfl (fun x v => rfl) (fun x V hC hD => ?_), ?_⟩
          · have e0 : x 0 = .pointer (some ⟨br, 0, none⟩) := hD.1 rfl
            have e5 : x 5 = .int .i64 qz := hD.2.1 rfl
            have e10 : x 10 = .int .i64 qm := hD.2.2.1 rfl
            clear hD
            refine want_yes rfl ?_
            exact leads_enter2 (by go_simp) (HT1.out V hC)
          refine ⟨ObS.of_val rfl (fun x v => rfl) (fun x V k hC hD => ?_), ?_⟩
          · clear hD
            refine want_yes rfl ?_
            exact leads_value (v := .pointer (some ⟨bx, 0, none⟩)) (by go_simp) ⟨rfl, hC⟩
          refine ⟨ObS.of_val rfl (fun x v => rfl) (fun x V k hC hD => ?_), ?_⟩
          · clear hD
            refine want_yes rfl ?_
            exact leads_value (v := .slice (some ⟨b, off, none⟩) l.length cap) (by go_simp) ⟨rfl, hC⟩
          refine ⟨ObS.of_val rfl (fun x v => rfl) (fun x V k hC hD => ?_), ?_⟩
          · clear hD
            refine want_yes rfl ?_
            exact leads_value (v := .int .i64 (j : Int)) (by go_simp) ⟨rfl, hC⟩
          refine ⟨ObS.of_val rfl (fun x v => rfl) (fun x V k hC hD => ?_), ?_⟩
          · have e13 : x 13 = .slice (some ⟨b, off, none⟩) l.length cap := hD.1 rfl
            have e14 : x 14 = .int .i64 (j : Int) := hD.2.1 rfl
            clear hD
            refine want_yes rfl ?_
            exact leads_value (v := .pointer (some ⟨b, off + j * 5, none⟩)) (by go_simp) ⟨rfl, hC⟩
          refine ⟨ObS.of_val rfl (fun x v => rfl) (fun x V k hC hD => ?_), ?_⟩
          · have e15 : x 15 = .pointer (some ⟨b, off + j * 5, none⟩) := hD.1 rfl
            clear hD
            refine want_yes rfl ?_
            exact leads_value (v := .pointer (some ⟨b, off + j * 5 + 2, none⟩)) (by go_simp) ⟨rfl, hC⟩
          refine ⟨ObS.of_val rfl (fun x v => rfl) (fun x V k hC hD => ?_), ?_⟩
          · have e16 : x 16 = .pointer (some ⟨b, off + j * 5 + 2, none⟩) := hD.1 rfl
            clear hD
            refine want_yes rfl ?_
            have k0 := HC2.out V hC.below
            exact leads_value (v := .int .i64 qz) (by go_simp) ⟨rfl, hC⟩
          refine ⟨ObS.of_val rfl (fun x v => rfl) (fun x V k hC hD => ?_), ?_⟩
          · clear hD
            refine want_yes rfl ?_
            exact leads_value (v := .slice (some ⟨b, off, none⟩) l.length cap) (by go_simp) ⟨rfl, hC⟩
          refine ⟨ObS.of_val rfl (fun x v => rfl) (fun x V k hC hD => ?_), ?_⟩
          · clear hD
            refine want_yes rfl ?_
            exact leads_value (v := .int .i64 (j : Int)) (by go_simp) ⟨rfl, hC⟩
          refine ⟨ObS.of_val rfl (fun x v => rfl) (fun x V k hC hD => ?_), ?_⟩
          · have e18 : x 18 = .slice (some ⟨b, off, none⟩) l.length cap := hD.1 rfl
            have e19 : x 19 = .int .i64 (j : Int) := hD.2.1 rfl
            clear hD
            refine want_yes rfl ?_
            exact leads_value (v := .pointer (some ⟨b, off + j * 5, none⟩)) (by go_simp) ⟨rfl, hC⟩
          refine ⟨ObS.of_val rfl (fun x v => rfl) (fun x V k hC hD => ?_), ?_⟩
          · have e20 : x 20 = .pointer (some ⟨b, off + j * 5, none⟩) := hD.1 rfl
            clear hD
            refine want_yes rfl ?_
            exact leads_value (v := .pointer (some ⟨b, off + j * 5 + 3, none⟩)) (by go_simp) ⟨rfl, hC⟩
          refine ⟨ObS.of_val rfl (fun x v => rfl) (fun x V k hC hD => ?_), ?_⟩
          · have e21 : x 21 = .pointer (some ⟨b, off + j * 5 + 3, none⟩) := hD.1 rfl
            clear hD
            refine want_yes rfl ?_
            have k0 := HC3.out V hC.below
            exact leads_value (v := .int .i64 qm) (by go_simp) ⟨rfl, hC⟩
          refine ⟨ObS.of_turn rfl (fun x v => rfl) (fun x V hC hD => ?_), ?_⟩
          · have e12 : x 12 = .pointer (some ⟨bx, 0, none⟩) := hD.1 rfl
            have e17 : x 17 = .int .i64 qz := hD.2.1 rfl
            have e22 : x 22 = .int .i64 qm := hD.2.2.1 rfl
            have e11 : x 11 = .int .i64 d := hD.2.2.2.1 rfl
            clear hD
            refine want_yes rfl ?_
            exact leads_enter2 (by go_simp) (HT2.out V hC)
          refine ⟨ObS.of_val rfl (fun x v => rfl) (fun x V k hC hD => ?_), ?_⟩
          · have e11 : x 11 = .int .i64 d := hD.1 rfl
            have e23 : x 23 = .int .i64 d := hD.2.1 rfl
            clear hD
            refine want_yes rfl ?_
            exact leads_value (v := .bool false) (by go_simp) ⟨rfl, hC⟩
          trivial
        · intro xa Va hC hx
          have e24 : xa 24 = .bool false := hx 24 (by simp)
          have HB1 := Lib.hid (show Both w br g bx gx L S S Va from hC)
          clear hx hC
          rw [e24]
          clear e24
          by_cases hat : (j : Int) = at_
          · have b0 : ((j : Int) == at_) = true := by simpa using hat
            clear hat
            go_wp2_with fail
            refine (rdfail_any br _ g S bad _ HB1.out.rd HFar.out.gr).mono ?_
            rintro e w3 ⟨rfl, hR⟩
            have hB2 := HB1.out.first HFar.out hR
            have d2 := hB2.cell
            have f2 := hB2.free
            by_cases he : S.2 = 0
            · have b1 : (S.2 == 0) = true := by simpa using he
              have HB3 := Lib.hid (hB2.bad HFar.out he bad)
              clear he hB2 hR
              go_wp2_with fail
              clear d2 f2 b1
              generalize (w3.setCell ⟨bx, 2, none⟩ (.int .i64 bad)) = W at *
              generalize failS S bad = T at *
              have HLe := Lib.hid (fun V (hV : Both w br g bx gx L T T V) => (show Calls Try.prog 20 #[.pointer (some ⟨br, 0, none⟩)] V fun e w'' => ∃ u, e = .returned u ∧ u = .int .i64 (T.1.length : Nat) ∧ Both w br g bx gx L T T w'' from (rdleft_any br _ g T V hV.rd).mono fun e w'' ⟨he, hw⟩ => ⟨_, he, rfl, hw ▸ hV⟩))
              have HXl := Lib.hid (fun V (hV : Both w br g bx gx L T T V) => (show Calls Try.prog 21 #[.pointer (some ⟨bx, 0, none⟩)] V fun e w'' => ∃ u, e = .returned u ∧ u = .int .i64 (T.1.length : Nat) ∧ Both w br g bx gx L T T w'' from (xleft_any bx _ gx L T V hV.xd (by have := HL.out; omega)).mono fun e w'' ⟨he, n, hw⟩ => ⟨_, he, rfl, hw ▸ hV.drewN n⟩))
              have HEr := Lib.hid (fun V (hV : Both w br g bx gx L T T V) => (show Calls Try.prog 22 #[.pointer (some ⟨br, 0, none⟩)] V fun e w'' => ∃ u, e = .returned u ∧ u = .int .i64 T.2 ∧ Both w br g bx gx L T T w'' from (rderr_any br _ g T V hV.rd).mono fun e w'' ⟨he, hw⟩ => ⟨_, he, rfl, hw ▸ hV⟩))
              have T1 := Lib.hid HB3.out.drew
              refine wp_region_S (fun _ V => Both w br g bx gx L T T V) 0 [.val (.pointer (some ⟨br, 0, none⟩)), .val (.int .i64 (T.1.length : Nat)), .val (.pointer (some ⟨bx, 0, none⟩)), .val (.int .i64 (T.1.length : Nat)), .val (.bool false), .val (.bool false), .val (.pointer (some ⟨br, 0, none⟩)), .val (.int .i64 T.2), .val (.pointer (some ⟨bx, 0, none⟩)), .val (.pointer (some ⟨bx, 0, none⟩)), .val (.pointer (some ⟨bx, 2, none⟩)), .val (.int .i64 T.2), .val (.bool false), .val (.bool false)]
                (fun x => { tmps := #[.slice a0 L.length cap0, .slice (some ⟨b, off, none⟩) l.length cap, .int .i64 at_, .int .i64 bad, undef, undef, undef, undef, u8, .pointer (some ⟨br, 0, none⟩), .pointer (some ⟨bx, 0, none⟩), .int .i64 (j : Int), .slice (some ⟨b, off, none⟩) l.length cap, .bool false, .bool false, .slice a0 L.length cap0, .int .i64 (L.length : Int), .bool (decide (3000 < (L.length : Int))), .bool (decide (3000 < (L.length : Int))), undef, .slice a0 L.length cap0, .pointer (some ⟨br, 0, none⟩), .slice a0 L.length cap0, .agg #[.slice a0 L.length cap0, .int .i64 0, .int .i64 0], .pointer (some ⟨bx, 0, none⟩), .pointer (some ⟨br, 0, none⟩), .bool false, .int .i64 (j : Int), .slice (some ⟨b, off, none⟩) l.length cap, .int .i64 (l.length : Int), .bool true, u31, u32, .slice (some ⟨b, off, none⟩) l.length cap, .int .i64 (j : Int), .pointer (some ⟨b, off + j * 5, none⟩), .pointer (some ⟨b, off + j * 5, none⟩), .bool false, u38, u39, u40, u41, u42, u43, u44, u45, u46, u47, u48, u49, u50, u51, u52, xa 0, xa 1, xa 2, xa 3, xa 4, xa 5, xa 6, xa 7, xa 8, xa 9, xa 10, xa 11, xa 12, xa 13, xa 14, xa 15, xa 16, xa 17, xa 18, xa 19, xa 20, xa 21, xa 22, xa 23, .bool false, .int .i64 (j : Int), .int .i64 at_, .bool true, .pointer (some ⟨br, 0, none⟩), .int .i64 bad, .tuple #[], .pointer (some ⟨bx, 0, none⟩), .pointer (some ⟨bx, 0, none⟩), .pointer (some ⟨bx, 2, none⟩), .int .i64 S.snd, .bool true, .pointer (some ⟨bx, 0, none⟩), .int .i64 bad, .pointer (some ⟨bx, 0, none⟩), .pointer (some ⟨bx, 2, none⟩), x 0, x 1, x 2, x 3, x 4, x 5, x 6, x 7, x 8, x 9, x 10, x 11, x 12, x 13, undef], defers := [] }) (fun i => ([u93, u94, u95, u96, u97, u98, u99, u100, u101, u102, u103, u104, u105, u106] : List Value).getD i undef) (by kernel_rfl) rfl rfl (by kernel_rfl) (by kernel_rfl) (by kernel_rfl) (by kernel_rfl) (T1.out) ?_ ?_
              · refine ⟨ObS.of_val rfl (fun x v => rfl) (fun x V k hC hD => ?_), ?_⟩
                · clear hD
                  refine want_yes rfl ?_
                  exact leads_value (v := .pointer (some ⟨br, 0, none⟩)) (by go_simp) ⟨rfl, hC⟩
                refine ⟨ObS.of_val rfl (fun x v => rfl) (fun x V k hC hD => ?_), ?_⟩
                · have e0 : x 0 = .pointer (some ⟨br, 0, none⟩) := hD.1 rfl
                  clear hD
                  refine want_yes rfl ?_
                  exact leads_enter2 (by go_simp) (HLe.out V hC)
                refine ⟨ObS.of_val rfl (fun x v => rfl) (fun x V k hC hD => ?_), ?_⟩
                · clear hD
                  refine want_yes rfl ?_
                  exact leads_value (v := .pointer (some ⟨bx, 0, none⟩)) (by go_simp) ⟨rfl, hC⟩
                refine ⟨ObS.of_val rfl (fun x v => rfl) (fun x V k hC hD => ?_), ?_⟩
                · have e2 : x 2 = .pointer (some ⟨bx, 0, none⟩) := hD.1 rfl
                  have e1 : x 1 = .int .i64 (T.1.length : Nat) := hD.2.1 rfl
                  clear hD
                  refine want_yes rfl ?_
                  exact leads_enter2 (by go_simp) (HXl.out V hC)
                refine ⟨ObS.of_val rfl (fun x v => rfl) (fun x V k hC hD => ?_), ?_⟩
                · have e1 : x 1 = .int .i64 (T.1.length : Nat) := hD.1 rfl
                  have e3 : x 3 = .int .i64 (T.1.length : Nat) := hD.2.1 rfl
                  clear hD
                  refine want_yes rfl ?_
                  exact leads_value (v := .bool false) (by go_simp) ⟨rfl, hC⟩
                refine ⟨ObS.of_val rfl (fun x v => rfl) (fun x V k hC hD => ?_), ?_⟩
                · have e4 : x 4 = .bool false := hD.1 rfl
                  have e3 : x 3 = .int .i64 (T.1.length : Nat) := hD.2.1 rfl
                  clear hD
                  refine want_yes rfl ?_
                  exact leads_value (v := .bool false) (by go_simp) ⟨rfl, hC⟩
                refine ⟨ObS.of_val rfl (fun x v => rfl) (fun x V k hC hD => ?_), ?_⟩
                · have e5 : x 5 = .bool false := hD.1 rfl
                  clear hD
                  refine want_yes (by simp [Region.wanted, yielded, e5]) ?_
                  exact leads_value (v := .pointer (some ⟨br, 0, none⟩)) (by go_simp) ⟨rfl, hC⟩
                refine ⟨ObS.of_val rfl (fun x v => rfl) (fun x V k hC hD => ?_), ?_⟩
                · have e6 : x 6 = .pointer (some ⟨br, 0, none⟩) := hD.1 rfl
                  have e5 : x 5 = .bool false := hD.2.1 rfl
                  clear hD
                  refine want_yes (by simp [Region.wanted, yielded, e5]) ?_
                  exact leads_enter2 (by go_simp) (HEr.out V hC)
                refine ⟨ObS.of_val rfl (fun x v => rfl) (fun x V k hC hD => ?_), ?_⟩
                · have e5 : x 5 = .bool false := hD.1 rfl
                  clear hD
                  refine want_yes (by simp [Region.wanted, yielded, e5]) ?_
                  exact leads_value (v := .pointer (some ⟨bx, 0, none⟩)) (by go_simp) ⟨rfl, hC⟩
                refine ⟨ObS.of_val rfl (fun x v => rfl) (fun x V k hC hD => ?_), ?_⟩
                · have e8 : x 8 = .pointer (some ⟨bx, 0, none⟩) := hD.1 rfl
                  have e5 : x 5 = .bool false := hD.2.1 rfl
                  clear hD
                  refine want_yes (by simp [Region.wanted, yielded, e5]) ?_
                  exact leads_value (v := .pointer (some ⟨bx, 0, none⟩)) (by go_simp) ⟨rfl, hC⟩
                refine ⟨ObS.of_val rfl (fun x v => rfl) (fun x V k hC hD => ?_), ?_⟩
                · have e9 : x 9 = .pointer (some ⟨bx, 0, none⟩) := hD.1 rfl
                  have e5 : x 5 = .bool false := hD.2.1 rfl
                  clear hD
                  refine want_yes (by simp [Region.wanted, yielded, e5]) ?_
                  exact leads_value (v := .pointer (some ⟨bx, 2, none⟩)) (by go_simp) ⟨rfl, hC⟩
                refine ⟨ObS.of_val rfl (fun x v => rfl) (fun x V k hC hD => ?_), ?_⟩
                · have e10 : x 10 = .pointer (some ⟨bx, 2, none⟩) := hD.1 rfl
                  have e5 : x 5 = .bool false := hD.2.1 rfl
                  clear hD
                  refine want_yes (by simp [Region.wanted, yielded, e5]) ?_
                  have k0 : V.cell? ⟨bx, 2, none⟩ = some (.int .i64 T.2) := hC.cell
                  exact leads_value (v := .int .i64 T.2) (by go_simp) ⟨rfl, hC⟩
                refine ⟨ObS.of_val rfl (fun x v => rfl) (fun x V k hC hD => ?_), ?_⟩
                · have e7 : x 7 = .int .i64 T.2 := hD.1 rfl
                  have e11 : x 11 = .int .i64 T.2 := hD.2.1 rfl
                  have e5 : x 5 = .bool false := hD.2.2.1 rfl
                  clear hD
                  refine want_yes (by simp [Region.wanted, yielded, e5]) ?_
                  exact leads_value (v := .bool false) (by go_simp) ⟨rfl, hC⟩
                refine ⟨ObS.of_val rfl (fun x v => rfl) (fun x V k hC hD => ?_), ?_⟩
                · have e5 : x 5 = .bool false := hD.1 rfl
                  have e12 : x 12 = .bool false := hD.2.1 rfl
                  clear hD
                  refine want_yes rfl ?_
                  exact leads_value (v := .bool false) (by go_simp) ⟨rfl, hC⟩
                trivial
              · intro xb Vb hC hx
                have e13 : xb 13 = .bool false := hx 13 (by simp)
                have HB4 := Lib.hid (show Both w br g bx gx L T T Vb from hC)
                clear hx hC
                rw [e13]
                clear e13
                go_wp2_with fail
                go_roundw
                case rel => exact ⟨j + 1, T, by omega, by go_num, HB4.out⟩
                case measure => simp [intOf]; omega
            · have b1 : (S.2 == 0) = false := by simpa using he
              have HB3 := Lib.hid (show Both w br g bx gx L (failS S bad) (failS S bad) w3 by
                have e1 : failS S bad = S := by unfold failS; rw [if_neg (fun x => he x.1)]
                rw [e1] at hB2 ⊢; exact hB2)
              clear he hB2 hR
              go_wp2_with fail
              clear d2 f2 b1
              generalize w3 = W at *
              generalize failS S bad = T at *
              have HLe := Lib.hid (fun V (hV : Both w br g bx gx L T T V) => (show Calls Try.prog 20 #[.pointer (some ⟨br, 0, none⟩)] V fun e w'' => ∃ u, e = .returned u ∧ u = .int .i64 (T.1.length : Nat) ∧ Both w br g bx gx L T T w'' from (rdleft_any br _ g T V hV.rd).mono fun e w'' ⟨he, hw⟩ => ⟨_, he, rfl, hw ▸ hV⟩))
              have HXl := Lib.hid (fun V (hV : Both w br g bx gx L T T V) => (show Calls Try.prog 21 #[.pointer (some ⟨bx, 0, none⟩)] V fun e w'' => ∃ u, e = .returned u ∧ u = .int .i64 (T.1.length : Nat) ∧ Both w br g bx gx L T T w'' from (xleft_any bx _ gx L T V hV.xd (by have := HL.out; omega)).mono fun e w'' ⟨he, n, hw⟩ => ⟨_, he, rfl, hw ▸ hV.drewN n⟩))
              have HEr := Lib.hid (fun V (hV : Both w br g bx gx L T T V) => (show Calls Try.prog 22 #[.pointer (some ⟨br, 0, none⟩)] V fun e w'' => ∃ u, e = .returned u ∧ u = .int .i64 T.2 ∧ Both w br g bx gx L T T w'' from (rderr_any br _ g T V hV.rd).mono fun e w'' ⟨he, hw⟩ => ⟨_, he, rfl, hw ▸ hV⟩))
              have T1 := Lib.hid HB3.out.drew
              refine wp_region_S (fun _ V => Both w br g bx gx L T T V) 0 [.val (.pointer (some ⟨br, 0, none⟩)), .val (.int .i64 (T.1.length : Nat)), .val (.pointer (some ⟨bx, 0, none⟩)), .val (.int .i64 (T.1.length : Nat)), .val (.bool false), .val (.bool false), .val (.pointer (some ⟨br, 0, none⟩)), .val (.int .i64 T.2), .val (.pointer (some ⟨bx, 0, none⟩)), .val (.pointer (some ⟨bx, 0, none⟩)), .val (.pointer (some ⟨bx, 2, none⟩)), .val (.int .i64 T.2), .val (.bool false), .val (.bool false)]
                (fun x => { tmps := #[.slice a0 L.length cap0, .slice (some ⟨b, off, none⟩) l.length cap, .int .i64 at_, .int .i64 bad, undef, undef, undef, undef, u8, .pointer (some ⟨br, 0, none⟩), .pointer (some ⟨bx, 0, none⟩), .int .i64 (j : Int), .slice (some ⟨b, off, none⟩) l.length cap, .bool false, .bool false, .slice a0 L.length cap0, .int .i64 (L.length : Int), .bool (decide (3000 < (L.length : Int))), .bool (decide (3000 < (L.length : Int))), undef, .slice a0 L.length cap0, .pointer (some ⟨br, 0, none⟩), .slice a0 L.length cap0, .agg #[.slice a0 L.length cap0, .int .i64 0, .int .i64 0], .pointer (some ⟨bx, 0, none⟩), .pointer (some ⟨br, 0, none⟩), .bool false, .int .i64 (j : Int), .slice (some ⟨b, off, none⟩) l.length cap, .int .i64 (l.length : Int), .bool true, u31, u32, .slice (some ⟨b, off, none⟩) l.length cap, .int .i64 (j : Int), .pointer (some ⟨b, off + j * 5, none⟩), .pointer (some ⟨b, off + j * 5, none⟩), .bool false, u38, u39, u40, u41, u42, u43, u44, u45, u46, u47, u48, u49, u50, u51, u52, xa 0, xa 1, xa 2, xa 3, xa 4, xa 5, xa 6, xa 7, xa 8, xa 9, xa 10, xa 11, xa 12, xa 13, xa 14, xa 15, xa 16, xa 17, xa 18, xa 19, xa 20, xa 21, xa 22, xa 23, .bool false, .int .i64 (j : Int), .int .i64 at_, .bool true, .pointer (some ⟨br, 0, none⟩), .int .i64 bad, .tuple #[], .pointer (some ⟨bx, 0, none⟩), .pointer (some ⟨bx, 0, none⟩), .pointer (some ⟨bx, 2, none⟩), .int .i64 S.snd, .bool false, u89, u90, u91, u92, x 0, x 1, x 2, x 3, x 4, x 5, x 6, x 7, x 8, x 9, x 10, x 11, x 12, x 13, undef], defers := [] }) (fun i => ([u93, u94, u95, u96, u97, u98, u99, u100, u101, u102, u103, u104, u105, u106] : List Value).getD i undef) (by kernel_rfl) rfl rfl (by kernel_rfl) (by kernel_rfl) (by kernel_rfl) (by kernel_rfl) (T1.out) ?_ ?_
              · refine ⟨ObS.of_val rfl (fun x v => rfl) (fun x V k hC hD => ?_), ?_⟩
                · clear hD
                  refine want_yes rfl ?_
                  exact leads_value (v := .pointer (some ⟨br, 0, none⟩)) (by go_simp) ⟨rfl, hC⟩
                refine ⟨ObS.of_val rfl (fun x v => rfl) (fun x V k hC hD => ?_), ?_⟩
                · have e0 : x 0 = .pointer (some ⟨br, 0, none⟩) := hD.1 rfl
                  clear hD
                  refine want_yes rfl ?_
                  exact leads_enter2 (by go_simp) (HLe.out V hC)
                refine ⟨ObS.of_val rfl (fun x v => rfl) (fun x V k hC hD => ?_), ?_⟩
                · clear hD
                  refine want_yes rfl ?_
                  exact leads_value (v := .pointer (some ⟨bx, 0, none⟩)) (by go_simp) ⟨rfl, hC⟩
                refine ⟨ObS.of_val rfl (fun x v => rfl) (fun x V k hC hD => ?_), ?_⟩
                · have e2 : x 2 = .pointer (some ⟨bx, 0, none⟩) := hD.1 rfl
                  have e1 : x 1 = .int .i64 (T.1.length : Nat) := hD.2.1 rfl
                  clear hD
                  refine want_yes rfl ?_
                  exact leads_enter2 (by go_simp) (HXl.out V hC)
                refine ⟨ObS.of_val rfl (fun x v => rfl) (fun x V k hC hD => ?_), ?_⟩
                · have e1 : x 1 = .int .i64 (T.1.length : Nat) := hD.1 rfl
                  have e3 : x 3 = .int .i64 (T.1.length : Nat) := hD.2.1 rfl
                  clear hD
                  refine want_yes rfl ?_
                  exact leads_value (v := .bool false) (by go_simp) ⟨rfl, hC⟩
                refine ⟨ObS.of_val rfl (fun x v => rfl) (fun x V k hC hD => ?_), ?_⟩
                · have e4 : x 4 = .bool false := hD.1 rfl
                  have e3 : x 3 = .int .i64 (T.1.length : Nat) := hD.2.1 rfl
                  clear hD
                  refine want_yes rfl ?_
                  exact leads_value (v := .bool false) (by go_simp) ⟨rfl, hC⟩
                refine ⟨ObS.of_val rfl (fun x v => rfl) (fun x V k hC hD => ?_), ?_⟩
                · have e5 : x 5 = .bool false := hD.1 rfl
                  clear hD
                  refine want_yes (by simp [Region.wanted, yielded, e5]) ?_
                  exact leads_value (v := .pointer (some ⟨br, 0, none⟩)) (by go_simp) ⟨rfl, hC⟩
                refine ⟨ObS.of_val rfl (fun x v => rfl) (fun x V k hC hD => ?_), ?_⟩
                · have e6 : x 6 = .pointer (some ⟨br, 0, none⟩) := hD.1 rfl
                  have e5 : x 5 = .bool false := hD.2.1 rfl
                  clear hD
                  refine want_yes (by simp [Region.wanted, yielded, e5]) ?_
                  exact leads_enter2 (by go_simp) (HEr.out V hC)
                refine ⟨ObS.of_val rfl (fun x v => rfl) (fun x V k hC hD => ?_), ?_⟩
                · have e5 : x 5 = .bool false := hD.1 rfl
                  clear hD
                  refine want_yes (by simp [Region.wanted, yielded, e5]) ?_
                  exact leads_value (v := .pointer (some ⟨bx, 0, none⟩)) (by go_simp) ⟨rfl, hC⟩
                refine ⟨ObS.of_val rfl (fun x v => rfl) (fun x V k hC hD => ?_), ?_⟩
                · have e8 : x 8 = .pointer (some ⟨bx, 0, none⟩) := hD.1 rfl
                  have e5 : x 5 = .bool false := hD.2.1 rfl
                  clear hD
                  refine want_yes (by simp [Region.wanted, yielded, e5]) ?_
                  exact leads_value (v := .pointer (some ⟨bx, 0, none⟩)) (by go_simp) ⟨rfl, hC⟩
                refine ⟨ObS.of_val rfl (fun x v => rfl) (fun x V k hC hD => ?_), ?_⟩
                · have e9 : x 9 = .pointer (some ⟨bx, 0, none⟩) := hD.1 rfl
                  have e5 : x 5 = .bool false := hD.2.1 rfl
                  clear hD
                  refine want_yes (by simp [Region.wanted, yielded, e5]) ?_
                  exact leads_value (v := .pointer (some ⟨bx, 2, none⟩)) (by go_simp) ⟨rfl, hC⟩
                refine ⟨ObS.of_val rfl (fun x v => rfl) (fun x V k hC hD => ?_), ?_⟩
                · have e10 : x 10 = .pointer (some ⟨bx, 2, none⟩) := hD.1 rfl
                  have e5 : x 5 = .bool false := hD.2.1 rfl
                  clear hD
                  refine want_yes (by simp [Region.wanted, yielded, e5]) ?_
                  have k0 : V.cell? ⟨bx, 2, none⟩ = some (.int .i64 T.2) := hC.cell
                  exact leads_value (v := .int .i64 T.2) (by go_simp) ⟨rfl, hC⟩
                refine ⟨ObS.of_val rfl (fun x v => rfl) (fun x V k hC hD => ?_), ?_⟩
                · have e7 : x 7 = .int .i64 T.2 := hD.1 rfl
                  have e11 : x 11 = .int .i64 T.2 := hD.2.1 rfl
                  have e5 : x 5 = .bool false := hD.2.2.1 rfl
                  clear hD
                  refine want_yes (by simp [Region.wanted, yielded, e5]) ?_
                  exact leads_value (v := .bool false) (by go_simp) ⟨rfl, hC⟩
                refine ⟨ObS.of_val rfl (fun x v => rfl) (fun x V k hC hD => ?_), ?_⟩
                · have e5 : x 5 = .bool false := hD.1 rfl
                  have e12 : x 12 = .bool false := hD.2.1 rfl
                  clear hD
                  refine want_yes rfl ?_
                  exact leads_value (v := .bool false) (by go_simp) ⟨rfl, hC⟩
                trivial
              · intro xb Vb hC hx
                have e13 : xb 13 = .bool false := hx 13 (by simp)
                have HB4 := Lib.hid (show Both w br g bx gx L T T Vb from hC)
                clear hx hC
                rw [e13]
                clear e13
                go_wp2_with fail
                go_roundw
                case rel => exact ⟨j + 1, T, by omega, by go_num, HB4.out⟩
                case measure => simp [intOf]; omega
          · have b0 : ((j : Int) == at_) = false := by simpa using hat
            have HB3 := Lib.hid HB1.out
            clear hat
            go_wp2_with fail
            generalize Va = W at *
            generalize S = T at *
            have HLe := Lib.hid (fun V (hV : Both w br g bx gx L T T V) => (show Calls Try.prog 20 #[.pointer (some ⟨br, 0, none⟩)] V fun e w'' => ∃ u, e = .returned u ∧ u = .int .i64 (T.1.length : Nat) ∧ Both w br g bx gx L T T w'' from (rdleft_any br _ g T V hV.rd).mono fun e w'' ⟨he, hw⟩ => ⟨_, he, rfl, hw ▸ hV⟩))
            have HXl := Lib.hid (fun V (hV : Both w br g bx gx L T T V) => (show Calls Try.prog 21 #[.pointer (some ⟨bx, 0, none⟩)] V fun e w'' => ∃ u, e = .returned u ∧ u = .int .i64 (T.1.length : Nat) ∧ Both w br g bx gx L T T w'' from (xleft_any bx _ gx L T V hV.xd (by have := HL.out; omega)).mono fun e w'' ⟨he, n, hw⟩ => ⟨_, he, rfl, hw ▸ hV.drewN n⟩))
            have HEr := Lib.hid (fun V (hV : Both w br g bx gx L T T V) => (show Calls Try.prog 22 #[.pointer (some ⟨br, 0, none⟩)] V fun e w'' => ∃ u, e = .returned u ∧ u = .int .i64 T.2 ∧ Both w br g bx gx L T T w'' from (rderr_any br _ g T V hV.rd).mono fun e w'' ⟨he, hw⟩ => ⟨_, he, rfl, hw ▸ hV⟩))
            have T1 := Lib.hid HB3.out.drew
            refine wp_region_S (fun _ V => Both w br g bx gx L T T V) 0 [.val (.pointer (some ⟨br, 0, none⟩)), .val (.int .i64 (T.1.length : Nat)), .val (.pointer (some ⟨bx, 0, none⟩)), .val (.int .i64 (T.1.length : Nat)), .val (.bool false), .val (.bool false), .val (.pointer (some ⟨br, 0, none⟩)), .val (.int .i64 T.2), .val (.pointer (some ⟨bx, 0, none⟩)), .val (.pointer (some ⟨bx, 0, none⟩)), .val (.pointer (some ⟨bx, 2, none⟩)), .val (.int .i64 T.2), .val (.bool false), .val (.bool false)]
              (fun x => { tmps := #[.slice a0 L.length cap0, .slice (some ⟨b, off, none⟩) l.length cap, .int .i64 at_, .int .i64 bad, undef, undef, undef, undef, u8, .pointer (some ⟨br, 0, none⟩), .pointer (some ⟨bx, 0, none⟩), .int .i64 (j : Int), .slice (some ⟨b, off, none⟩) l.length cap, .bool false, .bool false, .slice a0 L.length cap0, .int .i64 (L.length : Int), .bool (decide (3000 < (L.length : Int))), .bool (decide (3000 < (L.length : Int))), undef, .slice a0 L.length cap0, .pointer (some ⟨br, 0, none⟩), .slice a0 L.length cap0, .agg #[.slice a0 L.length cap0, .int .i64 0, .int .i64 0], .pointer (some ⟨bx, 0, none⟩), .pointer (some ⟨br, 0, none⟩), .bool false, .int .i64 (j : Int), .slice (some ⟨b, off, none⟩) l.length cap, .int .i64 (l.length : Int), .bool true, u31, u32, .slice (some ⟨b, off, none⟩) l.length cap, .int .i64 (j : Int), .pointer (some ⟨b, off + j * 5, none⟩), .pointer (some ⟨b, off + j * 5, none⟩), .bool false, u38, u39, u40, u41, u42, u43, u44, u45, u46, u47, u48, u49, u50, u51, u52, xa 0, xa 1, xa 2, xa 3, xa 4, xa 5, xa 6, xa 7, xa 8, xa 9, xa 10, xa 11, xa 12, xa 13, xa 14, xa 15, xa 16, xa 17, xa 18, xa 19, xa 20, xa 21, xa 22, xa 23, .bool false, .int .i64 (j : Int), .int .i64 at_, .bool false, u81, u82, u83, u84, u85, u86, u87, u88, u89, u90, u91, u92, x 0, x 1, x 2, x 3, x 4, x 5, x 6, x 7, x 8, x 9, x 10, x 11, x 12, x 13, undef], defers := [] }) (fun i => ([u93, u94, u95, u96, u97, u98, u99, u100, u101, u102, u103, u104, u105, u106] : List Value).getD i undef) (by kernel_rfl) rfl rfl (by kernel_rfl) (by kernel_rfl) (by kernel_rfl) (by kernel_rfl) (T1.out) ?_ ?_
            · refine ⟨ObS.of_val rfl (fun x v => rfl) (fun x V k hC hD => ?_), ?_⟩
              · clear hD
                refine want_yes rfl ?_
                exact leads_value (v := .pointer (some ⟨br, 0, none⟩)) (by go_simp) ⟨rfl, hC⟩
              refine ⟨ObS.of_val rfl (fun x v => rfl) (fun x V k hC hD => ?_), ?_⟩
              · have e0 : x 0 = .pointer (some ⟨br, 0, none⟩) := hD.1 rfl
                clear hD
                refine want_yes rfl ?_
                exact leads_enter2 (by go_simp) (HLe.out V hC)
              refine ⟨ObS.of_val rfl (fun x v => rfl) (fun x V k hC hD => ?_), ?_⟩
              · clear hD
                refine want_yes rfl ?_
                exact leads_value (v := .pointer (some ⟨bx, 0, none⟩)) (by go_simp) ⟨rfl, hC⟩
              refine ⟨ObS.of_val rfl (fun x v => rfl) (fun x V k hC hD => ?_), ?_⟩
              · have e2 : x 2 = .pointer (some ⟨bx, 0, none⟩) := hD.1 rfl
                have e1 : x 1 = .int .i64 (T.1.length : Nat) := hD.2.1 rfl
                clear hD
                refine want_yes rfl ?_
                exact leads_enter2 (by go_simp) (HXl.out V hC)
              refine ⟨ObS.of_val rfl (fun x v => rfl) (fun x V k hC hD => ?_), ?_⟩
              · have e1 : x 1 = .int .i64 (T.1.length : Nat) := hD.1 rfl
                have e3 : x 3 = .int .i64 (T.1.length : Nat) := hD.2.1 rfl
                clear hD
                refine want_yes rfl ?_
                exact leads_value (v := .bool false) (by go_simp) ⟨rfl, hC⟩
              refine ⟨ObS.of_val rfl (fun x v => rfl) (fun x V k hC hD => ?_), ?_⟩
              · have e4 : x 4 = .bool false := hD.1 rfl
                have e3 : x 3 = .int .i64 (T.1.length : Nat) := hD.2.1 rfl
                clear hD
                refine want_yes rfl ?_
                exact leads_value (v := .bool false) (by go_simp) ⟨rfl, hC⟩
              refine ⟨ObS.of_val rfl (fun x v => rfl) (fun x V k hC hD => ?_), ?_⟩
              · have e5 : x 5 = .bool false := hD.1 rfl
                clear hD
                refine want_yes (by simp [Region.wanted, yielded, e5]) ?_
                exact leads_value (v := .pointer (some ⟨br, 0, none⟩)) (by go_simp) ⟨rfl, hC⟩
              refine ⟨ObS.of_val rfl (fun x v => rfl) (fun x V k hC hD => ?_), ?_⟩
              · have e6 : x 6 = .pointer (some ⟨br, 0, none⟩) := hD.1 rfl
                have e5 : x 5 = .bool false := hD.2.1 rfl
                clear hD
                refine want_yes (by simp [Region.wanted, yielded, e5]) ?_
                exact leads_enter2 (by go_simp) (HEr.out V hC)
              refine ⟨ObS.of_val rfl (fun x v => rfl) (fun x V k hC hD => ?_), ?_⟩
              · have e5 : x 5 = .bool false := hD.1 rfl
                clear hD
                refine want_yes (by simp [Region.wanted, yielded, e5]) ?_
                exact leads_value (v := .pointer (some ⟨bx, 0, none⟩)) (by go_simp) ⟨rfl, hC⟩
              refine ⟨ObS.of_val rfl (fun x v => rfl) (fun x V k hC hD => ?_), ?_⟩
              · have e8 : x 8 = .pointer (some ⟨bx, 0, none⟩) := hD.1 rfl
                have e5 : x 5 = .bool false := hD.2.1 rfl
                clear hD
                refine want_yes (by simp [Region.wanted, yielded, e5]) ?_
                exact leads_value (v := .pointer (some ⟨bx, 0, none⟩)) (by go_simp) ⟨rfl, hC⟩
              refine ⟨ObS.of_val rfl (fun x v => rfl) (fun x V k hC hD => ?_), ?_⟩
              · have e9 : x 9 = .pointer (some ⟨bx, 0, none⟩) := hD.1 rfl
                have e5 : x 5 = .bool false := hD.2.1 rfl
                clear hD
                refine want_yes (by simp [Region.wanted, yielded, e5]) ?_
                exact leads_value (v := .pointer (some ⟨bx, 2, none⟩)) (by go_simp) ⟨rfl, hC⟩
              refine ⟨ObS.of_val rfl (fun x v => rfl) (fun x V k hC hD => ?_), ?_⟩
              · have e10 : x 10 = .pointer (some ⟨bx, 2, none⟩) := hD.1 rfl
                have e5 : x 5 = .bool false := hD.2.1 rfl
                clear hD
                refine want_yes (by simp [Region.wanted, yielded, e5]) ?_
                have k0 : V.cell? ⟨bx, 2, none⟩ = some (.int .i64 T.2) := hC.cell
                exact leads_value (v := .int .i64 T.2) (by go_simp) ⟨rfl, hC⟩
              refine ⟨ObS.of_val rfl (fun x v => rfl) (fun x V k hC hD => ?_), ?_⟩
              · have e7 : x 7 = .int .i64 T.2 := hD.1 rfl
                have e11 : x 11 = .int .i64 T.2 := hD.2.1 rfl
                have e5 : x 5 = .bool false := hD.2.2.1 rfl
                clear hD
                refine want_yes (by simp [Region.wanted, yielded, e5]) ?_
                exact leads_value (v := .bool false) (by go_simp) ⟨rfl, hC⟩
              refine ⟨ObS.of_val rfl (fun x v => rfl) (fun x V k hC hD => ?_), ?_⟩
              · have e5 : x 5 = .bool false := hD.1 rfl
                have e12 : x 12 = .bool false := hD.2.1 rfl
                clear hD
                refine want_yes rfl ?_
                exact leads_value (v := .bool false) (by go_simp) ⟨rfl, hC⟩
              trivial
            · intro xb Vb hC hx
              have e13 : xb 13 = .bool false := hx 13 (by simp)
              have HB4 := Lib.hid (show Both w br g bx gx L T T Vb from hC)
              clear hx hC
              rw [e13]
              clear e13
              go_wp2_with fail
              go_roundw
              case rel => exact ⟨j + 1, T, by omega, by go_num, HB4.out⟩
              case measure => simp [intOf]; omega
    · go_wp2_with fail
      refine (wireAlive_any _).mono ?_
      rintro e w' ⟨rfl, hB⟩
      have HBB := Lib.hid (HB.out.below.trans (hB.mono HB.out.below.size))
      clear hB
      go_wp2_with fail
      go_ret
      exact ⟨rfl, HBB.out⟩

set_option maxHeartbeats 800000 in
theorem wreads_far (a0 : Option Addr) (n0 cap0 : Nat) (v : Value) (l : List PartM) (at_ bad : Int) (w : World) (hb : 3000 < n0 ∨ farB l = true) (hm : n0 ≤ 9223372036854775807) (h : PartsAt w v l) :
    Calls Try.prog 4 #[.slice a0 n0 cap0, v, .int .i64 at_, .int .i64 bad] w fun e w' => e = .returned (.bool true) ∧ Below w.heap.size w w' := by
  have hF := far_any v l w h
  clear h
  cases hf : farB l with
  | true =>
    rw [hf] at hF
    have HF := Lib.hid hF
    clear hb hF hf
    go_enter Try.func4, Try.ntmps4
    go_wp2_with fail
    refine HF.out.mono ?_
    rintro e w' ⟨rfl, rfl⟩
    go_wp2_with fail
    refine (wireAlive_any _).mono ?_
    rintro e w' ⟨rfl, hB⟩
    have HB := Lib.hid hB
    clear hB
    go_wp2_with fail
    go_ret
    exact ⟨rfl, HB.out⟩
  | false =>
    rw [hf] at hF hb
    have HF := Lib.hid hF
    have h3 : 3000 < n0 := by rcases hb with h | h; exact h; cases h
    clear hb hF hf
    go_enter Try.func4, Try.ntmps4
    go_wp2_with fail
    refine HF.out.mono ?_
    rintro e w' ⟨rfl, rfl⟩
    go_wp2_with fail
    refine (wireAlive_any _).mono ?_
    rintro e w' ⟨rfl, hB⟩
    have HB := Lib.hid hB
    clear hB
    go_wp2_with fail
    go_ret
    exact ⟨rfl, HB.out⟩

theorem wreads_any {w : World} (a0 : Option Addr) (n0 cap0 : Nat) (L : List UInt8) (hb0 : BsAt w a0 n0 cap0 L) (v : Value) (l : List PartM) (h : PartsAt w v l) (at_ : Int) (bad : Int) :
    Calls Try.prog 4 #[.slice a0 n0 cap0, v, .int .i64 at_, .int .i64 bad] w fun e w' => e = .returned (.bool true) ∧ Below w.heap.size w w' := by
  have hm : n0 ≤ 9223372036854775807 := by have := hb0.le; have := hb0.small; unfold maxLen at this; omega
  by_cases hL : 3000 < n0
  · exact wreads_far a0 n0 cap0 v l at_ bad w (.inl hL) hm h
  · cases hf : farB l with
    | true => exact wreads_far a0 n0 cap0 v l at_ bad w (.inr hf) hm h
    | false => exact wreads_near a0 n0 cap0 L v l at_ bad w hb0 (by have := hb0.same; omega) h hf

end Go.Proofs.Ytnajbkijejlgiaa

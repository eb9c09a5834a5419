/-
  The law ChangeBytes, from the program's contracts.
-/
import Derived.Test.YthpangacpihclaaDoorWChG
import Derived.Test.YthpangacpihclaaDoorWChE
import Derived.Test.YthpangacpihclaaDoorW2
import Derived.Test.YthpangacpihclaaDoorW3
/-! LawQBytes -/
namespace Go.Proofs.YthpangacpihclaaDoor
open Go.RowKit

/-- The two Readers. -/
structure YW (w : World) (br g bx gx : Nat) (L : List UInt8) (s r : WSt) (V : World) : Prop where
  all : Below w.heap.size w V
  rd : RAt V br 91 g s
  xd : XRd V bx 51 gx L r
  gl : g < V.heap.size
/-- They stand apart. -/
structure YF (w : World) (br g bx gx : Nat) : Prop where
  gr : g ≠ br
  xx : gx ≠ bx
  bb : br ≠ bx
  gb : g ≠ bx
  xb : gx ≠ br
  wr : w.heap.size ≤ br
  wx : w.heap.size ≤ bx
section
variable {w : World} {br g bx gx : Nat} {L : List UInt8} {s r s' r' : WSt} {V V' : World} {u v : Value} {q : List Cg}
theorem YW.step (h : YW w br g bx gx L s r V) (hB : Below V.heap.size V V') : YW w br g bx gx L s r V' :=
  ⟨h.all.trans (hB.mono h.all.size), h.rd.below hB (Nat.le_refl _), h.xd.below hB (Nat.le_refl _), Nat.lt_of_lt_of_le h.gl hB.size⟩
theorem YW.first (h : YW w br g bx gx L s r V) (hf : YF w br g bx gx) (hR : RTo V br 91 g s' V') : YW w br g bx gx L s' r V' :=
  ⟨h.all.trans (hR.2.below h.all.size fun _ hk => hk ▸ hf.wr), hR.1, h.xd.kept hR.2 (fun e => hf.bb e.symm) hf.xb, Nat.lt_of_lt_of_le h.gl hR.2.size⟩
theorem YW.second (h : YW w br g bx gx L s r V) (hf : YF w br g bx gx) (hX : XTo V bx 51 gx L r' V') : YW w br g bx gx L s r' V' :=
  ⟨h.all.trans (hX.2.below h.all.size fun _ hk => hk ▸ hf.wx), h.rd.kept hX.2 hf.bb hf.gb, hX.1, Nat.lt_of_lt_of_le h.gl hX.2.size⟩
/-- With the two answers. -/
structure YB (w : World) (br g bx gx : Nat) (L : List UInt8) (T : WSt) (u v : Value) (q : List Cg) (V : World) : Prop where
  y : YW w br g bx gx L T T V
  u7 : ChsAt V u q
  u8 : ChsAt V v q
theorem YB.step (h : YB w br g bx gx L s u v q V) (hB : Below V.heap.size V V') : YB w br g bx gx L s u v q V' :=
  ⟨h.y.step hB, h.u7.below hB (Nat.le_refl _), h.u8.below hB (Nat.le_refl _)⟩
theorem YB.cell (h : YB w br g bx gx L s u v q V) : V.cell? ⟨bx, 2, none⟩ = some (.int .i64 s.2) := by
  obtain ⟨p, c, k, hk, -⟩ := h.y.xd
  exact hk.cell 2
end
/-- The update's bytes, and what was read of them. -/
structure ZB (w : World) (B0 : Nat) (p10 : Option Addr) (c10 : Nat) (B : List UInt8) (b12 g12 : Nat) (v12 : Value) (l : List Cg) (V : World) : Prop where
  all : Below w.heap.size w V
  own : V.ownsRow B0 5 1 (.slice p10 B.length c10) B.length (bvs B)
  rd : RAt V b12 91 g12 ([], 0)
  back : ChsAt V v12 l
theorem ZB.step {w : World} {B0 : Nat} {p10 : Option Addr} {c10 : Nat} {B : List UInt8} {b12 g12 : Nat} {v12 : Value} {l : List Cg} {V V' : World} (h : ZB w B0 p10 c10 B b12 g12 v12 l V) (hB : Below V.heap.size V V') : ZB w B0 p10 c10 B b12 g12 v12 l V' :=
  ⟨h.all.trans (hB.mono h.all.size), own_below h.own hB (Nat.le_refl _), h.rd.below hB (Nat.le_refl _), h.back.below hB (Nat.le_refl _)⟩
theorem ZB.bs {w : World} {B0 : Nat} {p10 : Option Addr} {c10 : Nat} {B : List UInt8} {b12 g12 : Nat} {v12 : Value} {l : List Cg} {V : World} (h : ZB w B0 p10 c10 B b12 g12 v12 l V) : BsAt V p10 B.length c10 B := by
  obtain ⟨p, c, e, hb⟩ := BsAt.ofRow h.own
  rw [Value.slice.injEq] at e
  obtain ⟨rfl, -, rfl⟩ := e
  exact hb
set_option maxRecDepth 100000 in
set_option maxHeartbeats 3200000 in
theorem qbytes_near (cB : CBytesC) (cR : CReadC) (hA : CAliveC) (v : Value) (l : List Cg) (pL : Option Addr) (n0 cap0 : Nat) (L : List UInt8) (w : World) (hT : TabOk w) (h : ChsAt w v l) (hb0 : BsAt w pL n0 cap0 L) (hl : l.length ≤ 30) (hL : L.length ≤ 100) :
    Calls Tryd.prog 5 #[v, .slice pL n0 cap0] w fun e w' => e = .returned (.bool true) ∧ Below w.heap.size w w' := by
  have hn0 := hb0.same
  subst hn0
  have hcs : ∀ c ∈ l, CgOk c := by
    obtain ⟨_, _, _, _, hc⟩ := h
    intro c hm
    obtain ⟨_, _, _, _, h7⟩ := hc (List.ne_nil_of_mem hm)
    obtain ⟨i, hi, rfl⟩ := List.getElem_of_mem hm
    exact (h7 i hi).1
  have hs0 : 0 < w.heap.size := Nat.lt_of_le_of_lt (Nat.zero_le _) hT.2
  have HB := Lib.hid (fun V (hV : Since w V) => cB v l V (hT.since hV) (h.below hV (Nat.le_refl _)))
  have HRB := Lib.hid (fun V (hV : Since w V) => rcBytes_any v l V (h.below hV (Nat.le_refl _)))
  have HCR := Lib.hid (fun b t g s V (hV : Since w V) => cR b t g s V (hT.since hV))
  have HAl := Lib.hid (fun V (hV : Since w V) => hA V (hT.since hV))
  have HCh := Lib.hid (fun V (hV : Since w V) => h.below hV (Nat.le_refl _))
  have HBk := Lib.hid (fun (h1 : 1 ≤ l.length) (h6 : l.length ≤ 6) (hg : ∀ c ∈ l, cgB c = true) => rd_bytes h1 h6 (fun c hc => ⟨hcs c hc, hg c hc⟩) [])
  have HQo := Lib.hid (And.intro (rdQ_ok (L, 0)) (rdQ_len (L, 0)))
  have HBs := Lib.hid hb0
  have HLn := Lib.hid hL
  have HS0 := Lib.hid hs0
  obtain ⟨pt, cap, rfl, hm, hc⟩ := h
  have HC := Lib.hid hc
  have dk : decide (100 < (L.length : Int)) = false := by simp; omega
  have dl : decide (30 < (l.length : Int)) = false := by simp; omega
  clear cB cR hA hT hb0 hL hcs hs0 hc
  go_enter Tryd.func5, Tryd.ntmps5
  go_wp2_with fail
  refine (newRd2_any _ _ _ L _ HBs.out (by have := HLn.out; omega) HS0.out).mono ?_
  rintro e w3 ⟨br, g, rfl, hbr, hg1, ⟨hg3, hg2⟩, hr3, hB3⟩
  obtain ⟨gx, hgx, hgl⟩ : ∃ gx, (∀ a, pL = some a → L ≠ [] → a.block = gx) ∧ gx < w.heap.size := by
    by_cases hL0 : L = []
    · exact ⟨0, fun _ _ h => absurd hL0 h, HS0.out⟩
    · rcases HBs.out.place with ⟨-, h2⟩ | ⟨h2, -⟩ | ⟨g', off, rfl, h3, -⟩
      · have := HBs.out.le
        exact absurd (List.eq_nil_of_length_eq_zero (by omega)) hL0
      · exact absurd h2 hL0
      · exact ⟨g', fun a ha _ => by cases ha; rfl, h3⟩
  have hrl : br < w3.heap.size := by
    obtain ⟨p, n, c, h1, -⟩ := hr3
    exact h1.lt
  have hs3 := hB3.size
  have HF := Lib.hid (show YF w br g w3.heap.size gx from ⟨hg1, by omega, by omega, by omega, by omega, by omega, by omega⟩)
  have HY := Lib.hid (show YW w br g w3.heap.size gx L (L, 0) (L, 0) (w3.alloc (.cells #[.slice pL L.length cap0, .int .i64 0, .int .i64 0] 51)) from
    ⟨hB3.trans ((belowNew w3 _).mono hB3.size), hr3.below (belowNew w3 _) (Nat.le_refl _),
     ⟨pL, cap0, 0, Blk.new w3 _ _, HBs.out.below (hB3.trans ((belowNew w3 _).mono hB3.size)) (Nat.le_refl _), hgx, fun _ => ⟨rfl, Nat.zero_le _⟩, fun h => absurd rfl h⟩, by simp; omega⟩)
  have HGl := Lib.hid (show gx < (w3.alloc (.cells #[.slice pL L.length cap0, .int .i64 0, .int .i64 0] 51)).heap.size ∧ w3.heap.size < (w3.alloc (.cells #[.slice pL L.length cap0, .int .i64 0, .int .i64 0] 51)).heap.size by simp; omega)
  clear hgx hgl hrl hbr hg1 hg2 hg3 hr3 hB3 hs3 dk dl
  go_upto_region 4 with fail
  generalize hw4 : w3.alloc _ = w4 at HY HGl ⊢
  clear hw4
  obtain ⟨bx, hbx⟩ : ∃ bx, bx = w3.heap.size := ⟨_, rfl⟩
  rw [← hbx] at HY HF HGl ⊢
  clear hbx
  go_wp2_with fail
  refine (HCR.out br _ g (L, 0) _ HY.out.all HY.out.rd HF.out.gr HY.out.gl (by have := HLn.out; show L.length ≤ _; omega) (fun h => absurd rfl h)).mono ?_
  rintro e w5 ⟨v7, rfl, hn5, hR5⟩
  have HN5 := Lib.hid hn5
  have HY5 := Lib.hid (HY.out.first HF.out hR5)
  have HG5 := Lib.hid (Nat.lt_of_lt_of_le HGl.out.1 hR5.2.size)
  clear hR5 hn5 HY
  go_wp2_with fail
  refine (rcRead_any bx _ gx L (L, 0) _ HY5.out.xd HF.out.xx HG5.out (by have := HLn.out; omega)).mono ?_
  rintro e w6 ⟨v8, rfl, ho6, hR6⟩
  have HY6 := Lib.hid (show YB w br g bx gx L (rdQs (L, 0)) v7 v8 (rdQ (L, 0)) w6 from
    ⟨HY5.out.second HF.out hR6, (HN5.out.chg hR6.2 (fun k hk => by have hk : k = bx := hk; have := HGl.out.2; omega)).at_, ChsAt.ofRow ho6 (by have := HQo.out.2; omega) HQo.out.1⟩)
  clear hR6 ho6 HY5 HG5 HN5 HGl HQo HF
  generalize rdQ (L, 0) = q at *
  generalize rdQs (L, 0) = T at *
  go_upto_region 5 with fail
  refine wp_region_S (fun _ V => YB w br g bx gx L T v7 v8 q V) 0 [.val (v7), .val (v8), .val (.bool true), .val (.bool false), .val (.bool false), .val (.pointer (some ⟨br, 0, none⟩)), .val (.int .i64 T.2), .val (.pointer (some ⟨bx, 0, none⟩)), .val (.pointer (some ⟨bx, 0, none⟩)), .val (.pointer (some ⟨bx, 2, none⟩)), .val (.int .i64 T.2), .val (.bool false), .val (.bool false), .val (.bool false), .val (.pointer (some ⟨br, 0, none⟩)), .val (.int .i64 (T.1.length : Nat)), .val (.pointer (some ⟨bx, 0, none⟩)), .val (.int .i64 (T.1.length : Nat)), .val (.bool false), .val (.bool false)]
    (fun x => { tmps := #[.slice pt l.length cap, .slice pL L.length cap0, undef, undef, .bool false, .pointer (some ⟨br, 0, none⟩), .pointer (some ⟨bx, 0, none⟩), v7, v8, undef, undef, undef, undef, .slice pt l.length cap, .int .i64 (l.length : Int), .bool false, .bool false, .slice pL L.length cap0, .int .i64 (L.length : Int), .bool false, .bool false, undef, .slice pL L.length cap0, .pointer (some ⟨br, 0, none⟩), .slice pL L.length cap0, .agg #[.slice pL L.length cap0, .int .i64 0, .int .i64 0], .pointer (some ⟨bx, 0, none⟩), .pointer (some ⟨br, 0, none⟩), v7, .pointer (some ⟨bx, 0, none⟩), v8, x 0, x 1, x 2, x 3, x 4, x 5, x 6, x 7, x 8, x 9, x 10, x 11, x 12, x 13, x 14, x 15, x 16, x 17, x 18, x 19, undef, undef, undef, undef, undef, undef, undef, undef, undef, undef, undef, undef, undef, undef, undef, undef, undef, undef, undef, undef, undef, undef, undef, undef, undef, undef, undef, undef, undef, undef, undef, undef, undef, undef, undef, undef, undef, undef, undef, undef, undef, undef, undef, undef, undef, undef, undef, undef, undef, undef, undef, undef], defers := [] }) (fun i => ([undef, undef, undef, undef, undef, undef, undef, undef, undef, undef, undef, undef, undef, undef, undef, undef, undef, undef, undef, undef] : List Value).getD i undef) (by kernel_rfl) rfl rfl (by kernel_rfl) (by kernel_rfl) (by kernel_rfl) (by kernel_rfl) (HY6.out.step (Below.refl _ _).drew) ?_ ?_
  · refine ⟨ObS.of_val rfl (fun x v => rfl) (fun x V kst hC hD => ?_), ?_⟩
    · clear hD
      refine want_yes rfl ?_
      exact leads_value (v := v7) (by go_simp) ⟨rfl, hC⟩
    refine ⟨ObS.of_val rfl (fun x v => rfl) (fun x V kst hC hD => ?_), ?_⟩
    · clear hD
      refine want_yes rfl ?_
      exact leads_value (v := v8) (by go_simp) ⟨rfl, hC⟩
    refine ⟨ObS.of_val rfl (fun x v => rfl) (fun x V kst hC hD => ?_), ?_⟩
    · have e0 : x 0 = v7 := hD.1 rfl
      have e1 : x 1 = v8 := hD.2.1 rfl
      clear hD
      refine want_yes rfl ?_
      exact leads_enter2 (by go_simp) ((rcSame_any v7 v8 q V hC.u7 hC.u8).mono fun e w'' ⟨he, hB⟩ => ⟨_, he, rfl, hC.step hB⟩)
    refine ⟨ObS.of_val rfl (fun x v => rfl) (fun x V kst hC hD => ?_), ?_⟩
    · have e2 : x 2 = .bool true := hD.1 rfl
      clear hD
      refine want_yes rfl ?_
      exact leads_value (v := .bool false) (by go_simp) ⟨rfl, hC⟩
    refine ⟨ObS.of_val rfl (fun x v => rfl) (fun x V kst hC hD => ?_), ?_⟩
    · have e3 : x 3 = .bool false := hD.1 rfl
      clear hD
      refine want_yes rfl ?_
      exact leads_value (v := .bool false) (by go_simp) ⟨rfl, hC⟩
    refine ⟨ObS.of_val rfl (fun x v => rfl) (fun x V kst hC hD => ?_), ?_⟩
    · have e4 : x 4 = .bool false := hD.1 rfl
      clear hD
      refine want_yes (by simp [Region.wanted, yielded, e4]) ?_
      exact leads_value (v := .pointer (some ⟨br, 0, none⟩)) (by go_simp) ⟨rfl, hC⟩
    refine ⟨ObS.of_val rfl (fun x v => rfl) (fun x V kst hC hD => ?_), ?_⟩
    · have e5 : x 5 = .pointer (some ⟨br, 0, none⟩) := hD.1 rfl
      have e4 : x 4 = .bool false := hD.2.1 rfl
      clear hD
      refine want_yes (by simp [Region.wanted, yielded, e4]) ?_
      exact leads_enter2 (by go_simp) ((rderr_any br _ g T V hC.y.rd).mono fun e w'' ⟨he, hw⟩ => ⟨_, he, rfl, hw ▸ hC⟩)
    refine ⟨ObS.of_val rfl (fun x v => rfl) (fun x V kst hC hD => ?_), ?_⟩
    · have e4 : x 4 = .bool false := hD.1 rfl
      clear hD
      refine want_yes (by simp [Region.wanted, yielded, e4]) ?_
      exact leads_value (v := .pointer (some ⟨bx, 0, none⟩)) (by go_simp) ⟨rfl, hC⟩
    refine ⟨ObS.of_val rfl (fun x v => rfl) (fun x V kst hC hD => ?_), ?_⟩
    · have e7 : x 7 = .pointer (some ⟨bx, 0, none⟩) := hD.1 rfl
      have e4 : x 4 = .bool false := hD.2.1 rfl
      clear hD
      refine want_yes (by simp [Region.wanted, yielded, e4]) ?_
      exact leads_value (v := .pointer (some ⟨bx, 0, none⟩)) (by go_simp) ⟨rfl, hC⟩
    refine ⟨ObS.of_val rfl (fun x v => rfl) (fun x V kst hC hD => ?_), ?_⟩
    · have e8 : x 8 = .pointer (some ⟨bx, 0, none⟩) := hD.1 rfl
      have e4 : x 4 = .bool false := hD.2.1 rfl
      clear hD
      refine want_yes (by simp [Region.wanted, yielded, e4]) ?_
      exact leads_value (v := .pointer (some ⟨bx, 2, none⟩)) (by go_simp) ⟨rfl, hC⟩
    refine ⟨ObS.of_val rfl (fun x v => rfl) (fun x V kst hC hD => ?_), ?_⟩
    · have e9 : x 9 = .pointer (some ⟨bx, 2, none⟩) := hD.1 rfl
      have e4 : x 4 = .bool false := hD.2.1 rfl
      clear hD
      refine want_yes (by simp [Region.wanted, yielded, e4]) ?_
      have k0 := hC.cell
      exact leads_value (v := .int .i64 T.2) (by go_simp) ⟨rfl, hC⟩
    refine ⟨ObS.of_val rfl (fun x v => rfl) (fun x V kst hC hD => ?_), ?_⟩
    · have e6 : x 6 = .int .i64 T.2 := hD.1 rfl
      have e10 : x 10 = .int .i64 T.2 := hD.2.1 rfl
      have e4 : x 4 = .bool false := hD.2.2.1 rfl
      clear hD
      refine want_yes (by simp [Region.wanted, yielded, e4]) ?_
      exact leads_value (v := .bool false) (by go_simp) ⟨rfl, hC⟩
    refine ⟨ObS.of_val rfl (fun x v => rfl) (fun x V kst hC hD => ?_), ?_⟩
    · have e4 : x 4 = .bool false := hD.1 rfl
      have e11 : x 11 = .bool false := hD.2.1 rfl
      clear hD
      refine want_yes rfl ?_
      exact leads_value (v := .bool false) (by go_simp) ⟨rfl, hC⟩
    refine ⟨ObS.of_val rfl (fun x v => rfl) (fun x V kst hC hD => ?_), ?_⟩
    · have e12 : x 12 = .bool false := hD.1 rfl
      clear hD
      refine want_yes rfl ?_
      exact leads_value (v := .bool false) (by go_simp) ⟨rfl, hC⟩
    refine ⟨ObS.of_val rfl (fun x v => rfl) (fun x V kst hC hD => ?_), ?_⟩
    · have e13 : x 13 = .bool false := hD.1 rfl
      clear hD
      refine want_yes (by simp [Region.wanted, yielded, e13]) ?_
      exact leads_value (v := .pointer (some ⟨br, 0, none⟩)) (by go_simp) ⟨rfl, hC⟩
    refine ⟨ObS.of_val rfl (fun x v => rfl) (fun x V kst hC hD => ?_), ?_⟩
    · have e14 : x 14 = .pointer (some ⟨br, 0, none⟩) := hD.1 rfl
      have e13 : x 13 = .bool false := hD.2.1 rfl
      clear hD
      refine want_yes (by simp [Region.wanted, yielded, e13]) ?_
      exact leads_enter2 (by go_simp) ((rdleft_any br _ g T V hC.y.rd).mono fun e w'' ⟨he, hw⟩ => ⟨_, he, rfl, hw ▸ hC⟩)
    refine ⟨ObS.of_val rfl (fun x v => rfl) (fun x V kst hC hD => ?_), ?_⟩
    · have e13 : x 13 = .bool false := hD.1 rfl
      clear hD
      refine want_yes (by simp [Region.wanted, yielded, e13]) ?_
      exact leads_value (v := .pointer (some ⟨bx, 0, none⟩)) (by go_simp) ⟨rfl, hC⟩
    refine ⟨ObS.of_val rfl (fun x v => rfl) (fun x V kst hC hD => ?_), ?_⟩
    · have e16 : x 16 = .pointer (some ⟨bx, 0, none⟩) := hD.1 rfl
      have e13 : x 13 = .bool false := hD.2.2.1 rfl
      clear hD
      refine want_yes (by simp [Region.wanted, yielded, e13]) ?_
      exact leads_enter2 (by go_simp) ((xleft_any bx _ gx L T V hC.y.xd (by have := HLn.out; omega)).mono fun e w'' ⟨he, n, hw⟩ => ⟨_, he, rfl, hw ▸ hC.step (show Below V.heap.size V (V.drewN n) from ⟨rfl, rfl, rfl, Nat.le_refl _, fun _ _ => rfl⟩)⟩)
    refine ⟨ObS.of_val rfl (fun x v => rfl) (fun x V kst hC hD => ?_), ?_⟩
    · have e15 : x 15 = .int .i64 (T.1.length : Nat) := hD.1 rfl
      have e17 : x 17 = .int .i64 (T.1.length : Nat) := hD.2.1 rfl
      have e13 : x 13 = .bool false := hD.2.2.1 rfl
      clear hD
      refine want_yes (by simp [Region.wanted, yielded, e13]) ?_
      exact leads_value (v := .bool false) (by go_simp) ⟨rfl, hC⟩
    refine ⟨ObS.of_val rfl (fun x v => rfl) (fun x V kst hC hD => ?_), ?_⟩
    · have e13 : x 13 = .bool false := hD.1 rfl
      have e18 : x 18 = .bool false := hD.2.1 rfl
      clear hD
      refine want_yes rfl ?_
      exact leads_value (v := .bool false) (by go_simp) ⟨rfl, hC⟩
    trivial
  · intro xa V7 hC hx
    have HB7 := Lib.hid (show Below w.heap.size w V7 from hC.y.all)
    have e19 : xa 19 = .bool false := hx 19 (by simp)
    clear hx hC HY6
    rw [e19]
    clear e19
    go_wp2_with fail
    generalize xa 0 = z31
    generalize xa 1 = z32
    generalize xa 2 = z33
    generalize xa 3 = z34
    generalize xa 4 = z35
    generalize xa 5 = z36
    generalize xa 6 = z37
    generalize xa 7 = z38
    generalize xa 8 = z39
    generalize xa 9 = z40
    generalize xa 10 = z41
    generalize xa 11 = z42
    generalize xa 12 = z43
    generalize xa 13 = z44
    generalize xa 14 = z45
    generalize xa 15 = z46
    generalize xa 16 = z47
    generalize xa 17 = z48
    generalize xa 18 = z49
    go_loopw [9] (fun i wr => ∃ k : Nat, k ≤ l.length ∧ i = .int .i64 (k : Int) ∧ (∀ i, (hi : i < l.length) → i < k → cgB l[i] = true) ∧ Below w.heap.size w wr) (fun i _ => l.length - (intOf i).toNat)
    case atStart => exact ⟨0, by omega, rfl, fun i _ h => by omega, HB7.out⟩
    case round =>
      obtain ⟨k, hk, rfl, hgd, hB⟩ := hrel
      have HG := Lib.hid hB
      have HGd := Lib.hid hgd
      clear hB hgd HB7
      by_cases hlt : k < l.length
      · obtain ⟨gc, off, rfl, hgc, hcs⟩ := HC.out (by intro e; rw [e] at hlt; simp at hlt)
        obtain ⟨hco, hcc⟩ := hcs k hlt
        have HN := Lib.hid (show cgB l[k] = true → ∀ i, (hi : i < l.length) → i < k + 1 → cgB l[i] = true from fun h i hi h2 => by
          by_cases e : i = k
          · subst e; exact h
          · exact HGd.out i hi (by omega))
        generalize l[k] = c at *
        have hce := ChCells.below (c := c) (off := off + k * 5) hcc HG.out hgc
        have HFi := Lib.hid (fun V => rcFine_any c V hco)
        have dk : decide ((k : Int) < (l.length : Int)) = true := by simp; omega
        have hlt' : (k : Int) < (l.length : Int) := by omega
        clear hcs hcc hco
        go_wp2_with (refine wpList_of rfl (exec_load_chgAt rfl rfl hce) ?_)
        refine (HFi.out _).mono ?_
        rintro e wx ⟨rfl, hBx⟩
        have HGx := Lib.hid (show Below w.heap.size w wx from HG.out.trans (hBx.mono HG.out.size))
        clear hBx hce HG HFi
        cases hcb : cgB c with
        | true =>
          have HN2 := Lib.hid (HN.out hcb)
          clear hcb
          go_wp2_with fail
          go_roundw
          case rel => exact ⟨k + 1, by omega, by go_num, HN2.out, HGx.out⟩
          case measure => simp [intOf]; omega
        | false =>
          clear hcb
          go_wp2_with fail
          refine (HAl.out _ HGx.out).mono ?_
          rintro e wy ⟨rfl, hBy⟩
          have HGy := Lib.hid (HGx.out.trans (hBy.mono HGx.out.size))
          clear hBy
          go_wp2_with fail
          go_ret
          exact ⟨rfl, HGy.out⟩
      · obtain rfl : k = l.length := by omega
        have dk : decide ((l.length : Int) < (l.length : Int)) = false := by simp
        have HAll := Lib.hid (show ∀ c ∈ l, cgB c = true from fun c hm => by
          obtain ⟨i, hi, rfl⟩ := List.getElem_of_mem hm
          exact HGd.out i hi hi)
        clear HGd
        by_cases h0 : l.length = 0
        · have d0 : ((l.length : Int) == 0) = true := by simp [h0]
          clear h0
          go_wp2_with fail
          refine (HAl.out _ HG.out).mono ?_
          rintro e wy ⟨rfl, hBy⟩
          have HGy := Lib.hid (HG.out.trans (hBy.mono HG.out.size))
          clear hBy
          go_wp2_with fail
          go_ret
          exact ⟨rfl, HGy.out⟩
        have d0 : ((l.length : Int) == 0) = false := by rw [beq_eq_false_iff_ne]; omega
        by_cases h6 : 6 < l.length
        · have d6 : decide ((6 : Int) < (l.length : Int)) = true := by simp; omega
          clear h0 h6
          go_wp2_with fail
          refine (HAl.out _ HG.out).mono ?_
          rintro e wy ⟨rfl, hBy⟩
          have HGy := Lib.hid (HG.out.trans (hBy.mono HG.out.size))
          clear hBy
          go_wp2_with fail
          go_ret
          exact ⟨rfl, HGy.out⟩
        have d6 : decide ((6 : Int) < (l.length : Int)) = false := by simp; omega
        have HBy := Lib.hid (fun V hV => HB.out V hV (by omega) (by omega) HAll.out)
        have h66 : l.length ≤ 6 := by omega
        have HRy := Lib.hid (fun V hV => HRB.out V hV h66 HAll.out)
        have HBz := Lib.hid (HBk.out (by omega) (by omega) HAll.out)
        rw [List.append_nil] at HBz
        have HBl := Lib.hid (show (bytesQ l).length ≤ 43 by unfold bytesQ; rw [bytesK_len l _ (Nat.le_refl _)]; omega)
        clear h0 h6 HB HRB HBk HAll
        generalize bytesQ l = B at *
        go_wp2_with fail
        refine (HBy.out _ HG.out).mono ?_
        rintro e w8 ⟨u, rfl, ho8, hB8⟩
        obtain ⟨p10, c10, rfl, hbs8⟩ := BsAt.ofRow ho8
        have HG8 := Lib.hid (HG.out.trans (hB8.mono HG.out.size))
        have HO8 := Lib.hid ho8
        clear hB8 ho8 HG HBy
        go_wp2_with fail
        refine (newRd2_any _ _ _ _ _ hbs8 (by have := HBl.out; omega) (by have := HS0.out; have := HG8.out.size; omega)).mono ?_
        rintro e w9 ⟨b12, g12, rfl, hb12, hg1, ⟨-, hg12⟩, hr9, hB9⟩
        have HG9 := Lib.hid (HG8.out.trans (hB9.mono HG8.out.size))
        have HO9 := Lib.hid (own_below HO8.out hB9 (Nat.le_refl _))
        have HR9 := Lib.hid hr9
        have HN9 := Lib.hid (show g12 ≠ b12 ∧ g12 < w9.heap.size ∧ w8.heap.size ≤ b12 ∧ w.heap.size ≤ b12 from ⟨hg1, hg12, hb12, Nat.le_trans HG8.out.size hb12⟩)
        have HL9 := Lib.hid (fun k (hk : (Value.slice p10 B.length c10).ownBlock = some k) => (HO8.out.lt k hk).2)
        clear hr9 hB9 hb12 hg1 hg12 hbs8 HG8 HO8
        go_wp2_with fail
        refine (HCR.out b12 _ g12 (B, 0) _ HG9.out HR9.out HN9.out.1 HN9.out.2.1 (by have := HBl.out; show B.length ≤ _; omega) (fun h => absurd rfl h)).mono ?_
        rintro e w10 ⟨v12, rfl, hn10, hR10⟩
        rw [HBz.out.1] at hn10
        rw [HBz.out.2] at hR10
        have HZ := Lib.hid (show ZB w wr.heap.size p10 c10 B b12 g12 v12 l w10 from
          ⟨HG9.out.trans (hR10.2.below HG9.out.size fun k hk => by have hk : k = b12 := hk; have := HN9.out; omega), own_chg HO9.out hR10.2 (fun k hk e => by have e : k = b12 := e; have := HL9.out k hk; have := HN9.out; omega), hR10.1, hn10.at_⟩)
        clear hn10 hR10 HO9 HR9 HN9 HL9 HG9 HBz HBl
        go_upto_region 17 with fail
        generalize wr.heap.size = B0 at *
        refine wp_region_L (C7 (fun V => ZB w B0 p10 c10 B b12 g12 v12 l V) B) 1 [.val (.slice p10 B.length c10), .val (.string ⟨B.toArray⟩), .val (.slice pt l.length cap), .turn 0, .val (.string ⟨B.toArray⟩), .val (.bool true), .val (.bool true), .val (v12), .val (.slice pt l.length cap), .val (.bool true), .val (.bool true), .val (.bool true), .val (.pointer (some ⟨b12, 0, none⟩)), .val (.int .i64 0), .val (.bool true), .val (.bool true), .val (.bool true), .val (.pointer (some ⟨b12, 0, none⟩)), .val (.int .i64 0), .val (.bool true), .val (.bool true), .val (.bool true), .val (.bool true), .val (.bool true), .val (.bool true)]
          (fun x => { tmps := #[.slice pt l.length cap, .slice pL L.length cap0, undef, undef, x 24, .pointer (some ⟨br, 0, none⟩), .pointer (some ⟨bx, 0, none⟩), v7, v8, .int .i64 (l.length : Int), .slice p10 B.length c10, .pointer (some ⟨b12, 0, none⟩), v12, .slice pt l.length cap, .int .i64 (l.length : Int), .bool false, .bool false, .slice pL L.length cap0, .int .i64 (L.length : Int), .bool false, .bool false, undef, .slice pL L.length cap0, .pointer (some ⟨br, 0, none⟩), .slice pL L.length cap0, .agg #[.slice pL L.length cap0, .int .i64 0, .int .i64 0], .pointer (some ⟨bx, 0, none⟩), .pointer (some ⟨br, 0, none⟩), v7, .pointer (some ⟨bx, 0, none⟩), v8, z31, z32, z33, z34, z35, z36, z37, z38, z39, z40, z41, z42, z43, z44, z45, z46, z47, z48, z49, .bool false, .int .i64 (l.length : Int), .slice pt l.length cap, .int .i64 (l.length : Int), .bool false, u55, u56, u57, u58, u59, u60, u61, u62, u63, .slice pt l.length cap, .int .i64 (l.length : Int), .bool false, .bool false, .slice pt l.length cap, .int .i64 (l.length : Int), .bool false, .bool false, undef, .slice pt l.length cap, .slice p10 B.length c10, .slice p10 B.length c10, .pointer (some ⟨b12, 0, none⟩), .pointer (some ⟨b12, 0, none⟩), v12, x 0, x 1, x 2, x 3, x 4, x 5, x 6, x 7, x 8, x 9, x 10, x 11, x 12, x 13, x 14, x 15, x 16, x 17, x 18, x 19, x 20, x 21, x 22, x 23], defers := [] }) (fun i => ([undef, undef, undef, undef, undef, undef, undef, undef, undef, undef, undef, undef, undef, undef, undef, undef, undef, undef, undef, undef, undef, undef, undef, undef, u4] : List Value).getD i undef) (by kernel_rfl) rfl rfl (by kernel_rfl) (by kernel_rfl) (by kernel_rfl) (by kernel_rfl) (HZ.out.step (Below.refl _ _).drew) ?_ ?_
        · refine ⟨ObL.of_val rfl (fun x v => rfl) (fun x V vs hC hD => ?_), ?_⟩
          · clear hD
            refine want_yes rfl ?_
            exact leads_value (v := .slice p10 B.length c10) (by go_simp) ⟨rfl, hC⟩
          refine ⟨ObL.of_val rfl (fun x v => rfl) (fun x V vs hC hD => ?_), ?_⟩
          · have e0 : x 0 = .slice p10 B.length c10 := (hD.1 rfl).1
            clear hD
            refine want_yes rfl ?_
            have cv := run_string_bs (P := Tryd.prog) V 46 5 9 Tryd.underlying46 Tryd.underlying5 Tryd.underlying9 (C7_com hC).bs
            exact leads_value (v := .string ⟨B.toArray⟩) (by go_simp) ⟨rfl, hC⟩
          refine ⟨ObL.of_val rfl (fun x v => rfl) (fun x V vs hC hD => ?_), ?_⟩
          · clear hD
            refine want_yes rfl ?_
            exact leads_value (v := .slice pt l.length cap) (by go_simp) ⟨rfl, hC⟩
          refine ⟨ObL.of_turn rfl (fun x v => rfl) (fun x V vs hl hC hD => ?_), ?_⟩
          · obtain rfl := len_zero hl
            have e2 : x 2 = .slice pt l.length cap := (hD.1 rfl).1
            clear hD
            refine want_yes rfl ?_
            have hC : (fun V => ZB w B0 p10 c10 B b12 g12 v12 l V) V := hC
            refine leads_enter2 (by go_simp) ((HRy.out V hC.all).mono fun e w'' hO => ?_)
            obtain ⟨v, he, hr, hB⟩ := hO
            obtain ⟨q3, c3, rfl, hbs⟩ := BsAt.ofRow hr
            exact ⟨_, he, ZB.step hC hB, q3, c3, rfl, hbs⟩
          refine ⟨ObL.of_val rfl (fun x v => rfl) (fun x V vs hC hD => ?_), ?_⟩
          · have e3 : x 3 = vs.getD 0 undef := (hD.1 rfl).1
            have n3 : 0 < vs.length := (hD.1 rfl).2
            clear hD
            refine want_yes rfl ?_
            obtain ⟨p3, c3, hv, hb3⟩ := C7_val n3 hC
            rw [hv] at e3
            have cv := run_string_bs (P := Tryd.prog) V 46 5 9 Tryd.underlying46 Tryd.underlying5 Tryd.underlying9 hb3
            clear n3
            generalize vs.getD 0 undef = y0 at *
            exact leads_value (v := .string ⟨B.toArray⟩) (by go_simp) ⟨rfl, hC⟩
          refine ⟨ObL.of_val rfl (fun x v => rfl) (fun x V vs hC hD => ?_), ?_⟩
          · have e1 : x 1 = .string ⟨B.toArray⟩ := (hD.1 rfl).1
            have e4 : x 4 = .string ⟨B.toArray⟩ := (hD.2.1 rfl).1
            clear hD
            refine want_yes rfl ?_
            exact leads_value (v := .bool true) (by go_simp) ⟨rfl, hC⟩
          refine ⟨ObL.of_val rfl (fun x v => rfl) (fun x V vs hC hD => ?_), ?_⟩
          · have e5 : x 5 = .bool true := (hD.1 rfl).1
            clear hD
            refine want_yes rfl ?_
            exact leads_value (v := .bool true) (by go_simp) ⟨rfl, hC⟩
          refine ⟨ObL.of_val rfl (fun x v => rfl) (fun x V vs hC hD => ?_), ?_⟩
          · have e6 : x 6 = .bool true := (hD.1 rfl).1
            clear hD
            refine want_yes (by simp [Region.wanted, yielded, e6]) ?_
            exact leads_value (v := v12) (by go_simp) ⟨rfl, hC⟩
          refine ⟨ObL.of_val rfl (fun x v => rfl) (fun x V vs hC hD => ?_), ?_⟩
          · have e6 : x 6 = .bool true := (hD.1 rfl).1
            clear hD
            refine want_yes (by simp [Region.wanted, yielded, e6]) ?_
            exact leads_value (v := .slice pt l.length cap) (by go_simp) ⟨rfl, hC⟩
          refine ⟨ObL.of_val rfl (fun x v => rfl) (fun x V vs hC hD => ?_), ?_⟩
          · have e7 : x 7 = v12 := (hD.1 rfl).1
            have e8 : x 8 = .slice pt l.length cap := (hD.2.1 rfl).1
            have e6 : x 6 = .bool true := (hD.2.2.1 rfl).1
            clear hD
            refine want_yes (by simp [Region.wanted, yielded, e6]) ?_
            exact leads_enter2 (by go_simp) ((rcSame_any v12 _ l V (C7_com hC).back (HCh.out V (C7_com hC).all)).mono fun e w'' ⟨he, hB⟩ => ⟨_, he, rfl, C7_step (fun h => ZB.step h hB) hB hC⟩)
          refine ⟨ObL.of_val rfl (fun x v => rfl) (fun x V vs hC hD => ?_), ?_⟩
          · have e6 : x 6 = .bool true := (hD.1 rfl).1
            have e9 : x 9 = .bool true := (hD.2.1 rfl).1
            clear hD
            refine want_yes rfl ?_
            exact leads_value (v := .bool true) (by go_simp) ⟨rfl, hC⟩
          refine ⟨ObL.of_val rfl (fun x v => rfl) (fun x V vs hC hD => ?_), ?_⟩
          · have e10 : x 10 = .bool true := (hD.1 rfl).1
            clear hD
            refine want_yes rfl ?_
            exact leads_value (v := .bool true) (by go_simp) ⟨rfl, hC⟩
          refine ⟨ObL.of_val rfl (fun x v => rfl) (fun x V vs hC hD => ?_), ?_⟩
          · have e11 : x 11 = .bool true := (hD.1 rfl).1
            clear hD
            refine want_yes (by simp [Region.wanted, yielded, e11]) ?_
            exact leads_value (v := .pointer (some ⟨b12, 0, none⟩)) (by go_simp) ⟨rfl, hC⟩
          refine ⟨ObL.of_val rfl (fun x v => rfl) (fun x V vs hC hD => ?_), ?_⟩
          · have e12 : x 12 = .pointer (some ⟨b12, 0, none⟩) := (hD.1 rfl).1
            have e11 : x 11 = .bool true := (hD.2.1 rfl).1
            clear hD
            refine want_yes (by simp [Region.wanted, yielded, e11]) ?_
            exact leads_enter2 (by go_simp) ((rderr_any b12 _ g12 ([], 0) V (C7_com hC).rd).mono fun e w'' ⟨he, hw⟩ => ⟨_, he, rfl, hw ▸ hC⟩)
          refine ⟨ObL.of_val rfl (fun x v => rfl) (fun x V vs hC hD => ?_), ?_⟩
          · have e13 : x 13 = .int .i64 0 := (hD.1 rfl).1
            have e11 : x 11 = .bool true := (hD.2.1 rfl).1
            clear hD
            refine want_yes (by simp [Region.wanted, yielded, e11]) ?_
            exact leads_value (v := .bool true) (by go_simp) ⟨rfl, hC⟩
          refine ⟨ObL.of_val rfl (fun x v => rfl) (fun x V vs hC hD => ?_), ?_⟩
          · have e11 : x 11 = .bool true := (hD.1 rfl).1
            have e14 : x 14 = .bool true := (hD.2.1 rfl).1
            clear hD
            refine want_yes rfl ?_
            exact leads_value (v := .bool true) (by go_simp) ⟨rfl, hC⟩
          refine ⟨ObL.of_val rfl (fun x v => rfl) (fun x V vs hC hD => ?_), ?_⟩
          · have e15 : x 15 = .bool true := (hD.1 rfl).1
            clear hD
            refine want_yes rfl ?_
            exact leads_value (v := .bool true) (by go_simp) ⟨rfl, hC⟩
          refine ⟨ObL.of_val rfl (fun x v => rfl) (fun x V vs hC hD => ?_), ?_⟩
          · have e16 : x 16 = .bool true := (hD.1 rfl).1
            clear hD
            refine want_yes (by simp [Region.wanted, yielded, e16]) ?_
            exact leads_value (v := .pointer (some ⟨b12, 0, none⟩)) (by go_simp) ⟨rfl, hC⟩
          refine ⟨ObL.of_val rfl (fun x v => rfl) (fun x V vs hC hD => ?_), ?_⟩
          · have e17 : x 17 = .pointer (some ⟨b12, 0, none⟩) := (hD.1 rfl).1
            have e16 : x 16 = .bool true := (hD.2.1 rfl).1
            clear hD
            refine want_yes (by simp [Region.wanted, yielded, e16]) ?_
            exact leads_enter2 (by go_simp) ((rdleft_any b12 _ g12 ([], 0) V (C7_com hC).rd).mono fun e w'' ⟨he, hw⟩ => ⟨_, he, rfl, hw ▸ hC⟩)
          refine ⟨ObL.of_val rfl (fun x v => rfl) (fun x V vs hC hD => ?_), ?_⟩
          · have e18 : x 18 = .int .i64 0 := (hD.1 rfl).1
            have e16 : x 16 = .bool true := (hD.2.1 rfl).1
            clear hD
            refine want_yes (by simp [Region.wanted, yielded, e16]) ?_
            exact leads_value (v := .bool true) (by go_simp) ⟨rfl, hC⟩
          refine ⟨ObL.of_val rfl (fun x v => rfl) (fun x V vs hC hD => ?_), ?_⟩
          · have e16 : x 16 = .bool true := (hD.1 rfl).1
            have e19 : x 19 = .bool true := (hD.2.1 rfl).1
            clear hD
            refine want_yes rfl ?_
            exact leads_value (v := .bool true) (by go_simp) ⟨rfl, hC⟩
          refine ⟨ObL.of_val rfl (fun x v => rfl) (fun x V vs hC hD => ?_), ?_⟩
          · have e20 : x 20 = .bool true := (hD.1 rfl).1
            clear hD
            refine want_yes rfl ?_
            exact leads_value (v := .bool true) (by go_simp) ⟨rfl, hC⟩
          refine ⟨ObL.of_val rfl (fun x v => rfl) (fun x V vs hC hD => ?_), ?_⟩
          · have e21 : x 21 = .bool true := (hD.1 rfl).1
            clear hD
            refine want_yes (by simp [Region.wanted, yielded, e21]) ?_
            exact leads_enter2 (by go_simp) ((HAl.out V (C7_com hC).all).mono fun e w'' ⟨he, hB⟩ => ⟨_, he, rfl, C7_step (fun h => ZB.step h hB) hB hC⟩)
          refine ⟨ObL.of_val rfl (fun x v => rfl) (fun x V vs hC hD => ?_), ?_⟩
          · have e21 : x 21 = .bool true := (hD.1 rfl).1
            have e22 : x 22 = .bool true := (hD.2.1 rfl).1
            clear hD
            refine want_yes rfl ?_
            exact leads_value (v := .bool true) (by go_simp) ⟨rfl, hC⟩
          refine ⟨ObL.of_val rfl (fun x v => rfl) (fun x V vs hC hD => ?_), ?_⟩
          · have e23 : x 23 = .bool true := (hD.1 rfl).1
            clear hD
            refine want_yes rfl ?_
            exact leads_value (v := .bool true) (by go_simp) ⟨rfl, hC⟩
          trivial
        · intro xb V vs hl hC hx
          have e24 : xb 24 = .bool true := hx 24 (by simp)
          have HV := Lib.hid (C7_com hC)
          clear hx hC hl
          rw [e24]
          clear e24
          go_wp2_with fail
          go_ret
          exact ⟨rfl, HV.out.all⟩
set_option maxRecDepth 100000 in
set_option maxHeartbeats 1600000 in
theorem qbytes_far (hA : CAliveC) (pt : Option Addr) (ln cap : Nat) (pL : Option Addr) (n0 cap0 : Nat) (w : World) (hT : TabOk w) (h1 : ln ≤ 9223372036854775807) (h2 : n0 ≤ 9223372036854775807) (h : 30 < ln ∨ 100 < n0) :
    Calls Tryd.prog 5 #[.slice pt ln cap, .slice pL n0 cap0] w fun e w' => e = .returned (.bool true) ∧ Below w.heap.size w w' := by
  have HAl := Lib.hid (fun V (hV : Since w V) => hA V (hT.since hV))
  by_cases hl : 30 < ln
  · have dl : decide (30 < (ln : Int)) = true := by simp; omega
    clear hA hT h hl
    go_enter Tryd.func5, Tryd.ntmps5
    go_wp2_with fail
    refine (HAl.out _ (Below.refl _ _)).mono ?_
    rintro e w2 ⟨rfl, hB2⟩
    have HB2 := Lib.hid hB2
    clear hB2
    go_wp2_with fail
    go_ret
    exact ⟨rfl, HB2.out⟩
  · have dl : decide (30 < (ln : Int)) = false := by simp; omega
    have dk : decide (100 < (n0 : Int)) = true := by simp; omega
    clear hA hT h hl
    go_enter Tryd.func5, Tryd.ntmps5
    go_wp2_with fail
    refine (HAl.out _ (Below.refl _ _)).mono ?_
    rintro e w2 ⟨rfl, hB2⟩
    have HB2 := Lib.hid hB2
    clear hB2
    go_wp2_with fail
    go_ret
    exact ⟨rfl, HB2.out⟩
theorem qbytes_any (cB : CBytesC) (cR : CReadC) (hA : CAliveC) (v : Value) (l : List Cg) (pL : Option Addr) (n0 cap0 : Nat) (L : List UInt8) (w : World) (hT : TabOk w) (h : ChsAt w v l) (hb0 : BsAt w pL n0 cap0 L) :
    Calls Tryd.prog 5 #[v, .slice pL n0 cap0] w fun e w' => e = .returned (.bool true) ∧ Below w.heap.size w w' := by
  have h1 := hb0.same
  have h2 : n0 ≤ 9223372036854775807 := by have := hb0.le; have := hb0.small; unfold maxLen at this; omega
  by_cases hl : l.length ≤ 30 ∧ L.length ≤ 100
  · exact qbytes_near cB cR hA v l pL n0 cap0 L w hT h hb0 hl.1 hl.2
  · obtain ⟨pt, cap, rfl, hm, -⟩ := h
    exact qbytes_far hA pt l.length cap pL n0 cap0 w hT hm h2 (by omega)
end Go.Proofs.YthpangacpihclaaDoor

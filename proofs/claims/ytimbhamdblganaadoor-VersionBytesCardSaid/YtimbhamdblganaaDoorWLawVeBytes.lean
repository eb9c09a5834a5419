/-
  The law VersionBytes, from the program's contracts.
-/
import Derived.Deep.CutBlock
import Derived.Test.YtimbhamdblganaaDoorWVerX
import Derived.Test.YtimbhamdblganaaDoorW2
import Derived.Test.YtimbhamdblganaaDoorWLawPBytes
/-! LawVeBytes -/
namespace Go.Proofs.YtimbhamdblganaaDoor
open Go.RowKit

/-- The two Readers. -/
structure VYW (w : World) (br g bx gx : Nat) (L : List UInt8) (s r : WSt) (V : World) : Prop where
  all : Below w.heap.size w V
  rd : RAt V br 62 g s
  xd : XRd V bx 30 gx L r
  gl : g < V.heap.size
/-- They stand apart. -/
structure VYF (w : World) (br g bx gx : Nat) : Prop where
  gr : g ≠ br
  xx : gx ≠ bx
  bb : br ≠ bx
  gb : g ≠ bx
  xb : gx ≠ br
  wr : w.heap.size ≤ br
  wx : w.heap.size ≤ bx
section
variable {w : World} {br g bx gx : Nat} {L : List UInt8} {s r s' r' : WSt} {V V' : World}
theorem VYW.step (h : VYW w br g bx gx L s r V) (hB : Below V.heap.size V V') : VYW w br g bx gx L s r V' :=
  ⟨h.all.trans (hB.mono h.all.size), h.rd.below hB (Nat.le_refl _), h.xd.below hB (Nat.le_refl _), Nat.lt_of_lt_of_le h.gl hB.size⟩
theorem VYW.first (h : VYW w br g bx gx L s r V) (hf : VYF w br g bx gx) (hR : RTo V br 62 g s' V') : VYW w br g bx gx L s' r V' :=
  ⟨h.all.trans (hR.2.below h.all.size fun _ hk => hk ▸ hf.wr), hR.1, h.xd.kept hR.2 (fun e => hf.bb e.symm) hf.xb, Nat.lt_of_lt_of_le h.gl hR.2.size⟩
theorem VYW.second (h : VYW w br g bx gx L s r V) (hf : VYF w br g bx gx) (hX : XTo V bx 30 gx L r' V') : VYW w br g bx gx L s r' V' :=
  ⟨h.all.trans (hX.2.below h.all.size fun _ hk => hk ▸ hf.wx), h.rd.kept hX.2 hf.bb hf.gb, hX.1, Nat.lt_of_lt_of_le h.gl hX.2.size⟩
end
/-- With the two answers. -/
structure VYB (w : World) (br g bx gx : Nat) (L : List UInt8) (T : WSt) (u v : Value) (q : List Pol) (V : World) : Prop where
  y : VYW w br g bx gx L T T V
  u7 : PolsAt V u q
  u8 : PolsAt V v q
theorem VYB.step {w : World} {br g bx gx : Nat} {L : List UInt8} {T : WSt} {u v : Value} {q : List Pol} {V V' : World} (h : VYB w br g bx gx L T u v q V) (hB : Below V.heap.size V V') : VYB w br g bx gx L T u v q V' :=
  ⟨h.y.step hB, h.u7.below hB (Nat.le_refl _), h.u8.below hB (Nat.le_refl _)⟩
theorem VYB.cell {w : World} {br g bx gx : Nat} {L : List UInt8} {T : WSt} {u v : Value} {q : List Pol} {V : World} (h : VYB w br g bx gx L T u v q V) : V.cell? ⟨bx, 2, none⟩ = some (.int .i64 T.2) := by
  obtain ⟨p, c, k, hk, -⟩ := h.y.xd
  exact hk.cell 2
/-- The mended policies so far. -/
structure VMW (w : World) (v : Value) (m : List Pol) (V : World) : Prop where
  below : Below w.heap.size w V
  own : V.ownsRow w.heap.size 46 66 v m.length (flatC polC m)
/-- The store's bytes, and what was read of them. -/
structure VZB (w : World) (B0 : Nat) (p10 : Option Addr) (c10 : Nat) (B : List UInt8) (b12 g12 : Nat) (v12 vm : Value) (l : List Pol) (V : World) : Prop where
  all : Below w.heap.size w V
  own : V.ownsRow B0 5 1 (.slice p10 B.length c10) B.length (bvs B)
  rd : RAt V b12 62 g12 ([], 0)
  back : PolsAt V v12 l
  may : PolsAt V vm l
section
variable {w : World} {B0 : Nat} {p10 : Option Addr} {c10 : Nat} {B : List UInt8} {b12 g12 : Nat} {v12 vm : Value} {l : List Pol} {V V' : World}
theorem VZB.step (h : VZB w B0 p10 c10 B b12 g12 v12 vm l V) (hB : Below V.heap.size V V') : VZB w B0 p10 c10 B b12 g12 v12 vm l V' :=
  ⟨h.all.trans (hB.mono h.all.size), own_below h.own hB (Nat.le_refl _), h.rd.below hB (Nat.le_refl _), h.back.below hB (Nat.le_refl _), h.may.below hB (Nat.le_refl _)⟩
theorem VZB.bs (h : VZB w B0 p10 c10 B b12 g12 v12 vm l V) : BsAt V p10 B.length c10 B := by
  obtain ⟨p, c, e, hb⟩ := BsAt.ofRow h.own
  rw [Value.slice.injEq] at e
  obtain ⟨rfl, -, rfl⟩ := e
  exact hb
end
set_option maxRecDepth 100000 in
set_option maxHeartbeats 3200000 in
theorem vebytes_near (cB : VeBytesC) (cR : VeReadC) (hA : VeAliveC) (e : Nat) (he : e ≤ 255) (v : Value) (l : List Pol) (pL : Option Addr) (n0 cap0 : Nat) (L : List UInt8) (w : World) (hT : TabOk w) (h : PolsAt w v l) (hb0 : BsAt w pL n0 cap0 L) (hl : l.length ≤ 8) (hL : L.length ≤ 1500) :
    Calls Tryd.prog 3 #[.int .u8 (e : Int), v, .slice pL n0 cap0] w fun x w' => x = .returned (.bool true) ∧ Below w.heap.size w w' := by
  have hn0 := hb0.same
  subst hn0
  have hs0 : 0 < w.heap.size := Nat.lt_of_le_of_lt (Nat.zero_le _) hT.2
  have HB := Lib.hid cB
  have HCR := Lib.hid (fun b t g s V (hV : Since w V) => cR b t g s V (hT.since hV))
  have HAl := Lib.hid (fun V (_ : Since w V) => hA V)
  have HPs := Lib.hid h
  have HE := Lib.hid he
  have HQo := Lib.hid (vrL_ok (L, 0))
  have HWr := Lib.hid (vr_wr (L := L))
  have HBs := Lib.hid hb0
  have HLn := Lib.hid hL
  have HL8 := Lib.hid hl
  have HS0 := Lib.hid hs0
  have HKp := Lib.hid (fun V => rvKept_any (e : Int) V (by omega) (by omega))
  obtain ⟨pt, cap, rfl, -, -⟩ := h
  have dk : decide (1500 < (L.length : Int)) = false := by simp; omega
  have dl : decide (8 < (l.length : Int)) = false := by simp; omega
  have hw8 : IntKind.i64.wrap (e : Int) = (e : Int) := IntWalk.i64_in _ (by omega)
  clear cB cR hA hT hb0 hL hs0 hl he
  go_enter Tryd.func3, Tryd.ntmps3
  go_wp2_with fail
  refine (newRd2_any _ _ _ L _ HBs.out (by have := HLn.out; omega) HS0.out).mono ?_
  rintro x w3 ⟨br, g, rfl, hbr, hg1, ⟨hg3, hg2⟩, hr3, hB3⟩
  obtain ⟨gx, hgx, hgl⟩ : ∃ gx, (∀ a, pL = some a → L ≠ [] → a.block = gx) ∧ gx < w.heap.size := by
    by_cases hL0 : L = []
    · exact ⟨0, fun _ _ h => absurd hL0 h, HS0.out⟩
    · rcases HBs.out.place with ⟨-, h2⟩ | ⟨h2, -⟩ | ⟨g', off, rfl, h3, -⟩
      · have := HBs.out.le
        exact absurd (List.eq_nil_of_length_eq_zero (by omega)) hL0
      · exact absurd h2 hL0
      · exact ⟨g', fun a ha _ => by cases ha; rfl, h3⟩
  have hrl : br < w3.heap.size := by
    obtain ⟨p, n, c, h1, -⟩ := hr3
    exact h1.lt
  have hs3 := hB3.size
  have HF := Lib.hid (show VYF w br g w3.heap.size gx from ⟨hg1, by omega, by omega, by omega, by omega, by omega, by omega⟩)
  have HY := Lib.hid (show VYW w br g w3.heap.size gx L (L, 0) (L, 0) (w3.alloc (.cells #[.slice pL L.length cap0, .int .i64 0, .int .i64 0] 30)) from
    ⟨hB3.trans ((belowNew w3 _).mono hB3.size), hr3.below (belowNew w3 _) (Nat.le_refl _),
     ⟨pL, cap0, 0, Blk.new w3 _ _, HBs.out.below (hB3.trans ((belowNew w3 _).mono hB3.size)) (Nat.le_refl _), hgx, fun _ => ⟨rfl, Nat.zero_le _⟩, fun h => absurd rfl h⟩, by simp; omega⟩)
  have HGl := Lib.hid (show gx < (w3.alloc (.cells #[.slice pL L.length cap0, .int .i64 0, .int .i64 0] 30)).heap.size ∧ w3.heap.size < (w3.alloc (.cells #[.slice pL L.length cap0, .int .i64 0, .int .i64 0] 30)).heap.size by simp; omega)
  clear hgx hgl hrl hbr hg1 hg2 hg3 hr3 hB3 hs3 dk dl
  go_upto_region 4 with fail
  generalize hw4 : w3.alloc _ = w4 at HY HGl ⊢
  clear hw4
  obtain ⟨bx, hbx⟩ : ∃ bx, bx = w3.heap.size := ⟨_, rfl⟩
  rw [← hbx] at HY HF HGl ⊢
  clear hbx
  go_wp2_with fail
  refine (HCR.out br _ g (L, 0) _ HY.out.all HY.out.rd HF.out.gr HY.out.gl (by have := HLn.out; show L.length ≤ _; omega) (fun h => absurd rfl h)).mono ?_
  rintro x w5 ⟨v7, rfl, hn5, hR5⟩
  have HN5 := Lib.hid hn5
  have HY5 := Lib.hid (HY.out.first HF.out hR5)
  have HG5 := Lib.hid (Nat.lt_of_lt_of_le HGl.out.1 hR5.2.size)
  clear hR5 hn5 HY
  go_wp2_with fail
  refine (rvRead_any bx _ gx L (L, 0) _ HY5.out.xd HF.out.xx HG5.out (by have := HLn.out; omega)).mono ?_
  rintro x w6 ⟨v8, rfl, ho6, hR6⟩
  have HY6 := Lib.hid (show VYB w br g bx gx L (vrAll (L, 0)).2 v7 v8 (vrL (L, 0)) w6 from
    ⟨HY5.out.second HF.out hR6, (HN5.out.chg hR6.2 (fun k hk => by have hk : k = bx := hk; have := HGl.out.2; omega)).at_, SlAt.ofRow polC_size ho6 HQo.out⟩)
  clear hR6 ho6 HY5 HG5 HN5 HGl HF
  generalize vrL (L, 0) = q at *
  generalize (vrAll (L, 0)).2 = T at *
  generalize vrE (L, 0) = n7 at *
  go_upto_region 6 with fail
  refine wp_region_S (fun _ V => VYB w br g bx gx L T v7 v8 q V) 0 [.val (.int .i64 (n7 : Int)), .val (.int .i64 (n7 : Int)), .val (.bool false), .val (.bool false), .val (v7), .val (v8), .val (.bool true), .val (.bool false), .val (.bool false), .val (.bool false), .val (.pointer (some ⟨br, 0, none⟩)), .val (.int .i64 T.2), .val (.pointer (some ⟨bx, 0, none⟩)), .val (.pointer (some ⟨bx, 0, none⟩)), .val (.pointer (some ⟨bx, 2, none⟩)), .val (.int .i64 T.2), .val (.bool false), .val (.bool false), .val (.bool false), .val (.pointer (some ⟨br, 0, none⟩)), .val (.int .i64 (T.1.length : Nat)), .val (.pointer (some ⟨bx, 0, none⟩)), .val (.int .i64 (T.1.length : Nat)), .val (.bool false), .val (.bool false)]
    (fun x => { tmps := #[.int .u8 (e : Int), .slice pt l.length cap, .slice pL L.length cap0, undef, undef, undef, .bool false, .pointer (some ⟨br, 0, none⟩), .pointer (some ⟨bx, 0, none⟩), .int .i64 (n7 : Int), v7, .int .i64 (n7 : Int), v8, undef, undef, undef, undef, undef, undef, .slice pt l.length cap, .int .i64 (l.length : Int), .bool false, .bool false, .slice pL L.length cap0, .int .i64 (L.length : Int), .bool false, .bool false, undef, .slice pL L.length cap0, .pointer (some ⟨br, 0, none⟩), .slice pL L.length cap0, .agg #[.slice pL L.length cap0, .int .i64 0, .int .i64 0], .pointer (some ⟨bx, 0, none⟩), .tuple #[.int .i64 (n7 : Int), v7], .pointer (some ⟨br, 0, none⟩), .tuple #[.int .i64 (n7 : Int), v7], .int .i64 (n7 : Int), v7, .tuple #[.int .i64 (n7 : Int), v8], .pointer (some ⟨bx, 0, none⟩), .tuple #[.int .i64 (n7 : Int), v8], .int .i64 (n7 : Int), v8, x 0, x 1, x 2, x 3, x 4, x 5, x 6, x 7, x 8, x 9, x 10, x 11, x 12, x 13, x 14, x 15, x 16, x 17, x 18, x 19, x 20, x 21, x 22, x 23, x 24, undef, undef, undef, undef, undef, undef, undef, undef, undef, undef, undef, undef, undef, undef, undef, undef, undef, undef, undef, undef, undef, undef, undef, undef, undef, undef, undef, undef, undef, undef, undef, undef, undef, undef, undef, undef, undef, undef, undef, undef, undef, undef, undef, undef, undef, undef, undef, undef, undef, undef, undef, undef, undef, undef, undef, undef, undef, undef, undef, undef, undef, undef, undef, undef, undef, undef, undef, undef, undef, undef, undef, undef, undef, undef, undef, undef, undef, undef, undef, undef, undef, undef], defers := [] }) (fun i => ([undef, undef, undef, undef, undef, undef, undef, undef, undef, undef, undef, undef, undef, undef, undef, undef, undef, undef, undef, undef, undef, undef, undef, undef, undef] : List Value).getD i undef) (by kernel_rfl) rfl rfl (by kernel_rfl) (by kernel_rfl) (by kernel_rfl) (by kernel_rfl) (HY6.out.step (Below.refl _ _).drew) ?_ ?_
  · refine ⟨ObS.of_val rfl (fun x v => rfl) (fun x V kst hC hD => ?_), ?_⟩
    · clear hD
      refine want_yes rfl ?_
      exact leads_value (v := .int .i64 (n7 : Int)) (by go_simp) ⟨rfl, hC⟩
    refine ⟨ObS.of_val rfl (fun x v => rfl) (fun x V kst hC hD => ?_), ?_⟩
    · clear hD
      refine want_yes rfl ?_
      exact leads_value (v := .int .i64 (n7 : Int)) (by go_simp) ⟨rfl, hC⟩
    refine ⟨ObS.of_val rfl (fun x v => rfl) (fun x V kst hC hD => ?_), ?_⟩
    · have e0 : x 0 = .int .i64 (n7 : Int) := hD.1 rfl
      have e1 : x 1 = .int .i64 (n7 : Int) := hD.2.1 rfl
      clear hD
      refine want_yes rfl ?_
      exact leads_value (v := .bool false) (by go_simp) ⟨rfl, hC⟩
    refine ⟨ObS.of_val rfl (fun x v => rfl) (fun x V kst hC hD => ?_), ?_⟩
    · have e2 : x 2 = .bool false := hD.1 rfl
      clear hD
      refine want_yes rfl ?_
      exact leads_value (v := .bool false) (by go_simp) ⟨rfl, hC⟩
    refine ⟨ObS.of_val rfl (fun x v => rfl) (fun x V kst hC hD => ?_), ?_⟩
    · have e3 : x 3 = .bool false := hD.1 rfl
      clear hD
      refine want_yes (by simp [Region.wanted, yielded, e3]) ?_
      exact leads_value (v := v7) (by go_simp) ⟨rfl, hC⟩
    refine ⟨ObS.of_val rfl (fun x v => rfl) (fun x V kst hC hD => ?_), ?_⟩
    · have e3 : x 3 = .bool false := hD.1 rfl
      clear hD
      refine want_yes (by simp [Region.wanted, yielded, e3]) ?_
      exact leads_value (v := v8) (by go_simp) ⟨rfl, hC⟩
    refine ⟨ObS.of_val rfl (fun x v => rfl) (fun x V kst hC hD => ?_), ?_⟩
    · have e4 : x 4 = v7 := hD.1 rfl
      have e5 : x 5 = v8 := hD.2.1 rfl
      have e3 : x 3 = .bool false := hD.2.2.1 rfl
      clear hD
      refine want_yes (by simp [Region.wanted, yielded, e3]) ?_
      exact leads_enter2 (by go_simp) ((rvSame_any v7 v8 q V hC.u7 hC.u8).mono fun e w'' ⟨he, hB⟩ => ⟨_, he, rfl, hC.step hB⟩)
    refine ⟨ObS.of_val rfl (fun x v => rfl) (fun x V kst hC hD => ?_), ?_⟩
    · have e6 : x 6 = .bool true := hD.1 rfl
      have e3 : x 3 = .bool false := hD.2.1 rfl
      clear hD
      refine want_yes (by simp [Region.wanted, yielded, e3]) ?_
      exact leads_value (v := .bool false) (by go_simp) ⟨rfl, hC⟩
    refine ⟨ObS.of_val rfl (fun x v => rfl) (fun x V kst hC hD => ?_), ?_⟩
    · have e3 : x 3 = .bool false := hD.1 rfl
      have e7 : x 7 = .bool false := hD.2.1 rfl
      clear hD
      refine want_yes rfl ?_
      exact leads_value (v := .bool false) (by go_simp) ⟨rfl, hC⟩
    refine ⟨ObS.of_val rfl (fun x v => rfl) (fun x V kst hC hD => ?_), ?_⟩
    · have e8 : x 8 = .bool false := hD.1 rfl
      clear hD
      refine want_yes rfl ?_
      exact leads_value (v := .bool false) (by go_simp) ⟨rfl, hC⟩
    refine ⟨ObS.of_val rfl (fun x v => rfl) (fun x V kst hC hD => ?_), ?_⟩
    · have e9 : x 9 = .bool false := hD.1 rfl
      clear hD
      refine want_yes (by simp [Region.wanted, yielded, e9]) ?_
      exact leads_value (v := .pointer (some ⟨br, 0, none⟩)) (by go_simp) ⟨rfl, hC⟩
    refine ⟨ObS.of_val rfl (fun x v => rfl) (fun x V kst hC hD => ?_), ?_⟩
    · have e10 : x 10 = .pointer (some ⟨br, 0, none⟩) := hD.1 rfl
      have e9 : x 9 = .bool false := hD.2.1 rfl
      clear hD
      refine want_yes (by simp [Region.wanted, yielded, e9]) ?_
      exact leads_enter2 (by go_simp) ((rderr_any br _ g T V hC.y.rd).mono fun e w'' ⟨he, hw⟩ => ⟨_, he, rfl, hw ▸ hC⟩)
    refine ⟨ObS.of_val rfl (fun x v => rfl) (fun x V kst hC hD => ?_), ?_⟩
    · have e9 : x 9 = .bool false := hD.1 rfl
      clear hD
      refine want_yes (by simp [Region.wanted, yielded, e9]) ?_
      exact leads_value (v := .pointer (some ⟨bx, 0, none⟩)) (by go_simp) ⟨rfl, hC⟩
    refine ⟨ObS.of_val rfl (fun x v => rfl) (fun x V kst hC hD => ?_), ?_⟩
    · have e12 : x 12 = .pointer (some ⟨bx, 0, none⟩) := hD.1 rfl
      have e9 : x 9 = .bool false := hD.2.1 rfl
      clear hD
      refine want_yes (by simp [Region.wanted, yielded, e9]) ?_
      exact leads_value (v := .pointer (some ⟨bx, 0, none⟩)) (by go_simp) ⟨rfl, hC⟩
    refine ⟨ObS.of_val rfl (fun x v => rfl) (fun x V kst hC hD => ?_), ?_⟩
    · have e13 : x 13 = .pointer (some ⟨bx, 0, none⟩) := hD.1 rfl
      have e9 : x 9 = .bool false := hD.2.1 rfl
      clear hD
      refine want_yes (by simp [Region.wanted, yielded, e9]) ?_
      exact leads_value (v := .pointer (some ⟨bx, 2, none⟩)) (by go_simp) ⟨rfl, hC⟩
    refine ⟨ObS.of_val rfl (fun x v => rfl) (fun x V kst hC hD => ?_), ?_⟩
    · have e14 : x 14 = .pointer (some ⟨bx, 2, none⟩) := hD.1 rfl
      have e9 : x 9 = .bool false := hD.2.1 rfl
      clear hD
      refine want_yes (by simp [Region.wanted, yielded, e9]) ?_
      have k0 := hC.cell
      exact leads_value (v := .int .i64 T.2) (by go_simp) ⟨rfl, hC⟩
    refine ⟨ObS.of_val rfl (fun x v => rfl) (fun x V kst hC hD => ?_), ?_⟩
    · have e11 : x 11 = .int .i64 T.2 := hD.1 rfl
      have e15 : x 15 = .int .i64 T.2 := hD.2.1 rfl
      have e9 : x 9 = .bool false := hD.2.2.1 rfl
      clear hD
      refine want_yes (by simp [Region.wanted, yielded, e9]) ?_
      exact leads_value (v := .bool false) (by go_simp) ⟨rfl, hC⟩
    refine ⟨ObS.of_val rfl (fun x v => rfl) (fun x V kst hC hD => ?_), ?_⟩
    · have e9 : x 9 = .bool false := hD.1 rfl
      have e16 : x 16 = .bool false := hD.2.1 rfl
      clear hD
      refine want_yes rfl ?_
      exact leads_value (v := .bool false) (by go_simp) ⟨rfl, hC⟩
    refine ⟨ObS.of_val rfl (fun x v => rfl) (fun x V kst hC hD => ?_), ?_⟩
    · have e17 : x 17 = .bool false := hD.1 rfl
      clear hD
      refine want_yes rfl ?_
      exact leads_value (v := .bool false) (by go_simp) ⟨rfl, hC⟩
    refine ⟨ObS.of_val rfl (fun x v => rfl) (fun x V kst hC hD => ?_), ?_⟩
    · have e18 : x 18 = .bool false := hD.1 rfl
      clear hD
      refine want_yes (by simp [Region.wanted, yielded, e18]) ?_
      exact leads_value (v := .pointer (some ⟨br, 0, none⟩)) (by go_simp) ⟨rfl, hC⟩
    refine ⟨ObS.of_val rfl (fun x v => rfl) (fun x V kst hC hD => ?_), ?_⟩
    · have e19 : x 19 = .pointer (some ⟨br, 0, none⟩) := hD.1 rfl
      have e18 : x 18 = .bool false := hD.2.1 rfl
      clear hD
      refine want_yes (by simp [Region.wanted, yielded, e18]) ?_
      exact leads_enter2 (by go_simp) ((rdleft_any br _ g T V hC.y.rd).mono fun e w'' ⟨he, hw⟩ => ⟨_, he, rfl, hw ▸ hC⟩)
    refine ⟨ObS.of_val rfl (fun x v => rfl) (fun x V kst hC hD => ?_), ?_⟩
    · have e18 : x 18 = .bool false := hD.1 rfl
      clear hD
      refine want_yes (by simp [Region.wanted, yielded, e18]) ?_
      exact leads_value (v := .pointer (some ⟨bx, 0, none⟩)) (by go_simp) ⟨rfl, hC⟩
    refine ⟨ObS.of_val rfl (fun x v => rfl) (fun x V kst hC hD => ?_), ?_⟩
    · have e21 : x 21 = .pointer (some ⟨bx, 0, none⟩) := hD.1 rfl
      have e18 : x 18 = .bool false := hD.2.2.1 rfl
      clear hD
      refine want_yes (by simp [Region.wanted, yielded, e18]) ?_
      exact leads_enter2 (by go_simp) ((xleft_any bx _ gx L T V hC.y.xd (by have := HLn.out; omega)).mono fun e w'' ⟨he, n, hw⟩ => ⟨_, he, rfl, hw ▸ hC.step (show Below V.heap.size V (V.drewN n) from ⟨rfl, rfl, rfl, Nat.le_refl _, fun _ _ => rfl⟩)⟩)
    refine ⟨ObS.of_val rfl (fun x v => rfl) (fun x V kst hC hD => ?_), ?_⟩
    · have e20 : x 20 = .int .i64 (T.1.length : Nat) := hD.1 rfl
      have e22 : x 22 = .int .i64 (T.1.length : Nat) := hD.2.1 rfl
      have e18 : x 18 = .bool false := hD.2.2.1 rfl
      clear hD
      refine want_yes (by simp [Region.wanted, yielded, e18]) ?_
      exact leads_value (v := .bool false) (by go_simp) ⟨rfl, hC⟩
    refine ⟨ObS.of_val rfl (fun x v => rfl) (fun x V kst hC hD => ?_), ?_⟩
    · have e18 : x 18 = .bool false := hD.1 rfl
      have e23 : x 23 = .bool false := hD.2.1 rfl
      clear hD
      refine want_yes rfl ?_
      exact leads_value (v := .bool false) (by go_simp) ⟨rfl, hC⟩
    trivial
  · intro xa V7 hC hx
    have HB7 := Lib.hid (show VYB w br g bx gx L T v7 v8 q V7 from hC)
    have e24 : xa 24 = .bool false := hx 24 (by simp)
    clear hx hC HY6
    rw [e24]
    clear e24
    generalize xa 0 = z43
    generalize xa 1 = z44
    generalize xa 2 = z45
    generalize xa 3 = z46
    generalize xa 4 = z47
    generalize xa 5 = z48
    generalize xa 6 = z49
    generalize xa 7 = z50
    generalize xa 8 = z51
    generalize xa 9 = z52
    generalize xa 10 = z53
    generalize xa 11 = z54
    generalize xa 12 = z55
    generalize xa 13 = z56
    generalize xa 14 = z57
    generalize xa 15 = z58
    generalize xa 16 = z59
    generalize xa 17 = z60
    generalize xa 18 = z61
    generalize xa 19 = z62
    generalize xa 20 = z63
    generalize xa 21 = z64
    generalize xa 22 = z65
    generalize xa 23 = z66
    go_upto_region 8 with fail
    go_cut [85] (fun s wx => s = .bool false ∧ Hid (Below w.heap.size w wx))
    case first =>
      by_cases hz : T.2 = 0
      · have HTz := Lib.hid hz
        obtain ⟨hw1, hw2, hw3, hw4⟩ := HWr.out hz
        have HB8 := Lib.hid (fun V (hV : PolsAt V v7 q) => HB.out n7 v7 q V hV hw2 (by rw [hw3]; exact (keptN_pos hw2).2.1) hw4)
        have HLL := Lib.hid (show L.length = (bytesVe n7 q).length + T.1.length by have h := congrArg List.length hw1; rwa [List.length_append] at h)
        have HTk := Lib.hid (show ∀ V, Below w.heap.size w V → BsAt V pL (bytesVe n7 q).length cap0 (bytesVe n7 q) from fun V hV => by
          have h := bs_take (n := (bytesVe n7 q).length) (HBs.out.below hV (Nat.le_refl _)) (by have := HLL.out; omega)
          rwa [show L.take (bytesVe n7 q).length = bytesVe n7 q by rw [hw1, List.take_left' rfl]] at h)
        clear hz hw1 hw2 hw3 hw4 HB HCR HAl HKp HWr
        generalize bytesVe n7 q = B at *
        refine wp_region_L (C7 (fun V => VYB w br g bx gx L T v7 v8 q V) B) 1 [.val (.pointer (some ⟨br, 0, none⟩)), .val (.int .i64 0), .val (.bool true), .val (.bool true), .val (.int .i64 (n7 : Int)), .val (v7), .turn 0, .val (.string ⟨B.toArray⟩), .val (.slice pL L.length cap0), .val (.slice pL L.length cap0), .val (.int .i64 (L.length : Int)), .val (.pointer (some ⟨br, 0, none⟩)), .val (.int .i64 (T.1.length : Nat)), .val (.int .i64 (B.length : Nat)), .val (.slice pL B.length cap0), .val (.string ⟨B.toArray⟩), .val (.bool false), .val (.bool false)]
          (fun x => { tmps := #[.int .u8 (e : Int), .slice pt l.length cap, .slice pL L.length cap0, undef, undef, undef, .bool false, .pointer (some ⟨br, 0, none⟩), .pointer (some ⟨bx, 0, none⟩), .int .i64 (n7 : Int), v7, .int .i64 (n7 : Int), v8, undef, undef, undef, undef, undef, undef, .slice pt l.length cap, .int .i64 (l.length : Int), .bool false, .bool false, .slice pL L.length cap0, .int .i64 (L.length : Int), .bool false, .bool false, undef, .slice pL L.length cap0, .pointer (some ⟨br, 0, none⟩), .slice pL L.length cap0, .agg #[.slice pL L.length cap0, .int .i64 0, .int .i64 0], .pointer (some ⟨bx, 0, none⟩), .tuple #[.int .i64 (n7 : Int), v7], .pointer (some ⟨br, 0, none⟩), .tuple #[.int .i64 (n7 : Int), v7], .int .i64 (n7 : Int), v7, .tuple #[.int .i64 (n7 : Int), v8], .pointer (some ⟨bx, 0, none⟩), .tuple #[.int .i64 (n7 : Int), v8], .int .i64 (n7 : Int), v8, z43, z44, z45, z46, z47, z48, z49, z50, z51, z52, z53, z54, z55, z56, z57, z58, z59, z60, z61, z62, z63, z64, z65, z66, .bool false, x 0, x 1, x 2, x 3, x 4, x 5, x 6, x 7, x 8, x 9, x 10, x 11, x 12, x 13, x 14, x 15, x 16, x 17, undef, undef, undef, undef, undef, undef, undef, undef, undef, undef, undef, undef, undef, undef, undef, undef, undef, undef, undef, undef, undef, undef, undef, undef, undef, undef, undef, undef, undef, undef, undef, undef, undef, undef, undef, undef, undef, undef, undef, undef, undef, undef, undef, undef, undef, undef, undef, undef, undef, undef, undef, undef, undef, undef, undef, undef, undef, undef, undef, undef, undef, undef, undef, undef], defers := [] }) (fun i => ([undef, undef, undef, undef, undef, undef, undef, undef, undef, undef, undef, undef, undef, undef, undef, undef, undef, undef] : List Value).getD i undef) (by kernel_rfl) rfl rfl (by kernel_rfl) (by kernel_rfl) (by kernel_rfl) (by kernel_rfl) (HB7.out.step (Below.refl _ _).drew) ?_ ?_
        · refine ⟨ObL.of_val rfl (fun x v => rfl) (fun x V vs hC hD => ?_), ?_⟩
          · clear hD
            refine want_yes rfl ?_
            exact leads_value (v := .pointer (some ⟨br, 0, none⟩)) (by go_simp) ⟨rfl, hC⟩
          refine ⟨ObL.of_val rfl (fun x v => rfl) (fun x V vs hC hD => ?_), ?_⟩
          · have e0 : x 0 = .pointer (some ⟨br, 0, none⟩) := (hD.1 rfl).1
            clear hD
            refine want_yes rfl ?_
            exact leads_enter2 (by go_simp) ((rderr_any br _ g T V (C7_com hC).y.rd).mono fun e w'' ⟨he, hw⟩ => ⟨_, by rw [he, HTz.out], rfl, hw ▸ hC⟩)
          refine ⟨ObL.of_val rfl (fun x v => rfl) (fun x V vs hC hD => ?_), ?_⟩
          · have e1 : x 1 = .int .i64 0 := (hD.1 rfl).1
            clear hD
            refine want_yes rfl ?_
            exact leads_value (v := .bool true) (by go_simp) ⟨rfl, hC⟩
          refine ⟨ObL.of_val rfl (fun x v => rfl) (fun x V vs hC hD => ?_), ?_⟩
          · have e2 : x 2 = .bool true := (hD.1 rfl).1
            clear hD
            refine want_yes rfl ?_
            exact leads_value (v := .bool true) (by go_simp) ⟨rfl, hC⟩
          refine ⟨ObL.of_val rfl (fun x v => rfl) (fun x V vs hC hD => ?_), ?_⟩
          · have e3 : x 3 = .bool true := (hD.1 rfl).1
            clear hD
            refine want_yes (by simp [Region.wanted, yielded, e3]) ?_
            exact leads_value (v := .int .i64 (n7 : Int)) (by go_simp) ⟨rfl, hC⟩
          refine ⟨ObL.of_val rfl (fun x v => rfl) (fun x V vs hC hD => ?_), ?_⟩
          · have e3 : x 3 = .bool true := (hD.1 rfl).1
            clear hD
            refine want_yes (by simp [Region.wanted, yielded, e3]) ?_
            exact leads_value (v := v7) (by go_simp) ⟨rfl, hC⟩
          refine ⟨ObL.of_turn rfl (fun x v => rfl) (fun x V vs hl hC hD => ?_), ?_⟩
          · obtain rfl := len_zero hl
            have e4 : x 4 = .int .i64 (n7 : Int) := (hD.1 rfl).1
            have e5 : x 5 = v7 := (hD.2.1 rfl).1
            have e3 : x 3 = .bool true := (hD.2.2.1 rfl).1
            clear hD
            refine want_yes (by simp [Region.wanted, yielded, e3]) ?_
            have hC : (fun V => VYB w br g bx gx L T v7 v8 q V) V := hC
            refine leads_enter2 (by go_simp) ((HB8.out V hC.u7).mono fun e w'' hO => ?_)
            obtain ⟨v, he, hr, hB⟩ := hO
            obtain ⟨q3, c3, rfl, hbs⟩ := BsAt.ofRow hr
            exact ⟨_, he, VYB.step hC hB, q3, c3, rfl, hbs⟩
          refine ⟨ObL.of_val rfl (fun x v => rfl) (fun x V vs hC hD => ?_), ?_⟩
          · have e6 : x 6 = vs.getD 0 undef := (hD.1 rfl).1
            have n6 : 0 < vs.length := (hD.1 rfl).2
            have e3 : x 3 = .bool true := (hD.2.1 rfl).1
            clear hD
            refine want_yes (by simp [Region.wanted, yielded, e3]) ?_
            obtain ⟨p3, c3, hv, hb3⟩ := C7_val n6 hC
            rw [hv] at e6
            have cv := run_string_bs (P := Tryd.prog) V 23 5 9 Tryd.underlying23 Tryd.underlying5 Tryd.underlying9 hb3
            clear n6
            generalize vs.getD 0 undef = y0 at *
            exact leads_value (v := .string ⟨B.toArray⟩) (by go_simp) ⟨rfl, hC⟩
          refine ⟨ObL.of_val rfl (fun x v => rfl) (fun x V vs hC hD => ?_), ?_⟩
          · have e3 : x 3 = .bool true := (hD.1 rfl).1
            clear hD
            refine want_yes (by simp [Region.wanted, yielded, e3]) ?_
            exact leads_value (v := .slice pL L.length cap0) (by go_simp) ⟨rfl, hC⟩
          refine ⟨ObL.of_val rfl (fun x v => rfl) (fun x V vs hC hD => ?_), ?_⟩
          · have e3 : x 3 = .bool true := (hD.1 rfl).1
            clear hD
            refine want_yes (by simp [Region.wanted, yielded, e3]) ?_
            exact leads_value (v := .slice pL L.length cap0) (by go_simp) ⟨rfl, hC⟩
          refine ⟨ObL.of_val rfl (fun x v => rfl) (fun x V vs hC hD => ?_), ?_⟩
          · have e9 : x 9 = .slice pL L.length cap0 := (hD.1 rfl).1
            have e3 : x 3 = .bool true := (hD.2.1 rfl).1
            clear hD
            refine want_yes (by simp [Region.wanted, yielded, e3]) ?_
            exact leads_value (v := .int .i64 (L.length : Int)) (by go_simp) ⟨rfl, hC⟩
          refine ⟨ObL.of_val rfl (fun x v => rfl) (fun x V vs hC hD => ?_), ?_⟩
          · have e3 : x 3 = .bool true := (hD.1 rfl).1
            clear hD
            refine want_yes (by simp [Region.wanted, yielded, e3]) ?_
            exact leads_value (v := .pointer (some ⟨br, 0, none⟩)) (by go_simp) ⟨rfl, hC⟩
          refine ⟨ObL.of_val rfl (fun x v => rfl) (fun x V vs hC hD => ?_), ?_⟩
          · have e11 : x 11 = .pointer (some ⟨br, 0, none⟩) := (hD.1 rfl).1
            have e3 : x 3 = .bool true := (hD.2.2.1 rfl).1
            clear hD
            refine want_yes (by simp [Region.wanted, yielded, e3]) ?_
            exact leads_enter2 (by go_simp) ((rdleft_any br _ g T V (C7_com hC).y.rd).mono fun e w'' ⟨he, hw⟩ => ⟨_, he, rfl, hw ▸ hC⟩)
          refine ⟨ObL.of_val rfl (fun x v => rfl) (fun x V vs hC hD => ?_), ?_⟩
          · have e10 : x 10 = .int .i64 (L.length : Int) := (hD.1 rfl).1
            have e12 : x 12 = .int .i64 (T.1.length : Nat) := (hD.2.1 rfl).1
            have e3 : x 3 = .bool true := (hD.2.2.1 rfl).1
            clear hD
            refine want_yes (by simp [Region.wanted, yielded, e3]) ?_
            have hw : IntKind.i64.wrap ((L.length : Int) - (T.1.length : Int)) = (B.length : Int) := by rw [show (L.length : Int) - (T.1.length : Int) = (B.length : Int) by have := HLL.out; omega]; exact IntWalk.i64_in _ (by have := HLL.out; have := HLn.out; omega)
            exact leads_value (v := .int .i64 (B.length : Nat)) (by go_simp) ⟨rfl, hC⟩
          refine ⟨ObL.of_val rfl (fun x v => rfl) (fun x V vs hC hD => ?_), ?_⟩
          · have e8 : x 8 = .slice pL L.length cap0 := (hD.1 rfl).1
            have e13 : x 13 = .int .i64 (B.length : Nat) := (hD.2.1 rfl).1
            have e3 : x 3 = .bool true := (hD.2.2.1 rfl).1
            clear hD
            refine want_yes (by simp [Region.wanted, yielded, e3]) ?_
            have u := run_upto V pL L.length cap0 B.length (by have := HLL.out; have := HBs.out.le; omega)
            exact leads_value (v := .slice pL B.length cap0) (by go_simp) ⟨rfl, hC⟩
          refine ⟨ObL.of_val rfl (fun x v => rfl) (fun x V vs hC hD => ?_), ?_⟩
          · have e14 : x 14 = .slice pL B.length cap0 := (hD.1 rfl).1
            have e3 : x 3 = .bool true := (hD.2.1 rfl).1
            clear hD
            refine want_yes (by simp [Region.wanted, yielded, e3]) ?_
            have cv := run_string_bs (P := Tryd.prog) V 23 5 9 Tryd.underlying23 Tryd.underlying5 Tryd.underlying9 (HTk.out V (C7_com hC).y.all)
            exact leads_value (v := .string ⟨B.toArray⟩) (by go_simp) ⟨rfl, hC⟩
          refine ⟨ObL.of_val rfl (fun x v => rfl) (fun x V vs hC hD => ?_), ?_⟩
          · have e7 : x 7 = .string ⟨B.toArray⟩ := (hD.1 rfl).1
            have e15 : x 15 = .string ⟨B.toArray⟩ := (hD.2.1 rfl).1
            have e3 : x 3 = .bool true := (hD.2.2.1 rfl).1
            clear hD
            refine want_yes (by simp [Region.wanted, yielded, e3]) ?_
            exact leads_value (v := .bool false) (by go_simp) ⟨rfl, hC⟩
          refine ⟨ObL.of_val rfl (fun x v => rfl) (fun x V vs hC hD => ?_), ?_⟩
          · have e3 : x 3 = .bool true := (hD.1 rfl).1
            have e16 : x 16 = .bool false := (hD.2.1 rfl).1
            clear hD
            refine want_yes rfl ?_
            exact leads_value (v := .bool false) (by go_simp) ⟨rfl, hC⟩
          trivial
        · intro xb V vs hl hC hx
          have e17 : xb 17 = .bool false := hx 17 (by simp)
          have HV := Lib.hid (C7_com hC)
          clear hx hC hl
          rw [e17]
          go_wp2_with fail
          go_meet
          exact ⟨rfl, Lib.hid HV.out.y.all⟩
      · have HTz := Lib.hid hz
        clear hz HB HCR HAl HKp HWr
        refine wp_region_S (fun _ V => VYB w br g bx gx L T v7 v8 q V) 0 [.val (.pointer (some ⟨br, 0, none⟩)), .val (.int .i64 T.2), .val (.bool false), .val (.bool false), .val undef, .val undef, .val undef, .val undef, .val undef, .val undef, .val undef, .val undef, .val undef, .val undef, .val undef, .val undef, .val undef, .val (.bool false)]
          (fun x => { tmps := #[.int .u8 (e : Int), .slice pt l.length cap, .slice pL L.length cap0, undef, undef, undef, .bool false, .pointer (some ⟨br, 0, none⟩), .pointer (some ⟨bx, 0, none⟩), .int .i64 (n7 : Int), v7, .int .i64 (n7 : Int), v8, undef, undef, undef, undef, undef, undef, .slice pt l.length cap, .int .i64 (l.length : Int), .bool false, .bool false, .slice pL L.length cap0, .int .i64 (L.length : Int), .bool false, .bool false, undef, .slice pL L.length cap0, .pointer (some ⟨br, 0, none⟩), .slice pL L.length cap0, .agg #[.slice pL L.length cap0, .int .i64 0, .int .i64 0], .pointer (some ⟨bx, 0, none⟩), .tuple #[.int .i64 (n7 : Int), v7], .pointer (some ⟨br, 0, none⟩), .tuple #[.int .i64 (n7 : Int), v7], .int .i64 (n7 : Int), v7, .tuple #[.int .i64 (n7 : Int), v8], .pointer (some ⟨bx, 0, none⟩), .tuple #[.int .i64 (n7 : Int), v8], .int .i64 (n7 : Int), v8, z43, z44, z45, z46, z47, z48, z49, z50, z51, z52, z53, z54, z55, z56, z57, z58, z59, z60, z61, z62, z63, z64, z65, z66, .bool false, x 0, x 1, x 2, x 3, x 4, x 5, x 6, x 7, x 8, x 9, x 10, x 11, x 12, x 13, x 14, x 15, x 16, x 17, undef, undef, undef, undef, undef, undef, undef, undef, undef, undef, undef, undef, undef, undef, undef, undef, undef, undef, undef, undef, undef, undef, undef, undef, undef, undef, undef, undef, undef, undef, undef, undef, undef, undef, undef, undef, undef, undef, undef, undef, undef, undef, undef, undef, undef, undef, undef, undef, undef, undef, undef, undef, undef, undef, undef, undef, undef, undef, undef, undef, undef, undef, undef, undef], defers := [] }) (fun i => ([undef, undef, undef, undef, undef, undef, undef, undef, undef, undef, undef, undef, undef, undef, undef, undef, undef, undef] : List Value).getD i undef) (by kernel_rfl) rfl rfl (by kernel_rfl) (by kernel_rfl) (by kernel_rfl) (by kernel_rfl) (HB7.out.step (Below.refl _ _).drew) ?_ ?_
        · refine ⟨ObS.of_val rfl (fun x v => rfl) (fun x V kst hC hD => ?_), ?_⟩
          · clear hD
            refine want_yes rfl ?_
            exact leads_value (v := .pointer (some ⟨br, 0, none⟩)) (by go_simp) ⟨rfl, hC⟩
          refine ⟨ObS.of_val rfl (fun x v => rfl) (fun x V kst hC hD => ?_), ?_⟩
          · have e0 : x 0 = .pointer (some ⟨br, 0, none⟩) := hD.1 rfl
            clear hD
            refine want_yes rfl ?_
            exact leads_enter2 (by go_simp) ((rderr_any br _ g T V hC.y.rd).mono fun e w'' ⟨he, hw⟩ => ⟨_, he, rfl, hw ▸ hC⟩)
          refine ⟨ObS.of_val rfl (fun x v => rfl) (fun x V kst hC hD => ?_), ?_⟩
          · have e1 : x 1 = .int .i64 T.2 := hD.1 rfl
            clear hD
            refine want_yes rfl ?_
            exact leads_value (v := .bool false) (by go_simp; exact HTz.out) ⟨rfl, hC⟩
          refine ⟨ObS.of_val rfl (fun x v => rfl) (fun x V kst hC hD => ?_), ?_⟩
          · have e2 : x 2 = .bool false := hD.1 rfl
            clear hD
            refine want_yes rfl ?_
            exact leads_value (v := .bool false) (by go_simp) ⟨rfl, hC⟩
          refine ⟨ObS.of_val rfl (fun x v => rfl) (fun x V kst hC hD => ?_), ?_⟩
          · have e3 : x 3 = .bool false := hD.1 rfl
            clear hD
            exact want_no (by simp [Region.wanted, yielded, e3]) rfl
          refine ⟨ObS.of_val rfl (fun x v => rfl) (fun x V kst hC hD => ?_), ?_⟩
          · have e3 : x 3 = .bool false := hD.1 rfl
            clear hD
            exact want_no (by simp [Region.wanted, yielded, e3]) rfl
          refine ⟨ObS.of_val rfl (fun x v => rfl) (fun x V kst hC hD => ?_), ?_⟩
          · have e4 : x 4 = undef := hD.1 rfl
            have e5 : x 5 = undef := hD.2.1 rfl
            have e3 : x 3 = .bool false := hD.2.2.1 rfl
            clear hD
            exact want_no (by simp [Region.wanted, yielded, e3]) rfl
          refine ⟨ObS.of_val rfl (fun x v => rfl) (fun x V kst hC hD => ?_), ?_⟩
          · have e6 : x 6 = undef := hD.1 rfl
            have e3 : x 3 = .bool false := hD.2.1 rfl
            clear hD
            exact want_no (by simp [Region.wanted, yielded, e3]) rfl
          refine ⟨ObS.of_val rfl (fun x v => rfl) (fun x V kst hC hD => ?_), ?_⟩
          · have e3 : x 3 = .bool false := hD.1 rfl
            clear hD
            exact want_no (by simp [Region.wanted, yielded, e3]) rfl
          refine ⟨ObS.of_val rfl (fun x v => rfl) (fun x V kst hC hD => ?_), ?_⟩
          · have e3 : x 3 = .bool false := hD.1 rfl
            clear hD
            exact want_no (by simp [Region.wanted, yielded, e3]) rfl
          refine ⟨ObS.of_val rfl (fun x v => rfl) (fun x V kst hC hD => ?_), ?_⟩
          · have e9 : x 9 = undef := hD.1 rfl
            have e3 : x 3 = .bool false := hD.2.1 rfl
            clear hD
            exact want_no (by simp [Region.wanted, yielded, e3]) rfl
          refine ⟨ObS.of_val rfl (fun x v => rfl) (fun x V kst hC hD => ?_), ?_⟩
          · have e3 : x 3 = .bool false := hD.1 rfl
            clear hD
            exact want_no (by simp [Region.wanted, yielded, e3]) rfl
          refine ⟨ObS.of_val rfl (fun x v => rfl) (fun x V kst hC hD => ?_), ?_⟩
          · have e11 : x 11 = undef := hD.1 rfl
            have e3 : x 3 = .bool false := hD.2.2.1 rfl
            clear hD
            exact want_no (by simp [Region.wanted, yielded, e3]) rfl
          refine ⟨ObS.of_val rfl (fun x v => rfl) (fun x V kst hC hD => ?_), ?_⟩
          · have e10 : x 10 = undef := hD.1 rfl
            have e12 : x 12 = undef := hD.2.1 rfl
            have e3 : x 3 = .bool false := hD.2.2.1 rfl
            clear hD
            exact want_no (by simp [Region.wanted, yielded, e3]) rfl
          refine ⟨ObS.of_val rfl (fun x v => rfl) (fun x V kst hC hD => ?_), ?_⟩
          · have e8 : x 8 = undef := hD.1 rfl
            have e13 : x 13 = undef := hD.2.1 rfl
            have e3 : x 3 = .bool false := hD.2.2.1 rfl
            clear hD
            exact want_no (by simp [Region.wanted, yielded, e3]) rfl
          refine ⟨ObS.of_val rfl (fun x v => rfl) (fun x V kst hC hD => ?_), ?_⟩
          · have e14 : x 14 = undef := hD.1 rfl
            have e3 : x 3 = .bool false := hD.2.1 rfl
            clear hD
            exact want_no (by simp [Region.wanted, yielded, e3]) rfl
          refine ⟨ObS.of_val rfl (fun x v => rfl) (fun x V kst hC hD => ?_), ?_⟩
          · have e7 : x 7 = undef := hD.1 rfl
            have e15 : x 15 = undef := hD.2.1 rfl
            have e3 : x 3 = .bool false := hD.2.2.1 rfl
            clear hD
            exact want_no (by simp [Region.wanted, yielded, e3]) rfl
          refine ⟨ObS.of_val rfl (fun x v => rfl) (fun x V kst hC hD => ?_), ?_⟩
          · have e3 : x 3 = .bool false := hD.1 rfl
            have e16 : x 16 = undef := hD.2.1 rfl
            clear hD
            refine want_yes rfl ?_
            exact leads_value (v := .bool false) (by go_simp) ⟨rfl, hC⟩
          trivial
        · intro xb V hC hx
          have e17 : xb 17 = .bool false := hx 17 (by simp)
          have HV := Lib.hid (show VYB w br g bx gx L T v7 v8 q V from hC)
          clear hx hC
          rw [e17]
          go_wp2_with fail
          go_meet
          exact ⟨rfl, Lib.hid HV.out.y.all⟩
    case rest =>
      obtain ⟨rfl, HB9⟩ := hcut
      clear HB7 HQo HWr
      have HB9 := HB9
      go_wp2_with fail
      refine (HKp.out _).mono ?_
      rintro x wk ⟨rfl, rfl⟩
      by_cases hk : l.length = keptN (e : Int)
      · have d : ((l.length : Int) == ((keptN (e : Int) : Nat) : Int)) = true := by rw [beq_iff_eq]; omega
        have d2 : (l.length == keptN (e : Int)) = true := by rw [beq_iff_eq]; exact hk
        have d3 : (l.length : Int) = ((keptN (e : Int) : Nat) : Int) := by omega
        have HKe := Lib.hid hk
        clear hk
        have hmo : ∀ p ∈ l.map mendN, PolOk p ∧ fineP p = true := fun p hp => by
          obtain ⟨q, hq, rfl⟩ := List.mem_map.1 hp
          exact ⟨mendN_ok (HPs.out.oks q hq), mend_fine (HPs.out.oks q hq)⟩
        have HMo := Lib.hid hmo
        have HBa := Lib.hid (wr_vr (e := e) (l := l.map mendN) HE.out (by rw [List.length_map]; exact HKe.out) hmo [])
        rw [List.append_nil] at HBa
        have HMl := Lib.hid (show (l.map mendN).length = l.length by simp)
        have HBl := Lib.hid (show (bytesVe e (l.map mendN)).length ≤ 8001 from by
          have h := bytesVK_le e (l.map mendN) (l.map mendN).length (Nat.le_refl _)
          have h2 := HL8.out
          have h3 := HMl.out
          unfold bytesVe; omega)
        have HBc := Lib.hid (fun V v (hV : PolsAt V v (l.map mendN)) => HB.out e v (l.map mendN) V hV HE.out (by rw [HMl.out]; exact HL8.out) (fun p hp => (hmo p hp).2))
        have HRB := Lib.hid (fun V v (hV : PolsAt V v (l.map mendN)) => rveBytes_any e v (l.map mendN) V hV HE.out (by rw [HMl.out]; have := HL8.out; omega))
        clear hmo HB
        generalize bytesVe e (l.map mendN) = B at *
        obtain ⟨i0, hi, hx⟩ := Option.map_eq_some_iff.1 infoPl2
        simp only [Prod.mk.injEq] at hx
        obtain ⟨hz0, hz1, hz2⟩ := hx
        have HI := Lib.hid (And.intro hi (And.intro hz0 (And.intro hz1 hz2)))
        clear hi hz0 hz1 hz2
        have HG0 := Lib.hid (show VMW w (.slice none 0 0) ((l.take 0).map mendN) _ from ⟨HB9.out, ⟨rfl, .inl ⟨rfl, rfl⟩⟩⟩)
        go_upto_region 13 with fail
        clear d d2 d3
        go_wp2_with fail
        go_loopw [13, 14] (fun u i wr => ∃ k : Nat, k ≤ l.length ∧ i = .int .i64 (k : Int) ∧ VMW w u ((l.take k).map mendN) wr) (fun _ i _ => l.length - (intOf i).toNat)
        case atStart => exact ⟨0, by omega, rfl, HG0.out⟩
        case round =>
          obtain ⟨k, hk, rfl, hg⟩ := hrel
          have HG := Lib.hid hg
          clear hg HG0
          by_cases hlt : k < l.length
          · have dk : decide ((k : Int) < (l.length : Int)) = true := by simp; omega
            have dk2 : decide (k < l.length) = true := by simpa using hlt
            obtain ⟨g2, off, cp, hse, -, -, hgl⟩ := HPs.out.shape (fun e => by rw [e] at hlt; cases hlt)
            cases hse
            have hel := HPs.out.elem hlt
            have hce := hel.2.below HG.out.below hgl
            have HTk := Lib.hid (show (l.take (k + 1)).map mendN = (l.take k).map mendN ++ [mendN l[k]] by rw [List.take_succ_eq_append_getElem hlt, List.map_append]; rfl)
            have HLk := Lib.hid (show ((l.take k).map mendN).length = k by rw [List.length_map, List.length_take]; omega)
            have h5 := Lib.hid (rpMend_any l[k] wr hel.1)
            generalize mendN l[k] = q at *
            generalize l[k] = p0 at *
            generalize (l.take k).map mendN = m at *
            have HKl := Lib.hid hlt
            have hk0 : (0 : Int) ≤ (k : Int) := by omega
            have hk1 : (k : Int) < (l.length : Int) := by omega
            clear hel hlt hk hgl
            go_wp2_with (refine wpList_load_cells rfl _ _ rfl rfl hce Tryd.underlying46 rfl (infoPol _) ?_)
            refine h5.out.mono ?_
            rintro x w5 ⟨rfl, hB5⟩
            have HB5 := Lib.hid (HG.out.below.trans (hB5.mono HG.out.below.size))
            have HO5 := Lib.hid (own_belowC HG.out.own hB5)
            clear hB5 h5 HG hce dk dk2
            have HB6 := Lib.hid (HB5.out.trans (belowNew w5 (.cells (flatC polC [q]).toArray 46) |>.mono HB5.out.size))
            have HO6 := Lib.hid (HO5.out.alloc (.cells (flatC polC [q]).toArray 46))
            have HCn := Lib.hid (cells_madeC w5 (flatC polC [q]).toArray 46)
            have hmk := HLk.out
            have hwk : IntKind.i64.wrap ((k : Int) + 1) = (k : Int) + 1 := by have := HL8.out; have := HKl.out; rw [IntKind.wrap_i64]; omega
            go_wp2_with (first
              | (refine wpList_build_flat polC_size (by decide) rfl _ 46 1 _ rfl Tryd.underlying22 infoPl2 [q] (by simp) rfl (by show 1 * 66 ≤ 2 ^ 24; decide) rfl ?_)
              | (at_builtin; refine wpList_append_own_at _ rfl _ _ 22 rfl w.heap.size 46 i0 _ 66 116 Tryd.underlying22 HI.out.1 HI.out.2.1 HI.out.2.2.1 HI.out.2.2.2 (polC_size zeroP) (by decide) u13 m.length (flatC polC m) rfl HO6.out ⟨w5.heap.size, 0, none⟩ 1 1 (flatC polC [q]) rfl (flatC_length polC_size [q]) HCn.out (flatC_cells polC_one [q]) (by have := HL8.out; have := HKl.out; unfold maxLen; omega) (by have := HL8.out; have := HKl.out; omega) HB6.out.size ?_; intro v7 w7 hr7 hg7 hx1 hx2; have HG7 := Lib.hid (show VMW w v7 (m ++ [q]) w7 from ⟨HB6.out.grown hg7 HB6.out.size (fun r e => (HO6.out.lt r e).1), own_snocC (c := q) (by rw [flatC_one] at hr7; exact hr7)⟩); clear hr7 hg7 hx1 hx2))
            rw [← HTk.out] at HG7
            go_roundw
            case rel => exact ⟨k + 1, by have := HKl.out; omega, by go_num, HG7.out⟩
            case measure => have := HKl.out; simp [intOf]; omega
          · have dk : decide ((k : Int) < (l.length : Int)) = false := by simp; omega
            have dk2 : decide (k < l.length) = false := by simpa using hlt
            have HTa := Lib.hid (show l.take k = l from List.take_of_length_le (by omega))
            rw [HTa.out] at HG
            clear hlt hk HTa
            generalize l.map mendN = m at *
            have HPm := Lib.hid (SlAt.ofRow (ok := PolOk) polC_size HG.out.own (fun p hp => (HMo.out p hp).1))
            have HPo := Lib.hid HG.out.own
            have HGb := Lib.hid HG.out.below
            clear HG HI HPs
            go_wp2_with fail
            refine (HBc.out _ _ HPm.out).mono ?_
            rintro x w8 ⟨u, rfl, ho8, hB8⟩
            obtain ⟨p10, c10, rfl, hbs8⟩ := BsAt.ofRow ho8
            have HG8 := Lib.hid (HGb.out.trans (hB8.mono HGb.out.size))
            have HO8 := Lib.hid ho8
            have HP8 := Lib.hid (And.intro (HPm.out.below hB8 (Nat.le_refl _)) hB8.size)
            clear hB8 ho8 HGb HBc
            go_wp2_with fail
            refine (newRd2_any _ _ _ _ _ hbs8 (by have := HBl.out; omega) (by have := HS0.out; have := HG8.out.size; omega)).mono ?_
            rintro x w9 ⟨b12, g12, rfl, hb12, hg1, ⟨-, hg12⟩, hr9, hB9⟩
            have HG9 := Lib.hid (HG8.out.trans (hB9.mono HG8.out.size))
            have HO9 := Lib.hid (own_below HO8.out hB9 (Nat.le_refl _))
            have HP9 := Lib.hid (HP8.out.1.below hB9 (Nat.le_refl _))
            have HR9 := Lib.hid hr9
            have HN9 := Lib.hid (show g12 ≠ b12 ∧ g12 < w9.heap.size ∧ w8.heap.size ≤ b12 ∧ w.heap.size ≤ b12 from ⟨hg1, hg12, hb12, Nat.le_trans HG8.out.size hb12⟩)
            have HL9 := Lib.hid (fun k (hk : (Value.slice p10 B.length c10).ownBlock = some k) => (HO8.out.lt k hk).2)
            have HM9 := Lib.hid (fun a n c (hk : u13 = .slice (some a) n c) => show a.block < w8.heap.size from Nat.lt_of_lt_of_le ((HPo.out.lt a.block (by rw [hk]; rfl)).2) HP8.out.2)
            clear hr9 hB9 hb12 hg1 hg12 hbs8 HG8 HO8 HP8 HPo HPm
            go_upto_region 19 with fail
            go_wp2_with fail
            refine (HCR.out b12 _ g12 (B, 0) _ HG9.out HR9.out HN9.out.1 HN9.out.2.1 (by have := HBl.out; show B.length ≤ _; omega) (fun h => absurd rfl h)).mono ?_
            rintro x w10 ⟨v12, rfl, hn10, hR10⟩
            rw [HBa.out.2.2] at hR10
            have HZ := Lib.hid (show VZB w wr.heap.size p10 c10 B b12 g12 v12 u13 m w10 from
              ⟨HG9.out.trans (hR10.2.below HG9.out.size fun k hk => by have hk : k = b12 := hk; have := HN9.out; omega), own_chg HO9.out hR10.2 (fun k hk e => by have e : k = b12 := e; have := HL9.out k hk; have := HN9.out; omega), hR10.1, pols_cells hn10.at_ HBa.out.2.1 (fun p hp => (HMo.out p hp).1),
               HP9.out.chg hR10.2 (fun a n c e hk => by have hk : a.block = b12 := hk; have := HM9.out a n c e; have := HN9.out; omega)⟩)
            have HVe := Lib.hid HBa.out.1
            rw [HBa.out.1]
            clear hn10 hR10 HO9 HR9 HN9 HL9 HG9 HBl HBa HM9 HP9 HMo
            generalize wr.heap.size = B0 at *
            obtain ⟨vm, hvm⟩ : ∃ vm, vm = u13 := ⟨_, rfl⟩
            rw [← hvm] at HZ ⊢
            clear hvm
            go_upto_region 20 with fail
            refine wp_region_L (C7 (fun V => VZB w B0 p10 c10 B b12 g12 v12 vm m V) B) 1 [.val (.slice p10 B.length c10), .val (.string ⟨B.toArray⟩), .val (.int .u8 (e : Int)), .val (.int .i64 (e : Int)), .val (vm), .turn 0, .val (.string ⟨B.toArray⟩), .val (.bool true), .val (.bool true), .val (.int .i64 (e : Int)), .val (.int .u8 (e : Int)), .val (.int .i64 (e : Int)), .val (.bool true), .val (.bool true), .val (.bool true), .val (v12), .val (vm), .val (.bool true), .val (.bool true), .val (.bool true), .val (.pointer (some ⟨b12, 0, none⟩)), .val (.int .i64 0), .val (.bool true), .val (.bool true), .val (.bool true), .val (.pointer (some ⟨b12, 0, none⟩)), .val (.int .i64 0), .val (.bool true), .val (.bool true), .val (.bool true), .val (.bool true), .val (.bool true), .val (.bool true)]
              (fun x => { tmps := #[.int .u8 (e : Int), .slice pt l.length cap, .slice pL L.length cap0, undef, undef, undef, x 32, .pointer (some ⟨br, 0, none⟩), .pointer (some ⟨bx, 0, none⟩), .int .i64 (n7 : Int), v7, .int .i64 (n7 : Int), v8, vm, .int .i64 (k : Int), .slice p10 B.length c10, .pointer (some ⟨b12, 0, none⟩), .int .i64 (e : Int), v12, u19, u20, u21, u22, u23, u24, u25, u26, u27, u28, u29, u30, u31, u32, u33, u34, u35, u36, u37, u38, u39, u40, u41, u42, u43, u44, u45, u46, u47, u48, u49, u50, u51, u52, u53, u54, u55, u56, u57, u58, u59, u60, u61, u62, u63, u64, u65, u66, u67, u68, u69, u70, u71, u72, u73, u74, u75, u76, u77, u78, u79, u80, u81, u82, u83, u84, .bool false, .slice pt l.length cap, .int .i64 ↑(keptN (e : Int)), .int .u8 (e : Int), .int .i64 (e : Int), .int .i64 ↑(keptN (e : Int)), .bool false, u92, .int .i64 (k : Int), .slice pt l.length cap, .int .i64 (l.length : Int), .bool false, u97, u98, u99, u100, u101, u102, u103, u104, u105, u106, .int .u8 (e : Int), .int .i64 (e : Int), vm, .slice p10 B.length c10, .slice p10 B.length c10, .pointer (some ⟨b12, 0, none⟩), .tuple #[.int .i64 (e : Int), v12], .pointer (some ⟨b12, 0, none⟩), .tuple #[.int .i64 (e : Int), v12], .int .i64 (e : Int), v12, x 0, x 1, x 2, x 3, x 4, x 5, x 6, x 7, x 8, x 9, x 10, x 11, x 12, x 13, x 14, x 15, x 16, x 17, x 18, x 19, x 20, x 21, x 22, x 23, x 24, x 25, x 26, x 27, x 28, x 29, x 30, x 31], defers := [] }) (fun i => ([u118, u119, u120, u121, u122, u123, u124, u125, u126, u127, u128, u129, u130, u131, u132, u133, u134, u135, u136, u137, u138, u139, u140, u141, u142, u143, u144, u145, u146, u147, u148, u149, .bool false] : List Value).getD i undef) (by kernel_rfl) rfl rfl (by kernel_rfl) (by kernel_rfl) (by kernel_rfl) (by kernel_rfl) (HZ.out.step (Below.refl _ _).drew) ?_ ?_
            · refine ⟨ObL.of_val rfl (fun x v => rfl) (fun x V vs hC hD => ?_), ?_⟩
              · clear hD
                refine want_yes rfl ?_
                exact leads_value (v := .slice p10 B.length c10) (by go_simp) ⟨rfl, hC⟩
              refine ⟨ObL.of_val rfl (fun x v => rfl) (fun x V vs hC hD => ?_), ?_⟩
              · have e0 : x 0 = .slice p10 B.length c10 := (hD.1 rfl).1
                clear hD
                refine want_yes rfl ?_
                have cv := run_string_bs (P := Tryd.prog) V 23 5 9 Tryd.underlying23 Tryd.underlying5 Tryd.underlying9 (C7_com hC).bs
                exact leads_value (v := .string ⟨B.toArray⟩) (by go_simp) ⟨rfl, hC⟩
              refine ⟨ObL.of_val rfl (fun x v => rfl) (fun x V vs hC hD => ?_), ?_⟩
              · clear hD
                refine want_yes rfl ?_
                exact leads_value (v := .int .u8 (e : Int)) (by go_simp) ⟨rfl, hC⟩
              refine ⟨ObL.of_val rfl (fun x v => rfl) (fun x V vs hC hD => ?_), ?_⟩
              · have e2 : x 2 = .int .u8 (e : Int) := (hD.1 rfl).1
                clear hD
                refine want_yes rfl ?_
                exact leads_value (v := .int .i64 (e : Int)) (by go_simp) ⟨rfl, hC⟩
              refine ⟨ObL.of_val rfl (fun x v => rfl) (fun x V vs hC hD => ?_), ?_⟩
              · clear hD
                refine want_yes rfl ?_
                exact leads_value (v := vm) (by go_simp) ⟨rfl, hC⟩
              refine ⟨ObL.of_turn rfl (fun x v => rfl) (fun x V vs hl hC hD => ?_), ?_⟩
              · obtain rfl := len_zero hl
                have e3 : x 3 = .int .i64 (e : Int) := (hD.1 rfl).1
                have e4 : x 4 = vm := (hD.2.1 rfl).1
                clear hD
                refine want_yes rfl ?_
                have hC : (fun V => VZB w B0 p10 c10 B b12 g12 v12 vm m V) V := hC
                refine leads_enter2 (by go_simp) ((HRB.out V vm hC.may).mono fun e w'' hO => ?_)
                obtain ⟨v, he, hr, hB⟩ := hO
                obtain ⟨q3, c3, rfl, hbs⟩ := BsAt.ofRow hr
                exact ⟨_, he, VZB.step hC hB, q3, c3, rfl, hbs⟩
              refine ⟨ObL.of_val rfl (fun x v => rfl) (fun x V vs hC hD => ?_), ?_⟩
              · have e5 : x 5 = vs.getD 0 undef := (hD.1 rfl).1
                have n5 : 0 < vs.length := (hD.1 rfl).2
                clear hD
                refine want_yes rfl ?_
                obtain ⟨p3, c3, hv, hb3⟩ := C7_val n5 hC
                rw [hv] at e5
                have cv := run_string_bs (P := Tryd.prog) V 23 5 9 Tryd.underlying23 Tryd.underlying5 Tryd.underlying9 hb3
                clear n5
                generalize vs.getD 0 undef = y0 at *
                exact leads_value (v := .string ⟨B.toArray⟩) (by go_simp) ⟨rfl, hC⟩
              refine ⟨ObL.of_val rfl (fun x v => rfl) (fun x V vs hC hD => ?_), ?_⟩
              · have e1 : x 1 = .string ⟨B.toArray⟩ := (hD.1 rfl).1
                have e6 : x 6 = .string ⟨B.toArray⟩ := (hD.2.1 rfl).1
                clear hD
                refine want_yes rfl ?_
                exact leads_value (v := .bool true) (by go_simp) ⟨rfl, hC⟩
              refine ⟨ObL.of_val rfl (fun x v => rfl) (fun x V vs hC hD => ?_), ?_⟩
              · have e7 : x 7 = .bool true := (hD.1 rfl).1
                clear hD
                refine want_yes rfl ?_
                exact leads_value (v := .bool true) (by go_simp) ⟨rfl, hC⟩
              refine ⟨ObL.of_val rfl (fun x v => rfl) (fun x V vs hC hD => ?_), ?_⟩
              · have e8 : x 8 = .bool true := (hD.1 rfl).1
                clear hD
                refine want_yes (by simp [Region.wanted, yielded, e8]) ?_
                exact leads_value (v := .int .i64 (e : Int)) (by go_simp) ⟨rfl, hC⟩
              refine ⟨ObL.of_val rfl (fun x v => rfl) (fun x V vs hC hD => ?_), ?_⟩
              · have e8 : x 8 = .bool true := (hD.1 rfl).1
                clear hD
                refine want_yes (by simp [Region.wanted, yielded, e8]) ?_
                exact leads_value (v := .int .u8 (e : Int)) (by go_simp) ⟨rfl, hC⟩
              refine ⟨ObL.of_val rfl (fun x v => rfl) (fun x V vs hC hD => ?_), ?_⟩
              · have e10 : x 10 = .int .u8 (e : Int) := (hD.1 rfl).1
                have e8 : x 8 = .bool true := (hD.2.1 rfl).1
                clear hD
                refine want_yes (by simp [Region.wanted, yielded, e8]) ?_
                exact leads_value (v := .int .i64 (e : Int)) (by go_simp) ⟨rfl, hC⟩
              refine ⟨ObL.of_val rfl (fun x v => rfl) (fun x V vs hC hD => ?_), ?_⟩
              · have e9 : x 9 = .int .i64 (e : Int) := (hD.1 rfl).1
                have e11 : x 11 = .int .i64 (e : Int) := (hD.2.1 rfl).1
                have e8 : x 8 = .bool true := (hD.2.2.1 rfl).1
                clear hD
                refine want_yes (by simp [Region.wanted, yielded, e8]) ?_
                exact leads_value (v := .bool true) (by go_simp) ⟨rfl, hC⟩
              refine ⟨ObL.of_val rfl (fun x v => rfl) (fun x V vs hC hD => ?_), ?_⟩
              · have e8 : x 8 = .bool true := (hD.1 rfl).1
                have e12 : x 12 = .bool true := (hD.2.1 rfl).1
                clear hD
                refine want_yes rfl ?_
                exact leads_value (v := .bool true) (by go_simp) ⟨rfl, hC⟩
              refine ⟨ObL.of_val rfl (fun x v => rfl) (fun x V vs hC hD => ?_), ?_⟩
              · have e13 : x 13 = .bool true := (hD.1 rfl).1
                clear hD
                refine want_yes rfl ?_
                exact leads_value (v := .bool true) (by go_simp) ⟨rfl, hC⟩
              refine ⟨ObL.of_val rfl (fun x v => rfl) (fun x V vs hC hD => ?_), ?_⟩
              · have e14 : x 14 = .bool true := (hD.1 rfl).1
                clear hD
                refine want_yes (by simp [Region.wanted, yielded, e14]) ?_
                exact leads_value (v := v12) (by go_simp) ⟨rfl, hC⟩
              refine ⟨ObL.of_val rfl (fun x v => rfl) (fun x V vs hC hD => ?_), ?_⟩
              · have e14 : x 14 = .bool true := (hD.1 rfl).1
                clear hD
                refine want_yes (by simp [Region.wanted, yielded, e14]) ?_
                exact leads_value (v := vm) (by go_simp) ⟨rfl, hC⟩
              refine ⟨ObL.of_val rfl (fun x v => rfl) (fun x V vs hC hD => ?_), ?_⟩
              · have e15 : x 15 = v12 := (hD.1 rfl).1
                have e16 : x 16 = vm := (hD.2.1 rfl).1
                have e14 : x 14 = .bool true := (hD.2.2.1 rfl).1
                clear hD
                refine want_yes (by simp [Region.wanted, yielded, e14]) ?_
                exact leads_enter2 (by go_simp) ((rvSame_any v12 vm m V (C7_com hC).back (C7_com hC).may).mono fun e w'' ⟨he, hB⟩ => ⟨_, he, rfl, C7_step (fun h => VZB.step h hB) hB hC⟩)
              refine ⟨ObL.of_val rfl (fun x v => rfl) (fun x V vs hC hD => ?_), ?_⟩
              · have e14 : x 14 = .bool true := (hD.1 rfl).1
                have e17 : x 17 = .bool true := (hD.2.1 rfl).1
                clear hD
                refine want_yes rfl ?_
                exact leads_value (v := .bool true) (by go_simp) ⟨rfl, hC⟩
              refine ⟨ObL.of_val rfl (fun x v => rfl) (fun x V vs hC hD => ?_), ?_⟩
              · have e18 : x 18 = .bool true := (hD.1 rfl).1
                clear hD
                refine want_yes rfl ?_
                exact leads_value (v := .bool true) (by go_simp) ⟨rfl, hC⟩
              refine ⟨ObL.of_val rfl (fun x v => rfl) (fun x V vs hC hD => ?_), ?_⟩
              · have e19 : x 19 = .bool true := (hD.1 rfl).1
                clear hD
                refine want_yes (by simp [Region.wanted, yielded, e19]) ?_
                exact leads_value (v := .pointer (some ⟨b12, 0, none⟩)) (by go_simp) ⟨rfl, hC⟩
              refine ⟨ObL.of_val rfl (fun x v => rfl) (fun x V vs hC hD => ?_), ?_⟩
              · have e20 : x 20 = .pointer (some ⟨b12, 0, none⟩) := (hD.1 rfl).1
                have e19 : x 19 = .bool true := (hD.2.1 rfl).1
                clear hD
                refine want_yes (by simp [Region.wanted, yielded, e19]) ?_
                exact leads_enter2 (by go_simp) ((rdleft_any b12 _ g12 ([], 0) V (C7_com hC).rd).mono fun e w'' ⟨he, hw⟩ => ⟨_, he, rfl, hw ▸ hC⟩)
              refine ⟨ObL.of_val rfl (fun x v => rfl) (fun x V vs hC hD => ?_), ?_⟩
              · have e21 : x 21 = .int .i64 0 := (hD.1 rfl).1
                have e19 : x 19 = .bool true := (hD.2.1 rfl).1
                clear hD
                refine want_yes (by simp [Region.wanted, yielded, e19]) ?_
                exact leads_value (v := .bool true) (by go_simp) ⟨rfl, hC⟩
              refine ⟨ObL.of_val rfl (fun x v => rfl) (fun x V vs hC hD => ?_), ?_⟩
              · have e19 : x 19 = .bool true := (hD.1 rfl).1
                have e22 : x 22 = .bool true := (hD.2.1 rfl).1
                clear hD
                refine want_yes rfl ?_
                exact leads_value (v := .bool true) (by go_simp) ⟨rfl, hC⟩
              refine ⟨ObL.of_val rfl (fun x v => rfl) (fun x V vs hC hD => ?_), ?_⟩
              · have e23 : x 23 = .bool true := (hD.1 rfl).1
                clear hD
                refine want_yes rfl ?_
                exact leads_value (v := .bool true) (by go_simp) ⟨rfl, hC⟩
              refine ⟨ObL.of_val rfl (fun x v => rfl) (fun x V vs hC hD => ?_), ?_⟩
              · have e24 : x 24 = .bool true := (hD.1 rfl).1
                clear hD
                refine want_yes (by simp [Region.wanted, yielded, e24]) ?_
                exact leads_value (v := .pointer (some ⟨b12, 0, none⟩)) (by go_simp) ⟨rfl, hC⟩
              refine ⟨ObL.of_val rfl (fun x v => rfl) (fun x V vs hC hD => ?_), ?_⟩
              · have e25 : x 25 = .pointer (some ⟨b12, 0, none⟩) := (hD.1 rfl).1
                have e24 : x 24 = .bool true := (hD.2.1 rfl).1
                clear hD
                refine want_yes (by simp [Region.wanted, yielded, e24]) ?_
                exact leads_enter2 (by go_simp) ((rderr_any b12 _ g12 ([], 0) V (C7_com hC).rd).mono fun e w'' ⟨he, hw⟩ => ⟨_, he, rfl, hw ▸ hC⟩)
              refine ⟨ObL.of_val rfl (fun x v => rfl) (fun x V vs hC hD => ?_), ?_⟩
              · have e26 : x 26 = .int .i64 0 := (hD.1 rfl).1
                have e24 : x 24 = .bool true := (hD.2.1 rfl).1
                clear hD
                refine want_yes (by simp [Region.wanted, yielded, e24]) ?_
                exact leads_value (v := .bool true) (by go_simp) ⟨rfl, hC⟩
              refine ⟨ObL.of_val rfl (fun x v => rfl) (fun x V vs hC hD => ?_), ?_⟩
              · have e24 : x 24 = .bool true := (hD.1 rfl).1
                have e27 : x 27 = .bool true := (hD.2.1 rfl).1
                clear hD
                refine want_yes rfl ?_
                exact leads_value (v := .bool true) (by go_simp) ⟨rfl, hC⟩
              refine ⟨ObL.of_val rfl (fun x v => rfl) (fun x V vs hC hD => ?_), ?_⟩
              · have e28 : x 28 = .bool true := (hD.1 rfl).1
                clear hD
                refine want_yes rfl ?_
                exact leads_value (v := .bool true) (by go_simp) ⟨rfl, hC⟩
              refine ⟨ObL.of_val rfl (fun x v => rfl) (fun x V vs hC hD => ?_), ?_⟩
              · have e29 : x 29 = .bool true := (hD.1 rfl).1
                clear hD
                refine want_yes (by simp [Region.wanted, yielded, e29]) ?_
                exact leads_enter2 (by go_simp) ((HAl.out V (C7_com hC).all).mono fun e w'' ⟨he, hB⟩ => ⟨_, he, rfl, C7_step (fun h => VZB.step h hB) hB hC⟩)
              refine ⟨ObL.of_val rfl (fun x v => rfl) (fun x V vs hC hD => ?_), ?_⟩
              · have e29 : x 29 = .bool true := (hD.1 rfl).1
                have e30 : x 30 = .bool true := (hD.2.1 rfl).1
                clear hD
                refine want_yes rfl ?_
                exact leads_value (v := .bool true) (by go_simp) ⟨rfl, hC⟩
              refine ⟨ObL.of_val rfl (fun x v => rfl) (fun x V vs hC hD => ?_), ?_⟩
              · have e31 : x 31 = .bool true := (hD.1 rfl).1
                clear hD
                refine want_yes rfl ?_
                exact leads_value (v := .bool true) (by go_simp) ⟨rfl, hC⟩
              trivial
            · intro xb V vs hl hC hx
              have e32 : xb 32 = .bool true := hx 32 (by simp)
              have HV := Lib.hid (C7_com hC)
              clear hx hC hl
              rw [e32]
              clear e32
              go_wp2_with fail
              go_ret
              exact ⟨rfl, HV.out.all⟩
      · have d : ((l.length : Int) == ((keptN (e : Int) : Nat) : Int)) = false := by rw [beq_eq_false_iff_ne]; omega
        have d2 : (l.length == keptN (e : Int)) = false := by rw [beq_eq_false_iff_ne]; exact hk
        have d3 : ¬ (l.length : Int) = ((keptN (e : Int) : Nat) : Int) := by omega
        clear hk
        go_wp2_with fail
        refine (HAl.out _ HB9.out).mono ?_
        rintro x wy ⟨rfl, hBy⟩
        have HGy := Lib.hid (HB9.out.trans (hBy.mono HB9.out.size))
        clear hBy
        go_wp2_with fail
        go_ret
        exact ⟨rfl, HGy.out⟩
set_option maxRecDepth 100000 in
set_option maxHeartbeats 1600000 in
theorem vebytes_far (hA : VeAliveC) (e : Nat) (pt : Option Addr) (ln cap : Nat) (pL : Option Addr) (n0 cap0 : Nat) (w : World) (h : 8 < ln ∨ 1500 < n0) :
    Calls Tryd.prog 3 #[.int .u8 (e : Int), .slice pt ln cap, .slice pL n0 cap0] w fun x w' => x = .returned (.bool true) ∧ Below w.heap.size w w' := by
  have HAl := Lib.hid (hA w)
  by_cases hl : 8 < ln
  · have dl : decide (8 < (ln : Int)) = true := by simp; omega
    clear hA h hl
    go_enter Tryd.func3, Tryd.ntmps3
    go_wp2_with fail
    refine HAl.out.mono ?_
    rintro x w2 ⟨rfl, hB2⟩
    have HB2 := Lib.hid hB2
    clear hB2
    go_wp2_with fail
    go_ret
    exact ⟨rfl, HB2.out⟩
  · have dl : decide (8 < (ln : Int)) = false := by simp; omega
    have dk : decide (1500 < (n0 : Int)) = true := by simp; omega
    clear hA h hl
    go_enter Tryd.func3, Tryd.ntmps3
    go_wp2_with fail
    refine HAl.out.mono ?_
    rintro x w2 ⟨rfl, hB2⟩
    have HB2 := Lib.hid hB2
    clear hB2
    go_wp2_with fail
    go_ret
    exact ⟨rfl, HB2.out⟩
theorem vebytes_any (cB : VeBytesC) (cR : VeReadC) (hA : VeAliveC) (e : Nat) (he : e ≤ 255) (v : Value) (l : List Pol) (pL : Option Addr) (n0 cap0 : Nat) (L : List UInt8) (w : World) (hT : TabOk w) (h : PolsAt w v l) (hb0 : BsAt w pL n0 cap0 L) :
    Calls Tryd.prog 3 #[.int .u8 (e : Int), v, .slice pL n0 cap0] w fun x w' => x = .returned (.bool true) ∧ Below w.heap.size w w' := by
  have h1 := hb0.same
  by_cases hl : l.length ≤ 8 ∧ L.length ≤ 1500
  · exact vebytes_near cB cR hA e he v l pL n0 cap0 L w hT h hb0 hl.1 hl.2
  · obtain ⟨pt, cap, rfl, -, -⟩ := h
    exact vebytes_far hA e pt l.length cap pL n0 cap0 w (by omega)
end Go.Proofs.YtimbhamdblganaaDoor

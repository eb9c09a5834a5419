/-
  What the rows' one laid variable (the library's table) gives the walks, and a world that meets it.
-/
import Derived.Test.YtoieodlpoglmfaaDoorAllPMorec
import Derived.Test.YtoieodlpoglmfaaDoorAllPMoreb
import Derived.Test.YtoieodlpoglmfaaDoorWirV
import Derived.Test.YtoieodlpoglmfaaDoorMkB
import Derived.Test.YtoieodlpoglmfaaDoorChain
import Derived.Test.YtoieodlpoglmfaaDoorByteP
import Derived.Test.YtoieodlpoglmfaaDoorRound
import Derived.Test.YtoieodlpoglmfaaDoorMid
import Derived.Test.YtoieodlpoglmfaaDoorLabK
import Derived.Test.YtoieodlpoglmfaaDoorLate
import Derived.Test.YtoieodlpoglmfaaDoorWirO
import Derived.Test.YtoieodlpoglmfaaDoorWirE
import Derived.Test.YtoieodlpoglmfaaDoorPair
import Derived.ProofKit
import Derived.OpenShut
import Derived.Deep.DeepHandedRow
import Derived.LaidMore
import Derived.Stop.Joined
import Derived.Lib.SmallJoins
import Derived.Deep.SlicePairs
import Derived.Test.YtoieodlpoglmfaaDoorCards
import Derived.Test.YtoieodlpoglmfaaDoorTie
import Derived.Test.YtoieodlpoglmfaaDoorTab
import Derived.Deep.DeepWitnessRowRef
import Derived.Lib.LaidTab
/-! LawPBytes -/
namespace Go.Proofs.YtoieodlpoglmfaaDoor
open Go.RowKit

theorem newRd2_any (p : Option Addr) (len cap : Nat) (l : List UInt8) (w : World) (h : BsAt w p len cap l) (hsm : l.length ≤ 1000000) (hw : 0 < w.heap.size) :
    Calls Tryd.prog 27 #[.slice p len cap] w fun e w' => ∃ b g, e = .returned (.pointer (some ⟨b, 0, none⟩)) ∧ w.heap.size ≤ b ∧ g ≠ b ∧ ((g = 0 ∨ w.heap.size ≤ g) ∧ g < w'.heap.size) ∧ RAt w' b 90 g (l, 0) ∧ Below w.heap.size w w' :=
  (newReader_any p len cap l w h hsm).mono fun e w' ⟨b, v, he, hb, hk, hn, hne, hB⟩ => by
    have hR := RAt.new hk hn.inBlock
    obtain ⟨q, n, c, rfl, h1, h2⟩ := hn
    refine ⟨b, blockOf _, he, hb, ?_, ?_, hR, hB⟩
    · cases q with
      | none => show 0 ≠ b; omega
      | some a => exact hne a.block rfl
    · cases q with
      | none => exact ⟨.inl rfl, show 0 < w'.heap.size by have := hk.lt; omega⟩
      | some a => exact ⟨.inr (h2 a rfl).1, (h2 a rfl).2⟩
/-- The mended policy, its bytes, and the two Readers. -/
structure RBW (w : World) (bp : Nat) (m : Pol) (B0 : Nat) (v5 : Value) (B : List UInt8) (br g bx gx : Nat) (L : List UInt8) (s r : WSt) (V : World) : Prop where
  all : Below w.heap.size w V
  row : PRow V bp m
  own : V.ownsRow B0 5 1 v5 B.length (bvs B)
  rd : RAt V br 90 g s
  xd : XRd V bx 55 gx L r
  base : B0 ≤ V.heap.size
  gl : g < V.heap.size
/-- They stand apart. -/
structure RBF (w : World) (bp : Nat) (v5 : Value) (br g bx gx : Nat) : Prop where
  gr : g ≠ br
  xx : gx ≠ bx
  bb : br ≠ bx
  gb : g ≠ bx
  xb : gx ≠ br
  wr : w.heap.size ≤ br
  wx : w.heap.size ≤ bx
  pr : bp ≠ br
  px : bp ≠ bx
  vr : ∀ k, v5.ownBlock = some k → k ≠ br
  vx : ∀ k, v5.ownBlock = some k → k ≠ bx
  vp : ∀ k, v5.ownBlock = some k → k ≠ bp ∧ k ≠ g ∧ w.heap.size ≤ k
section
variable {w : World} {bp : Nat} {m : Pol} {B0 : Nat} {v5 : Value} {B : List UInt8} {br g bx gx : Nat} {L : List UInt8} {s r s' r' : WSt} {V V' : World}
theorem RBW.step (h : RBW w bp m B0 v5 B br g bx gx L s r V) (hB : Below V.heap.size V V') : RBW w bp m B0 v5 B br g bx gx L s r V' :=
  ⟨h.all.trans (hB.mono h.all.size), h.row.step hB, own_below h.own hB (Nat.le_refl _), h.rd.below hB (Nat.le_refl _), h.xd.below hB (Nat.le_refl _), Nat.le_trans h.base hB.size, Nat.lt_of_lt_of_le h.gl hB.size⟩
theorem RBW.first (h : RBW w bp m B0 v5 B br g bx gx L s r V) (hf : RBF w bp v5 br g bx gx) (hR : RTo V br 90 g s' V') : RBW w bp m B0 v5 B br g bx gx L s' r V' :=
  ⟨h.all.trans (hR.2.below h.all.size fun _ hk => hk ▸ hf.wr), hR.2.kept h.row hf.pr, own_chg h.own hR.2 hf.vr, hR.1, h.xd.kept hR.2 (fun e => hf.bb e.symm) hf.xb, Nat.le_trans h.base hR.2.size, Nat.lt_of_lt_of_le h.gl hR.2.size⟩
theorem RBW.second (h : RBW w bp m B0 v5 B br g bx gx L s r V) (hf : RBF w bp v5 br g bx gx) (hX : XTo V bx 55 gx L r' V') : RBW w bp m B0 v5 B br g bx gx L s r' V' :=
  ⟨h.all.trans (hX.2.below h.all.size fun _ hk => hk ▸ hf.wx), hX.2.kept h.row hf.px, own_chg h.own hX.2 hf.vx, h.rd.kept hX.2 hf.bb hf.gb, hX.1, Nat.le_trans h.base hX.2.size, Nat.lt_of_lt_of_le h.gl hX.2.size⟩
theorem RBW.cell (h : RBW w bp m B0 v5 B br g bx gx L s r V) : V.cell? ⟨bx, 2, none⟩ = some (.int .i64 r.2) := by
  obtain ⟨p, c, k, hk, -⟩ := h.xd
  exact hk.cell 2
theorem RBW.bs {p5 : Option Addr} {c5 : Nat} (h : RBW w bp m B0 (.slice p5 B.length c5) B br g bx gx L s r V) : BsAt V p5 B.length c5 B := by
  obtain ⟨p, c, e, hb⟩ := BsAt.ofRow h.own
  rw [Value.slice.injEq] at e
  obtain ⟨rfl, -, rfl⟩ := e
  exact hb
end
/-- With the two answers. -/
structure RB2 (w : World) (bp : Nat) (m : Pol) (B0 : Nat) (v5 : Value) (B : List UInt8) (br g bx gx : Nat) (L : List UInt8) (T : WSt) (b8 : Nat) (q : Pol) (V : World) : Prop where
  rb : RBW w bp m B0 v5 B br g bx gx L T T V
  r8 : PRow V b8 q
  r9 : PRow V (b8 + 1) q
theorem RB2.step {w : World} {bp : Nat} {m : Pol} {B0 : Nat} {v5 : Value} {B : List UInt8} {br g bx gx : Nat} {L : List UInt8} {T : WSt} {b8 : Nat} {q : Pol} {V V' : World} (h : RB2 w bp m B0 v5 B br g bx gx L T b8 q V) (hB : Below V.heap.size V V') : RB2 w bp m B0 v5 B br g bx gx L T b8 q V' :=
  ⟨h.rb.step hB, h.r8.step hB, h.r9.step hB⟩
/-- The one call whose answer is a slice. -/
def C7 (K : World → Prop) (B : List UInt8) : List Value → World → Prop
  | [], V => K V
  | [a], V => K V ∧ ∃ p c, a = .slice p B.length c ∧ BsAt V p B.length c B
  | _, _ => False
theorem C7_com {K : World → Prop} {B : List UInt8} : ∀ {vs : List Value} {V : World}, C7 K B vs V → K V
  | [], _, h => h
  | [_], _, h => h.1
  | _ :: _ :: _, _, h => h.elim
theorem C7_val {K : World → Prop} {B : List UInt8} {vs : List Value} {V : World} (hn : 0 < vs.length) (h : C7 K B vs V) : ∃ p c, vs.getD 0 undef = .slice p B.length c ∧ BsAt V p B.length c B := by
  match vs, hn, h with
  | [_], _, h => exact h.2
theorem C7_step {K : World → Prop} {B : List UInt8} {V V' : World} (hK : K V → K V') (hB : Below V.heap.size V V') : ∀ {vs : List Value}, C7 K B vs V → C7 K B vs V'
  | [], h => hK h
  | [_], ⟨h, p, c, e, hb⟩ => ⟨hK h, p, c, e, hb.below hB (Nat.le_refl _)⟩
  | _ :: _ :: _, h => h.elim
/-- What the last region needs. -/
structure RB3 (w : World) (bp : Nat) (m : Pol) (br g : Nat) (T : WSt) (b8 : Nat) (q : Pol) (V : World) : Prop where
  all : Below w.heap.size w V
  row : PRow V bp m
  rd : RAt V br 90 g T
  r8 : PRow V b8 q
theorem RB3.chg {S : Nat → Prop} {w : World} {bp : Nat} {m : Pol} {br g : Nat} {T : WSt} {b8 : Nat} {q : Pol} {V V' : World} (h : RB3 w bp m br g T b8 q V) (hc : Chg S V V') (hw : ∀ k, S k → w.heap.size ≤ k) (h1 : ¬ S bp) (h2 : ¬ S br) (h3 : ¬ S g) (h4 : ¬ S b8) : RB3 w bp m br g T b8 q V' :=
  ⟨h.all.trans (hc.below h.all.size hw), hc.kept h.row h1, h.rd.kept hc h2 h3, hc.kept h.r8 h4⟩
theorem RB3.step {w : World} {bp : Nat} {m : Pol} {br g : Nat} {T : WSt} {b8 : Nat} {q : Pol} {V V' : World} (h : RB3 w bp m br g T b8 q V) (hB : Below V.heap.size V V') : RB3 w bp m br g T b8 q V' :=
  ⟨h.all.trans (hB.mono h.all.size), h.row.step hB, h.rd.below hB (Nat.le_refl _), h.r8.step hB⟩
/-- The steps of the last region, in turn: those whose values are known, and one whose answer is a slice. -/
structure D10 (K R0 R1 : World → Prop) (kn : List Value) (bq : List UInt8) (vs : List Value) (V : World) : Prop where
  com : K V
  one : if vs.length = 0 then R0 V else R1 V
  val : ∀ i u, i < vs.length → kn[i]? = some u → vs.getD i undef = u
  last : kn.length < vs.length → ∃ p k, vs.getD kn.length undef = .slice p bq.length k ∧ BsAt V p bq.length k bq
section
variable {K R0 R1 : World → Prop} {kn : List Value} {bq : List UInt8} {vs : List Value} {V V' : World}
theorem D10_com (h : D10 K R0 R1 kn bq vs V) : K V := h.com
theorem D10_zero (hl : vs.length = 0) (h : D10 K R0 R1 kn bq vs V) : R0 V := by
  have := h.one
  rwa [if_pos hl] at this
theorem D10_pos {k : Nat} (hl : vs.length = k + 1) (h : D10 K R0 R1 kn bq vs V) : R1 V := by
  have := h.one
  rwa [if_neg (by omega)] at this
theorem D10_get {i : Nat} {u : Value} (hi : i < vs.length) (hk : kn[i]? = some u) (h : D10 K R0 R1 kn bq vs V) : vs.getD i undef = u := h.val i u hi hk
theorem D10_new (h : K V) (h0 : R0 V) : D10 K R0 R1 kn bq [] V := ⟨h, h0, fun i u hi => by simp at hi, fun hi => by simp at hi⟩
theorem getD_more {i : Nat} (u : Value) (hi : i < vs.length) : (vs ++ [u]).getD i undef = vs.getD i undef := by
  simp [List.getD_eq_getElem?_getD, List.getElem?_append_left hi]
theorem getD_end {k : Nat} (u : Value) (hl : vs.length = k) : (vs ++ [u]).getD k undef = u := by
  subst hl
  simp [List.getD_eq_getElem?_getD]
theorem D10_next {k : Nat} {u : Value} (hl : vs.length = k) (h : D10 K R0 R1 kn bq vs V) (hK : K V') (hR : R1 V') (hu : kn[k]? = some u) : D10 K R0 R1 kn bq (vs ++ [u]) V' := by
  have hk := (List.getElem?_eq_some_iff.1 hu).1
  refine ⟨hK, by rw [if_neg (by simp)]; exact hR, fun i v hi hv => ?_, fun hi => by simp at hi; omega⟩
  by_cases e : i = k
  · subst e
    rw [getD_end u hl]
    rw [hu] at hv
    exact Option.some.inj hv
  · have hi2 : i < vs.length := by simp at hi; omega
    rw [getD_more u hi2]
    exact h.val i v hi2 hv
theorem D10_last {u : Value} (hl : vs.length = kn.length) (h : D10 K R0 R1 kn bq vs V) (hK : K V') (hR : R1 V') (hs : ∃ p k, u = .slice p bq.length k ∧ BsAt V' p bq.length k bq) : D10 K R0 R1 kn bq (vs ++ [u]) V' := by
  refine ⟨hK, by rw [if_neg (by simp)]; exact hR, fun i v hi hv => ?_, fun _ => by rw [getD_end u hl]; exact hs⟩
  have hk := (List.getElem?_eq_some_iff.1 hv).1
  have hi2 : i < vs.length := by omega
  rw [getD_more u hi2]
  exact h.val i v hi2 hv
theorem D10_step (hK : K V → K V') (h0 : R0 V → R0 V') (h1 : R1 V → R1 V') (hB : Below V.heap.size V V') (h : D10 K R0 R1 kn bq vs V) : D10 K R0 R1 kn bq vs V' := by
  refine ⟨hK h.com, ?_, h.val, fun hi => ?_⟩
  · have := h.one
    split at this
    · rename_i e; rw [if_pos e]; exact h0 this
    · rename_i e; rw [if_neg e]; exact h1 this
  · obtain ⟨p, c, e, hb⟩ := h.last hi
    exact ⟨p, c, e, hb.below hB (Nat.le_refl _)⟩
end
set_option maxRecDepth 100000 in
set_option maxHeartbeats 1600000 in
theorem pbytes_near (cB : PBytesC) (cR : PReadC) (hA : PAliveC) (p : Pol) (pL : Option Addr) (n0 cap0 : Nat) (L : List UInt8) (w : World) (hT : TabOk w) (hp : PolOk p) (hb0 : BsAt w pL n0 cap0 L) (hL : L.length ≤ 400) :
    Calls Tryd.prog 5 #[.agg (polC p), .slice pL n0 cap0] w fun e w' => e = .returned (.bool true) ∧ Below w.heap.size w w' := by
  have hn0 := hb0.same
  subst hn0
  have hmo := mendN_ok hp
  have hmf := mend_fine hp
  have HMe := Lib.hid (fun V => rpMend_any p V hp)
  have HB := Lib.hid (fun V => cB _ V hmo hmf)
  have HRB := Lib.hid (fun V => rpBytes_any (mendN p) V hmo)
  have HW := Lib.hid (rd_wr hmo hmf [9])
  have HQ := Lib.hid (wr_rd L)
  have HQo := Lib.hid (rdPo_ok (L, 0))
  have HMo := Lib.hid hmo
  have HCR := Lib.hid (fun b t g s V (hV : Since w V) => cR b t g s V (hT.since hV))
  have HCB := Lib.hid cB
  have HAl := Lib.hid (fun V (hV : Since w V) => hA V (hT.since hV))
  have HBL : Hid ((bytesP (mendN p)).length ≤ 1000) := Lib.hid (by have := bytO_le (mendN p) 16; unfold bytesP; omega)
  have HB10 := Lib.hid HBL.out
  have HP0 := Lib.hid (PRow.new w p)
  have HB0 := Lib.hid (belowNew w (.cells (polC p) 29))
  have HBs := Lib.hid hb0
  have HLn := Lib.hid hL
  have dk : decide (400 < (L.length : Int)) = false := by simp; omega
  clear cB cR hA hT hp hmo hmf hb0 hL
  generalize bytesP (mendN p) = B at *
  generalize mendN p = m at *
  go_enter Tryd.func5, Tryd.ntmps5
  go_upto_region 1 with fail
  generalize w.alloc (.cells (polC p) 29) = w1 at *
  have hrow := HP0.out
  go_wp2_with (refine wpList_load_arr rfl _ _ rfl rfl hrow Tryd.underlying29 rfl (infoPol _) ?_)
  refine (HMe.out _).mono ?_
  rintro e w2 ⟨rfl, hB2⟩
  have HB2 := Lib.hid (HB0.out.trans (hB2.mono HB0.out.size))
  have hrow2 := HP0.out.step hB2
  clear hB2 hrow HP0 HB0 HMe dk
  go_upto_region 4 with (refine wpList_store_arr rfl rfl _ _ _ rfl rfl rfl hrow2 (infoPol _) (by rw [polC_size, polC_size]) (polC_one _) ?_; intro w3 hw3)
  have HP3 := Lib.hid (show PRow w3 w.heap.size m from hw3.blk)
  have HB3 := Lib.hid (HB2.out.trans (hw3.below HB2.out.size (Nat.le_refl _)))
  clear hw3 hrow2 HB2
  have hrow := HP3.out
  go_wp2_with (refine wpList_load_arr rfl _ _ rfl rfl hrow Tryd.underlying29 rfl (infoPol _) ?_)
  refine (HB.out _).mono ?_
  rintro e w4 ⟨v5, rfl, ho4, hB4⟩
  obtain ⟨p5, c5, rfl, -⟩ := BsAt.ofRow ho4
  have HO4 := Lib.hid ho4
  have HB4 := Lib.hid (HB3.out.trans (hB4.mono HB3.out.size))
  have HP4 := Lib.hid (HP3.out.step hB4)
  have HPl := Lib.hid HP3.out.lt
  have HB3s := Lib.hid HB3.out.size
  have HZ4 := Lib.hid hB4.size
  clear hB4 hrow HB3 HP3 ho4 HB
  go_wp2_with fail
  refine (newRd2_any _ _ _ L _ (HBs.out.below HB4.out (Nat.le_refl _)) (by have := HLn.out; omega) (by have := HP4.out.lt; omega)).mono ?_
  rintro e w5 ⟨br, g, rfl, hbr, hg1, ⟨hg3, hg2⟩, hr5, hB5⟩
  obtain ⟨gx, hgx, hgl⟩ : ∃ gx, (∀ a, pL = some a → L ≠ [] → a.block = gx) ∧ gx ≤ w.heap.size := by
    by_cases hL0 : L = []
    · exact ⟨w.heap.size, fun _ _ h => absurd hL0 h, Nat.le_refl _⟩
    · rcases HBs.out.place with ⟨-, h2⟩ | ⟨h2, -⟩ | ⟨g', off, rfl, h3, -⟩
      · have := HBs.out.le
        exact absurd (List.eq_nil_of_length_eq_zero (by omega)) hL0
      · exact absurd h2 hL0
      · exact ⟨g', fun a ha _ => by cases ha; rfl, Nat.le_of_lt h3⟩
  have hrl : br < w5.heap.size := by
    obtain ⟨p, n, c, h1, -⟩ := hr5
    exact h1.lt
  have hlt4 := HP4.out.lt
  have hpl := HPl.out
  have hz4 := HZ4.out
  have hs5 := hB5.size
  have HFar := Lib.hid (show RBF w w.heap.size (.slice p5 B.length c5) br g w5.heap.size gx from
    ⟨hg1, by omega, by omega, by omega, by omega, by omega, by omega, by omega, by omega, fun k hk => by have := (HO4.out.lt k hk).2; omega, fun k hk => by have := (HO4.out.lt k hk).2; omega, fun k hk => by have := HO4.out.lt k hk; have := HB3s.out; omega⟩)
  have HS5 := Lib.hid (show RBW w w.heap.size m w3.heap.size (.slice p5 B.length c5) B br g w5.heap.size gx L (L, 0) (L, 0) (w5.alloc (.cells #[.slice pL L.length cap0, .int .i64 0, .int .i64 0] 55)) from
    ⟨HB4.out.trans ((hB5.trans ((belowNew w5 _).mono hB5.size)).mono HB4.out.size), (HP4.out.step hB5).alloc _, own_below (own_below HO4.out hB5 (Nat.le_refl _)) (belowNew w5 _) (Nat.le_refl _), hr5.below (belowNew w5 _) (Nat.le_refl _),
     ⟨pL, cap0, 0, Blk.new w5 _ _, HBs.out.below (HB4.out.trans ((hB5.trans ((belowNew w5 _).mono hB5.size)).mono HB4.out.size)) (Nat.le_refl _), hgx, fun _ => ⟨rfl, Nat.zero_le _⟩, fun h => absurd rfl h⟩, by simp; omega, by simp; omega⟩)
  have HGl := Lib.hid (show gx < (w5.alloc (.cells #[.slice pL L.length cap0, .int .i64 0, .int .i64 0] 55)).heap.size by simp; omega)
  clear hgx hgl hrl hlt4 hpl hz4 hbr hg1 hg2 hg3 hr5 hB5 hs5 HB3s HO4 HB4 HP4 HPl HZ4
  go_upto_region 6 with fail
  generalize hw6 : w5.alloc _ = w6 at HS5 HGl ⊢
  clear hw6
  obtain ⟨bx, hbx⟩ : ∃ bx, bx = w5.heap.size := ⟨_, rfl⟩
  rw [← hbx] at HS5 HFar ⊢
  clear hbx
  go_wp2_with fail
  refine (HCR.out br _ g (L, 0) _ HS5.out.all HS5.out.rd HFar.out.gr (by have := HLn.out; show L.length ≤ _; omega) (fun h => absurd rfl h)).mono ?_
  rintro e w7 ⟨rfl, hR7⟩
  have HS7 := Lib.hid (HS5.out.first HFar.out hR7)
  have HG7 := Lib.hid (Nat.lt_of_lt_of_le HGl.out hR7.2.size)
  clear hR7 HS5 HGl
  go_wp2_with fail
  refine (rpRead_any bx _ gx L (L, 0) _ HS7.out.xd HFar.out.xx HG7.out (by have := HLn.out; omega)).mono ?_
  rintro e w8 ⟨rfl, hR8⟩
  have HS8 := Lib.hid (HS7.out.second HFar.out hR8)
  clear hR8 HS7 HG7
  generalize rdPo (L, 0) = q at *
  generalize rdE (L, 0) = T at *
  have hz1 := (PRow.new w8 zeroP).alloc (.cells (polC zeroP) 29)
  have hz2 := PRow.new (w8.alloc (.cells (polC zeroP) 29)) zeroP
  simp only [World.size_alloc] at hz2
  have tok : True := trivial
  go_upto_region 7 with (first
    | (have _t := tok; refine wpList_store_arr rfl rfl _ _ _ rfl rfl rfl hz1 (infoPol _) (by rw [polC_size, polC_size]) (polC_one _) ?_; intro w9 hw9; have hz3 := hw9.chg.kept hz2 (show ¬ _ = _ by omega); clear tok)
    | (refine wpList_store_arr rfl rfl _ _ _ rfl rfl rfl hz3 (infoPol _) (by rw [polC_size, polC_size]) (polC_one _) ?_; intro w10 hw10))
  have HV8 := Lib.hid (show ∀ k, (Value.slice p5 B.length c5).ownBlock = some k → k < w8.heap.size from fun k hk => (HS8.out.own.lt k hk).2)
  have HK := Lib.hid (show RB2 w w.heap.size m w3.heap.size (.slice p5 B.length c5) B br g bx gx L T w8.heap.size q w10 from
    ⟨HS8.out.step ((((belowNew w8 _).alloc (by simp) _).trans (hw9.below (by simp; omega) (Nat.le_refl _))).trans (hw10.below (by have := hw9.chg.size; simp at this; omega) (by omega))), hw10.chg.kept hw9.blk (show ¬ _ = _ by omega), hw10.blk⟩)
  have HS8l := Lib.hid (show w.heap.size < w8.heap.size ∧ br < w8.heap.size ∧ g < w8.heap.size from ⟨HS8.out.row.lt, by obtain ⟨_, _, _, h1, -⟩ := HS8.out.rd; exact h1.lt, HS8.out.gl⟩)
  clear hw9 hw10 hz1 hz2 hz3 HS8
  generalize w8.heap.size = b8 at *
  refine wp_region_L (C7 (fun V => RB2 w w.heap.size m w3.heap.size (.slice p5 B.length c5) B br g bx gx L T b8 q V) B) 1 [.val (.slice p5 B.length c5), .val (.string ⟨B.toArray⟩), .val (.agg (polC m)), .turn 0, .val (.string ⟨B.toArray⟩), .val (.bool false), .val (.bool false), .val (.agg (polC q)), .val (.agg (polC q)), .val (.bool false), .val (.bool false), .val (.bool false), .val (.pointer (some ⟨br, 0, none⟩)), .val (.int .i64 T.2), .val (.pointer (some ⟨bx, 0, none⟩)), .val (.pointer (some ⟨bx, 0, none⟩)), .val (.pointer (some ⟨bx, 2, none⟩)), .val (.int .i64 T.2), .val (.bool false), .val (.bool false), .val (.bool false), .val (.pointer (some ⟨br, 0, none⟩)), .val (.int .i64 (T.1.length : Nat)), .val (.pointer (some ⟨bx, 0, none⟩)), .val (.int .i64 (T.1.length : Nat)), .val (.bool false), .val (.bool false)]
    (fun x => { tmps := #[.agg (polC p), .slice pL L.length cap0, .pointer (some ⟨w.heap.size, 0, none⟩), undef, .bool false, .slice p5 B.length c5, .pointer (some ⟨br, 0, none⟩), .pointer (some ⟨bx, 0, none⟩), .pointer (some ⟨b8, 0, none⟩), .pointer (some ⟨b8 + 1, 0, none⟩), undef, .slice pL L.length cap0, .int .i64 (L.length : Int), .bool false, undef, .agg (polC p), .agg (polC m), .agg (polC m), .slice p5 B.length c5, .slice pL L.length cap0, .pointer (some ⟨br, 0, none⟩), .slice pL L.length cap0, .agg #[.slice pL L.length cap0, .int .i64 0, .int .i64 0], .pointer (some ⟨bx, 0, none⟩), .pointer (some ⟨br, 0, none⟩), .agg (polC q), .pointer (some ⟨bx, 0, none⟩), .agg (polC q), x 0, x 1, x 2, x 3, x 4, x 5, x 6, x 7, x 8, x 9, x 10, x 11, x 12, x 13, x 14, x 15, x 16, x 17, x 18, x 19, x 20, x 21, x 22, x 23, x 24, x 25, x 26, undef, undef, undef, undef, undef, undef, undef, undef, undef, undef, undef, undef, undef, undef, undef, undef, undef, undef, undef, undef, undef, undef, undef, undef, undef, undef, undef, undef, undef, undef, undef, undef, undef, undef, undef, undef, undef, undef, undef, undef], defers := [] }) (fun i => ([undef, undef, undef, undef, undef, undef, undef, undef, undef, undef, undef, undef, undef, undef, undef, undef, undef, undef, undef, undef, undef, undef, undef, undef, undef, undef, undef] : List Value).getD i undef) (by kernel_rfl) rfl rfl (by kernel_rfl) (by kernel_rfl) (by kernel_rfl) (by kernel_rfl) (HK.out.step (Below.refl _ _).drew) ?_ ?_
  · refine ⟨ObL.of_val rfl (fun x v => rfl) (fun x V vs hC hD => ?_), ?_⟩
    · clear hD
      refine want_yes rfl ?_
      exact leads_value (v := .slice p5 B.length c5) (by go_simp) ⟨rfl, hC⟩
    refine ⟨ObL.of_val rfl (fun x v => rfl) (fun x V vs hC hD => ?_), ?_⟩
    · have e0 : x 0 = .slice p5 B.length c5 := (hD.1 rfl).1
      clear hD
      refine want_yes rfl ?_
      have cv := run_string_bs (P := Tryd.prog) V 48 5 9 Tryd.underlying48 Tryd.underlying5 Tryd.underlying9 (C7_com hC).rb.bs
      exact leads_value (v := .string ⟨B.toArray⟩) (by go_simp) ⟨rfl, hC⟩
    refine ⟨ObL.of_val rfl (fun x v => rfl) (fun x V vs hC hD => ?_), ?_⟩
    · clear hD
      refine want_yes rfl ?_
      exact leads_value (exec_load_pol rfl rfl (C7_com hC).rb.row) ⟨rfl, hC⟩
    refine ⟨ObL.of_turn rfl (fun x v => rfl) (fun x V vs hl hC hD => ?_), ?_⟩
    · obtain rfl := len_zero hl
      have e2 : x 2 = .agg (polC m) := (hD.1 rfl).1
      clear hD
      refine want_yes rfl ?_
      have hC : (fun V => RB2 w w.heap.size m w3.heap.size (.slice p5 B.length c5) B br g bx gx L T b8 q V) V := hC
      refine leads_enter2 (by go_simp) ((HRB.out V).mono fun e w'' hO => ?_)
      obtain ⟨v, he, hr, hB⟩ := hO
      obtain ⟨q3, c3, rfl, hbs⟩ := BsAt.ofRow hr
      exact ⟨_, he, RB2.step hC hB, q3, c3, rfl, hbs⟩
    refine ⟨ObL.of_val rfl (fun x v => rfl) (fun x V vs hC hD => ?_), ?_⟩
    · have e3 : x 3 = vs.getD 0 undef := (hD.1 rfl).1
      have n3 : 0 < vs.length := (hD.1 rfl).2
      clear hD
      refine want_yes rfl ?_
      obtain ⟨p3, c3, hv, hb3⟩ := C7_val n3 hC
      rw [hv] at e3
      have cv := run_string_bs (P := Tryd.prog) V 48 5 9 Tryd.underlying48 Tryd.underlying5 Tryd.underlying9 hb3
      clear n3
      generalize vs.getD 0 undef = y0 at *
      exact leads_value (v := .string ⟨B.toArray⟩) (by go_simp) ⟨rfl, hC⟩
    refine ⟨ObL.of_val rfl (fun x v => rfl) (fun x V vs hC hD => ?_), ?_⟩
    · have e1 : x 1 = .string ⟨B.toArray⟩ := (hD.1 rfl).1
      have e4 : x 4 = .string ⟨B.toArray⟩ := (hD.2.1 rfl).1
      clear hD
      refine want_yes rfl ?_
      exact leads_value (v := .bool false) (by go_simp) ⟨rfl, hC⟩
    refine ⟨ObL.of_val rfl (fun x v => rfl) (fun x V vs hC hD => ?_), ?_⟩
    · have e5 : x 5 = .bool false := (hD.1 rfl).1
      have e3 : x 3 = vs.getD 0 undef := (hD.2.1 rfl).1
      have n3 : 0 < vs.length := (hD.2.1 rfl).2
      clear hD
      refine want_yes rfl ?_
      clear n3
      generalize vs.getD 0 undef = y0 at *
      exact leads_value (v := .bool false) (by go_simp) ⟨rfl, hC⟩
    refine ⟨ObL.of_val rfl (fun x v => rfl) (fun x V vs hC hD => ?_), ?_⟩
    · have e6 : x 6 = .bool false := (hD.1 rfl).1
      clear hD
      refine want_yes (by simp [Region.wanted, yielded, e6]) ?_
      exact leads_value (exec_load_pol rfl rfl (C7_com hC).r8) ⟨rfl, hC⟩
    refine ⟨ObL.of_val rfl (fun x v => rfl) (fun x V vs hC hD => ?_), ?_⟩
    · have e6 : x 6 = .bool false := (hD.1 rfl).1
      clear hD
      refine want_yes (by simp [Region.wanted, yielded, e6]) ?_
      exact leads_value (exec_load_pol rfl rfl (C7_com hC).r9) ⟨rfl, hC⟩
    refine ⟨ObL.of_val rfl (fun x v => rfl) (fun x V vs hC hD => ?_), ?_⟩
    · have e7 : x 7 = .agg (polC q) := (hD.1 rfl).1
      have e8 : x 8 = .agg (polC q) := (hD.2.1 rfl).1
      have e6 : x 6 = .bool false := (hD.2.2.1 rfl).1
      clear hD
      refine want_yes (by simp [Region.wanted, yielded, e6]) ?_
      exact leads_value (exec_neq_pol HQo.out rfl e7 e8) ⟨rfl, hC⟩
    refine ⟨ObL.of_val rfl (fun x v => rfl) (fun x V vs hC hD => ?_), ?_⟩
    · have e6 : x 6 = .bool false := (hD.1 rfl).1
      have e9 : x 9 = .bool false := (hD.2.1 rfl).1
      clear hD
      refine want_yes rfl ?_
      exact leads_value (v := .bool false) (by go_simp) ⟨rfl, hC⟩
    refine ⟨ObL.of_val rfl (fun x v => rfl) (fun x V vs hC hD => ?_), ?_⟩
    · have e10 : x 10 = .bool false := (hD.1 rfl).1
      have e6 : x 6 = .bool false := (hD.2.1 rfl).1
      clear hD
      refine want_yes rfl ?_
      exact leads_value (v := .bool false) (by go_simp) ⟨rfl, hC⟩
    refine ⟨ObL.of_val rfl (fun x v => rfl) (fun x V vs hC hD => ?_), ?_⟩
    · have e11 : x 11 = .bool false := (hD.1 rfl).1
      clear hD
      refine want_yes (by simp [Region.wanted, yielded, e11]) ?_
      exact leads_value (v := .pointer (some ⟨br, 0, none⟩)) (by go_simp) ⟨rfl, hC⟩
    refine ⟨ObL.of_val rfl (fun x v => rfl) (fun x V vs hC hD => ?_), ?_⟩
    · have e12 : x 12 = .pointer (some ⟨br, 0, none⟩) := (hD.1 rfl).1
      have e11 : x 11 = .bool false := (hD.2.1 rfl).1
      clear hD
      refine want_yes (by simp [Region.wanted, yielded, e11]) ?_
      exact leads_enter2 (by go_simp) ((rderr_any br _ g T V (C7_com hC).rb.rd).mono fun e w'' ⟨he, hw⟩ => ⟨_, he, rfl, hw ▸ hC⟩)
    refine ⟨ObL.of_val rfl (fun x v => rfl) (fun x V vs hC hD => ?_), ?_⟩
    · have e11 : x 11 = .bool false := (hD.1 rfl).1
      clear hD
      refine want_yes (by simp [Region.wanted, yielded, e11]) ?_
      exact leads_value (v := .pointer (some ⟨bx, 0, none⟩)) (by go_simp) ⟨rfl, hC⟩
    refine ⟨ObL.of_val rfl (fun x v => rfl) (fun x V vs hC hD => ?_), ?_⟩
    · have e14 : x 14 = .pointer (some ⟨bx, 0, none⟩) := (hD.1 rfl).1
      have e11 : x 11 = .bool false := (hD.2.1 rfl).1
      clear hD
      refine want_yes (by simp [Region.wanted, yielded, e11]) ?_
      exact leads_value (v := .pointer (some ⟨bx, 0, none⟩)) (by go_simp) ⟨rfl, hC⟩
    refine ⟨ObL.of_val rfl (fun x v => rfl) (fun x V vs hC hD => ?_), ?_⟩
    · have e15 : x 15 = .pointer (some ⟨bx, 0, none⟩) := (hD.1 rfl).1
      have e11 : x 11 = .bool false := (hD.2.1 rfl).1
      clear hD
      refine want_yes (by simp [Region.wanted, yielded, e11]) ?_
      exact leads_value (v := .pointer (some ⟨bx, 2, none⟩)) (by go_simp) ⟨rfl, hC⟩
    refine ⟨ObL.of_val rfl (fun x v => rfl) (fun x V vs hC hD => ?_), ?_⟩
    · have e16 : x 16 = .pointer (some ⟨bx, 2, none⟩) := (hD.1 rfl).1
      have e11 : x 11 = .bool false := (hD.2.1 rfl).1
      clear hD
      refine want_yes (by simp [Region.wanted, yielded, e11]) ?_
      have k0 := (C7_com hC).rb.cell
      exact leads_value (v := .int .i64 T.2) (by go_simp) ⟨rfl, hC⟩
    refine ⟨ObL.of_val rfl (fun x v => rfl) (fun x V vs hC hD => ?_), ?_⟩
    · have e13 : x 13 = .int .i64 T.2 := (hD.1 rfl).1
      have e17 : x 17 = .int .i64 T.2 := (hD.2.1 rfl).1
      have e11 : x 11 = .bool false := (hD.2.2.1 rfl).1
      clear hD
      refine want_yes (by simp [Region.wanted, yielded, e11]) ?_
      exact leads_value (v := .bool false) (by go_simp) ⟨rfl, hC⟩
    refine ⟨ObL.of_val rfl (fun x v => rfl) (fun x V vs hC hD => ?_), ?_⟩
    · have e11 : x 11 = .bool false := (hD.1 rfl).1
      have e18 : x 18 = .bool false := (hD.2.1 rfl).1
      clear hD
      refine want_yes rfl ?_
      exact leads_value (v := .bool false) (by go_simp) ⟨rfl, hC⟩
    refine ⟨ObL.of_val rfl (fun x v => rfl) (fun x V vs hC hD => ?_), ?_⟩
    · have e19 : x 19 = .bool false := (hD.1 rfl).1
      have e13 : x 13 = .int .i64 T.2 := (hD.2.1 rfl).1
      clear hD
      refine want_yes rfl ?_
      exact leads_value (v := .bool false) (by go_simp) ⟨rfl, hC⟩
    refine ⟨ObL.of_val rfl (fun x v => rfl) (fun x V vs hC hD => ?_), ?_⟩
    · have e20 : x 20 = .bool false := (hD.1 rfl).1
      clear hD
      refine want_yes (by simp [Region.wanted, yielded, e20]) ?_
      exact leads_value (v := .pointer (some ⟨br, 0, none⟩)) (by go_simp) ⟨rfl, hC⟩
    refine ⟨ObL.of_val rfl (fun x v => rfl) (fun x V vs hC hD => ?_), ?_⟩
    · have e21 : x 21 = .pointer (some ⟨br, 0, none⟩) := (hD.1 rfl).1
      have e20 : x 20 = .bool false := (hD.2.1 rfl).1
      clear hD
      refine want_yes (by simp [Region.wanted, yielded, e20]) ?_
      exact leads_enter2 (by go_simp) ((rdleft_any br _ g T V (C7_com hC).rb.rd).mono fun e w'' ⟨he, hw⟩ => ⟨_, he, rfl, hw ▸ hC⟩)
    refine ⟨ObL.of_val rfl (fun x v => rfl) (fun x V vs hC hD => ?_), ?_⟩
    · have e20 : x 20 = .bool false := (hD.1 rfl).1
      clear hD
      refine want_yes (by simp [Region.wanted, yielded, e20]) ?_
      exact leads_value (v := .pointer (some ⟨bx, 0, none⟩)) (by go_simp) ⟨rfl, hC⟩
    refine ⟨ObL.of_val rfl (fun x v => rfl) (fun x V vs hC hD => ?_), ?_⟩
    · have e23 : x 23 = .pointer (some ⟨bx, 0, none⟩) := (hD.1 rfl).1
      have e22 : x 22 = .int .i64 (T.1.length : Nat) := (hD.2.1 rfl).1
      have e20 : x 20 = .bool false := (hD.2.2.1 rfl).1
      clear hD
      refine want_yes (by simp [Region.wanted, yielded, e20]) ?_
      exact leads_enter2 (by go_simp) ((xleft_any bx _ gx L T V (C7_com hC).rb.xd (by have := HLn.out; omega)).mono fun e w'' ⟨he, n, hw⟩ => ⟨_, he, rfl, hw ▸ C7_step (fun h => RB2.step h (show Below V.heap.size V (V.drewN n) from ⟨rfl, rfl, rfl, Nat.le_refl _, fun _ _ => rfl⟩)) (show Below V.heap.size V (V.drewN n) from ⟨rfl, rfl, rfl, Nat.le_refl _, fun _ _ => rfl⟩) hC⟩)
    refine ⟨ObL.of_val rfl (fun x v => rfl) (fun x V vs hC hD => ?_), ?_⟩
    · have e22 : x 22 = .int .i64 (T.1.length : Nat) := (hD.1 rfl).1
      have e24 : x 24 = .int .i64 (T.1.length : Nat) := (hD.2.1 rfl).1
      have e20 : x 20 = .bool false := (hD.2.2.1 rfl).1
      clear hD
      refine want_yes (by simp [Region.wanted, yielded, e20]) ?_
      exact leads_value (v := .bool false) (by go_simp) ⟨rfl, hC⟩
    refine ⟨ObL.of_val rfl (fun x v => rfl) (fun x V vs hC hD => ?_), ?_⟩
    · have e20 : x 20 = .bool false := (hD.1 rfl).1
      have e25 : x 25 = .bool false := (hD.2.1 rfl).1
      clear hD
      refine want_yes rfl ?_
      exact leads_value (v := .bool false) (by go_simp) ⟨rfl, hC⟩
    trivial
  · intro xa V7 vs hl hC hx
    have HK7 := Lib.hid (C7_com hC)
    have e26 : xa 26 = .bool false := hx 26 (by simp)
    clear hx hC hl HK HRB
    rw [e26]
    clear e26
    generalize xa 0 = z28
    generalize xa 1 = z29
    generalize xa 2 = z30
    generalize xa 3 = z31
    generalize xa 4 = z32
    generalize xa 5 = z33
    generalize xa 6 = z34
    generalize xa 7 = z35
    generalize xa 8 = z36
    generalize xa 9 = z37
    generalize xa 10 = z38
    generalize xa 11 = z39
    generalize xa 12 = z40
    generalize xa 13 = z41
    generalize xa 14 = z42
    generalize xa 15 = z43
    generalize xa 16 = z44
    generalize xa 17 = z45
    generalize xa 18 = z46
    generalize xa 19 = z47
    generalize xa 20 = z48
    generalize xa 21 = z49
    generalize xa 22 = z50
    generalize xa 23 = z51
    generalize xa 24 = z52
    generalize xa 25 = z53
    have hbs9 : BsAt (V7.alloc (.cells #[.int .u8 9] 5)) (some ⟨V7.heap.size, 0, none⟩) 1 1 [9] := bsAt_new V7 _ _ 0 [9] (show 1 ≤ maxLen by decide) (fun i hi => by
      obtain rfl : i = 0 := by simpa using hi
      rfl)
    have HK8 := Lib.hid (HK7.out.step (belowNew V7 (.cells #[.int .u8 9] 5)))
    have hown := HK8.out.rb.own
    have hsz := HK8.out.rb.base
    have hq : B.length + [(9 : UInt8)].length ≤ 140737488355328 := by have := HBL.out; simp; omega
    go_wp2_with (at_builtin; refine wpList_append_bytes rfl _ _ 48 rfl w3.heap.size 5 Tryd.underlying48 infoU8 rfl hown rfl hbs9 hq hsz ?_; intro p9 n9 c9 w9 hrow9 hg9 hn9; have HR9 := Lib.hid hrow9; have HC9 := Lib.hid (Chg.ofGrown hg9); clear hrow9 hg9 hn9 hown hbs9 hq hsz)
    obtain ⟨q9, d9, e9, hb9⟩ := BsAt.ofRow HR9.out
    rw [Value.slice.injEq] at e9
    obtain ⟨rfl, rfl, rfl⟩ := e9
    have HK9 := Lib.hid (show RB3 w w.heap.size m br g T b8 q w9 from (show RB3 w w.heap.size m br g T b8 q _ from ⟨HK8.out.rb.all, HK8.out.rb.row, HK8.out.rb.rd, HK8.out.r8⟩).chg HC9.out (fun k hk => (HFar.out.vp k hk).2.2) (fun e => (HFar.out.vp _ e).1 rfl) (fun e => HFar.out.vr _ e rfl) (fun e => (HFar.out.vp _ e).2.1 rfl) (fun e => Nat.lt_irrefl _ (HV8.out _ e)))
    have H8l := Lib.hid HK9.out.r8.lt
    clear HC9 HR9 HK7 HK8 HV8
    refine (newRd2_any _ _ _ _ _ hb9 (by have := HBL.out; simp; omega) (by have := H8l.out; omega)).mono ?_
    rintro e w11 ⟨b10, g10, rfl, hb10, hg1, -, hr10, hB11⟩
    have HN := Lib.hid (show g10 ≠ b10 ∧ (w.heap.size < b10 ∧ br < b10 ∧ g < b10 ∧ b8 < b10) from ⟨hg1, by have := HS8l.out; have := H8l.out; omega⟩)
    have HK11 := Lib.hid (HK9.out.step hB11)
    have HR11 := Lib.hid hr10
    clear hb10 hg1 hr10 hB11 hb9 HK9 H8l HS8l HFar HBL
    have HT3 := Lib.hid (show ∀ V V', RB3 w w.heap.size m br g T b8 q V → RTo V b10 90 g10 ([9], 0) V' → RB3 w w.heap.size m br g T b8 q V' from fun V V' h hR => h.chg hR.2 (fun k hk => by have := HN.out.2.1; have hk : k = b10 := hk; omega) (show ¬ _ = _ by have := HN.out; omega) (show ¬ _ = _ by have := HN.out; omega) (show ¬ _ = _ by have := HN.out; omega) (show ¬ _ = _ by have := HN.out; omega))
    have HRd := Lib.hid (fun V (hB : Since w V) (hV : RAt V b10 90 g10 (B ++ [9], 0)) => HCR.out b10 _ g10 (B ++ [9], 0) V hB hV HN.out.1 (by have := HB10.out; simp; omega) (fun h => absurd rfl h))
    rw [HW.out.1, HW.out.2] at HRd
    by_cases hT : T.2 = 0
    · have HTz := Lib.hid hT
      have HFq := Lib.hid (HQ.out hT)
      clear hT HQ HW HCR
      go_upto_region 10 with fail
      have HLL := Lib.hid (show L.length = (bytesP q).length + T.1.length by have h := congrArg List.length HFq.out.2; rwa [List.length_append] at h)
      have HTk := Lib.hid (show ∀ V, Below w.heap.size w V → BsAt V pL (bytesP q).length cap0 (bytesP q) from fun V hV => by
        have h := bs_take (n := (bytesP q).length) (HBs.out.below hV (Nat.le_refl _)) (by have := HLL.out; omega)
        rwa [show L.take (bytesP q).length = bytesP q by rw [HFq.out.2, List.take_left' rfl]] at h)
      refine wp_region_L (D10 (fun V => RB3 w w.heap.size m br g T b8 q V) (fun V => RAt V b10 90 g10 (B ++ [9], 0)) (fun V => RAt V b10 90 g10 ([9], 0)) [.agg (polC m), .bool true, .int .i64 0, .bool true, .int .i64 1, .bool true, .int .i64 0, .bool false] (bytesP q)) 9 [.val (.pointer (some ⟨b10, 0, none⟩)), .turn 0, .val (.agg (polC m)), .val (.bool true), .turn 1, .val (.pointer (some ⟨b10, 0, none⟩)), .turn 2, .val (.bool true), .val (.bool true), .turn 3, .val (.pointer (some ⟨b10, 0, none⟩)), .turn 4, .val (.bool true), .val (.bool true), .turn 5, .val (.pointer (some ⟨br, 0, none⟩)), .turn 6, .val (.bool false), .turn 7, .val (.agg (polC q)), .turn 8, .val (.string ⟨(bytesP q).toArray⟩), .val (.slice pL L.length cap0), .val (.slice pL L.length cap0), .val (.int .i64 (L.length : Int)), .val (.pointer (some ⟨br, 0, none⟩)), .val (.int .i64 (T.1.length : Nat)), .val (.int .i64 ((bytesP q).length : Nat)), .val (.slice pL (bytesP q).length cap0), .val (.string ⟨(bytesP q).toArray⟩), .val (.bool true), .val (.bool true), .val (.bool true), .val (.bool true), .val (.bool true), .val (.bool true), .val (.bool true)]
        (fun x => { tmps := #[.agg (polC p), .slice pL L.length cap0, .pointer (some ⟨w.heap.size, 0, none⟩), undef, x 36, .slice p5 B.length c5, .pointer (some ⟨br, 0, none⟩), .pointer (some ⟨bx, 0, none⟩), .pointer (some ⟨b8, 0, none⟩), .pointer (some ⟨b8 + 1, 0, none⟩), .pointer (some ⟨b10, 0, none⟩), .slice pL L.length cap0, .int .i64 (L.length : Int), .bool false, undef, .agg (polC p), .agg (polC m), .agg (polC m), .slice p5 B.length c5, .slice pL L.length cap0, .pointer (some ⟨br, 0, none⟩), .slice pL L.length cap0, .agg #[.slice pL L.length cap0, .int .i64 0, .int .i64 0], .pointer (some ⟨bx, 0, none⟩), .pointer (some ⟨br, 0, none⟩), .agg (polC q), .pointer (some ⟨bx, 0, none⟩), .agg (polC q), z28, z29, z30, z31, z32, z33, z34, z35, z36, z37, z38, z39, z40, z41, z42, z43, z44, z45, z46, z47, z48, z49, z50, z51, z52, z53, .bool false, .slice p5 B.length c5, .slice (some ⟨V7.heap.size, 0, none⟩) 1 1, .slice p9 (B.length + 1) c9, .pointer (some ⟨b10, 0, none⟩), x 0, x 1, x 2, x 3, x 4, x 5, x 6, x 7, x 8, x 9, x 10, x 11, x 12, x 13, x 14, x 15, x 16, x 17, x 18, x 19, x 20, x 21, x 22, x 23, x 24, x 25, x 26, x 27, x 28, x 29, x 30, x 31, x 32, x 33, x 34, x 35], defers := [] }) (fun i => ([undef, undef, undef, undef, undef, undef, undef, undef, undef, undef, undef, undef, undef, undef, undef, undef, undef, undef, undef, undef, undef, undef, undef, undef, undef, undef, undef, undef, undef, undef, undef, undef, undef, undef, undef, undef, .bool false] : List Value).getD i undef) (by kernel_rfl) rfl rfl (by kernel_rfl) (by kernel_rfl) (by kernel_rfl) (by kernel_rfl) (D10_new (HK11.out.step (Below.refl _ _).drew) (HR11.out.below (Below.refl _ _).drew (Nat.le_refl _))) ?_ ?_
      · refine ⟨ObL.of_val rfl (fun x v => rfl) (fun x V vs hC hD => ?_), ?_⟩
        · clear hD
          refine want_yes rfl ?_
          exact leads_value (v := .pointer (some ⟨b10, 0, none⟩)) (by go_simp) ⟨rfl, hC⟩
        refine ⟨ObL.of_turn rfl (fun x v => rfl) (fun x V vs hl hC hD => ?_), ?_⟩
        · have e0 : x 0 = .pointer (some ⟨b10, 0, none⟩) := (hD.1 rfl).1
          clear hD
          refine want_yes rfl ?_
          exact leads_enter2 (by go_simp) ((HRd.out V (D10_com hC).all (D10_zero hl hC)).mono fun e w'' ⟨he, hR⟩ => ⟨_, he, D10_next hl hC (HT3.out _ _ (D10_com hC) hR) hR.1 rfl⟩)
        refine ⟨ObL.of_val rfl (fun x v => rfl) (fun x V vs hC hD => ?_), ?_⟩
        · clear hD
          refine want_yes rfl ?_
          exact leads_value (exec_load_pol rfl rfl (D10_com hC).row) ⟨rfl, hC⟩
        refine ⟨ObL.of_val rfl (fun x v => rfl) (fun x V vs hC hD => ?_), ?_⟩
        · have e1 : x 1 = .agg (polC m) := ((hD.1 rfl).1).trans (D10_get (hD.1 rfl).2 rfl hC)
          have e2 : x 2 = .agg (polC m) := (hD.2.1 rfl).1
          clear hD
          refine want_yes rfl ?_
          exact leads_value (exec_eql_pol HMo.out rfl e1 e2) ⟨rfl, hC⟩
        refine ⟨ObL.of_turn rfl (fun x v => rfl) (fun x V vs hl hC hD => ?_), ?_⟩
        · have e3 : x 3 = .bool true := (hD.1 rfl).1
          have e1 : x 1 = .agg (polC m) := ((hD.2.1 rfl).1).trans (D10_get (hD.2.1 rfl).2 rfl hC)
          clear hD
          refine want_yes rfl ?_
          exact leads_value (v := .bool true) (by go_simp) (D10_next hl hC (D10_com hC) (D10_pos hl hC) rfl)
        refine ⟨ObL.of_val rfl (fun x v => rfl) (fun x V vs hC hD => ?_), ?_⟩
        · have e4 : x 4 = .bool true := ((hD.1 rfl).1).trans (D10_get (hD.1 rfl).2 rfl hC)
          clear hD
          refine want_yes (by simp [Region.wanted, yielded, e4]) ?_
          exact leads_value (v := .pointer (some ⟨b10, 0, none⟩)) (by go_simp) ⟨rfl, hC⟩
        refine ⟨ObL.of_turn rfl (fun x v => rfl) (fun x V vs hl hC hD => ?_), ?_⟩
        · have e5 : x 5 = .pointer (some ⟨b10, 0, none⟩) := (hD.1 rfl).1
          have e4 : x 4 = .bool true := ((hD.2.1 rfl).1).trans (D10_get (hD.2.1 rfl).2 rfl hC)
          clear hD
          refine want_yes (by simp [Region.wanted, yielded, e4]) ?_
          exact leads_enter2 (by go_simp) ((rderr_any b10 _ g10 ([9], 0) V (D10_pos hl hC)).mono fun e w'' ⟨he, hw⟩ => ⟨_, he, hw ▸ D10_next hl hC (D10_com hC) (D10_pos hl hC) rfl⟩)
        refine ⟨ObL.of_val rfl (fun x v => rfl) (fun x V vs hC hD => ?_), ?_⟩
        · have e6 : x 6 = .int .i64 0 := ((hD.1 rfl).1).trans (D10_get (hD.1 rfl).2 rfl hC)
          have e4 : x 4 = .bool true := ((hD.2.1 rfl).1).trans (D10_get (hD.2.1 rfl).2 rfl hC)
          clear hD
          refine want_yes (by simp [Region.wanted, yielded, e4]) ?_
          exact leads_value (v := .bool true) (by go_simp) ⟨rfl, hC⟩
        refine ⟨ObL.of_val rfl (fun x v => rfl) (fun x V vs hC hD => ?_), ?_⟩
        · have e4 : x 4 = .bool true := ((hD.1 rfl).1).trans (D10_get (hD.1 rfl).2 rfl hC)
          have e7 : x 7 = .bool true := (hD.2.1 rfl).1
          clear hD
          refine want_yes rfl ?_
          exact leads_value (v := .bool true) (by go_simp) ⟨rfl, hC⟩
        refine ⟨ObL.of_turn rfl (fun x v => rfl) (fun x V vs hl hC hD => ?_), ?_⟩
        · have e8 : x 8 = .bool true := (hD.1 rfl).1
          have e6 : x 6 = .int .i64 0 := ((hD.2.1 rfl).1).trans (D10_get (hD.2.1 rfl).2 rfl hC)
          clear hD
          refine want_yes rfl ?_
          exact leads_value (v := .bool true) (by go_simp) (D10_next hl hC (D10_com hC) (D10_pos hl hC) rfl)
        refine ⟨ObL.of_val rfl (fun x v => rfl) (fun x V vs hC hD => ?_), ?_⟩
        · have e9 : x 9 = .bool true := ((hD.1 rfl).1).trans (D10_get (hD.1 rfl).2 rfl hC)
          clear hD
          refine want_yes (by simp [Region.wanted, yielded, e9]) ?_
          exact leads_value (v := .pointer (some ⟨b10, 0, none⟩)) (by go_simp) ⟨rfl, hC⟩
        refine ⟨ObL.of_turn rfl (fun x v => rfl) (fun x V vs hl hC hD => ?_), ?_⟩
        · have e10 : x 10 = .pointer (some ⟨b10, 0, none⟩) := (hD.1 rfl).1
          have e9 : x 9 = .bool true := ((hD.2.1 rfl).1).trans (D10_get (hD.2.1 rfl).2 rfl hC)
          clear hD
          refine want_yes (by simp [Region.wanted, yielded, e9]) ?_
          exact leads_enter2 (by go_simp) ((rdleft_any b10 _ g10 ([9], 0) V (D10_pos hl hC)).mono fun e w'' ⟨he, hw⟩ => ⟨_, he, hw ▸ D10_next hl hC (D10_com hC) (D10_pos hl hC) rfl⟩)
        refine ⟨ObL.of_val rfl (fun x v => rfl) (fun x V vs hC hD => ?_), ?_⟩
        · have e11 : x 11 = .int .i64 1 := ((hD.1 rfl).1).trans (D10_get (hD.1 rfl).2 rfl hC)
          have e9 : x 9 = .bool true := ((hD.2.1 rfl).1).trans (D10_get (hD.2.1 rfl).2 rfl hC)
          clear hD
          refine want_yes (by simp [Region.wanted, yielded, e9]) ?_
          exact leads_value (v := .bool true) (by go_simp) ⟨rfl, hC⟩
        refine ⟨ObL.of_val rfl (fun x v => rfl) (fun x V vs hC hD => ?_), ?_⟩
        · have e9 : x 9 = .bool true := ((hD.1 rfl).1).trans (D10_get (hD.1 rfl).2 rfl hC)
          have e12 : x 12 = .bool true := (hD.2.1 rfl).1
          clear hD
          refine want_yes rfl ?_
          exact leads_value (v := .bool true) (by go_simp) ⟨rfl, hC⟩
        refine ⟨ObL.of_turn rfl (fun x v => rfl) (fun x V vs hl hC hD => ?_), ?_⟩
        · have e13 : x 13 = .bool true := (hD.1 rfl).1
          have e11 : x 11 = .int .i64 1 := ((hD.2.1 rfl).1).trans (D10_get (hD.2.1 rfl).2 rfl hC)
          clear hD
          refine want_yes rfl ?_
          exact leads_value (v := .bool true) (by go_simp) (D10_next hl hC (D10_com hC) (D10_pos hl hC) rfl)
        refine ⟨ObL.of_val rfl (fun x v => rfl) (fun x V vs hC hD => ?_), ?_⟩
        · have e14 : x 14 = .bool true := ((hD.1 rfl).1).trans (D10_get (hD.1 rfl).2 rfl hC)
          clear hD
          refine want_yes (by simp [Region.wanted, yielded, e14]) ?_
          exact leads_value (v := .pointer (some ⟨br, 0, none⟩)) (by go_simp) ⟨rfl, hC⟩
        refine ⟨ObL.of_turn rfl (fun x v => rfl) (fun x V vs hl hC hD => ?_), ?_⟩
        · have e15 : x 15 = .pointer (some ⟨br, 0, none⟩) := (hD.1 rfl).1
          have e14 : x 14 = .bool true := ((hD.2.1 rfl).1).trans (D10_get (hD.2.1 rfl).2 rfl hC)
          clear hD
          refine want_yes (by simp [Region.wanted, yielded, e14]) ?_
          exact leads_enter2 (by go_simp) ((rderr_any br _ g T V (D10_com hC).rd).mono fun e w'' ⟨he, hw⟩ => ⟨_, by rw [he, HTz.out], hw ▸ D10_next hl hC (D10_com hC) (D10_pos hl hC) rfl⟩)
        refine ⟨ObL.of_val rfl (fun x v => rfl) (fun x V vs hC hD => ?_), ?_⟩
        · have e16 : x 16 = .int .i64 0 := ((hD.1 rfl).1).trans (D10_get (hD.1 rfl).2 rfl hC)
          have e14 : x 14 = .bool true := ((hD.2.1 rfl).1).trans (D10_get (hD.2.1 rfl).2 rfl hC)
          clear hD
          refine want_yes (by simp [Region.wanted, yielded, e14]) ?_
          exact leads_value (v := .bool false) (by go_simp) ⟨rfl, hC⟩
        refine ⟨ObL.of_turn rfl (fun x v => rfl) (fun x V vs hl hC hD => ?_), ?_⟩
        · have e17 : x 17 = .bool false := (hD.1 rfl).1
          have e16 : x 16 = .int .i64 0 := ((hD.2.1 rfl).1).trans (D10_get (hD.2.1 rfl).2 rfl hC)
          have e14 : x 14 = .bool true := ((hD.2.2.1 rfl).1).trans (D10_get (hD.2.2.1 rfl).2 rfl hC)
          clear hD
          refine want_yes (by simp [Region.wanted, yielded, e14]) ?_
          exact leads_value (v := .bool false) (by go_simp) (D10_next hl hC (D10_com hC) (D10_pos hl hC) rfl)
        refine ⟨ObL.of_val rfl (fun x v => rfl) (fun x V vs hC hD => ?_), ?_⟩
        · have e18 : x 18 = .bool false := ((hD.1 rfl).1).trans (D10_get (hD.1 rfl).2 rfl hC)
          clear hD
          refine want_yes (by simp [Region.wanted, yielded, e18]) ?_
          exact leads_value (exec_load_pol rfl rfl (D10_com hC).r8) ⟨rfl, hC⟩
        refine ⟨ObL.of_turn rfl (fun x v => rfl) (fun x V vs hl hC hD => ?_), ?_⟩
        · have e19 : x 19 = .agg (polC q) := (hD.1 rfl).1
          have e18 : x 18 = .bool false := ((hD.2.1 rfl).1).trans (D10_get (hD.2.1 rfl).2 rfl hC)
          clear hD
          refine want_yes (by simp [Region.wanted, yielded, e18]) ?_
          refine leads_enter2 (by go_simp) ((HCB.out q V HQo.out HFq.out.1).mono fun e w'' hO => ?_)
          obtain ⟨v, he, hr, hB⟩ := hO
          obtain ⟨q3, c3, rfl, hbs⟩ := BsAt.ofRow hr
          exact ⟨_, he, D10_last hl hC (RB3.step (D10_com hC) hB) (RAt.below (D10_pos hl hC) hB (Nat.le_refl _)) ⟨q3, c3, rfl, hbs⟩⟩
        refine ⟨ObL.of_val rfl (fun x v => rfl) (fun x V vs hC hD => ?_), ?_⟩
        · have e20 : x 20 = vs.getD 8 undef := (hD.1 rfl).1
          have n20 : 8 < vs.length := (hD.1 rfl).2
          have e18 : x 18 = .bool false := ((hD.2.1 rfl).1).trans (D10_get (hD.2.1 rfl).2 rfl hC)
          clear hD
          refine want_yes (by simp [Region.wanted, yielded, e18]) ?_
          obtain ⟨p3, c3, hv, hb3⟩ := hC.last n20
          rw [show vs.getD 8 undef = Value.slice p3 (bytesP q).length c3 from hv] at e20
          have cv := run_string_bs (P := Tryd.prog) V 48 5 9 Tryd.underlying48 Tryd.underlying5 Tryd.underlying9 hb3
          clear n20
          generalize vs.getD 8 undef = y8 at *
          exact leads_value (v := .string ⟨(bytesP q).toArray⟩) (by go_simp) ⟨rfl, hC⟩
        refine ⟨ObL.of_val rfl (fun x v => rfl) (fun x V vs hC hD => ?_), ?_⟩
        · have e18 : x 18 = .bool false := ((hD.1 rfl).1).trans (D10_get (hD.1 rfl).2 rfl hC)
          clear hD
          refine want_yes (by simp [Region.wanted, yielded, e18]) ?_
          exact leads_value (v := .slice pL L.length cap0) (by go_simp) ⟨rfl, hC⟩
        refine ⟨ObL.of_val rfl (fun x v => rfl) (fun x V vs hC hD => ?_), ?_⟩
        · have e18 : x 18 = .bool false := ((hD.1 rfl).1).trans (D10_get (hD.1 rfl).2 rfl hC)
          clear hD
          refine want_yes (by simp [Region.wanted, yielded, e18]) ?_
          exact leads_value (v := .slice pL L.length cap0) (by go_simp) ⟨rfl, hC⟩
        refine ⟨ObL.of_val rfl (fun x v => rfl) (fun x V vs hC hD => ?_), ?_⟩
        · have e23 : x 23 = .slice pL L.length cap0 := (hD.1 rfl).1
          have e18 : x 18 = .bool false := ((hD.2.1 rfl).1).trans (D10_get (hD.2.1 rfl).2 rfl hC)
          clear hD
          refine want_yes (by simp [Region.wanted, yielded, e18]) ?_
          exact leads_value (v := .int .i64 (L.length : Int)) (by go_simp) ⟨rfl, hC⟩
        refine ⟨ObL.of_val rfl (fun x v => rfl) (fun x V vs hC hD => ?_), ?_⟩
        · have e18 : x 18 = .bool false := ((hD.1 rfl).1).trans (D10_get (hD.1 rfl).2 rfl hC)
          clear hD
          refine want_yes (by simp [Region.wanted, yielded, e18]) ?_
          exact leads_value (v := .pointer (some ⟨br, 0, none⟩)) (by go_simp) ⟨rfl, hC⟩
        refine ⟨ObL.of_val rfl (fun x v => rfl) (fun x V vs hC hD => ?_), ?_⟩
        · have e25 : x 25 = .pointer (some ⟨br, 0, none⟩) := (hD.1 rfl).1
          have e20 : x 20 = vs.getD 8 undef := (hD.2.1 rfl).1
          have n20 : 8 < vs.length := (hD.2.1 rfl).2
          have e18 : x 18 = .bool false := ((hD.2.2.1 rfl).1).trans (D10_get (hD.2.2.1 rfl).2 rfl hC)
          clear hD
          refine want_yes (by simp [Region.wanted, yielded, e18]) ?_
          clear n20
          generalize vs.getD 8 undef = y8 at *
          exact leads_enter2 (by go_simp) ((rdleft_any br _ g T V (D10_com hC).rd).mono fun e w'' ⟨he, hw⟩ => ⟨_, he, rfl, hw ▸ hC⟩)
        refine ⟨ObL.of_val rfl (fun x v => rfl) (fun x V vs hC hD => ?_), ?_⟩
        · have e24 : x 24 = .int .i64 (L.length : Int) := (hD.1 rfl).1
          have e26 : x 26 = .int .i64 (T.1.length : Nat) := (hD.2.1 rfl).1
          have e18 : x 18 = .bool false := ((hD.2.2.1 rfl).1).trans (D10_get (hD.2.2.1 rfl).2 rfl hC)
          clear hD
          refine want_yes (by simp [Region.wanted, yielded, e18]) ?_
          have hw : IntKind.i64.wrap ((L.length : Int) - (T.1.length : Int)) = ((bytesP q).length : Int) := by rw [show (L.length : Int) - (T.1.length : Int) = ((bytesP q).length : Int) by have := HLL.out; omega]; exact IntWalk.i64_in _ (by have := HLL.out; have := HLn.out; omega)
          exact leads_value (v := .int .i64 ((bytesP q).length : Nat)) (by go_simp) ⟨rfl, hC⟩
        refine ⟨ObL.of_val rfl (fun x v => rfl) (fun x V vs hC hD => ?_), ?_⟩
        · have e22 : x 22 = .slice pL L.length cap0 := (hD.1 rfl).1
          have e27 : x 27 = .int .i64 ((bytesP q).length : Nat) := (hD.2.1 rfl).1
          have e18 : x 18 = .bool false := ((hD.2.2.1 rfl).1).trans (D10_get (hD.2.2.1 rfl).2 rfl hC)
          clear hD
          refine want_yes (by simp [Region.wanted, yielded, e18]) ?_
          have u := run_upto V pL L.length cap0 (bytesP q).length (by have := HLL.out; have := HBs.out.le; omega)
          exact leads_value (v := .slice pL (bytesP q).length cap0) (by go_simp) ⟨rfl, hC⟩
        refine ⟨ObL.of_val rfl (fun x v => rfl) (fun x V vs hC hD => ?_), ?_⟩
        · have e28 : x 28 = .slice pL (bytesP q).length cap0 := (hD.1 rfl).1
          have e18 : x 18 = .bool false := ((hD.2.1 rfl).1).trans (D10_get (hD.2.1 rfl).2 rfl hC)
          clear hD
          refine want_yes (by simp [Region.wanted, yielded, e18]) ?_
          have cv := run_string_bs (P := Tryd.prog) V 48 5 9 Tryd.underlying48 Tryd.underlying5 Tryd.underlying9 (HTk.out V (D10_com hC).all)
          exact leads_value (v := .string ⟨(bytesP q).toArray⟩) (by go_simp) ⟨rfl, hC⟩
        refine ⟨ObL.of_val rfl (fun x v => rfl) (fun x V vs hC hD => ?_), ?_⟩
        · have e21 : x 21 = .string ⟨(bytesP q).toArray⟩ := (hD.1 rfl).1
          have e29 : x 29 = .string ⟨(bytesP q).toArray⟩ := (hD.2.1 rfl).1
          have e18 : x 18 = .bool false := ((hD.2.2.1 rfl).1).trans (D10_get (hD.2.2.1 rfl).2 rfl hC)
          clear hD
          refine want_yes (by simp [Region.wanted, yielded, e18]) ?_
          exact leads_value (v := .bool true) (by go_simp) ⟨rfl, hC⟩
        refine ⟨ObL.of_val rfl (fun x v => rfl) (fun x V vs hC hD => ?_), ?_⟩
        · have e18 : x 18 = .bool false := ((hD.1 rfl).1).trans (D10_get (hD.1 rfl).2 rfl hC)
          have e30 : x 30 = .bool true := (hD.2.1 rfl).1
          have e14 : x 14 = .bool true := ((hD.2.2.1 rfl).1).trans (D10_get (hD.2.2.1 rfl).2 rfl hC)
          clear hD
          refine want_yes (by simp [Region.wanted, yielded, e14]) ?_
          exact leads_value (v := .bool true) (by go_simp) ⟨rfl, hC⟩
        refine ⟨ObL.of_val rfl (fun x v => rfl) (fun x V vs hC hD => ?_), ?_⟩
        · have e14 : x 14 = .bool true := ((hD.1 rfl).1).trans (D10_get (hD.1 rfl).2 rfl hC)
          have e31 : x 31 = .bool true := (hD.2.1 rfl).1
          clear hD
          refine want_yes rfl ?_
          exact leads_value (v := .bool true) (by go_simp) ⟨rfl, hC⟩
        refine ⟨ObL.of_val rfl (fun x v => rfl) (fun x V vs hC hD => ?_), ?_⟩
        · have e32 : x 32 = .bool true := (hD.1 rfl).1
          have e26 : x 26 = .int .i64 (T.1.length : Nat) := (hD.2.1 rfl).1
          clear hD
          refine want_yes rfl ?_
          exact leads_value (v := .bool true) (by go_simp) ⟨rfl, hC⟩
        refine ⟨ObL.of_val rfl (fun x v => rfl) (fun x V vs hC hD => ?_), ?_⟩
        · have e33 : x 33 = .bool true := (hD.1 rfl).1
          clear hD
          refine want_yes (by simp [Region.wanted, yielded, e33]) ?_
          exact leads_enter2 (by go_simp) ((HAl.out V (D10_com hC).all).mono fun e w'' ⟨he, hB⟩ => ⟨_, he, rfl, D10_step (fun h => RB3.step h hB) (fun h => RAt.below h hB (Nat.le_refl _)) (fun h => RAt.below h hB (Nat.le_refl _)) hB hC⟩)
        refine ⟨ObL.of_val rfl (fun x v => rfl) (fun x V vs hC hD => ?_), ?_⟩
        · have e33 : x 33 = .bool true := (hD.1 rfl).1
          have e34 : x 34 = .bool true := (hD.2.1 rfl).1
          clear hD
          refine want_yes rfl ?_
          exact leads_value (v := .bool true) (by go_simp) ⟨rfl, hC⟩
        refine ⟨ObL.of_val rfl (fun x v => rfl) (fun x V vs hC hD => ?_), ?_⟩
        · have e35 : x 35 = .bool true := (hD.1 rfl).1
          have e34 : x 34 = .bool true := (hD.2.1 rfl).1
          have e0 : x 0 = .pointer (some ⟨b10, 0, none⟩) := (hD.2.2.1 rfl).1
          have e1 : x 1 = .agg (polC m) := ((hD.2.2.2.1 rfl).1).trans (D10_get (hD.2.2.2.1 rfl).2 rfl hC)
          have e2 : x 2 = .agg (polC m) := (hD.2.2.2.2.1 rfl).1
          have e3 : x 3 = .bool true := (hD.2.2.2.2.2.1 rfl).1
          have e4 : x 4 = .bool true := ((hD.2.2.2.2.2.2.1 rfl).1).trans (D10_get (hD.2.2.2.2.2.2.1 rfl).2 rfl hC)
          have e5 : x 5 = .pointer (some ⟨b10, 0, none⟩) := (hD.2.2.2.2.2.2.2.1 rfl).1
          have e6 : x 6 = .int .i64 0 := ((hD.2.2.2.2.2.2.2.2.1 rfl).1).trans (D10_get (hD.2.2.2.2.2.2.2.2.1 rfl).2 rfl hC)
          have e7 : x 7 = .bool true := (hD.2.2.2.2.2.2.2.2.2.1 rfl).1
          have e8 : x 8 = .bool true := (hD.2.2.2.2.2.2.2.2.2.2.1 rfl).1
          have e9 : x 9 = .bool true := ((hD.2.2.2.2.2.2.2.2.2.2.2.1 rfl).1).trans (D10_get (hD.2.2.2.2.2.2.2.2.2.2.2.1 rfl).2 rfl hC)
          have e10 : x 10 = .pointer (some ⟨b10, 0, none⟩) := (hD.2.2.2.2.2.2.2.2.2.2.2.2.1 rfl).1
          have e11 : x 11 = .int .i64 1 := ((hD.2.2.2.2.2.2.2.2.2.2.2.2.2.1 rfl).1).trans (D10_get (hD.2.2.2.2.2.2.2.2.2.2.2.2.2.1 rfl).2 rfl hC)
          have e12 : x 12 = .bool true := (hD.2.2.2.2.2.2.2.2.2.2.2.2.2.2.1 rfl).1
          have e13 : x 13 = .bool true := (hD.2.2.2.2.2.2.2.2.2.2.2.2.2.2.2.1 rfl).1
          have e14 : x 14 = .bool true := ((hD.2.2.2.2.2.2.2.2.2.2.2.2.2.2.2.2.1 rfl).1).trans (D10_get (hD.2.2.2.2.2.2.2.2.2.2.2.2.2.2.2.2.1 rfl).2 rfl hC)
          have e15 : x 15 = .pointer (some ⟨br, 0, none⟩) := (hD.2.2.2.2.2.2.2.2.2.2.2.2.2.2.2.2.2.1 rfl).1
          have e16 : x 16 = .int .i64 0 := ((hD.2.2.2.2.2.2.2.2.2.2.2.2.2.2.2.2.2.2.1 rfl).1).trans (D10_get (hD.2.2.2.2.2.2.2.2.2.2.2.2.2.2.2.2.2.2.1 rfl).2 rfl hC)
          have e17 : x 17 = .bool false := (hD.2.2.2.2.2.2.2.2.2.2.2.2.2.2.2.2.2.2.2.1 rfl).1
          have e18 : x 18 = .bool false := ((hD.2.2.2.2.2.2.2.2.2.2.2.2.2.2.2.2.2.2.2.2.1 rfl).1).trans (D10_get (hD.2.2.2.2.2.2.2.2.2.2.2.2.2.2.2.2.2.2.2.2.1 rfl).2 rfl hC)
          have e19 : x 19 = .agg (polC q) := (hD.2.2.2.2.2.2.2.2.2.2.2.2.2.2.2.2.2.2.2.2.2.1 rfl).1
          have e20 : x 20 = vs.getD 8 undef := (hD.2.2.2.2.2.2.2.2.2.2.2.2.2.2.2.2.2.2.2.2.2.2.1 rfl).1
          have n20 : 8 < vs.length := (hD.2.2.2.2.2.2.2.2.2.2.2.2.2.2.2.2.2.2.2.2.2.2.1 rfl).2
          have e21 : x 21 = .string ⟨(bytesP q).toArray⟩ := (hD.2.2.2.2.2.2.2.2.2.2.2.2.2.2.2.2.2.2.2.2.2.2.2.1 rfl).1
          have e22 : x 22 = .slice pL L.length cap0 := (hD.2.2.2.2.2.2.2.2.2.2.2.2.2.2.2.2.2.2.2.2.2.2.2.2.1 rfl).1
          have e23 : x 23 = .slice pL L.length cap0 := (hD.2.2.2.2.2.2.2.2.2.2.2.2.2.2.2.2.2.2.2.2.2.2.2.2.2.1 rfl).1
          have e24 : x 24 = .int .i64 (L.length : Int) := (hD.2.2.2.2.2.2.2.2.2.2.2.2.2.2.2.2.2.2.2.2.2.2.2.2.2.2.1 rfl).1
          have e25 : x 25 = .pointer (some ⟨br, 0, none⟩) := (hD.2.2.2.2.2.2.2.2.2.2.2.2.2.2.2.2.2.2.2.2.2.2.2.2.2.2.2.1 rfl).1
          have e26 : x 26 = .int .i64 (T.1.length : Nat) := (hD.2.2.2.2.2.2.2.2.2.2.2.2.2.2.2.2.2.2.2.2.2.2.2.2.2.2.2.2.1 rfl).1
          have e27 : x 27 = .int .i64 ((bytesP q).length : Nat) := (hD.2.2.2.2.2.2.2.2.2.2.2.2.2.2.2.2.2.2.2.2.2.2.2.2.2.2.2.2.2.1 rfl).1
          have e28 : x 28 = .slice pL (bytesP q).length cap0 := (hD.2.2.2.2.2.2.2.2.2.2.2.2.2.2.2.2.2.2.2.2.2.2.2.2.2.2.2.2.2.2.1 rfl).1
          have e29 : x 29 = .string ⟨(bytesP q).toArray⟩ := (hD.2.2.2.2.2.2.2.2.2.2.2.2.2.2.2.2.2.2.2.2.2.2.2.2.2.2.2.2.2.2.2.1 rfl).1
          have e30 : x 30 = .bool true := (hD.2.2.2.2.2.2.2.2.2.2.2.2.2.2.2.2.2.2.2.2.2.2.2.2.2.2.2.2.2.2.2.2.1 rfl).1
          have e31 : x 31 = .bool true := (hD.2.2.2.2.2.2.2.2.2.2.2.2.2.2.2.2.2.2.2.2.2.2.2.2.2.2.2.2.2.2.2.2.2.1 rfl).1
          have e32 : x 32 = .bool true := (hD.2.2.2.2.2.2.2.2.2.2.2.2.2.2.2.2.2.2.2.2.2.2.2.2.2.2.2.2.2.2.2.2.2.2.1 rfl).1
          have e33 : x 33 = .bool true := (hD.2.2.2.2.2.2.2.2.2.2.2.2.2.2.2.2.2.2.2.2.2.2.2.2.2.2.2.2.2.2.2.2.2.2.2.1 rfl).1
          clear hD
          refine want_yes rfl ?_
          clear n20
          generalize vs.getD 8 undef = y8 at *
          exact leads_value (v := .bool true) (by go_simp) ⟨rfl, hC⟩
        trivial
      · intro xb V vs hl hC hx
        have e36 : xb 36 = .bool true := hx 36 (by simp)
        have HV := Lib.hid (D10_com hC)
        clear hx hC hl
        rw [e36]
        clear e36
        go_wp2_with fail
        go_ret
        exact ⟨rfl, HV.out.all⟩
    · have HTz := Lib.hid hT
      clear hT HQ HW HCR HCB
      go_upto_region 10 with fail
      refine wp_region_L (D10 (fun V => RB3 w w.heap.size m br g T b8 q V) (fun V => RAt V b10 90 g10 (B ++ [9], 0)) (fun V => RAt V b10 90 g10 ([9], 0)) [.agg (polC m), .bool true, .int .i64 0, .bool true, .int .i64 1] (bytesP q)) 5 [.val (.pointer (some ⟨b10, 0, none⟩)), .turn 0, .val (.agg (polC m)), .val (.bool true), .turn 1, .val (.pointer (some ⟨b10, 0, none⟩)), .turn 2, .val (.bool true), .val (.bool true), .turn 3, .val (.pointer (some ⟨b10, 0, none⟩)), .turn 4, .val (.bool true), .val (.bool true), .val (.bool true), .val (.pointer (some ⟨br, 0, none⟩)), .val (.int .i64 T.2), .val (.bool true), .val (.bool true), .val undef, .val undef, .val undef, .val undef, .val undef, .val undef, .val undef, .val undef, .val undef, .val undef, .val undef, .val undef, .val (.bool true), .val (.bool true), .val (.bool true), .val (.bool true), .val (.bool true), .val (.bool true)]
        (fun x => { tmps := #[.agg (polC p), .slice pL L.length cap0, .pointer (some ⟨w.heap.size, 0, none⟩), undef, x 36, .slice p5 B.length c5, .pointer (some ⟨br, 0, none⟩), .pointer (some ⟨bx, 0, none⟩), .pointer (some ⟨b8, 0, none⟩), .pointer (some ⟨b8 + 1, 0, none⟩), .pointer (some ⟨b10, 0, none⟩), .slice pL L.length cap0, .int .i64 (L.length : Int), .bool false, undef, .agg (polC p), .agg (polC m), .agg (polC m), .slice p5 B.length c5, .slice pL L.length cap0, .pointer (some ⟨br, 0, none⟩), .slice pL L.length cap0, .agg #[.slice pL L.length cap0, .int .i64 0, .int .i64 0], .pointer (some ⟨bx, 0, none⟩), .pointer (some ⟨br, 0, none⟩), .agg (polC q), .pointer (some ⟨bx, 0, none⟩), .agg (polC q), z28, z29, z30, z31, z32, z33, z34, z35, z36, z37, z38, z39, z40, z41, z42, z43, z44, z45, z46, z47, z48, z49, z50, z51, z52, z53, .bool false, .slice p5 B.length c5, .slice (some ⟨V7.heap.size, 0, none⟩) 1 1, .slice p9 (B.length + 1) c9, .pointer (some ⟨b10, 0, none⟩), x 0, x 1, x 2, x 3, x 4, x 5, x 6, x 7, x 8, x 9, x 10, x 11, x 12, x 13, x 14, x 15, x 16, x 17, x 18, x 19, x 20, x 21, x 22, x 23, x 24, x 25, x 26, x 27, x 28, x 29, x 30, x 31, x 32, x 33, x 34, x 35], defers := [] }) (fun i => ([undef, undef, undef, undef, undef, undef, undef, undef, undef, undef, undef, undef, undef, undef, undef, undef, undef, undef, undef, undef, undef, undef, undef, undef, undef, undef, undef, undef, undef, undef, undef, undef, undef, undef, undef, undef, .bool false] : List Value).getD i undef) (by kernel_rfl) rfl rfl (by kernel_rfl) (by kernel_rfl) (by kernel_rfl) (by kernel_rfl) (D10_new (HK11.out.step (Below.refl _ _).drew) (HR11.out.below (Below.refl _ _).drew (Nat.le_refl _))) ?_ ?_
      · refine ⟨ObL.of_val rfl (fun x v => rfl) (fun x V vs hC hD => ?_), ?_⟩
        · clear hD
          refine want_yes rfl ?_
          exact leads_value (v := .pointer (some ⟨b10, 0, none⟩)) (by go_simp) ⟨rfl, hC⟩
        refine ⟨ObL.of_turn rfl (fun x v => rfl) (fun x V vs hl hC hD => ?_), ?_⟩
        · have e0 : x 0 = .pointer (some ⟨b10, 0, none⟩) := (hD.1 rfl).1
          clear hD
          refine want_yes rfl ?_
          exact leads_enter2 (by go_simp) ((HRd.out V (D10_com hC).all (D10_zero hl hC)).mono fun e w'' ⟨he, hR⟩ => ⟨_, he, D10_next hl hC (HT3.out _ _ (D10_com hC) hR) hR.1 rfl⟩)
        refine ⟨ObL.of_val rfl (fun x v => rfl) (fun x V vs hC hD => ?_), ?_⟩
        · clear hD
          refine want_yes rfl ?_
          exact leads_value (exec_load_pol rfl rfl (D10_com hC).row) ⟨rfl, hC⟩
        refine ⟨ObL.of_val rfl (fun x v => rfl) (fun x V vs hC hD => ?_), ?_⟩
        · have e1 : x 1 = .agg (polC m) := ((hD.1 rfl).1).trans (D10_get (hD.1 rfl).2 rfl hC)
          have e2 : x 2 = .agg (polC m) := (hD.2.1 rfl).1
          clear hD
          refine want_yes rfl ?_
          exact leads_value (exec_eql_pol HMo.out rfl e1 e2) ⟨rfl, hC⟩
        refine ⟨ObL.of_turn rfl (fun x v => rfl) (fun x V vs hl hC hD => ?_), ?_⟩
        · have e3 : x 3 = .bool true := (hD.1 rfl).1
          have e1 : x 1 = .agg (polC m) := ((hD.2.1 rfl).1).trans (D10_get (hD.2.1 rfl).2 rfl hC)
          clear hD
          refine want_yes rfl ?_
          exact leads_value (v := .bool true) (by go_simp) (D10_next hl hC (D10_com hC) (D10_pos hl hC) rfl)
        refine ⟨ObL.of_val rfl (fun x v => rfl) (fun x V vs hC hD => ?_), ?_⟩
        · have e4 : x 4 = .bool true := ((hD.1 rfl).1).trans (D10_get (hD.1 rfl).2 rfl hC)
          clear hD
          refine want_yes (by simp [Region.wanted, yielded, e4]) ?_
          exact leads_value (v := .pointer (some ⟨b10, 0, none⟩)) (by go_simp) ⟨rfl, hC⟩
        refine ⟨ObL.of_turn rfl (fun x v => rfl) (fun x V vs hl hC hD => ?_), ?_⟩
        · have e5 : x 5 = .pointer (some ⟨b10, 0, none⟩) := (hD.1 rfl).1
          have e4 : x 4 = .bool true := ((hD.2.1 rfl).1).trans (D10_get (hD.2.1 rfl).2 rfl hC)
          clear hD
          refine want_yes (by simp [Region.wanted, yielded, e4]) ?_
          exact leads_enter2 (by go_simp) ((rderr_any b10 _ g10 ([9], 0) V (D10_pos hl hC)).mono fun e w'' ⟨he, hw⟩ => ⟨_, he, hw ▸ D10_next hl hC (D10_com hC) (D10_pos hl hC) rfl⟩)
        refine ⟨ObL.of_val rfl (fun x v => rfl) (fun x V vs hC hD => ?_), ?_⟩
        · have e6 : x 6 = .int .i64 0 := ((hD.1 rfl).1).trans (D10_get (hD.1 rfl).2 rfl hC)
          have e4 : x 4 = .bool true := ((hD.2.1 rfl).1).trans (D10_get (hD.2.1 rfl).2 rfl hC)
          clear hD
          refine want_yes (by simp [Region.wanted, yielded, e4]) ?_
          exact leads_value (v := .bool true) (by go_simp) ⟨rfl, hC⟩
        refine ⟨ObL.of_val rfl (fun x v => rfl) (fun x V vs hC hD => ?_), ?_⟩
        · have e4 : x 4 = .bool true := ((hD.1 rfl).1).trans (D10_get (hD.1 rfl).2 rfl hC)
          have e7 : x 7 = .bool true := (hD.2.1 rfl).1
          clear hD
          refine want_yes rfl ?_
          exact leads_value (v := .bool true) (by go_simp) ⟨rfl, hC⟩
        refine ⟨ObL.of_turn rfl (fun x v => rfl) (fun x V vs hl hC hD => ?_), ?_⟩
        · have e8 : x 8 = .bool true := (hD.1 rfl).1
          have e6 : x 6 = .int .i64 0 := ((hD.2.1 rfl).1).trans (D10_get (hD.2.1 rfl).2 rfl hC)
          clear hD
          refine want_yes rfl ?_
          exact leads_value (v := .bool true) (by go_simp) (D10_next hl hC (D10_com hC) (D10_pos hl hC) rfl)
        refine ⟨ObL.of_val rfl (fun x v => rfl) (fun x V vs hC hD => ?_), ?_⟩
        · have e9 : x 9 = .bool true := ((hD.1 rfl).1).trans (D10_get (hD.1 rfl).2 rfl hC)
          clear hD
          refine want_yes (by simp [Region.wanted, yielded, e9]) ?_
          exact leads_value (v := .pointer (some ⟨b10, 0, none⟩)) (by go_simp) ⟨rfl, hC⟩
        refine ⟨ObL.of_turn rfl (fun x v => rfl) (fun x V vs hl hC hD => ?_), ?_⟩
        · have e10 : x 10 = .pointer (some ⟨b10, 0, none⟩) := (hD.1 rfl).1
          have e9 : x 9 = .bool true := ((hD.2.1 rfl).1).trans (D10_get (hD.2.1 rfl).2 rfl hC)
          clear hD
          refine want_yes (by simp [Region.wanted, yielded, e9]) ?_
          exact leads_enter2 (by go_simp) ((rdleft_any b10 _ g10 ([9], 0) V (D10_pos hl hC)).mono fun e w'' ⟨he, hw⟩ => ⟨_, he, hw ▸ D10_next hl hC (D10_com hC) (D10_pos hl hC) rfl⟩)
        refine ⟨ObL.of_val rfl (fun x v => rfl) (fun x V vs hC hD => ?_), ?_⟩
        · have e11 : x 11 = .int .i64 1 := ((hD.1 rfl).1).trans (D10_get (hD.1 rfl).2 rfl hC)
          have e9 : x 9 = .bool true := ((hD.2.1 rfl).1).trans (D10_get (hD.2.1 rfl).2 rfl hC)
          clear hD
          refine want_yes (by simp [Region.wanted, yielded, e9]) ?_
          exact leads_value (v := .bool true) (by go_simp) ⟨rfl, hC⟩
        refine ⟨ObL.of_val rfl (fun x v => rfl) (fun x V vs hC hD => ?_), ?_⟩
        · have e9 : x 9 = .bool true := ((hD.1 rfl).1).trans (D10_get (hD.1 rfl).2 rfl hC)
          have e12 : x 12 = .bool true := (hD.2.1 rfl).1
          clear hD
          refine want_yes rfl ?_
          exact leads_value (v := .bool true) (by go_simp) ⟨rfl, hC⟩
        refine ⟨ObL.of_val rfl (fun x v => rfl) (fun x V vs hC hD => ?_), ?_⟩
        · have e13 : x 13 = .bool true := (hD.1 rfl).1
          have e11 : x 11 = .int .i64 1 := ((hD.2.1 rfl).1).trans (D10_get (hD.2.1 rfl).2 rfl hC)
          clear hD
          refine want_yes rfl ?_
          exact leads_value (v := .bool true) (by go_simp) ⟨rfl, hC⟩
        refine ⟨ObL.of_val rfl (fun x v => rfl) (fun x V vs hC hD => ?_), ?_⟩
        · have e14 : x 14 = .bool true := (hD.1 rfl).1
          clear hD
          refine want_yes (by simp [Region.wanted, yielded, e14]) ?_
          exact leads_value (v := .pointer (some ⟨br, 0, none⟩)) (by go_simp) ⟨rfl, hC⟩
        refine ⟨ObL.of_val rfl (fun x v => rfl) (fun x V vs hC hD => ?_), ?_⟩
        · have e15 : x 15 = .pointer (some ⟨br, 0, none⟩) := (hD.1 rfl).1
          have e14 : x 14 = .bool true := (hD.2.1 rfl).1
          clear hD
          refine want_yes (by simp [Region.wanted, yielded, e14]) ?_
          exact leads_enter2 (by go_simp) ((rderr_any br _ g T V (D10_com hC).rd).mono fun e w'' ⟨he, hw⟩ => ⟨_, he, rfl, hw ▸ hC⟩)
        refine ⟨ObL.of_val rfl (fun x v => rfl) (fun x V vs hC hD => ?_), ?_⟩
        · have e16 : x 16 = .int .i64 T.2 := (hD.1 rfl).1
          have e14 : x 14 = .bool true := (hD.2.1 rfl).1
          clear hD
          refine want_yes (by simp [Region.wanted, yielded, e14]) ?_
          exact leads_value (v := .bool true) (by go_simp; exact HTz.out) ⟨rfl, hC⟩
        refine ⟨ObL.of_val rfl (fun x v => rfl) (fun x V vs hC hD => ?_), ?_⟩
        · have e17 : x 17 = .bool true := (hD.1 rfl).1
          have e16 : x 16 = .int .i64 T.2 := (hD.2.1 rfl).1
          have e14 : x 14 = .bool true := (hD.2.2.1 rfl).1
          clear hD
          refine want_yes (by simp [Region.wanted, yielded, e14]) ?_
          exact leads_value (v := .bool true) (by go_simp) ⟨rfl, hC⟩
        refine ⟨ObL.of_val rfl (fun x v => rfl) (fun x V vs hC hD => ?_), ?_⟩
        · have e18 : x 18 = .bool true := (hD.1 rfl).1
          clear hD
          exact want_no (by simp [Region.wanted, yielded, e18]) rfl
        refine ⟨ObL.of_val rfl (fun x v => rfl) (fun x V vs hC hD => ?_), ?_⟩
        · have e19 : x 19 = undef := (hD.1 rfl).1
          have e18 : x 18 = .bool true := (hD.2.1 rfl).1
          clear hD
          exact want_no (by simp [Region.wanted, yielded, e18]) rfl
        refine ⟨ObL.of_val rfl (fun x v => rfl) (fun x V vs hC hD => ?_), ?_⟩
        · have e20 : x 20 = undef := (hD.1 rfl).1
          have e18 : x 18 = .bool true := (hD.2.1 rfl).1
          clear hD
          exact want_no (by simp [Region.wanted, yielded, e18]) rfl
        refine ⟨ObL.of_val rfl (fun x v => rfl) (fun x V vs hC hD => ?_), ?_⟩
        · have e18 : x 18 = .bool true := (hD.1 rfl).1
          clear hD
          exact want_no (by simp [Region.wanted, yielded, e18]) rfl
        refine ⟨ObL.of_val rfl (fun x v => rfl) (fun x V vs hC hD => ?_), ?_⟩
        · have e18 : x 18 = .bool true := (hD.1 rfl).1
          clear hD
          exact want_no (by simp [Region.wanted, yielded, e18]) rfl
        refine ⟨ObL.of_val rfl (fun x v => rfl) (fun x V vs hC hD => ?_), ?_⟩
        · have e23 : x 23 = undef := (hD.1 rfl).1
          have e18 : x 18 = .bool true := (hD.2.1 rfl).1
          clear hD
          exact want_no (by simp [Region.wanted, yielded, e18]) rfl
        refine ⟨ObL.of_val rfl (fun x v => rfl) (fun x V vs hC hD => ?_), ?_⟩
        · have e18 : x 18 = .bool true := (hD.1 rfl).1
          clear hD
          exact want_no (by simp [Region.wanted, yielded, e18]) rfl
        refine ⟨ObL.of_val rfl (fun x v => rfl) (fun x V vs hC hD => ?_), ?_⟩
        · have e25 : x 25 = undef := (hD.1 rfl).1
          have e20 : x 20 = undef := (hD.2.1 rfl).1
          have e18 : x 18 = .bool true := (hD.2.2.1 rfl).1
          clear hD
          exact want_no (by simp [Region.wanted, yielded, e18]) rfl
        refine ⟨ObL.of_val rfl (fun x v => rfl) (fun x V vs hC hD => ?_), ?_⟩
        · have e24 : x 24 = undef := (hD.1 rfl).1
          have e26 : x 26 = undef := (hD.2.1 rfl).1
          have e18 : x 18 = .bool true := (hD.2.2.1 rfl).1
          clear hD
          exact want_no (by simp [Region.wanted, yielded, e18]) rfl
        refine ⟨ObL.of_val rfl (fun x v => rfl) (fun x V vs hC hD => ?_), ?_⟩
        · have e22 : x 22 = undef := (hD.1 rfl).1
          have e27 : x 27 = undef := (hD.2.1 rfl).1
          have e18 : x 18 = .bool true := (hD.2.2.1 rfl).1
          clear hD
          exact want_no (by simp [Region.wanted, yielded, e18]) rfl
        refine ⟨ObL.of_val rfl (fun x v => rfl) (fun x V vs hC hD => ?_), ?_⟩
        · have e28 : x 28 = undef := (hD.1 rfl).1
          have e18 : x 18 = .bool true := (hD.2.1 rfl).1
          clear hD
          exact want_no (by simp [Region.wanted, yielded, e18]) rfl
        refine ⟨ObL.of_val rfl (fun x v => rfl) (fun x V vs hC hD => ?_), ?_⟩
        · have e21 : x 21 = undef := (hD.1 rfl).1
          have e29 : x 29 = undef := (hD.2.1 rfl).1
          have e18 : x 18 = .bool true := (hD.2.2.1 rfl).1
          clear hD
          exact want_no (by simp [Region.wanted, yielded, e18]) rfl
        refine ⟨ObL.of_val rfl (fun x v => rfl) (fun x V vs hC hD => ?_), ?_⟩
        · have e18 : x 18 = .bool true := (hD.1 rfl).1
          have e30 : x 30 = undef := (hD.2.1 rfl).1
          have e14 : x 14 = .bool true := (hD.2.2.1 rfl).1
          clear hD
          refine want_yes (by simp [Region.wanted, yielded, e14]) ?_
          exact leads_value (v := .bool true) (by go_simp) ⟨rfl, hC⟩
        refine ⟨ObL.of_val rfl (fun x v => rfl) (fun x V vs hC hD => ?_), ?_⟩
        · have e14 : x 14 = .bool true := (hD.1 rfl).1
          have e31 : x 31 = .bool true := (hD.2.1 rfl).1
          clear hD
          refine want_yes rfl ?_
          exact leads_value (v := .bool true) (by go_simp) ⟨rfl, hC⟩
        refine ⟨ObL.of_val rfl (fun x v => rfl) (fun x V vs hC hD => ?_), ?_⟩
        · have e32 : x 32 = .bool true := (hD.1 rfl).1
          have e26 : x 26 = undef := (hD.2.1 rfl).1
          clear hD
          refine want_yes rfl ?_
          exact leads_value (v := .bool true) (by go_simp) ⟨rfl, hC⟩
        refine ⟨ObL.of_val rfl (fun x v => rfl) (fun x V vs hC hD => ?_), ?_⟩
        · have e33 : x 33 = .bool true := (hD.1 rfl).1
          clear hD
          refine want_yes (by simp [Region.wanted, yielded, e33]) ?_
          exact leads_enter2 (by go_simp) ((HAl.out V (D10_com hC).all).mono fun e w'' ⟨he, hB⟩ => ⟨_, he, rfl, D10_step (fun h => RB3.step h hB) (fun h => RAt.below h hB (Nat.le_refl _)) (fun h => RAt.below h hB (Nat.le_refl _)) hB hC⟩)
        refine ⟨ObL.of_val rfl (fun x v => rfl) (fun x V vs hC hD => ?_), ?_⟩
        · have e33 : x 33 = .bool true := (hD.1 rfl).1
          have e34 : x 34 = .bool true := (hD.2.1 rfl).1
          clear hD
          refine want_yes rfl ?_
          exact leads_value (v := .bool true) (by go_simp) ⟨rfl, hC⟩
        refine ⟨ObL.of_val rfl (fun x v => rfl) (fun x V vs hC hD => ?_), ?_⟩
        · have e35 : x 35 = .bool true := (hD.1 rfl).1
          have e34 : x 34 = .bool true := (hD.2.1 rfl).1
          have e0 : x 0 = .pointer (some ⟨b10, 0, none⟩) := (hD.2.2.1 rfl).1
          have e1 : x 1 = .agg (polC m) := ((hD.2.2.2.1 rfl).1).trans (D10_get (hD.2.2.2.1 rfl).2 rfl hC)
          have e2 : x 2 = .agg (polC m) := (hD.2.2.2.2.1 rfl).1
          have e3 : x 3 = .bool true := (hD.2.2.2.2.2.1 rfl).1
          have e4 : x 4 = .bool true := ((hD.2.2.2.2.2.2.1 rfl).1).trans (D10_get (hD.2.2.2.2.2.2.1 rfl).2 rfl hC)
          have e5 : x 5 = .pointer (some ⟨b10, 0, none⟩) := (hD.2.2.2.2.2.2.2.1 rfl).1
          have e6 : x 6 = .int .i64 0 := ((hD.2.2.2.2.2.2.2.2.1 rfl).1).trans (D10_get (hD.2.2.2.2.2.2.2.2.1 rfl).2 rfl hC)
          have e7 : x 7 = .bool true := (hD.2.2.2.2.2.2.2.2.2.1 rfl).1
          have e8 : x 8 = .bool true := (hD.2.2.2.2.2.2.2.2.2.2.1 rfl).1
          have e9 : x 9 = .bool true := ((hD.2.2.2.2.2.2.2.2.2.2.2.1 rfl).1).trans (D10_get (hD.2.2.2.2.2.2.2.2.2.2.2.1 rfl).2 rfl hC)
          have e10 : x 10 = .pointer (some ⟨b10, 0, none⟩) := (hD.2.2.2.2.2.2.2.2.2.2.2.2.1 rfl).1
          have e11 : x 11 = .int .i64 1 := ((hD.2.2.2.2.2.2.2.2.2.2.2.2.2.1 rfl).1).trans (D10_get (hD.2.2.2.2.2.2.2.2.2.2.2.2.2.1 rfl).2 rfl hC)
          have e12 : x 12 = .bool true := (hD.2.2.2.2.2.2.2.2.2.2.2.2.2.2.1 rfl).1
          have e13 : x 13 = .bool true := (hD.2.2.2.2.2.2.2.2.2.2.2.2.2.2.2.1 rfl).1
          have e14 : x 14 = .bool true := (hD.2.2.2.2.2.2.2.2.2.2.2.2.2.2.2.2.1 rfl).1
          have e15 : x 15 = .pointer (some ⟨br, 0, none⟩) := (hD.2.2.2.2.2.2.2.2.2.2.2.2.2.2.2.2.2.1 rfl).1
          have e16 : x 16 = .int .i64 T.2 := (hD.2.2.2.2.2.2.2.2.2.2.2.2.2.2.2.2.2.2.1 rfl).1
          have e17 : x 17 = .bool true := (hD.2.2.2.2.2.2.2.2.2.2.2.2.2.2.2.2.2.2.2.1 rfl).1
          have e18 : x 18 = .bool true := (hD.2.2.2.2.2.2.2.2.2.2.2.2.2.2.2.2.2.2.2.2.1 rfl).1
          have e19 : x 19 = undef := (hD.2.2.2.2.2.2.2.2.2.2.2.2.2.2.2.2.2.2.2.2.2.1 rfl).1
          have e20 : x 20 = undef := (hD.2.2.2.2.2.2.2.2.2.2.2.2.2.2.2.2.2.2.2.2.2.2.1 rfl).1
          have e21 : x 21 = undef := (hD.2.2.2.2.2.2.2.2.2.2.2.2.2.2.2.2.2.2.2.2.2.2.2.1 rfl).1
          have e22 : x 22 = undef := (hD.2.2.2.2.2.2.2.2.2.2.2.2.2.2.2.2.2.2.2.2.2.2.2.2.1 rfl).1
          have e23 : x 23 = undef := (hD.2.2.2.2.2.2.2.2.2.2.2.2.2.2.2.2.2.2.2.2.2.2.2.2.2.1 rfl).1
          have e24 : x 24 = undef := (hD.2.2.2.2.2.2.2.2.2.2.2.2.2.2.2.2.2.2.2.2.2.2.2.2.2.2.1 rfl).1
          have e25 : x 25 = undef := (hD.2.2.2.2.2.2.2.2.2.2.2.2.2.2.2.2.2.2.2.2.2.2.2.2.2.2.2.1 rfl).1
          have e26 : x 26 = undef := (hD.2.2.2.2.2.2.2.2.2.2.2.2.2.2.2.2.2.2.2.2.2.2.2.2.2.2.2.2.1 rfl).1
          have e27 : x 27 = undef := (hD.2.2.2.2.2.2.2.2.2.2.2.2.2.2.2.2.2.2.2.2.2.2.2.2.2.2.2.2.2.1 rfl).1
          have e28 : x 28 = undef := (hD.2.2.2.2.2.2.2.2.2.2.2.2.2.2.2.2.2.2.2.2.2.2.2.2.2.2.2.2.2.2.1 rfl).1
          have e29 : x 29 = undef := (hD.2.2.2.2.2.2.2.2.2.2.2.2.2.2.2.2.2.2.2.2.2.2.2.2.2.2.2.2.2.2.2.1 rfl).1
          have e30 : x 30 = undef := (hD.2.2.2.2.2.2.2.2.2.2.2.2.2.2.2.2.2.2.2.2.2.2.2.2.2.2.2.2.2.2.2.2.1 rfl).1
          have e31 : x 31 = .bool true := (hD.2.2.2.2.2.2.2.2.2.2.2.2.2.2.2.2.2.2.2.2.2.2.2.2.2.2.2.2.2.2.2.2.2.1 rfl).1
          have e32 : x 32 = .bool true := (hD.2.2.2.2.2.2.2.2.2.2.2.2.2.2.2.2.2.2.2.2.2.2.2.2.2.2.2.2.2.2.2.2.2.2.1 rfl).1
          have e33 : x 33 = .bool true := (hD.2.2.2.2.2.2.2.2.2.2.2.2.2.2.2.2.2.2.2.2.2.2.2.2.2.2.2.2.2.2.2.2.2.2.2.1 rfl).1
          clear hD
          refine want_yes rfl ?_
          exact leads_value (v := .bool true) (by go_simp) ⟨rfl, hC⟩
        trivial
      · intro xb V vs hl hC hx
        have e36 : xb 36 = .bool true := hx 36 (by simp)
        have HV := Lib.hid (D10_com hC)
        clear hx hC hl
        rw [e36]
        clear e36
        go_wp2_with fail
        go_ret
        exact ⟨rfl, HV.out.all⟩
set_option maxRecDepth 100000 in
set_option maxHeartbeats 1600000 in
theorem pbytes_far (hA : PAliveC) (p : Pol) (pL : Option Addr) (n0 cap0 : Nat) (w : World) (hT : TabOk w) (hm : n0 ≤ 9223372036854775807) (hL : 400 < n0) :
    Calls Tryd.prog 5 #[.agg (polC p), .slice pL n0 cap0] w fun e w' => e = .returned (.bool true) ∧ Below w.heap.size w w' := by
  have HAl := Lib.hid (fun V (hV : Since w V) => hA V (hT.since hV))
  have HB0 := Lib.hid (belowNew w (.cells (polC p) 29))
  have dk : decide (400 < (n0 : Int)) = true := by simp; omega
  clear hA hT hm hL
  go_enter Tryd.func5, Tryd.ntmps5
  go_upto_region 1 with fail
  generalize w.alloc (.cells (polC p) 29) = w1 at *
  go_wp2_with fail
  refine (HAl.out _ HB0.out).mono ?_
  rintro e w2 ⟨rfl, hB2⟩
  have HB2 := Lib.hid (HB0.out.trans (hB2.mono HB0.out.size))
  clear hB2
  go_wp2_with fail
  go_ret
  exact ⟨rfl, HB2.out⟩
theorem pbytes_any (cB : PBytesC) (cR : PReadC) (hA : PAliveC) (p : Pol) (pL : Option Addr) (n0 cap0 : Nat) (L : List UInt8) (w : World) (hT : TabOk w) (hp : PolOk p) (hb0 : BsAt w pL n0 cap0 L) :
    Calls Tryd.prog 5 #[.agg (polC p), .slice pL n0 cap0] w fun e w' => e = .returned (.bool true) ∧ Below w.heap.size w w' := by
  have h1 := hb0.same
  by_cases hL : L.length ≤ 400
  · exact pbytes_near cB cR hA p pL n0 cap0 L w hT hp hb0 hL
  · exact pbytes_far hA p pL n0 cap0 w hT (by have := hb0.le; have := hb0.small; unfold maxLen at this; omega) (by omega)
end Go.Proofs.YtoieodlpoglmfaaDoor

/-! PolAl -/
namespace Go.Proofs.YtoieodlpoglmfaaDoor
open Go.RowKit

/-- The first policy, with a third role that acts for role 0 .. -/
def askP : Pol := ⟨3, fun r => if r = 1 then 4 else 0, fun r => if r = 0 then 65535 else 0, fun r => if r = 1 then 1 else 0, fun _ => 0, 65535⟩
/-- .. and one that may not be. -/
def badP : Pol := ⟨2, fun _ => 0, fun _ => 0, fun r => if r = 1 then 2 else 0, fun _ => 0, 0⟩
theorem askP_ok : PolOk askP := by
  refine ⟨by decide, by decide, fun r _ => ?_, fun r _ => ?_, fun r _ => ?_, fun r _ => ?_⟩
  · show (if r = 1 then 4 else 0) < 65536; split <;> decide
  · show (if r = 0 then 65535 else 0) < 65536; split <;> decide
  · show (if r = 1 then 1 else 0) < 65536; split <;> decide
  · show (0 : Nat) < 256; decide
theorem badP_ok : PolOk badP := by
  refine ⟨by decide, by decide, fun r _ => ?_, fun r _ => ?_, fun r _ => ?_, fun r _ => ?_⟩
  · show (0 : Nat) < 65536; decide
  · show (0 : Nat) < 65536; decide
  · show (if r = 1 then 2 else 0) < 65536; split <;> decide
  · show (0 : Nat) < 256; decide
theorem fine_first : fineP firstP = true := by decide +kernel
theorem fine_ask : fineP askP = true := by decide +kernel
theorem fine_bad : fineP badP = false := by decide +kernel
theorem caps_of {p : Pol} {a : Int} {x y d c : Nat} (ha : ¬ (a < 0 ∨ 15 < a)) (h : downN p.acts (withN 0 a.toNat) (seenN p x y) = d) (hc : setG (fun t => p.active.testBit t && decide (p.owner t < 16) && hasB d (p.owner t : Int)) 16 = c) : capsN p a x y = c := by
  rw [← hc]
  unfold capsN
  congr 1
  funext t
  unfold capB actsB
  rw [if_neg ha, h]
theorem acts_of {p : Pol} {a b : Int} {x y d : Nat} {r : Bool} (ha : ¬ (a < 0 ∨ 15 < a)) (h : downN p.acts (withN 0 a.toNat) (seenN p x y) = d) (hc : hasB d b = r) : actsB p a b x y = r := by
  unfold actsB
  rw [if_neg ha, h, hc]
theorem caps1 : capsN firstP 0 0 65535 = 65535 := caps_of (d := 1) (by decide) (down_two (by decide +kernel) (by decide +kernel)) (by decide +kernel)
theorem caps2 : capsN firstP 1 65535 0 = 0 := caps_of (d := 0) (by decide) (down_two (by decide +kernel) (by decide +kernel)) (by decide +kernel)
theorem caps3 : capsN askP 1 0 65535 = 0 := caps_of (d := 0) (by decide) (down_two (by decide +kernel) (by decide +kernel)) (by decide +kernel)
theorem caps4 : capsN askP 1 4 0 = 65535 := caps_of (d := 3) (by decide) (down_two (by decide +kernel) (by decide +kernel)) (by decide +kernel)
theorem acts1 : actsB askP 1 0 65535 0 = true := acts_of (d := 3) (by decide) (down_two (by decide +kernel) (by decide +kernel)) (by decide +kernel)
theorem acts2 : actsB askP 0 1 65535 0 = false := acts_of (d := 1) (by decide) (down_two (by decide +kernel) (by decide +kernel)) (by decide +kernel)
theorem seen1 : seenN askP 0 0 = 1 := by decide +kernel
theorem owned1 : ownedN askP 1 = 65535 := by decide +kernel
theorem ask_row : ((((polC firstP).setIfInBounds 0 (.int .u16 3)).setIfInBounds 3 (.int .u16 4)).setIfInBounds 4 (.int .u16 0)).setIfInBounds 34 (.int .u16 1) = polC askP := by kernel_rfl
theorem ask_bytes : (bytesP askP).length ≤ 1000 := by have := bytO_le askP 16; unfold bytesP; omega
/-- The three policies and the Reader. -/
structure ALW (w : World) (b1 b2 b4 br g : Nat) (V : World) : Prop where
  all : Below w.heap.size w V
  r1 : PRow V b1 firstP
  r2 : PRow V b2 askP
  r4 : PRow V b4 askP
  rd : RAt V br 90 g ([], 0)
theorem ALW.step {w : World} {b1 b2 b4 br g : Nat} {V V' : World} (h : ALW w b1 b2 b4 br g V) (hB : Below V.heap.size V V') : ALW w b1 b2 b4 br g V' :=
  ⟨h.all.trans (hB.mono h.all.size), h.r1.step hB, h.r2.step hB, h.r4.step hB, h.rd.below hB (Nat.le_refl _)⟩
theorem exec_bad {o : Oper} {a : Act} {w : World} {x : Operand} (ho : o.op = .build 29 #[(0, .const (.int .u16 2)), (2, x)])
    (hx : a.eval x = .agg #[.int .u16 0, .int .u16 2, .int .u16 0, .int .u16 0, .int .u16 0, .int .u16 0, .int .u16 0, .int .u16 0, .int .u16 0, .int .u16 0, .int .u16 0, .int .u16 0, .int .u16 0, .int .u16 0, .int .u16 0, .int .u16 0]) :
    (execOp a.eval o).run Tryd.prog w = .ok (.value (.agg (polC badP))) w := by
  unfold execOp
  simp only [ho, List.map_toArray, List.map_cons, List.map_nil, hx]
  kernel_rfl
def PFineNoC : Prop := ∀ (w : World), TabOk w → Calls Tryd.prog 8 #[.agg (polC badP)] w fun e w' => e = .returned (.bool false) ∧ Below w.heap.size w w'
theorem PFineC.no (h : PFineC) : PFineNoC := fun w hT => by
  have h1 := h badP w hT badP_ok
  rw [fine_bad] at h1
  exact h1
set_option maxRecDepth 100000 in
set_option maxHeartbeats 1600000 in
theorem palive_any (cF : PFineYC) (cN : PFineNoC) (cI : PFirstC) (cS : PSeenC) (cA : PActsC) (cC : PCapsC) (cO : POwnedC) (cB : PBytesC) (cR : PReadYC) : PAliveC := by
  intro w hT
  have HF1 := Lib.hid (fun V (hV : Since w V) => (show Calls Tryd.prog 8 #[.agg (polC firstP)] V fun e w' => e = .returned (.bool true) ∧ Below V.heap.size V w' from by
    exact cF firstP V (hT.since hV) firstP_ok fine_first))
  have HF2 := Lib.hid (fun V (hV : Since w V) => (show Calls Tryd.prog 8 #[.agg (polC badP)] V fun e w' => e = .returned (.bool false) ∧ Below V.heap.size V w' from by
    exact cN V (hT.since hV)))
  have HC1 := Lib.hid (fun V (hV : Since w V) => (show Calls Tryd.prog 17 #[.agg (polC firstP), .int .i64 0, .agg #[.int .u16 0, .int .u16 65535]] V fun e w' => e = .returned (.int .u16 65535) ∧ Below V.heap.size V w' from by
    have h := cC firstP 0 0 65535 V (hT.since hV) firstP_ok fine_first (by decide) (by decide) (by decide) (by decide)
    rw [caps1] at h
    exact h))
  have HC2 := Lib.hid (fun V (hV : Since w V) => (show Calls Tryd.prog 17 #[.agg (polC firstP), .int .i64 1, .agg #[.int .u16 65535, .int .u16 0]] V fun e w' => e = .returned (.int .u16 0) ∧ Below V.heap.size V w' from by
    have h := cC firstP 1 65535 0 V (hT.since hV) firstP_ok fine_first (by decide) (by decide) (by decide) (by decide)
    rw [caps2] at h
    exact h))
  have HC3 := Lib.hid (fun V (hV : Since w V) => (show Calls Tryd.prog 17 #[.agg (polC askP), .int .i64 1, .agg #[.int .u16 0, .int .u16 65535]] V fun e w' => e = .returned (.int .u16 0) ∧ Below V.heap.size V w' from by
    have h := cC askP 1 0 65535 V (hT.since hV) askP_ok fine_ask (by decide) (by decide) (by decide) (by decide)
    rw [caps3] at h
    exact h))
  have HC4 := Lib.hid (fun V (hV : Since w V) => (show Calls Tryd.prog 17 #[.agg (polC askP), .int .i64 1, .agg #[.int .u16 4, .int .u16 0]] V fun e w' => e = .returned (.int .u16 65535) ∧ Below V.heap.size V w' from by
    have h := cC askP 1 4 0 V (hT.since hV) askP_ok fine_ask (by decide) (by decide) (by decide) (by decide)
    rw [caps4] at h
    exact h))
  have HS1 := Lib.hid (fun V (hV : Since w V) => (show Calls Tryd.prog 13 #[.agg (polC askP), .agg #[.int .u16 0, .int .u16 0]] V fun e w' => e = .returned (.int .u16 1) ∧ Below V.heap.size V w' from by
    have h := cS askP 0 0 V askP_ok fine_ask (by decide) (by decide)
    rw [seen1] at h
    exact h))
  have HA1 := Lib.hid (fun V (hV : Since w V) => (show Calls Tryd.prog 15 #[.agg (polC askP), .int .i64 1, .int .i64 0, .agg #[.int .u16 65535, .int .u16 0]] V fun e w' => e = .returned (.bool true) ∧ Below V.heap.size V w' from by
    have h := cA askP 1 0 65535 0 V (hT.since hV) askP_ok fine_ask (by decide) (by decide) (by decide) (by decide) (by decide) (by decide)
    rw [acts1] at h
    exact h))
  have HA2 := Lib.hid (fun V (hV : Since w V) => (show Calls Tryd.prog 15 #[.agg (polC askP), .int .i64 0, .int .i64 1, .agg #[.int .u16 65535, .int .u16 0]] V fun e w' => e = .returned (.bool false) ∧ Below V.heap.size V w' from by
    have h := cA askP 0 1 65535 0 V (hT.since hV) askP_ok fine_ask (by decide) (by decide) (by decide) (by decide) (by decide) (by decide)
    rw [acts2] at h
    exact h))
  have HO1 := Lib.hid (fun V (hV : Since w V) => (show Calls Tryd.prog 19 #[.agg (polC askP), .int .u16 1] V fun e w' => e = .returned (.int .u16 65535) ∧ Below V.heap.size V w' from by
    have h := cO askP 1 V askP_ok fine_ask (by decide)
    rw [owned1] at h
    exact h))
  have hrw := rd_wr askP_ok fine_ask []
  rw [List.append_nil] at hrw
  have HW := Lib.hid hrw
  have hfr : fineP (rdT (bytesP askP, 0) 16).1 = true := by
    have h1 := hrw.1
    unfold rdPo at h1
    rw [if_pos (by rw [hrw.2])] at h1
    rw [fine_cells h1]
    exact fine_ask
  have HFr := Lib.hid hfr
  clear hfr
  have HI := Lib.hid cI
  have HB := Lib.hid (fun V => cB askP V askP_ok fine_ask)
  have HCR := Lib.hid (fun b t g s V (hV : Since w V) (hf : fineP (rdT s 16).1 = true) => cR b t g s V (hT.since hV) hf)
  clear cF cN cI cS cA cC cO cB cR hrw hT
  go_enter Tryd.func21, Tryd.ntmps21
  go_wp2_with fail
  refine (HI.out _).mono ?_
  rintro e w1 ⟨rfl, hB1⟩
  have hz := PRow.new w1 zeroP
  go_upto_region 2 with (first
    | (refine wpList_store_arr rfl rfl _ _ _ rfl rfl rfl hz (infoPol _) (by rw [polC_size, polC_size]) (polC_one _) ?_; intro w2 hw2))
  have hrow : PRow w2 w1.heap.size firstP := hw2.blk
  have HB2 := Lib.hid ((hB1.trans ((belowNew w1 _).mono hB1.size)).trans (hw2.below (by have := hB1.size; simp; omega) hB1.size))
  have HL2 := Lib.hid (And.intro hB1.size hrow.lt)
  clear hw2 hz hB1
  have hz := PRow.new w2 zeroP
  go_upto_region 3 with (first
    | (refine wpList_load_arr rfl _ _ rfl rfl hrow Tryd.underlying29 rfl (infoPol _) ?_)
    | (refine wpList_store_arr rfl rfl _ _ _ rfl rfl rfl hz (infoPol _) (by rw [polC_size, polC_size]) (polC_one _) ?_; intro w3 hw3))
  have hQ : PRow w3 w2.heap.size firstP := hw3.blk
  have hP : PRow w3 w1.heap.size firstP := hw3.chg.kept (hrow.alloc _) (by have := HL2.out; show ¬ _ = _; omega)
  have hB3 := (HB2.out.trans ((belowNew w2 _).mono HB2.out.size)).trans (hw3.below (by have := HB2.out.size; simp; omega) HB2.out.size)
  have hl2 := HL2.out
  have hs2 := HB2.out.size
  clear hw3 hrow hz HB2 HL2
  generalize hb1 : w1.heap.size = b1 at *
  generalize hb2 : w2.heap.size = b2 at *
  clear hb1 hb2
  have k0 := Blk.cell hQ 0
  have f0 := Blk.free hQ 0
  have f3 := Blk.free hQ 3
  have f4 := Blk.free hQ 4
  have f34 := Blk.free hQ 34
  have k3 : w3.cell? ⟨b2, 3, none⟩ = some (.int .u16 0) := Blk.cell hQ 3
  have k4 : w3.cell? ⟨b2, 4, none⟩ = some (.int .u16 0) := Blk.cell hQ 4
  have k34 : w3.cell? ⟨b2, 34, none⟩ = some (.int .u16 0) := Blk.cell hQ 34
  have k0 : w3.cell? ⟨b2, 0, none⟩ = some (.int .u16 1) := k0
  have hS := Blk.set (Blk.set (Blk.set (Blk.set hQ 0 (.int .u16 3)) 3 (.int .u16 4)) 4 (.int .u16 0)) 34 (.int .u16 1)
  have HS := Lib.hid (show PRow _ b2 askP from hS.trans (congrArg (fun c => some (Obj.cells c 29 (0, 0))) ask_row))
  have HP := Lib.hid (Blk.set_other (Blk.set_other (Blk.set_other (Blk.set_other hP (a := ⟨b2, 0, none⟩) (by show ¬ b2 = b1; omega) (.int .u16 3)) (a := ⟨b2, 3, none⟩) (by show ¬ b2 = b1; omega) (.int .u16 4)) (a := ⟨b2, 4, none⟩) (by show ¬ b2 = b1; omega) (.int .u16 0)) (a := ⟨b2, 34, none⟩) (by show ¬ b2 = b1; omega) (.int .u16 1))
  have HBw := Lib.hid ((((hB3.setCell (p := ⟨b2, 0, none⟩) hs2 (.int .u16 3)).setCell (p := ⟨b2, 3, none⟩) hs2 (.int .u16 4)).setCell (p := ⟨b2, 4, none⟩) hs2 (.int .u16 0)).setCell (p := ⟨b2, 34, none⟩) hs2 (.int .u16 1))
  clear hS hP hQ hB3 hl2 hs2
  go_upto_region 6 with fail
  clear k0 k3 k4 k34 f0 f3 f4 f34
  generalize (((w3.setCell _ _).setCell _ _).setCell _ _).setCell _ _ = w4 at *
  have hrow := HS.out
  go_wp2_with (refine wpList_load_arr rfl _ _ rfl rfl hrow Tryd.underlying29 rfl (infoPol _) ?_)
  refine (HB.out _).mono ?_
  rintro e w5 ⟨v5, rfl, ho5, hB5⟩
  obtain ⟨p5, c5, rfl, hb5⟩ := BsAt.ofRow ho5
  have hS5 := HS.out.step hB5
  have hP5 := PRow.step HP.out hB5
  have hB5w := HBw.out.trans (hB5.mono HBw.out.size)
  clear hrow ho5 hB5 HS HP HBw
  go_wp2_with fail
  refine (newRd2_any _ _ _ _ _ hb5 (by have := ask_bytes; omega) (by have := hS5.lt; omega)).mono ?_
  rintro e w6 ⟨br, g, rfl, hbr, hg1, ⟨-, hg2⟩, hr6, hB6⟩
  have hS6 := hS5.step hB6
  have hP6 := hP5.step hB6
  have hB6w := hB5w.trans (hB6.mono hB5w.size)
  have HN := Lib.hid (show g ≠ br ∧ b1 ≠ br ∧ b2 ≠ br ∧ w.heap.size ≤ br ∧ g < w6.heap.size from ⟨hg1, by have := hP5.lt; omega, by have := hS5.lt; omega, by have := hB5w.size; omega, hg2⟩)
  have HX := Lib.hid (And.intro hS6 (And.intro hP6 (And.intro hB6w hr6)))
  clear hS5 hP5 hB5w hS6 hP6 hB6w hr6 hB6 hg1 hg2 hbr hb5
  go_wp2_with fail
  refine (HCR.out br _ g _ _ HX.out.2.2.1 HFr.out HX.out.2.2.2 HN.out.1 (by have := ask_bytes; show (bytesP askP).length ≤ _; omega) (fun h => absurd rfl h)).mono ?_
  rw [HW.out.1, HW.out.2]
  rintro e w7 ⟨rfl, hR7⟩
  have hS7 : PRow w7 b2 askP := hR7.2.kept HX.out.1 HN.out.2.2.1
  have hP7 : PRow w7 b1 firstP := hR7.2.kept HX.out.2.1 HN.out.2.1
  have hB7 := HX.out.2.2.1.trans (hR7.2.below HX.out.2.2.1.size fun _ hk => hk ▸ HN.out.2.2.2.1)
  have hr7 := hR7.1
  have hg7 := Nat.lt_of_lt_of_le HN.out.2.2.2.2 hR7.2.size
  have hbr7 : br < w7.heap.size := by
    obtain ⟨_, _, _, h1, -⟩ := hr7
    exact h1.lt
  clear HX HN HCR HB HI hR7 HW HFr
  have hz := PRow.new w7 zeroP
  go_upto_region 8 with (first
    | (refine wpList_store_arr rfl rfl _ _ _ rfl rfl rfl hz (infoPol _) (by rw [polC_size, polC_size]) (polC_one _) ?_; intro w8 hw8))
  have HA := Lib.hid (show ALW w b1 b2 w7.heap.size br g w8 from
    ⟨(hB7.trans ((belowNew w7 _).mono hB7.size)).trans (hw8.below (by have := hB7.size; simp; omega) hB7.size), hw8.chg.kept (hP7.alloc _) (by have := hP7.lt; show ¬ _ = _; omega), hw8.chg.kept (hS7.alloc _) (by have := hS7.lt; show ¬ _ = _; omega), hw8.blk,
     (hr7.below (belowNew w7 (.cells (polC zeroP) 29)) (Nat.le_refl _)).kept hw8.chg (show ¬ br = _ by omega) (show ¬ g = _ by omega)⟩)
  clear hw8 hz hg7 hbr7 hB7 hr7 hS7 hP7
  generalize w7.heap.size = b4 at *
  simp only [List.append_eq, List.cons_append, List.nil_append]
  refine wp_region_S (fun _ V => ALW w b1 b2 b4 br g V) 0 [.val (.agg (polC firstP)), .val (.bool true), .val (.bool true), .val (.agg (polC firstP)), .val (.agg #[.int .u16 0, .int .u16 65535]), .val (.int .u16 65535), .val (.bool true), .val (.bool true), .val (.bool true), .val (.agg (polC firstP)), .val (.agg #[.int .u16 65535, .int .u16 0]), .val (.int .u16 0), .val (.bool true), .val (.bool true), .val (.bool true), .val (.agg (polC askP)), .val (.agg #[.int .u16 0, .int .u16 65535]), .val (.int .u16 0), .val (.bool true), .val (.bool true), .val (.bool true), .val (.agg (polC askP)), .val (.agg #[.int .u16 4, .int .u16 0]), .val (.int .u16 65535), .val (.bool true), .val (.bool true), .val (.bool true), .val (.agg (polC askP)), .val (.agg #[.int .u16 0, .int .u16 0]), .val (.int .u16 1), .val (.bool true), .val (.bool true), .val (.bool true), .val (.agg (polC askP)), .val (.agg #[.int .u16 65535, .int .u16 0]), .val (.bool true), .val (.bool true), .val (.bool true), .val (.agg (polC askP)), .val (.agg #[.int .u16 65535, .int .u16 0]), .val (.bool false), .val (.bool true), .val (.bool true), .val (.bool true), .val (.agg (polC askP)), .val (.int .u16 65535), .val (.bool true), .val (.bool true), .val (.bool true), .val (.agg (polC askP)), .val (.agg (polC askP)), .val (.bool true), .val (.bool true), .val (.bool true), .val (.pointer (some ⟨br, 0, none⟩)), .val (.int .i64 0), .val (.bool true), .val (.bool true), .val (.bool true), .val (.agg #[.int .u16 0, .int .u16 2, .int .u16 0, .int .u16 0, .int .u16 0, .int .u16 0, .int .u16 0, .int .u16 0, .int .u16 0, .int .u16 0, .int .u16 0, .int .u16 0, .int .u16 0, .int .u16 0, .int .u16 0, .int .u16 0]), .val (.agg (polC badP)), .val (.bool false), .val (.bool true), .val (.bool true), .val (.bool true)]
    (fun x => { tmps := #[x 64, .pointer (some ⟨b1, 0, none⟩), .pointer (some ⟨b2, 0, none⟩), .pointer (some ⟨br, 0, none⟩), .pointer (some ⟨b4, 0, none⟩), .agg (polC firstP), .agg (polC firstP), .pointer (some ⟨b2, 0, none⟩), .agg #[.int .u16 4, .int .u16 0], .pointer (some ⟨b2, 1, none⟩), .pointer (some ⟨b2, 3, none⟩), .pointer (some ⟨b2, 33, none⟩), .pointer (some ⟨b2, 34, none⟩), .agg (polC askP), .slice p5 (bytesP askP).length c5, .pointer (some ⟨br, 0, none⟩), .pointer (some ⟨br, 0, none⟩), .agg (polC askP), x 0, x 1, x 2, x 3, x 4, x 5, x 6, x 7, x 8, x 9, x 10, x 11, x 12, x 13, x 14, x 15, x 16, x 17, x 18, x 19, x 20, x 21, x 22, x 23, x 24, x 25, x 26, x 27, x 28, x 29, x 30, x 31, x 32, x 33, x 34, x 35, x 36, x 37, x 38, x 39, x 40, x 41, x 42, x 43, x 44, x 45, x 46, x 47, x 48, x 49, x 50, x 51, x 52, x 53, x 54, x 55, x 56, x 57, x 58, x 59, x 60, x 61, x 62, x 63], defers := [] }) (fun i => ([undef, undef, undef, undef, undef, undef, undef, undef, undef, undef, undef, undef, undef, undef, undef, undef, undef, undef, undef, undef, undef, undef, undef, undef, undef, undef, undef, undef, undef, undef, undef, undef, undef, undef, undef, undef, undef, undef, undef, undef, undef, undef, undef, undef, undef, undef, undef, undef, undef, undef, undef, undef, undef, undef, undef, undef, undef, undef, undef, undef, undef, undef, undef, undef, .bool false] : List Value).getD i undef) (by kernel_rfl) rfl rfl (by kernel_rfl) (by kernel_rfl) (by kernel_rfl) (by kernel_rfl) (HA.out.step (Below.refl _ _).drew) ?_ ?_
  · refine ⟨ObS.of_val rfl (fun x v => rfl) (fun x V kst hC hD => ?_), ?_⟩
    · clear hD
      refine want_yes rfl ?_
      exact leads_value (exec_load_pol rfl rfl hC.r1) ⟨rfl, hC⟩
    refine ⟨ObS.of_val rfl (fun x v => rfl) (fun x V kst hC hD => ?_), ?_⟩
    · have e0 : x 0 = .agg (polC firstP) := hD.1 rfl
      clear hD
      refine want_yes rfl ?_
      exact leads_enter2 (by go_simp) ((HF1.out V hC.all).mono fun e w'' ⟨he, hB⟩ => ⟨_, he, rfl, hC.step hB⟩)
    refine ⟨ObS.of_val rfl (fun x v => rfl) (fun x V kst hC hD => ?_), ?_⟩
    · have e1 : x 1 = .bool true := hD.1 rfl
      clear hD
      refine want_yes rfl ?_
      exact leads_value (v := .bool true) (by go_simp) ⟨rfl, hC⟩
    refine ⟨ObS.of_val rfl (fun x v => rfl) (fun x V kst hC hD => ?_), ?_⟩
    · have e2 : x 2 = .bool true := hD.1 rfl
      clear hD
      refine want_yes (by simp [Region.wanted, yielded, e2]) ?_
      exact leads_value (exec_load_pol rfl rfl hC.r1) ⟨rfl, hC⟩
    refine ⟨ObS.of_val rfl (fun x v => rfl) (fun x V kst hC hD => ?_), ?_⟩
    · have e2 : x 2 = .bool true := hD.1 rfl
      clear hD
      refine want_yes (by simp [Region.wanted, yielded, e2]) ?_
      exact leads_enter2 (by go_simp) ((lBottom_any V).mono fun e w'' ⟨he, hB⟩ => ⟨_, he, rfl, hC.step hB⟩)
    refine ⟨ObS.of_val rfl (fun x v => rfl) (fun x V kst hC hD => ?_), ?_⟩
    · have e3 : x 3 = .agg (polC firstP) := hD.1 rfl
      have e4 : x 4 = .agg #[.int .u16 0, .int .u16 65535] := hD.2.1 rfl
      have e2 : x 2 = .bool true := hD.2.2.2.1 rfl
      clear hD
      refine want_yes (by simp [Region.wanted, yielded, e2]) ?_
      exact leads_enter2 (by go_simp) ((HC1.out V hC.all).mono fun e w'' ⟨he, hB⟩ => ⟨_, he, rfl, hC.step hB⟩)
    refine ⟨ObS.of_val rfl (fun x v => rfl) (fun x V kst hC hD => ?_), ?_⟩
    · have e5 : x 5 = .int .u16 65535 := hD.1 rfl
      have e2 : x 2 = .bool true := hD.2.1 rfl
      clear hD
      refine want_yes (by simp [Region.wanted, yielded, e2]) ?_
      exact leads_value (v := .bool true) (by go_simp) ⟨rfl, hC⟩
    refine ⟨ObS.of_val rfl (fun x v => rfl) (fun x V kst hC hD => ?_), ?_⟩
    · have e2 : x 2 = .bool true := hD.1 rfl
      have e6 : x 6 = .bool true := hD.2.1 rfl
      clear hD
      refine want_yes rfl ?_
      exact leads_value (v := .bool true) (by go_simp) ⟨rfl, hC⟩
    refine ⟨ObS.of_val rfl (fun x v => rfl) (fun x V kst hC hD => ?_), ?_⟩
    · have e7 : x 7 = .bool true := hD.1 rfl
      have e5 : x 5 = .int .u16 65535 := hD.2.1 rfl
      clear hD
      refine want_yes rfl ?_
      exact leads_value (v := .bool true) (by go_simp) ⟨rfl, hC⟩
    refine ⟨ObS.of_val rfl (fun x v => rfl) (fun x V kst hC hD => ?_), ?_⟩
    · have e8 : x 8 = .bool true := hD.1 rfl
      clear hD
      refine want_yes (by simp [Region.wanted, yielded, e8]) ?_
      exact leads_value (exec_load_pol rfl rfl hC.r1) ⟨rfl, hC⟩
    refine ⟨ObS.of_val rfl (fun x v => rfl) (fun x V kst hC hD => ?_), ?_⟩
    · have e8 : x 8 = .bool true := hD.1 rfl
      clear hD
      refine want_yes (by simp [Region.wanted, yielded, e8]) ?_
      exact leads_enter2 (by go_simp) ((lTop_any V).mono fun e w'' ⟨he, hB⟩ => ⟨_, he, rfl, hC.step hB⟩)
    refine ⟨ObS.of_val rfl (fun x v => rfl) (fun x V kst hC hD => ?_), ?_⟩
    · have e9 : x 9 = .agg (polC firstP) := hD.1 rfl
      have e10 : x 10 = .agg #[.int .u16 65535, .int .u16 0] := hD.2.1 rfl
      have e8 : x 8 = .bool true := hD.2.2.2.1 rfl
      clear hD
      refine want_yes (by simp [Region.wanted, yielded, e8]) ?_
      exact leads_enter2 (by go_simp) ((HC2.out V hC.all).mono fun e w'' ⟨he, hB⟩ => ⟨_, he, rfl, hC.step hB⟩)
    refine ⟨ObS.of_val rfl (fun x v => rfl) (fun x V kst hC hD => ?_), ?_⟩
    · have e11 : x 11 = .int .u16 0 := hD.1 rfl
      have e8 : x 8 = .bool true := hD.2.1 rfl
      clear hD
      refine want_yes (by simp [Region.wanted, yielded, e8]) ?_
      exact leads_value (v := .bool true) (by go_simp) ⟨rfl, hC⟩
    refine ⟨ObS.of_val rfl (fun x v => rfl) (fun x V kst hC hD => ?_), ?_⟩
    · have e8 : x 8 = .bool true := hD.1 rfl
      have e12 : x 12 = .bool true := hD.2.1 rfl
      clear hD
      refine want_yes rfl ?_
      exact leads_value (v := .bool true) (by go_simp) ⟨rfl, hC⟩
    refine ⟨ObS.of_val rfl (fun x v => rfl) (fun x V kst hC hD => ?_), ?_⟩
    · have e13 : x 13 = .bool true := hD.1 rfl
      have e11 : x 11 = .int .u16 0 := hD.2.1 rfl
      clear hD
      refine want_yes rfl ?_
      exact leads_value (v := .bool true) (by go_simp) ⟨rfl, hC⟩
    refine ⟨ObS.of_val rfl (fun x v => rfl) (fun x V kst hC hD => ?_), ?_⟩
    · have e14 : x 14 = .bool true := hD.1 rfl
      clear hD
      refine want_yes (by simp [Region.wanted, yielded, e14]) ?_
      exact leads_value (exec_load_pol rfl rfl hC.r2) ⟨rfl, hC⟩
    refine ⟨ObS.of_val rfl (fun x v => rfl) (fun x V kst hC hD => ?_), ?_⟩
    · have e14 : x 14 = .bool true := hD.1 rfl
      clear hD
      refine want_yes (by simp [Region.wanted, yielded, e14]) ?_
      exact leads_enter2 (by go_simp) ((lBottom_any V).mono fun e w'' ⟨he, hB⟩ => ⟨_, he, rfl, hC.step hB⟩)
    refine ⟨ObS.of_val rfl (fun x v => rfl) (fun x V kst hC hD => ?_), ?_⟩
    · have e15 : x 15 = .agg (polC askP) := hD.1 rfl
      have e16 : x 16 = .agg #[.int .u16 0, .int .u16 65535] := hD.2.1 rfl
      have e14 : x 14 = .bool true := hD.2.2.2.1 rfl
      clear hD
      refine want_yes (by simp [Region.wanted, yielded, e14]) ?_
      exact leads_enter2 (by go_simp) ((HC3.out V hC.all).mono fun e w'' ⟨he, hB⟩ => ⟨_, he, rfl, hC.step hB⟩)
    refine ⟨ObS.of_val rfl (fun x v => rfl) (fun x V kst hC hD => ?_), ?_⟩
    · have e17 : x 17 = .int .u16 0 := hD.1 rfl
      have e14 : x 14 = .bool true := hD.2.1 rfl
      clear hD
      refine want_yes (by simp [Region.wanted, yielded, e14]) ?_
      exact leads_value (v := .bool true) (by go_simp) ⟨rfl, hC⟩
    refine ⟨ObS.of_val rfl (fun x v => rfl) (fun x V kst hC hD => ?_), ?_⟩
    · have e14 : x 14 = .bool true := hD.1 rfl
      have e18 : x 18 = .bool true := hD.2.1 rfl
      clear hD
      refine want_yes rfl ?_
      exact leads_value (v := .bool true) (by go_simp) ⟨rfl, hC⟩
    refine ⟨ObS.of_val rfl (fun x v => rfl) (fun x V kst hC hD => ?_), ?_⟩
    · have e19 : x 19 = .bool true := hD.1 rfl
      have e17 : x 17 = .int .u16 0 := hD.2.1 rfl
      clear hD
      refine want_yes rfl ?_
      exact leads_value (v := .bool true) (by go_simp) ⟨rfl, hC⟩
    refine ⟨ObS.of_val rfl (fun x v => rfl) (fun x V kst hC hD => ?_), ?_⟩
    · have e20 : x 20 = .bool true := hD.1 rfl
      clear hD
      refine want_yes (by simp [Region.wanted, yielded, e20]) ?_
      exact leads_value (exec_load_pol rfl rfl hC.r2) ⟨rfl, hC⟩
    refine ⟨ObS.of_val rfl (fun x v => rfl) (fun x V kst hC hD => ?_), ?_⟩
    · have e20 : x 20 = .bool true := hD.1 rfl
      clear hD
      refine want_yes (by simp [Region.wanted, yielded, e20]) ?_
      exact leads_value (v := .agg #[.int .u16 4, .int .u16 0]) (by go_simp) ⟨rfl, hC⟩
    refine ⟨ObS.of_val rfl (fun x v => rfl) (fun x V kst hC hD => ?_), ?_⟩
    · have e21 : x 21 = .agg (polC askP) := hD.1 rfl
      have e22 : x 22 = .agg #[.int .u16 4, .int .u16 0] := hD.2.1 rfl
      have e20 : x 20 = .bool true := hD.2.2.1 rfl
      clear hD
      refine want_yes (by simp [Region.wanted, yielded, e20]) ?_
      exact leads_enter2 (by go_simp) ((HC4.out V hC.all).mono fun e w'' ⟨he, hB⟩ => ⟨_, he, rfl, hC.step hB⟩)
    refine ⟨ObS.of_val rfl (fun x v => rfl) (fun x V kst hC hD => ?_), ?_⟩
    · have e23 : x 23 = .int .u16 65535 := hD.1 rfl
      have e20 : x 20 = .bool true := hD.2.1 rfl
      clear hD
      refine want_yes (by simp [Region.wanted, yielded, e20]) ?_
      exact leads_value (v := .bool true) (by go_simp) ⟨rfl, hC⟩
    refine ⟨ObS.of_val rfl (fun x v => rfl) (fun x V kst hC hD => ?_), ?_⟩
    · have e20 : x 20 = .bool true := hD.1 rfl
      have e24 : x 24 = .bool true := hD.2.1 rfl
      clear hD
      refine want_yes rfl ?_
      exact leads_value (v := .bool true) (by go_simp) ⟨rfl, hC⟩
    refine ⟨ObS.of_val rfl (fun x v => rfl) (fun x V kst hC hD => ?_), ?_⟩
    · have e25 : x 25 = .bool true := hD.1 rfl
      have e23 : x 23 = .int .u16 65535 := hD.2.1 rfl
      clear hD
      refine want_yes rfl ?_
      exact leads_value (v := .bool true) (by go_simp) ⟨rfl, hC⟩
    refine ⟨ObS.of_val rfl (fun x v => rfl) (fun x V kst hC hD => ?_), ?_⟩
    · have e26 : x 26 = .bool true := hD.1 rfl
      clear hD
      refine want_yes (by simp [Region.wanted, yielded, e26]) ?_
      exact leads_value (exec_load_pol rfl rfl hC.r2) ⟨rfl, hC⟩
    refine ⟨ObS.of_val rfl (fun x v => rfl) (fun x V kst hC hD => ?_), ?_⟩
    · have e26 : x 26 = .bool true := hD.1 rfl
      clear hD
      refine want_yes (by simp [Region.wanted, yielded, e26]) ?_
      exact leads_value (v := .agg #[.int .u16 0, .int .u16 0]) (by go_simp) ⟨rfl, hC⟩
    refine ⟨ObS.of_val rfl (fun x v => rfl) (fun x V kst hC hD => ?_), ?_⟩
    · have e27 : x 27 = .agg (polC askP) := hD.1 rfl
      have e28 : x 28 = .agg #[.int .u16 0, .int .u16 0] := hD.2.1 rfl
      have e26 : x 26 = .bool true := hD.2.2.1 rfl
      clear hD
      refine want_yes (by simp [Region.wanted, yielded, e26]) ?_
      exact leads_enter2 (by go_simp) ((HS1.out V hC.all).mono fun e w'' ⟨he, hB⟩ => ⟨_, he, rfl, hC.step hB⟩)
    refine ⟨ObS.of_val rfl (fun x v => rfl) (fun x V kst hC hD => ?_), ?_⟩
    · have e29 : x 29 = .int .u16 1 := hD.1 rfl
      have e26 : x 26 = .bool true := hD.2.1 rfl
      clear hD
      refine want_yes (by simp [Region.wanted, yielded, e26]) ?_
      exact leads_value (v := .bool true) (by go_simp) ⟨rfl, hC⟩
    refine ⟨ObS.of_val rfl (fun x v => rfl) (fun x V kst hC hD => ?_), ?_⟩
    · have e26 : x 26 = .bool true := hD.1 rfl
      have e30 : x 30 = .bool true := hD.2.1 rfl
      clear hD
      refine want_yes rfl ?_
      exact leads_value (v := .bool true) (by go_simp) ⟨rfl, hC⟩
    refine ⟨ObS.of_val rfl (fun x v => rfl) (fun x V kst hC hD => ?_), ?_⟩
    · have e31 : x 31 = .bool true := hD.1 rfl
      have e29 : x 29 = .int .u16 1 := hD.2.1 rfl
      clear hD
      refine want_yes rfl ?_
      exact leads_value (v := .bool true) (by go_simp) ⟨rfl, hC⟩
    refine ⟨ObS.of_val rfl (fun x v => rfl) (fun x V kst hC hD => ?_), ?_⟩
    · have e32 : x 32 = .bool true := hD.1 rfl
      clear hD
      refine want_yes (by simp [Region.wanted, yielded, e32]) ?_
      exact leads_value (exec_load_pol rfl rfl hC.r2) ⟨rfl, hC⟩
    refine ⟨ObS.of_val rfl (fun x v => rfl) (fun x V kst hC hD => ?_), ?_⟩
    · have e32 : x 32 = .bool true := hD.1 rfl
      clear hD
      refine want_yes (by simp [Region.wanted, yielded, e32]) ?_
      exact leads_enter2 (by go_simp) ((lTop_any V).mono fun e w'' ⟨he, hB⟩ => ⟨_, he, rfl, hC.step hB⟩)
    refine ⟨ObS.of_val rfl (fun x v => rfl) (fun x V kst hC hD => ?_), ?_⟩
    · have e33 : x 33 = .agg (polC askP) := hD.1 rfl
      have e34 : x 34 = .agg #[.int .u16 65535, .int .u16 0] := hD.2.1 rfl
      have e32 : x 32 = .bool true := hD.2.2.2.1 rfl
      clear hD
      refine want_yes (by simp [Region.wanted, yielded, e32]) ?_
      exact leads_enter2 (by go_simp) ((HA1.out V hC.all).mono fun e w'' ⟨he, hB⟩ => ⟨_, he, rfl, hC.step hB⟩)
    refine ⟨ObS.of_val rfl (fun x v => rfl) (fun x V kst hC hD => ?_), ?_⟩
    · have e32 : x 32 = .bool true := hD.1 rfl
      have e35 : x 35 = .bool true := hD.2.1 rfl
      clear hD
      refine want_yes rfl ?_
      exact leads_value (v := .bool true) (by go_simp) ⟨rfl, hC⟩
    refine ⟨ObS.of_val rfl (fun x v => rfl) (fun x V kst hC hD => ?_), ?_⟩
    · have e36 : x 36 = .bool true := hD.1 rfl
      have e35 : x 35 = .bool true := hD.2.1 rfl
      clear hD
      refine want_yes rfl ?_
      exact leads_value (v := .bool true) (by go_simp) ⟨rfl, hC⟩
    refine ⟨ObS.of_val rfl (fun x v => rfl) (fun x V kst hC hD => ?_), ?_⟩
    · have e37 : x 37 = .bool true := hD.1 rfl
      clear hD
      refine want_yes (by simp [Region.wanted, yielded, e37]) ?_
      exact leads_value (exec_load_pol rfl rfl hC.r2) ⟨rfl, hC⟩
    refine ⟨ObS.of_val rfl (fun x v => rfl) (fun x V kst hC hD => ?_), ?_⟩
    · have e37 : x 37 = .bool true := hD.1 rfl
      clear hD
      refine want_yes (by simp [Region.wanted, yielded, e37]) ?_
      exact leads_enter2 (by go_simp) ((lTop_any V).mono fun e w'' ⟨he, hB⟩ => ⟨_, he, rfl, hC.step hB⟩)
    refine ⟨ObS.of_val rfl (fun x v => rfl) (fun x V kst hC hD => ?_), ?_⟩
    · have e38 : x 38 = .agg (polC askP) := hD.1 rfl
      have e39 : x 39 = .agg #[.int .u16 65535, .int .u16 0] := hD.2.1 rfl
      have e37 : x 37 = .bool true := hD.2.2.2.1 rfl
      clear hD
      refine want_yes (by simp [Region.wanted, yielded, e37]) ?_
      exact leads_enter2 (by go_simp) ((HA2.out V hC.all).mono fun e w'' ⟨he, hB⟩ => ⟨_, he, rfl, hC.step hB⟩)
    refine ⟨ObS.of_val rfl (fun x v => rfl) (fun x V kst hC hD => ?_), ?_⟩
    · have e40 : x 40 = .bool false := hD.1 rfl
      have e37 : x 37 = .bool true := hD.2.1 rfl
      clear hD
      refine want_yes (by simp [Region.wanted, yielded, e37]) ?_
      exact leads_value (v := .bool true) (by go_simp) ⟨rfl, hC⟩
    refine ⟨ObS.of_val rfl (fun x v => rfl) (fun x V kst hC hD => ?_), ?_⟩
    · have e37 : x 37 = .bool true := hD.1 rfl
      have e41 : x 41 = .bool true := hD.2.1 rfl
      clear hD
      refine want_yes rfl ?_
      exact leads_value (v := .bool true) (by go_simp) ⟨rfl, hC⟩
    refine ⟨ObS.of_val rfl (fun x v => rfl) (fun x V kst hC hD => ?_), ?_⟩
    · have e42 : x 42 = .bool true := hD.1 rfl
      have e40 : x 40 = .bool false := hD.2.1 rfl
      clear hD
      refine want_yes rfl ?_
      exact leads_value (v := .bool true) (by go_simp) ⟨rfl, hC⟩
    refine ⟨ObS.of_val rfl (fun x v => rfl) (fun x V kst hC hD => ?_), ?_⟩
    · have e43 : x 43 = .bool true := hD.1 rfl
      clear hD
      refine want_yes (by simp [Region.wanted, yielded, e43]) ?_
      exact leads_value (exec_load_pol rfl rfl hC.r2) ⟨rfl, hC⟩
    refine ⟨ObS.of_val rfl (fun x v => rfl) (fun x V kst hC hD => ?_), ?_⟩
    · have e44 : x 44 = .agg (polC askP) := hD.1 rfl
      have e43 : x 43 = .bool true := hD.2.1 rfl
      clear hD
      refine want_yes (by simp [Region.wanted, yielded, e43]) ?_
      exact leads_enter2 (by go_simp) ((HO1.out V hC.all).mono fun e w'' ⟨he, hB⟩ => ⟨_, he, rfl, hC.step hB⟩)
    refine ⟨ObS.of_val rfl (fun x v => rfl) (fun x V kst hC hD => ?_), ?_⟩
    · have e45 : x 45 = .int .u16 65535 := hD.1 rfl
      have e43 : x 43 = .bool true := hD.2.1 rfl
      clear hD
      refine want_yes (by simp [Region.wanted, yielded, e43]) ?_
      exact leads_value (v := .bool true) (by go_simp) ⟨rfl, hC⟩
    refine ⟨ObS.of_val rfl (fun x v => rfl) (fun x V kst hC hD => ?_), ?_⟩
    · have e43 : x 43 = .bool true := hD.1 rfl
      have e46 : x 46 = .bool true := hD.2.1 rfl
      clear hD
      refine want_yes rfl ?_
      exact leads_value (v := .bool true) (by go_simp) ⟨rfl, hC⟩
    refine ⟨ObS.of_val rfl (fun x v => rfl) (fun x V kst hC hD => ?_), ?_⟩
    · have e47 : x 47 = .bool true := hD.1 rfl
      have e45 : x 45 = .int .u16 65535 := hD.2.1 rfl
      clear hD
      refine want_yes rfl ?_
      exact leads_value (v := .bool true) (by go_simp) ⟨rfl, hC⟩
    refine ⟨ObS.of_val rfl (fun x v => rfl) (fun x V kst hC hD => ?_), ?_⟩
    · have e48 : x 48 = .bool true := hD.1 rfl
      clear hD
      refine want_yes (by simp [Region.wanted, yielded, e48]) ?_
      exact leads_value (exec_load_pol rfl rfl hC.r4) ⟨rfl, hC⟩
    refine ⟨ObS.of_val rfl (fun x v => rfl) (fun x V kst hC hD => ?_), ?_⟩
    · have e48 : x 48 = .bool true := hD.1 rfl
      clear hD
      refine want_yes (by simp [Region.wanted, yielded, e48]) ?_
      exact leads_value (exec_load_pol rfl rfl hC.r2) ⟨rfl, hC⟩
    refine ⟨ObS.of_val rfl (fun x v => rfl) (fun x V kst hC hD => ?_), ?_⟩
    · have e49 : x 49 = .agg (polC askP) := hD.1 rfl
      have e50 : x 50 = .agg (polC askP) := hD.2.1 rfl
      have e48 : x 48 = .bool true := hD.2.2.1 rfl
      clear hD
      refine want_yes (by simp [Region.wanted, yielded, e48]) ?_
      exact leads_value (exec_eql_pol askP_ok rfl e49 e50) ⟨rfl, hC⟩
    refine ⟨ObS.of_val rfl (fun x v => rfl) (fun x V kst hC hD => ?_), ?_⟩
    · have e48 : x 48 = .bool true := hD.1 rfl
      have e51 : x 51 = .bool true := hD.2.1 rfl
      clear hD
      refine want_yes rfl ?_
      exact leads_value (v := .bool true) (by go_simp) ⟨rfl, hC⟩
    refine ⟨ObS.of_val rfl (fun x v => rfl) (fun x V kst hC hD => ?_), ?_⟩
    · have e52 : x 52 = .bool true := hD.1 rfl
      have e48 : x 48 = .bool true := hD.2.1 rfl
      clear hD
      refine want_yes rfl ?_
      exact leads_value (v := .bool true) (by go_simp) ⟨rfl, hC⟩
    refine ⟨ObS.of_val rfl (fun x v => rfl) (fun x V kst hC hD => ?_), ?_⟩
    · have e53 : x 53 = .bool true := hD.1 rfl
      clear hD
      refine want_yes (by simp [Region.wanted, yielded, e53]) ?_
      exact leads_value (v := .pointer (some ⟨br, 0, none⟩)) (by go_simp) ⟨rfl, hC⟩
    refine ⟨ObS.of_val rfl (fun x v => rfl) (fun x V kst hC hD => ?_), ?_⟩
    · have e54 : x 54 = .pointer (some ⟨br, 0, none⟩) := hD.1 rfl
      have e53 : x 53 = .bool true := hD.2.1 rfl
      clear hD
      refine want_yes (by simp [Region.wanted, yielded, e53]) ?_
      exact leads_enter2 (by go_simp) ((rderr_any br _ g ([], 0) V hC.rd).mono fun e w'' ⟨he, hw⟩ => ⟨_, he, rfl, hw ▸ hC⟩)
    refine ⟨ObS.of_val rfl (fun x v => rfl) (fun x V kst hC hD => ?_), ?_⟩
    · have e55 : x 55 = .int .i64 0 := hD.1 rfl
      have e53 : x 53 = .bool true := hD.2.1 rfl
      clear hD
      refine want_yes (by simp [Region.wanted, yielded, e53]) ?_
      exact leads_value (v := .bool true) (by go_simp) ⟨rfl, hC⟩
    refine ⟨ObS.of_val rfl (fun x v => rfl) (fun x V kst hC hD => ?_), ?_⟩
    · have e53 : x 53 = .bool true := hD.1 rfl
      have e56 : x 56 = .bool true := hD.2.1 rfl
      clear hD
      refine want_yes rfl ?_
      exact leads_value (v := .bool true) (by go_simp) ⟨rfl, hC⟩
    refine ⟨ObS.of_val rfl (fun x v => rfl) (fun x V kst hC hD => ?_), ?_⟩
    · have e57 : x 57 = .bool true := hD.1 rfl
      have e55 : x 55 = .int .i64 0 := hD.2.1 rfl
      clear hD
      refine want_yes rfl ?_
      exact leads_value (v := .bool true) (by go_simp) ⟨rfl, hC⟩
    refine ⟨ObS.of_val rfl (fun x v => rfl) (fun x V kst hC hD => ?_), ?_⟩
    · have e58 : x 58 = .bool true := hD.1 rfl
      clear hD
      refine want_yes (by simp [Region.wanted, yielded, e58]) ?_
      exact leads_value (v := .agg #[.int .u16 0, .int .u16 2, .int .u16 0, .int .u16 0, .int .u16 0, .int .u16 0, .int .u16 0, .int .u16 0, .int .u16 0, .int .u16 0, .int .u16 0, .int .u16 0, .int .u16 0, .int .u16 0, .int .u16 0, .int .u16 0]) (by go_simp) ⟨rfl, hC⟩
    refine ⟨ObS.of_val rfl (fun x v => rfl) (fun x V kst hC hD => ?_), ?_⟩
    · have e59 : x 59 = .agg #[.int .u16 0, .int .u16 2, .int .u16 0, .int .u16 0, .int .u16 0, .int .u16 0, .int .u16 0, .int .u16 0, .int .u16 0, .int .u16 0, .int .u16 0, .int .u16 0, .int .u16 0, .int .u16 0, .int .u16 0, .int .u16 0] := hD.1 rfl
      have e58 : x 58 = .bool true := hD.2.1 rfl
      clear hD
      refine want_yes (by simp [Region.wanted, yielded, e58]) ?_
      exact leads_value (exec_bad rfl e59) ⟨rfl, hC⟩
    refine ⟨ObS.of_val rfl (fun x v => rfl) (fun x V kst hC hD => ?_), ?_⟩
    · have e60 : x 60 = .agg (polC badP) := hD.1 rfl
      have e58 : x 58 = .bool true := hD.2.1 rfl
      clear hD
      refine want_yes (by simp [Region.wanted, yielded, e58]) ?_
      exact leads_enter2 (by go_simp) ((HF2.out V hC.all).mono fun e w'' ⟨he, hB⟩ => ⟨_, he, rfl, hC.step hB⟩)
    refine ⟨ObS.of_val rfl (fun x v => rfl) (fun x V kst hC hD => ?_), ?_⟩
    · have e61 : x 61 = .bool false := hD.1 rfl
      have e58 : x 58 = .bool true := hD.2.1 rfl
      clear hD
      refine want_yes (by simp [Region.wanted, yielded, e58]) ?_
      exact leads_value (v := .bool true) (by go_simp) ⟨rfl, hC⟩
    refine ⟨ObS.of_val rfl (fun x v => rfl) (fun x V kst hC hD => ?_), ?_⟩
    · have e58 : x 58 = .bool true := hD.1 rfl
      have e62 : x 62 = .bool true := hD.2.1 rfl
      clear hD
      refine want_yes rfl ?_
      exact leads_value (v := .bool true) (by go_simp) ⟨rfl, hC⟩
    refine ⟨ObS.of_val rfl (fun x v => rfl) (fun x V kst hC hD => ?_), ?_⟩
    · have e63 : x 63 = .bool true := hD.1 rfl
      have e61 : x 61 = .bool false := hD.2.1 rfl
      have e0 : x 0 = .agg (polC firstP) := hD.2.2.1 rfl
      have e1 : x 1 = .bool true := hD.2.2.2.1 rfl
      have e2 : x 2 = .bool true := hD.2.2.2.2.1 rfl
      have e3 : x 3 = .agg (polC firstP) := hD.2.2.2.2.2.1 rfl
      have e4 : x 4 = .agg #[.int .u16 0, .int .u16 65535] := hD.2.2.2.2.2.2.1 rfl
      have e5 : x 5 = .int .u16 65535 := hD.2.2.2.2.2.2.2.1 rfl
      have e6 : x 6 = .bool true := hD.2.2.2.2.2.2.2.2.1 rfl
      have e7 : x 7 = .bool true := hD.2.2.2.2.2.2.2.2.2.1 rfl
      have e8 : x 8 = .bool true := hD.2.2.2.2.2.2.2.2.2.2.1 rfl
      have e9 : x 9 = .agg (polC firstP) := hD.2.2.2.2.2.2.2.2.2.2.2.1 rfl
      have e10 : x 10 = .agg #[.int .u16 65535, .int .u16 0] := hD.2.2.2.2.2.2.2.2.2.2.2.2.1 rfl
      have e11 : x 11 = .int .u16 0 := hD.2.2.2.2.2.2.2.2.2.2.2.2.2.1 rfl
      have e12 : x 12 = .bool true := hD.2.2.2.2.2.2.2.2.2.2.2.2.2.2.1 rfl
      have e13 : x 13 = .bool true := hD.2.2.2.2.2.2.2.2.2.2.2.2.2.2.2.1 rfl
      have e14 : x 14 = .bool true := hD.2.2.2.2.2.2.2.2.2.2.2.2.2.2.2.2.1 rfl
      have e15 : x 15 = .agg (polC askP) := hD.2.2.2.2.2.2.2.2.2.2.2.2.2.2.2.2.2.1 rfl
      have e16 : x 16 = .agg #[.int .u16 0, .int .u16 65535] := hD.2.2.2.2.2.2.2.2.2.2.2.2.2.2.2.2.2.2.1 rfl
      have e17 : x 17 = .int .u16 0 := hD.2.2.2.2.2.2.2.2.2.2.2.2.2.2.2.2.2.2.2.1 rfl
      have e18 : x 18 = .bool true := hD.2.2.2.2.2.2.2.2.2.2.2.2.2.2.2.2.2.2.2.2.1 rfl
      have e19 : x 19 = .bool true := hD.2.2.2.2.2.2.2.2.2.2.2.2.2.2.2.2.2.2.2.2.2.1 rfl
      have e20 : x 20 = .bool true := hD.2.2.2.2.2.2.2.2.2.2.2.2.2.2.2.2.2.2.2.2.2.2.1 rfl
      have e21 : x 21 = .agg (polC askP) := hD.2.2.2.2.2.2.2.2.2.2.2.2.2.2.2.2.2.2.2.2.2.2.2.1 rfl
      have e22 : x 22 = .agg #[.int .u16 4, .int .u16 0] := hD.2.2.2.2.2.2.2.2.2.2.2.2.2.2.2.2.2.2.2.2.2.2.2.2.1 rfl
      have e23 : x 23 = .int .u16 65535 := hD.2.2.2.2.2.2.2.2.2.2.2.2.2.2.2.2.2.2.2.2.2.2.2.2.2.1 rfl
      have e24 : x 24 = .bool true := hD.2.2.2.2.2.2.2.2.2.2.2.2.2.2.2.2.2.2.2.2.2.2.2.2.2.2.1 rfl
      have e25 : x 25 = .bool true := hD.2.2.2.2.2.2.2.2.2.2.2.2.2.2.2.2.2.2.2.2.2.2.2.2.2.2.2.1 rfl
      have e26 : x 26 = .bool true := hD.2.2.2.2.2.2.2.2.2.2.2.2.2.2.2.2.2.2.2.2.2.2.2.2.2.2.2.2.1 rfl
      have e27 : x 27 = .agg (polC askP) := hD.2.2.2.2.2.2.2.2.2.2.2.2.2.2.2.2.2.2.2.2.2.2.2.2.2.2.2.2.2.1 rfl
      have e28 : x 28 = .agg #[.int .u16 0, .int .u16 0] := hD.2.2.2.2.2.2.2.2.2.2.2.2.2.2.2.2.2.2.2.2.2.2.2.2.2.2.2.2.2.2.1 rfl
      have e29 : x 29 = .int .u16 1 := hD.2.2.2.2.2.2.2.2.2.2.2.2.2.2.2.2.2.2.2.2.2.2.2.2.2.2.2.2.2.2.2.1 rfl
      have e30 : x 30 = .bool true := hD.2.2.2.2.2.2.2.2.2.2.2.2.2.2.2.2.2.2.2.2.2.2.2.2.2.2.2.2.2.2.2.2.1 rfl
      have e31 : x 31 = .bool true := hD.2.2.2.2.2.2.2.2.2.2.2.2.2.2.2.2.2.2.2.2.2.2.2.2.2.2.2.2.2.2.2.2.2.1 rfl
      have e32 : x 32 = .bool true := hD.2.2.2.2.2.2.2.2.2.2.2.2.2.2.2.2.2.2.2.2.2.2.2.2.2.2.2.2.2.2.2.2.2.2.1 rfl
      have e33 : x 33 = .agg (polC askP) := hD.2.2.2.2.2.2.2.2.2.2.2.2.2.2.2.2.2.2.2.2.2.2.2.2.2.2.2.2.2.2.2.2.2.2.2.1 rfl
      have e34 : x 34 = .agg #[.int .u16 65535, .int .u16 0] := hD.2.2.2.2.2.2.2.2.2.2.2.2.2.2.2.2.2.2.2.2.2.2.2.2.2.2.2.2.2.2.2.2.2.2.2.2.1 rfl
      have e35 : x 35 = .bool true := hD.2.2.2.2.2.2.2.2.2.2.2.2.2.2.2.2.2.2.2.2.2.2.2.2.2.2.2.2.2.2.2.2.2.2.2.2.2.1 rfl
      have e36 : x 36 = .bool true := hD.2.2.2.2.2.2.2.2.2.2.2.2.2.2.2.2.2.2.2.2.2.2.2.2.2.2.2.2.2.2.2.2.2.2.2.2.2.2.1 rfl
      have e37 : x 37 = .bool true := hD.2.2.2.2.2.2.2.2.2.2.2.2.2.2.2.2.2.2.2.2.2.2.2.2.2.2.2.2.2.2.2.2.2.2.2.2.2.2.2.1 rfl
      have e38 : x 38 = .agg (polC askP) := hD.2.2.2.2.2.2.2.2.2.2.2.2.2.2.2.2.2.2.2.2.2.2.2.2.2.2.2.2.2.2.2.2.2.2.2.2.2.2.2.2.1 rfl
      have e39 : x 39 = .agg #[.int .u16 65535, .int .u16 0] := hD.2.2.2.2.2.2.2.2.2.2.2.2.2.2.2.2.2.2.2.2.2.2.2.2.2.2.2.2.2.2.2.2.2.2.2.2.2.2.2.2.2.1 rfl
      have e40 : x 40 = .bool false := hD.2.2.2.2.2.2.2.2.2.2.2.2.2.2.2.2.2.2.2.2.2.2.2.2.2.2.2.2.2.2.2.2.2.2.2.2.2.2.2.2.2.2.1 rfl
      have e41 : x 41 = .bool true := hD.2.2.2.2.2.2.2.2.2.2.2.2.2.2.2.2.2.2.2.2.2.2.2.2.2.2.2.2.2.2.2.2.2.2.2.2.2.2.2.2.2.2.2.1 rfl
      have e42 : x 42 = .bool true := hD.2.2.2.2.2.2.2.2.2.2.2.2.2.2.2.2.2.2.2.2.2.2.2.2.2.2.2.2.2.2.2.2.2.2.2.2.2.2.2.2.2.2.2.2.1 rfl
      have e43 : x 43 = .bool true := hD.2.2.2.2.2.2.2.2.2.2.2.2.2.2.2.2.2.2.2.2.2.2.2.2.2.2.2.2.2.2.2.2.2.2.2.2.2.2.2.2.2.2.2.2.2.1 rfl
      have e44 : x 44 = .agg (polC askP) := hD.2.2.2.2.2.2.2.2.2.2.2.2.2.2.2.2.2.2.2.2.2.2.2.2.2.2.2.2.2.2.2.2.2.2.2.2.2.2.2.2.2.2.2.2.2.2.1 rfl
      have e45 : x 45 = .int .u16 65535 := hD.2.2.2.2.2.2.2.2.2.2.2.2.2.2.2.2.2.2.2.2.2.2.2.2.2.2.2.2.2.2.2.2.2.2.2.2.2.2.2.2.2.2.2.2.2.2.2.1 rfl
      have e46 : x 46 = .bool true := hD.2.2.2.2.2.2.2.2.2.2.2.2.2.2.2.2.2.2.2.2.2.2.2.2.2.2.2.2.2.2.2.2.2.2.2.2.2.2.2.2.2.2.2.2.2.2.2.2.1 rfl
      have e47 : x 47 = .bool true := hD.2.2.2.2.2.2.2.2.2.2.2.2.2.2.2.2.2.2.2.2.2.2.2.2.2.2.2.2.2.2.2.2.2.2.2.2.2.2.2.2.2.2.2.2.2.2.2.2.2.1 rfl
      have e48 : x 48 = .bool true := hD.2.2.2.2.2.2.2.2.2.2.2.2.2.2.2.2.2.2.2.2.2.2.2.2.2.2.2.2.2.2.2.2.2.2.2.2.2.2.2.2.2.2.2.2.2.2.2.2.2.2.1 rfl
      have e49 : x 49 = .agg (polC askP) := hD.2.2.2.2.2.2.2.2.2.2.2.2.2.2.2.2.2.2.2.2.2.2.2.2.2.2.2.2.2.2.2.2.2.2.2.2.2.2.2.2.2.2.2.2.2.2.2.2.2.2.2.1 rfl
      have e50 : x 50 = .agg (polC askP) := hD.2.2.2.2.2.2.2.2.2.2.2.2.2.2.2.2.2.2.2.2.2.2.2.2.2.2.2.2.2.2.2.2.2.2.2.2.2.2.2.2.2.2.2.2.2.2.2.2.2.2.2.2.1 rfl
      have e51 : x 51 = .bool true := hD.2.2.2.2.2.2.2.2.2.2.2.2.2.2.2.2.2.2.2.2.2.2.2.2.2.2.2.2.2.2.2.2.2.2.2.2.2.2.2.2.2.2.2.2.2.2.2.2.2.2.2.2.2.1 rfl
      have e52 : x 52 = .bool true := hD.2.2.2.2.2.2.2.2.2.2.2.2.2.2.2.2.2.2.2.2.2.2.2.2.2.2.2.2.2.2.2.2.2.2.2.2.2.2.2.2.2.2.2.2.2.2.2.2.2.2.2.2.2.2.1 rfl
      have e53 : x 53 = .bool true := hD.2.2.2.2.2.2.2.2.2.2.2.2.2.2.2.2.2.2.2.2.2.2.2.2.2.2.2.2.2.2.2.2.2.2.2.2.2.2.2.2.2.2.2.2.2.2.2.2.2.2.2.2.2.2.2.1 rfl
      have e54 : x 54 = .pointer (some ⟨br, 0, none⟩) := hD.2.2.2.2.2.2.2.2.2.2.2.2.2.2.2.2.2.2.2.2.2.2.2.2.2.2.2.2.2.2.2.2.2.2.2.2.2.2.2.2.2.2.2.2.2.2.2.2.2.2.2.2.2.2.2.2.1 rfl
      have e55 : x 55 = .int .i64 0 := hD.2.2.2.2.2.2.2.2.2.2.2.2.2.2.2.2.2.2.2.2.2.2.2.2.2.2.2.2.2.2.2.2.2.2.2.2.2.2.2.2.2.2.2.2.2.2.2.2.2.2.2.2.2.2.2.2.2.1 rfl
      have e56 : x 56 = .bool true := hD.2.2.2.2.2.2.2.2.2.2.2.2.2.2.2.2.2.2.2.2.2.2.2.2.2.2.2.2.2.2.2.2.2.2.2.2.2.2.2.2.2.2.2.2.2.2.2.2.2.2.2.2.2.2.2.2.2.2.1 rfl
      have e57 : x 57 = .bool true := hD.2.2.2.2.2.2.2.2.2.2.2.2.2.2.2.2.2.2.2.2.2.2.2.2.2.2.2.2.2.2.2.2.2.2.2.2.2.2.2.2.2.2.2.2.2.2.2.2.2.2.2.2.2.2.2.2.2.2.2.1 rfl
      have e58 : x 58 = .bool true := hD.2.2.2.2.2.2.2.2.2.2.2.2.2.2.2.2.2.2.2.2.2.2.2.2.2.2.2.2.2.2.2.2.2.2.2.2.2.2.2.2.2.2.2.2.2.2.2.2.2.2.2.2.2.2.2.2.2.2.2.2.1 rfl
      have e59 : x 59 = .agg #[.int .u16 0, .int .u16 2, .int .u16 0, .int .u16 0, .int .u16 0, .int .u16 0, .int .u16 0, .int .u16 0, .int .u16 0, .int .u16 0, .int .u16 0, .int .u16 0, .int .u16 0, .int .u16 0, .int .u16 0, .int .u16 0] := hD.2.2.2.2.2.2.2.2.2.2.2.2.2.2.2.2.2.2.2.2.2.2.2.2.2.2.2.2.2.2.2.2.2.2.2.2.2.2.2.2.2.2.2.2.2.2.2.2.2.2.2.2.2.2.2.2.2.2.2.2.2.1 rfl
      have e60 : x 60 = .agg (polC badP) := hD.2.2.2.2.2.2.2.2.2.2.2.2.2.2.2.2.2.2.2.2.2.2.2.2.2.2.2.2.2.2.2.2.2.2.2.2.2.2.2.2.2.2.2.2.2.2.2.2.2.2.2.2.2.2.2.2.2.2.2.2.2.2.1 rfl
      have e62 : x 62 = .bool true := hD.2.2.2.2.2.2.2.2.2.2.2.2.2.2.2.2.2.2.2.2.2.2.2.2.2.2.2.2.2.2.2.2.2.2.2.2.2.2.2.2.2.2.2.2.2.2.2.2.2.2.2.2.2.2.2.2.2.2.2.2.2.2.2.2.1 rfl
      clear hD
      refine want_yes rfl ?_
      exact leads_value (v := .bool true) (by go_simp) ⟨rfl, hC⟩
    trivial
  · intro xa V hC hx
    have e64 : xa 64 = .bool true := hx 64 (by simp)
    have HV := Lib.hid (show ALW w b1 b2 b4 br g V from hC)
    clear hx hC
    rw [e64]
    clear e64
    go_wp2_with fail
    go_ret
    exact ⟨rfl, HV.out.all⟩
end Go.Proofs.YtoieodlpoglmfaaDoor

/-! GraL -/
namespace Go.Proofs.YtoieodlpoglmfaaDoor
open Go.RowKit Go.Shelf

attribute [local go_sem] Oper.semAt_some

/-- A slice of integers, as a fact. -/
theorem IntsAt.below {w w' : World} {v : Value} {l : List Int} (h : IntsAt w v l) (hB : Below w.heap.size w w') : IntsAt w' v l := by
  obtain ⟨p, cap, hv, hm, hc⟩ := h
  refine ⟨p, cap, hv, hm, fun hn => ?_⟩
  obtain ⟨b, off, hp, hcell⟩ := hc hn
  refine ⟨b, off, hp, fun i hi => ?_⟩
  have h1 := hcell i hi
  have hlt : b < w.heap.size := by
    refine Classical.byContradiction fun hge => ?_
    have : w.heap[b]? = none := Array.getElem?_eq_none (by omega)
    simp [World.cell?, this] at h1
  exact (hB.cell (p := ⟨b, off + i, none⟩) hlt).trans h1
def intsF (l : List Int) : Fact := ⟨fun v w => IntsAt w v l, fun _ _ _ h hB => h.below hB⟩
theorem mem_tagsV {s t : Nat} : t ∈ tagsN s ↔ t < 16 ∧ s.testBit t = true := mem_tagsTo s 16 t
theorem ofL_with {s r : Nat} (hs : s < 65536) (hr : r < 16) : bits .or .u16 (s : Int) ((ofL 0 [(r : Int)] : Nat) : Int) = ((withN s r : Nat) : Int) := by
  rw [ofL_one hr, u16_or_nat s (pw r) hs (pw_lt hr)]; rfl
theorem has_less {W s r : Nat} (hW : W < 65536) (hs : s < 65536) : hasB ((lessN W s : Nat) : Int) (r : Int) = (W.testBit r && !s.testBit r) := by
  rw [hasB_bit, lessN_bit hW hs]
theorem andNot_less {W s : Nat} (hW : W < 65536) (hs : s < 65536) : bits .andNot .u16 (W : Int) (s : Int) = ((lessN W s : Nat) : Int) := by
  rw [u16_andNot_nat W s hW hs]; rfl
/-- What grows beside cells leaves a block of cells. -/
theorem Blk.grown {w w' : World} {b : Nat} {vs : Array Value} {t : TypeId} (h : Blk w b vs t) {row : Option Nat} (hg : w.grownBy w' row) (hr : ∀ r, row = some r → ∃ o : Obj, w.heap[r]? = some o ∧ o.isCells = false) : Blk w' b vs t := by
  refine (hg.block b h.lt fun e => ?_).trans h
  obtain ⟨o, h1, h2⟩ := hr b e.symm
  rw [show w.heap[b]? = _ from h] at h1
  cases h1
  cases h2

def visV (bw br bg bv : Nat) : Value := .func (.func 82) #[] #[.pointer (some ⟨bw, 0, none⟩), .pointer (some ⟨br, 0, none⟩), .pointer (some ⟨bg, 0, none⟩), .pointer (some ⟨bv, 0, none⟩)]
/-- What the closure has captured. -/
structure VisW (bw br bg bv : Nat) (f : Nat → Nat) (W s : Nat) (V : World) : Prop where
  w : Blk V bw #[.int .u16 (W : Int)] 22
  r : Blk V br #[.int .u16 (s : Int)] 22
  g : GRow V bg f
  v : Blk V bv #[visV bw br bg bv] 104
  tab : TabOk V
structure VisB (N bw br bg bv : Nat) : Prop where
  n : N ≤ br
  t : 0 < N
  w : bw ≠ br
  g : bg ≠ br
  v : bv ≠ br
theorem VisW.below {bw br bg bv : Nat} {f : Nat → Nat} {W s : Nat} {V V' : World} (h : VisW bw br bg bv f W s V) (hB : Below V.heap.size V V') : VisW bw br bg bv f W s V' :=
  ⟨Blk.below h.w hB h.w.lt, Blk.below h.r hB h.r.lt, h.g.step hB, Blk.below h.v hB h.v.lt, h.tab.below hB⟩
theorem VisW.chg {N bw br bg bv : Nat} {f : Nat → Nat} {W s s2 : Nat} {V V' : World} (h : VisW bw br bg bv f W s V) (hb : VisB N bw br bg bv) (hN : N ≤ V.heap.size) (hc : Chg (fun k => k = br) V V') (hr : Blk V' br #[.int .u16 (s2 : Int)] 22) : VisW bw br bg bv f W s2 V' :=
  ⟨hc.kept h.w hb.w, hr, hc.kept h.g hb.g, hc.kept h.v hb.v, h.tab.1.below (hc.below hN fun _ e => e ▸ hb.n) hb.t, Nat.lt_of_lt_of_le h.tab.2 hc.size⟩
theorem VisW.grown {N bw br bg bv : Nat} {f : Nat → Nat} {W s : Nat} {V V' : World} (h : VisW bw br bg bv f W s V) (hb : VisB N bw br bg bv) (hN : N ≤ V.heap.size) {row : Option Nat} (hg : V.grownBy V' row) (hr : ∀ r, row = some r → N ≤ r ∧ ∃ o : Obj, V.heap[r]? = some o ∧ o.isCells = false) : VisW bw br bg bv f W s V' :=
  ⟨h.w.grown hg fun r e => (hr r e).2, h.r.grown hg fun r e => (hr r e).2, Blk.grown h.g hg fun r e => (hr r e).2, h.v.grown hg fun r e => (hr r e).2,
   h.tab.1.below ((Below.refl N V).grown hg hN fun k e => (hr k e).1) hb.t, Nat.lt_of_lt_of_le h.tab.2 hg.size⟩
theorem Chg.grown {S : Nat → Prop} {w V V' : World} {B : Nat} (h : Chg S w V) (hB : w.heap.size ≤ B) {row : Option Nat} (hg : V.grownBy V' row) (hr : ∀ r, row = some r → B ≤ r) : Chg S w V' :=
  h.then (Chg.ofGrown hg) fun i hi e => by have := hr i e; omega
/-- Between two rounds: these were visited. -/
def VisI (bw br bg bv : Nat) (f : Nat → Nat) (W s : Nat) (w : World) (l : List Nat) (V : World) : Prop := ∃ s2, s2 < 65536 ∧ Vis f W s (fun k => k ∈ l) s2 ∧ VisW bw br bg bv f W s2 V ∧ Chg (fun k => k = br) w V
theorem visI_own {N bw br bg bv : Nat} {f : Nat → Nat} {W s : Nat} {w : World} (hb : VisB N bw br bg bv) (hN : N ≤ w.heap.size) {B : Nat} (hB : w.heap.size ≤ B) : OwnFrom B (fun (pre : List (Fin 16)) V => VisI bw br bg bv f W s w (valsF pre) V) := by
  rintro pre X Y row ⟨s2, h1, h2, h3, h4⟩ hg hr
  exact ⟨s2, h1, h2, h3.grown hb (Nat.le_trans hN h4.size) hg fun r e => ⟨Nat.le_trans hN (Nat.le_trans hB (hr r e).1), (hr r e).2⟩, h4.grown hB hg fun r e => (hr r e).1⟩
theorem Vis.more {f : Nat → Nat} {W s s1 s2 k : Nat} {l : List Nat} (h : Vis f W s (fun r => r ∈ l) s1) (h2 : Vis f W s1 (fun r => r = k) s2) : Vis f W s (fun r => r ∈ l ++ [k]) s2 :=
  (h.trans h2).roots_iff fun r => by simp
theorem Vis.tags {f : Nat → Nat} {W s s2 m : Nat} (hm : m < 65536) (h : Vis f W s (fun r => r ∈ tagsN m) s2) : Vis f W s (fun r => m.testBit r = true) s2 :=
  h.roots_iff fun r => by rw [mem_tagsV]; exact ⟨fun h => h.2, fun h => ⟨bit_lt hm h, h⟩⟩
theorem keeps_chg {br B : Nat} {V V' : World} (h : Chg (fun k => k = br) V V') (hB : br < B) : KeepsFrom B V V' :=
  ⟨h.size, fun k o hk ho _ => (h.block k (Array.getElem?_eq_some_iff.1 ho).1 (by omega)).trans ho⟩
set_option maxRecDepth 100000 in
set_option maxHeartbeats 3200000 in
theorem visit_any (bw br bg bv : Nat) (f : Nat → Nat) (W N : Nat) (hf : GrOk f) (hW : W < 65536) (hb : VisB N bw br bg bv) : ∀ (m s r : Nat) (w : World), leftB s < m → N ≤ w.heap.size → VisW bw br bg bv f W s w → s < 65536 → r < 16 →
    Calls Tryd.prog 82 #[.int .i64 (r : Int), .pointer (some ⟨bw, 0, none⟩), .pointer (some ⟨br, 0, none⟩), .pointer (some ⟨bg, 0, none⟩), .pointer (some ⟨bv, 0, none⟩)] w
      fun e w' => e = .returned (.tuple #[]) ∧ ∃ s2, s2 < 65536 ∧ Vis f W s (fun k => k = r) s2 ∧ VisW bw br bg bv f W s2 w' ∧ Chg (fun k => k = br) w w' := by
  intro m
  induction m with
  | zero => intro s r w h; omega
  | succ m ih =>
    intro s r w hl hN hV hs hr
    have hd : lessN W s < 65536 := lessN_lt s hW
    have hHas := has_less (r := r) hW hs
    have hL := andNot_less hW hs
    have HO := Lib.hid (ofL_with hs hr)
    have HH := Lib.hid (fun V => Has_any (lessN W s) (r : Int) V hd)
    rw [hHas] at HH
    have HV := Lib.hid hV
    have HI := Lib.hid (And.intro hl (And.intro hN (And.intro hs (And.intro hf hW))))
    have kw := hV.w.cell 0
    have kr := hV.r.cell 0
    clear hHas hd hV hl hs hW hN hf
    generalize lessN W s = d at *
    refine (callsIn_wide (n := 3)).1 ?_
    refine callsIn_of_wp_marks Tryd.func82 rfl trivial ?_ rfl
    simp only [Tryd.ntmps82, List.size_toArray, List.length_cons, List.length_nil, Nat.reduceAdd, Nat.reduceSub, Array.replicate_succ, Array.replicate_zero, List.push_toArray, List.append_toArray, List.nil_append, List.cons_append]
    cases hb1 : (W.testBit r && !s.testBit r) with
    | false =>
      rw [hb1] at HH
      gi_wp2_with (refine ⟨trivial, ?_⟩; gi_at_call 45; refine (callsIn_wide.2 (HH.out _)).mono ?_; clear HH; rintro e w' ⟨rfl, rfl⟩)
      refine ⟨_, results_none rfl _ _ _, rfl, s, HI.out.2.2.1, Vis.none fun k hk hw => ?_, HV.out, Chg.refl _ _⟩
      subst hk
      rw [hw] at hb1
      simpa using hb1
    | true =>
      rw [hb1] at HH
      gi_wp2_with (refine ⟨trivial, ?_⟩; gi_at_call 45; refine (callsIn_wide.2 (HH.out _)).mono ?_; clear HH; rintro e w' ⟨rfl, rfl⟩)
      clear kw hL
      refine wpIn_region_factsT 5 1 (fun V => Below w.heap.size w V) [Fact.is (.int .u16 (s : Int)), Fact.is (.int .i64 (r : Int)), intsF [(r : Int)], Fact.is (.int .u16 ((ofL 0 [(r : Int)] : Nat) : Int)), Fact.is (.int .u16 ((withN s r : Nat) : Int))] []
        (fun x => { tmps := #[.int .i64 (r : Int), .pointer (some ⟨bw, 0, none⟩), .pointer (some ⟨br, 0, none⟩), .pointer (some ⟨bg, 0, none⟩), .pointer (some ⟨bv, 0, none⟩), undef, undef, .int .u16 (W : Int), .int .u16 (s : Int), .int .u16 (d : Int), .int .i64 (r : Int), .bool true, .bool false, x 0, x 1, x 2, x 3, x 4, undef, undef, undef, undef, undef, undef, undef, undef], defers := [] }) (fun _ => undef) (by kernel_rfl) rfl (by kernel_rfl) rfl (by kernel_rfl) (by kernel_rfl) ((Below.refl _ _).drew) (fun u v hu hB => hu.trans (hB.mono hu.size)) ?_ ?_
      · simp only [List.take_succ_cons, List.take_zero]
        refine ⟨⟨fun x v => rfl, fun x V hC hD => ?_⟩, ?_⟩
        · clear hD
          refine want_yes rfl ?_
          have k0 := (hC.cell (p := ⟨br, 0, none⟩) HV.out.r.lt).trans kr
          exact leads_value (by go_simp) ⟨Below.refl _ _, rfl, fun h => absurd h (by simp)⟩
        refine ⟨⟨fun x v => rfl, fun x V hC hD => ?_⟩, ?_⟩
        · clear hD
          refine want_yes rfl ?_
          exact leads_value (by go_simp) ⟨Below.refl _ _, rfl, fun h => absurd h (by simp)⟩
        refine ⟨⟨fun x v => rfl, fun x V hC hD => ?_⟩, ?_⟩
        · have e1 : x 1 = .int .i64 (r : Int) := hD.1 rfl
          clear hD
          refine want_yes rfl ?_
          exact leads_value (by go_simp) ⟨below_one _ _, ints_one _ _, fun h => absurd h (by simp)⟩
        refine ⟨⟨fun x v => rfl, fun x V hC hD => ?_⟩, ?_⟩
        · have e2 : IntsAt V ((x 2)) [(r : Int)] := hD.1 rfl
          clear hD
          refine want_yes rfl ?_
          exact leads_enter (by go_simp) ((Of_any _ _ _ e2).mono fun _ _ ⟨h1, h2⟩ => ⟨h1, h2 ▸ Below.refl _ _⟩) fun w'' hB => ⟨hB, rfl, fun h => absurd h (by simp)⟩
        refine ⟨⟨fun x v => rfl, fun x V hC hD => ?_⟩, ?_⟩
        · have e0 : x 0 = .int .u16 (s : Int) := hD.1 rfl
          have e3 : x 3 = .int .u16 ((ofL 0 [(r : Int)] : Nat) : Int) := hD.2.1 rfl
          clear hD
          refine want_yes rfl ?_
          exact leads_value (v := .int .u16 (bits .or .u16 (s : Int) ((ofL 0 [(r : Int)] : Nat) : Int))) (by go_simp) ⟨Below.refl _ _, by rw [HO.out]; rfl, fun h => absurd h (by simp)⟩
        trivial
      · intro x V hF
        simp only [List.drop_succ_cons, List.drop_zero]
        have e0 : x 0 = .int .u16 (s : Int) := hF.fact 0 (by decide) rfl
        have e1 : x 1 = .int .i64 (r : Int) := hF.fact 1 (by decide) rfl
        have e3 : x 3 = .int .u16 ((ofL 0 [(r : Int)] : Nat) : Int) := hF.fact 3 (by decide) rfl
        have e4 : x 4 = .int .u16 ((withN s r : Nat) : Int) := hF.fact 4 (by decide) rfl
        have HB := Lib.hid (show Below w.heap.size w V from hF.c)
        clear hF
        rw [e0, e1, e3, e4]
        clear e0 e1 e3 e4
        generalize x 2 = y15
        generalize ((ofL 0 [(r : Int)] : Nat) : Int) = y16
        have hV1 := HV.out.below HB.out
        have c0 := hV1.r.cell 0
        have c1 := hV1.r.free 0
        have hbits : W.testBit r = true ∧ s.testBit r = false := by simpa using hb1
        have hs1 : withN s r < 65536 := withN_lt HI.out.2.2.1 hr
        have hV2 := hV1.chg hb (Nat.le_trans HI.out.2.1 HB.out.size) ((Chg.refl (fun k => k = br) V).setCell (p := ⟨br, 0, none⟩) (fun _ => rfl) (.int .u16 ((withN s r : Nat) : Int))) (by simpa using hV1.r.set 0 (.int .u16 ((withN s r : Nat) : Int)))
        have HC2 := Lib.hid ((Chg.ofBelow (S := fun k => k = br) HB.out).trans ((Chg.refl (fun k => k = br) V).setCell (p := ⟨br, 0, none⟩) (fun _ => rfl) (.int .u16 ((withN s r : Nat) : Int))))
        have HV2 := Lib.hid hV2
        clear hV2 hV1
        go_wp2_with fail
        rename_i hgo
        refine hgo _ _ ?_
        clear hgo c0 c1 kr
        have hfr := HI.out.2.2.2.1 r hr
        have hk : leftB (withN s r) < m := by have := leftB_with hr hbits.2; have := HI.out.1; omega
        generalize V.setCell ⟨br, 0, none⟩ (.int .u16 ((withN s r : Nat) : Int)) = w1 at *
        have kg := HV2.out.g.cell hr
        generalize hS : withN s r = S1 at *
        generalize hF : f r = fr at *
        have hr16 : (r : Int) < 16 := by omega
        gi_wp2_with (refine ⟨trivial, ?_⟩; gi_at_call 54; refine (Each_in _ _ _).mono ?_; rintro e w' ⟨rfl, rfl⟩)
        have bN := Boxed.new w1 22 (.int .u16 (fr : Int))
        have hC12 := Lib.hid (HC2.out.trans (Chg.ofBelow (belowNew w1 (.cells #[.int .u16 (fr : Int)] 22))))
        have hV3 := HV2.out.below (belowNew w1 (.cells #[.int .u16 (fr : Int)] 22))
        have hbw : br < (w1.alloc (.cells #[.int .u16 (fr : Int)] 22)).heap.size := hV3.r.lt
        have hN3 : N ≤ (w1.alloc (.cells #[.int .u16 (fr : Int)] 22)).heap.size := Nat.le_trans HI.out.2.1 hC12.out.size
        have hn1 : w1.heap.size < (w1.alloc (.cells #[.int .u16 (fr : Int)] 22)).heap.size := by simp
        generalize w1.alloc (.cells #[.int .u16 (fr : Int)] 22) = w2 at *
        have HK := Lib.hid hk
        clear hk kg HC2 HB HO HV
        refine wpIn_rangeFunc_ownG rfl (by decide) (gf := 74) (lb := #[.pointer (some ⟨w1.heap.size, 0, none⟩)]) rfl trivial (enters_of Tryd.func74 (by kernel_rfl) rfl)
          (Each_stops 2 (by decide) w1.heap.size N fr hfr w2 hn1 hN3 hb.t bN.cell hV3.tab.1) belowK_t (belowK_b hN3) (Below.refl _ _) (fun _ => rfl)
          (fun pre V => VisI bw br bg bv f W S1 w2 (valsF pre) V) (fun _ _ _ => False) (visI_own hb hN3 (Nat.le_refl _)) (fun _ _ _ _ _ hs _ _ => hs)
          ⟨S1, hs1, Vis.none fun r hr => absurd hr (by simp [valsF]), hV3, Chg.refl _ _⟩
          (fun x => { tmps := #[.int .i64 (r : Int), .pointer (some ⟨bw, 0, none⟩), .pointer (some ⟨br, 0, none⟩), .pointer (some ⟨bg, 0, none⟩), .pointer (some ⟨bv, 0, none⟩), undef, .int .i64 (x.val : Int), .int .u16 (W : Int), .int .u16 (s : Int), .int .u16 (d : Int), .int .i64 (r : Int), .bool true, .bool false, .int .u16 (s : Int), .int .i64 (r : Int), y15, .int .u16 y16, .int .u16 (S1 : Int), .int .i64 (r : Int), .pointer (some ⟨bg, r, none⟩), .int .u16 (fr : Int), .func (.func 74) #[] #[.pointer (some ⟨w1.heap.size, 0, none⟩)], .int .i64 (x.val : Int), undef, undef, undef], defers := [] }) ?assign ?body ?done ?stop
        case assign =>
          intro l x W K hK
          simp only [encT]
          gi_wp2
          exact hK
        case body =>
          rintro l pre x W3 ⟨s2, hs2, hvis, hvw, hc⟩ hlt
          have kv := hvw.v.cell 0
          unfold visV at kv
          have hN4 := Nat.le_trans hN3 hc.size
          have hk := Nat.lt_of_le_of_lt (leftB_sub hvis.sub) HK.out
          have HC := Lib.hid (ih s2 x.val W3 hk hN4 hvw hs2 x.isLt)
          have HP := Lib.hid (And.intro hvis hc)
          clear hvis hc hvw hk ih
          gi_wp2_with (refine ⟨trivial, ?_⟩; gi_at_call 82; refine (CallsIn.inRound l (callsIn_wide.2 HC.out)).mono ?_; clear HC; rintro e w' ⟨rfl, s3, h1, h2, h3, h4⟩)
          exact ⟨keeps_chg h4 hbw, h4.below hN4 fun _ e => e ▸ hb.n, s3, h1, by rw [valsF_snoc]; exact HP.out.1.more h2, h3, HP.out.2.trans h4⟩
        case done =>
          rintro D ys W3 hD hys ⟨s2, hs2, hvis, hvw, hc⟩ hK
          rw [hys] at hvis
          have HP := Lib.hid (And.intro hvis (And.intro hvw hc))
          clear hvis hvw hc hys
          gi_wp2
          refine ⟨by simp, .inl ⟨_, _, rfl, run_takeDeferred hK, ?_⟩⟩
          obtain ⟨hvis, hvw, hc⟩ := HP.out
          refine ⟨_, results_none rfl _ _ _, rfl, s2, hs2, Vis.enter hbits.1 ?_, hvw.grown hb (Nat.le_trans hN3 hc.size) (grownBy_putObj' W3 D _) (fun r e => by cases e; exact ⟨Nat.le_trans hN3 hD, _, hK, rfl⟩),
            hC12.out.trans (hc.grown (Nat.le_refl _) (grownBy_putObj' W3 D _) (fun r e => by cases e; exact hD))⟩
          rw [hS, hF]
          exact hvis.tags hfr
        case stop =>
          rintro D c pre W3 _ _ h _
          exact h.elim
/-- The four blocks that Down makes. -/
structure MadeW (w : World) (f : Nat → Nat) (W : Nat) (V : World) : Prop where
  vis : VisW (w.heap.size + 1) (w.heap.size + 1 + 1) w.heap.size (w.heap.size + 1 + 1 + 1) f W 0 V
  below : Below w.heap.size w V
theorem madeW (w : World) (f : Nat → Nat) (W : Nat) (hT : TabOk w) {V : World} (hV : V = (((w.alloc (.cells (grC f) 26)).alloc (.cells #[.int .u16 (W : Int)] 22)).alloc (.cells #[.int .u16 0] 22)).alloc (.cells #[visV (w.heap.size + 1) (w.heap.size + 1 + 1) w.heap.size (w.heap.size + 1 + 1 + 1)] 104)) : MadeW w f W V ∧ V.heap.size = w.heap.size + 1 + 1 + 1 + 1 := by
  have hB1 := belowNew w (.cells (grC f) 26)
  have g1 := GRow.new w f
  have z1 : (w.alloc (.cells (grC f) 26)).heap.size = w.heap.size + 1 := by simp
  generalize w.alloc (.cells (grC f) 26) = w1 at *
  have hB2 := hB1.alloc (by omega) (.cells #[.int .u16 (W : Int)] 22)
  have g2 := g1.alloc (.cells #[.int .u16 (W : Int)] 22)
  have b2 := Blk.new w1 #[.int .u16 (W : Int)] 22
  have z2 : (w1.alloc (.cells #[.int .u16 (W : Int)] 22)).heap.size = w.heap.size + 1 + 1 := by simp [z1]
  rw [z1] at b2
  generalize w1.alloc (.cells #[.int .u16 (W : Int)] 22) = w2 at *
  have hB3 := hB2.alloc (by omega) (.cells #[.int .u16 0] 22)
  have g3 := g2.alloc (.cells #[.int .u16 0] 22)
  have b3 := b2.alloc (.cells #[.int .u16 0] 22)
  have r3 := Blk.new w2 #[.int .u16 0] 22
  have z3 : (w2.alloc (.cells #[.int .u16 0] 22)).heap.size = w.heap.size + 1 + 1 + 1 := by simp [z2]
  rw [z2] at r3
  generalize w2.alloc (.cells #[.int .u16 0] 22) = w3 at *
  generalize hv : visV (w.heap.size + 1) (w.heap.size + 1 + 1) w.heap.size (w.heap.size + 1 + 1 + 1) = v at *
  have hB4 := hB3.alloc (by omega) (.cells #[v] 104)
  have v4 := Blk.new w3 #[v] 104
  rw [z3] at v4
  have g4 := g3.alloc (.cells #[v] 104)
  have b4 := b3.alloc (.cells #[v] 104)
  have r4 := r3.alloc (.cells #[v] 104)
  subst hV
  exact ⟨⟨⟨b4, r4, g4, hv ▸ v4, hT.below hB4⟩, hB4⟩, by simp [z3]⟩
set_option maxRecDepth 100000 in
set_option maxHeartbeats 3200000 in
theorem gDown_any : GDownC := by
  intro f s W w hT hf hs hW
  obtain ⟨V, hV⟩ : ∃ V, V = (((w.alloc (.cells (grC f) 26)).alloc (.cells #[.int .u16 (W : Int)] 22)).alloc (.cells #[.int .u16 0] 22)).alloc (.cells #[visV (w.heap.size + 1) (w.heap.size + 1 + 1) w.heap.size (w.heap.size + 1 + 1 + 1)] 104) := ⟨_, rfl⟩
  have HM := Lib.hid (madeW w f W hT hV)
  unfold visV at hV
  have HVe := Lib.hid hV
  clear hV
  have hsf : ∀ (p : Addr) (x : Array Value) (W : World) (m : Mode), (store p (.func (.func 82) #[] x) m).run Tryd.prog W = stored Tryd.prog W p (.func (.func 82) #[] x) m := fun p x W m => run_store Tryd.prog W p (.func (.func 82) #[] x) m rfl
  have HT := Lib.hid (And.intro hT (And.intro hf (And.intro hs hW)))
  clear hT hf hs hW
  refine (callsIn_wide (n := 3)).1 ?_
  refine callsIn_of_wp_marks Tryd.func70 rfl trivial ?_ rfl
  simp only [Tryd.ntmps70, List.size_toArray, List.length_cons, List.length_nil, Nat.reduceAdd, Nat.reduceSub, Array.replicate_succ, Array.replicate_zero, List.push_toArray, List.append_toArray, List.nil_append, List.cons_append]
  gi_wp2_with (refine ⟨trivial, ?_⟩; gi_at_call 54; refine (Each_in _ _ _).mono ?_; rintro e w' ⟨rfl, rfl⟩)
  rw [← HVe.out]
  obtain ⟨hMv, hMz⟩ := HM.out
  obtain ⟨hT, hf, hs, hW⟩ := HT.out
  rw [← hMz]
  clear HM HVe HT hsf
  obtain ⟨hvw, hB⟩ := hMv
  have hvb : VisB w.heap.size (w.heap.size + 1) (w.heap.size + 1 + 1) w.heap.size (w.heap.size + 1 + 1 + 1) := ⟨by omega, hT.2, by omega, by omega, by omega⟩
  have bN := Boxed.new V 22 (.int .u16 (s : Int))
  have hB2 := hB.alloc hB.size (.cells #[.int .u16 (s : Int)] 22)
  have hV3 := hvw.below (belowNew V (.cells #[.int .u16 (s : Int)] 22))
  have hn1 : V.heap.size < (V.alloc (.cells #[.int .u16 (s : Int)] 22)).heap.size := by simp
  have hn2 : w.heap.size ≤ V.heap.size := hB.size
  generalize V.alloc (.cells #[.int .u16 (s : Int)] 22) = w2 at *
  have HB := Lib.hid hB2
  have HV := Lib.hid hMz
  clear hvw hB hB2 hMz
  obtain ⟨bw, hbw⟩ : ∃ b, b = w.heap.size + 1 := ⟨_, rfl⟩
  obtain ⟨br, hbr⟩ : ∃ b, b = w.heap.size + 1 + 1 := ⟨_, rfl⟩
  obtain ⟨bg, hbg⟩ : ∃ b, b = w.heap.size := ⟨_, rfl⟩
  obtain ⟨bv, hbv⟩ : ∃ b, b = w.heap.size + 1 + 1 + 1 := ⟨_, rfl⟩
  have hN3 : w.heap.size ≤ w2.heap.size := HB.out.size
  rw [← hbv, ← hbr, ← hbw] at hV3 hvb ⊢
  have hV4 : VisW bw br bg bv f W 0 w2 := hbg ▸ hV3
  have hvc : VisB w.heap.size bw br bg bv := by rw [hbg]; exact hvb
  rw [show (Value.pointer (some ⟨w.heap.size, 0, none⟩)) = .pointer (some ⟨bg, 0, none⟩) by rw [hbg]]
  have hbrl : br < w2.heap.size := hV4.r.lt
  clear hbv hbr hbw hbg hV3 hvb
  refine wpIn_rangeFunc_ownG rfl (by decide) (gf := 74) (lb := #[.pointer (some ⟨V.heap.size, 0, none⟩)]) rfl trivial (enters_of Tryd.func74 (by kernel_rfl) rfl)
    (Each_stops 2 (by decide) V.heap.size w.heap.size s hs w2 hn1 hN3 hT.2 bN.cell hV4.tab.1) belowK_t (belowK_b hN3) (Below.refl _ _) (fun _ => rfl)
    (fun pre V => VisI bw br bg bv f W 0 w2 (valsF pre) V) (fun _ _ _ => False) (visI_own hvc hN3 (Nat.le_refl _)) (fun _ _ _ _ _ hs _ _ => hs)
    ⟨0, by decide, Vis.none fun r hr => absurd hr (by simp [valsF]), hV4, Chg.refl _ _⟩
    (fun x => { tmps := #[.agg (grC f), .int .u16 (s : Int), .int .u16 (W : Int), .pointer (some ⟨bg, 0, none⟩), undef, .pointer (some ⟨bw, 0, none⟩), .int .u16 0, .pointer (some ⟨br, 0, none⟩), .pointer (some ⟨bv, 0, none⟩), .int .i64 (x.val : Int), visV bw br bg bv, .int .u16 (s : Int), .func (.func 74) #[] #[.pointer (some ⟨V.heap.size, 0, none⟩)], .int .i64 (x.val : Int), undef, undef, undef, undef], defers := [] }) ?assign ?body ?done ?stop
  case assign =>
    intro l x W3 K hK
    simp only [encT]
    gi_wp2
    exact hK
  case body =>
    rintro l pre x W3 ⟨s2, hs2, hvis, hvw, hc⟩ hlt
    have kv := hvw.v.cell 0
    unfold visV at kv
    have hN4 := Nat.le_trans hN3 hc.size
    have HC := Lib.hid (visit_any bw br bg bv f W w.heap.size hf hW hvc (leftB s2 + 1) s2 x.val W3 (Nat.lt_succ_self _) hN4 hvw hs2 x.isLt)
    have HP := Lib.hid (And.intro hvis hc)
    clear hvis hc hvw
    gi_wp2_with (refine ⟨trivial, ?_⟩; gi_at_call 82; refine (CallsIn.inRound l (callsIn_wide.2 HC.out)).mono ?_; clear HC; rintro e w' ⟨rfl, s3, h1, h2, h3, h4⟩)
    exact ⟨keeps_chg h4 hbrl, h4.below hN4 fun _ e => e ▸ hvc.n, s3, h1, by rw [valsF_snoc]; exact HP.out.1.more h2, h3, HP.out.2.trans h4⟩
  case done =>
    rintro D ys W3 hD hys ⟨s2, hs2, hvis, hvw, hc⟩ hK
    rw [hys] at hvis
    have HE := Lib.hid (vis_down hW (hvis.tags hs))
    have HP := Lib.hid (And.intro hvw hc)
    have kr := hvw.r.cell 0
    clear hvis hvw hc hys
    gi_wp2
    refine ⟨by simp, .inl ⟨_, _, rfl, run_takeDeferred hK, ?_⟩⟩
    obtain ⟨hvw, hc⟩ := HP.out
    refine ⟨_, results_tmp rfl _ _ _, by rw [HE.out]; rfl, (HB.out.trans (hc.below hN3 fun _ e => e ▸ hvc.n)).trans (belowK_b (w := w2) hN3 W3 D _ _ hD hK rfl rfl)⟩
  case stop =>
    rintro D c pre W3 _ _ h _
    exact h.elim
end Go.Proofs.YtoieodlpoglmfaaDoor

/-! GraT -/
namespace Go.Proofs.YtoieodlpoglmfaaDoor
open Go.RowKit Go.Shelf

attribute [local go_sem] Oper.semAt_some

theorem GRow.grown {w w' : World} {b : Nat} {f : Nat → Nat} (h : GRow w b f) {row : Option Nat} (hg : w.grownBy w' row) (hr : ∀ r, row = some r → ∃ o : Obj, w.heap[r]? = some o ∧ o.isCells = false) : GRow w' b f := Blk.grown h hg hr
/-- What some roles' rows are, the others' are empty. -/
def cutL (f : Nat → Nat) (W : Nat) (l : List Nat) (a : Nat) : Nat := if a ∈ l then f a &&& W else 0
theorem cutL_snoc (f : Nat → Nat) (W : Nat) (l : List Nat) (k t : Nat) : setF (cutL f W l) k (f k &&& W) t = cutL f W (l ++ [k]) t := by
  unfold setF cutL
  by_cases e : t = k
  · subst e; simp
  · simp [e]
theorem cutL_tags (f : Nat → Nat) {W : Nat} {t : Nat} (ht : t < 16) : cutL f W (tagsN W) t = cutF f W t := by
  unfold cutL cutF
  by_cases h : W.testBit t = true
  · rw [if_pos (mem_tagsV.2 ⟨ht, h⟩), if_pos h]
  · rw [if_neg fun hm => h (mem_tagsV.1 hm).2, if_neg h]
/-- The four blocks that Cut makes. -/
structure CutW (N bg bw br bc : Nat) (f : Nat → Nat) (W : Nat) (w : World) (h : Nat → Nat) (V : World) : Prop where
  g : GRow V bg f
  s : Blk V bw #[.int .u16 (W : Int)] 22
  r : GRow V br fun _ => 0
  c : GRow V bc h
  below : Below N w V
theorem CutW.step {N bg bw br bc : Nat} {f : Nat → Nat} {W : Nat} {w : World} {h : Nat → Nat} {V V' : World} (k : CutW N bg bw br bc f W w h V) (hN : N ≤ w.heap.size) (hB : Below V.heap.size V V') : CutW N bg bw br bc f W w h V' :=
  ⟨k.g.step hB, Blk.below k.s hB k.s.lt, k.r.step hB, k.c.step hB, k.below.trans (hB.mono (Nat.le_trans hN k.below.size))⟩
theorem cut_own {N bg bw br bc : Nat} {f : Nat → Nat} {W : Nat} {w : World} (hN : N ≤ w.heap.size) {B : Nat} (hB : N ≤ B) : OwnFrom B (fun (pre : List (Fin 16)) V => CutW N bg bw br bc f W w (cutL f W (valsF pre)) V) := by
  rintro pre X Y row h hg hr
  have hc := fun r e => (hr r e).2
  exact ⟨h.g.grown hg hc, Blk.grown h.s hg hc, h.r.grown hg hc, h.c.grown hg hc, h.below.grown hg (Nat.le_trans hN h.below.size) fun k e => Nat.le_trans hB (hr k e).1⟩
theorem CutW.set {N bg bw br bc : Nat} {f : Nat → Nat} {W : Nat} {w : World} {h g : Nat → Nat} {V : World} (q : CutW N bg bw br bc f W w h V) (hN : N ≤ w.heap.size) (hb : N ≤ bc) (h1 : bc ≠ bg) (h2 : bc ≠ bw) (h3 : bc ≠ br) {k : Nat} (hk : k < 16) (v : Nat) (hc : ∀ t, t < 16 → setF h k v t = g t) :
    CutW N bg bw br bc f W w g (V.setCell ⟨bc, k, none⟩ (.int .u16 (v : Int))) := by
  have hcg : Chg (fun j => j = bc) V (V.setCell ⟨bc, k, none⟩ (.int .u16 (v : Int))) := (Chg.refl (fun j => j = bc) V).setCell (p := ⟨bc, k, none⟩) (fun _ => rfl) _
  exact ⟨q.g.other h1 _, hcg.kept q.s (fun e => h2 e.symm), q.r.other h3 _, (q.c.set hk v).congr hc, q.below.trans (hcg.below (Nat.le_trans hN q.below.size) fun _ e => e ▸ hb)⟩
theorem madeCut (w : World) (f : Nat → Nat) (W : Nat) {V : World} (hV : V = (((w.alloc (.cells (grC f) 26)).alloc (.cells #[.int .u16 (W : Int)] 22)).alloc (.cells (grC fun _ => 0) 26)).alloc (.cells (grC fun _ => 0) 26)) :
    CutW w.heap.size w.heap.size (w.heap.size + 1) (w.heap.size + 1 + 1) (w.heap.size + 1 + 1 + 1) f W w (fun _ => 0) V ∧ V.heap.size = w.heap.size + 1 + 1 + 1 + 1 := by
  have hB1 := belowNew w (.cells (grC f) 26)
  have g1 := GRow.new w f
  have z1 : (w.alloc (.cells (grC f) 26)).heap.size = w.heap.size + 1 := by simp
  generalize w.alloc (.cells (grC f) 26) = w1 at *
  have hB2 := hB1.alloc (by omega) (.cells #[.int .u16 (W : Int)] 22)
  have g2 := g1.alloc (.cells #[.int .u16 (W : Int)] 22)
  have b2 := Blk.new w1 #[.int .u16 (W : Int)] 22
  have z2 : (w1.alloc (.cells #[.int .u16 (W : Int)] 22)).heap.size = w.heap.size + 1 + 1 := by simp [z1]
  rw [z1] at b2
  generalize w1.alloc (.cells #[.int .u16 (W : Int)] 22) = w2 at *
  have hB3 := hB2.alloc (by omega) (.cells (grC fun _ => 0) 26)
  have g3 := g2.alloc (.cells (grC fun _ => 0) 26)
  have b3 := b2.alloc (.cells (grC fun _ => 0) 26)
  have r3 := GRow.new w2 fun _ => 0
  have z3 : (w2.alloc (.cells (grC fun _ => 0) 26)).heap.size = w.heap.size + 1 + 1 + 1 := by simp [z2]
  rw [z2] at r3
  generalize w2.alloc (.cells (grC fun _ => 0) 26) = w3 at *
  have hB4 := hB3.alloc (by omega) (.cells (grC fun _ => 0) 26)
  have g4 := g3.alloc (.cells (grC fun _ => 0) 26)
  have b4 := b3.alloc (.cells (grC fun _ => 0) 26)
  have r4 := r3.alloc (.cells (grC fun _ => 0) 26)
  have c4 := GRow.new w3 fun _ => 0
  rw [z3] at c4
  subst hV
  exact ⟨⟨g4, b4, r4, c4, hB4⟩, by simp [z3]⟩
set_option maxRecDepth 100000 in
set_option maxHeartbeats 3200000 in
theorem gCut_any : GCutC := by
  intro f W w hT hf hW
  obtain ⟨V, hV⟩ : ∃ V, V = (((w.alloc (.cells (grC f) 26)).alloc (.cells #[.int .u16 (W : Int)] 22)).alloc (.cells (grC fun _ => 0) 26)).alloc (.cells (grC fun _ => 0) 26) := ⟨_, rfl⟩
  have HM := Lib.hid (madeCut w f W hV)
  rw [← zeroGr] at hV
  have HVe := Lib.hid hV
  clear hV
  have HT := Lib.hid (And.intro hT (And.intro hf hW))
  clear hT hf hW
  refine (callsIn_wide (n := 3)).1 ?_
  refine callsIn_of_wp_marks Tryd.func67 rfl trivial ?_ rfl
  simp only [Tryd.ntmps67, List.size_toArray, List.length_cons, List.length_nil, Nat.reduceAdd, Nat.reduceSub, Array.replicate_succ, Array.replicate_zero, List.push_toArray, List.append_toArray, List.nil_append, List.cons_append]
  gi_wp2_with (refine ⟨trivial, ?_⟩; gi_at_call 54; refine (Each_in _ _ _).mono ?_; rintro e w' ⟨rfl, rfl⟩)
  rw [← HVe.out]
  obtain ⟨hMv, hMz⟩ := HM.out
  obtain ⟨hT, hf, hW⟩ := HT.out
  rw [← hMz]
  clear HM HVe HT
  have bN := Boxed.new V 22 (.int .u16 (W : Int))
  have hV3 := hMv.step (Nat.le_refl _) (belowNew V (.cells #[.int .u16 (W : Int)] 22))
  have hn1 : V.heap.size < (V.alloc (.cells #[.int .u16 (W : Int)] 22)).heap.size := by simp
  generalize V.alloc (.cells #[.int .u16 (W : Int)] 22) = w2 at *
  obtain ⟨bw, hbw⟩ : ∃ b, b = w.heap.size + 1 := ⟨_, rfl⟩
  obtain ⟨br, hbr⟩ : ∃ b, b = w.heap.size + 1 + 1 := ⟨_, rfl⟩
  obtain ⟨bc, hbc⟩ : ∃ b, b = w.heap.size + 1 + 1 + 1 := ⟨_, rfl⟩
  obtain ⟨bg, hbg⟩ : ∃ b, b = w.heap.size := ⟨_, rfl⟩
  have hN3 : w.heap.size ≤ w2.heap.size := hV3.below.size
  have hT2 := hT.below hV3.below
  have HT := Lib.hid hT
  rw [← hbc, ← hbr, ← hbw] at hV3 ⊢
  have hV4 : CutW w.heap.size bg bw br bc f W w (fun _ => 0) w2 := hbg ▸ hV3
  have HNb := Lib.hid (show w.heap.size ≤ bc ∧ bc ≠ bg ∧ bc ≠ bw ∧ bc ≠ br ∧ w.heap.size ≤ br ∧ br ≠ bc from ⟨by omega, by omega, by omega, by omega, by omega, by omega⟩)
  rw [show (Value.pointer (some ⟨w.heap.size, 0, none⟩)) = .pointer (some ⟨bg, 0, none⟩) by rw [hbg]]
  clear hbc hbr hbw hbg hV3 hMv hMz
  generalize V.heap.size = be at *
  clear hT
  refine wpIn_rangeFunc_ownG rfl (by decide) (gf := 74) (lb := #[.pointer (some ⟨be, 0, none⟩)]) rfl trivial (enters_of Tryd.func74 (by kernel_rfl) rfl)
    (Each_stops 2 (by decide) be w.heap.size W hW w2 hn1 hN3 HT.out.2 bN.cell hT2.1) belowK_t (belowK_b hN3) (Below.refl _ _) (fun _ => rfl)
    (fun pre V => CutW w.heap.size bg bw br bc f W w (cutL f W (valsF pre)) V) (fun _ _ _ => False) (cut_own (Nat.le_refl _) hN3) (fun _ _ _ _ _ hs _ _ => hs)
    ⟨hV4.g, hV4.s, hV4.r, hV4.c.congr fun t _ => by simp [cutL, valsF], hV4.below⟩
    (fun x => { tmps := #[.agg (grC f), .int .u16 (W : Int), .pointer (some ⟨bg, 0, none⟩), .pointer (some ⟨bw, 0, none⟩), .pointer (some ⟨br, 0, none⟩), .pointer (some ⟨bc, 0, none⟩), .int .i64 (x.val : Int), .int .u16 (W : Int), .func (.func 74) #[] #[.pointer (some ⟨be, 0, none⟩)], .int .i64 (x.val : Int), undef, undef, undef, undef, undef, undef, undef, undef], defers := [] }) ?assign ?body ?done ?stop
  case assign =>
    intro l x W3 K hK
    simp only [encT]
    gi_wp2
    exact hK
  case body =>
    rintro l pre t W3 hI hlt
    have hk := t.isLt
    have HS := Lib.hid (cutL_snoc f W (valsF pre) t.val)
    have HL := Lib.hid (valsF_snoc pre t)
    have kg := hI.g.cell hk
    have kw := hI.s.cell 0
    have HO := Lib.hid (u16_and_nat (f t.val) W (hf t.val hk) hW)
    have HV := Lib.hid hI
    clear hI
    generalize hkk : t.val = k at *
    have hk0 : (0 : Int) ≤ (k : Int) := by omega
    have hk16 : (k : Int) < 16 := by omega
    generalize hF : f k = fk at *
    gi_wp2
    refine wpIn_region_factsT 6 2 (fun V => Below W3.heap.size W3 V) [Fact.is (.int .i64 (k : Int)), Fact.is (.int .i64 (k : Int)), Fact.is (.pointer (some ⟨bg, k, none⟩)), Fact.is (.int .u16 (fk : Int)), Fact.is (.int .u16 (W : Int)), Fact.is (.int .u16 ((fk &&& W : Nat) : Int))] []
      (fun x => { tmps := #[.agg (grC f), .int .u16 (W : Int), .pointer (some ⟨bg, 0, none⟩), .pointer (some ⟨bw, 0, none⟩), .pointer (some ⟨br, 0, none⟩), .pointer (some ⟨bc, 0, none⟩), .int .i64 (k : Int), .int .u16 (W : Int), .func (.func 74) #[] #[.pointer (some ⟨be, 0, none⟩)], .int .i64 (k : Int), x 0, x 1, x 2, x 3, x 4, x 5, undef, undef], defers := [] }) (fun i => ([undef, undef, undef, undef, undef, undef] : List Value).getD i undef) (by kernel_rfl) rfl (by kernel_rfl) rfl (by kernel_rfl) (by kernel_rfl) ((Below.refl _ _).drew) (fun u v hu hB => hu.trans (hB.mono hu.size)) ?_ ?_
    · simp only [List.take_succ_cons, List.take_zero]
      refine ⟨⟨fun x v => rfl, fun x V hC hD => ?_⟩, ?_⟩
      · clear hD
        refine want_yes rfl ?_
        exact leads_value (by go_simp) ⟨Below.refl _ _, rfl, fun h => absurd h (by simp)⟩
      refine ⟨⟨fun x v => rfl, fun x V hC hD => ?_⟩, ?_⟩
      · clear hD
        refine want_yes rfl ?_
        exact leads_value (by go_simp) ⟨Below.refl _ _, rfl, fun h => absurd h (by simp)⟩
      refine ⟨⟨fun x v => rfl, fun x V hC hD => ?_⟩, ?_⟩
      · have e1 : x 1 = .int .i64 (k : Int) := hD.1 rfl
        clear hD
        refine want_yes rfl ?_
        exact leads_value (v := .pointer (some ⟨bg, k, none⟩)) (by go_simp) ⟨Below.refl _ _, rfl, fun h => absurd h (by simp)⟩
      refine ⟨⟨fun x v => rfl, fun x V hC hD => ?_⟩, ?_⟩
      · have e2 : x 2 = .pointer (some ⟨bg, k, none⟩) := hD.1 rfl
        clear hD
        refine want_yes rfl ?_
        have k0 := (hC.cell (p := ⟨bg, k, none⟩) HV.out.g.lt).trans kg
        exact leads_value (by go_simp) ⟨Below.refl _ _, rfl, fun h => absurd h (by simp)⟩
      refine ⟨⟨fun x v => rfl, fun x V hC hD => ?_⟩, ?_⟩
      · clear hD
        refine want_yes rfl ?_
        have k0 := (hC.cell (p := ⟨bw, 0, none⟩) HV.out.s.lt).trans kw
        exact leads_value (by go_simp) ⟨Below.refl _ _, rfl, fun h => absurd h (by simp)⟩
      refine ⟨⟨fun x v => rfl, fun x V hC hD => ?_⟩, ?_⟩
      · have e3 : x 3 = .int .u16 (fk : Int) := hD.1 rfl
        have e4 : x 4 = .int .u16 (W : Int) := hD.2.1 rfl
        clear hD
        refine want_yes rfl ?_
        exact leads_value (v := .int .u16 (bits .and .u16 (fk : Int) (W : Int))) (by go_simp) ⟨Below.refl _ _, by rw [HO.out]; rfl, fun h => absurd h (by simp)⟩
      trivial
    · intro x V hF2
      simp only [List.drop_succ_cons, List.drop_zero]
      have e0 : x 0 = .int .i64 (k : Int) := hF2.fact 0 (by decide) rfl
      have e1 : x 1 = .int .i64 (k : Int) := hF2.fact 1 (by decide) rfl
      have e2 : x 2 = .pointer (some ⟨bg, k, none⟩) := hF2.fact 2 (by decide) rfl
      have e3 : x 3 = .int .u16 (fk : Int) := hF2.fact 3 (by decide) rfl
      have e4 : x 4 = .int .u16 (W : Int) := hF2.fact 4 (by decide) rfl
      have e5 : x 5 = .int .u16 ((fk &&& W : Nat) : Int) := hF2.fact 5 (by decide) rfl
      have HB := Lib.hid (show Below W3.heap.size W3 V from hF2.c)
      clear hF2
      rw [e0, e1, e2, e3, e4, e5]
      clear e0 e1 e2 e3 e4 e5
      have hV5 := HV.out.step (Nat.le_refl _) HB.out
      have c0 := hV5.c.cell hk
      have c1 := hV5.c.free k
      have HV5 := Lib.hid hV5
      clear hV5
      go_wp2_with fail
      have hch := (Chg.ofBelow (S := fun j => j = bc) HB.out).trans ((Chg.refl (fun j => j = bc) V).setCell (p := ⟨bc, k, none⟩) (fun _ => rfl) (.int .u16 ((fk &&& W : Nat) : Int)))
      refine show _ ∧ _ ∧ _ from ⟨keeps_chg hch hV4.c.lt, hch.below HV.out.below.size fun _ e => e ▸ HNb.out.1, ?_⟩
      have hfin := HV5.out.set (Nat.le_refl _) HNb.out.1 HNb.out.2.1 HNb.out.2.2.1 HNb.out.2.2.2.1 hk (fk &&& W) (fun t _ => HS.out t)
      rw [← HL.out] at hfin
      exact hfin
  case done =>
    rintro D ys W3 hD hys hI hK
    rename_i hgo
    rw [hys] at hI
    have HI := Lib.hid hI
    have HK := Lib.hid hK
    clear hI hK hys
    refine hgo _ _ (wpIn_wide.2 ?_)
    clear hgo
    go_wp2_with (first | (refine wpList_load_gr rfl _ rfl rfl HI.out.c ?_) | (refine wpList_store_gr (g := cutL f W (tagsN W)) rfl rfl _ _ rfl rfl rfl HI.out.r ?_; intro w4 hw4; have HW := Lib.hid hw4; clear hw4))
    have hDn : D ≠ br := fun e => by
      have h1 := HK.out
      rw [e, show W3.heap[br]? = _ from HI.out.r] at h1
      cases h1
    have hDl : D < W3.heap.size := (Array.getElem?_eq_some_iff.1 HK.out).1
    have hK4 := (HW.out.chg.block D hDl hDn).trans HK.out
    refine ⟨by simp, .inl ⟨_, _, rfl, run_takeDeferred hK4, ?_⟩⟩
    have hg := grownBy_putObj' w4 D (.deferred none)
    have hr4 : GRow (w4.putObj D (.deferred none)) br (cutL f W (tagsN W)) := Blk.grown HW.out.blk hg fun r e => by cases e; exact ⟨_, hK4, rfl⟩
    have hb4 : Below w.heap.size w w4 := HI.out.below.trans (HW.out.chg.below HI.out.below.size fun _ e => e ▸ HNb.out.2.2.2.2.1)
    refine ⟨_, results_gr rfl rfl (hr4.congr fun t ht => cutL_tags f ht), rfl, hb4.grown hg hb4.size fun k e => by cases e; exact Nat.le_trans hN3 hD⟩
  case stop =>
    rintro D c pre W3 _ _ h _
    exact h.elim
end Go.Proofs.YtoieodlpoglmfaaDoor

/-! PolE -/
namespace Go.Proofs.YtoieodlpoglmfaaDoor
open Go.RowKit

/-- All labels of a policy, and all owners. -/
def labsC (p : Pol) : Array Value := ((List.range 32).map (fun j => polAt p (1 + j))).toArray
theorem labsC_size (p : Pol) : (labsC p).size = 32 := by simp [labsC]
theorem labsC_get (p : Pol) {j : Nat} (h : j < 32) : (labsC p)[j]? = some (polAt p (1 + j)) := by simp [labsC, h]
theorem pol_labs (p : Pol) (i : Nat) (hi : i < (labsC p).size) : (polC p)[1 + i]? = (labsC p)[i]? := by
  rw [labsC_size] at hi
  rw [labsC_get p hi, polC_get p (by omega)]
def ownsC (p : Pol) : Array Value := arrC .u8 16 p.owner
theorem ownsC_size (p : Pol) : (ownsC p).size = 16 := arrC_size _ _ _
theorem ownsC_get (p : Pol) {j : Nat} (h : j < 16) : (ownsC p)[j]? = some (.int .u8 (p.owner j : Nat)) := arrC_get _ _ h
theorem pol_owns (p : Pol) (i : Nat) (hi : i < (ownsC p).size) : (polC p)[49 + i]? = (ownsC p)[i]? := by
  rw [ownsC_size] at hi
  rw [ownsC_get p hi, polC_get p (by omega)]
  unfold polAt
  rw [if_neg (by omega), if_neg (by omega), if_neg (by omega), if_pos (by omega), show 49 + i - 49 = i by omega]
theorem infoLabs (p : Pol) : (Tryd.prog.info? 25).map (·.size) = some (labsC p).size := by rw [labsC_size]; kernel_rfl
theorem infoOwns (p : Pol) : (Tryd.prog.info? 27).map (·.size) = some (ownsC p).size := by rw [ownsC_size]; kernel_rfl
theorem labs_part (p : Pol) {k : Nat} (hk : k < 16) : (labsC p).extract (k * 2) (k * 2 + 2) = #[.int .u16 (p.s k : Nat), .int .u16 (p.i k : Nat)] := by
  have hs : ((labsC p).extract (k * 2) (k * 2 + 2)).size = 2 := by rw [Array.size_extract, labsC_size]; omega
  apply Array.ext_getElem?
  intro i
  match i with
  | 0 =>
    rw [Array.getElem?_extract_of_lt (by rw [labsC_size]; omega), ← Array.getElem?_eq_getElem, labsC_get p (by omega)]
    unfold polAt
    rw [if_neg (by omega), if_pos (by omega), if_pos (by omega), show (1 + (k * 2 + 0)) / 2 = k by omega]; rfl
  | 1 =>
    rw [Array.getElem?_extract_of_lt (by rw [labsC_size]; omega), ← Array.getElem?_eq_getElem, labsC_get p (by omega)]
    unfold polAt
    rw [if_neg (by omega), if_pos (by omega), if_neg (by omega), show (1 + (k * 2 + 1)) / 2 - 1 = k by omega]; rfl
  | i + 2 =>
    rw [Array.getElem?_eq_none (by rw [hs]; omega)]; rfl
theorem infoLab : ∃ i, Tryd.prog.info? 24 = some i := Go.info_of_underlying Tryd.underlying24
theorem run_index_labs (p : Pol) {k : Nat} (hk : k < 16) (w : World) : (Instr.index 25 (.agg (labsC p)) (.int .i64 (k : Int))).run Tryd.prog w = .ok (.agg #[.int .u16 (p.s k : Nat), .int .u16 (p.i k : Nat)]) w := by
  obtain ⟨i, hi⟩ := infoLab
  have h2 : (k : Int) < 16 := by omega
  have hz : Tryd.prog.cellsOf 24 = 2 := by kernel_rfl
  simp only [Instr.index, asIntOf, Sem.run_bind, Sem.run_pure, Result.andThen_ok, run_underlying Tryd.underlying25]
  rw [if_pos ⟨Int.natCast_nonneg k, h2⟩]
  simp only [Sem.run_bind, run_sizeOf w hi, Result.andThen_ok, hz, Int.toNat_natCast]
  simp only [part, isAgg, Sem.run_bind, run_underlying Tryd.underlying24, Result.andThen_ok, Sem.run_pure, run_sizeOf w hi, hz, if_true, labs_part p hk]
theorem run_index_owns (p : Pol) {k : Nat} (hk : k < 16) (w : World) : (Instr.index 27 (.agg (ownsC p)) (.int .i64 (k : Int))).run Tryd.prog w = .ok (.int .u8 (p.owner k : Nat)) w := by
  obtain ⟨i, hi⟩ : ∃ i, Tryd.prog.info? 5 = some i := Go.info_of_underlying Tryd.underlying5
  have h2 : (k : Int) < 16 := by omega
  simp only [Instr.index, asIntOf, Sem.run_bind, Sem.run_pure, Result.andThen_ok, run_underlying Tryd.underlying27]
  rw [if_pos ⟨Int.natCast_nonneg k, h2⟩]
  simp only [Sem.run_bind, run_sizeOf w hi, Result.andThen_ok, show Tryd.prog.cellsOf 5 = 1 by kernel_rfl, Nat.mul_one, Int.toNat_natCast]
  exact run_part_plain (P := Tryd.prog) w (e := 5) (by kernel_rfl) (ownsC_get p hk)
/-- A set of one. -/
theorem of_one (w : World) (k : Nat) : Calls Tryd.prog 40 #[.slice (some ⟨w.heap.size, 0, none⟩) 1 1] (w.alloc (.cells #[.int .i64 (k : Int)] 3)) fun e w' => e = .returned (.int .u16 (ofL 0 [(k : Int)] : Nat)) ∧ w.alloc (.cells #[.int .i64 (k : Int)] 3) = w' :=
  Of_any _ _ _ (ints_one w (k : Int))
set_option maxRecDepth 100000 in
set_option maxHeartbeats 3200000 in
theorem pSeen_any : PSeenC := by
  intro p lx ly w hp _ hlx hly
  have HG0 := Lib.hid (PLW.new w p lx ly)
  have HHa := Lib.hid (fun V (r : Nat) => Has_any p.live (r : Int) V hp.live)
  have HFa := Lib.hid (fun V r (hr : r < 16) => lFlows_any (p.s r) (p.i r) lx ly V (hp.s r hr) (hp.i r hr) hlx hly)
  have HN := Lib.hid (show seenN p lx ly = setG (seenB p lx ly) 16 from rfl)
  have hix := fun (k : Nat) (hk : k < 16) (V : World) => run_index_labs p hk V
  rw [HN.out]
  clear hp hlx hly HN
  go_enter Tryd.func13, Tryd.ntmps13
  have hrow := HG0.out.pw.row
  go_wp2_with (refine wpList_load_mid rfl _ _ rfl rfl hrow (pol_labs p) Tryd.underlying25 rfl (infoLabs p) ?_)
  clear hrow
  generalize (w.alloc (.cells (polC p) 29)).alloc _ = w1 at *
  generalize w.heap.size = bp at *
  go_loopw [5, 10] (fun o i wr => ∃ k : Nat, k ≤ 16 ∧ i = .int .i64 (k : Int) ∧ o = .int .u16 (setG (seenB p lx ly) k : Nat) ∧ PLW w bp p lx ly wr) (fun _ i _ => 16 - (intOf i).toNat)
  case atStart => exact ⟨0, by omega, rfl, rfl, HG0.out⟩
  case round =>
    obtain ⟨k, hk, rfl, rfl, hg⟩ := hrel
    have HG := Lib.hid hg
    clear hg HG0
    by_cases hlt : k < 16
    · have dk : decide ((k : Int) < 16) = true := by simp; omega
      have hk16 : (k : Int) < 16 := by omega
      have hk0 : (0 : Int) ≤ (k : Int) := by omega
      have hxi := fun V => hix k hlt V
      have HU := Lib.hid (setG_lt (seenB p lx ly) (k := k) (by omega))
      have HHas := Lib.hid (fun V => HHa.out V k)
      rw [hasB_bit] at HHas
      have HFl := Lib.hid (fun V => HFa.out V k hlt)
      have HSb := Lib.hid (show seenB p lx ly k = (p.live.testBit k && flowsB (p.s k) (p.i k) lx ly) from rfl)
      have kl := HG.out.pw.row.live
      go_upto_region 5 with fail
      have HG2 := Lib.hid (HG.out.step (belowNew wr (.cells #[.int .u16 (p.s k : Nat), .int .u16 (p.i k : Nat)] 24)))
      have HO := Lib.hid (Blk.new wr #[.int .u16 (p.s k : Nat), .int .u16 (p.i k : Nat)] 24)
      generalize wr.alloc (.cells #[.int .u16 (p.s k : Nat), .int .u16 (p.i k : Nat)] 24) = w2 at *
      clear HG kl hxi
      have kl := HG2.out.pw.row.live
      cases hl : p.live.testBit k with
      | false =>
        rw [hl] at HHas
        have HS := Lib.hid (setG_no (b := seenB p lx ly) (k := k) (by rw [HSb.out, hl]; rfl))
        clear hl
        generalize setG (seenB p lx ly) k = U at *
        go_wp2_with fail
        with_reducible refine (HHas.out _).mono ?_
        rintro e wx ⟨rfl, rfl⟩
        clear kl
        go_wp2_with fail
        go_roundw
        case rel => first | exact ⟨k + 1, by omega, by go_num, by rw [HS.out], HG2.out⟩ | ((repeat apply Exists.intro); exact ⟨⟨k + 1, by omega, by go_num, by rw [HS.out], HG2.out⟩, rfl⟩)
        case measure => simp [intOf]; omega
      | true =>
        rw [hl] at HHas
        have a0 := HO.out.cell 0
        have a1 := HO.out.cell 1
        have l0 := HG2.out.lab.cell 0
        have l1 := HG2.out.lab.cell 1
        cases hf : flowsB (p.s k) (p.i k) lx ly with
        | false =>
          rw [hf] at HFl
          have HS := Lib.hid (setG_no (b := seenB p lx ly) (k := k) (by rw [HSb.out, hl, hf]; rfl))
          clear hl hf HSb
          generalize setG (seenB p lx ly) k = U at *
          go_wp2_with fail
          with_reducible refine (HHas.out _).mono ?_
          rintro e wx ⟨rfl, rfl⟩
          go_wp2_with fail
          with_reducible refine (HFl.out _).mono ?_
          rintro e w3 ⟨rfl, hB3⟩
          have HG3 := Lib.hid (HG2.out.step hB3)
          clear hB3 a0 a1 l0 l1 kl
          go_wp2_with fail
          go_roundw
          case rel => first | exact ⟨k + 1, by omega, by go_num, by rw [HS.out], HG3.out⟩ | ((repeat apply Exists.intro); exact ⟨⟨k + 1, by omega, by go_num, by rw [HS.out], HG3.out⟩, rfl⟩)
          case measure => simp [intOf]; omega
        | true =>
          rw [hf] at HFl
          have HS := Lib.hid (setG_yes (b := seenB p lx ly) (k := k) (by rw [HSb.out, hl, hf]; rfl))
          have HW := Lib.hid (ofL_with HU.out hlt)
          clear hl hf HSb
          generalize setG (seenB p lx ly) k = U at *
          go_wp2_with fail
          with_reducible refine (HHas.out _).mono ?_
          rintro e wx ⟨rfl, rfl⟩
          go_wp2_with fail
          with_reducible refine (HFl.out _).mono ?_
          rintro e w3 ⟨rfl, hB3⟩
          have HG3 := Lib.hid (HG2.out.step hB3)
          clear hB3 a0 a1 l0 l1 kl
          go_wp2_with fail
          with_reducible refine (of_one w3 k).mono ?_
          rintro e w4 ⟨rfl, rfl⟩
          go_wp2_with fail
          go_roundw
          case rel => first | exact ⟨k + 1, by omega, by go_num, by rw [HW.out, HS.out], HG3.out.step (belowNew _ _)⟩ | ((repeat apply Exists.intro); exact ⟨⟨k + 1, by omega, by go_num, by rw [HW.out, HS.out], HG3.out.step (belowNew _ _)⟩, rfl⟩)
          case measure => simp [intOf]; omega
    · obtain rfl : k = 16 := by omega
      go_wp2_with fail
      go_ret
      exact ⟨rfl, HG.out.pw.all⟩
end Go.Proofs.YtoieodlpoglmfaaDoor

/-! PolF -/
namespace Go.Proofs.YtoieodlpoglmfaaDoor
open Go.RowKit

set_option maxRecDepth 100000 in
set_option maxHeartbeats 3200000 in
theorem pOwned_any : POwnedC := by
  intro p R w hp _ hR
  have HG0 := Lib.hid (show PW w w.heap.size p (w.alloc (.cells (polC p) 29)) from ⟨belowNew w _, PRow.new w p, rfl⟩)
  have HHa := Lib.hid (fun V (o : Nat) => Has_any R (o : Int) V hR)
  have HO := Lib.hid hp.owner
  have HN := Lib.hid (show ownedN p R = setG (fun t => R.testBit (p.owner t)) 16 from rfl)
  have HIX := Lib.hid (fun (k : Nat) (hk : k < 16) (V : World) => run_index_owns p hk V)
  rw [HN.out]
  clear hp hR HN
  go_enter Tryd.func19, Tryd.ntmps19
  have hrow := HG0.out.row
  go_wp2_with (refine wpList_load_mid rfl _ _ rfl rfl hrow (pol_owns p) Tryd.underlying27 rfl (infoOwns p) ?_)
  clear hrow
  generalize w.alloc (.cells (polC p) 29) = w1 at *
  generalize w.heap.size = bp at *
  go_loopw [5, 10] (fun o i wr => ∃ k : Nat, k ≤ 16 ∧ i = .int .i64 (k : Int) ∧ o = .int .u16 (setG (fun t => R.testBit (p.owner t)) k : Nat) ∧ PW w bp p wr) (fun _ i _ => 16 - (intOf i).toNat)
  case atStart => exact ⟨0, by omega, rfl, rfl, HG0.out⟩
  case round =>
    obtain ⟨k, hk, rfl, rfl, hg⟩ := hrel
    have HG := Lib.hid hg
    clear hg HG0
    by_cases hlt : k < 16
    · have dk : decide ((k : Int) < 16) = true := by simp; omega
      have hk16 : (k : Int) < 16 := by omega
      have hk0 : (0 : Int) ≤ (k : Int) := by omega
      have hxi := fun V => HIX.out k hlt V
      have HU := Lib.hid (setG_lt (fun t => R.testBit (p.owner t)) (k := k) (by omega))
      have ho := HO.out k hlt
      have HHas := Lib.hid (fun V => HHa.out V (p.owner k))
      rw [hasB_bit] at HHas
      cases hl : R.testBit (p.owner k) with
      | false =>
        rw [hl] at HHas
        have HS := Lib.hid (setG_no (b := fun t => R.testBit (p.owner t)) (k := k) hl)
        clear hl
        generalize setG (fun t => R.testBit (p.owner t)) k = U at *
        generalize p.owner k = po at *
        go_wp2_with fail
        with_reducible refine (HHas.out _).mono ?_
        rintro e wx ⟨rfl, rfl⟩
        go_wp2_with fail
        go_roundw
        case rel => first | exact ⟨k + 1, by omega, by go_num, by rw [HS.out], HG.out⟩ | ((repeat apply Exists.intro); exact ⟨⟨k + 1, by omega, by go_num, by rw [HS.out], HG.out⟩, rfl⟩)
        case measure => simp [intOf]; omega
      | true =>
        rw [hl] at HHas
        have HS := Lib.hid (setG_yes (b := fun t => R.testBit (p.owner t)) (k := k) hl)
        have HW := Lib.hid (ofL_with HU.out hlt)
        clear hl
        generalize setG (fun t => R.testBit (p.owner t)) k = U at *
        generalize p.owner k = po at *
        go_wp2_with fail
        with_reducible refine (HHas.out _).mono ?_
        rintro e wx ⟨rfl, rfl⟩
        go_wp2_with fail
        with_reducible refine (of_one wr k).mono ?_
        rintro e w4 ⟨rfl, rfl⟩
        go_wp2_with fail
        go_roundw
        case rel => first | exact ⟨k + 1, by omega, by go_num, by rw [HW.out, HS.out], HG.out.step (belowNew _ _)⟩ | ((repeat apply Exists.intro); exact ⟨⟨k + 1, by omega, by go_num, by rw [HW.out, HS.out], HG.out.step (belowNew _ _)⟩, rfl⟩)
        case measure => simp [intOf]; omega
    · obtain rfl : k = 16 := by omega
      go_wp2_with fail
      go_ret
      exact ⟨rfl, HG.out.all⟩
theorem ofL_pw {a : Int} (h0 : 0 ≤ a) (h1 : a < 16) : ofL 0 [a] = withN 0 a.toNat := by
  obtain ⟨k, rfl⟩ := Int.eq_ofNat_of_zero_le h0
  rw [Int.toNat_natCast, ofL_one (by omega)]
  unfold pw withN; rw [Nat.zero_or]
theorem ofL_out {a : Int} (h : ¬ (0 ≤ a ∧ a < 16)) : ofL 0 [a] = 0 := by
  unfold ofL ofL
  rw [if_neg h]
theorem down_out (f : Nat → Nat) {W : Nat} (hW : W < 65536) : downN f 0 W = 0 := by
  apply Nat.eq_of_testBit_eq
  intro c
  rw [Nat.zero_testBit]
  cases h : (downN f 0 W).testBit c with
  | false => rfl
  | true =>
    obtain ⟨a, ha, -⟩ := (downN_bit hW c).1 h
    rw [Nat.zero_testBit] at ha
    cases ha
/-- The roles for which any number, a role or not, acts. -/
def forN (p : Pol) (a : Int) (x y : Nat) : Nat := downN p.acts (ofL 0 [a]) (seenN p x y)
theorem ofL_small (a : Int) : ofL 0 [a] < 65536 := ofL_lt (s := 0) (by decide) [a]
theorem forN_lt (p : Pol) (a : Int) (x y : Nat) : forN p a x y < 65536 := downN_lt _ _ (ofL_small a)
theorem forN_acts (p : Pol) (a b : Int) (x y : Nat) : hasB (forN p a x y) b = actsB p a b x y := by
  unfold forN actsB
  by_cases h : a < 0 ∨ 15 < a
  · rw [if_pos h, ofL_out (by omega), down_out _ (seenN_lt p x y)]
    simp [hasB]
  · rw [if_neg h, ofL_pw (by omega) (by omega)]
theorem forN_caps (p : Pol) (a : Int) (x y : Nat) : ownedN p (forN p a x y) &&& p.active = capsN p a x y := by
  apply Nat.eq_of_testBit_eq
  intro t
  unfold ownedN capsN
  rw [Nat.testBit_and, setG_bit, setG_bit]
  unfold capB
  rw [← forN_acts, hasB_bit]
  by_cases h16 : p.owner t < 16
  · rw [decide_eq_true h16]
    cases decide (t < 16) <;> cases p.active.testBit t <;> simp
  · rw [decide_eq_false h16, Nat.testBit_lt_two_pow (Nat.lt_of_lt_of_le (forN_lt p a x y) (show 65536 ≤ 2 ^ p.owner t from Nat.pow_le_pow_right (n := 2) (by decide) (show 16 ≤ p.owner t by omega)))]
    simp
def PDownC : Prop := ∀ (p : Pol) (a : Int) (x y : Nat) (w : World), TabOk w → PolOk p → fineP p = true → x < 65536 → y < 65536 → Calls Tryd.prog 47 #[.agg (polC p), .int .i64 a, .agg #[.int .u16 (x : Int), .int .u16 (y : Int)]] w fun e w' => e = .returned (.int .u16 (forN p a x y : Nat)) ∧ Below w.heap.size w w'
set_option maxRecDepth 100000 in
set_option maxHeartbeats 3200000 in
theorem pDown_any : PDownC := by
  intro p a lx ly w hT hp hf hlx hly
  have HG := Lib.hid (PLW.new w p lx ly)
  have HN := Lib.hid (show forN p a lx ly = downN p.acts (ofL 0 [a]) (seenN p lx ly) from rfl)
  have HSn := Lib.hid (fun V => pSeen_any p lx ly V hp hf hlx hly)
  have HDn := Lib.hid (fun V (hV : Since w V) => gDown_any p.acts (ofL 0 [a]) (seenN p lx ly) V (hT.since hV) hp.acts (ofL_small a) (seenN_lt p lx ly))
  have HS0 := Lib.hid (show ofL 0 [a] = ofL 0 [a] from rfl)
  rw [HN.out]
  clear hT hp hf hlx hly HN
  generalize downN p.acts (ofL 0 [a]) (seenN p lx ly) = dn at *
  generalize seenN p lx ly = sn at *
  generalize hs0 : ofL 0 [a] = s0 at HDn
  have HS0 := Lib.hid hs0
  clear hs0
  go_enter Tryd.func47, Tryd.ntmps47
  go_upto_region 1 with fail
  generalize (w.alloc (.cells (polC p) 29)).alloc _ = w1 at *
  generalize w.heap.size = bp at *
  refine wp_region_F (fun V => PLW w bp p lx ly V) [Fact.is (.pointer (some ⟨bp, 33, none⟩)), Fact.is (.agg (grC p.acts)), Fact.is (.int .i64 a), intsF [a], Fact.is (.int .u16 (s0 : Int)), Fact.is (.agg (polC p)), Fact.is (.agg #[.int .u16 (lx : Int), .int .u16 (ly : Int)]), Fact.is (.int .u16 (sn : Int)), Fact.is (.int .u16 (dn : Int)), Fact.is (.int .u16 (dn : Int))]
    (fun x => { tmps := #[.agg (polC p), .int .i64 a, .agg #[.int .u16 (lx : Int), .int .u16 (ly : Int)], .pointer (some ⟨bp, 0, none⟩), undef, .pointer (some ⟨bp + 1, 0, none⟩), x 9, x 0, x 1, x 2, x 3, x 4, x 5, x 6, x 7, x 8], defers := [] }) (fun i => ([undef, undef, undef, undef, undef, undef, undef, undef, undef, .int .u16 0] : List Value).getD i undef) (by kernel_rfl) rfl rfl (by kernel_rfl) (HG.out.step (Below.refl _ _).drew) (fun u v hu hB => hu.step hB) ?_ ?_
  · refine ⟨⟨fun x v => rfl, fun x V hC hD => ?_⟩, ?_⟩
    · clear hD
      refine want_yes rfl ?_
      exact leads_value (v := .pointer (some ⟨bp, 33, none⟩)) (by go_simp) ⟨Below.refl _ _, rfl⟩
    refine ⟨⟨fun x v => rfl, fun x V hC hD => ?_⟩, ?_⟩
    · have e0 : (x 0) = .pointer (some ⟨bp, 33, none⟩) := hD.1 rfl
      clear hD
      refine want_yes rfl ?_
      exact leads_value (exec_load_mid rfl e0 hC.pw.row (fun j hj => pol_acts p hj)) ⟨Below.refl _ _, rfl⟩
    refine ⟨⟨fun x v => rfl, fun x V hC hD => ?_⟩, ?_⟩
    · clear hD
      refine want_yes rfl ?_
      exact leads_value (v := .int .i64 a) (by go_simp) ⟨Below.refl _ _, rfl⟩
    refine ⟨⟨fun x v => rfl, fun x V hC hD => ?_⟩, ?_⟩
    · have e2 : (x 2) = .int .i64 a := hD.1 rfl
      clear hD
      refine want_yes rfl ?_
      exact leads_value (by go_simp) ⟨below_one _ _, ints_one _ _⟩
    refine ⟨⟨fun x v => rfl, fun x V hC hD => ?_⟩, ?_⟩
    · have e3 : IntsAt V ((x 3)) [a] := hD.1 rfl
      clear hD
      refine want_yes rfl ?_
      exact leads_enter2 (by go_simp) ((Of_any _ _ V e3).mono fun e w'' ⟨he, hw⟩ => ⟨_, he, hw ▸ Below.refl _ _, congrArg (fun n : Nat => Value.int .u16 (n : Int)) HS0.out⟩)
    refine ⟨⟨fun x v => rfl, fun x V hC hD => ?_⟩, ?_⟩
    · clear hD
      refine want_yes rfl ?_
      exact leads_value (exec_load_pol rfl rfl hC.pw.row) ⟨Below.refl _ _, rfl⟩
    refine ⟨⟨fun x v => rfl, fun x V hC hD => ?_⟩, ?_⟩
    · clear hD
      refine want_yes rfl ?_
      have k0 := hC.lab.cell 0
      have k1 := hC.lab.cell 1
      exact leads_value (v := .agg #[.int .u16 (lx : Int), .int .u16 (ly : Int)]) (by go_simp) ⟨Below.refl _ _, rfl⟩
    refine ⟨⟨fun x v => rfl, fun x V hC hD => ?_⟩, ?_⟩
    · have e5 : (x 5) = .agg (polC p) := hD.1 rfl
      have e6 : (x 6) = .agg #[.int .u16 (lx : Int), .int .u16 (ly : Int)] := hD.2.1 rfl
      have e4 : (x 4) = .int .u16 (s0 : Int) := hD.2.2.1 rfl
      clear hD
      refine want_yes rfl ?_
      exact leads_enter2 (by go_simp) ((HSn.out V).mono fun e w'' ⟨he, hB⟩ => ⟨_, he, hB, rfl⟩)
    refine ⟨⟨fun x v => rfl, fun x V hC hD => ?_⟩, ?_⟩
    · have e1 : (x 1) = .agg (grC p.acts) := hD.1 rfl
      have e4 : (x 4) = .int .u16 (s0 : Int) := hD.2.1 rfl
      have e7 : (x 7) = .int .u16 (sn : Int) := hD.2.2.1 rfl
      clear hD
      refine want_yes rfl ?_
      exact leads_enter2 (by go_simp) ((HDn.out V hC.pw.all).mono fun e w'' ⟨he, hB⟩ => ⟨_, he, hB, rfl⟩)
    refine ⟨⟨fun x v => rfl, fun x V hC hD => ?_⟩, ?_⟩
    · have e8 : (x 8) = .int .u16 (dn : Int) := hD.1 rfl
      have e0 : (x 0) = .pointer (some ⟨bp, 33, none⟩) := hD.2.2.1 rfl
      have e1 : (x 1) = .agg (grC p.acts) := hD.2.2.2.1 rfl
      have e2 : (x 2) = .int .i64 a := hD.2.2.2.2.1 rfl
      have e3 : IntsAt V ((x 3)) [a] := hD.2.2.2.2.2.1 rfl
      have e4 : (x 4) = .int .u16 (s0 : Int) := hD.2.2.2.2.2.2.1 rfl
      have e5 : (x 5) = .agg (polC p) := hD.2.2.2.2.2.2.2.1 rfl
      have e6 : (x 6) = .agg #[.int .u16 (lx : Int), .int .u16 (ly : Int)] := hD.2.2.2.2.2.2.2.2.1 rfl
      have e7 : (x 7) = .int .u16 (sn : Int) := hD.2.2.2.2.2.2.2.2.2.1 rfl
      clear hD
      refine want_yes rfl ?_
      exact leads_value (v := .int .u16 (dn : Int)) (by go_simp) ⟨Below.refl _ _, rfl⟩
    trivial
  · intro xa V hC hF
    have e9 : xa 9 = .int .u16 (dn : Int) := hF 9 (by simp)
    have HV := Lib.hid (show PLW w bp p lx ly V from hC)
    clear hF hC
    rw [e9]
    clear e9
    go_wp2_with fail
    go_ret
    exact ⟨rfl, HV.out.pw.all⟩
set_option maxRecDepth 100000 in
set_option maxHeartbeats 3200000 in
theorem pActs_any : PActsC := by
  intro p a b lx ly w hT hp hf hlx hly _ _ _ _
  have HG := Lib.hid (PLW.new w p lx ly)
  have HN := Lib.hid (forN_acts p a b lx ly)
  have HDn := Lib.hid (fun V (hV : Since w V) => pDown_any p a lx ly V (hT.since hV) hp hf hlx hly)
  have HHa := Lib.hid (fun V => Has_any (forN p a lx ly) b V (forN_lt p a lx ly))
  rw [← HN.out]
  clear hT hp hf hlx hly HN
  generalize forN p a lx ly = dn at *
  have hrow := HG.out.pw.row
  have l0 := HG.out.lab.cell 0
  have l1 := HG.out.lab.cell 1
  go_enter Tryd.func15, Tryd.ntmps15
  go_wp2_with (refine wpList_load_arr rfl _ _ rfl rfl hrow Tryd.underlying29 rfl (infoPol _) ?_)
  refine (HDn.out _ HG.out.pw.all).mono ?_
  rintro e w2 ⟨rfl, hB2⟩
  have HB := Lib.hid (HG.out.step hB2)
  clear hB2 hrow l0 l1 HG
  go_wp2_with fail
  with_reducible refine (HHa.out _).mono ?_
  rintro e wx ⟨rfl, rfl⟩
  go_wp2_with fail
  go_ret
  exact ⟨rfl, HB.out.pw.all⟩
set_option maxRecDepth 100000 in
set_option maxHeartbeats 3200000 in
theorem pCaps_any : PCapsC := by
  intro p a lx ly w hT hp hf hlx hly _ _
  have HG := Lib.hid (PLW.new w p lx ly)
  have HDn := Lib.hid (fun V (hV : Since w V) => pDown_any p a lx ly V (hT.since hV) hp hf hlx hly)
  have HOw := Lib.hid (fun V => pOwned_any p (forN p a lx ly) V hp hf (forN_lt p a lx ly))
  have hcs := u16_and_nat (ownedN p (forN p a lx ly)) p.active (setG_lt _ (Nat.le_refl _)) hp.active
  rw [forN_caps] at hcs
  have HCs := Lib.hid hcs
  clear hT hp hf hlx hly hcs
  generalize capsN p a lx ly = cs at *
  generalize ownedN p (forN p a lx ly) = ow at *
  generalize forN p a lx ly = dn at *
  go_enter Tryd.func17, Tryd.ntmps17
  go_upto_region 1 with fail
  generalize (w.alloc (.cells (polC p) 29)).alloc _ = w1 at *
  generalize w.heap.size = bp at *
  refine wp_region_S (fun _ V => PLW w bp p lx ly V) 0 [.val (.agg (polC p)), .val (.agg (polC p)), .val (.int .i64 a), .val (.agg #[.int .u16 (lx : Int), .int .u16 (ly : Int)]), .val (.int .u16 (dn : Int)), .val (.int .u16 (ow : Int)), .val (.pointer (some ⟨bp, 65, none⟩)), .val (.int .u16 (p.active : Int)), .val (.int .u16 (cs : Int)), .val (.int .u16 (cs : Int))]
    (fun x => { tmps := #[.agg (polC p), .int .i64 a, .agg #[.int .u16 (lx : Int), .int .u16 (ly : Int)], .pointer (some ⟨bp, 0, none⟩), undef, .pointer (some ⟨bp + 1, 0, none⟩), x 9, x 0, x 1, x 2, x 3, x 4, x 5, x 6, x 7, x 8], defers := [] }) (fun i => ([undef, undef, undef, undef, undef, undef, undef, undef, undef, .int .u16 0] : List Value).getD i undef) (by kernel_rfl) rfl rfl (by kernel_rfl) (by kernel_rfl) (by kernel_rfl) (by kernel_rfl) (HG.out.step (Below.refl _ _).drew) ?_ ?_
  · refine ⟨ObS.of_val rfl (fun x v => rfl) (fun x V kst hC hD => ?_), ?_⟩
    · clear hD
      refine want_yes rfl ?_
      exact leads_value (exec_load_pol rfl rfl hC.pw.row) ⟨rfl, hC⟩
    refine ⟨ObS.of_val rfl (fun x v => rfl) (fun x V kst hC hD => ?_), ?_⟩
    · clear hD
      refine want_yes rfl ?_
      exact leads_value (exec_load_pol rfl rfl hC.pw.row) ⟨rfl, hC⟩
    refine ⟨ObS.of_val rfl (fun x v => rfl) (fun x V kst hC hD => ?_), ?_⟩
    · clear hD
      refine want_yes rfl ?_
      exact leads_value (v := .int .i64 a) (by go_simp) ⟨rfl, hC⟩
    refine ⟨ObS.of_val rfl (fun x v => rfl) (fun x V kst hC hD => ?_), ?_⟩
    · clear hD
      refine want_yes rfl ?_
      have k0 := hC.lab.cell 0
      have k1 := hC.lab.cell 1
      exact leads_value (v := .agg #[.int .u16 (lx : Int), .int .u16 (ly : Int)]) (by go_simp) ⟨rfl, hC⟩
    refine ⟨ObS.of_val rfl (fun x v => rfl) (fun x V kst hC hD => ?_), ?_⟩
    · have e1 : x 1 = .agg (polC p) := hD.1 rfl
      have e2 : x 2 = .int .i64 a := hD.2.1 rfl
      have e3 : x 3 = .agg #[.int .u16 (lx : Int), .int .u16 (ly : Int)] := hD.2.2.1 rfl
      clear hD
      refine want_yes rfl ?_
      exact leads_enter2 (by go_simp) ((HDn.out V hC.pw.all).mono fun e w'' ⟨he, hB⟩ => ⟨_, he, rfl, hC.step hB⟩)
    refine ⟨ObS.of_val rfl (fun x v => rfl) (fun x V kst hC hD => ?_), ?_⟩
    · have e0 : x 0 = .agg (polC p) := hD.1 rfl
      have e4 : x 4 = .int .u16 (dn : Int) := hD.2.1 rfl
      clear hD
      refine want_yes rfl ?_
      exact leads_enter2 (by go_simp) ((HOw.out V).mono fun e w'' ⟨he, hB⟩ => ⟨_, he, rfl, hC.step hB⟩)
    refine ⟨ObS.of_val rfl (fun x v => rfl) (fun x V kst hC hD => ?_), ?_⟩
    · clear hD
      refine want_yes rfl ?_
      exact leads_value (v := .pointer (some ⟨bp, 65, none⟩)) (by go_simp) ⟨rfl, hC⟩
    refine ⟨ObS.of_val rfl (fun x v => rfl) (fun x V kst hC hD => ?_), ?_⟩
    · have e6 : x 6 = .pointer (some ⟨bp, 65, none⟩) := hD.1 rfl
      clear hD
      refine want_yes rfl ?_
      have k0 := hC.pw.row.active
      exact leads_value (v := .int .u16 (p.active : Int)) (by go_simp) ⟨rfl, hC⟩
    refine ⟨ObS.of_val rfl (fun x v => rfl) (fun x V kst hC hD => ?_), ?_⟩
    · have e5 : x 5 = .int .u16 (ow : Int) := hD.1 rfl
      have e7 : x 7 = .int .u16 (p.active : Int) := hD.2.1 rfl
      clear hD
      refine want_yes rfl ?_
      have ho := HCs.out
      exact leads_value (v := .int .u16 (cs : Int)) (by go_simp) ⟨rfl, hC⟩
    refine ⟨ObS.of_val rfl (fun x v => rfl) (fun x V kst hC hD => ?_), ?_⟩
    · have e8 : x 8 = .int .u16 (cs : Int) := hD.1 rfl
      have e5 : x 5 = .int .u16 (ow : Int) := hD.2.1 rfl
      have e0 : x 0 = .agg (polC p) := hD.2.2.1 rfl
      have e1 : x 1 = .agg (polC p) := hD.2.2.2.1 rfl
      have e2 : x 2 = .int .i64 a := hD.2.2.2.2.1 rfl
      have e3 : x 3 = .agg #[.int .u16 (lx : Int), .int .u16 (ly : Int)] := hD.2.2.2.2.2.1 rfl
      have e4 : x 4 = .int .u16 (dn : Int) := hD.2.2.2.2.2.2.1 rfl
      have e6 : x 6 = .pointer (some ⟨bp, 65, none⟩) := hD.2.2.2.2.2.2.2.2.1 rfl
      have e7 : x 7 = .int .u16 (p.active : Int) := hD.2.2.2.2.2.2.2.2.2.1 rfl
      clear hD
      refine want_yes rfl ?_
      exact leads_value (v := .int .u16 (cs : Int)) (by go_simp) ⟨rfl, hC⟩
    trivial
  · intro xa V hC hx
    have e9 : xa 9 = .int .u16 (cs : Int) := hx 9 (by simp)
    have HV := Lib.hid (show PLW w bp p lx ly V from hC)
    clear hx hC
    rw [e9]
    clear e9
    go_wp2_with fail
    go_ret
    exact ⟨rfl, HV.out.pw.all⟩
end Go.Proofs.YtoieodlpoglmfaaDoor

/-! PolG -/
namespace Go.Proofs.YtoieodlpoglmfaaDoor
open Go.RowKit

/-- What tidy begins with, .. -/
def tidy0 (L A : Nat) (g : Nat → Nat) : Pol := ⟨L, fun _ => 0, fun _ => 0, g, fun _ => 0, A⟩
set_option maxRecDepth 100000 in
theorem exec_tidy0 {o : Oper} {a : Act} {w : World} {x y z : Operand} {L A : Nat} {g : Nat → Nat} (ho : o.op = .build 29 #[(0, x), (2, y), (4, z)])
    (hx : a.eval x = .int .u16 (L : Int)) (hy : a.eval y = .agg (grC g)) (hz : a.eval z = .int .u16 (A : Int)) :
    (execOp a.eval o).run Tryd.prog w = .ok (.value (.agg (polC (tidy0 L A g)))) w := by
  unfold execOp
  simp only [ho, List.map_toArray, List.map_cons, List.map_nil, hx, hy, hz]
  kernel_rfl
/-- .. what it is behind k roles, behind all roles and k tags, and in the end. -/
def tidK (p : Pol) (k : Nat) : Pol := ⟨p.live, uptoN (mSet p p.s) (fun _ => 0) k, uptoN (mSet p p.i) (fun _ => 0) k, uptoN (mAct p) (cutF p.acts p.live) k, fun _ => 0, p.active⟩
def tidT (p : Pol) (k : Nat) : Pol := { tidK p 16 with owner := uptoN (mOwn p) (fun _ => 0) k }
def tidP (p : Pol) : Pol := tidT p 16
theorem tidK_zero (p : Pol) : tidK p 0 = tidy0 p.live p.active (cutF p.acts p.live) := by unfold tidK tidy0; rw [uptoN_zero, uptoN_zero, uptoN_zero]
theorem tidT_zero (p : Pol) : tidT p 0 = tidK p 16 := by unfold tidT; rw [uptoN_zero]; rfl
theorem tidK_acts (p : Pol) (k : Nat) : (tidK p k).acts k = cutF p.acts p.live k := uptoN_at (mAct p) (cutF p.acts p.live) k
theorem cut_less (p : Pol) (k : Nat) : lessN (cutF p.acts p.live k) (withN 0 k) = mAct p k := by
  unfold cutF mAct
  split
  · rfl
  · unfold lessN; exact Nat.zero_and _
theorem tidK_live (p : Pol) (k : Nat) (h : p.live.testBit k = true) : (((tidK p k).putS k (p.s k &&& p.active)).putI k (p.i k &&& p.active)).putA k (lessN (cutF p.acts p.live k) (withN 0 k)) = tidK p (k + 1) := by
  have e1 : p.s k &&& p.active = mSet p p.s k := (if_pos h).symm
  have e2 : p.i k &&& p.active = mSet p p.i k := (if_pos h).symm
  rw [e1, e2, cut_less]
  unfold Pol.putS Pol.putI Pol.putA tidK
  simp only [uptoN_step]
theorem upto_same {f g : Nat → Nat} {k : Nat} (h : f k = g k) : uptoN f g (k + 1) = uptoN f g k := by
  funext r; unfold uptoN
  by_cases e : r = k
  · subst e; rw [if_pos (by omega), if_neg (by omega), h]
  · by_cases h2 : r < k
    · rw [if_pos h2, if_pos (by omega)]
    · rw [if_neg h2, if_neg (by omega)]
theorem tidK_dead (p : Pol) (k : Nat) (h : p.live.testBit k = false) : (tidK p k).putA k (lessN (cutF p.acts p.live k) (withN 0 k)) = tidK p (k + 1) := by
  have hn : ¬ p.live.testBit k = true := by rw [h]; simp
  rw [cut_less]
  unfold Pol.putA tidK
  rw [upto_same (show mSet p p.s k = 0 from if_neg hn), upto_same (show mSet p p.i k = 0 from if_neg hn)]
  simp only [uptoN_step]
theorem tidT_put (p : Pol) (t : Nat) : (tidT p t).putO t (mOwn p t) = tidT p (t + 1) := by
  unfold tidT Pol.putO
  simp only [uptoN_step]
theorem putO_putO (p : Pol) (t u v : Nat) : (p.putO t u).putO t v = p.putO t v := by
  unfold Pol.putO
  simp only [upd_upd]
theorem tidT_no (p : Pol) (t : Nat) (h : (p.active.testBit t && p.live.testBit (p.owner t)) = false) : (tidT p t).putO t 16 = tidT p (t + 1) := by
  rw [← tidT_put, show mOwn p t = 16 from if_neg (by rw [Bool.and_comm, h]; simp)]
theorem tidT_yes (p : Pol) (t : Nat) (h : (p.active.testBit t && p.live.testBit (p.owner t)) = true) : ((tidT p t).putO t 16).putO t (p.owner t) = tidT p (t + 1) := by
  rw [putO_putO, ← tidT_put, show mOwn p t = p.owner t from if_pos (by rw [Bool.and_comm, h])]
theorem tidP_ok {p : Pol} (h : PolOk p) : PolOk (tidP p) := by
  have hs : ∀ f, (∀ r, r < 16 → f r < 65536) → ∀ r, r < 16 → uptoN (mSet p f) (fun _ => 0) 16 r < 65536 := by
    intro f hf r hr
    rw [uptoN_in hr]; unfold mSet; split
    · exact Nat.lt_of_le_of_lt Nat.and_le_left (hf r hr)
    · decide
  refine ⟨h.live, h.active, hs p.s h.s, hs p.i h.i, fun r hr => ?_, fun t ht => ?_⟩
  · show uptoN (mAct p) (cutF p.acts p.live) 16 r < 65536
    rw [uptoN_in hr, ← cut_less]
    exact lessN_lt _ (cutF_lt p.live (h.acts r hr))
  show uptoN (mOwn p) (fun _ => 0) 16 t < 256
  rw [uptoN_in ht]; unfold mOwn; split
  · exact h.owner t ht
  · decide
/-- The policy, the place for the answer, and the tidy one. -/
structure TYW (w : World) (bp b2 bt : Nat) (p q : Pol) (V : World) : Prop where
  all : Below w.heap.size w V
  row : PRow V bp p
  res : PRow V b2 zeroP
  t : PRow V bt q
  far : w.heap.size ≤ bt ∧ w.heap.size ≤ b2 ∧ bp ≠ bt ∧ b2 ≠ bt
theorem TYW.step {w : World} {bp b2 bt : Nat} {p q : Pol} {V V' : World} (h : TYW w bp b2 bt p q V) (hB : Below V.heap.size V V') : TYW w bp b2 bt p q V' :=
  ⟨h.all.trans (hB.mono h.all.size), h.row.step hB, h.res.step hB, h.t.step hB, h.far⟩
theorem TYW.cell {w : World} {bp b2 bt : Nat} {p q q2 : Pol} {V : World} (h : TYW w bp b2 bt p q V) {k : Nat} {u : Value} (hr : PRow (V.setCell ⟨bt, k, none⟩ u) bt q2) : TYW w bp b2 bt p q2 (V.setCell ⟨bt, k, none⟩ u) :=
  ⟨h.all.setCell h.far.1 _, Blk.set_other h.row (by exact h.far.2.2.1.symm) _, Blk.set_other h.res (by exact h.far.2.2.2.symm) _, hr, h.far⟩
theorem madeTidy (w : World) (p : Pol) : Below w.heap.size w ((w.alloc (.cells (polC p) 29)).alloc (.cells (polC zeroP) 29)) ∧ PRow ((w.alloc (.cells (polC p) 29)).alloc (.cells (polC zeroP) 29)) w.heap.size p ∧ PRow ((w.alloc (.cells (polC p) 29)).alloc (.cells (polC zeroP) 29)) (w.heap.size + 1) zeroP := by
  refine ⟨(belowNew w _).alloc (by simp) _, (PRow.new w p).alloc _, ?_⟩
  have h := PRow.new (w.alloc (.cells (polC p) 29)) zeroP
  simp only [World.size_alloc] at h
  exact h
set_option maxRecDepth 100000 in
set_option maxHeartbeats 3200000 in
theorem pTidy_any (p : Pol) (w : World) (hT : TabOk w) (hp : PolOk p) :
    Calls Tryd.prog 36 #[.agg (polC p)] w fun e w' => e = .returned (.agg (polC (tidP p))) ∧ Below w.heap.size w w' := by
  have HM := Lib.hid (madeTidy w p)
  have HTab := Lib.hid (hT.below (HM.out.1.drew))
  have HCut := Lib.hid (fun V (hV : TabOk V) => gCut_any p.acts p.live V hV hp.acts hp.live)
  have HOk := Lib.hid hp
  have HIL := Lib.hid (fun (k : Nat) (hk : k < 16) (V : World) => run_index_labs p hk V)
  have HIO := Lib.hid (fun (k : Nat) (hk : k < 16) (V : World) => run_index_owns p hk V)
  have HHl := Lib.hid (fun V (r : Nat) => Has_any p.live (r : Int) V hp.live)
  have HHa := Lib.hid (fun V (r : Nat) => Has_any p.active (r : Int) V hp.active)
  clear hT hp
  go_enter Tryd.func36, Tryd.ntmps36
  go_upto_region 1 with fail
  generalize (w.alloc (.cells (polC p) 29)).alloc _ = w1 at *
  have T0 := Lib.hid ((HM.out.2.1.step (Below.refl _ _).drew))
  obtain ⟨bp, hbp⟩ : ∃ bp, bp = w.heap.size := ⟨_, rfl⟩
  rw [← hbp] at T0 ⊢
  have HBp := Lib.hid hbp
  clear hbp
  refine wp_region_M [.val (.pointer (some ⟨bp, 0, none⟩)), .val (.int .u16 (p.live : Int)), .val (.pointer (some ⟨bp, 33, none⟩)), .val (.agg (grC p.acts)), .val (.pointer (some ⟨bp, 0, none⟩)), .val (.int .u16 (p.live : Int)), .val (.agg (grC (cutF p.acts p.live))), .val (.pointer (some ⟨bp, 65, none⟩)), .val (.int .u16 (p.active : Int)), .val (.agg (polC (tidy0 p.live p.active (cutF p.acts p.live)))), .mk (polO zeroP) 11 (polO (tidy0 p.live p.active (cutF p.acts p.live))), .st 10]
    (fun x => { tmps := #[.agg (polC p), .pointer (some ⟨bp, 0, none⟩), .pointer (some ⟨bp + 1, 0, none⟩), x 10, undef, undef, undef, undef, x 0, x 1, x 2, x 3, x 4, x 5, x 6, x 7, x 8, x 9, undef, undef, undef, undef, undef, undef, undef, undef, undef, undef, undef, undef, undef, undef, undef, undef, undef, undef, undef, undef, undef, undef, undef, undef, undef, undef, undef, undef, undef, undef, undef, undef, undef, undef, undef, undef, undef, undef, undef, undef, undef, undef, undef, undef, undef, undef, undef, undef, undef, undef, undef, undef, undef, undef, undef, undef, undef, undef, undef, undef, undef], defers := [] }) (fun _ => undef) (by kernel_rfl) rfl rfl rfl (by kernel_rfl) ?_ ?_
  · refine ⟨ObM.of_val rfl (fun x v => rfl) (fun x V hC hD => ?_), ?_⟩
    · clear hD
      have hH := T0.out.step hC
      refine want_yes rfl ?_
      exact leads_value (v := .pointer (some ⟨bp, 0, none⟩)) (by go_simp) ⟨rfl, Below.refl _ _⟩
    refine ⟨ObM.of_val rfl (fun x v => rfl) (fun x V hC hD => ?_), ?_⟩
    · have e0 : x 0 = .pointer (some ⟨bp, 0, none⟩) := hD.1 _ rfl rfl
      clear hD
      have hH := T0.out.step hC
      refine want_yes rfl ?_
      have k0 := PRow.live hH
      exact leads_value (v := .int .u16 (p.live : Int)) (by go_simp) ⟨rfl, Below.refl _ _⟩
    refine ⟨ObM.of_val rfl (fun x v => rfl) (fun x V hC hD => ?_), ?_⟩
    · clear hD
      have hH := T0.out.step hC
      refine want_yes rfl ?_
      exact leads_value (v := .pointer (some ⟨bp, 33, none⟩)) (by go_simp) ⟨rfl, Below.refl _ _⟩
    refine ⟨ObM.of_val rfl (fun x v => rfl) (fun x V hC hD => ?_), ?_⟩
    · have e2 : x 2 = .pointer (some ⟨bp, 33, none⟩) := hD.1 _ rfl rfl
      clear hD
      have hH := T0.out.step hC
      refine want_yes rfl ?_
      exact leads_value (exec_load_mid rfl e2 hH (fun j hj => pol_acts p hj)) ⟨rfl, Below.refl _ _⟩
    refine ⟨ObM.of_val rfl (fun x v => rfl) (fun x V hC hD => ?_), ?_⟩
    · clear hD
      have hH := T0.out.step hC
      refine want_yes rfl ?_
      exact leads_value (v := .pointer (some ⟨bp, 0, none⟩)) (by go_simp) ⟨rfl, Below.refl _ _⟩
    refine ⟨ObM.of_val rfl (fun x v => rfl) (fun x V hC hD => ?_), ?_⟩
    · have e4 : x 4 = .pointer (some ⟨bp, 0, none⟩) := hD.1 _ rfl rfl
      clear hD
      have hH := T0.out.step hC
      refine want_yes rfl ?_
      have k0 := PRow.live hH
      exact leads_value (v := .int .u16 (p.live : Int)) (by go_simp) ⟨rfl, Below.refl _ _⟩
    refine ⟨ObM.of_val rfl (fun x v => rfl) (fun x V hC hD => ?_), ?_⟩
    · have e3 : x 3 = .agg (grC p.acts) := hD.1 _ rfl rfl
      have e5 : x 5 = .int .u16 (p.live : Int) := hD.2.1 _ rfl rfl
      clear hD
      have hH := T0.out.step hC
      refine want_yes rfl ?_
      exact leads_enter2 (by go_simp) ((HCut.out V (HTab.out.below hC)).mono fun e w'' ⟨he, hB⟩ => ⟨_, he, rfl, hB⟩)
    refine ⟨ObM.of_val rfl (fun x v => rfl) (fun x V hC hD => ?_), ?_⟩
    · clear hD
      have hH := T0.out.step hC
      refine want_yes rfl ?_
      exact leads_value (v := .pointer (some ⟨bp, 65, none⟩)) (by go_simp) ⟨rfl, Below.refl _ _⟩
    refine ⟨ObM.of_val rfl (fun x v => rfl) (fun x V hC hD => ?_), ?_⟩
    · have e7 : x 7 = .pointer (some ⟨bp, 65, none⟩) := hD.1 _ rfl rfl
      clear hD
      have hH := T0.out.step hC
      refine want_yes rfl ?_
      have k0 := PRow.active hH
      exact leads_value (v := .int .u16 (p.active : Int)) (by go_simp) ⟨rfl, Below.refl _ _⟩
    refine ⟨ObM.of_val rfl (fun x v => rfl) (fun x V hC hD => ?_), ?_⟩
    · have e1 : x 1 = .int .u16 (p.live : Int) := hD.1 _ rfl rfl
      have e6 : x 6 = .agg (grC (cutF p.acts p.live)) := hD.2.1 _ rfl rfl
      have e8 : x 8 = .int .u16 (p.active : Int) := hD.2.2.1 _ rfl rfl
      clear hD
      have hH := T0.out.step hC
      refine want_yes rfl ?_
      exact leads_value (exec_tidy0 rfl e1 e6 e8) ⟨rfl, Below.refl _ _⟩
    refine ⟨ObM.of_mk rfl (fun x v => rfl) rfl (fun x V => ?_), ?_⟩
    · exact leads_alloc_pol rfl
    refine ⟨ObM.of_st rfl rfl (fun x v => rfl) rfl (by kernel_rfl) (fun x V gb hC hx hg hD => ?_), ?_⟩
    · have e9 : x 9 = .agg (polC (tidy0 p.live p.active (cutF p.acts p.live))) := hD.2.1 _ rfl rfl
      have e6 : x 6 = .agg (grC (cutF p.acts p.live)) := hD.2.2.1 _ rfl rfl
      have e0 : x 0 = .pointer (some ⟨bp, 0, none⟩) := hD.2.2.2.1 _ rfl rfl
      have e1 : x 1 = .int .u16 (p.live : Int) := hD.2.2.2.2.1 _ rfl rfl
      have e2 : x 2 = .pointer (some ⟨bp, 33, none⟩) := hD.2.2.2.2.2.1 _ rfl rfl
      have e3 : x 3 = .agg (grC p.acts) := hD.2.2.2.2.2.2.1 _ rfl rfl
      have e4 : x 4 = .pointer (some ⟨bp, 0, none⟩) := hD.2.2.2.2.2.2.2.1 _ rfl rfl
      have e5 : x 5 = .int .u16 (p.live : Int) := hD.2.2.2.2.2.2.2.2.1 _ rfl rfl
      have e7 : x 7 = .pointer (some ⟨bp, 65, none⟩) := hD.2.2.2.2.2.2.2.2.2.2.1 _ rfl rfl
      have e8 : x 8 = .int .u16 (p.active : Int) := hD.2.2.2.2.2.2.2.2.2.2.2.1 _ rfl rfl
      clear hD
      have hH := T0.out.step hC
      exact leads_store_row rfl hx e9 hg (infoPol _) (by rw [polC_size, polC_size]) (polC_one _)
    trivial
  · intro x V hF
    obtain ⟨hx0, hx1, hx2⟩ := hF.made 10 _ _ _ (by simp) rfl rfl
    have hbp := HBp.out
    have hsz : w.heap.size ≤ w1.drew.heap.size := HM.out.1.size
    have hlt1 : bp < w1.heap.size := by rw [hbp]; exact HM.out.2.1.lt
    have hlt2 : bp + 1 < w1.heap.size := by rw [hbp]; exact HM.out.2.2.lt
    have HG0 := Lib.hid (show TYW w bp (bp + 1) (blkOf (x 10)) p (tidK p 0) V from by
      rw [tidK_zero]
      exact ⟨(HM.out.1.drew).trans (hF.below.mono hsz), T0.out.step hF.below, (show PRow w1.drew (bp + 1) zeroP by rw [hbp]; exact HM.out.2.2.step (Below.refl _ _).drew).step hF.below, hx2, Nat.le_trans hsz hx0, by rw [hbp]; omega, Nat.ne_of_lt (Nat.lt_of_lt_of_le hlt1 hx0), Nat.ne_of_lt (Nat.lt_of_lt_of_le hlt2 hx0)⟩)
    clear hF hx2 hx0 hsz hlt1 hlt2 T0 HM HTab HCut hbp HBp
    generalize blkOf (x 10) = bt at *
    rw [hx1]
    clear hx1
    generalize x 0 = y0
    generalize x 1 = y1
    generalize x 2 = y2
    generalize x 3 = y3
    generalize x 4 = y4
    generalize x 5 = y5
    generalize x 6 = y6
    generalize x 7 = y7
    generalize x 8 = y8
    generalize x 9 = y9
    have hrow := HG0.out.row
    go_wp2_with (refine wpList_load_mid rfl _ _ rfl rfl hrow (pol_labs p) Tryd.underlying25 rfl (infoLabs p) ?_)
    clear hrow
    go_loopw [20] (fun i wr => ∃ k : Nat, k ≤ 16 ∧ i = .int .i64 (k : Int) ∧ TYW w bp (bp + 1) bt p (tidK p k) wr) (fun i _ => 16 - (intOf i).toNat)
    case atStart => exact ⟨0, by omega, rfl, HG0.out⟩
    case round =>
      obtain ⟨k, hk, rfl, hg⟩ := hrel
      have HG := Lib.hid hg
      clear hg HG0
      by_cases hlt : k < 16
      · have dk : decide ((k : Int) < 16) = true := by simp; omega
        have hk16 : (k : Int) < 16 := by omega
        have hk0 : (0 : Int) ≤ (k : Int) := by omega
        have hxi := fun V => HIL.out k hlt V
        have HHas := Lib.hid (fun V => HHl.out V k)
        rw [hasB_bit] at HHas
        have HA1 := Lib.hid (u16_and_nat (p.s k) p.active (HOk.out.s k hlt) HOk.out.active)
        have HA2 := Lib.hid (u16_and_nat (p.i k) p.active (HOk.out.i k hlt) HOk.out.active)
        have HLa := Lib.hid (cutF_lt p.live (HOk.out.acts k hlt))
        have HAn := Lib.hid (fun (la : Nat) (hla : la < 65536) => show bits .andNot .u16 (la : Int) ((withN 0 k : Nat) : Int) = ((lessN la (withN 0 k) : Nat) : Int) from u16_andNot_nat la (withN 0 k) hla (withN_lt (by decide) (by omega)))
        have HOne := Lib.hid (show ofL 0 [(k : Int)] = withN 0 k by rw [ofL_pw hk0 hk16, Int.toNat_natCast])
        go_upto_region 5 with fail
        have HG2 := Lib.hid (HG.out.step (belowNew wr (.cells #[.int .u16 (p.s k : Nat), .int .u16 (p.i k : Nat)] 24)))
        have HO := Lib.hid (Blk.new wr #[.int .u16 (p.s k : Nat), .int .u16 (p.i k : Nat)] 24)
        generalize wr.alloc (.cells #[.int .u16 (p.s k : Nat), .int .u16 (p.i k : Nat)] 24) = w2 at *
        clear HG hxi
        have kl := HG2.out.row.live
        cases hl : p.live.testBit k with
        | false =>
          rw [hl] at HHas
          have HE := Lib.hid (tidK_dead p k hl)
          have HA := Lib.hid (tidK_acts p k)
          clear hl HA1 HA2
          have HT := Lib.hid HG2.out
          clear HG2 HO
          generalize cutF p.acts p.live k = la at *
          generalize tidK p k = q at HT HE HA
          generalize p.s k = ls at *
          generalize p.i k = li at *
          go_wp2_with fail
          with_reducible refine (HHas.out _).mono ?_
          rintro e wx ⟨rfl, rfl⟩
          clear kl HHas
          generalize wr.heap.size = bl at *
          go_upto_region 7 with fail
          refine wp_region_factsT 10 1 (fun V => TYW w bp (bp + 1) bt p q V) [Fact.is (.int .i64 (k : Int)), Fact.is (.pointer (some ⟨bt, 33, none⟩)), Fact.is (.pointer (some ⟨bt, 33 + k, none⟩)), Fact.is (.int .u16 (la : Int)), Fact.is (.int .i64 (k : Int)), intsF [(k : Int)], Fact.is (.int .u16 ((withN 0 k : Nat) : Int)), Fact.is (.int .u16 ((lessN la (withN 0 k) : Nat) : Int)), Fact.is (.pointer (some ⟨bt, 33, none⟩)), Fact.is (.pointer (some ⟨bt, 33 + k, none⟩))] []
            (fun x => { tmps := #[.agg (polC p), .pointer (some ⟨bp, 0, none⟩), .pointer (some ⟨bp + 1, 0, none⟩), .pointer (some ⟨bt, 0, none⟩), .int .i64 (k : Int), .pointer (some ⟨bl, 0, none⟩), undef, undef, y0, y1, y2, y3, y4, y5, y6, y7, y8, y9, .pointer (some ⟨bp, 1, none⟩), .agg (labsC p), .int .i64 (k : Int), .bool true, .int .i64 (k : Int), .agg #[.int .u16 (ls : Int), .int .u16 (li : Int)], .pointer (some ⟨bp, 0, none⟩), .int .u16 (p.live : Int), .int .i64 (k : Int), .bool false, u28, u29, u30, u31, u32, u33, u34, u35, u36, u37, u38, u39, u40, u41, x 0, x 1, x 2, x 3, x 4, x 5, x 6, x 7, x 8, x 9, u52, undef, undef, undef, undef, undef, undef, undef, undef, undef, undef, undef, undef, undef, undef, undef, undef, undef, undef, undef, undef, undef, undef, undef, undef, undef, undef], defers := [] }) (fun i => ([u42, u43, u44, u45, u46, u47, u48, u49, u50, u51] : List Value).getD i undef) (by kernel_rfl) rfl rfl (by kernel_rfl) (by kernel_rfl) (HT.out.step (Below.refl _ _).drew) (fun u v hu hB => hu.step hB) ?_ ?_
          · simp only [List.take_succ_cons, List.take_zero]
            refine ⟨⟨fun x v => rfl, fun x V hC hD => ?_⟩, ?_⟩
            · clear hD
              refine want_yes rfl ?_
              exact leads_value (by go_simp) ⟨Below.refl _ _, rfl, fun h => absurd h (by simp)⟩
            refine ⟨⟨fun x v => rfl, fun x V hC hD => ?_⟩, ?_⟩
            · clear hD
              refine want_yes rfl ?_
              exact leads_value (v := .pointer (some ⟨bt, 33, none⟩)) (by go_simp) ⟨Below.refl _ _, rfl, fun h => absurd h (by simp)⟩
            refine ⟨⟨fun x v => rfl, fun x V hC hD => ?_⟩, ?_⟩
            · have e1 : x 1 = .pointer (some ⟨bt, 33, none⟩) := hD.1 rfl
              have e0 : x 0 = .int .i64 (k : Int) := hD.2.1 rfl
              clear hD
              refine want_yes rfl ?_
              exact leads_value (v := .pointer (some ⟨bt, 33 + k, none⟩)) (by go_simp) ⟨Below.refl _ _, rfl, fun h => absurd h (by simp)⟩
            refine ⟨⟨fun x v => rfl, fun x V hC hD => ?_⟩, ?_⟩
            · have e2 : x 2 = .pointer (some ⟨bt, 33 + k, none⟩) := hD.1 rfl
              clear hD
              refine want_yes rfl ?_
              have k0 := hC.t.acts hlt
              rw [HA.out] at k0
              exact leads_value (v := .int .u16 (la : Int)) (by go_simp) ⟨Below.refl _ _, rfl, fun h => absurd h (by simp)⟩
            refine ⟨⟨fun x v => rfl, fun x V hC hD => ?_⟩, ?_⟩
            · clear hD
              refine want_yes rfl ?_
              exact leads_value (by go_simp) ⟨Below.refl _ _, rfl, fun h => absurd h (by simp)⟩
            refine ⟨⟨fun x v => rfl, fun x V hC hD => ?_⟩, ?_⟩
            · have e4 : x 4 = .int .i64 (k : Int) := hD.1 rfl
              clear hD
              refine want_yes rfl ?_
              exact leads_value (by go_simp) ⟨below_one _ _, ints_one _ _, fun h => absurd h (by simp)⟩
            refine ⟨⟨fun x v => rfl, fun x V hC hD => ?_⟩, ?_⟩
            · have e5 : IntsAt V (x 5) [(k : Int)] := hD.1 rfl
              clear hD
              refine want_yes rfl ?_
              exact leads_enter (by go_simp) ((Of_any _ _ V e5).mono fun e w'' ⟨he, hw⟩ => ⟨he.trans (congrArg (fun n : Nat => Ending.returned (.int .u16 (n : Int))) HOne.out), hw ▸ Below.refl _ _⟩) fun w'' hB => ⟨hB, rfl, fun h => absurd h (by simp)⟩
            refine ⟨⟨fun x v => rfl, fun x V hC hD => ?_⟩, ?_⟩
            · have e3 : x 3 = .int .u16 (la : Int) := hD.1 rfl
              have e6 : x 6 = .int .u16 ((withN 0 k : Nat) : Int) := hD.2.1 rfl
              clear hD
              refine want_yes rfl ?_
              exact leads_value (v := .int .u16 (bits .andNot .u16 (la : Int) ((withN 0 k : Nat) : Int))) (by go_simp) ⟨Below.refl _ _, by rw [HAn.out la HLa.out]; rfl, fun h => absurd h (by simp)⟩
            refine ⟨⟨fun x v => rfl, fun x V hC hD => ?_⟩, ?_⟩
            · clear hD
              refine want_yes rfl ?_
              exact leads_value (v := .pointer (some ⟨bt, 33, none⟩)) (by go_simp) ⟨Below.refl _ _, rfl, fun h => absurd h (by simp)⟩
            refine ⟨⟨fun x v => rfl, fun x V hC hD => ?_⟩, ?_⟩
            · have e8 : x 8 = .pointer (some ⟨bt, 33, none⟩) := hD.1 rfl
              have e0 : x 0 = .int .i64 (k : Int) := hD.2.1 rfl
              have e1 : x 1 = .pointer (some ⟨bt, 33, none⟩) := hD.2.2.2.1 rfl
              have e2 : x 2 = .pointer (some ⟨bt, 33 + k, none⟩) := hD.2.2.2.2.1 rfl
              have e3 : x 3 = .int .u16 (la : Int) := hD.2.2.2.2.2.1 rfl
              have e4 : x 4 = .int .i64 (k : Int) := hD.2.2.2.2.2.2.1 rfl
              have e5 : IntsAt V (x 5) [(k : Int)] := hD.2.2.2.2.2.2.2.1 rfl
              have e6 : x 6 = .int .u16 ((withN 0 k : Nat) : Int) := hD.2.2.2.2.2.2.2.2.1 rfl
              have e7 : x 7 = .int .u16 ((lessN la (withN 0 k) : Nat) : Int) := hD.2.2.2.2.2.2.2.2.2.1 rfl
              clear hD
              refine want_yes rfl ?_
              exact leads_value (v := .pointer (some ⟨bt, 33 + k, none⟩)) (by go_simp) ⟨Below.refl _ _, rfl, fun h => absurd h (by simp)⟩
            trivial
          · intro x V hF
            simp only [List.drop_succ_cons, List.drop_zero]
            have e7 : x 7 = .int .u16 ((lessN la (withN 0 k) : Nat) : Int) := hF.fact 7 (by decide) rfl
            have e9 : x 9 = .pointer (some ⟨bt, 33 + k, none⟩) := hF.fact 9 (by decide) rfl
            have HT2 := Lib.hid (show TYW w bp (bp + 1) bt p q V from hF.c)
            clear hF HT
            rw [e7, e9]
            clear e7 e9
            have h2 := HT2.out.cell (HT2.out.t.putA hlt (lessN la (withN 0 k)))
            rw [HE.out] at h2
            have HT3 := Lib.hid h2
            have f0 := Blk.free HT2.out.t (33 + k)
            have k0 := HT2.out.t.acts hlt
            clear h2 HT2
            generalize lessN la (withN 0 k) = lz at *
            go_wp2_with fail
            go_roundw
            case rel => first | exact ⟨k + 1, by omega, by go_num, HT3.out⟩ | ((repeat apply Exists.intro); exact ⟨⟨k + 1, by omega, by go_num, HT3.out⟩, rfl⟩)
            case measure => simp [intOf]; omega
        | true =>
          rw [hl] at HHas
          have HE := Lib.hid (tidK_live p k hl)
          have HA := Lib.hid (show (((tidK p k).putS k (p.s k &&& p.active)).putI k (p.i k &&& p.active)).acts k = cutF p.acts p.live k from tidK_acts p k)
          have a0 := HO.out.cell 0
          have a1 := HO.out.cell 1
          have ka := HG2.out.row.active
          have f0 := Blk.free HG2.out.t (1 + k * 2)
          have f1 := Blk.free HG2.out.t (1 + k * 2 + 1)
          have c0 := HG2.out.t.s hlt
          have c1 := HG2.out.t.i hlt
          clear hl
          have hS : PRow (w2.setCell ⟨bt, 1 + k * 2, none⟩ (.int .u16 (p.s k &&& p.active : Nat))) bt ((tidK p k).putS k (p.s k &&& p.active)) := HG2.out.t.putS hlt _
          have h2 := (HG2.out.cell hS).cell (hS.putI hlt (p.i k &&& p.active))
          have HT := Lib.hid h2
          clear hS h2
          generalize cutF p.acts p.live k = la at *
          have hq1 := HA1.out
          have hq2 := HA2.out
          generalize p.s k &&& p.active = sa at *
          generalize p.i k &&& p.active = ia at *
          generalize p.s k = ls at *
          generalize p.i k = li at *
          generalize ((tidK p k).putS k sa).putI k ia = q at HT HE HA
          clear HG2
          go_wp2_with fail
          with_reducible refine (HHas.out _).mono ?_
          rintro e wx ⟨rfl, rfl⟩
          clear kl HHas HO
          generalize wr.heap.size = bl at *
          go_upto_region 7 with fail
          generalize World.setCell _ _ _ = w3 at *
          refine wp_region_factsT 10 1 (fun V => TYW w bp (bp + 1) bt p q V) [Fact.is (.int .i64 (k : Int)), Fact.is (.pointer (some ⟨bt, 33, none⟩)), Fact.is (.pointer (some ⟨bt, 33 + k, none⟩)), Fact.is (.int .u16 (la : Int)), Fact.is (.int .i64 (k : Int)), intsF [(k : Int)], Fact.is (.int .u16 ((withN 0 k : Nat) : Int)), Fact.is (.int .u16 ((lessN la (withN 0 k) : Nat) : Int)), Fact.is (.pointer (some ⟨bt, 33, none⟩)), Fact.is (.pointer (some ⟨bt, 33 + k, none⟩))] []
            (fun x => { tmps := #[.agg (polC p), .pointer (some ⟨bp, 0, none⟩), .pointer (some ⟨bp + 1, 0, none⟩), .pointer (some ⟨bt, 0, none⟩), .int .i64 (k : Int), .pointer (some ⟨bl, 0, none⟩), undef, undef, y0, y1, y2, y3, y4, y5, y6, y7, y8, y9, .pointer (some ⟨bp, 1, none⟩), .agg (labsC p), .int .i64 (k : Int), .bool true, .int .i64 (k : Int), .agg #[.int .u16 (ls : Int), .int .u16 (li : Int)], .pointer (some ⟨bp, 0, none⟩), .int .u16 (p.live : Int), .int .i64 (k : Int), .bool true, .int .i64 (k : Int), .pointer (some ⟨bl, 0, none⟩), .int .u16 (ls : Int), .pointer (some ⟨bp, 65, none⟩), .int .u16 (p.active : Int), .int .u16 (sa : Int), .pointer (some ⟨bl, 1, none⟩), .int .u16 (li : Int), .pointer (some ⟨bp, 65, none⟩), .int .u16 (p.active : Int), .int .u16 (ia : Int), .agg #[.int .u16 (sa : Int), .int .u16 (ia : Int)], .pointer (some ⟨bt, 1, none⟩), .pointer (some ⟨bt, 1 + k * 2, none⟩), x 0, x 1, x 2, x 3, x 4, x 5, x 6, x 7, x 8, x 9, u52, undef, undef, undef, undef, undef, undef, undef, undef, undef, undef, undef, undef, undef, undef, undef, undef, undef, undef, undef, undef, undef, undef, undef, undef, undef, undef], defers := [] }) (fun i => ([u42, u43, u44, u45, u46, u47, u48, u49, u50, u51] : List Value).getD i undef) (by kernel_rfl) rfl rfl (by kernel_rfl) (by kernel_rfl) (HT.out.step (Below.refl _ _).drew) (fun u v hu hB => hu.step hB) ?_ ?_
          · simp only [List.take_succ_cons, List.take_zero]
            refine ⟨⟨fun x v => rfl, fun x V hC hD => ?_⟩, ?_⟩
            · clear hD
              refine want_yes rfl ?_
              exact leads_value (by go_simp) ⟨Below.refl _ _, rfl, fun h => absurd h (by simp)⟩
            refine ⟨⟨fun x v => rfl, fun x V hC hD => ?_⟩, ?_⟩
            · clear hD
              refine want_yes rfl ?_
              exact leads_value (v := .pointer (some ⟨bt, 33, none⟩)) (by go_simp) ⟨Below.refl _ _, rfl, fun h => absurd h (by simp)⟩
            refine ⟨⟨fun x v => rfl, fun x V hC hD => ?_⟩, ?_⟩
            · have e1 : x 1 = .pointer (some ⟨bt, 33, none⟩) := hD.1 rfl
              have e0 : x 0 = .int .i64 (k : Int) := hD.2.1 rfl
              clear hD
              refine want_yes rfl ?_
              exact leads_value (v := .pointer (some ⟨bt, 33 + k, none⟩)) (by go_simp) ⟨Below.refl _ _, rfl, fun h => absurd h (by simp)⟩
            refine ⟨⟨fun x v => rfl, fun x V hC hD => ?_⟩, ?_⟩
            · have e2 : x 2 = .pointer (some ⟨bt, 33 + k, none⟩) := hD.1 rfl
              clear hD
              refine want_yes rfl ?_
              have k0 := hC.t.acts hlt
              rw [HA.out] at k0
              exact leads_value (v := .int .u16 (la : Int)) (by go_simp) ⟨Below.refl _ _, rfl, fun h => absurd h (by simp)⟩
            refine ⟨⟨fun x v => rfl, fun x V hC hD => ?_⟩, ?_⟩
            · clear hD
              refine want_yes rfl ?_
              exact leads_value (by go_simp) ⟨Below.refl _ _, rfl, fun h => absurd h (by simp)⟩
            refine ⟨⟨fun x v => rfl, fun x V hC hD => ?_⟩, ?_⟩
            · have e4 : x 4 = .int .i64 (k : Int) := hD.1 rfl
              clear hD
              refine want_yes rfl ?_
              exact leads_value (by go_simp) ⟨below_one _ _, ints_one _ _, fun h => absurd h (by simp)⟩
            refine ⟨⟨fun x v => rfl, fun x V hC hD => ?_⟩, ?_⟩
            · have e5 : IntsAt V (x 5) [(k : Int)] := hD.1 rfl
              clear hD
              refine want_yes rfl ?_
              exact leads_enter (by go_simp) ((Of_any _ _ V e5).mono fun e w'' ⟨he, hw⟩ => ⟨he.trans (congrArg (fun n : Nat => Ending.returned (.int .u16 (n : Int))) HOne.out), hw ▸ Below.refl _ _⟩) fun w'' hB => ⟨hB, rfl, fun h => absurd h (by simp)⟩
            refine ⟨⟨fun x v => rfl, fun x V hC hD => ?_⟩, ?_⟩
            · have e3 : x 3 = .int .u16 (la : Int) := hD.1 rfl
              have e6 : x 6 = .int .u16 ((withN 0 k : Nat) : Int) := hD.2.1 rfl
              clear hD
              refine want_yes rfl ?_
              exact leads_value (v := .int .u16 (bits .andNot .u16 (la : Int) ((withN 0 k : Nat) : Int))) (by go_simp) ⟨Below.refl _ _, by rw [HAn.out la HLa.out]; rfl, fun h => absurd h (by simp)⟩
            refine ⟨⟨fun x v => rfl, fun x V hC hD => ?_⟩, ?_⟩
            · clear hD
              refine want_yes rfl ?_
              exact leads_value (v := .pointer (some ⟨bt, 33, none⟩)) (by go_simp) ⟨Below.refl _ _, rfl, fun h => absurd h (by simp)⟩
            refine ⟨⟨fun x v => rfl, fun x V hC hD => ?_⟩, ?_⟩
            · have e8 : x 8 = .pointer (some ⟨bt, 33, none⟩) := hD.1 rfl
              have e0 : x 0 = .int .i64 (k : Int) := hD.2.1 rfl
              have e1 : x 1 = .pointer (some ⟨bt, 33, none⟩) := hD.2.2.2.1 rfl
              have e2 : x 2 = .pointer (some ⟨bt, 33 + k, none⟩) := hD.2.2.2.2.1 rfl
              have e3 : x 3 = .int .u16 (la : Int) := hD.2.2.2.2.2.1 rfl
              have e4 : x 4 = .int .i64 (k : Int) := hD.2.2.2.2.2.2.1 rfl
              have e5 : IntsAt V (x 5) [(k : Int)] := hD.2.2.2.2.2.2.2.1 rfl
              have e6 : x 6 = .int .u16 ((withN 0 k : Nat) : Int) := hD.2.2.2.2.2.2.2.2.1 rfl
              have e7 : x 7 = .int .u16 ((lessN la (withN 0 k) : Nat) : Int) := hD.2.2.2.2.2.2.2.2.2.1 rfl
              clear hD
              refine want_yes rfl ?_
              exact leads_value (v := .pointer (some ⟨bt, 33 + k, none⟩)) (by go_simp) ⟨Below.refl _ _, rfl, fun h => absurd h (by simp)⟩
            trivial
          · intro x V hF
            simp only [List.drop_succ_cons, List.drop_zero]
            have e7 : x 7 = .int .u16 ((lessN la (withN 0 k) : Nat) : Int) := hF.fact 7 (by decide) rfl
            have e9 : x 9 = .pointer (some ⟨bt, 33 + k, none⟩) := hF.fact 9 (by decide) rfl
            have HT2 := Lib.hid (show TYW w bp (bp + 1) bt p q V from hF.c)
            clear hF HT
            rw [e7, e9]
            clear e7 e9
            have h2 := HT2.out.cell (HT2.out.t.putA hlt (lessN la (withN 0 k)))
            rw [HE.out] at h2
            have HT3 := Lib.hid h2
            have f0 := Blk.free HT2.out.t (33 + k)
            have k0 := HT2.out.t.acts hlt
            clear h2 HT2
            generalize lessN la (withN 0 k) = lz at *
            go_wp2_with fail
            go_roundw
            case rel => first | exact ⟨k + 1, by omega, by go_num, HT3.out⟩ | ((repeat apply Exists.intro); exact ⟨⟨k + 1, by omega, by go_num, HT3.out⟩, rfl⟩)
            case measure => simp [intOf]; omega
      · obtain rfl : k = 16 := by omega
        have HG5 := Lib.hid (show TYW w bp (bp + 1) bt p (tidT p 0) wr by rw [tidT_zero]; exact HG.out)
        clear HG
        have hrow := HG5.out.row
        go_wp2_with (refine wpList_load_mid rfl _ _ rfl rfl hrow (pol_owns p) Tryd.underlying27 rfl (infoOwns p) ?_)
        clear hrow
        go_loopw [55] (fun i wr => ∃ t : Nat, t ≤ 16 ∧ i = .int .i64 (t : Int) ∧ TYW w bp (bp + 1) bt p (tidT p t) wr) (fun i _ => 16 - (intOf i).toNat)
        case atStart => exact ⟨0, by omega, rfl, HG5.out⟩
        case round =>
          obtain ⟨t, ht, rfl, hg⟩ := hrel
          have HG := Lib.hid hg
          clear hg HG5
          by_cases htt : t < 16
          · have dt : decide ((t : Int) < 16) = true := by simp; omega
            have ht16 : (t : Int) < 16 := by omega
            have ht0 : (0 : Int) ≤ (t : Int) := by omega
            have hxi := fun V => HIO.out t htt V
            have ho := HOk.out.owner t htt
            have HA := Lib.hid (fun V => HHa.out V t)
            rw [hasB_bit] at HA
            have HL := Lib.hid (fun V => HHl.out V (p.owner t))
            rw [hasB_bit] at HL
            have HN := Lib.hid (tidT_no p t)
            have HY := Lib.hid (tidT_yes p t)
            have f0 := Blk.free HG.out.t (49 + t)
            have c0 := HG.out.t.owner htt
            have HG2 := Lib.hid (HG.out.cell (HG.out.t.putO htt 16))
            have HG3 := Lib.hid (fun v => HG2.out.cell (HG2.out.t.putO htt v))
            generalize p.owner t = po at *
            go_upto_region 13 with fail
            generalize wr.setCell _ _ = w2 at *
            clear HG f0 c0 hxi
            have kl := HG2.out.row.live
            have ka := HG2.out.row.active
            cases ha : p.active.testBit t with
            | false =>
              rw [ha] at HA
              have HE := Lib.hid (HN.out (by rw [ha]; rfl))
              rw [HE.out] at HG2
              clear ha HN HY HG3
              go_wp2_with fail
              with_reducible refine (HA.out _).mono ?_
              rintro e wx ⟨rfl, rfl⟩
              clear kl ka
              go_wp2_with fail
              go_roundw
              case rel => first | exact ⟨t + 1, by omega, by go_num, HG2.out⟩ | ((repeat apply Exists.intro); exact ⟨⟨t + 1, by omega, by go_num, HG2.out⟩, rfl⟩)
              case measure => simp [intOf]; omega
            | true =>
              rw [ha] at HA
              cases hl : p.live.testBit po with
              | false =>
                rw [hl] at HL
                have HE := Lib.hid (HN.out (by rw [ha, hl]; rfl))
                rw [HE.out] at HG2
                clear ha hl HN HY HG3
                go_wp2_with fail
                with_reducible refine (HA.out _).mono ?_
                rintro e wx ⟨rfl, rfl⟩
                go_wp2_with fail
                with_reducible refine (HL.out _).mono ?_
                rintro e wx ⟨rfl, rfl⟩
                clear kl ka
                go_wp2_with fail
                go_roundw
                case rel => first | exact ⟨t + 1, by omega, by go_num, HG2.out⟩ | ((repeat apply Exists.intro); exact ⟨⟨t + 1, by omega, by go_num, HG2.out⟩, rfl⟩)
                case measure => simp [intOf]; omega
              | true =>
                rw [hl] at HL
                have HE := Lib.hid (HY.out (by rw [ha, hl]; rfl))
                have HG4 := Lib.hid (HG3.out po)
                rw [HE.out] at HG4
                have f0 := Blk.free HG2.out.t (49 + t)
                have c0 := HG2.out.t.owner htt
                clear ha hl HN HY HG3
                go_wp2_with fail
                with_reducible refine (HA.out _).mono ?_
                rintro e wx ⟨rfl, rfl⟩
                go_wp2_with fail
                with_reducible refine (HL.out _).mono ?_
                rintro e wx ⟨rfl, rfl⟩
                clear kl ka
                go_wp2_with fail
                go_roundw
                case rel => first | exact ⟨t + 1, by omega, by go_num, HG4.out⟩ | ((repeat apply Exists.intro); exact ⟨⟨t + 1, by omega, by go_num, HG4.out⟩, rfl⟩)
                case measure => simp [intOf]; omega
          · obtain rfl : t = 16 := by omega
            have hrow := HG.out.t
            have hres := HG.out.res
            go_wp2_with (first
              | (refine wpList_load_arr rfl _ _ rfl rfl hrow Tryd.underlying29 rfl (infoPol _) ?_)
              | (refine wpList_store_arr rfl rfl _ _ _ rfl rfl rfl hres (infoPol _) (by rw [polC_size, polC_size]) (polC_one _) ?_; intro w5 hw5))
            exact bodyPost_ret (results_arr rfl rfl hw5.blk Tryd.underlying29 rfl (infoPol _)) rfl ⟨rfl, HG.out.all.trans (hw5.below HG.out.all.size HG.out.far.2.1)⟩
set_option maxRecDepth 100000 in
set_option maxHeartbeats 1600000 in
/-- Fine tells whether a policy is the tidy one. -/
theorem pFine_tidy (p : Pol) (b : Bool) (hb : b = true ↔ polC (tidP p) = polC p) (w : World) (hT : TabOk w) (hp : PolOk p) :
    Calls Tryd.prog 8 #[.agg (polC p)] w fun e w' => e = .returned (.bool b) ∧ Below w.heap.size w w' := by
  have HG := Lib.hid (show PW w w.heap.size p (w.alloc (.cells (polC p) 29)) from ⟨belowNew w _, PRow.new w p, rfl⟩)
  have HTi := Lib.hid (fun V (hV : Since w V) => pTidy_any p V (hT.since hV) hp)
  have HB := Lib.hid hb
  have HQ := Lib.hid (And.intro (tidP_ok hp) hp)
  clear hb hT hp
  generalize tidP p = q at *
  go_enter Tryd.func8, Tryd.ntmps8
  go_upto_region 1 with fail
  generalize w.alloc (.cells (polC p) 29) = w1 at *
  generalize w.heap.size = bp at *
  refine wp_region_S (fun _ V => PW w bp p V) 0 [.val (.agg (polC p)), .val (.agg (polC q)), .val (.agg (polC p)), .val (.bool b), .val (.bool b)]
    (fun x => { tmps := #[.agg (polC p), .pointer (some ⟨bp, 0, none⟩), x 4, x 0, x 1, x 2, x 3], defers := [] }) (fun i => ([undef, undef, undef, undef, .bool false] : List Value).getD i undef) (by kernel_rfl) rfl rfl (by kernel_rfl) (by kernel_rfl) (by kernel_rfl) (by kernel_rfl) (HG.out.step (Below.refl _ _).drew) ?_ ?_
  · refine ⟨ObS.of_val rfl (fun x v => rfl) (fun x V kst hC hD => ?_), ?_⟩
    · clear hD
      refine want_yes rfl ?_
      exact leads_value (exec_load_pol rfl rfl hC.row) ⟨rfl, hC⟩
    refine ⟨ObS.of_val rfl (fun x v => rfl) (fun x V kst hC hD => ?_), ?_⟩
    · have e0 : x 0 = .agg (polC p) := hD.1 rfl
      clear hD
      refine want_yes rfl ?_
      exact leads_enter2 (by go_simp) ((HTi.out V hC.all).mono fun e w'' ⟨he, hB⟩ => ⟨_, he, rfl, hC.step hB⟩)
    refine ⟨ObS.of_val rfl (fun x v => rfl) (fun x V kst hC hD => ?_), ?_⟩
    · clear hD
      refine want_yes rfl ?_
      exact leads_value (exec_load_pol rfl rfl hC.row) ⟨rfl, hC⟩
    refine ⟨ObS.of_val rfl (fun x v => rfl) (fun x V kst hC hD => ?_), ?_⟩
    · have e1 : x 1 = .agg (polC q) := hD.1 rfl
      have e2 : x 2 = .agg (polC p) := hD.2.1 rfl
      clear hD
      refine want_yes rfl ?_
      exact leads_value (exec_eql_pols HQ.out.1 HQ.out.2 HB.out rfl e1 e2) ⟨rfl, hC⟩
    refine ⟨ObS.of_val rfl (fun x v => rfl) (fun x V kst hC hD => ?_), ?_⟩
    · have e3 : x 3 = .bool b := hD.1 rfl
      have e1 : x 1 = .agg (polC q) := hD.2.1 rfl
      have e0 : x 0 = .agg (polC p) := hD.2.2.1 rfl
      have e2 : x 2 = .agg (polC p) := hD.2.2.2.2.1 rfl
      clear hD
      refine want_yes rfl ?_
      exact leads_value (v := .bool b) (by go_simp) ⟨rfl, hC⟩
    trivial
  · intro xa V hC hx
    have e4 : xa 4 = .bool b := hx 4 (by simp)
    have HV := Lib.hid (show PW w bp p V from hC)
    clear hx hC
    rw [e4]
    clear e4
    go_wp2_with fail
    go_ret
    exact ⟨rfl, HV.out.all⟩
theorem sub_and {a b : Nat} (h : subB a b = true) (ha : a < 65536) : a &&& b = a := by
  apply Nat.eq_of_testBit_eq
  intro t
  rw [Nat.testBit_and]
  cases ht : a.testBit t with
  | false => rfl
  | true => rw [(subB_bits ha).1 h t ht]; rfl
theorem less_nil {a b : Nat} (ha : a < 65536) (hb : b < 16) (h : a.testBit b = false) : lessN a (withN 0 b) = a := by
  apply Nat.eq_of_testBit_eq
  intro t
  rw [lessN_bit ha (withN_lt (by decide) hb), one_bit]
  by_cases e : b = t
  · subst e; rw [h]; rfl
  · simp [e]
/-- The tidy one has what the mended one has. -/
theorem tid_mend (p : Pol) : polC (tidP p) = polC (mendN p) := by
  refine polC_congr rfl (fun r hr => ?_) (fun t ht => ?_) rfl
  · show uptoN (mSet p p.s) (fun _ => 0) 16 r = uptoN (mSet p p.s) p.s 16 r ∧ uptoN (mSet p p.i) (fun _ => 0) 16 r = uptoN (mSet p p.i) p.i 16 r ∧ uptoN (mAct p) (cutF p.acts p.live) 16 r = uptoN (mAct p) p.acts 16 r
    rw [uptoN_in hr, uptoN_in hr, uptoN_in hr, uptoN_in hr, uptoN_in hr, uptoN_in hr]
    exact ⟨rfl, rfl, rfl⟩
  · show uptoN (mOwn p) (fun _ => 0) 16 t = uptoN (mOwn p) p.owner 16 t
    rw [uptoN_in ht, uptoN_in ht]
/-- A policy that may be is tidy. -/
theorem tid_same {p : Pol} (hp : PolOk p) (h : fineP p = true) : polC (tidP p) = polC p := by
  obtain ⟨h1, h2⟩ := fine_iff.1 h
  refine polC_congr rfl (fun r hr => ?_) (fun t ht => ?_) rfl
  · have hr1 := h1 r hr
    unfold roleB at hr1
    simp only [Bool.and_eq_true, Bool.or_eq_true, Bool.not_eq_true'] at hr1
    obtain ⟨hl, ⟨ha, hb⟩, hc⟩ := hr1
    rw [subB_or_iff, Bool.and_eq_true] at ha
    show uptoN (mSet p p.s) (fun _ => 0) 16 r = p.s r ∧ uptoN (mSet p p.i) (fun _ => 0) 16 r = p.i r ∧ uptoN (mAct p) (cutF p.acts p.live) 16 r = p.acts r
    rw [uptoN_in hr, uptoN_in hr, uptoN_in hr]
    unfold mSet mAct
    cases hlive : p.live.testBit r with
    | true => exact ⟨by rw [if_pos rfl, sub_and ha.1 (hp.s r hr)], by rw [if_pos rfl, sub_and ha.2 (hp.i r hr)], by rw [if_pos rfl, sub_and hb (hp.acts r hr), less_nil (hp.acts r hr) hr hc]⟩
    | false =>
      rw [hlive] at hl
      have hn : nilB p r = true := by simpa using hl
      unfold nilB at hn
      simp only [Bool.and_eq_true, decide_eq_true_eq] at hn
      rw [hn.1.1, hn.1.2, hn.2]
      simp
  · have ht2 := h2 t ht
    unfold ownerB at ht2
    simp only [Bool.and_eq_true, Bool.or_eq_true, decide_eq_true_eq] at ht2
    show uptoN (mOwn p) (fun _ => 0) 16 t = p.owner t
    rw [uptoN_in ht]
    unfold mOwn
    rcases ht2.2 with e | e
    · rw [e]; split <;> rfl
    · rw [if_pos (by rw [e.1, e.2]; rfl)]
/-- It is tidy exactly if it may be. -/
theorem tid_iff {p : Pol} (hp : PolOk p) : fineP p = true ↔ polC (tidP p) = polC p :=
  ⟨tid_same hp, fun h => by rw [← fine_cells ((tid_mend p).symm.trans h)]; exact mend_fine hp⟩
end Go.Proofs.YtoieodlpoglmfaaDoor

/-! PolH -/
namespace Go.Proofs.YtoieodlpoglmfaaDoor
open Go.RowKit

theorem of_zero (w : World) (b : Nat) (hb : b = w.heap.size) : Calls Tryd.prog 40 #[.slice (some ⟨b, 0, none⟩) 1 1] (w.alloc (.cells #[.int .i64 0] 3)) fun e w' => e = .returned (.int .u16 1) ∧ w.alloc (.cells #[.int .i64 0] 3) = w' := by
  subst hb
  exact (of_one w 0).mono fun e w' ⟨he, hw⟩ => ⟨by rw [he]; rfl, hw⟩
set_option maxRecDepth 100000 in
set_option maxHeartbeats 1600000 in
theorem pFirst_any : PFirstC := by
  intro w
  go_enter Tryd.func10, Tryd.ntmps10
  go_wp2_with fail
  with_reducible refine (of_zero _ _ (by simp)).mono ?_
  rintro e wx ⟨rfl, rfl⟩
  have hZ := (PRow.new w zeroP).alloc (.cells #[.int .i64 0] 3)
  have hW0 := (belowNew w (.cells (polC zeroP) 29)).alloc (by simp) (.cells #[.int .i64 0] 3)
  have hn : w.heap.size < ((w.alloc (.cells (polC zeroP) 29)).alloc (.cells #[.int .i64 0] 3)).heap.size := by simp; omega
  generalize (w.alloc (.cells (polC zeroP) 29)).alloc (.cells #[.int .i64 0] 3) = w1 at *
  generalize hbp : w.heap.size = bp at *
  have HBp := Lib.hid hbp
  clear hbp
  go_wp2_with fail
  have hB := PRow.new w1 zeroP
  simp only [store_pol hB mid_pol, Result.andThen_ok]
  have hM := setRow_heap _ _ _ (polC midP) _ _ hB
  have hA := (setRow_other _ w1.heap.size bp (polC midP) (by omega)).trans (hZ.alloc (.cells (polC zeroP) 29))
  have hW := (hW0.alloc (Nat.le_of_lt hn) (.cells (polC zeroP) 29)).trans (below_row (b := w1.heap.size) (c := polC midP) (Nat.le_of_lt hn))
  have hlt : w1.heap.size < ((w1.alloc (.cells (polC zeroP) 29)).setRow w1.heap.size (polC midP)).heap.size := by simp
  generalize (w1.alloc (.cells (polC zeroP) 29)).setRow w1.heap.size (polC midP) = w2 at *
  have HM : Hid (PRow w2 w1.heap.size midP) := Lib.hid hM
  have HA : Hid (PRow w2 bp zeroP) := Lib.hid hA
  have HW := Lib.hid hW
  have HN := Lib.hid hn
  clear hM hA hW hB hZ hW0 hn hlt
  generalize w1.heap.size = bt at *
  go_wp2_with fail
  refine (lBottom_any _).mono ?_
  rintro e w3 ⟨rfl, hB3⟩
  have hm := HM.out.step hB3
  have ha := HA.out.step hB3
  have hw := HW.out.trans (hB3.mono (HBp.out ▸ HW.out.size))
  clear hB3 HM HA HW
  have k1 := hm.s (r := 0) (by decide)
  have k2 := hm.i (r := 0) (by decide)
  have f1 := Blk.free hm 1
  have f2 := Blk.free hm 2
  have hS := Blk.set (Blk.set hm 1 (.int .u16 0)) 2 (.int .u16 65535)
  have hA2 := Blk.set_other (Blk.set_other ha (a := ⟨bt, 1, none⟩) (by show ¬ bt = bp; have := HN.out; omega) (.int .u16 0)) (a := ⟨bt, 2, none⟩) (by show ¬ bt = bp; have := HN.out; omega) (.int .u16 65535)
  have hS1 : PRow _ bt firstP := hS.trans (congrArg (fun c => some (Obj.cells c 29 (0, 0))) first_pol)
  have hW2 := (hw.setCell (p := ⟨bt, 1, none⟩) (by have := HN.out; have := HBp.out; show _ ≤ bt; omega) (.int .u16 0)).setCell (p := ⟨bt, 2, none⟩) (by have := HN.out; have := HBp.out; show _ ≤ bt; omega) (.int .u16 65535)
  clear hS hm ha hw
  go_upto_region 3 with fail
  generalize (w3.setCell _ _).setCell _ _ = w4 at *
  go_wp2_with (first
    | (refine wpList_load_arr rfl _ _ rfl rfl hS1 Tryd.underlying29 rfl (infoPol _) ?_)
    | (refine wpList_store_arr rfl rfl _ _ _ rfl rfl rfl hA2 (infoPol _) (by rw [polC_size, polC_size]) (polC_one _) ?_; intro w5 hw5))
  exact bodyPost_ret (results_arr rfl rfl hw5.blk Tryd.underlying29 rfl (infoPol _)) rfl ⟨rfl, by rw [HBp.out]; exact hW2.trans (hw5.below (by rw [← HBp.out]; exact hW2.size) (Nat.le_refl _))⟩
end Go.Proofs.YtoieodlpoglmfaaDoor

/-! PolJ -/
namespace Go.Proofs.YtoieodlpoglmfaaDoor
open Go.RowKit

set_option maxHeartbeats 800000 in
theorem pWriteSet_any (B b : Nat) (t : TypeId) (v : Value) (s : List UInt8 × Int) (n : Nat) (w : World) (h : WAt 5 B w b t v s) (hB : B ≤ w.heap.size) (hsm : s.1.length ≤ 900000) (hn : n < 65536) :
    Calls Tryd.prog 56 #[.pointer (some ⟨b, 0, none⟩), .int .u16 (n : Int)] w fun en w' => en = .returned (.tuple #[]) ∧ WNow B w b t v (addS s (be n 2)) w' := by
  have HN := Lib.hid (wnum_ok2 B b t v s n w h hB hsm hn)
  clear h hB hsm
  go_enter Tryd.func56, Tryd.ntmps56
  go_wp2_with fail
  refine HN.out.mono ?_
  rintro e w' ⟨rfl, hw⟩
  have HW := Lib.hid hw
  clear hw HN
  go_wp2_with fail
  first | go_end0 | skip
  first | exact ⟨rfl, HW.out⟩ | (refine bodyPost_ret (results_none rfl _ _ _) rfl ?_; exact ⟨rfl, HW.out⟩)
/-- The policy, the Writer and what it holds. -/
structure BYW (w : World) (bp bw : Nat) (p : Pol) (l : List UInt8) (v : Value) (V : World) : Prop where
  all : Below bp w V
  row : PRow V bp p
  wr : WAt 5 (bp + 1) V bw 83 v (l, 0)
  far : bp = w.heap.size ∧ bp < bw
theorem BYW.step {w : World} {bp bw : Nat} {p : Pol} {l : List UInt8} {v : Value} {V V' : World} (h : BYW w bp bw p l v V) (hB : Below V.heap.size V V') : BYW w bp bw p l v V' :=
  ⟨h.all.trans (hB.mono (by rw [h.far.1]; exact h.all.size)), h.row.step hB, h.wr.below hB (Nat.le_refl _), h.far⟩
theorem BYW.write {w : World} {bp bw : Nat} {p : Pol} {l m : List UInt8} {v : Value} {V V' : World} (h : BYW w bp bw p l v V) (hw : WNow (bp + 1) V bw 83 v (addS (l, 0) m) V') : ∃ v', BYW w bp bw p (l ++ m) v' V' ∧ Chg (foot bw v) V V' ∧ OwnNew V v v' := by
  obtain ⟨v', hn, hc, ho⟩ := hw
  refine ⟨v', ⟨h.all.trans (hc.below (by rw [h.far.1]; exact h.all.size) fun k hk => ?_), hc.kept h.row (fun hk => ?_), hn, h.far⟩, hc, ho⟩
  · rcases hk with rfl | hk
    · exact Nat.le_of_lt h.far.2
    · have := (h.wr.lt hk).1; omega
  · rcases hk with e | hk
    · have := h.far.2; omega
    · have := (h.wr.lt hk).1; omega
/-- .. and a label of the round's own. -/
structure BLW (w : World) (bp bw bl : Nat) (p : Pol) (l : List UInt8) (v : Value) (x y : Nat) (V : World) : Prop where
  b : BYW w bp bw p l v V
  lab : Blk V bl #[.int .u16 (x : Int), .int .u16 (y : Int)] 24
  ne : bl ≠ bw ∧ v.ownBlock ≠ some bl
theorem BLW.write {w : World} {bp bw bl : Nat} {p : Pol} {l m : List UInt8} {v : Value} {x y : Nat} {V V' : World} (h : BLW w bp bw bl p l v x y V) (hw : WNow (bp + 1) V bw 83 v (addS (l, 0) m) V') : ∃ v', BLW w bp bw bl p (l ++ m) v' x y V' := by
  obtain ⟨v', hb, hc, ho⟩ := h.b.write hw
  refine ⟨v', hb, hc.kept h.lab (fun hk => ?_), h.ne.1, fun e => ?_⟩
  · rcases hk with e | hk
    · exact h.ne.1 e
    · exact h.ne.2 hk
  · rcases ho bl e with e | e
    · exact h.ne.2 e
    · have := h.lab.lt; omega
theorem BYW.new (w : World) (p : Pol) : BYW w w.heap.size (w.heap.size + 1) p [] (.slice none 0 0) ((w.alloc (.cells (polC p) 29)).alloc (.cells #[.slice none 0 0, .int .i64 0] 83)) := by
  have h := WAt.new (w.alloc (.cells (polC p) 29)) 83
  simp only [World.size_alloc] at h
  exact ⟨(belowNew w _).alloc (by simp) _, (PRow.new w p).alloc _, h, rfl, by omega⟩
set_option maxRecDepth 100000 in
set_option maxHeartbeats 3200000 in
theorem pBytes_any : PBytesC := by
  intro p w hp _
  have HG0 := Lib.hid (BYW.new w p)
  have HOk := Lib.hid hp
  have HIL := Lib.hid (fun (k : Nat) (hk : k < 16) (V : World) => run_index_labs p hk V)
  have HIO := Lib.hid (fun (k : Nat) (hk : k < 16) (V : World) => run_index_owns p hk V)
  have HHl := Lib.hid (fun V (r : Nat) => Has_any p.live (r : Int) V hp.live)
  have HWr := Lib.hid (fun (l : List UInt8) (v : Value) (bw n : Nat) (V : World) (h : BYW w w.heap.size bw p l v V) (hl : l.length ≤ 900000) (hn : n < 65536) => pWriteSet_any _ _ _ _ _ n V h.wr h.row.lt hl hn)
  have HW1 := Lib.hid (fun (l : List UInt8) (v : Value) (bw n : Nat) (V : World) (h : BYW w w.heap.size bw p l v V) (hl : l.length ≤ 900000) (hn : n < 256) => wnum_ok1 _ _ _ _ _ n V h.wr h.row.lt hl hn)
  have HDo := Lib.hid (fun (l : List UInt8) (v : Value) (bw : Nat) (V : World) (h : BYW w w.heap.size bw p l v V) (hl : l.length ≤ 1000000) => done_own _ _ _ _ _ V h.wr hl)
  clear hp
  go_enter Tryd.func26, Tryd.ntmps26
  go_upto_region 2 with fail
  generalize (w.alloc (.cells (polC p) 29)).alloc _ = w1 at *
  generalize hbp : w.heap.size = bp at *
  have HBp := Lib.hid hbp
  clear hbp
  have kl := HG0.out.row.live
  go_wp2_with fail
  refine (HWr.out _ _ _ p.live _ HG0.out (by decide) HOk.out.live).mono ?_
  rintro e w2 ⟨rfl, hw⟩
  obtain ⟨v2, h2, -, -⟩ := HG0.out.write hw
  have HG2 := Lib.hid (show ∃ v, BYW w bp (bp + 1) p (bytR p 0) v w2 from ⟨v2, h2⟩)
  clear hw h2 kl HG0
  clear v2
  obtain ⟨v2, h2⟩ := HG2.out
  have hrow := h2.row
  go_wp2_with (refine wpList_load_mid rfl _ _ rfl rfl hrow (pol_labs p) Tryd.underlying25 rfl (infoLabs p) ?_)
  clear hrow h2 v2
  go_loopw [15] (fun i wr => ∃ k : Nat, k ≤ 16 ∧ i = .int .i64 (k : Int) ∧ ∃ v, BYW w bp (bp + 1) p (bytR p k) v wr) (fun i _ => 16 - (intOf i).toNat)
  case atStart => exact ⟨0, by omega, rfl, HG2.out⟩
  case round =>
    obtain ⟨k, hk, rfl, v, hg⟩ := hrel
    have HG := Lib.hid hg
    clear hg HG2
    by_cases hlt : k < 16
    · have dk : decide ((k : Int) < 16) = true := by simp; omega
      have hk16 : (k : Int) < 16 := by omega
      have hk0 : (0 : Int) ≤ (k : Int) := by omega
      have hxi := fun V => HIL.out k hlt V
      have HHas := Lib.hid (fun V => HHl.out V k)
      rw [hasB_bit] at HHas
      have HLe := Lib.hid (bytR_le p k)
      go_upto_region 6 with fail
      have HG2 := Lib.hid (show BLW w bp (bp + 1) wr.heap.size p (bytR p k) v (p.s k) (p.i k) (wr.alloc (.cells #[.int .u16 (p.s k : Nat), .int .u16 (p.i k : Nat)] 24)) from
        ⟨HG.out.step (belowNew wr _), Blk.new wr _ _, by have := HG.out.wr.blk.lt; omega, fun e => by have := (HG.out.wr.lt e).2; omega⟩)
      generalize wr.alloc (.cells #[.int .u16 (p.s k : Nat), .int .u16 (p.i k : Nat)] 24) = w2 at *
      generalize wr.heap.size = bl at *
      clear HG hxi
      have kl := HG2.out.b.row.live
      cases hl : p.live.testBit k with
      | false =>
        rw [hl] at HHas
        have HS := Lib.hid (show bytR p (k + 1) = bytR p k by show bytR p k ++ roleL p k = _; unfold roleL; rw [hl]; simp)
        clear hl
        go_wp2_with fail
        with_reducible refine (HHas.out _).mono ?_
        rintro e wx ⟨rfl, rfl⟩
        clear kl
        go_wp2_with fail
        go_roundw
        case rel => first | exact ⟨k + 1, by omega, by go_num, v, by rw [HS.out]; exact HG2.out.b⟩ | ((repeat apply Exists.intro); exact ⟨⟨k + 1, by omega, by go_num, v, by rw [HS.out]; exact HG2.out.b⟩, rfl⟩)
        case measure => simp [intOf]; omega
      | true =>
        rw [hl] at HHas
        have HS := Lib.hid (show bytR p (k + 1) = bytR p k ++ be (p.s k) 2 ++ be (p.i k) 2 ++ be (p.acts k) 2 by show bytR p k ++ roleL p k = _; unfold roleL; rw [hl, if_pos rfl]; simp only [List.append_assoc])
        have a0 := HG2.out.lab.cell 0
        clear hl
        go_wp2_with fail
        with_reducible refine (HHas.out _).mono ?_
        rintro e wx ⟨rfl, rfl⟩
        clear kl
        go_wp2_with fail
        refine (HWr.out _ _ _ (p.s k) _ HG2.out.b (by have := HLe.out; omega) (HOk.out.s k hlt)).mono ?_
        rintro e w3 ⟨rfl, hw⟩
        obtain ⟨v3, h3⟩ := HG2.out.write hw
        have HG3 := Lib.hid h3
        clear hw h3 a0 HG2
        have a1 := HG3.out.lab.cell 1
        go_wp2_with fail
        refine (HWr.out _ _ _ (p.i k) _ HG3.out.b (by have := HLe.out; rw [List.length_append, be_length]; omega) (HOk.out.i k hlt)).mono ?_
        rintro e w4 ⟨rfl, hw⟩
        obtain ⟨v4, h4⟩ := HG3.out.write hw
        have HG4 := Lib.hid h4
        clear hw h4 a1 HG3
        have ka := HG4.out.b.row.acts hlt
        go_wp2_with fail
        refine (HWr.out _ _ _ (p.acts k) _ HG4.out.b (by have := HLe.out; rw [List.length_append, List.length_append, be_length, be_length]; omega) (HOk.out.acts k hlt)).mono ?_
        rintro e w5 ⟨rfl, hw⟩
        obtain ⟨v5, h5⟩ := HG4.out.write hw
        have HG5 := Lib.hid h5.b
        clear hw h5 ka HG4
        rw [← HS.out] at HG5
        go_wp2_with fail
        go_roundw
        case rel => first | exact ⟨k + 1, by omega, by go_num, v5, HG5.out⟩ | ((repeat apply Exists.intro); exact ⟨⟨k + 1, by omega, by go_num, v5, HG5.out⟩, rfl⟩)
        case measure => simp [intOf]; omega
    · obtain rfl : k = 16 := by omega
      have ka := HG.out.row.active
      go_wp2_with fail
      refine (HWr.out _ _ _ p.active _ HG.out (by have := bytR_le p 16; omega) HOk.out.active).mono ?_
      rintro e w3 ⟨rfl, hw⟩
      obtain ⟨v3, h3, -, -⟩ := HG.out.write hw
      have HG3 := Lib.hid (show ∃ v, BYW w bp (bp + 1) p (bytO p 0) v w3 from ⟨v3, h3⟩)
      clear hw h3 ka HG
      clear v3
      obtain ⟨v3, h3⟩ := HG3.out
      have hrow := h3.row
      go_wp2_with (refine wpList_load_mid rfl _ _ rfl rfl hrow (pol_owns p) Tryd.underlying27 rfl (infoOwns p) ?_)
      clear hrow h3 v3
      go_loopw [40] (fun i wr => ∃ t : Nat, t ≤ 16 ∧ i = .int .i64 (t : Int) ∧ ∃ v, BYW w bp (bp + 1) p (bytO p t) v wr) (fun i _ => 16 - (intOf i).toNat)
      case atStart => exact ⟨0, by omega, rfl, HG3.out⟩
      case round =>
        obtain ⟨t, ht, rfl, v, hg⟩ := hrel
        have HG := Lib.hid hg
        clear hg HG3
        by_cases htt : t < 16
        · have dk : decide ((t : Int) < 16) = true := by simp; omega
          have ht16 : (t : Int) < 16 := by omega
          have ht0 : (0 : Int) ≤ (t : Int) := by omega
          have hxi := fun V => HIO.out t htt V
          have ho := HOk.out.owner t htt
          have HS := Lib.hid (show bytO p (t + 1) = bytO p t ++ be (p.owner t) 1 from rfl)
          generalize p.owner t = po at *
          go_wp2_with fail
          refine (HW1.out _ _ _ po _ HG.out (by have := bytO_le p t; omega) ho).mono ?_
          rintro e w3 ⟨rfl, hw⟩
          obtain ⟨v3, h3, -, -⟩ := HG.out.write hw
          have HG3 := Lib.hid h3
          clear hw h3 HG
          rw [← HS.out] at HG3
          go_wp2_with fail
          go_roundw
          case rel => first | exact ⟨t + 1, by omega, by go_num, v3, HG3.out⟩ | ((repeat apply Exists.intro); exact ⟨⟨t + 1, by omega, by go_num, v3, HG3.out⟩, rfl⟩)
          case measure => simp [intOf]; omega
        · obtain rfl : t = 16 := by omega
          go_wp2_with fail
          refine (HDo.out _ _ _ _ HG.out (by have := bytO_le p 16; omega)).mono ?_
          rintro e w3 ⟨v3, rfl, hr, hB⟩
          have HR := Lib.hid (show w3.ownsRow w.heap.size 5 1 v3 (bytesP p).length (bvs (bytesP p)) from own_older hr (by rw [HBp.out]; exact Nat.le_of_lt HG.out.row.lt))
          have HB := Lib.hid (show Below w.heap.size w w3 by rw [HBp.out]; exact HG.out.all.trans (hB.mono (Nat.le_of_lt HG.out.row.lt)))
          clear hr hB HG
          go_wp2_with fail
          go_ret
          exact ⟨_, rfl, HR.out, HB.out⟩
end Go.Proofs.YtoieodlpoglmfaaDoor

/-! PolP -/
namespace Go.Proofs.YtoieodlpoglmfaaDoor
open Go.RowKit

theorem RAt.past {w w' : World} {b : Nat} {t : TypeId} {g c : Nat} {s : List UInt8 × Int} (h : RAt w b t g s) (hc : Chg (fun k => k = c) w w') (hb : b ≠ c) (hg : s.1 ≠ [] → g ≠ c) : RAt w' b t g s := by
  obtain ⟨p, n, cap, h1, h2, h3⟩ := h
  refine ⟨p, n, cap, hc.kept h1 hb, ?_, h3⟩
  by_cases e : s.1 = []
  · refine ⟨h2.same, h2.le, h2.small, ?_⟩
    rcases h2.place with q | q | ⟨g2, off, q, -⟩
    · exact .inl q
    · exact .inr (.inl q)
    · exact .inr (.inl ⟨e, by rw [q]; simp⟩)
  · exact h2.chg hc fun a ha => by rw [h3 a ha]; exact hg e
set_option maxHeartbeats 800000 in
theorem pReadSet_any (b : Nat) (t : TypeId) (g : Nat) (s : List UInt8 × Int) (w : World) (h : RAt w b t g s) (hg : g ≠ b) (hsm : s.1.length ≤ 1000000) :
    Calls Tryd.prog 60 #[.pointer (some ⟨b, 0, none⟩)] w fun e w' => e = .returned (.int .u16 ((dNum s 2 65535).1.toNat : Int)) ∧ RTo w b t g (dNum s 2 65535).2 w' := by
  have HN := Lib.hid (rdnum_any b t g s 2 65535 w h hg hsm)
  have hv := dNum_lt s
  have HC := Lib.hid (dNum_cast s 2 65535)
  clear h hg hsm
  generalize (dNum s 2 65535).1.toNat = v at *
  have hw1 : IntKind.u16.wrap (v : Int) = (v : Int) := by unfold IntKind.wrap; simp [IntKind.signed, IntKind.bits]; omega
  go_enter Tryd.func60, Tryd.ntmps60
  go_wp2_with fail
  refine HN.out.mono ?_
  rintro e w' ⟨rfl, hw⟩
  have HW := Lib.hid hw
  rw [← HC.out]
  clear hw HN HC
  go_wp2_with fail
  go_ret
  exact ⟨rfl, HW.out⟩
/-- A Reader, the policy that is read, and the place for the answer. -/
structure RPW (w : World) (b : Nat) (ty : TypeId) (g c : Nat) (n : Nat) (x : RdSt) (V : World) : Prop where
  rd : RAt V b ty g x.2
  row : PRow V c x.1
  res : PRow V w.heap.size zeroP
  chg : Chg (fun k => k = b) w V
  lt : w.heap.size < c
  le : x.2.1.length ≤ n
theorem RPW.read {w : World} {b : Nat} {ty : TypeId} {g c n : Nat} {x : RdSt} {V V' : World} {s : WSt} (h : RPW w b ty g c n x V) (hb : b < w.heap.size) (hx : RTo V b ty g s V') (hl : s.1.length ≤ x.2.1.length) : RPW w b ty g c n (x.1, s) V' :=
  ⟨hx.1, hx.2.kept h.row (by have := h.lt; omega), hx.2.kept h.res (by omega), h.chg.trans hx.2, h.lt, Nat.le_trans hl h.le⟩
theorem RPW.step {w : World} {b : Nat} {ty : TypeId} {g c n : Nat} {x : RdSt} {V V' : World} (h : RPW w b ty g c n x V) (hB : Below V.heap.size V V') : RPW w b ty g c n x V' :=
  ⟨h.rd.below hB (Nat.le_refl _), h.row.step hB, h.res.step hB, h.chg.trans (Chg.ofBelow hB), h.lt, h.le⟩
theorem RPW.cell {w : World} {b : Nat} {ty : TypeId} {g c n : Nat} {x : RdSt} {q : Pol} {V : World} (h : RPW w b ty g c n x V) (hb : b < w.heap.size) (hg : n ≠ 0 → g < w.heap.size) {k : Nat} {u : Value} (hr : PRow (V.setCell ⟨c, k, none⟩ u) c q) : RPW w b ty g c n (q, x.2) (V.setCell ⟨c, k, none⟩ u) := by
  have h1 := h.lt
  have hc := (Chg.refl (fun k => k = c) V).setCell (p := ⟨c, k, none⟩) (fun _ => rfl) u
  refine ⟨h.rd.past hc (by omega) (fun hne => ?_), hr, Blk.set_other h.res (by show c ≠ _; omega) _, h.chg.setCell (fun hk => by have h2 : c < w.heap.size := hk; omega) u, h.lt, h.le⟩
  have h2 := h.le
  have h3 : x.2.1.length ≠ 0 := fun e => hne (List.eq_nil_of_length_eq_zero e)
  have h4 := hg (by omega)
  omega
theorem RPW.out {w : World} {b : Nat} {ty : TypeId} {g c n : Nat} {x : RdSt} {V V' : World} {cs : Array Value} {t : TypeId} (h : RPW w b ty g c n x V) (hb : b < w.heap.size) (hg : n ≠ 0 → g < w.heap.size) (hp : Put V V' w.heap.size cs t) : RTo w b ty g x.2 V' := by
  refine ⟨h.rd.past hp.chg (by omega) (fun hne => ?_), h.chg.then hp.chg (fun i hi he => by have h2 : i = w.heap.size := he; omega)⟩
  have h2 := h.le
  have h3 : x.2.1.length ≠ 0 := fun e => hne (List.eq_nil_of_length_eq_zero e)
  have h4 := hg (by omega)
  omega
theorem RAt.in_ {w : World} {b : Nat} {t : TypeId} {g : Nat} {s : List UInt8 × Int} (h : RAt w b t g s) : b < w.heap.size ∧ (s.1.length ≠ 0 → g < w.heap.size) := by
  obtain ⟨p, n, c, h1, h2, h3⟩ := h
  refine ⟨h1.lt, fun hn => ?_⟩
  rcases h2.place with ⟨q, q2⟩ | ⟨q, -⟩ | ⟨g2, off, q, h4, -⟩
  · have := h2.le; have := h2.same; omega
  · rw [q] at hn; exact absurd rfl hn
  · rw [← h3 _ q]; exact h4
/-- What is answered where Fine says fb. -/
def rdEW (fb : Bool) (s : WSt) : WSt := if fb = true then (rdT s 16).2 else failS (rdT s 16).2 3
def rdPoW (fb : Bool) (s : WSt) : Pol := if (rdEW fb s).2 = 0 then (rdT s 16).1 else zeroP
set_option maxRecDepth 100000 in
set_option maxHeartbeats 3200000 in
theorem pRead_of (b : Nat) (ty : TypeId) (g : Nat) (s : WSt) (w : World) (fb : Bool) (cF : ∀ V, TabOk V → Calls Tryd.prog 8 #[.agg (polC (rdT s 16).1)] V fun e w' => e = .returned (.bool fb) ∧ Below V.heap.size V w')
    (hTb : ∀ V, Chg (fun k => k = b) w V → TabOk V) (h : RAt w b ty g s) (hg : g ≠ b) (hL : s.1.length ≤ 1000000) :
    Calls Tryd.prog 28 #[.pointer (some ⟨b, 0, none⟩)] w fun e w' => e = .returned (.agg (polC (rdPoW fb s))) ∧ RTo w b ty g (rdEW fb s) w' := by
  obtain ⟨hbl, hgl⟩ := h.in_
  have HX := Lib.hid h
  have HH := Lib.hid (And.intro hg (And.intro hgl (And.intro hL hbl)))
  have HB0 := Lib.hid (belowNew w (.cells (polC zeroP) 29))
  have HR0 := Lib.hid (PRow.new w zeroP)
  have HNs := Lib.hid (fun V s2 (hx : RAt V b ty g s2) (hl : s2.1.length ≤ s.1.length) => pReadSet_any b ty g s2 V hx hg (Nat.le_trans hl hL))
  have HNo := Lib.hid (fun V s2 (hx : RAt V b ty g s2) (hl : s2.1.length ≤ s.1.length) => rdnum_any b ty g s2 1 16 V hx hg (Nat.le_trans hl hL))
  have HFi := Lib.hid (fun V (hV : Chg (fun k => k = b) w V) => cF V (hTb V hV))
  clear h hg hgl hL hbl cF hTb
  go_enter Tryd.func28, Tryd.ntmps28
  go_upto_region 1 with fail
  have HX1 := Lib.hid (HX.out.below HB0.out (Nat.le_refl _))
  go_wp2_with fail
  refine (HNs.out _ _ HX1.out (Nat.le_refl _)).mono ?_
  rintro e w2 ⟨rfl, hX2⟩
  have hv := dNum_lt s
  have hs2 : (rdLive s).2 = (dNum s 2 65535).2 := rfl
  have hp2 : (rdLive s).1 = { zeroP with live := (dNum s 2 65535).1.toNat } := rfl
  have hle : (rdLive s).2.1.length ≤ s.1.length := dNum_le s 2 65535
  rw [← hs2] at hX2
  have HW2 := Lib.hid hX2
  have HL2 := Lib.hid hp2
  have HE2 := Lib.hid hle
  have HR2 := Lib.hid (show PRow w2 w.heap.size zeroP from hX2.2.kept HR0.out (by have := HH.out.2.2.2; omega))
  have HC2 := Lib.hid ((Chg.ofBelow (S := fun k => k = b) HB0.out).trans hX2.2)
  have HS2 := Lib.hid (show w.heap.size < w2.heap.size from HR2.out.lt)
  clear hX2 hs2 hp2 hle HX1
  generalize (dNum s 2 65535).1.toNat = v at *
  go_wp2_with fail
  have hB := PRow.new w2 zeroP
  simp only [store_pol hB (live_pol v), Result.andThen_ok]
  have hM : PRow ((w2.alloc (.cells (polC zeroP) 29)).setRow w2.heap.size (polC { zeroP with live := v })) w2.heap.size { zeroP with live := v } := setRow_heap _ _ _ _ _ _ hB
  have hbl2 : Below w2.heap.size w2 ((w2.alloc (.cells (polC zeroP) 29)).setRow w2.heap.size (polC { zeroP with live := v })) := (belowNew w2 _).trans (below_row (Nat.le_refl _))
  have HQ := Lib.hid (show RPW w b ty g w2.heap.size s.1.length (rdR s 0) ((w2.alloc (.cells (polC zeroP) 29)).setRow w2.heap.size (polC { zeroP with live := v })) from
    ⟨HW2.out.1.below hbl2 (Nat.le_refl _), by show PRow _ _ (rdLive s).1; rw [HL2.out]; exact hM, HR2.out.step hbl2, HC2.out.trans (Chg.ofBelow hbl2), HS2.out, HE2.out⟩)
  have HLv := Lib.hid (show ∀ k, (rdR s k).1.live = v from fun k => by rw [rdR_live]; exact congrArg (fun q : Pol => q.live) HL2.out)
  clear hM hB hbl2 HW2 HL2 HR2 HC2 HS2 HE2 HX HB0 HR0
  generalize (w2.alloc (.cells (polC zeroP) 29)).setRow _ _ = w3 at *
  generalize w2.heap.size = c at *
  have HHl := Lib.hid (fun V (r : Nat) => Has_any v (r : Int) V hv)
  go_wp2_with fail
  go_loopw [9] (fun i wr => ∃ k : Nat, k ≤ 16 ∧ i = .int .i64 (k : Int) ∧ RPW w b ty g c s.1.length (rdR s k) wr) (fun i _ => 16 - (intOf i).toNat)
  case atStart => exact ⟨0, by omega, rfl, HQ.out⟩
  case round =>
    obtain ⟨k, hk, rfl, hz⟩ := hrel
    have HG := Lib.hid hz
    clear hz HQ
    by_cases hlt : k < 16
    · have dk : decide ((k : Int) < 16) = true := by simp; omega
      have hk16 : (k : Int) < 16 := by omega
      have hk0 : (0 : Int) ≤ (k : Int) := by omega
      have HHk := Lib.hid (fun V => HHl.out V k)
      rw [hasB_bit] at HHk
      have k0 := HG.out.row.live
      rw [HLv.out k] at k0
      have HLk := Lib.hid (HLv.out k)
      cases hl : v.testBit k with
      | false =>
        rw [hl] at HHk
        have HE := Lib.hid (show rdR s (k + 1) = rdR s k by
          show rdRole (rdR s k) k = _
          unfold rdRole; rw [HLk.out, if_neg (by rw [hl]; simp)])
        clear hl
        go_wp2_with fail
        with_reducible refine (HHk.out _).mono ?_
        rintro e wx ⟨rfl, rfl⟩
        go_wp2_with fail
        rw [← HE.out] at HG
        go_roundw
        case rel => first | exact ⟨k + 1, by omega, by go_num, HG.out⟩ | ((repeat apply Exists.intro); exact ⟨⟨k + 1, by omega, by go_num, HG.out⟩, rfl⟩)
        case measure => simp [intOf]; omega
      | true =>
        rw [hl] at HHk
        have HE := Lib.hid (show rdG (rdI (rdS (rdR s k) k) k) k = rdR s (k + 1) by
          show _ = rdRole (rdR s k) k
          unfold rdRole; rw [HLk.out, if_pos hl])
        clear hl
        go_wp2_with fail
        with_reducible refine (HHk.out _).mono ?_
        rintro e wx ⟨rfl, rfl⟩
        clear k0 HLk
        generalize rdR s k = x at *
        go_wp2_with fail
        refine (HNs.out _ _ HG.out.rd HG.out.le).mono ?_
        rintro e w4 ⟨rfl, hX4⟩
        have HG4 := Lib.hid (HG.out.read HH.out.2.2.2 hX4 (dNum_le x.2 2 65535))
        clear hX4 HG
        generalize hv4 : (dNum x.2 2 65535).1.toNat = v4
        have HV4 := Lib.hid hv4
        clear hv4
        go_wp2_with fail
        refine (HNs.out _ _ HG4.out.rd HG4.out.le).mono ?_
        rintro e w6 ⟨rfl, hX6⟩
        have HG6 := Lib.hid (HG4.out.read HH.out.2.2.2 hX6 (dNum_le _ 2 65535))
        clear hX6 HG4
        have k6 := HG6.out.row.s hlt
        have k7 := HG6.out.row.i hlt
        have f6 := Blk.free HG6.out.row (1 + k * 2)
        have f7 := Blk.free HG6.out.row (1 + k * 2 + 1)
        have hS : PRow (w6.setCell ⟨c, 1 + k * 2, none⟩ (.int .u16 (v4 : Int))) c (x.1.putS k v4) := HG6.out.row.putS hlt _
        have h7 := (HG6.out.cell HH.out.2.2.2 HH.out.2.1 hS).cell HH.out.2.2.2 HH.out.2.1 (hS.putI hlt (dNum (dNum x.2 2 65535).2 2 65535).1.toNat)
        have HG7 := Lib.hid (show RPW w b ty g c s.1.length (rdI (rdS x k) k) _ from (show rdI (rdS x k) k = ((x.1.putS k v4).putI k (dNum (dNum x.2 2 65535).2 2 65535).1.toNat, (dNum (dNum x.2 2 65535).2 2 65535).2) by unfold rdI rdS; rw [HV4.out]) ▸ h7)
        clear hS h7 HG6
        generalize (dNum (dNum x.2 2 65535).2 2 65535).1.toNat = v6 at HG7 ⊢
        go_upto_region 7 with fail
        clear k6 f6 k7 f7
        generalize (w6.setCell _ _).setCell _ _ = V7 at *
        go_wp2_with fail
        refine (HNs.out _ _ HG7.out.rd HG7.out.le).mono ?_
        rintro e w8 ⟨rfl, hX8⟩
        have HG8 := Lib.hid (HG7.out.read HH.out.2.2.2 hX8 (dNum_le _ 2 65535))
        clear hX8
        have k8 := HG8.out.row.acts hlt
        have f8 := Blk.free HG8.out.row (33 + k)
        have HG9 := Lib.hid (show RPW w b ty g c s.1.length (rdG (rdI (rdS x k) k) k) (w8.setCell ⟨c, 33 + k, none⟩ (.int .u16 ((dNum (rdI (rdS x k) k).2 2 65535).1.toNat : Int))) from HG8.out.cell HH.out.2.2.2 HH.out.2.1 (HG8.out.row.putA hlt _))
        generalize (dNum (rdI (rdS x k) k).2 2 65535).1.toNat = v8 at HG9 ⊢
        clear HG8 HG7
        go_wp2_with fail
        rw [HE.out] at HG9
        go_roundw
        case rel => first | exact ⟨k + 1, by omega, by go_num, HG9.out⟩ | ((repeat apply Exists.intro); exact ⟨⟨k + 1, by omega, by go_num, HG9.out⟩, rfl⟩)
        case measure => simp [intOf]; omega
    · obtain rfl : k = 16 := by omega
      go_wp2_with fail
      refine (HNs.out _ _ HG.out.rd HG.out.le).mono ?_
      rintro e w4 ⟨rfl, hX4⟩
      have HG4 := Lib.hid (HG.out.read HH.out.2.2.2 hX4 (dNum_le _ 2 65535))
      clear hX4
      have k4 := HG4.out.row.active
      have f4 := Blk.free HG4.out.row 65
      have HG5 := Lib.hid (show RPW w b ty g c s.1.length (rdT s 0) (w4.setCell ⟨c, 65, none⟩ (.int .u16 ((dNum (rdR s 16).2 2 65535).1.toNat : Int))) from HG4.out.cell HH.out.2.2.2 HH.out.2.1 (HG4.out.row.putV _))
      generalize (dNum (rdR s 16).2 2 65535).1.toNat = v4 at HG5 ⊢
      clear HG4 HG
      go_upto_region 10 with fail
      clear k4 f4
      generalize w4.setCell _ _ = V5 at *
      go_wp2_with fail
      go_loopw [33] (fun i wr => ∃ t : Nat, t ≤ 16 ∧ i = .int .i64 (t : Int) ∧ RPW w b ty g c s.1.length (rdT s t) wr) (fun i _ => 16 - (intOf i).toNat)
      case atStart => exact ⟨0, by omega, rfl, HG5.out⟩
      case round =>
        obtain ⟨t, ht, rfl, hz⟩ := hrel
        have HG := Lib.hid hz
        clear hz HG5
        by_cases htt : t < 16
        · have dk : decide ((t : Int) < 16) = true := by simp; omega
          have ht16 : (t : Int) < 16 := by omega
          have ht0 : (0 : Int) ≤ (t : Int) := by omega
          have HE := Lib.hid (show rdO (rdT s t) t = rdT s (t + 1) from rfl)
          generalize rdT s t = x at *
          go_wp2_with fail
          refine (HNo.out _ _ HG.out.rd HG.out.le).mono ?_
          rintro e w6 ⟨rfl, hX6⟩
          have HG6 := Lib.hid (HG.out.read HH.out.2.2.2 hX6 (dNum_le _ 1 16))
          have hv6 : (dNum x.2 1 16).1.toNat ≤ 16 := dNum_most x.2 1 (most := 16)
          rw [← dNum_cast x.2 1 16]
          clear hX6
          have k6 := HG6.out.row.owner htt
          have f6 := Blk.free HG6.out.row (49 + t)
          have HG7 := Lib.hid (show RPW w b ty g c s.1.length (rdO x t) (w6.setCell ⟨c, 49 + t, none⟩ (.int .u8 ((dNum x.2 1 16).1.toNat : Int))) from HG6.out.cell HH.out.2.2.2 HH.out.2.1 (HG6.out.row.putO htt _))
          generalize hvv : (dNum x.2 1 16).1.toNat = v6 at hv6 HG7 ⊢
          have hw6 : IntKind.u8.wrap (v6 : Int) = (v6 : Int) := by unfold IntKind.wrap; simp [IntKind.signed, IntKind.bits]; omega
          clear hvv HG6 HG
          go_wp2_with fail
          rw [HE.out] at HG7
          go_roundw
          case rel => first | exact ⟨t + 1, by omega, by go_num, HG7.out⟩ | ((repeat apply Exists.intro); exact ⟨⟨t + 1, by omega, by go_num, HG7.out⟩, rfl⟩)
          case measure => simp [intOf]; omega
        · obtain rfl : t = 16 := by omega
          have HEe := Lib.hid (show rdEW fb s = if fb = true then (rdT s 16).2 else failS (rdT s 16).2 3 from rfl)
          have HEp := Lib.hid (show rdPoW fb s = if (rdEW fb s).2 = 0 then (rdT s 16).1 else zeroP from rfl)
          generalize rdT s 16 = x at *
          have hrow := HG.out.row
          go_wp2_with (refine wpList_load_mid (by kernel_rfl) _ _ rfl (new := polC x.1) rfl hrow (fun i _ => by rw [Nat.zero_add]) Tryd.underlying29 rfl (infoPol _) ?_)
          refine (HFi.out _ HG.out.chg).mono ?_
          rintro e w7 ⟨rfl, hB7⟩
          have HG7 := Lib.hid (HG.out.step hB7)
          clear hB7 hrow HG
          cases hfb : fb with
          | true =>
            have hEW : rdEW fb s = x.2 := by rw [HEe.out, if_pos hfb]
            clear hfb
            by_cases he : x.2.2 = 0
            · have HE2 := Lib.hid (show rdEW fb s = x.2 ∧ rdPoW fb s = x.1 from ⟨hEW, by rw [HEp.out, hEW, if_pos he]⟩)
              clear hEW
              have HErr := Lib.hid (fun V (hx : RAt V b ty g x.2) => rderr_any b ty g x.2 V hx)
              rw [he] at HErr
              clear he
              go_wp2_with fail
              refine (HErr.out _ HG7.out.rd).mono ?_
              rintro e wx ⟨rfl, rfl⟩
              have hrow2 := HG7.out.row
              have hres2 := HG7.out.res
              go_wp2_with (first
                | (refine wpList_load_mid (by kernel_rfl) _ _ rfl (new := polC x.1) rfl hrow2 (fun i _ => by rw [Nat.zero_add]) Tryd.underlying29 rfl (infoPol _) ?_)
                | (refine wpList_store_arr rfl rfl _ _ _ rfl rfl rfl hres2 (infoPol _) (by rw [polC_size, polC_size]) (polC_one _) ?_; intro w8 hw8))
              refine bodyPost_ret (results_arr rfl rfl hw8.blk Tryd.underlying29 rfl (infoPol _)) rfl ⟨by rw [HE2.out.2], by rw [HE2.out.1]; exact HG7.out.out HH.out.2.2.2 HH.out.2.1 hw8⟩
            · have HE2 := Lib.hid (show rdEW fb s = x.2 ∧ rdPoW fb s = zeroP from ⟨hEW, by rw [HEp.out, hEW, if_neg he]⟩)
              clear hEW
              have HErr := Lib.hid (fun V (hx : RAt V b ty g x.2) => rderr_any b ty g x.2 V hx)
              have d1 : (x.2.2 == 0) = false := by simpa using he
              have d2 : (x.2.2 != 0) = true := by simpa using he
              have hres := HG7.out.res
              clear he
              go_wp2_with fail
              refine (HErr.out _ HG7.out.rd).mono ?_
              rintro e wx ⟨rfl, rfl⟩
              go_wp2_with fail
              simp only [store_pol hres rfl, Result.andThen_ok]
              have hw8 : Put w7 (w7.setRow w.heap.size (polC zeroP)) w.heap.size (polC zeroP) 29 := ⟨⟨rfl, rfl, rfl, by simp, fun k _ hk => setRow_other w7 w.heap.size k _ hk⟩, setRow_heap w7 w.heap.size _ _ _ _ hres⟩
              generalize w7.setRow _ _ = V9 at *
              go_wp2_with fail
              refine bodyPost_ret (results_arr rfl rfl hw8.blk Tryd.underlying29 rfl (infoPol _)) rfl ⟨by rw [HE2.out.2], by rw [HE2.out.1]; exact HG7.out.out HH.out.2.2.2 HH.out.2.1 hw8⟩
          | false =>
            have hEW : rdEW fb s = failS x.2 3 := by rw [HEe.out, if_neg (by rw [hfb]; simp)]
            clear hfb
            have hne : (failS x.2 3).2 ≠ 0 := by
              unfold failS; split
              · decide
              · rename_i h; intro e; exact h ⟨e, by decide⟩
            have HE2 := Lib.hid (show rdEW fb s = failS x.2 3 ∧ rdPoW fb s = zeroP from ⟨hEW, by rw [HEp.out, hEW, if_neg hne]⟩)
            clear hEW
            have hle : (failS x.2 3).1.length ≤ x.2.1.length := by unfold failS; split <;> simp
            have HF := Lib.hid (fun V (hx : RAt V b ty g x.2) => rdfail_any b ty g x.2 3 V hx HH.out.1)
            have HErr := Lib.hid (fun V (hx : RAt V b ty g (failS x.2 3)) => rderr_any b ty g (failS x.2 3) V hx)
            have d1 : ((failS x.2 3).2 == 0) = false := by simpa using hne
            have d2 : ((failS x.2 3).2 != 0) = true := by simpa using hne
            have HLe := Lib.hid hle
            clear hne hle
            generalize failS x.2 3 = fs at *
            go_wp2_with fail
            refine (HF.out _ HG7.out.rd).mono ?_
            rintro e w8 ⟨rfl, hX8⟩
            have HG8 := Lib.hid (HG7.out.read HH.out.2.2.2 hX8 HLe.out)
            have hres := HG8.out.res
            clear hX8
            go_wp2_with fail
            refine (HErr.out _ HG8.out.rd).mono ?_
            rintro e wx ⟨rfl, rfl⟩
            go_wp2_with fail
            simp only [store_pol hres rfl, Result.andThen_ok]
            have hw8 : Put w8 (w8.setRow w.heap.size (polC zeroP)) w.heap.size (polC zeroP) 29 := ⟨⟨rfl, rfl, rfl, by simp, fun k _ hk => setRow_other w8 w.heap.size k _ hk⟩, setRow_heap w8 w.heap.size _ _ _ _ hres⟩
            generalize w8.setRow _ _ = V9 at *
            go_wp2_with fail
            refine bodyPost_ret (results_arr rfl rfl hw8.blk Tryd.underlying29 rfl (infoPol _)) rfl ⟨by rw [HE2.out.2], by rw [HE2.out.1]; exact HG8.out.out HH.out.2.2.2 HH.out.2.1 hw8⟩
end Go.Proofs.YtoieodlpoglmfaaDoor

/-! PolL -/
namespace Go.Proofs.YtoieodlpoglmfaaDoor
open Go.RowKit

theorem pFine_any : PFineC := fun p w hT hp => pFine_tidy p (fineP p) (tid_iff hp) w hT hp
theorem pFineY_any : PFineYC := pFine_any.yes
theorem pFineNo_any : PFineNoC := pFine_any.no
/-- The library's table is no Reader's block. -/
theorem TabOk.reader {w V : World} (h : TabOk w) {b : Nat} {t : TypeId} {g : Nat} {s : List UInt8 × Int} (hr : RAt w b t g s) (hc : Chg (fun k => k = b) w V) : TabOk V := by
  obtain ⟨p, n, c, hb, -, -⟩ := hr
  have hne : 0 ≠ b := fun e => by
    have h0 := h.1 0 (by decide)
    have h1 := hb.cell 0
    rw [← e] at h1
    rw [h1] at h0
    cases h0
  refine ⟨fun j hj => ?_, Nat.lt_of_lt_of_le h.2 hc.size⟩
  rw [← h.1 j hj]
  exact World.cell?_of_block (hc.block _ h.2 hne)
theorem rdEW_is (s : WSt) : rdEW (fineP (rdT s 16).1) s = rdE s ∧ rdPoW (fineP (rdT s 16).1) s = rdPo s := by
  have h1 : rdEW (fineP (rdT s 16).1) s = rdE s := by
    unfold rdEW rdE failS
    cases hf : fineP (rdT s 16).1 with
    | true => rw [if_pos rfl, if_neg (by simp)]
    | false =>
      rw [if_neg (by simp)]
      by_cases he : (rdT s 16).2.2 = 0
      · rw [if_pos ⟨he, by decide⟩, if_pos ⟨he, rfl⟩]
      · rw [if_neg (fun h => he h.1), if_neg (fun h => he h.1)]
  refine ⟨h1, ?_⟩
  unfold rdPoW rdPo
  rw [h1]
theorem pRead_any : PReadC := fun b t g s w hT h hg hL _ => by
  obtain ⟨h1, h2⟩ := rdEW_is s
  rw [← h1, ← h2]
  exact pRead_of b t g s w (fineP (rdT s 16).1) (fun V hV => pFine_any _ V hV (rdT_ok s 16)) (fun V hV => hT.reader h hV) h hg hL
theorem pReadY_any : PReadYC := pRead_any.yes
end Go.Proofs.YtoieodlpoglmfaaDoor

/-! LabArg -/
namespace Go.Proofs.YtoieodlpoglmfaaDoor
open Go.ChangeShapes Go.WideShapes Go.ChangeAt Go.RowKit Go.Joins Go.Deep

theorem laidOutL : laidOutB Tryd.prog = true := by kernel_rfl
theorem cellsLab : Tryd.prog.cellsOf 24 = 2 := by kernel_rfl
theorem cellsU16 : Tryd.prog.cellsOf 22 = 1 := by kernel_rfl

set_option maxRecDepth 100000 in
theorem lab_of_arg {H : Type} {enc : TypeId × Value → H} {W : World} {r : Reach} {b0 : Nat} {v : Value} {d : DataW H} {p : List MemPlace}
    (hv : Value.okWide Tryd.prog W r b0 24 v) (h : DataW.Trod enc Tryd.prog W 0 (fun _ => true) true 24 v d p) :
    ∃ a b : Nat, a < 65536 ∧ b < 65536 ∧ v = .agg #[.int .u16 a, .int .u16 b] ∧ d = .agg [.lit (.int .u16 a), .lit (.int .u16 b)] ∧ p = [] := by
  obtain ⟨c0, c1, y0, y1, m, rfl, rfl, rfl, hy0, hy1⟩ := open_agg2 Tryd.underlying24 (by kernel_rfl) cellsLab hv h
  obtain ⟨a, e0, rfl, wa⟩ := DataW.trod_int Tryd.underlying22 hy0
  obtain ⟨b, e1, rfl, wb⟩ := DataW.trod_int Tryd.underlying22 hy1
  simp at e0 e1
  subst e0 e1
  have ba := bounds_u16 wa
  have bb := bounds_u16 wb
  obtain ⟨n, rfl⟩ := Int.eq_ofNat_of_zero_le ba.1
  obtain ⟨k, rfl⟩ := Int.eq_ofNat_of_zero_le bb.1
  exact ⟨n, k, by omega, by omega, rfl, rfl, rfl⟩

theorem u16_wf {a : Nat} (h : a < 65536) : (Lit.int .u16 (a : Int)).wf = true := WalkArith.wf_u16 (by omega)

set_option maxRecDepth 100000 in
theorem lab_shut {H : Type} {enc : TypeId × Value → H} {W : World} {sp : Nat → Bool} {a b : Nat} (ha : a < 65536) (hb : b < 65536) :
    DataW.Trod enc Tryd.prog W 0 sp true 24 (.agg #[.int .u16 a, .int .u16 b]) (.agg [.lit (.int .u16 a), .lit (.int .u16 b)]) [] :=
  shut_agg2 (y0 := (.lit (.int .u16 a), [])) (y1 := (.lit (.int .u16 b), [])) Tryd.underlying24 (by kernel_rfl) cellsLab ⟨1, by simp [DataW.trod, Tryd.underlying22, u16_wf ha]⟩ ⟨1, by simp [DataW.trod, Tryd.underlying22, u16_wf hb]⟩

theorem small_ofFn {n : Nat} {f g : Nat → Nat} (h : ∀ i, i < n → f i < 65536 ∧ g i < 65536) : SmallL ((List.range n).map fun i => (f i, g i)) := by
  intro x hx
  obtain ⟨i, hi, rfl⟩ := List.mem_map.1 hx
  exact h i (List.mem_range.1 hi)

end Go.Proofs.YtoieodlpoglmfaaDoor

/-! LaidTab -/
namespace Go.Proofs.YtoieodlpoglmfaaDoor
open Go.ChangeShapes Go.WideShapes Go.ChangeAt Go.RowKit

theorem tOwn : ownKnob Tryd.prog.godebug = none := by kernel_rfl
def tabList : List (String × DataW Unit) := [("math/bits.deBruijn32tab", Rows.laid_math_bits_deBruijn32tab)]
theorem tTab : Tryd.prog.globalNamed "math/bits.deBruijn32tab" = some 0 := by kernel_rfl
theorem tTabType : (Tryd.prog.globals[0]?).map (·.type) = some 105 := by kernel_rfl
theorem tCellsTab : Tryd.prog.cellsOf 105 = 32 := by kernel_rfl
theorem tCellsByte : Tryd.prog.cellsOf 5 = 1 := by kernel_rfl
def tTabInts : List Int := Lib.deBruijn32tab.map fun n : Nat => (n : Int)
theorem ltOfCell {w : World} {b o : Nat} {v : Value} (h : w.cell? ⟨b, o, none⟩ = some v) : b < w.heap.size := block_lt_of_cell h

theorem tab_of_laid {W : World} (h0 : laidMetH Tryd.prog tabList W) : TabOk W := by
  have h : laidMet Tryd.prog tabList W := by
    rw [MakeChecks.laidMetH_plain _ _ _ (by kernel_rfl)] at h0; exact h0
  have hT : Lib.TabIs Tryd.prog W "math/bits.deBruijn32tab" .u8 tTabInts := Lib.tabIs_of_head tTab tTabType Tryd.underlying105 Tryd.underlying5 tCellsByte tCellsTab h
  refine ⟨fun j hj => ?_, ltOfCell (hT.cell tTab 0 (by decide))⟩
  have hc := hT.cell tTab j (by rw [tTabInts, List.length_map]; exact hj)
  rw [hc]
  have : tTabInts.getD j 0 = ((Lib.deBruijn32tab.getD j 0 : Nat) : Int) := by
    have hj2 : j < Lib.deBruijn32tab.length := hj
    simp [tTabInts, List.getD, hj2]
  rw [this]

/-- A world for the witness: the heap that the run of the initialisers leaves. -/
noncomputable def tabWorld (os : Os) : World := World.doorLaid Tryd.prog 1000 os
theorem tab_met (os : Os) (args : Array Value) : laidMet Tryd.prog tabList ((tabWorld os).forCall (fun _ _ => 0) ⟨#[], args, []⟩).memory :=
  laidMet_of_run' 8 (by kernel_rfl) (by kernel_rfl)

end Go.Proofs.YtoieodlpoglmfaaDoor

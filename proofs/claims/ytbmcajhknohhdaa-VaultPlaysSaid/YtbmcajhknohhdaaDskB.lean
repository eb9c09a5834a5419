/-
  The document's disk: Write.
-/
import Derived.Test.YtbmcajhknohhdaaDskA
import Derived.Test.YtbmcajhknohhdaaStage
import Derived.Test.YtbmcajhknohhdaaWirN
namespace Go.Proofs.Ytbmcajhknohhdaa
open Go.RowKit

theorem bvs_put (l : List UInt8) (q : Nat) (x : UInt8) : bvs (l.set q x) = (bvs l).set q (.int .u8 (x.toNat : Int)) := by simp [bvs, List.map_set]
/-- While the bytes are written one by one. -/
structure RWr (B : Nat) (w : World) (c g M cv : Nat) (off : Bool) (fu kp wn : Int) (p : Option Addr) (len cap : Nat) (l X : List UInt8) (V : World) : Prop where
  blk : Blk V c #[.slice (some ⟨g, 0, none⟩) M cv, .bool off, .int .i64 fu, .int .i64 kp, .int .i64 wn] 33
  row : V.ownsRow B 5 1 (.slice (some ⟨g, 0, none⟩) M cv) M (bvs X)
  same : X.length = M
  chg : Chg (foot c (.slice (some ⟨g, 0, none⟩) M cv)) w V
  bs : BsAt V p len cap l
theorem RWr.drew {B : Nat} {w : World} {c g M cv : Nat} {off : Bool} {fu kp wn : Int} {p : Option Addr} {len cap : Nat} {l X : List UInt8} {V : World} (h : RWr B w c g M cv off fu kp wn p len cap l X V) : RWr B w c g M cv off fu kp wn p len cap l X V.drew :=
  ⟨h.blk.drew, h.row, h.same, h.chg.drew, h.bs.drew⟩
theorem RWr.put {B : Nat} {w : World} {c g M cv : Nat} {off : Bool} {fu kp wn : Int} {p : Option Addr} {len cap : Nat} {l X : List UInt8} {V : World} (h : RWr B w c g M cv off fu kp wn p len cap l X V) (hgc : g ≠ c) (hp : ∀ a, p = some a → a.block ≠ g) (m : Nat) (y : UInt8) :
    RWr B w c g M cv off fu kp wn p len cap l (X.set m y) (V.setCell ⟨g, m, none⟩ (.int .u8 (y.toNat : Int))) := by
  have hst := h.row.stored m (.int .u8 (y.toNat : Int))
  have hchg : Chg (fun k => k = g) V (V.setCell ⟨g, m, none⟩ (.int .u8 (y.toNat : Int))) := (Chg.refl (fun k => k = g) V).setCell (p := ⟨g, m, none⟩) (fun _ => rfl) _
  refine ⟨h.blk.set_other (a := ⟨g, m, none⟩) hgc _, by rw [bvs_put]; exact hst.1, by rw [List.length_set]; exact h.same, h.chg.trans (hchg.mono fun i _ hi => .inr (by subst hi; rfl)), h.bs.chg hchg fun a ha => hp a ha⟩
theorem RWr.wrote {B : Nat} {w : World} {c g M cv : Nat} {off : Bool} {fu kp wn : Int} {p : Option Addr} {len cap : Nat} {l X : List UInt8} {V : World} (h : RWr B w c g M cv off fu kp wn p len cap l X V) (hgc : g ≠ c) (hp : ∀ a, p = some a → a.block ≠ c) (n : Int) :
    RWr B w c g M cv off fu kp n p len cap l X (V.setCell ⟨c, 4, none⟩ (.int .i64 n)) := by
  have hchg : Chg (fun k => k = c) V (V.setCell ⟨c, 4, none⟩ (.int .i64 n)) := (Chg.refl (fun k => k = c) V).setCell (p := ⟨c, 4, none⟩) (fun _ => rfl) _
  exact ⟨h.blk.set 4 _, own_chg h.row hchg (fun k hk e => by simp [Value.ownBlock] at hk; omega), h.same, h.chg.trans (hchg.mono fun i _ hi => .inl hi), h.bs.chg hchg fun a ha => hp a ha⟩
theorem RWr.end {B : Nat} {w : World} {c g M cv : Nat} {off : Bool} {fu kp wn : Int} {p : Option Addr} {len cap : Nat} {l X : List UInt8} {V V' : World} {S : DS} (h : RWr B w c g M cv off fu kp wn p len cap l X V) (hgc : g ≠ c) (hX : S.all = X) (hp : Put V V' c #[.slice (some ⟨g, 0, none⟩) M cv, .bool S.off, .int .i64 S.fuse, .int .i64 S.keep, .int .i64 S.wr] 33) :
    RDisk B V' c (.slice (some ⟨g, 0, none⟩) M cv) S ∧ Chg (foot c (.slice (some ⟨g, 0, none⟩) M cv)) w V' := by
  have h1 := h.same
  refine ⟨⟨hp.blk, ?_, fun e => by simp [Value.ownBlock] at e; exact hgc e⟩, h.chg.trans (hp.chg.mono fun i _ hi => .inl hi)⟩
  rw [hX, h1]
  exact own_chg h.row hp.chg (fun k hk e => by simp [Value.ownBlock] at hk; omega)
theorem leads_skip {P : Program} {o : Oper} {a : Act} {w w' : World} {R : Value → World → Prop} (h : (execOp a.eval o).run P w = .ok .skip w') (hR : R undef w') : leads P o a w R := by
  unfold leads; rw [h]; exact hR

set_option maxRecDepth 100000 in
set_option maxHeartbeats 3200000 in
theorem rdWrite_main {B : Nat} {w : World} {c g cv : Nat} {S : DS} (i0 : Nat) {p : Option Addr} {cap : Nat} {l : List UInt8} (h : RDisk B w c (.slice (some ⟨g, 0, none⟩) S.all.length cv) S) (hok : DSOk S) (hwr : S.wr ≤ 1000000) (hb : BsAt w p 128 cap l)
    (hpc : ∀ a, p = some a → a.block ≠ c) (hpg : ∀ a, p = some a → a.block ≠ g) (hh : hasD S (i0 : Int) = true) (hoff : S.off = false) (z : Int) (hz : (if S.fuse = 0 then (19 : Int) else 0) = z) :
    Calls Try.prog 20 #[ptrV c, .int .i64 (i0 : Int), .slice p 128 cap] w fun e w' => e = .returned (.int .i64 z) ∧ RDisk B w' c (.slice (some ⟨g, 0, none⟩) S.all.length cv) (writeS S i0 l) ∧ Chg (foot c (.slice (some ⟨g, 0, none⟩) S.all.length cv)) w w' := by
  have HZ := Lib.hid hz
  clear hz
  have hl : l.length = 128 := hb.same.symm
  have hlen := hok.len
  have hfew := hok.few
  have hw0 := hok.wr0
  have hi := (hasD_iff.1 hh).2
  have HW := Lib.hid (show writeS S i0 l = ⟨putL S.all (128 * i0) (writtenL S l), decide (S.fuse = 0), if S.fuse = 0 then -1 else if 0 < S.fuse then S.fuse - 1 else S.fuse, S.keep, S.wr + 1⟩ from by
    unfold writeS; rw [if_pos (by simp [writeOk, hh, hl, hoff])]; rfl)
  have hfl := writtenL_length hok hl
  have hpl : (putL S.all (128 * i0) (writtenL S l)).length = S.all.length := put_len hok (i := (i0 : Int)) hh hl
  have HG := Lib.hid (putL_get (all := S.all) (l := writtenL S l) (a := 128 * i0) (by rw [hfl]; omega))
  have HWr := Lib.hid (show ∀ j : Nat, j < 128 → (writtenL S l)[j]? = if S.fuse = 0 ∧ S.keep ≤ (j : Int) then some 255 else l[j]? from fun j hj => by
    unfold writtenL
    by_cases hf : S.fuse = 0
    · rw [if_pos hf, tornL_get hok.keep0 (by omega)]
      by_cases hk : S.keep ≤ (j : Int)
      · rw [if_pos hk, if_pos ⟨hf, hk⟩]
      · rw [if_neg hk, if_neg (fun h => hk h.2)]
    · rw [if_neg hf, if_neg (fun h => hf h.1)])
  have k0 : w.cell? ⟨c, 0, none⟩ = some (.slice (some ⟨g, 0, none⟩) S.all.length cv) := h.blk.cell 0
  have k1 : w.cell? ⟨c, 1, none⟩ = some (.bool S.off) := h.blk.cell 1
  have k2 : w.cell? ⟨c, 2, none⟩ = some (.int .i64 S.fuse) := h.blk.cell 2
  have k3 : w.cell? ⟨c, 3, none⟩ = some (.int .i64 S.keep) := h.blk.cell 3
  have k4 : w.cell? ⟨c, 4, none⟩ = some (.int .i64 S.wr) := h.blk.cell 4
  have HHas := Lib.hid (rdHas_any S (some ⟨g, 0, none⟩) cv (i0 : Int) w (by omega))
  rw [hh, hoff] at HHas
  rw [hoff] at k1
  have HH := Lib.hid h
  have HB := Lib.hid hb
  have hgc : g ≠ c := fun e => h.apart (by rw [e]; rfl)
  have HOff := Lib.hid hoff
  have HLen := Lib.hid (show S.all.length = 128 * S.len from hlen)
  have HFL := Lib.hid hfl
  clear h hb hh hlen hoff hfl hl
  generalize hX : putL S.all (128 * i0) (writtenL S l) = X at *
  have HX := Lib.hid hX
  generalize hM : S.all.length = M at *
  have HM := Lib.hid hM
  clear hM
  generalize S.len = n0 at *
  clear hX
  unfold ptrV
  go_enter Try.func20, Try.ntmps20
  go_wp2_with fail
  with_reducible refine HHas.out.mono ?_
  rintro e w1 ⟨rfl, hB1⟩
  have hrow0 : w.ownsRow B 5 1 (.slice (some ⟨g, 0, none⟩) M cv) M (bvs S.all) := by
    have h1 := HH.out.row
    rw [HM.out] at h1
    exact h1
  have hblk0 : Blk w c #[.slice (some ⟨g, 0, none⟩) M cv, .bool false, .int .i64 S.fuse, .int .i64 S.keep, .int .i64 S.wr] 33 := by
    have h1 := HH.out.blk
    rw [HOff.out] at h1
    exact h1
  have R1 : RWr B w c g M cv false S.fuse S.keep S.wr p 128 cap l S.all w1 :=
    ⟨hblk0.below hB1 hblk0.lt, own_below hrow0 hB1 (Nat.le_refl _), HM.out, Chg.ofBelow hB1, HB.out.below hB1 (Nat.le_refl _)⟩
  have R2 := Lib.hid (R1.wrote hgc hpc (S.wr + 1))
  have j1 : w1.cell? ⟨c, 1, none⟩ = some (.bool false) := R1.blk.cell 1
  have j4 : w1.cell? ⟨c, 4, none⟩ = some (.int .i64 S.wr) := R1.blk.cell 4
  have f4 := R1.blk.free 4
  clear hB1 R1 hrow0 hblk0 k0 k1 k2 k3 k4
  have hw1 : S.wr ≤ 1000000 := hwr
  go_upto_region 8 with fail
  have hfl := HFL.out
  have hlen := HLen.out
  clear j1 j4 f4
  generalize w1.setCell ⟨c, 4, none⟩ (.int .i64 (S.wr + 1)) = w2 at *
  have hmix0 : mixL X S.all (128 * i0) = S.all := mixL_at (by rw [hpl, HM.out]) fun k hk => by
    have := HG.out k
    rw [if_neg (by omega)] at this; exact this
  have hmixE : mixL X S.all (128 * i0 + 128) = X := mixL_end (by rw [hpl, HM.out]) fun k hk => by
    have := HG.out k
    rw [if_neg (by omega)] at this; exact this
  have HX0 := Lib.hid hmix0
  have HXE := Lib.hid hmixE
  have hiM : 128 * i0 + 128 ≤ M := by omega
  have hM2 : M ≤ 131072 := by omega
  have hi2 : i0 ≤ 1024 := by omega
  have HIM := Lib.hid hiM
  have HXget := Lib.hid (show ∀ k : Nat, k < 128 → X[128 * i0 + k]? = if S.fuse = 0 ∧ S.keep ≤ (k : Int) then some 255 else l[k]? from fun k hk => by
    have h1 := HG.out (128 * i0 + k)
    rw [if_pos ⟨by omega, by omega⟩, show 128 * i0 + k - 128 * i0 = k by omega, HWr.out k hk] at h1
    exact h1)
  have HPL := Lib.hid hpl
  clear hmix0 hmixE HG HWr hfl hlen HLen HX hi hiM hpl HHas HH
  go_wp2_with fail
  go_loopw [7] (fun j wr => ∃ k : Nat, k ≤ 128 ∧ j = .int .i64 k ∧ RWr B w c g M cv false S.fuse S.keep (S.wr + 1) p 128 cap l (mixL X S.all (128 * i0 + k)) wr) (fun j _ => 128 - (intOf j).toNat)
  case atStart => exact ⟨0, Nat.zero_le _, rfl, by rw [Nat.add_zero, HX0.out]; exact R2.out⟩
  case round =>
    obtain ⟨k, hk, rfl, hR⟩ := hrel
    have HR := Lib.hid hR
    by_cases hlt : k < 128
    · obtain ⟨gp, op, rfl, hc⟩ : ∃ gp op, p = some ⟨gp, op, none⟩ ∧ ∀ V, BsAt V p 128 cap l → V.cell? ⟨gp, op + k, none⟩ = some (.int .u8 ((l.getD k 0).toNat : Int)) := by
        have hl : l.length = 128 := hR.bs.same.symm
        rcases hR.bs.place with ⟨h1, h2⟩ | ⟨h2, -⟩ | ⟨g', off, rfl, -, h3⟩
        · have := hR.bs.le; omega
        · rw [h2] at hl; simp at hl
        · refine ⟨g', off, rfl, fun V hV => ?_⟩
          rcases hV.place with ⟨h1, -⟩ | ⟨h2, -⟩ | ⟨g2, off2, h4, -, h5⟩
          · cases h1
          · rw [h2] at hl; simp at hl
          · simp only [Option.some.injEq, Addr.mk.injEq, and_true] at h4
            obtain ⟨rfl, rfl⟩ := h4
            rw [h5 k (by omega)]; simp [List.getD, show k < l.length by omega]
      have HC := Lib.hid hc
      have hlk : l[k]? = some (l.getD k 0) := by
        have hl : l.length = 128 := hR.bs.same.symm
        simp [List.getD, show k < l.length by omega]
      have HXk := Lib.hid (show X[128 * i0 + k]? = if S.fuse = 0 ∧ S.keep ≤ (k : Int) then some 255 else some (l.getD k 0) from by rw [HXget.out k hlt, hlk])
      have HMS := Lib.hid (fun y (hy : X[128 * i0 + k]? = some y) => (show (mixL X S.all (128 * i0 + k)).set (128 * i0 + k) y = mixL X S.all (128 * i0 + (k + 1)) from by
        have hlt2 : 128 * i0 + k < X.length := by have := HPL.out; have := HIM.out; omega
        have h1 := mixL_set (a := X) (b := S.all) (by rw [HPL.out, HM.out]) hlt2
        rw [List.getElem?_eq_getElem hlt2] at hy
        cases hy
        exact h1))
      generalize l.getD k 0 = y at *
      generalize mixL X S.all (128 * i0 + k) = Z at *
      have hNM : 128 * i0 + k < M := by have := HIM.out; omega
      obtain ⟨N, hN⟩ : ∃ N, N = 128 * i0 + k := ⟨_, rfl⟩
      rw [← hN] at HXk HMS hNM
      have HA := Lib.hid (show IntKind.i64.wrap (128 * (i0 : Int)) = 128 * (i0 : Int) from IntWalk.i64_in _ (by omega))
      have HA2 := Lib.hid (show IntKind.i64.wrap (128 * (i0 : Int) + (k : Int)) = 128 * (i0 : Int) + (k : Int) from IntWalk.i64_in _ (by omega))
      have HI := Lib.hid (show (0 : Int) ≤ 128 * (i0 : Int) + (k : Int) ∧ 128 * (i0 : Int) + (k : Int) < (M : Int) ∧ (128 * (i0 : Int) + (k : Int)).toNat = N from ⟨by omega, by omega, by omega⟩)
      clear hc hlk hR HXget hN
      have HCN := Lib.hid (show ∀ V : World, V.ownsRow B 5 1 (.slice (some ⟨g, 0, none⟩) M cv) M (bvs Z) → Z.length = M → V.cell? ⟨g, N, none⟩ = some (.int .u8 ((Z.getD N 0).toNat : Int)) from fun V hrow hZ => by
        rw [hrow.cellAt N (by omega)]
        have h1 : N < Z.length := by omega
        rw [bvs_get Z N h1]; simp [List.getD, h1])
      go_upto_region 11 with fail
      refine wp_region_S (fun q V => RWr B w c g M cv false S.fuse S.keep (S.wr + 1) (some ⟨gp, op, none⟩) 128 cap l (turnSt Z (Z.set N y) (Z.set N y) q) V) 1 [.val (.pointer (some ⟨c, 0, none⟩)), .val (.pointer (some ⟨c, 0, none⟩)), .val (.pointer (some ⟨c, 0, none⟩)), .val (.slice (some ⟨g, 0, none⟩) M cv), .val (.int .i64 (i0 : Int)), .val (.int .i64 (128 * (i0 : Int))), .val (.int .i64 (k : Int)), .val (.int .i64 (128 * (i0 : Int) + (k : Int))), .val (.slice (some ⟨gp, op, none⟩) 128 cap), .val (.int .i64 (k : Int)), .val (.pointer (some ⟨gp, op + k, none⟩)), .val (.int .u8 (y.toNat : Int)), .val (.pointer (some ⟨g, N, none⟩)), .turn 0 (undef)]
        (fun x => { tmps := #[.pointer (some ⟨c, 0, none⟩), .int .i64 (i0 : Int), .slice (some ⟨gp, op, none⟩) 128 cap, undef, undef, undef, .int .i64 0, .int .i64 (k : Int), .pointer (some ⟨c, 0, none⟩), .pointer (some ⟨c, 0, none⟩), .agg #[.slice (some ⟨g, 0, none⟩) M cv, .bool false, .int .i64 S.fuse, .int .i64 S.keep, .int .i64 S.wr], .int .i64 (i0 : Int), .bool true, .bool false, .slice (some ⟨gp, op, none⟩) 128 cap, .int .i64 128, .bool false, .pointer (some ⟨c, 0, none⟩), .pointer (some ⟨c, 0, none⟩), .pointer (some ⟨c, 1, none⟩), .bool false, .pointer (some ⟨c, 0, none⟩), .pointer (some ⟨c, 0, none⟩), .pointer (some ⟨c, 0, none⟩), .pointer (some ⟨c, 4, none⟩), .int .i64 S.wr, .int .i64 (S.wr + 1), .pointer (some ⟨c, 0, none⟩), .pointer (some ⟨c, 4, none⟩), .int .i64 (k : Int), .bool (decide ((k : Int) < 128)), u31, u32, x 0, x 1, x 2, x 3, x 4, x 5, x 6, x 7, x 8, x 9, x 10, x 11, x 12, u46, u47, u48, u49, u50, u51, u52, u53, u54, u55, u56, u57, u58, u59, u60, u61, u62, u63, u64, u65, u66, u67, undef, undef, undef, undef, undef, undef, undef, undef, undef, undef, undef, undef, undef, undef, undef, undef, undef, undef, undef, undef, undef, undef, undef, undef], defers := [] }) (fun i => ([u33, u34, u35, u36, u37, u38, u39, u40, u41, u42, u43, u44, u45, undef] : List Value).getD i undef) (by kernel_rfl) rfl rfl (by kernel_rfl) (by kernel_rfl) (by kernel_rfl) (by kernel_rfl) (HR.out.drew) ?_ ?_
      · refine ⟨ObS.of_val rfl (fun x v => rfl) (fun x V kst hC hD => ?_), ?_⟩
        · clear hD
          refine want_yes rfl ?_
          exact leads_value (v := .pointer (some ⟨c, 0, none⟩)) (by go_simp) ⟨rfl, hC⟩
        refine ⟨ObS.of_val rfl (fun x v => rfl) (fun x V kst hC hD => ?_), ?_⟩
        · have e0 : x 0 = .pointer (some ⟨c, 0, none⟩) := hD.1 rfl
          clear hD
          refine want_yes rfl ?_
          exact leads_value (v := .pointer (some ⟨c, 0, none⟩)) (by go_simp) ⟨rfl, hC⟩
        refine ⟨ObS.of_val rfl (fun x v => rfl) (fun x V kst hC hD => ?_), ?_⟩
        · have e1 : x 1 = .pointer (some ⟨c, 0, none⟩) := hD.1 rfl
          clear hD
          refine want_yes rfl ?_
          exact leads_value (v := .pointer (some ⟨c, 0, none⟩)) (by go_simp) ⟨rfl, hC⟩
        refine ⟨ObS.of_val rfl (fun x v => rfl) (fun x V kst hC hD => ?_), ?_⟩
        · have e2 : x 2 = .pointer (some ⟨c, 0, none⟩) := hD.1 rfl
          clear hD
          refine want_yes rfl ?_
          have k0 : V.cell? ⟨c, 0, none⟩ = some (.slice (some ⟨g, 0, none⟩) M cv) := hC.blk.cell 0
          exact leads_value (v := .slice (some ⟨g, 0, none⟩) M cv) (by go_simp) ⟨rfl, hC⟩
        refine ⟨ObS.of_val rfl (fun x v => rfl) (fun x V kst hC hD => ?_), ?_⟩
        · clear hD
          refine want_yes rfl ?_
          exact leads_value (v := .int .i64 (i0 : Int)) (by go_simp) ⟨rfl, hC⟩
        refine ⟨ObS.of_val rfl (fun x v => rfl) (fun x V kst hC hD => ?_), ?_⟩
        · have e4 : x 4 = .int .i64 (i0 : Int) := hD.1 rfl
          clear hD
          refine want_yes rfl ?_
          have q := HA.out
          exact leads_value (v := .int .i64 (128 * (i0 : Int))) (by go_simp) ⟨rfl, hC⟩
        refine ⟨ObS.of_val rfl (fun x v => rfl) (fun x V kst hC hD => ?_), ?_⟩
        · clear hD
          refine want_yes rfl ?_
          exact leads_value (v := .int .i64 (k : Int)) (by go_simp) ⟨rfl, hC⟩
        refine ⟨ObS.of_val rfl (fun x v => rfl) (fun x V kst hC hD => ?_), ?_⟩
        · have e5 : x 5 = .int .i64 (128 * (i0 : Int)) := hD.1 rfl
          have e6 : x 6 = .int .i64 (k : Int) := hD.2.1 rfl
          clear hD
          refine want_yes rfl ?_
          have q := HA2.out
          exact leads_value (v := .int .i64 (128 * (i0 : Int) + (k : Int))) (by go_simp) ⟨rfl, hC⟩
        refine ⟨ObS.of_val rfl (fun x v => rfl) (fun x V kst hC hD => ?_), ?_⟩
        · clear hD
          refine want_yes rfl ?_
          exact leads_value (v := .slice (some ⟨gp, op, none⟩) 128 cap) (by go_simp) ⟨rfl, hC⟩
        refine ⟨ObS.of_val rfl (fun x v => rfl) (fun x V kst hC hD => ?_), ?_⟩
        · clear hD
          refine want_yes rfl ?_
          exact leads_value (v := .int .i64 (k : Int)) (by go_simp) ⟨rfl, hC⟩
        refine ⟨ObS.of_val rfl (fun x v => rfl) (fun x V kst hC hD => ?_), ?_⟩
        · have e8 : x 8 = .slice (some ⟨gp, op, none⟩) 128 cap := hD.1 rfl
          have e9 : x 9 = .int .i64 (k : Int) := hD.2.1 rfl
          clear hD
          refine want_yes rfl ?_
          exact leads_value (v := .pointer (some ⟨gp, op + k, none⟩)) (by go_simp) ⟨rfl, hC⟩
        refine ⟨ObS.of_val rfl (fun x v => rfl) (fun x V kst hC hD => ?_), ?_⟩
        · have e10 : x 10 = .pointer (some ⟨gp, op + k, none⟩) := hD.1 rfl
          clear hD
          refine want_yes rfl ?_
          have k0 := HC.out V hC.bs
          exact leads_value (v := .int .u8 (y.toNat : Int)) (by go_simp) ⟨rfl, hC⟩
        refine ⟨ObS.of_val rfl (fun x v => rfl) (fun x V kst hC hD => ?_), ?_⟩
        · have e3 : x 3 = .slice (some ⟨g, 0, none⟩) M cv := hD.1 rfl
          have e7 : x 7 = .int .i64 (128 * (i0 : Int) + (k : Int)) := hD.2.1 rfl
          have e0 : x 0 = .pointer (some ⟨c, 0, none⟩) := hD.2.2.1 rfl
          have e1 : x 1 = .pointer (some ⟨c, 0, none⟩) := hD.2.2.2.1 rfl
          have e2 : x 2 = .pointer (some ⟨c, 0, none⟩) := hD.2.2.2.2.1 rfl
          have e4 : x 4 = .int .i64 (i0 : Int) := hD.2.2.2.2.2.2.1 rfl
          have e5 : x 5 = .int .i64 (128 * (i0 : Int)) := hD.2.2.2.2.2.2.2.1 rfl
          have e6 : x 6 = .int .i64 (k : Int) := hD.2.2.2.2.2.2.2.2.1 rfl
          have e8 : x 8 = .slice (some ⟨gp, op, none⟩) 128 cap := hD.2.2.2.2.2.2.2.2.2.2.1 rfl
          have e9 : x 9 = .int .i64 (k : Int) := hD.2.2.2.2.2.2.2.2.2.2.2.1 rfl
          have e10 : x 10 = .pointer (some ⟨gp, op + k, none⟩) := hD.2.2.2.2.2.2.2.2.2.2.2.2.1 rfl
          have e11 : x 11 = .int .u8 (y.toNat : Int) := hD.2.2.2.2.2.2.2.2.2.2.2.2.2.1 rfl
          clear hD
          refine want_yes rfl ?_
          have q0 := HI.out.1
          have q1 := HI.out.2.1
          have q2 := HI.out.2.2
          exact leads_value (v := .pointer (some ⟨g, N, none⟩)) (by go_simp) ⟨rfl, hC⟩
        refine ⟨ObS.of_turn rfl (fun x v => rfl) (fun x V hC hD => ?_), ?_⟩
        · have e12 : x 12 = .pointer (some ⟨g, N, none⟩) := hD.1 rfl
          have e11 : x 11 = .int .u8 (y.toNat : Int) := hD.2.1 rfl
          have e0 : x 0 = .pointer (some ⟨c, 0, none⟩) := hD.2.2.1 rfl
          have e1 : x 1 = .pointer (some ⟨c, 0, none⟩) := hD.2.2.2.1 rfl
          have e2 : x 2 = .pointer (some ⟨c, 0, none⟩) := hD.2.2.2.2.1 rfl
          have e3 : x 3 = .slice (some ⟨g, 0, none⟩) M cv := hD.2.2.2.2.2.1 rfl
          have e4 : x 4 = .int .i64 (i0 : Int) := hD.2.2.2.2.2.2.1 rfl
          have e5 : x 5 = .int .i64 (128 * (i0 : Int)) := hD.2.2.2.2.2.2.2.1 rfl
          have e6 : x 6 = .int .i64 (k : Int) := hD.2.2.2.2.2.2.2.2.1 rfl
          have e7 : x 7 = .int .i64 (128 * (i0 : Int) + (k : Int)) := hD.2.2.2.2.2.2.2.2.2.1 rfl
          have e8 : x 8 = .slice (some ⟨gp, op, none⟩) 128 cap := hD.2.2.2.2.2.2.2.2.2.2.1 rfl
          have e9 : x 9 = .int .i64 (k : Int) := hD.2.2.2.2.2.2.2.2.2.2.2.1 rfl
          have e10 : x 10 = .pointer (some ⟨gp, op + k, none⟩) := hD.2.2.2.2.2.2.2.2.2.2.2.2.1 rfl
          clear hD
          refine want_yes rfl ?_
          have c0 := HCN.out V hC.row hC.same
          have f0 := hC.row.frozenAt N
          exact leads_skip (w' := V.setCell ⟨g, N, none⟩ (.int .u8 (y.toNat : Int))) (by go_simp) ⟨rfl, hC.put hgc hpg N y⟩
        trivial
      · intro xa V hD hx
        have HD := Lib.hid (show RWr B w c g M cv false S.fuse S.keep (S.wr + 1) (some ⟨gp, op, none⟩) 128 cap l (Z.set N y) V from hD)
        clear hx hD
        have k2 : V.cell? ⟨c, 2, none⟩ = some (.int .i64 S.fuse) := HD.out.blk.cell 2
        have k3 : V.cell? ⟨c, 3, none⟩ = some (.int .i64 S.keep) := HD.out.blk.cell 3
        have k0 : V.cell? ⟨c, 0, none⟩ = some (.slice (some ⟨g, 0, none⟩) M cv) := HD.out.blk.cell 0
        by_cases hf : S.fuse = 0
        · have d1 : (S.fuse == 0) = true := by simpa using hf
          by_cases hk2 : S.keep ≤ (k : Int)
          · have d2 : decide (S.keep ≤ (k : Int)) = true := by simpa using hk2
            have HS := Lib.hid (HMS.out 255 (by rw [HXk.out, if_pos ⟨hf, hk2⟩]))
            have c0 := (show V.cell? ⟨g, N, none⟩ = some (.int .u8 (y.toNat : Int)) from by
              rw [HD.out.row.cellAt N (by omega)]
              have h1 : N < (Z.set N y).length := by have := HD.out.same; omega
              rw [bvs_get _ N h1, List.getElem_set_self])
            have f0 := HD.out.row.frozenAt N
            have HP := Lib.hid (HD.out.put hgc hpg N 255)
            have HA := HA.out
            have HA2 := HA2.out
            have q0 := HI.out.1
            have q1 := HI.out.2.1
            have q2 := HI.out.2.2
            clear hf hk2 HXk
            go_wp2_with fail
            go_roundw
            case rel => exact ⟨k + 1, by omega, by go_num, by rw [← HS.out]; have h9 := HP.out; rw [List.set_set] at h9; exact h9⟩
            case measure => simp [intOf]; omega
          · have d2 : decide (S.keep ≤ (k : Int)) = false := by simpa using hk2
            have HS := Lib.hid (HMS.out y (by rw [HXk.out, if_neg (fun h => hk2 h.2)]))
            clear hf hk2 HXk
            go_wp2_with fail
            go_roundw
            case rel => exact ⟨k + 1, by omega, by go_num, by rw [← HS.out]; exact HD.out⟩
            case measure => simp [intOf]; omega
        · have d1 : (S.fuse == 0) = false := by simpa using hf
          have HS := Lib.hid (HMS.out y (by rw [HXk.out, if_neg (fun h => hf h.1)]))
          clear hf HXk k3
          go_wp2_with fail
          go_roundw
          case rel => exact ⟨k + 1, by omega, by go_num, by rw [← HS.out]; exact HD.out⟩
          case measure => simp [intOf]; omega
    · obtain rfl : k = 128 := by omega
      rw [HXE.out] at HR
      have k2 : wr.cell? ⟨c, 2, none⟩ = some (.int .i64 S.fuse) := HR.out.blk.cell 2
      have k1 : wr.cell? ⟨c, 1, none⟩ = some (.bool false) := HR.out.blk.cell 1
      have f1 := HR.out.blk.free 1
      have f2 := HR.out.blk.free 2
      have HW2 := Lib.hid (congrArg DS.all HW.out)
      clear hR
      by_cases hf : S.fuse = 0
      · have d1 : (S.fuse == 0) = true := by simpa using hf
        have HE := Lib.hid (show writeS S i0 l = ⟨X, true, -1, S.keep, S.wr + 1⟩ ∧ (if S.fuse = 0 then (19 : Int) else 0) = 19 from ⟨by rw [HW.out, if_pos hf, hf]; rfl, if_pos hf⟩)
        have HP := Lib.hid (((Put.refl HR.out.blk).set 1 (.bool true)).set 2 (.int .i64 (-1)))
        clear hf HW
        go_wp2_with fail
        go_ret
        refine ⟨by rw [← HZ.out, HE.out.2]; rfl, HR.out.end hgc HW2.out ?_⟩
        rw [HE.out.1]; exact HP.out
      · have d1 : (S.fuse == 0) = false := by simpa using hf
        by_cases hf2 : 0 < S.fuse
        · have HE := Lib.hid (show writeS S i0 l = ⟨X, false, S.fuse - 1, S.keep, S.wr + 1⟩ ∧ (if S.fuse = 0 then (19 : Int) else 0) = 0 from ⟨by rw [HW.out, if_neg hf, if_pos hf2]; simp [hf], if_neg hf⟩)
          have HP := Lib.hid ((Put.refl HR.out.blk).set 2 (.int .i64 (S.fuse - 1)))
          have hf3 := hok.fuse1
          clear hf HW
          go_wp2_with fail
          go_ret
          refine ⟨by rw [← HZ.out, HE.out.2]; rfl, HR.out.end hgc HW2.out ?_⟩
          rw [HE.out.1]; exact HP.out
        · have HE := Lib.hid (show writeS S i0 l = ⟨X, false, S.fuse, S.keep, S.wr + 1⟩ ∧ (if S.fuse = 0 then (19 : Int) else 0) = 0 from ⟨by rw [HW.out, if_neg hf, if_neg hf2]; simp [hf], if_neg hf⟩)
          have HP := Lib.hid (Put.refl HR.out.blk)
          clear hf HW
          go_wp2_with fail
          go_ret
          refine ⟨by rw [← HZ.out, HE.out.2]; rfl, HR.out.end hgc HW2.out ?_⟩
          rw [HE.out.1]; exact HP.out

theorem rdWrite_any {B : Nat} {w : World} {c : Nat} {v : Value} {S : DS} (i : Int) {p : Option Addr} {len cap : Nat} {l : List UInt8} (h : RDisk B w c v S) (hok : DSOk S) (hwr : S.wr ≤ 1000000) (hb : BsAt w p len cap l)
    (hpf : ∀ a, p = some a → ¬ foot c v a.block) :
    Calls Try.prog 20 #[ptrV c, .int .i64 i, .slice p len cap] w fun e w' => e = .returned (.int .i64 (writeE S i l)) ∧ RDisk B w' c v (writeS S i l) ∧ Chg (foot c v) w w' := by
  have hlen := hb.same
  subst hlen
  obtain ⟨pv, cv, rfl⟩ := own_v h.row
  have hl := hok.len
  have hf := hok.few
  have hkeep : ∀ w1, Below w.heap.size w w1 → RDisk B w1 c (.slice pv S.all.length cv) S ∧ Chg (foot c (.slice pv S.all.length cv)) w w1 := fun w1 hB =>
    ⟨⟨h.blk.below hB h.blk.lt, own_below h.row hB (Nat.le_refl _), h.apart⟩, Chg.ofBelow hB⟩
  have HK := Lib.hid hkeep
  have hno : writeOk S i l = false → writeS S i l = S := fun h => by unfold writeS; rw [h]; rfl
  by_cases hok2 : hasD S i = true ∧ l.length = 128 ∧ S.off = false
  · obtain ⟨hh, h128, hoff⟩ := hok2
    obtain ⟨hi0, hi1⟩ := hasD_iff.1 hh
    obtain ⟨k, rfl⟩ := Int.eq_ofNat_of_zero_le hi0
    obtain ⟨g, rfl⟩ : ∃ g, pv = some ⟨g, 0, none⟩ := by
      rcases h.row.2 with ⟨-, h0⟩ | ⟨g, cap, cur, h5, -⟩
      · omega
      · rw [Value.slice.injEq] at h5; exact ⟨g, h5.1⟩
    rw [h128] at hb ⊢
    have he : (if S.fuse = 0 then (19 : Int) else 0) = writeE S k l := by
      unfold writeE; simp [hh, h128, hoff]
    exact rdWrite_main k h hok hwr hb (fun a ha e => hpf a ha (.inl e)) (fun a ha e => hpf a ha (.inr (by rw [e]; rfl))) hh hoff _ he
  · have k0 : w.cell? ⟨c, 0, none⟩ = some (.slice pv S.all.length cv) := h.blk.cell 0
    have k1 : w.cell? ⟨c, 1, none⟩ = some (.bool S.off) := h.blk.cell 1
    have k2 : w.cell? ⟨c, 2, none⟩ = some (.int .i64 S.fuse) := h.blk.cell 2
    have k3 : w.cell? ⟨c, 3, none⟩ = some (.int .i64 S.keep) := h.blk.cell 3
    have k4 : w.cell? ⟨c, 4, none⟩ = some (.int .i64 S.wr) := h.blk.cell 4
    have HHas := Lib.hid (rdHas_any S pv cv i w (by omega))
    have hlt := h.blk.lt
    have hbm : l.length ≤ 9223372036854775807 := by have := hb.le; have := hb.small; unfold maxLen at this; omega
    have HS := Lib.hid (hno (by
      unfold writeOk
      cases h1 : hasD S i with
      | false => rfl
      | true =>
        cases h2 : S.off with
        | true => simp
        | false => simp; exact fun h3 => hok2 ⟨h1, h3, h2⟩))
    have hE : (hasD S i = false → writeE S i l = 8) ∧ (hasD S i = true → l.length ≠ 128 → writeE S i l = 1) ∧ (hasD S i = true → l.length = 128 → S.off = true → writeE S i l = 19) :=
      ⟨fun h1 => by unfold writeE; rw [if_pos h1], fun h1 h2 => by unfold writeE; rw [if_neg (by rw [h1]; decide), if_pos h2], fun h1 h2 h3 => by unfold writeE; rw [if_neg (by rw [h1]; decide), if_neg (by rw [h2]; decide), if_pos h3]⟩
    have HE := Lib.hid hE
    clear hE h hb hno hl hkeep
    unfold ptrV
    cases hh : hasD S i with
    | false =>
      have HE2 := Lib.hid (HE.out.1 hh)
      rw [hh] at HHas
      clear hh HE hok2
      generalize S.all.length = M at *
      generalize l.length = n at *
      go_enter Try.func20, Try.ntmps20
      go_wp2_with fail
      with_reducible refine HHas.out.mono ?_
      rintro e w1 ⟨rfl, hB1⟩
      have HB1 := Lib.hid hB1
      clear hB1
      go_wp2_with fail
      go_ret
      exact ⟨by rw [HE2.out]; rfl, by rw [HS.out]; exact (HK.out _ HB1.out).1, (HK.out _ HB1.out).2⟩
    | true =>
      rw [hh] at HHas
      by_cases h128 : l.length = 128
      · have hoff : S.off = true := by
          cases h2 : S.off with
          | true => rfl
          | false => exact absurd ⟨hh, h128, h2⟩ hok2
        have HE2 := Lib.hid (HE.out.2.2 hh h128 hoff)
        rw [hoff] at k1 HHas
        rw [h128]
        clear hh HE hok2 h128 hoff
        generalize S.all.length = M at *
        go_enter Try.func20, Try.ntmps20
        go_wp2_with fail
        with_reducible refine HHas.out.mono ?_
        rintro e w1 ⟨rfl, hB1⟩
        have HB1 := Lib.hid hB1
        have j1 := (hB1.cell (p := ⟨c, 1, none⟩) hlt).trans k1
        clear hB1 k0 k1 k2 k3 k4
        go_wp2_with fail
        go_ret
        exact ⟨by rw [HE2.out]; rfl, by rw [HS.out]; exact (HK.out _ HB1.out).1, (HK.out _ HB1.out).2⟩
      · have HE2 := Lib.hid (HE.out.2.1 hh h128)
        clear hh HE hok2
        generalize S.all.length = M at *
        generalize l.length = n at *
        have d1 : ((n : Int) == 128) = false := by simp; omega
        clear h128
        go_enter Try.func20, Try.ntmps20
        go_wp2_with fail
        with_reducible refine HHas.out.mono ?_
        rintro e w1 ⟨rfl, hB1⟩
        have HB1 := Lib.hid hB1
        clear hB1 k0 k1 k2 k3 k4
        go_wp2_with fail
        go_ret
        exact ⟨by rw [HE2.out]; rfl, by rw [HS.out]; exact (HK.out _ HB1.out).1, (HK.out _ HB1.out).2⟩

end Go.Proofs.Ytbmcajhknohhdaa

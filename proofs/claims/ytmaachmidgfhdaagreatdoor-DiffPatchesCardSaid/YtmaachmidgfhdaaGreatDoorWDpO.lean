/-
  The program's differences: the lines of the owners.
-/
import Derived.Test.YtmaachmidgfhdaaGreatDoorWDpD
/-! DpO -/
namespace Go.Proofs.YtmaachmidgfhdaaGreatDoor
open Go.RowKit Go.Shelf

attribute [local go_sem] Oper.semAt_some

set_option maxRecDepth 100000 in
theorem dpOwned_any (p : Pol) (hp : PolOk p) (hpf : fineP p = true) (w : World) : Calls Tryz.prog 22 #[.agg (polC p)] w fun e w' => e = .returned (.int .u16 (ownedN p 65535 : Nat)) ∧ Below w.heap.size w w' := by
  have HO := Lib.hid (fun V => pOwned_any p 65535 V hp hpf (by decide))
  have HB := Lib.hid (belowNew w (.cells (polC p) 29))
  have hr := PRow.new w p
  clear hp hpf
  go_enter Tryz.func22, Tryz.ntmps22
  go_wp2_with (refine wpList_of rfl (exec_load_pol rfl rfl hr) ?_)
  clear hr
  generalize w.alloc (.cells (polC p) 29) = w1 at *
  refine (HO.out _).mono ?_
  rintro e w2 ⟨rfl, hB⟩
  have HB2 := Lib.hid (HB.out.trans (hB.mono HB.out.size))
  clear hB
  go_wp2_with fail
  go_ret
  exact ⟨rfl, HB2.out⟩
set_option maxRecDepth 100000 in
set_option maxHeartbeats 6400000 in
theorem dpOwners_any (p q : Pol) (hq : PolOk q) (hqf : fineP q = true) (w : World) (hE : EnvM w) : Calls Tryz.prog 21 #[.agg (polC p), .agg (polC q)] w fun e w' => ∃ u, e = .returned u ∧ StrsRow w' w.heap.size u ((tagsN (ownedN q 65535)).flatMap (ownJ p q)) ∧ Below w.heap.size w w' := by
  obtain ⟨w0, hw0⟩ : ∃ w1, w1 = ((w.alloc (.cells (polC p) 29)).alloc (.cells (polC q) 29)).alloc (.cells #[.slice none 0 0] 32) := ⟨_, rfl⟩
  obtain ⟨z0, hB0, hpr0, hqr0, x0⟩ := made_pq w p q hw0
  have hq0 := hqr0
  rw [hw0] at hq0
  have HW0 := Lib.hid hw0
  have hS := ownedN_lt q 65535
  have HO := Lib.hid (fun V => dpOwned_any q hq hqf V)
  have hox := (fine_iff.1 hqf).2
  clear hw0 hqf
  refine (callsIn_wide (n := 3)).1 ?_
  refine callsIn_of_wp_marks Tryz.func21 rfl trivial ?_ rfl
  simp only [Tryz.ntmps21, List.size_toArray, List.length_cons, List.length_nil, Nat.reduceAdd, Nat.reduceSub, Array.replicate_succ, Array.replicate_zero, List.push_toArray, List.append_toArray, List.nil_append, List.cons_append]
  gi_wp2_with (first | (refine wpListIn_load_of rfl _ _ rfl (exec_load_pol rfl rfl hq0) ?_) | (refine ⟨trivial, ?_⟩; gi_at_call 22; refine (callsIn_wide.2 (HO.out _)).mono ?_; rintro e w1 ⟨rfl, hB1⟩) | (refine ⟨trivial, ?_⟩; gi_at_call 31; refine (Each_in _ _ _).mono ?_; rintro e w' ⟨rfl, rfl⟩))
  rw [← HW0.out] at hB1
  have hB2 := hB0.trans (hB1.mono hB0.size)
  have hpr := hpr0.step hB1
  have hqr := hqr0.step hB1
  have x1 := boxed_step x0 hB1
  have z1 := hB1.size
  clear HW0 HO hq0 hB0 hpr0 hqr0 x0
  have hB3 := hB2.alloc (Nat.le_trans (Nat.le_refl _) hB2.size) (.cells #[.int .u16 ((ownedN q 65535 : Nat) : Int)] 22)
  have bN := Boxed.new w1 22 (.int .u16 ((ownedN q 65535 : Nat) : Int))
  have hn1 : w1.heap.size < (w1.alloc (.cells #[.int .u16 ((ownedN q 65535 : Nat) : Int)] 22)).heap.size := by simp
  have hL2 := (LnaW.new x1).step (belowNew w1 (.cells #[.int .u16 ((ownedN q 65535 : Nat) : Int)] 22))
  generalize w1.alloc (.cells #[.int .u16 ((ownedN q 65535 : Nat) : Int)] 22) = w2 at *
  have hN3 : w.heap.size ≤ w2.heap.size := hB3.size
  have hT2 := hE.tab.below hB3
  have hlb := x1.lt
  obtain ⟨bl, hbl⟩ : ∃ b, b = w.heap.size + 1 + 1 := ⟨_, rfl⟩
  obtain ⟨bq, hbq⟩ : ∃ b, b = w.heap.size + 1 := ⟨_, rfl⟩
  obtain ⟨bp, hbp⟩ : ∃ b, b = w.heap.size := ⟨_, rfl⟩
  obtain ⟨be, hbe⟩ : ∃ b, b = w1.heap.size := ⟨_, rfl⟩
  have HZ := Lib.hid (show w.heap.size ≤ bl ∧ bp ≠ bl ∧ bq ≠ bl ∧ w.heap.size ≤ w1.heap.size ∧ bp < w1.heap.size ∧ bq < w1.heap.size from ⟨by omega, by omega, by omega, hB2.size, by omega, by omega⟩)
  have HB2 := Lib.hid hB2
  have hpr2 : PRow w1 bp p := hbp ▸ hpr
  have hqr2 : PRow w1 bq q := hbq ▸ hqr
  have HPr := Lib.hid hpr2
  have HQr := Lib.hid hqr2
  rw [show w.heap.size + 2 = bl by omega] at hL2
  rw [← hbe] at bN hn1
  first | rw [show w.heap.size + 1 + 1 + 1 = be by omega] | rw [← hbe]
  rw [← hbl, ← hbq, show Value.pointer (some ⟨w.heap.size, 0, none⟩) = .pointer (some ⟨bp, 0, none⟩) by rw [hbp]]
  have hbe2 : w1.heap.size ≤ w2.heap.size := by omega
  clear hpr hqr hpr2 hqr2 x1 hB2 hB3 hlb hbl hbq hbp hbe z1
  clear z0 hB1
  refine wpIn_rangeFunc_ownG rfl (by decide) (gf := 56) (lb := #[.pointer (some ⟨be, 0, none⟩)]) rfl trivial (enters_of Tryz.func56 (by kernel_rfl) rfl)
    (Each_stops 2 (by decide) be w.heap.size (ownedN q 65535) hS w2 hn1 hN3 hE.tab.2 bN.cell hT2.1) belowK_t (belowK_b hN3) (Below.refl _ _) (fun _ => rfl)
    (fun pre V => LnaW bl w1 ((valsF pre).flatMap (ownJ p q)) V) (fun _ _ _ => False) (liw_own _ hbe2) (fun _ _ _ _ _ hs _ _ => hs)
    hL2
    (fun x => { tmps := #[.agg (polC p), .agg (polC q), .pointer (some ⟨bp, 0, none⟩), .pointer (some ⟨bq, 0, none⟩), .slice none 0 0, .pointer (some ⟨bl, 0, none⟩), .int .i64 (x.val : Int), .agg (polC q), .int .u16 ((ownedN q 65535 : Nat) : Int), .func (.func 56) #[] #[.pointer (some ⟨be, 0, none⟩)], .int .i64 (x.val : Int), undef, undef, undef, undef, undef, undef, undef, undef, undef, undef, undef, undef, undef, undef, undef, undef, undef, undef, undef, undef, undef, undef, undef], defers := [] }) ?assign ?body ?done ?stop
  case assign =>
    intro l x W3 K hK
    simp only [encT]
    gi_wp2
    exact hK
  case body =>
    rintro l pre tt W hI hlt
    have HN := Lib.hid tt.isLt
    have HL := Lib.hid (valsF_snoc pre tt)
    have hml : ((valsF pre).flatMap (ownJ p q)).length ≤ 1000 := by
      have := flat_few (F := ownJ p q) (fun n => by unfold ownJ; split <;> simp) (valsF pre)
      rw [valsF_length] at this
      omega
    generalize hm : ((valsF pre).flatMap (ownJ p q)) = m at *
    have HM := Lib.hid hm
    have HMl := Lib.hid hml
    have HI := Lib.hid hI
    have HP := Lib.hid (prow_chg HPr.out hI.chg HZ.out.2.1)
    have HQ := Lib.hid (prow_chg HQr.out hI.chg HZ.out.2.2.1)
    have hNW : w.heap.size ≤ W.heap.size := Nat.le_trans HZ.out.2.2.2.1 hI.chg.size
    have HEn := Lib.hid (fun (V : World) (hB : Below W.heap.size W V) => hE.1.below ((hI.below HB2.out HZ.out.1 (Nat.le_refl _)).trans (hB.mono hNW)) hE.1.lt)
    clear hI hm hml
    generalize hn : tt.val = n at *
    have i0 : (0 : Int) ≤ (n : Int) := by omega
    have i1 : (n : Int) < 16 := by have := HN.out; omega
    have hon := hox n HN.out
    unfold ownerB at hon
    rw [Bool.and_eq_true, decide_eq_true_eq] at hon
    have HOw := Lib.hid (show q.owner n < 17 from by have := hon.1; omega)
    have HWo := Lib.hid (show IntKind.i64.wrap (q.owner n : Int) = (q.owner n : Int) from by rw [IntKind.wrap_i64]; have := hon.1; omega)
    clear hon
    have HJ := Lib.hid (show (Lib.join [[111, 119, 110], dig n, dig (q.owner n)] [32]).length ≤ 1000 from by
      have h1 := dig_len17 (n := n) (by have := HN.out; omega)
      have h2 := dig_len17 HOw.out
      rw [join_three]
      simp; omega)
    by_cases he : p.owner n = q.owner n
    · have HG := Lib.hid (show ownJ p q n = [] from by unfold ownJ; rw [decide_eq_true he]; rfl)
      have HE := Lib.hid (show (p.owner n : Int) = (q.owner n : Int) by rw [he])
      clear he
      gi_wp2
      refine wpIn_region_S (fun _ V => Below W.heap.size W V) 0 [.val (.int .i64 (n : Int)), .val (.pointer (some ⟨bp, 49, none⟩)), .val (.pointer (some ⟨bp, 49 + n, none⟩)), .val (.int .u8 (p.owner n : Nat)), .val (.int .i64 (n : Int)), .val (.pointer (some ⟨bq, 49, none⟩)), .val (.pointer (some ⟨bq, 49 + n, none⟩)), .val (.int .u8 (q.owner n : Nat)), .val (.bool false)]
        (fun x => { tmps := #[.agg (polC p), .agg (polC q), .pointer (some ⟨bp, 0, none⟩), .pointer (some ⟨bq, 0, none⟩), .slice none 0 0, .pointer (some ⟨bl, 0, none⟩), .int .i64 (n : Int), .agg (polC q), .int .u16 ((ownedN q 65535 : Nat) : Int), .func (.func 56) #[] #[.pointer (some ⟨be, 0, none⟩)], .int .i64 (n : Int), x 0, x 1, x 2, x 3, x 4, x 5, x 6, x 7, x 8, undef, undef, undef, undef, undef, undef, undef, undef, undef, undef, undef, undef, undef, undef], defers := [] }) (fun i => ([undef, undef, undef, undef, undef, undef, undef, undef, undef] : List Value).getD i undef) (by kernel_rfl) rfl (by kernel_rfl) rfl (by kernel_rfl) (by kernel_rfl) (by kernel_rfl) (by kernel_rfl) ((Below.refl _ W).drew) ?_ ?_
      · refine ⟨ObS.of_val rfl (fun x v => rfl) (fun x V kst hC hD => ?_), ?_⟩
        · clear hD
          refine want_yes rfl ?_
          exact leads_value (v := .int .i64 (n : Int)) (by go_simp) ⟨rfl, hC⟩
        refine ⟨ObS.of_val rfl (fun x v => rfl) (fun x V kst hC hD => ?_), ?_⟩
        · clear hD
          refine want_yes rfl ?_
          exact leads_value (v := .pointer (some ⟨bp, 49, none⟩)) (by go_simp) ⟨rfl, hC⟩
        refine ⟨ObS.of_val rfl (fun x v => rfl) (fun x V kst hC hD => ?_), ?_⟩
        · have e1 : x 1 = .pointer (some ⟨bp, 49, none⟩) := hD.1 rfl
          have e0 : x 0 = .int .i64 (n : Int) := hD.2.1 rfl
          clear hD
          refine want_yes rfl ?_
          exact leads_value (v := .pointer (some ⟨bp, 49 + n, none⟩)) (by go_simp) ⟨rfl, hC⟩
        refine ⟨ObS.of_val rfl (fun x v => rfl) (fun x V kst hC hD => ?_), ?_⟩
        · have e2 : x 2 = .pointer (some ⟨bp, 49 + n, none⟩) := hD.1 rfl
          clear hD
          refine want_yes rfl ?_
          have k0 := (HP.out.step hC).owner HN.out
          exact leads_value (v := .int .u8 (p.owner n : Nat)) (by go_simp) ⟨rfl, hC⟩
        refine ⟨ObS.of_val rfl (fun x v => rfl) (fun x V kst hC hD => ?_), ?_⟩
        · clear hD
          refine want_yes rfl ?_
          exact leads_value (v := .int .i64 (n : Int)) (by go_simp) ⟨rfl, hC⟩
        refine ⟨ObS.of_val rfl (fun x v => rfl) (fun x V kst hC hD => ?_), ?_⟩
        · clear hD
          refine want_yes rfl ?_
          exact leads_value (v := .pointer (some ⟨bq, 49, none⟩)) (by go_simp) ⟨rfl, hC⟩
        refine ⟨ObS.of_val rfl (fun x v => rfl) (fun x V kst hC hD => ?_), ?_⟩
        · have e5 : x 5 = .pointer (some ⟨bq, 49, none⟩) := hD.1 rfl
          have e4 : x 4 = .int .i64 (n : Int) := hD.2.1 rfl
          clear hD
          refine want_yes rfl ?_
          exact leads_value (v := .pointer (some ⟨bq, 49 + n, none⟩)) (by go_simp) ⟨rfl, hC⟩
        refine ⟨ObS.of_val rfl (fun x v => rfl) (fun x V kst hC hD => ?_), ?_⟩
        · have e6 : x 6 = .pointer (some ⟨bq, 49 + n, none⟩) := hD.1 rfl
          clear hD
          refine want_yes rfl ?_
          have k0 := (HQ.out.step hC).owner HN.out
          exact leads_value (v := .int .u8 (q.owner n : Nat)) (by go_simp) ⟨rfl, hC⟩
        refine ⟨ObS.of_val rfl (fun x v => rfl) (fun x V kst hC hD => ?_), ?_⟩
        · have e3 : x 3 = .int .u8 (p.owner n : Nat) := hD.1 rfl
          have e7 : x 7 = .int .u8 (q.owner n : Nat) := hD.2.1 rfl
          clear hD
          refine want_yes rfl ?_
          have h1 := HE.out
          exact leads_value (v := .bool false) (by go_simp) ⟨rfl, hC⟩
        trivial
      · intro xa W4 hC hx
        have e8 : xa 8 = .bool false := hx 8 (by simp)
        have HC := Lib.hid (show Below W.heap.size W W4 from hC)
        clear hx hC
        rw [e8]
        clear e8
        generalize xa 0 = z11
        generalize xa 1 = z12
        generalize xa 2 = z13
        generalize xa 3 = z14
        generalize xa 4 = z15
        generalize xa 5 = z16
        generalize xa 6 = z17
        generalize xa 7 = z18
        rename_i hgo
        refine hgo _ _ ?_
        clear hgo
        gi_wp2
        refine show _ ∧ _ ∧ _ from ⟨(keeps_below HC.out).from _, HC.out.mono hNW, ?_⟩
        show LnaW bl w1 ((valsF (pre ++ [tt])).flatMap (ownJ p q)) W4
        rw [HL.out, List.flatMap_append, HM.out, List.flatMap_cons, HG.out, List.flatMap_nil, List.append_nil, List.append_nil]
        exact HI.out.step HC.out
    · have HG := Lib.hid (show ownJ p q n = [Lib.join [[111, 119, 110], dig n, dig (q.owner n)] [32]] from by unfold ownJ; rw [decide_eq_false he]; rfl)
      have HE := Lib.hid (show ¬ (p.owner n : Int) = (q.owner n : Int) ∧ ¬ p.owner n = q.owner n by omega)
      clear he
      gi_wp2
      refine wpIn_region_S (fun _ V => Below W.heap.size W V) 0 [.val (.int .i64 (n : Int)), .val (.pointer (some ⟨bp, 49, none⟩)), .val (.pointer (some ⟨bp, 49 + n, none⟩)), .val (.int .u8 (p.owner n : Nat)), .val (.int .i64 (n : Int)), .val (.pointer (some ⟨bq, 49, none⟩)), .val (.pointer (some ⟨bq, 49 + n, none⟩)), .val (.int .u8 (q.owner n : Nat)), .val (.bool true)]
        (fun x => { tmps := #[.agg (polC p), .agg (polC q), .pointer (some ⟨bp, 0, none⟩), .pointer (some ⟨bq, 0, none⟩), .slice none 0 0, .pointer (some ⟨bl, 0, none⟩), .int .i64 (n : Int), .agg (polC q), .int .u16 ((ownedN q 65535 : Nat) : Int), .func (.func 56) #[] #[.pointer (some ⟨be, 0, none⟩)], .int .i64 (n : Int), x 0, x 1, x 2, x 3, x 4, x 5, x 6, x 7, x 8, undef, undef, undef, undef, undef, undef, undef, undef, undef, undef, undef, undef, undef, undef], defers := [] }) (fun i => ([undef, undef, undef, undef, undef, undef, undef, undef, undef] : List Value).getD i undef) (by kernel_rfl) rfl (by kernel_rfl) rfl (by kernel_rfl) (by kernel_rfl) (by kernel_rfl) (by kernel_rfl) ((Below.refl _ W).drew) ?_ ?_
      · refine ⟨ObS.of_val rfl (fun x v => rfl) (fun x V kst hC hD => ?_), ?_⟩
        · clear hD
          refine want_yes rfl ?_
          exact leads_value (v := .int .i64 (n : Int)) (by go_simp) ⟨rfl, hC⟩
        refine ⟨ObS.of_val rfl (fun x v => rfl) (fun x V kst hC hD => ?_), ?_⟩
        · clear hD
          refine want_yes rfl ?_
          exact leads_value (v := .pointer (some ⟨bp, 49, none⟩)) (by go_simp) ⟨rfl, hC⟩
        refine ⟨ObS.of_val rfl (fun x v => rfl) (fun x V kst hC hD => ?_), ?_⟩
        · have e1 : x 1 = .pointer (some ⟨bp, 49, none⟩) := hD.1 rfl
          have e0 : x 0 = .int .i64 (n : Int) := hD.2.1 rfl
          clear hD
          refine want_yes rfl ?_
          exact leads_value (v := .pointer (some ⟨bp, 49 + n, none⟩)) (by go_simp) ⟨rfl, hC⟩
        refine ⟨ObS.of_val rfl (fun x v => rfl) (fun x V kst hC hD => ?_), ?_⟩
        · have e2 : x 2 = .pointer (some ⟨bp, 49 + n, none⟩) := hD.1 rfl
          clear hD
          refine want_yes rfl ?_
          have k0 := (HP.out.step hC).owner HN.out
          exact leads_value (v := .int .u8 (p.owner n : Nat)) (by go_simp) ⟨rfl, hC⟩
        refine ⟨ObS.of_val rfl (fun x v => rfl) (fun x V kst hC hD => ?_), ?_⟩
        · clear hD
          refine want_yes rfl ?_
          exact leads_value (v := .int .i64 (n : Int)) (by go_simp) ⟨rfl, hC⟩
        refine ⟨ObS.of_val rfl (fun x v => rfl) (fun x V kst hC hD => ?_), ?_⟩
        · clear hD
          refine want_yes rfl ?_
          exact leads_value (v := .pointer (some ⟨bq, 49, none⟩)) (by go_simp) ⟨rfl, hC⟩
        refine ⟨ObS.of_val rfl (fun x v => rfl) (fun x V kst hC hD => ?_), ?_⟩
        · have e5 : x 5 = .pointer (some ⟨bq, 49, none⟩) := hD.1 rfl
          have e4 : x 4 = .int .i64 (n : Int) := hD.2.1 rfl
          clear hD
          refine want_yes rfl ?_
          exact leads_value (v := .pointer (some ⟨bq, 49 + n, none⟩)) (by go_simp) ⟨rfl, hC⟩
        refine ⟨ObS.of_val rfl (fun x v => rfl) (fun x V kst hC hD => ?_), ?_⟩
        · have e6 : x 6 = .pointer (some ⟨bq, 49 + n, none⟩) := hD.1 rfl
          clear hD
          refine want_yes rfl ?_
          have k0 := (HQ.out.step hC).owner HN.out
          exact leads_value (v := .int .u8 (q.owner n : Nat)) (by go_simp) ⟨rfl, hC⟩
        refine ⟨ObS.of_val rfl (fun x v => rfl) (fun x V kst hC hD => ?_), ?_⟩
        · have e3 : x 3 = .int .u8 (p.owner n : Nat) := hD.1 rfl
          have e7 : x 7 = .int .u8 (q.owner n : Nat) := hD.2.1 rfl
          clear hD
          refine want_yes rfl ?_
          have h1 := HE.out.1
          have h2 := HE.out.2
          exact leads_value (v := .bool true) (by go_simp) ⟨rfl, hC⟩
        trivial
      · intro xa W4 hC hx
        have e8 : xa 8 = .bool true := hx 8 (by simp)
        have HC := Lib.hid (show Below W.heap.size W W4 from hC)
        clear hx hC
        rw [e8]
        clear e8
        generalize xa 0 = z11
        generalize xa 1 = z12
        generalize xa 2 = z13
        generalize xa 3 = z14
        generalize xa 4 = z15
        generalize xa 5 = z16
        generalize xa 6 = z17
        generalize xa 7 = z18
        rename_i hgo
        refine hgo _ _ ?_
        clear hgo
        obtain ⟨⟨v, hv, hrow⟩, hch⟩ := HI.out.step HC.out
        have HV := Lib.hid (And.intro hv (And.intro hrow (And.intro hch HMl.out)))
        have HQ2 := Lib.hid (HQ.out.step HC.out)
        have HEn2 := Lib.hid (fun (V : World) (hB : Below W4.heap.size W4 V) => HEn.out V (HC.out.trans (hB.mono HC.out.size)))
        clear hv hrow hch
        gi_wp2
        refine wpIn_region_W (CW bl w1 v m [[111, 119, 110], dig n, dig (q.owner n)] W4) 5 [.val (v), .val (.int .i64 (n : Int)), .val (.string ⟨(dig n).toArray⟩), .val (.int .i64 (n : Int)), .val (.pointer (some ⟨bq, 49, none⟩)), .val (.pointer (some ⟨bq, 49 + n, none⟩)), .val (.int .u8 (q.owner n : Nat)), .val (.int .i64 (q.owner n : Int)), .val (.string ⟨(dig (q.owner n)).toArray⟩), .turn 0, .turn 1, .turn 2, .turn 3, .turn 4]
          (fun x => { tmps := #[.agg (polC p), .agg (polC q), .pointer (some ⟨bp, 0, none⟩), .pointer (some ⟨bq, 0, none⟩), .slice none 0 0, .pointer (some ⟨bl, 0, none⟩), .int .i64 (n : Int), .agg (polC q), .int .u16 ((ownedN q 65535 : Nat) : Int), .func (.func 56) #[] #[.pointer (some ⟨be, 0, none⟩)], .int .i64 (n : Int), z11, z12, z13, z14, z15, z16, z17, z18, .bool true, x 0, x 1, x 2, x 3, x 4, x 5, x 6, x 7, x 8, x 9, x 10, x 11, x 12, undef], defers := [] }) (fun i => ([undef, undef, undef, undef, undef, undef, undef, undef, undef, undef, undef, undef, undef, undef] : List Value).getD i undef) (by kernel_rfl) rfl (by kernel_rfl) rfl (by kernel_rfl) (by kernel_rfl) (by kernel_rfl) (by kernel_rfl) ((Below.refl _ W4).drew) ?_ ?_
        · refine ⟨ObW.of_val rfl (fun x v => rfl) (fun x V vs hW hC hD => ?_), ?_⟩
          · clear hD
            have hlk : vs.length ≤ 3 := hW 3 12 rfl (by kernel_rfl)
            clear hW
            refine want_yes rfl ?_
            have hB0 := CW_below hlk hC
            have k0 := (boxed_step HV.out.1 hB0).cell
            exact leads_value (v := v) (by go_simp) ⟨rfl, hC⟩
          refine ⟨ObW.of_val rfl (fun x v => rfl) (fun x V vs hW hC hD => ?_), ?_⟩
          · clear hD
            clear hW
            refine want_yes rfl ?_
            exact leads_value (v := .int .i64 (n : Int)) (by go_simp) ⟨rfl, hC⟩
          refine ⟨ObW.of_val rfl (fun x v => rfl) (fun x V vs hW hC hD => ?_), ?_⟩
          · have e1 : x 1 = .int .i64 (n : Int) := (hD.1 rfl).1
            clear hD
            have hlk : vs.length ≤ 0 := hW 0 9 rfl (by kernel_rfl)
            clear hW
            refine want_yes rfl ?_
            exact leads_enter2 (by go_simp) ((dpText_any n HN.out V).mono fun e w'' ⟨he, hw⟩ => ⟨_, he, rfl, hw ▸ hC⟩)
          refine ⟨ObW.of_val rfl (fun x v => rfl) (fun x V vs hW hC hD => ?_), ?_⟩
          · clear hD
            clear hW
            refine want_yes rfl ?_
            exact leads_value (v := .int .i64 (n : Int)) (by go_simp) ⟨rfl, hC⟩
          refine ⟨ObW.of_val rfl (fun x v => rfl) (fun x V vs hW hC hD => ?_), ?_⟩
          · clear hD
            clear hW
            refine want_yes rfl ?_
            exact leads_value (v := .pointer (some ⟨bq, 49, none⟩)) (by go_simp) ⟨rfl, hC⟩
          refine ⟨ObW.of_val rfl (fun x v => rfl) (fun x V vs hW hC hD => ?_), ?_⟩
          · have e4 : x 4 = .pointer (some ⟨bq, 49, none⟩) := (hD.1 rfl).1
            have e3 : x 3 = .int .i64 (n : Int) := (hD.2.1 rfl).1
            clear hD
            clear hW
            refine want_yes rfl ?_
            exact leads_value (v := .pointer (some ⟨bq, 49 + n, none⟩)) (by go_simp) ⟨rfl, hC⟩
          refine ⟨ObW.of_val rfl (fun x v => rfl) (fun x V vs hW hC hD => ?_), ?_⟩
          · have e5 : x 5 = .pointer (some ⟨bq, 49 + n, none⟩) := (hD.1 rfl).1
            clear hD
            have hlk : vs.length ≤ 4 := hW 4 13 rfl (by kernel_rfl)
            clear hW
            refine want_yes rfl ?_
            have hc4 := CW_chg HV.out.2.1 hlk hC
            have hq4 := prow_chg HQ2.out hc4 (fun h => h.elim HZ.out.2.2.1 (fun h => by have := HZ.out.2.2.2.2.2; omega))
            have k0 := hq4.owner HN.out
            exact leads_value (v := .int .u8 (q.owner n : Nat)) (by go_simp) ⟨rfl, hC⟩
          refine ⟨ObW.of_val rfl (fun x v => rfl) (fun x V vs hW hC hD => ?_), ?_⟩
          · have e6 : x 6 = .int .u8 (q.owner n : Nat) := (hD.1 rfl).1
            clear hD
            have hlk : vs.length ≤ 4 := hW 4 13 rfl (by kernel_rfl)
            clear hW
            refine want_yes rfl ?_
            have hwo := HWo.out
            exact leads_value (v := .int .i64 (q.owner n : Int)) (by go_simp) ⟨rfl, hC⟩
          refine ⟨ObW.of_val rfl (fun x v => rfl) (fun x V vs hW hC hD => ?_), ?_⟩
          · have e7 : x 7 = .int .i64 (q.owner n : Int) := (hD.1 rfl).1
            clear hD
            have hlk : vs.length ≤ 0 := hW 0 9 rfl (by kernel_rfl)
            clear hW
            refine want_yes rfl ?_
            exact leads_enter2 (by go_simp) ((dpText17_any (q.owner n) HOw.out V).mono fun e w'' ⟨he, hw⟩ => ⟨_, he, rfl, hw ▸ hC⟩)
          refine ⟨ObW.of_turn rfl (fun x v => rfl) (fun x V vs hl hC hD => ?_), ?_⟩
          · obtain rfl := len_zero hl
            have e2 : x 2 = .string ⟨(dig n).toArray⟩ := (hD.1 rfl).1
            have e8 : x 8 = .string ⟨(dig (q.owner n)).toArray⟩ := (hD.2.1 rfl).1
            clear hD
            refine want_yes rfl ?_
            refine leads_value (v := .slice (some ⟨V.heap.size, 0, none⟩) 3 3) (w' := V.alloc (.cells #[.string ⟨([111, 119, 110]).toArray⟩, .string ⟨(dig n).toArray⟩, .string ⟨(dig (q.owner n)).toArray⟩] 9)) (by go_simp) ?_
            exact ⟨hC.trans ((belowNew V _).mono hC.size), strs_made V [[111, 119, 110], dig n, dig (q.owner n)] _ 3 rfl rfl (by decide)⟩
          refine ⟨ObW.of_turn rfl (fun x v => rfl) (fun x V vs hl hC hD => ?_), ?_⟩
          · obtain ⟨a0, rfl⟩ := len_one hl
            have e9 : x 9 = a0 := (hD.1 rfl).1
            clear hD
            refine want_yes rfl ?_
            exact leads_enter2 (by go_simp) ((dpLine_any _ _ V hC.2 (by simp) HJ.out (by simp)).mono fun e w'' ⟨he, hB⟩ => ⟨_, he, hC.1.trans (hB.mono hC.1.size), rfl⟩)
          refine ⟨ObW.of_turn rfl (fun x v => rfl) (fun x V vs hl hC hD => ?_), ?_⟩
          · obtain ⟨a0, a1, rfl⟩ := len_two hl
            have e10 : x 10 = a1 := (hD.1 rfl).1
            clear hD
            refine want_yes rfl ?_
            obtain ⟨hC1, rfl⟩ := hC
            refine leads_value (v := .slice (some ⟨V.heap.size, 0, none⟩) 1 1) (w' := V.alloc (.cells #[.string ⟨(Lib.join [[111, 119, 110], dig n, dig (q.owner n)] [32]).toArray⟩] 9)) (by go_simp) ?_
            exact ⟨hC1.trans ((belowNew V _).mono hC1.size), _, rfl, Blk.new V _ _⟩
          refine ⟨ObW.of_turn rfl (fun x v => rfl) (fun x V vs hl hC hD => ?_), ?_⟩
          · obtain ⟨a0, a1, a2, rfl⟩ := len_three hl
            have e0 : x 0 = v := (hD.1 rfl).1
            have e11 : x 11 = a2 := (hD.2.1 rfl).1
            clear hD
            refine want_yes rfl ?_
            obtain ⟨hC1, g, rfl, hg⟩ := hC
            refine leads_append_line (v := v) (m := m) (W := W4) (g := g) (l := Lib.join [[111, 119, 110], dig n, dig (q.owner n)] [32]) (.tmp 20) (.tmp 31) rfl ?_ ?_ HV.out.1 HV.out.2.1 HV.out.2.2.1 hC1 hg HV.out.2.2.2 (fun d V' h => h)
            · exact e0
            · exact e11
          refine ⟨ObW.of_turn rfl (fun x v => rfl) (fun x V vs hl hC hD => ?_), ?_⟩
          · obtain ⟨a0, a1, a2, a3, rfl⟩ := len_four hl
            have e12 : x 12 = a3 := (hD.1 rfl).1
            clear hD
            refine want_yes rfl ?_
            obtain ⟨p0, c0, rfl⟩ := owns_shape hC.row
            have kc := hC.box.cell
            have kf := hC.box.frozen
            exact leadsP_skip (w' := V.setCell ⟨bl, 0, none⟩ _) (by go_simp) (StW.of hC HV.out.1 HV.out.2.1 HV.out.2.2.1)
          trivial
        · intro xb V vs hlv hC hx
          have hS := CW_end hlv hC
          clear hx hC
          refine show _ ∧ _ ∧ _ from ⟨((keeps_below HC.out).trans hS.keep).from _, (HC.out.mono hNW).trans (hS.chg.below (Nat.le_trans hNW HC.out.size) fun k e => ?_), ?_⟩
          · rcases e with e | e
            · exact e ▸ HZ.out.1
            · exact Nat.le_trans HZ.out.2.2.2.1 e
          · show LnaW bl w1 ((valsF (pre ++ [tt])).flatMap (ownJ p q)) V
            rw [HL.out, List.flatMap_append, HM.out, List.flatMap_cons, HG.out, List.flatMap_nil, List.append_nil]
            exact hS.li
  case done =>
    rintro D ys W hD hys hI hK
    rw [hys] at hI
    obtain ⟨⟨v, hv, hrow⟩, hch⟩ := hI
    have hB := HB2.out.trans (hch.below HZ.out.2.2.2.1 fun k e => e ▸ HZ.out.1)
    have hc := hv.cell
    gi_wp2
    refine ⟨by simp, .inl ⟨_, _, rfl, run_takeDeferred hK, ?_⟩⟩
    obtain ⟨h1, h2⟩ := row_out (o' := .deferred none) hrow hB HZ.out.2.2.2.1 (Nat.le_trans hN3 hD) hK rfl
    exact ⟨_, results_tmp rfl _ _ _, v, rfl, h1, h2⟩
  case stop =>
    rintro D c pre W _ _ h _
    exact h.elim
end Go.Proofs.YtmaachmidgfhdaaGreatDoor

/-
  The law RelabelMoves.
-/
import Derived.Test.YtecbaleabnepaaaDoorRelV
namespace Go.Proofs.YtecbaleabnepaaaDoor
open Go.RowKit

theorem PairsAt.take {w : World} {b off cap : Nat} {l : List (Int × Int)} (h : PairsAt w (.slice (some ⟨b, off, none⟩) l.length cap) l) {k : Nat} (hk : k < l.length) : PairsAt w (.slice (some ⟨b, off, none⟩) (k + 1) cap) (l.take (k + 1)) := by
  obtain ⟨p, cap', h1, h2, h2', h3⟩ := h
  cases h1
  have hl : (l.take (k + 1)).length = k + 1 := by rw [List.length_take]; omega
  refine ⟨_, cap, by rw [hl], by rw [hl]; omega, by rw [hl]; omega, fun _ => ?_⟩
  obtain ⟨b', off', h4, h5, h6⟩ := h3 (by intro e; rw [e] at hk; simp at hk)
  refine ⟨b', off', h4, h5, fun i hi => ?_⟩
  rw [hl] at hi
  rw [List.getElem_take]
  exact h6 i (by omega)

set_option maxRecDepth 100000 in
set_option maxHeartbeats 16000000 in
theorem rmoves_any (p : Option Addr) (cap : Nat) (l : List (Int × Int)) (w : World) (hI : l.length ≤ 40 → PairsAt w (.slice p l.length cap) l) (hT : TabOk w) :
    Calls Tryd.prog 4 #[.slice p l.length cap] w fun e w' => e = .returned (.bool true) ∧ Below w.heap.size w w' := by
  have HA := Lib.hid (fun V (hV : Below w.heap.size w V) => relAlive_any V (hT.below hV))
  by_cases h40 : 40 < l.length
  · have d0 : decide (40 < (l.length : Int)) = true := by simp; omega
    clear hI hT
    go_enter Tryd.func4, Tryd.ntmps4
    go_wp2_with fail
    refine (HA.out _ (Below.refl _ _)).mono ?_
    rintro e w' ⟨rfl, hB'⟩
    have hBB := Lib.hid hB'
    clear hB'
    go_wp2_with fail
    go_ret
    exact ⟨rfl, hBB.out⟩
  · have hP := hI (by omega)
    have d0 : decide (40 < (l.length : Int)) = false := by simp; omega
    obtain ⟨hcap, hc⟩ : l.length ≤ cap ∧ (l ≠ [] → ∃ b off, p = some ⟨b, off, none⟩ ∧ b < w.heap.size ∧ ∀ i, (h : i < l.length) → w.cell? ⟨b, off + i * 2, none⟩ = some (.int .i64 l[i].1) ∧ w.cell? ⟨b, off + i * 2 + 1, none⟩ = some (.int .i64 l[i].2)) := by
      obtain ⟨p', cap', h1, -, h2, h3⟩ := hP
      cases h1
      exact ⟨h2, h3⟩
    have HC := Lib.hid hc
    have HP := Lib.hid hP
    clear hI hT hc hP
    go_enter Tryd.func4, Tryd.ntmps4
    go_wp2_with fail
    refine (rlSame_any _).mono ?_
    rintro e w1 ⟨rfl, hB1⟩
    have hs1 := hB1.size
    have HB1 := Lib.hid (hB1.alloc hs1 (.cells (mapC fun _ => 0) 23))
    have r1 := Row.zero w1
    clear hB1
    go_wp2_with (with_reducible refine wpList_store_map rfl rfl _ _ rfl rfl rfl r1 ?_; intro w2 hw2)
    have HR2 := Lib.hid ((Held.of (HB1.out.trans (hw2.below _ hs1))).add (show w2.heap[w1.heap.size]? = some (rowO idF) from hw2.row))
    clear r1 HB1 hw2
    go_loopw [4] (fun i wr => ∃ k : Nat, k ≤ l.length ∧ i = .int .i64 k ∧ Held w [(w1.heap.size, rowO (madeF idF (l.take k)))] wr) (fun i _ => l.length - (intOf i).toNat)
    case atStart => exact ⟨0, by omega, rfl, HR2.out⟩
    case round =>
    obtain ⟨k, hk, rfl, hH⟩ := hrel
    have hFf := madeF_fine (l := l.take k) fine_id
    by_cases hlt : k < l.length
    · obtain ⟨b, off, rfl, hb, hcs⟩ := HC.out (by intro e; rw [e] at hlt; simp at hlt)
      obtain ⟨e0, e1⟩ := hcs k hlt
      clear hcs
      have HN := Lib.hid (made_next hlt idF)
      have hTk := (fun V (hV : Below w.heap.size w V) => (HP.out.take hlt).below hV (Nat.le_refl _))
      have HGf := Lib.hid (madeF_fine (l := l.take (k + 1)) fine_id)
      have HMd := Lib.hid (fun V (hV : Below w.heap.size w V) => rrMade_any _ (l.take (k + 1)) (by rw [List.length_take]; omega) V (hTk V hV))
      clear hTk
      generalize madeF idF (l.take k) = F at *
      obtain ⟨G, hGdef⟩ : ∃ G, madeF idF (l.take (k + 1)) = G := ⟨_, rfl⟩
      rw [hGdef] at HN HGf HMd
      have HGdef := Lib.hid hGdef
      have HFine := Lib.hid (fun V => (show Calls Tryd.prog 7 #[.agg (mapC G)] V fun e w' => e = .returned (.bool true) ∧ Below V.heap.size V w' from by have h := rlFine_any G (fine_ok HGf.out) V; rw [HGf.out] at h; exact h))
      clear hGdef HGf
      generalize l[k] = q at *
      have HC0 := Lib.hid (fun V (hV : Below w.heap.size w V) => (hV.cell (p := ⟨b, off + k * 2, none⟩) hb).trans e0)
      have HC1 := Lib.hid (fun V (hV : Below w.heap.size w V) => (hV.cell (p := ⟨b, off + k * 2 + 1, none⟩) hb).trans e1)
      have HMv := Lib.hid (fun V => rlMove_any F q.1 q.2 hFf V)
      have HRv := Lib.hid (fun V => rrMove_any F q.1 q.2 hFf V)
      have T0 := Lib.hid hH
      have hk41 : k < 41 := by omega
      have hkc : k + 1 ≤ cap := by omega
      clear e0 e1 hH hFf
      go_wp2_with fail
      refine wp_region_M [.val (.agg (mapC F)), .val (.slice (some ⟨b, off, none⟩) l.length cap), .val (.int .i64 (k : Int)), .val (.pointer (some ⟨b, off + k * 2, none⟩)), .val (.pointer (some ⟨b, off + k * 2, none⟩)), .val (.int .i64 q.1), .val (.slice (some ⟨b, off, none⟩) l.length cap), .val (.int .i64 (k : Int)), .val (.pointer (some ⟨b, off + k * 2, none⟩)), .val (.pointer (some ⟨b, off + k * 2 + 1, none⟩)), .val (.int .i64 q.2), .val (.tuple #[.agg (mapC (stepF F q.1 q.2)), .int .i64 (errN F q.1 q.2)]), .val (.tuple #[.agg (mapC (stepF F q.1 q.2)), .int .i64 (errN F q.1 q.2)]), .val (.agg (mapC (stepF F q.1 q.2))), .val (.int .i64 (errN F q.1 q.2)), .mk (rowO fun _ => 0) 16 (rowO (stepF F q.1 q.2)), .st 15, .val (.int .i64 (errN F q.1 q.2))]
        (fun x => { tmps := #[.slice (some ⟨b, off, none⟩) l.length cap, undef, u2, .pointer (some ⟨w1.heap.size, 0, none⟩), .int .i64 (k : Int), x 15, x 17, u7, u8, .slice (some ⟨b, off, none⟩) l.length cap, .int .i64 (l.length : Int), .bool false, undef, .agg (mapC idF), .int .i64 (k : Int), .slice (some ⟨b, off, none⟩) l.length cap, .int .i64 (l.length : Int), .bool true, u18, u19, x 12, x 0, x 1, x 2, x 3, x 4, x 5, x 6, x 7, x 8, x 9, x 10, x 11, x 13, x 14, u35, u36, u37, u38, u39, u40, u41, u42, u43, u44, u45, u46, u47, u48, u49, u50, u51, u52, u53, u54, u55, u56, u57, u58, u59, u60, u61, u62, u63, u64, u65, u66, u67, u68, u69, u70, u71, u72, u73, u74, u75, u76, u77, u78, u79, u80, undef], defers := [] }) (fun i => ([u21, u22, u23, u24, u25, u26, u27, u28, u29, u30, u31, u32, u20, u33, u34, u5, undef, u6] : List Value).getD i undef) (by kernel_rfl) rfl rfl rfl (by kernel_rfl) ?_ ?_
      · refine ⟨ObM.of_val rfl (fun x v => rfl) (fun x V hC hD => ?_), ?_⟩
        · clear hD
          have hH := T0.out.drew.step hC
          refine want_yes rfl ?_
          have k0 : Row V (w1.heap.size) F := hH.at 0 rfl
          exact leads_value (exec_load_map rfl rfl k0) ⟨rfl, Below.refl _ _⟩
        refine ⟨ObM.of_val rfl (fun x v => rfl) (fun x V hC hD => ?_), ?_⟩
        · clear hD
          have hH := T0.out.drew.step hC
          refine want_yes rfl ?_
          exact leads_value (v := .slice (some ⟨b, off, none⟩) l.length cap) (by go_simp) ⟨rfl, Below.refl _ _⟩
        refine ⟨ObM.of_val rfl (fun x v => rfl) (fun x V hC hD => ?_), ?_⟩
        · clear hD
          have hH := T0.out.drew.step hC
          refine want_yes rfl ?_
          exact leads_value (v := .int .i64 (k : Int)) (by go_simp) ⟨rfl, Below.refl _ _⟩
        refine ⟨ObM.of_val rfl (fun x v => rfl) (fun x V hC hD => ?_), ?_⟩
        · have e1 : x 1 = .slice (some ⟨b, off, none⟩) l.length cap := hD.1 _ rfl rfl
          have e2 : x 2 = .int .i64 (k : Int) := hD.2.1 _ rfl rfl
          clear hD
          have hH := T0.out.drew.step hC
          refine want_yes rfl ?_
          exact leads_value (v := .pointer (some ⟨b, off + k * 2, none⟩)) (by go_simp) ⟨rfl, Below.refl _ _⟩
        refine ⟨ObM.of_val rfl (fun x v => rfl) (fun x V hC hD => ?_), ?_⟩
        · have e3 : x 3 = .pointer (some ⟨b, off + k * 2, none⟩) := hD.1 _ rfl rfl
          clear hD
          have hH := T0.out.drew.step hC
          refine want_yes rfl ?_
          exact leads_value (v := .pointer (some ⟨b, off + k * 2, none⟩)) (by go_simp) ⟨rfl, Below.refl _ _⟩
        refine ⟨ObM.of_val rfl (fun x v => rfl) (fun x V hC hD => ?_), ?_⟩
        · have e4 : x 4 = .pointer (some ⟨b, off + k * 2, none⟩) := hD.1 _ rfl rfl
          clear hD
          have hH := T0.out.drew.step hC
          refine want_yes rfl ?_
          have k0 := HC0.out V hH.below
          exact leads_value (v := .int .i64 q.1) (by go_simp) ⟨rfl, Below.refl _ _⟩
        refine ⟨ObM.of_val rfl (fun x v => rfl) (fun x V hC hD => ?_), ?_⟩
        · clear hD
          have hH := T0.out.drew.step hC
          refine want_yes rfl ?_
          exact leads_value (v := .slice (some ⟨b, off, none⟩) l.length cap) (by go_simp) ⟨rfl, Below.refl _ _⟩
        refine ⟨ObM.of_val rfl (fun x v => rfl) (fun x V hC hD => ?_), ?_⟩
        · clear hD
          have hH := T0.out.drew.step hC
          refine want_yes rfl ?_
          exact leads_value (v := .int .i64 (k : Int)) (by go_simp) ⟨rfl, Below.refl _ _⟩
        refine ⟨ObM.of_val rfl (fun x v => rfl) (fun x V hC hD => ?_), ?_⟩
        · have e6 : x 6 = .slice (some ⟨b, off, none⟩) l.length cap := hD.1 _ rfl rfl
          have e7 : x 7 = .int .i64 (k : Int) := hD.2.1 _ rfl rfl
          clear hD
          have hH := T0.out.drew.step hC
          refine want_yes rfl ?_
          exact leads_value (v := .pointer (some ⟨b, off + k * 2, none⟩)) (by go_simp) ⟨rfl, Below.refl _ _⟩
        refine ⟨ObM.of_val rfl (fun x v => rfl) (fun x V hC hD => ?_), ?_⟩
        · have e8 : x 8 = .pointer (some ⟨b, off + k * 2, none⟩) := hD.1 _ rfl rfl
          clear hD
          have hH := T0.out.drew.step hC
          refine want_yes rfl ?_
          exact leads_value (v := .pointer (some ⟨b, off + k * 2 + 1, none⟩)) (by go_simp) ⟨rfl, Below.refl _ _⟩
        refine ⟨ObM.of_val rfl (fun x v => rfl) (fun x V hC hD => ?_), ?_⟩
        · have e9 : x 9 = .pointer (some ⟨b, off + k * 2 + 1, none⟩) := hD.1 _ rfl rfl
          clear hD
          have hH := T0.out.drew.step hC
          refine want_yes rfl ?_
          have k0 := HC1.out V hH.below
          exact leads_value (v := .int .i64 q.2) (by go_simp) ⟨rfl, Below.refl _ _⟩
        refine ⟨ObM.of_val rfl (fun x v => rfl) (fun x V hC hD => ?_), ?_⟩
        · have e0 : x 0 = .agg (mapC F) := hD.1 _ rfl rfl
          have e5 : x 5 = .int .i64 q.1 := hD.2.1 _ rfl rfl
          have e10 : x 10 = .int .i64 q.2 := hD.2.2.1 _ rfl rfl
          clear hD
          have hH := T0.out.drew.step hC
          refine want_yes rfl ?_
          exact leads_enter (by go_simp) (HMv.out V) fun w'' hB => ⟨rfl, hB⟩
        refine ⟨ObM.of_val rfl (fun x v => rfl) (fun x V hC hD => ?_), ?_⟩
        · have e11 : x 11 = .tuple #[.agg (mapC (stepF F q.1 q.2)), .int .i64 (errN F q.1 q.2)] := hD.1 _ rfl rfl
          clear hD
          have hH := T0.out.drew.step hC
          refine want_yes rfl ?_
          exact leads_value (v := .tuple #[.agg (mapC (stepF F q.1 q.2)), .int .i64 (errN F q.1 q.2)]) (by go_simp) ⟨rfl, Below.refl _ _⟩
        refine ⟨ObM.of_val rfl (fun x v => rfl) (fun x V hC hD => ?_), ?_⟩
        · have e12 : x 12 = .tuple #[.agg (mapC (stepF F q.1 q.2)), .int .i64 (errN F q.1 q.2)] := hD.1 _ rfl rfl
          clear hD
          have hH := T0.out.drew.step hC
          refine want_yes rfl ?_
          exact leads_value (v := .agg (mapC (stepF F q.1 q.2))) (by go_simp) ⟨rfl, Below.refl _ _⟩
        refine ⟨ObM.of_val rfl (fun x v => rfl) (fun x V hC hD => ?_), ?_⟩
        · have e12 : x 12 = .tuple #[.agg (mapC (stepF F q.1 q.2)), .int .i64 (errN F q.1 q.2)] := hD.1 _ rfl rfl
          clear hD
          have hH := T0.out.drew.step hC
          refine want_yes rfl ?_
          exact leads_value (v := .int .i64 (errN F q.1 q.2)) (by go_simp) ⟨rfl, Below.refl _ _⟩
        refine ⟨ObM.of_mk rfl (fun x v => rfl) rfl (fun x V => ?_), ?_⟩
        · exact leads_value (by go_simp) ⟨rfl, below_one _ _, by simp, Row.zero V⟩
        refine ⟨ObM.of_st rfl rfl (fun x v => rfl) rfl (by kernel_rfl) (fun x V gb hC hx hg hD => ?_), ?_⟩
        · have e13 : x 13 = .agg (mapC (stepF F q.1 q.2)) := hD.2.1 _ rfl rfl
          have e11 : x 11 = .tuple #[.agg (mapC (stepF F q.1 q.2)), .int .i64 (errN F q.1 q.2)] := hD.2.2.1 _ rfl rfl
          have e0 : x 0 = .agg (mapC F) := hD.2.2.2.1 _ rfl rfl
          have e1 : x 1 = .slice (some ⟨b, off, none⟩) l.length cap := hD.2.2.2.2.1 _ rfl rfl
          have e2 : x 2 = .int .i64 (k : Int) := hD.2.2.2.2.2.1 _ rfl rfl
          have e3 : x 3 = .pointer (some ⟨b, off + k * 2, none⟩) := hD.2.2.2.2.2.2.1 _ rfl rfl
          have e4 : x 4 = .pointer (some ⟨b, off + k * 2, none⟩) := hD.2.2.2.2.2.2.2.1 _ rfl rfl
          have e5 : x 5 = .int .i64 q.1 := hD.2.2.2.2.2.2.2.2.1 _ rfl rfl
          have e6 : x 6 = .slice (some ⟨b, off, none⟩) l.length cap := hD.2.2.2.2.2.2.2.2.2.1 _ rfl rfl
          have e7 : x 7 = .int .i64 (k : Int) := hD.2.2.2.2.2.2.2.2.2.2.1 _ rfl rfl
          have e8 : x 8 = .pointer (some ⟨b, off + k * 2, none⟩) := hD.2.2.2.2.2.2.2.2.2.2.2.1 _ rfl rfl
          have e9 : x 9 = .pointer (some ⟨b, off + k * 2 + 1, none⟩) := hD.2.2.2.2.2.2.2.2.2.2.2.2.1 _ rfl rfl
          have e10 : x 10 = .int .i64 q.2 := hD.2.2.2.2.2.2.2.2.2.2.2.2.2.1 _ rfl rfl
          have e12 : x 12 = .tuple #[.agg (mapC (stepF F q.1 q.2)), .int .i64 (errN F q.1 q.2)] := hD.2.2.2.2.2.2.2.2.2.2.2.2.2.2.2.1 _ rfl rfl
          clear hD
          have hH := T0.out.drew.step hC
          exact leads_store_row rfl hx e13 hg (infoMapC _) (by rw [mapC_size, mapC_size]) (mapC_one _)
        refine ⟨ObM.of_val rfl (fun x v => rfl) (fun x V hC hD => ?_), ?_⟩
        · have e14 : x 14 = .int .i64 (errN F q.1 q.2) := hD.1 _ rfl rfl
          have e0 : x 0 = .agg (mapC F) := hD.2.2.1 _ rfl rfl
          have e1 : x 1 = .slice (some ⟨b, off, none⟩) l.length cap := hD.2.2.2.1 _ rfl rfl
          have e2 : x 2 = .int .i64 (k : Int) := hD.2.2.2.2.1 _ rfl rfl
          have e3 : x 3 = .pointer (some ⟨b, off + k * 2, none⟩) := hD.2.2.2.2.2.1 _ rfl rfl
          have e4 : x 4 = .pointer (some ⟨b, off + k * 2, none⟩) := hD.2.2.2.2.2.2.1 _ rfl rfl
          have e5 : x 5 = .int .i64 q.1 := hD.2.2.2.2.2.2.2.1 _ rfl rfl
          have e6 : x 6 = .slice (some ⟨b, off, none⟩) l.length cap := hD.2.2.2.2.2.2.2.2.1 _ rfl rfl
          have e7 : x 7 = .int .i64 (k : Int) := hD.2.2.2.2.2.2.2.2.2.1 _ rfl rfl
          have e8 : x 8 = .pointer (some ⟨b, off + k * 2, none⟩) := hD.2.2.2.2.2.2.2.2.2.2.1 _ rfl rfl
          have e9 : x 9 = .pointer (some ⟨b, off + k * 2 + 1, none⟩) := hD.2.2.2.2.2.2.2.2.2.2.2.1 _ rfl rfl
          have e10 : x 10 = .int .i64 q.2 := hD.2.2.2.2.2.2.2.2.2.2.2.2.1 _ rfl rfl
          have e11 : x 11 = .tuple #[.agg (mapC (stepF F q.1 q.2)), .int .i64 (errN F q.1 q.2)] := hD.2.2.2.2.2.2.2.2.2.2.2.2.2.1 _ rfl rfl
          have e12 : x 12 = .tuple #[.agg (mapC (stepF F q.1 q.2)), .int .i64 (errN F q.1 q.2)] := hD.2.2.2.2.2.2.2.2.2.2.2.2.2.2.1 _ rfl rfl
          have e13 : x 13 = .agg (mapC (stepF F q.1 q.2)) := hD.2.2.2.2.2.2.2.2.2.2.2.2.2.2.2.1 _ rfl rfl
          clear hD
          have hH := T0.out.drew.step hC
          refine want_yes rfl ?_
          exact leads_value (v := .int .i64 (errN F q.1 q.2)) (by go_simp) ⟨rfl, Below.refl _ _⟩
        trivial
      · intro x W hF
        obtain ⟨hg0, hg1, hg2⟩ := hF.made 15 _ _ _ (by simp) rfl rfl
        have e17 : x 17 = .int .i64 (errN F q.1 q.2) := hF.val 17 _ (by simp) rfl rfl
        have hg3 : Row W (blkOf (x 15)) (stepF F q.1 q.2) := hg2
        have T1 := Lib.hid ((T0.out.drew.step hF.below).add (show W.heap[blkOf (x 15)]? = some (rowO (stepF F q.1 q.2)) from hg3))
        have hlt1 : w1.heap.size < wr.heap.size := (show Row wr w1.heap.size F from T0.out.at 0 rfl).lt
        have hne1 : w1.heap.size < blkOf (x 15) := Nat.lt_of_lt_of_le hlt1 hg0
        have T1 := Lib.hid T1.out.swap
        clear hF hg2 hg3 hg0 hlt1 T0
        generalize blkOf (x 15) = g1 at *
        rw [hg1, e17]
        clear hg1 e17
        generalize x 0 = y21
        generalize x 1 = y22
        generalize x 2 = y23
        generalize x 3 = y24
        generalize x 4 = y25
        generalize x 5 = y26
        generalize x 6 = y27
        generalize x 7 = y28
        generalize x 8 = y29
        generalize x 9 = y30
        generalize x 10 = y31
        generalize x 11 = y32
        generalize x 12 = y20
        generalize x 13 = y33
        generalize x 14 = y34
        generalize x 15 = y5
        generalize x 17 = y6
        go_wp2_with fail
        refine wp_region_M [.val (.agg (mapC F)), .val (.slice (some ⟨b, off, none⟩) l.length cap), .val (.int .i64 (k : Int)), .val (.pointer (some ⟨b, off + k * 2, none⟩)), .val (.pointer (some ⟨b, off + k * 2, none⟩)), .val (.int .i64 q.1), .val (.slice (some ⟨b, off, none⟩) l.length cap), .val (.int .i64 (k : Int)), .val (.pointer (some ⟨b, off + k * 2, none⟩)), .val (.pointer (some ⟨b, off + k * 2 + 1, none⟩)), .val (.int .i64 q.2), .val (.tuple #[.agg (mapC (stepF F q.1 q.2)), .bool (mayB F q.1 q.2)]), .val (.tuple #[.agg (mapC (stepF F q.1 q.2)), .bool (mayB F q.1 q.2)]), .val (.agg (mapC (stepF F q.1 q.2))), .val (.bool (mayB F q.1 q.2)), .mk (rowO fun _ => 0) 16 (rowO (stepF F q.1 q.2)), .st 15, .val (.bool (mayB F q.1 q.2))]
          (fun x => { tmps := #[.slice (some ⟨b, off, none⟩) l.length cap, undef, u2, .pointer (some ⟨w1.heap.size, 0, none⟩), .int .i64 (k : Int), .pointer (some ⟨g1, 0, none⟩), .int .i64 (errN F q.1 q.2), x 15, x 17, .slice (some ⟨b, off, none⟩) l.length cap, .int .i64 (l.length : Int), .bool false, undef, .agg (mapC idF), .int .i64 (k : Int), .slice (some ⟨b, off, none⟩) l.length cap, .int .i64 (l.length : Int), .bool true, u18, u19, y20, y21, y22, y23, y24, y25, y26, y27, y28, y29, y30, y31, y32, y33, y34, x 12, x 0, x 1, x 2, x 3, x 4, x 5, x 6, x 7, x 8, x 9, x 10, x 11, x 13, x 14, u50, u51, u52, u53, u54, u55, u56, u57, u58, u59, u60, u61, u62, u63, u64, u65, u66, u67, u68, u69, u70, u71, u72, u73, u74, u75, u76, u77, u78, u79, u80, undef], defers := [] }) (fun i => ([u36, u37, u38, u39, u40, u41, u42, u43, u44, u45, u46, u47, u35, u48, u49, u7, undef, u8] : List Value).getD i undef) (by kernel_rfl) rfl rfl rfl (by kernel_rfl) ?_ ?_
        · refine ⟨ObM.of_val rfl (fun x v => rfl) (fun x V hC hD => ?_), ?_⟩
          · clear hD
            have hH := T1.out.drew.step hC
            refine want_yes rfl ?_
            have k0 : Row V (w1.heap.size) F := hH.at 0 rfl
            exact leads_value (exec_load_map rfl rfl k0) ⟨rfl, Below.refl _ _⟩
          refine ⟨ObM.of_val rfl (fun x v => rfl) (fun x V hC hD => ?_), ?_⟩
          · clear hD
            have hH := T1.out.drew.step hC
            refine want_yes rfl ?_
            exact leads_value (v := .slice (some ⟨b, off, none⟩) l.length cap) (by go_simp) ⟨rfl, Below.refl _ _⟩
          refine ⟨ObM.of_val rfl (fun x v => rfl) (fun x V hC hD => ?_), ?_⟩
          · clear hD
            have hH := T1.out.drew.step hC
            refine want_yes rfl ?_
            exact leads_value (v := .int .i64 (k : Int)) (by go_simp) ⟨rfl, Below.refl _ _⟩
          refine ⟨ObM.of_val rfl (fun x v => rfl) (fun x V hC hD => ?_), ?_⟩
          · have e1 : x 1 = .slice (some ⟨b, off, none⟩) l.length cap := hD.1 _ rfl rfl
            have e2 : x 2 = .int .i64 (k : Int) := hD.2.1 _ rfl rfl
            clear hD
            have hH := T1.out.drew.step hC
            refine want_yes rfl ?_
            exact leads_value (v := .pointer (some ⟨b, off + k * 2, none⟩)) (by go_simp) ⟨rfl, Below.refl _ _⟩
          refine ⟨ObM.of_val rfl (fun x v => rfl) (fun x V hC hD => ?_), ?_⟩
          · have e3 : x 3 = .pointer (some ⟨b, off + k * 2, none⟩) := hD.1 _ rfl rfl
            clear hD
            have hH := T1.out.drew.step hC
            refine want_yes rfl ?_
            exact leads_value (v := .pointer (some ⟨b, off + k * 2, none⟩)) (by go_simp) ⟨rfl, Below.refl _ _⟩
          refine ⟨ObM.of_val rfl (fun x v => rfl) (fun x V hC hD => ?_), ?_⟩
          · have e4 : x 4 = .pointer (some ⟨b, off + k * 2, none⟩) := hD.1 _ rfl rfl
            clear hD
            have hH := T1.out.drew.step hC
            refine want_yes rfl ?_
            have k0 := HC0.out V hH.below
            exact leads_value (v := .int .i64 q.1) (by go_simp) ⟨rfl, Below.refl _ _⟩
          refine ⟨ObM.of_val rfl (fun x v => rfl) (fun x V hC hD => ?_), ?_⟩
          · clear hD
            have hH := T1.out.drew.step hC
            refine want_yes rfl ?_
            exact leads_value (v := .slice (some ⟨b, off, none⟩) l.length cap) (by go_simp) ⟨rfl, Below.refl _ _⟩
          refine ⟨ObM.of_val rfl (fun x v => rfl) (fun x V hC hD => ?_), ?_⟩
          · clear hD
            have hH := T1.out.drew.step hC
            refine want_yes rfl ?_
            exact leads_value (v := .int .i64 (k : Int)) (by go_simp) ⟨rfl, Below.refl _ _⟩
          refine ⟨ObM.of_val rfl (fun x v => rfl) (fun x V hC hD => ?_), ?_⟩
          · have e6 : x 6 = .slice (some ⟨b, off, none⟩) l.length cap := hD.1 _ rfl rfl
            have e7 : x 7 = .int .i64 (k : Int) := hD.2.1 _ rfl rfl
            clear hD
            have hH := T1.out.drew.step hC
            refine want_yes rfl ?_
            exact leads_value (v := .pointer (some ⟨b, off + k * 2, none⟩)) (by go_simp) ⟨rfl, Below.refl _ _⟩
          refine ⟨ObM.of_val rfl (fun x v => rfl) (fun x V hC hD => ?_), ?_⟩
          · have e8 : x 8 = .pointer (some ⟨b, off + k * 2, none⟩) := hD.1 _ rfl rfl
            clear hD
            have hH := T1.out.drew.step hC
            refine want_yes rfl ?_
            exact leads_value (v := .pointer (some ⟨b, off + k * 2 + 1, none⟩)) (by go_simp) ⟨rfl, Below.refl _ _⟩
          refine ⟨ObM.of_val rfl (fun x v => rfl) (fun x V hC hD => ?_), ?_⟩
          · have e9 : x 9 = .pointer (some ⟨b, off + k * 2 + 1, none⟩) := hD.1 _ rfl rfl
            clear hD
            have hH := T1.out.drew.step hC
            refine want_yes rfl ?_
            have k0 := HC1.out V hH.below
            exact leads_value (v := .int .i64 q.2) (by go_simp) ⟨rfl, Below.refl _ _⟩
          refine ⟨ObM.of_val rfl (fun x v => rfl) (fun x V hC hD => ?_), ?_⟩
          · have e0 : x 0 = .agg (mapC F) := hD.1 _ rfl rfl
            have e5 : x 5 = .int .i64 q.1 := hD.2.1 _ rfl rfl
            have e10 : x 10 = .int .i64 q.2 := hD.2.2.1 _ rfl rfl
            clear hD
            have hH := T1.out.drew.step hC
            refine want_yes rfl ?_
            exact leads_enter (by go_simp) (HRv.out V) fun w'' hB => ⟨rfl, hB⟩
          refine ⟨ObM.of_val rfl (fun x v => rfl) (fun x V hC hD => ?_), ?_⟩
          · have e11 : x 11 = .tuple #[.agg (mapC (stepF F q.1 q.2)), .bool (mayB F q.1 q.2)] := hD.1 _ rfl rfl
            clear hD
            have hH := T1.out.drew.step hC
            refine want_yes rfl ?_
            exact leads_value (v := .tuple #[.agg (mapC (stepF F q.1 q.2)), .bool (mayB F q.1 q.2)]) (by go_simp) ⟨rfl, Below.refl _ _⟩
          refine ⟨ObM.of_val rfl (fun x v => rfl) (fun x V hC hD => ?_), ?_⟩
          · have e12 : x 12 = .tuple #[.agg (mapC (stepF F q.1 q.2)), .bool (mayB F q.1 q.2)] := hD.1 _ rfl rfl
            clear hD
            have hH := T1.out.drew.step hC
            refine want_yes rfl ?_
            exact leads_value (v := .agg (mapC (stepF F q.1 q.2))) (by go_simp) ⟨rfl, Below.refl _ _⟩
          refine ⟨ObM.of_val rfl (fun x v => rfl) (fun x V hC hD => ?_), ?_⟩
          · have e12 : x 12 = .tuple #[.agg (mapC (stepF F q.1 q.2)), .bool (mayB F q.1 q.2)] := hD.1 _ rfl rfl
            clear hD
            have hH := T1.out.drew.step hC
            refine want_yes rfl ?_
            exact leads_value (v := .bool (mayB F q.1 q.2)) (by go_simp) ⟨rfl, Below.refl _ _⟩
          refine ⟨ObM.of_mk rfl (fun x v => rfl) rfl (fun x V => ?_), ?_⟩
          · exact leads_value (by go_simp) ⟨rfl, below_one _ _, by simp, Row.zero V⟩
          refine ⟨ObM.of_st rfl rfl (fun x v => rfl) rfl (by kernel_rfl) (fun x V gb hC hx hg hD => ?_), ?_⟩
          · have e13 : x 13 = .agg (mapC (stepF F q.1 q.2)) := hD.2.1 _ rfl rfl
            have e11 : x 11 = .tuple #[.agg (mapC (stepF F q.1 q.2)), .bool (mayB F q.1 q.2)] := hD.2.2.1 _ rfl rfl
            have e0 : x 0 = .agg (mapC F) := hD.2.2.2.1 _ rfl rfl
            have e1 : x 1 = .slice (some ⟨b, off, none⟩) l.length cap := hD.2.2.2.2.1 _ rfl rfl
            have e2 : x 2 = .int .i64 (k : Int) := hD.2.2.2.2.2.1 _ rfl rfl
            have e3 : x 3 = .pointer (some ⟨b, off + k * 2, none⟩) := hD.2.2.2.2.2.2.1 _ rfl rfl
            have e4 : x 4 = .pointer (some ⟨b, off + k * 2, none⟩) := hD.2.2.2.2.2.2.2.1 _ rfl rfl
            have e5 : x 5 = .int .i64 q.1 := hD.2.2.2.2.2.2.2.2.1 _ rfl rfl
            have e6 : x 6 = .slice (some ⟨b, off, none⟩) l.length cap := hD.2.2.2.2.2.2.2.2.2.1 _ rfl rfl
            have e7 : x 7 = .int .i64 (k : Int) := hD.2.2.2.2.2.2.2.2.2.2.1 _ rfl rfl
            have e8 : x 8 = .pointer (some ⟨b, off + k * 2, none⟩) := hD.2.2.2.2.2.2.2.2.2.2.2.1 _ rfl rfl
            have e9 : x 9 = .pointer (some ⟨b, off + k * 2 + 1, none⟩) := hD.2.2.2.2.2.2.2.2.2.2.2.2.1 _ rfl rfl
            have e10 : x 10 = .int .i64 q.2 := hD.2.2.2.2.2.2.2.2.2.2.2.2.2.1 _ rfl rfl
            have e12 : x 12 = .tuple #[.agg (mapC (stepF F q.1 q.2)), .bool (mayB F q.1 q.2)] := hD.2.2.2.2.2.2.2.2.2.2.2.2.2.2.2.1 _ rfl rfl
            clear hD
            have hH := T1.out.drew.step hC
            exact leads_store_row rfl hx e13 hg (infoMapC _) (by rw [mapC_size, mapC_size]) (mapC_one _)
          refine ⟨ObM.of_val rfl (fun x v => rfl) (fun x V hC hD => ?_), ?_⟩
          · have e14 : x 14 = .bool (mayB F q.1 q.2) := hD.1 _ rfl rfl
            have e0 : x 0 = .agg (mapC F) := hD.2.2.1 _ rfl rfl
            have e1 : x 1 = .slice (some ⟨b, off, none⟩) l.length cap := hD.2.2.2.1 _ rfl rfl
            have e2 : x 2 = .int .i64 (k : Int) := hD.2.2.2.2.1 _ rfl rfl
            have e3 : x 3 = .pointer (some ⟨b, off + k * 2, none⟩) := hD.2.2.2.2.2.1 _ rfl rfl
            have e4 : x 4 = .pointer (some ⟨b, off + k * 2, none⟩) := hD.2.2.2.2.2.2.1 _ rfl rfl
            have e5 : x 5 = .int .i64 q.1 := hD.2.2.2.2.2.2.2.1 _ rfl rfl
            have e6 : x 6 = .slice (some ⟨b, off, none⟩) l.length cap := hD.2.2.2.2.2.2.2.2.1 _ rfl rfl
            have e7 : x 7 = .int .i64 (k : Int) := hD.2.2.2.2.2.2.2.2.2.1 _ rfl rfl
            have e8 : x 8 = .pointer (some ⟨b, off + k * 2, none⟩) := hD.2.2.2.2.2.2.2.2.2.2.1 _ rfl rfl
            have e9 : x 9 = .pointer (some ⟨b, off + k * 2 + 1, none⟩) := hD.2.2.2.2.2.2.2.2.2.2.2.1 _ rfl rfl
            have e10 : x 10 = .int .i64 q.2 := hD.2.2.2.2.2.2.2.2.2.2.2.2.1 _ rfl rfl
            have e11 : x 11 = .tuple #[.agg (mapC (stepF F q.1 q.2)), .bool (mayB F q.1 q.2)] := hD.2.2.2.2.2.2.2.2.2.2.2.2.2.1 _ rfl rfl
            have e12 : x 12 = .tuple #[.agg (mapC (stepF F q.1 q.2)), .bool (mayB F q.1 q.2)] := hD.2.2.2.2.2.2.2.2.2.2.2.2.2.2.1 _ rfl rfl
            have e13 : x 13 = .agg (mapC (stepF F q.1 q.2)) := hD.2.2.2.2.2.2.2.2.2.2.2.2.2.2.2.1 _ rfl rfl
            clear hD
            have hH := T1.out.drew.step hC
            refine want_yes rfl ?_
            exact leads_value (v := .bool (mayB F q.1 q.2)) (by go_simp) ⟨rfl, Below.refl _ _⟩
          trivial
        · intro x W' hF
          obtain ⟨hg0, hg1, hg2⟩ := hF.made 15 _ _ _ (by simp) rfl rfl
          have e17 : x 17 = .bool (mayB F q.1 q.2) := hF.val 17 _ (by simp) rfl rfl
          have hg3 : Row W' (blkOf (x 15)) (stepF F q.1 q.2) := hg2
          have T2 := Lib.hid (T1.out.drew.step hF.below)
          clear hF hg2 hg0 T1
          generalize blkOf (x 15) = g2 at *
          rw [hg1, e17]
          clear hg1 e17
          generalize x 0 = z36
          generalize x 1 = z37
          generalize x 2 = z38
          generalize x 3 = z39
          generalize x 4 = z40
          generalize x 5 = z41
          generalize x 6 = z42
          generalize x 7 = z43
          generalize x 8 = z44
          generalize x 9 = z45
          generalize x 10 = z46
          generalize x 11 = z47
          generalize x 12 = z35
          generalize x 13 = z48
          generalize x 14 = z49
          generalize x 15 = z7
          generalize x 17 = z8
          have r5 : Row W' g1 (stepF F q.1 q.2) := T2.out.at 1 rfl
          have hgd := guard_map
          have heq := fun V => run_equal_map (stepF F q.1 q.2) (stepF F q.1 q.2) V
          rw [eqF_refl] at heq
          cases hmB : mayB F q.1 q.2
          · have HN2 := Lib.hid (show G = F by rw [HN.out, hmB]; rfl)
            have HE := Lib.hid (err_no hmB)
            rw [HE.out]
            clear hmB HN
            go_wp2_with (first | (with_reducible refine wpList_load_map rfl _ rfl rfl r5 ?_) | (with_reducible refine wpList_load_map rfl _ rfl rfl hg3 ?_))
            have T3 := Lib.hid (show Held w [(w1.heap.size, rowO G)] W' from by rw [HN2.out]; exact ⟨T2.out.below, fun x hx => T2.out.all x (by simp at hx; simp [hx])⟩)
            clear T2 r5 hg3 hgd heq HN2 HE
            refine wp_region_factsT 11 1 (Held w [(w1.heap.size, rowO G)]) [Fact.is (.agg (mapC G)), Fact.is (.bool true), Fact.is (.bool false), Fact.is (.bool false), Fact.is (.agg (mapC G)), Fact.is (.slice (some ⟨b, off, none⟩) l.length cap), Fact.is (.int .i64 (k : Int)), Fact.is (.int .i64 ((k : Int) + 1)), Fact.is (.slice (some ⟨b, off, none⟩) (k + 1) cap), Fact.is (.agg (mapC G)), Fact.is (.bool false)] []
              (fun x => { tmps := #[.slice (some ⟨b, off, none⟩) l.length cap, undef, u2, .pointer (some ⟨w1.heap.size, 0, none⟩), .int .i64 (k : Int), .pointer (some ⟨g1, 0, none⟩), .int .i64 8, .pointer (some ⟨g2, 0, none⟩), .bool false, .slice (some ⟨b, off, none⟩) l.length cap, .int .i64 (l.length : Int), .bool false, undef, .agg (mapC idF), .int .i64 (k : Int), .slice (some ⟨b, off, none⟩) l.length cap, .int .i64 (l.length : Int), .bool true, u18, u19, y20, y21, y22, y23, y24, y25, y26, y27, y28, y29, y30, y31, y32, y33, y34, z35, z36, z37, z38, z39, z40, z41, z42, z43, z44, z45, z46, z47, z48, z49, .agg (mapC (stepF F q.1 q.2)), .agg (mapC (stepF F q.1 q.2)), .bool false, .bool false, .int .i64 8, .bool false, .bool false, .bool false, .bool false, .bool false, .bool false, .bool true, .bool true, .int .i64 8, .bool false, .bool false, .bool false, .bool false, u68, x 0, x 1, x 2, x 3, x 4, x 5, x 6, x 7, x 8, x 9, x 10, u80, undef], defers := [] }) (fun i => ([u69, u70, u71, u72, u73, u74, u75, u76, u77, u78, u79] : List Value).getD i undef) (by kernel_rfl) rfl rfl (by kernel_rfl) (by kernel_rfl) (T3.out.drew) (fun u v hu hB => hu.step hB) ?_ ?_
            · simp only [List.take_succ_cons, List.take_zero]
              refine ⟨⟨fun x v => rfl, fun x V hC hD => ?_⟩, ?_⟩
              · clear hD
                refine want_yes rfl ?_
                have k0 : Row V (w1.heap.size) G := hC.at 0 rfl
                exact leads_value (exec_load_map rfl rfl k0) ⟨Below.refl _ _, rfl, fun h => absurd h (by simp)⟩
              refine ⟨⟨fun x v => rfl, fun x V hC hD => ?_⟩, ?_⟩
              · have e0 : x 0 = .agg (mapC G) := hD.1 rfl
                clear hD
                refine want_yes rfl ?_
                exact leads_enter (by go_simp) (HFine.out V) fun w'' hB => ⟨hB, rfl, fun h => absurd h (by simp)⟩
              refine ⟨⟨fun x v => rfl, fun x V hC hD => ?_⟩, ?_⟩
              · have e1 : x 1 = .bool true := hD.1 rfl
                clear hD
                refine want_yes rfl ?_
                exact leads_value (v := .bool false) (by go_simp) ⟨Below.refl _ _, rfl, fun h => absurd h (by simp)⟩
              refine ⟨⟨fun x v => rfl, fun x V hC hD => ?_⟩, ?_⟩
              · have e2 : x 2 = .bool false := hD.1 rfl
                have e1 : x 1 = .bool true := hD.2.1 rfl
                clear hD
                refine want_yes rfl ?_
                exact leads_value (v := .bool false) (by go_simp) ⟨Below.refl _ _, rfl, fun h => absurd h (by simp)⟩
              refine ⟨⟨fun x v => rfl, fun x V hC hD => ?_⟩, ?_⟩
              · have e3 : x 3 = .bool false := hD.1 rfl
                clear hD
                refine want_yes (by simp [Region.wanted, yielded, e3]) ?_
                have k0 : Row V (w1.heap.size) G := hC.at 0 rfl
                exact leads_value (exec_load_map rfl rfl k0) ⟨Below.refl _ _, rfl, fun h => absurd h (by simp)⟩
              refine ⟨⟨fun x v => rfl, fun x V hC hD => ?_⟩, ?_⟩
              · have e3 : x 3 = .bool false := hD.1 rfl
                clear hD
                refine want_yes (by simp [Region.wanted, yielded, e3]) ?_
                exact leads_value (v := .slice (some ⟨b, off, none⟩) l.length cap) (by go_simp) ⟨Below.refl _ _, rfl, fun h => absurd h (by simp)⟩
              refine ⟨⟨fun x v => rfl, fun x V hC hD => ?_⟩, ?_⟩
              · have e3 : x 3 = .bool false := hD.1 rfl
                clear hD
                refine want_yes (by simp [Region.wanted, yielded, e3]) ?_
                exact leads_value (v := .int .i64 (k : Int)) (by go_simp) ⟨Below.refl _ _, rfl, fun h => absurd h (by simp)⟩
              refine ⟨⟨fun x v => rfl, fun x V hC hD => ?_⟩, ?_⟩
              · have e6 : x 6 = .int .i64 (k : Int) := hD.1 rfl
                have e3 : x 3 = .bool false := hD.2.1 rfl
                clear hD
                refine want_yes (by simp [Region.wanted, yielded, e3]) ?_
                have hkw : IntKind.i64.wrap ((k : Int) + 1) = (k : Int) + 1 := by simp [IntKind.wrap, IntKind.bits, IntKind.signed]; omega
                exact leads_value (v := .int .i64 ((k : Int) + 1)) (by go_simp) ⟨Below.refl _ _, rfl, fun h => absurd h (by simp)⟩
              refine ⟨⟨fun x v => rfl, fun x V hC hD => ?_⟩, ?_⟩
              · have e5 : x 5 = .slice (some ⟨b, off, none⟩) l.length cap := hD.1 rfl
                have e7 : x 7 = .int .i64 ((k : Int) + 1) := hD.2.1 rfl
                have e3 : x 3 = .bool false := hD.2.2.1 rfl
                clear hD
                refine want_yes (by simp [Region.wanted, yielded, e3]) ?_
                have hk1 : ((k : Int) + 1).toNat = k + 1 := by omega
                have hk2 : ¬ ((cap : Int) < (k : Int) + 1) := by omega
                have hk3 : (0 : Int) ≤ (k : Int) + 1 := by omega
                exact leads_value (v := .slice (some ⟨b, off, none⟩) (k + 1) cap) (by go_simp) ⟨Below.refl _ _, rfl, fun h => absurd h (by simp)⟩
              refine ⟨⟨fun x v => rfl, fun x V hC hD => ?_⟩, ?_⟩
              · have e8 : x 8 = .slice (some ⟨b, off, none⟩) (k + 1) cap := hD.1 rfl
                have e3 : x 3 = .bool false := hD.2.1 rfl
                clear hD
                refine want_yes (by simp [Region.wanted, yielded, e3]) ?_
                exact leads_enter (by go_simp) (HMd.out V hC.below) fun w'' hB => ⟨hB, rfl, fun h => absurd h (by simp)⟩
              refine ⟨⟨fun x v => rfl, fun x V hC hD => ?_⟩, ?_⟩
              · have e4 : x 4 = .agg (mapC G) := hD.1 rfl
                have e9 : x 9 = .agg (mapC G) := hD.2.1 rfl
                have e3 : x 3 = .bool false := hD.2.2.1 rfl
                clear hD
                refine want_yes (by simp [Region.wanted, yielded, e3]) ?_
                exact leads_value (exec_neq_map rfl e4 e9) ⟨Below.refl _ _, by rw [eqF_refl]; rfl, fun h => absurd h (by simp)⟩
              trivial
            · intro x W3 hF
              simp only [List.drop_succ_cons, List.drop_zero]
              have e10 : x 10 = .bool false := hF.fact 10 (by decide) rfl
              have e3 : x 3 = .bool false := hF.fact 3 (by decide) rfl
              have HT := Lib.hid hF.c
              clear hF
              rw [e3, e10]
              clear e3 e10
              go_wp2_with fail
              go_roundw
              case rel => exact ⟨k + 1, by omega, by go_num, by rw [HGdef.out]; exact HT.out⟩
              case measure => simp [intOf]; omega
          · have HN2 := Lib.hid (show G = (stepF F q.1 q.2) by rw [HN.out, hmB, step_yes hmB]; rfl)
            have HE := Lib.hid (err_yes hmB)
            rw [HE.out]
            have r3 : Row W' w1.heap.size F := T2.out.at 0 rfl
            clear hmB HN
            go_wp2_with (first | (with_reducible refine wpList_load_map rfl _ rfl rfl r5 ?_) | (with_reducible refine wpList_load_map rfl _ rfl rfl hg3 ?_) | (with_reducible refine wpList_store_map rfl rfl _ _ rfl rfl rfl r3 ?_; intro W2 hw2))
            have T3 := Lib.hid ((Held.of (T2.out.below.trans (hw2.below _ hs1))).add (show W2.heap[w1.heap.size]? = some (rowO G) from by rw [HN2.out]; exact hw2.row))
            clear T2 r5 hg3 hgd heq HN2 HE r3 hw2
            refine wp_region_factsT 11 1 (Held w [(w1.heap.size, rowO G)]) [Fact.is (.agg (mapC G)), Fact.is (.bool true), Fact.is (.bool false), Fact.is (.bool false), Fact.is (.agg (mapC G)), Fact.is (.slice (some ⟨b, off, none⟩) l.length cap), Fact.is (.int .i64 (k : Int)), Fact.is (.int .i64 ((k : Int) + 1)), Fact.is (.slice (some ⟨b, off, none⟩) (k + 1) cap), Fact.is (.agg (mapC G)), Fact.is (.bool false)] []
              (fun x => { tmps := #[.slice (some ⟨b, off, none⟩) l.length cap, undef, u2, .pointer (some ⟨w1.heap.size, 0, none⟩), .int .i64 (k : Int), .pointer (some ⟨g1, 0, none⟩), .int .i64 0, .pointer (some ⟨g2, 0, none⟩), .bool true, .slice (some ⟨b, off, none⟩) l.length cap, .int .i64 (l.length : Int), .bool false, undef, .agg (mapC idF), .int .i64 (k : Int), .slice (some ⟨b, off, none⟩) l.length cap, .int .i64 (l.length : Int), .bool true, u18, u19, y20, y21, y22, y23, y24, y25, y26, y27, y28, y29, y30, y31, y32, y33, y34, z35, z36, z37, z38, z39, z40, z41, z42, z43, z44, z45, z46, z47, z48, z49, .agg (mapC (stepF F q.1 q.2)), .agg (mapC (stepF F q.1 q.2)), .bool false, .bool false, .int .i64 0, .bool true, .bool true, .bool false, .bool false, .bool false, .bool true, .bool false, .bool false, undef, undef, .bool false, .bool false, .bool true, .agg (mapC (stepF F q.1 q.2)), x 0, x 1, x 2, x 3, x 4, x 5, x 6, x 7, x 8, x 9, x 10, u80, undef], defers := [] }) (fun i => ([u69, u70, u71, u72, u73, u74, u75, u76, u77, u78, u79] : List Value).getD i undef) (by kernel_rfl) rfl rfl (by kernel_rfl) (by kernel_rfl) (T3.out.drew) (fun u v hu hB => hu.step hB) ?_ ?_
            · simp only [List.take_succ_cons, List.take_zero]
              refine ⟨⟨fun x v => rfl, fun x V hC hD => ?_⟩, ?_⟩
              · clear hD
                refine want_yes rfl ?_
                have k0 : Row V (w1.heap.size) G := hC.at 0 rfl
                exact leads_value (exec_load_map rfl rfl k0) ⟨Below.refl _ _, rfl, fun h => absurd h (by simp)⟩
              refine ⟨⟨fun x v => rfl, fun x V hC hD => ?_⟩, ?_⟩
              · have e0 : x 0 = .agg (mapC G) := hD.1 rfl
                clear hD
                refine want_yes rfl ?_
                exact leads_enter (by go_simp) (HFine.out V) fun w'' hB => ⟨hB, rfl, fun h => absurd h (by simp)⟩
              refine ⟨⟨fun x v => rfl, fun x V hC hD => ?_⟩, ?_⟩
              · have e1 : x 1 = .bool true := hD.1 rfl
                clear hD
                refine want_yes rfl ?_
                exact leads_value (v := .bool false) (by go_simp) ⟨Below.refl _ _, rfl, fun h => absurd h (by simp)⟩
              refine ⟨⟨fun x v => rfl, fun x V hC hD => ?_⟩, ?_⟩
              · have e2 : x 2 = .bool false := hD.1 rfl
                have e1 : x 1 = .bool true := hD.2.1 rfl
                clear hD
                refine want_yes rfl ?_
                exact leads_value (v := .bool false) (by go_simp) ⟨Below.refl _ _, rfl, fun h => absurd h (by simp)⟩
              refine ⟨⟨fun x v => rfl, fun x V hC hD => ?_⟩, ?_⟩
              · have e3 : x 3 = .bool false := hD.1 rfl
                clear hD
                refine want_yes (by simp [Region.wanted, yielded, e3]) ?_
                have k0 : Row V (w1.heap.size) G := hC.at 0 rfl
                exact leads_value (exec_load_map rfl rfl k0) ⟨Below.refl _ _, rfl, fun h => absurd h (by simp)⟩
              refine ⟨⟨fun x v => rfl, fun x V hC hD => ?_⟩, ?_⟩
              · have e3 : x 3 = .bool false := hD.1 rfl
                clear hD
                refine want_yes (by simp [Region.wanted, yielded, e3]) ?_
                exact leads_value (v := .slice (some ⟨b, off, none⟩) l.length cap) (by go_simp) ⟨Below.refl _ _, rfl, fun h => absurd h (by simp)⟩
              refine ⟨⟨fun x v => rfl, fun x V hC hD => ?_⟩, ?_⟩
              · have e3 : x 3 = .bool false := hD.1 rfl
                clear hD
                refine want_yes (by simp [Region.wanted, yielded, e3]) ?_
                exact leads_value (v := .int .i64 (k : Int)) (by go_simp) ⟨Below.refl _ _, rfl, fun h => absurd h (by simp)⟩
              refine ⟨⟨fun x v => rfl, fun x V hC hD => ?_⟩, ?_⟩
              · have e6 : x 6 = .int .i64 (k : Int) := hD.1 rfl
                have e3 : x 3 = .bool false := hD.2.1 rfl
                clear hD
                refine want_yes (by simp [Region.wanted, yielded, e3]) ?_
                have hkw : IntKind.i64.wrap ((k : Int) + 1) = (k : Int) + 1 := by simp [IntKind.wrap, IntKind.bits, IntKind.signed]; omega
                exact leads_value (v := .int .i64 ((k : Int) + 1)) (by go_simp) ⟨Below.refl _ _, rfl, fun h => absurd h (by simp)⟩
              refine ⟨⟨fun x v => rfl, fun x V hC hD => ?_⟩, ?_⟩
              · have e5 : x 5 = .slice (some ⟨b, off, none⟩) l.length cap := hD.1 rfl
                have e7 : x 7 = .int .i64 ((k : Int) + 1) := hD.2.1 rfl
                have e3 : x 3 = .bool false := hD.2.2.1 rfl
                clear hD
                refine want_yes (by simp [Region.wanted, yielded, e3]) ?_
                have hk1 : ((k : Int) + 1).toNat = k + 1 := by omega
                have hk2 : ¬ ((cap : Int) < (k : Int) + 1) := by omega
                have hk3 : (0 : Int) ≤ (k : Int) + 1 := by omega
                exact leads_value (v := .slice (some ⟨b, off, none⟩) (k + 1) cap) (by go_simp) ⟨Below.refl _ _, rfl, fun h => absurd h (by simp)⟩
              refine ⟨⟨fun x v => rfl, fun x V hC hD => ?_⟩, ?_⟩
              · have e8 : x 8 = .slice (some ⟨b, off, none⟩) (k + 1) cap := hD.1 rfl
                have e3 : x 3 = .bool false := hD.2.1 rfl
                clear hD
                refine want_yes (by simp [Region.wanted, yielded, e3]) ?_
                exact leads_enter (by go_simp) (HMd.out V hC.below) fun w'' hB => ⟨hB, rfl, fun h => absurd h (by simp)⟩
              refine ⟨⟨fun x v => rfl, fun x V hC hD => ?_⟩, ?_⟩
              · have e4 : x 4 = .agg (mapC G) := hD.1 rfl
                have e9 : x 9 = .agg (mapC G) := hD.2.1 rfl
                have e3 : x 3 = .bool false := hD.2.2.1 rfl
                clear hD
                refine want_yes (by simp [Region.wanted, yielded, e3]) ?_
                exact leads_value (exec_neq_map rfl e4 e9) ⟨Below.refl _ _, by rw [eqF_refl]; rfl, fun h => absurd h (by simp)⟩
              trivial
            · intro x W3 hF
              simp only [List.drop_succ_cons, List.drop_zero]
              have e10 : x 10 = .bool false := hF.fact 10 (by decide) rfl
              have e3 : x 3 = .bool false := hF.fact 3 (by decide) rfl
              have HT := Lib.hid hF.c
              clear hF
              rw [e3, e10]
              clear e3 e10
              go_wp2_with fail
              go_roundw
              case rel => exact ⟨k + 1, by omega, by go_num, by rw [HGdef.out]; exact HT.out⟩
              case measure => simp [intOf]; omega
    · have hB := Lib.hid hH.below
      clear hH
      go_wp2_with fail
      refine (HA.out _ hB.out).mono ?_
      rintro e w3 ⟨rfl, hB3⟩
      have hBB := Lib.hid (hB.out.trans (hB3.mono hB.out.size))
      clear hB3
      go_wp2_with fail
      go_ret
      exact ⟨rfl, hBB.out⟩

end Go.Proofs.YtecbaleabnepaaaDoor

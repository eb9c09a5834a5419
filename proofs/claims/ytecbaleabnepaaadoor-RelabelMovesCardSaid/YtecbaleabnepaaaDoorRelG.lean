/-
  The reference's Made: what some moves make of a map.
-/
import Derived.Test.YtecbaleabnepaaaDoorRelF
import Derived.Test.YtecbaleabnepaaaDoorInvM
namespace Go.Proofs.YtecbaleabnepaaaDoor
open Go.RowKit

/-- In the world w the slice v holds just these pairs. -/
def PairsAt (w : World) (v : Value) (l : List (Int × Int)) : Prop :=
  ∃ p cap, v = .slice p l.length cap ∧ l.length ≤ 70368744177664 ∧ l.length ≤ cap ∧ (l ≠ [] → ∃ b off, p = some ⟨b, off, none⟩ ∧ b < w.heap.size ∧ ∀ i, (h : i < l.length) → w.cell? ⟨b, off + i * 2, none⟩ = some (.int .i64 l[i].1) ∧ w.cell? ⟨b, off + i * 2 + 1, none⟩ = some (.int .i64 l[i].2))
theorem PairsAt.below {B : Nat} {w w' : World} {v : Value} {l : List (Int × Int)} (h : PairsAt w v l) (hB : Below B w w') (hb : w.heap.size ≤ B) : PairsAt w' v l := by
  obtain ⟨p, cap, h1, h2, h2', h3⟩ := h
  refine ⟨p, cap, h1, h2, h2', fun hne => ?_⟩
  obtain ⟨b, off, h4, h5, h6⟩ := h3 hne
  exact ⟨b, off, h4, Nat.lt_of_lt_of_le h5 hB.size, fun i hi => ⟨(hB.cell (p := ⟨b, off + i * 2, none⟩) (Nat.lt_of_lt_of_le h5 hb)).trans (h6 i hi).1, (hB.cell (p := ⟨b, off + i * 2 + 1, none⟩) (Nat.lt_of_lt_of_le h5 hb)).trans (h6 i hi).2⟩⟩
def newR (B : Nat) : Fact := ⟨fun v w => ∃ g, B ≤ g ∧ v = .pointer (some ⟨g, 0, none⟩) ∧ Row w g (fun _ => 0), fun _ _ _ ⟨g, h0, h1, h2⟩ hB => ⟨g, h0, h1, h2.below hB h2.lt⟩⟩

/-- What a call of Move hands back as a map. -/
def stepF (f : Nat → Nat) (a b : Int) : Nat → Nat := if mayB f a b then moveF f a.toNat b.toNat else fun _ => 0
def errN (f : Nat → Nat) (a b : Int) : Int := if mayB f a b then 0 else 8
theorem step_yes {f : Nat → Nat} {a b : Int} (h : mayB f a b = true) : stepF f a b = moveF f a.toNat b.toNat := by unfold stepF; rw [if_pos h]
theorem step_no {f : Nat → Nat} {a b : Int} (h : mayB f a b = false) : stepF f a b = fun _ => 0 := by unfold stepF; rw [if_neg (by rw [h]; decide)]
theorem err_yes {f : Nat → Nat} {a b : Int} (h : mayB f a b = true) : errN f a b = 0 := by unfold errN; rw [if_pos h]
theorem err_no {f : Nat → Nat} {a b : Int} (h : mayB f a b = false) : errN f a b = 8 := by unfold errN; rw [if_neg (by rw [h]; decide)]
theorem rrMove_any (f : Nat → Nat) (a b : Int) (hf : fineB f = true) (w : World) :
    Calls Tryd.prog 21 #[.agg (mapC f), .int .i64 a, .int .i64 b] w fun e w' => e = .returned (.tuple #[.agg (mapC (stepF f a b)), .bool (mayB f a b)]) ∧ Below w.heap.size w w' := by
  cases h : mayB f a b
  · rw [step_no h]; exact rrMove_no f a b (fine_ok hf) h w
  · rw [step_yes h]
    obtain ⟨h1, -, h3, -⟩ := mayB_iff.1 h
    obtain ⟨x, rfl⟩ := Int.eq_ofNat_of_zero_le h1
    obtain ⟨y, rfl⟩ := Int.eq_ofNat_of_zero_le h3
    exact rrMove_yes f x y (fine_ok hf) h w
theorem rlMove_any (f : Nat → Nat) (a b : Int) (hf : fineB f = true) (w : World) :
    Calls Tryd.prog 20 #[.agg (mapC f), .int .i64 a, .int .i64 b] w fun e w' => e = .returned (.tuple #[.agg (mapC (stepF f a b)), .int .i64 (errN f a b)]) ∧ Below w.heap.size w w' := by
  cases h : mayB f a b
  · rw [step_no h, err_no h]; exact rlMove_no f a b (fine_ok hf) h w
  · rw [step_yes h, err_yes h]
    obtain ⟨h1, -, h3, -⟩ := mayB_iff.1 h
    obtain ⟨x, rfl⟩ := Int.eq_ofNat_of_zero_le h1
    obtain ⟨y, rfl⟩ := Int.eq_ofNat_of_zero_le h3
    exact rlMove_yes f x y hf h w
theorem take_snocP {α : Type} (l : List α) (k : Nat) (h : k < l.length) : l.take (k + 1) = l.take k ++ [l[k]] := List.take_succ_eq_append_getElem h
theorem made_next {l : List (Int × Int)} {k : Nat} (h : k < l.length) (f : Nat → Nat) : madeF f (l.take (k + 1)) = if mayB (madeF f (l.take k)) l[k].1 l[k].2 then moveF (madeF f (l.take k)) l[k].1.toNat l[k].2.toNat else madeF f (l.take k) := by
  rw [take_snocP l k h, madeF_snoc]

set_option maxRecDepth 100000 in
set_option maxHeartbeats 8000000 in
theorem rrMade_any (v : Value) (l : List (Int × Int)) (hl : l.length ≤ 41) (w : World) (h : PairsAt w v l) :
    Calls Tryd.prog 9 #[v] w fun e w' => e = .returned (.agg (mapC (madeF idF l))) ∧ Below w.heap.size w w' := by
  obtain ⟨p, cap, rfl, hm, hcap, hc⟩ := h
  have HC := Lib.hid hc
  clear hc
  have HR0 := Lib.hid ((Held.nil w).alloc (.cells (mapC fun _ => 0) 23))
  go_enter Tryd.func9, Tryd.ntmps9
  go_wp2_with fail
  refine (rrSame_any _).mono ?_
  rintro e w1 ⟨rfl, hB1⟩
  have HR1 := Lib.hid ((HR0.out.step hB1).alloc (.cells (mapC fun _ => 0) 23))
  have hs1 : w.heap.size < w1.heap.size := by have := hB1.size; simp at this; omega
  have r1 := Row.zero w1
  clear HR0 hB1
  go_wp2_with (with_reducible refine wpList_store_map rfl rfl _ _ rfl rfl rfl r1 ?_; intro w2 hw2)
  have HR2 := Lib.hid ((show Held w [(w.heap.size, rowO fun _ => 0)] _ from ⟨HR1.out.below, fun x hx => HR1.out.all x (by simp at hx; simp [hx, rowO])⟩).wrote hw2 (by omega) (by intro x hx; simp at hx; rw [hx]; show w.heap.size ≠ w1.heap.size; omega) |>.add (show w2.heap[w1.heap.size]? = some (rowO idF) from hw2.row))
  clear r1 HR1 hw2
  go_loopw [4] (fun i wr => ∃ k : Nat, k ≤ l.length ∧ i = .int .i64 k ∧ Held w [(w1.heap.size, rowO (madeF idF (l.take k))), (w.heap.size, rowO fun _ => 0)] wr) (fun i _ => l.length - (intOf i).toNat)
  case atStart => exact ⟨0, by omega, rfl, HR2.out⟩
  case round =>
    obtain ⟨k, hk, rfl, hH⟩ := hrel
    have hFf := madeF_fine (l := l.take k) fine_id
    by_cases hlt : k < l.length
    · obtain ⟨b, off, rfl, hb, hcs⟩ := HC.out (by intro e; rw [e] at hlt; simp at hlt)
      obtain ⟨e0, e1⟩ := hcs k hlt
      clear hcs
      have HN := Lib.hid (made_next hlt idF)
      generalize madeF idF (l.take k) = F at *
      generalize l[k] = q at *
      have HC0 := Lib.hid (fun V (hV : Below w.heap.size w V) => (hV.cell (p := ⟨b, off + k * 2, none⟩) hb).trans e0)
      have HC1 := Lib.hid (fun V (hV : Below w.heap.size w V) => (hV.cell (p := ⟨b, off + k * 2 + 1, none⟩) hb).trans e1)
      have HM := Lib.hid (fun V => rrMove_any F q.1 q.2 hFf V)
      have T0 := Lib.hid hH
      have hk41 : k < 41 := by omega
      clear e0 e1 hH hFf
      go_wp2_with fail
      refine wp_region_M [.val (.agg (mapC F)), .val (.slice (some ⟨b, off, none⟩) l.length cap), .val (.int .i64 (k : Int)), .val (.pointer (some ⟨b, off + k * 2, none⟩)), .val (.pointer (some ⟨b, off + k * 2, none⟩)), .val (.int .i64 q.1), .val (.slice (some ⟨b, off, none⟩) l.length cap), .val (.int .i64 (k : Int)), .val (.pointer (some ⟨b, off + k * 2, none⟩)), .val (.pointer (some ⟨b, off + k * 2 + 1, none⟩)), .val (.int .i64 q.2), .val (.tuple #[.agg (mapC (stepF F q.1 q.2)), .bool (mayB F q.1 q.2)]), .val (.tuple #[.agg (mapC (stepF F q.1 q.2)), .bool (mayB F q.1 q.2)]), .val (.agg (mapC (stepF F q.1 q.2))), .val (.bool (mayB F q.1 q.2)), .mk (rowO fun _ => 0) 16 (rowO (stepF F q.1 q.2)), .st 15, .val (.bool (mayB F q.1 q.2))]
        (fun x => { tmps := #[.slice (some ⟨b, off, none⟩) l.length cap, undef, .pointer (some ⟨w.heap.size, 0, none⟩), .pointer (some ⟨w1.heap.size, 0, none⟩), .int .i64 (k : Int), x 15, x 17, .agg (mapC idF), .int .i64 (k : Int), .slice (some ⟨b, off, none⟩) l.length cap, .int .i64 (l.length : Int), .bool true, u12, u13, x 12, x 0, x 1, x 2, x 3, x 4, x 5, x 6, x 7, x 8, x 9, x 10, x 11, x 13, x 14, u29, u30, undef], defers := [] }) (fun i => ([u15, u16, u17, u18, u19, u20, u21, u22, u23, u24, u25, u26, u14, u27, u28, u5, undef, u6] : List Value).getD i undef) (by kernel_rfl) rfl rfl rfl (by kernel_rfl) ?_ ?_
      · refine ⟨ObM.of_val rfl (fun x v => rfl) (fun x V hC hD => ?_), ?_⟩
        · clear hD
          have hH := T0.out.drew.step hC
          refine want_yes rfl ?_
          have k0 : Row V (w1.heap.size) F := hH.at 0 rfl
          exact leads_value (exec_load_map rfl rfl k0) ⟨rfl, Below.refl _ _⟩
        refine ⟨ObM.of_val rfl (fun x v => rfl) (fun x V hC hD => ?_), ?_⟩
        · clear hD
          have hH := T0.out.drew.step hC
          refine want_yes rfl ?_
          exact leads_value (v := .slice (some ⟨b, off, none⟩) l.length cap) (by go_simp) ⟨rfl, Below.refl _ _⟩
        refine ⟨ObM.of_val rfl (fun x v => rfl) (fun x V hC hD => ?_), ?_⟩
        · clear hD
          have hH := T0.out.drew.step hC
          refine want_yes rfl ?_
          exact leads_value (v := .int .i64 (k : Int)) (by go_simp) ⟨rfl, Below.refl _ _⟩
        refine ⟨ObM.of_val rfl (fun x v => rfl) (fun x V hC hD => ?_), ?_⟩
        · have e1 : x 1 = .slice (some ⟨b, off, none⟩) l.length cap := hD.1 _ rfl rfl
          have e2 : x 2 = .int .i64 (k : Int) := hD.2.1 _ rfl rfl
          clear hD
          have hH := T0.out.drew.step hC
          refine want_yes rfl ?_
          exact leads_value (v := .pointer (some ⟨b, off + k * 2, none⟩)) (by go_simp) ⟨rfl, Below.refl _ _⟩
        refine ⟨ObM.of_val rfl (fun x v => rfl) (fun x V hC hD => ?_), ?_⟩
        · have e3 : x 3 = .pointer (some ⟨b, off + k * 2, none⟩) := hD.1 _ rfl rfl
          clear hD
          have hH := T0.out.drew.step hC
          refine want_yes rfl ?_
          exact leads_value (v := .pointer (some ⟨b, off + k * 2, none⟩)) (by go_simp) ⟨rfl, Below.refl _ _⟩
        refine ⟨ObM.of_val rfl (fun x v => rfl) (fun x V hC hD => ?_), ?_⟩
        · have e4 : x 4 = .pointer (some ⟨b, off + k * 2, none⟩) := hD.1 _ rfl rfl
          clear hD
          have hH := T0.out.drew.step hC
          refine want_yes rfl ?_
          have k0 := HC0.out V hH.below
          exact leads_value (v := .int .i64 q.1) (by go_simp) ⟨rfl, Below.refl _ _⟩
        refine ⟨ObM.of_val rfl (fun x v => rfl) (fun x V hC hD => ?_), ?_⟩
        · clear hD
          have hH := T0.out.drew.step hC
          refine want_yes rfl ?_
          exact leads_value (v := .slice (some ⟨b, off, none⟩) l.length cap) (by go_simp) ⟨rfl, Below.refl _ _⟩
        refine ⟨ObM.of_val rfl (fun x v => rfl) (fun x V hC hD => ?_), ?_⟩
        · clear hD
          have hH := T0.out.drew.step hC
          refine want_yes rfl ?_
          exact leads_value (v := .int .i64 (k : Int)) (by go_simp) ⟨rfl, Below.refl _ _⟩
        refine ⟨ObM.of_val rfl (fun x v => rfl) (fun x V hC hD => ?_), ?_⟩
        · have e6 : x 6 = .slice (some ⟨b, off, none⟩) l.length cap := hD.1 _ rfl rfl
          have e7 : x 7 = .int .i64 (k : Int) := hD.2.1 _ rfl rfl
          clear hD
          have hH := T0.out.drew.step hC
          refine want_yes rfl ?_
          exact leads_value (v := .pointer (some ⟨b, off + k * 2, none⟩)) (by go_simp) ⟨rfl, Below.refl _ _⟩
        refine ⟨ObM.of_val rfl (fun x v => rfl) (fun x V hC hD => ?_), ?_⟩
        · have e8 : x 8 = .pointer (some ⟨b, off + k * 2, none⟩) := hD.1 _ rfl rfl
          clear hD
          have hH := T0.out.drew.step hC
          refine want_yes rfl ?_
          exact leads_value (v := .pointer (some ⟨b, off + k * 2 + 1, none⟩)) (by go_simp) ⟨rfl, Below.refl _ _⟩
        refine ⟨ObM.of_val rfl (fun x v => rfl) (fun x V hC hD => ?_), ?_⟩
        · have e9 : x 9 = .pointer (some ⟨b, off + k * 2 + 1, none⟩) := hD.1 _ rfl rfl
          clear hD
          have hH := T0.out.drew.step hC
          refine want_yes rfl ?_
          have k0 := HC1.out V hH.below
          exact leads_value (v := .int .i64 q.2) (by go_simp) ⟨rfl, Below.refl _ _⟩
        refine ⟨ObM.of_val rfl (fun x v => rfl) (fun x V hC hD => ?_), ?_⟩
        · have e0 : x 0 = .agg (mapC F) := hD.1 _ rfl rfl
          have e5 : x 5 = .int .i64 q.1 := hD.2.1 _ rfl rfl
          have e10 : x 10 = .int .i64 q.2 := hD.2.2.1 _ rfl rfl
          clear hD
          have hH := T0.out.drew.step hC
          refine want_yes rfl ?_
          exact leads_enter (by go_simp) (HM.out V) fun w'' hB => ⟨rfl, hB⟩
        refine ⟨ObM.of_val rfl (fun x v => rfl) (fun x V hC hD => ?_), ?_⟩
        · have e11 : x 11 = .tuple #[.agg (mapC (stepF F q.1 q.2)), .bool (mayB F q.1 q.2)] := hD.1 _ rfl rfl
          clear hD
          have hH := T0.out.drew.step hC
          refine want_yes rfl ?_
          exact leads_value (v := .tuple #[.agg (mapC (stepF F q.1 q.2)), .bool (mayB F q.1 q.2)]) (by go_simp) ⟨rfl, Below.refl _ _⟩
        refine ⟨ObM.of_val rfl (fun x v => rfl) (fun x V hC hD => ?_), ?_⟩
        · have e12 : x 12 = .tuple #[.agg (mapC (stepF F q.1 q.2)), .bool (mayB F q.1 q.2)] := hD.1 _ rfl rfl
          clear hD
          have hH := T0.out.drew.step hC
          refine want_yes rfl ?_
          exact leads_value (v := .agg (mapC (stepF F q.1 q.2))) (by go_simp) ⟨rfl, Below.refl _ _⟩
        refine ⟨ObM.of_val rfl (fun x v => rfl) (fun x V hC hD => ?_), ?_⟩
        · have e12 : x 12 = .tuple #[.agg (mapC (stepF F q.1 q.2)), .bool (mayB F q.1 q.2)] := hD.1 _ rfl rfl
          clear hD
          have hH := T0.out.drew.step hC
          refine want_yes rfl ?_
          exact leads_value (v := .bool (mayB F q.1 q.2)) (by go_simp) ⟨rfl, Below.refl _ _⟩
        refine ⟨ObM.of_mk rfl (fun x v => rfl) rfl (fun x V => ?_), ?_⟩
        · exact leads_value (by go_simp) ⟨rfl, below_one _ _, by simp, Row.zero V⟩
        refine ⟨ObM.of_st rfl rfl (fun x v => rfl) rfl (by kernel_rfl) (fun x V g hC hx hg hD => ?_), ?_⟩
        · have e13 : x 13 = .agg (mapC (stepF F q.1 q.2)) := hD.2.1 _ rfl rfl
          have e11 : x 11 = .tuple #[.agg (mapC (stepF F q.1 q.2)), .bool (mayB F q.1 q.2)] := hD.2.2.1 _ rfl rfl
          have e0 : x 0 = .agg (mapC F) := hD.2.2.2.1 _ rfl rfl
          have e1 : x 1 = .slice (some ⟨b, off, none⟩) l.length cap := hD.2.2.2.2.1 _ rfl rfl
          have e2 : x 2 = .int .i64 (k : Int) := hD.2.2.2.2.2.1 _ rfl rfl
          have e3 : x 3 = .pointer (some ⟨b, off + k * 2, none⟩) := hD.2.2.2.2.2.2.1 _ rfl rfl
          have e4 : x 4 = .pointer (some ⟨b, off + k * 2, none⟩) := hD.2.2.2.2.2.2.2.1 _ rfl rfl
          have e5 : x 5 = .int .i64 q.1 := hD.2.2.2.2.2.2.2.2.1 _ rfl rfl
          have e6 : x 6 = .slice (some ⟨b, off, none⟩) l.length cap := hD.2.2.2.2.2.2.2.2.2.1 _ rfl rfl
          have e7 : x 7 = .int .i64 (k : Int) := hD.2.2.2.2.2.2.2.2.2.2.1 _ rfl rfl
          have e8 : x 8 = .pointer (some ⟨b, off + k * 2, none⟩) := hD.2.2.2.2.2.2.2.2.2.2.2.1 _ rfl rfl
          have e9 : x 9 = .pointer (some ⟨b, off + k * 2 + 1, none⟩) := hD.2.2.2.2.2.2.2.2.2.2.2.2.1 _ rfl rfl
          have e10 : x 10 = .int .i64 q.2 := hD.2.2.2.2.2.2.2.2.2.2.2.2.2.1 _ rfl rfl
          have e12 : x 12 = .tuple #[.agg (mapC (stepF F q.1 q.2)), .bool (mayB F q.1 q.2)] := hD.2.2.2.2.2.2.2.2.2.2.2.2.2.2.2.1 _ rfl rfl
          clear hD
          have hH := T0.out.drew.step hC
          exact leads_store_row rfl hx e13 hg (infoMapC _) (by rw [mapC_size, mapC_size]) (mapC_one _)
        refine ⟨ObM.of_val rfl (fun x v => rfl) (fun x V hC hD => ?_), ?_⟩
        · have e14 : x 14 = .bool (mayB F q.1 q.2) := hD.1 _ rfl rfl
          have e0 : x 0 = .agg (mapC F) := hD.2.2.1 _ rfl rfl
          have e1 : x 1 = .slice (some ⟨b, off, none⟩) l.length cap := hD.2.2.2.1 _ rfl rfl
          have e2 : x 2 = .int .i64 (k : Int) := hD.2.2.2.2.1 _ rfl rfl
          have e3 : x 3 = .pointer (some ⟨b, off + k * 2, none⟩) := hD.2.2.2.2.2.1 _ rfl rfl
          have e4 : x 4 = .pointer (some ⟨b, off + k * 2, none⟩) := hD.2.2.2.2.2.2.1 _ rfl rfl
          have e5 : x 5 = .int .i64 q.1 := hD.2.2.2.2.2.2.2.1 _ rfl rfl
          have e6 : x 6 = .slice (some ⟨b, off, none⟩) l.length cap := hD.2.2.2.2.2.2.2.2.1 _ rfl rfl
          have e7 : x 7 = .int .i64 (k : Int) := hD.2.2.2.2.2.2.2.2.2.1 _ rfl rfl
          have e8 : x 8 = .pointer (some ⟨b, off + k * 2, none⟩) := hD.2.2.2.2.2.2.2.2.2.2.1 _ rfl rfl
          have e9 : x 9 = .pointer (some ⟨b, off + k * 2 + 1, none⟩) := hD.2.2.2.2.2.2.2.2.2.2.2.1 _ rfl rfl
          have e10 : x 10 = .int .i64 q.2 := hD.2.2.2.2.2.2.2.2.2.2.2.2.1 _ rfl rfl
          have e11 : x 11 = .tuple #[.agg (mapC (stepF F q.1 q.2)), .bool (mayB F q.1 q.2)] := hD.2.2.2.2.2.2.2.2.2.2.2.2.2.1 _ rfl rfl
          have e12 : x 12 = .tuple #[.agg (mapC (stepF F q.1 q.2)), .bool (mayB F q.1 q.2)] := hD.2.2.2.2.2.2.2.2.2.2.2.2.2.2.1 _ rfl rfl
          have e13 : x 13 = .agg (mapC (stepF F q.1 q.2)) := hD.2.2.2.2.2.2.2.2.2.2.2.2.2.2.2.1 _ rfl rfl
          clear hD
          have hH := T0.out.drew.step hC
          refine want_yes rfl ?_
          exact leads_value (v := .bool (mayB F q.1 q.2)) (by go_simp) ⟨rfl, Below.refl _ _⟩
        trivial
      · intro x W hF
        obtain ⟨-, hg1, hg2⟩ := hF.made 15 _ _ _ (by simp) rfl rfl
        have e17 : x 17 = .bool (mayB F q.1 q.2) := hF.val 17 _ (by simp) rfl rfl
        have hg3 : Row W (blkOf (x 15)) (stepF F q.1 q.2) := hg2
        have HT := Lib.hid (T0.out.drew.step hF.below)
        clear hF hg2
        generalize blkOf (x 15) = g at *
        rw [hg1, e17]
        clear hg1 e17
        cases hmB : mayB F q.1 q.2
        · have HN2 := Lib.hid (show madeF idF (l.take (k + 1)) = F by rw [HN.out, hmB]; rfl)
          clear hmB hg3
          go_wp2_with fail
          go_roundw
          case rel => exact ⟨k + 1, by omega, by go_num, by rw [HN2.out]; exact HT.out⟩
          case measure => simp [intOf]; omega
        · have HN2 := Lib.hid (show madeF idF (l.take (k + 1)) = stepF F q.1 q.2 by rw [HN.out, hmB, step_yes hmB]; rfl)
          clear hmB
          have hr : Row W w1.heap.size F := HT.out.at 0 rfl
          go_wp2_with (first | (with_reducible refine wpList_load_map rfl _ rfl rfl hg3 ?_) | (with_reducible refine wpList_store_map rfl rfl _ _ rfl rfl rfl hr ?_; intro w3 hw3))
          go_roundw
          case rel => exact ⟨k + 1, by omega, by go_num, by rw [HN2.out]; exact (HT.out.drop.wrote hw3 (by omega) (by intro x hx; simp at hx; rw [hx]; show w.heap.size ≠ w1.heap.size; omega)).add hw3.row⟩
          case measure => simp [intOf]; omega
    · have HK := Lib.hid (show l.take k = l from List.take_of_length_le (by omega))
      have hr0 : Row wr w1.heap.size (madeF idF (l.take k)) := hH.at 0 rfl
      have hr1 : Row wr w.heap.size (fun _ => 0) := hH.at 1 rfl
      have HH := Lib.hid hH
      clear hH
      rw [HK.out] at hr0
      go_wp2_with (first | (with_reducible refine wpList_load_map rfl _ rfl rfl hr0 ?_) | (with_reducible refine wpList_store_map rfl rfl _ _ rfl rfl rfl hr1 ?_; intro w3 hw3))
      exact bodyPost_ret (v := .agg (mapC (madeF idF l))) (results_map rfl rfl hw3.row) rfl ⟨rfl, HH.out.below.trans (hw3.below _ (Nat.le_refl _))⟩

end Go.Proofs.YtecbaleabnepaaaDoor

/-
  The program's differences: Lines.
-/
import Derived.Test.YtmaachmidgfhdaaGreatDoorWDpK
import Derived.Test.YtmaachmidgfhdaaGreatDoorWDpC
import Derived.Test.YtmaachmidgfhdaaGreatDoorWDifS
/-! DpI -/
namespace Go.Proofs.YtmaachmidgfhdaaGreatDoor
open Go.RowKit

theorem eachT_join {k : Nat} (hk : k < 3 ∨ k = 7) (s : Nat) : (tagsN s).flatMap (fun n => [Lib.join [wdD k, dig n] [32]]) = eachT k s := by
  have h : (fun n => [Lib.join [wdD k, dig n] [32]]) = fun n => [lineT ⟨k, n, 0, 0, 0⟩] := funext fun n => by
    rw [join_two, lineT_cut, show restD ⟨k, n, 0, 0, 0⟩ = [] by unfold restD; rw [if_neg (by show ¬ k = 3; omega), if_pos (by show k < 4 ∨ k = 7; omega)], List.append_nil]
  rw [h]
  rfl
theorem rolesT_join (p q : Pol) : (tagsN q.live).flatMap (roleJ p q) = rolesT p q := by
  have h : roleJ p q = roleF p q := funext fun n => by
    unfold roleJ roleF
    rw [join_three, lineT_cut]
    rfl
  rw [h]
  rfl
theorem linkJ_is {k : Nat} (hk : k = 4 ∨ k = 5 ∨ k = 6) (p q : Pol) : linkJ (wdD k) p q = linkF k p q := funext fun n => by
  have h : (fun m => [Lib.join [wdD k, dig n, dig m] [32]]) = fun m => [lineT ⟨k, n, m, 0, 0⟩] := funext fun m => by
    rw [join_three, lineT_cut, show restD ⟨k, n, m, 0, 0⟩ = 32 :: dig m by unfold restD; rw [if_neg (by show ¬ k = 3; omega), if_neg (by show ¬ (k < 4 ∨ k = 7); omega)]]
  unfold linkJ linkF
  rw [h]
theorem linksT_join {k : Nat} (hk : k = 4 ∨ k = 5 ∨ k = 6) (p q : Pol) : (List.range 16).flatMap (linkJ (wdD k) p q) = linksT k p q := by
  unfold linksT
  rw [linkJ_is hk]
theorem ownersT_join (p q : Pol) : (tagsN (ownedN q 65535)).flatMap (ownJ p q) = ownersT p q := by
  have h : ownJ p q = dpOwnF p q := funext fun n => by
    unfold ownJ dpOwnF
    rw [join_three, lineT_cut]
    rfl
  rw [h]
  rfl
/-- What the turns' values are. -/
def partN (p q : Pol) (k : Nat) : List (List UInt8) := (partsT p q).getD k []
theorem partN_0 (p q : Pol) : partN p q 0 = eachT 0 (lessN p.active q.active) := by unfold partN partsT; simp
theorem partN_1 (p q : Pol) : partN p q 1 = eachT 1 (lessN q.active p.active) := by unfold partN partsT; simp
theorem partN_2 (p q : Pol) : partN p q 2 = eachT 2 (lessN p.live q.live) := by unfold partN partsT; simp
theorem partN_3 (p q : Pol) : partN p q 3 = rolesT p q := by unfold partN partsT; simp
theorem partN_4 (p q : Pol) : partN p q 4 = linksT 4 q p := by unfold partN partsT; simp
theorem partN_5 (p q : Pol) : partN p q 5 = linksT 5 p q := by unfold partN partsT; simp
theorem partN_6 (p q : Pol) : partN p q 6 = ownersT p q := by unfold partN partsT; simp
theorem partN_7 (p q : Pol) : partN p q 7 = eachT 7 (lessN (ownedN p 65535) (ownedN q 65535)) := by unfold partN partsT; simp [ownedT]
def LnR (p q : Pol) (N : Nat) (k : Nat) (u : Value) (V : World) : Prop :=
  if k < 7 then RowIs strC V u (partN p q k)
  else if k = 7 then u = .int .u16 ((ownedN p 65535 : Nat) : Int)
  else if k = 8 then u = .int .u16 ((ownedN q 65535 : Nat) : Int)
  else if k = 9 then RowIs strC V u (partN p q 7)
  else if k = 10 then ∃ (b : Nat) (vs : List Value), u = .slice (some ⟨b, 0, none⟩) 8 8 ∧ b < V.heap.size ∧ ∃ hvs : vs.length = 8, ∀ (i : Nat) (h : i < 8), V.cell? ⟨b, i, none⟩ = some (vs[i]'(by omega)) ∧ RowIs strC V (vs[i]'(by omega)) (partN p q i)
  else StrsRow V N u (linesL p q)
theorem lnR_7 (p q : Pol) (N : Nat) (V : World) : LnR p q N 7 (.int .u16 ((ownedN p 65535 : Nat) : Int)) V := by
  unfold LnR
  rw [if_neg (by decide), if_pos (by decide)]
theorem lnR_8 (p q : Pol) (N : Nat) (V : World) : LnR p q N 8 (.int .u16 ((ownedN q 65535 : Nat) : Int)) V := by
  unfold LnR
  rw [if_neg (by decide), if_neg (by decide), if_pos (by decide)]
theorem lnR_9 {p q : Pol} {N : Nat} {u : Value} {V : World} : LnR p q N 9 u V ↔ RowIs strC V u (partN p q 7) := by
  unfold LnR
  rw [if_neg (by decide), if_neg (by decide), if_neg (by decide), if_pos (by decide)]
theorem lnR_10 {p q : Pol} {N : Nat} {u : Value} {V : World} : LnR p q N 10 u V ↔ ∃ (b : Nat) (vs : List Value), u = .slice (some ⟨b, 0, none⟩) 8 8 ∧ b < V.heap.size ∧ ∃ hvs : vs.length = 8, ∀ (i : Nat) (h : i < 8), V.cell? ⟨b, i, none⟩ = some (vs[i]'(by omega)) ∧ RowIs strC V (vs[i]'(by omega)) (partN p q i) := by
  unfold LnR
  rw [if_neg (by decide), if_neg (by decide), if_neg (by decide), if_neg (by decide), if_pos (by decide)]
theorem lnR_11 {p q : Pol} {N : Nat} {u : Value} {V : World} : LnR p q N 11 u V ↔ StrsRow V N u (linesL p q) := by
  unfold LnR
  rw [if_neg (by decide), if_neg (by decide), if_neg (by decide), if_neg (by decide), if_neg (by decide)]
theorem LnR.step {p q : Pol} {N k : Nat} {u : Value} {V V' : World} (h : LnR p q N k u V) (hB : Below V.heap.size V V') : LnR p q N k u V' := by
  unfold LnR at *
  split
  · rename_i h7; rw [if_pos h7] at h; exact rowIs_below h hB
  rename_i h7; rw [if_neg h7] at h
  split
  · rename_i h8; rw [if_pos h8] at h; exact h
  rename_i h8; rw [if_neg h8] at h
  split
  · rename_i h9; rw [if_pos h9] at h; exact h
  rename_i h9; rw [if_neg h9] at h
  split
  · rename_i h10; rw [if_pos h10] at h; exact rowIs_below h hB
  rename_i h10; rw [if_neg h10] at h
  split
  · rename_i h11; rw [if_pos h11] at h
    obtain ⟨b, vs, e, hb, hvs, hc⟩ := h
    exact ⟨b, vs, e, Nat.lt_of_lt_of_le hb hB.size, hvs, fun i hi => ⟨(hB.cell (p := ⟨b, i, none⟩) hb).trans (hc i hi).1, rowIs_below (hc i hi).2 hB⟩⟩
  · rename_i h11; rw [if_neg h11] at h; exact ownsRow_below h hB
/-- The two policies' boxes, and what the turns so far have had. -/
structure LnC (w : World) (p q : Pol) (vs : List Value) (V : World) : Prop where
  so : SoW w p q V
  is : ∀ k, k < vs.length → LnR p q w.heap.size k (vs.getD k undef) V
section
variable {w : World} {p q : Pol} {vs : List Value} {V V' : World}
theorem LnC.next (h : LnC w p q vs V) (hB : Below V.heap.size V V') {k : Nat} (hk : vs.length = k) {u : Value} (hu : LnR p q w.heap.size k u V') : LnC w p q (vs ++ [u]) V' := by
  refine ⟨h.so.step hB, fun j hj => ?_⟩
  rw [List.length_append, List.length_singleton] at hj
  rcases Nat.lt_or_ge j vs.length with hlt | hge
  · have h1 := (h.is j hlt).step hB
    rw [show (vs ++ [u]).getD j undef = vs.getD j undef by simp [List.getD, List.getElem?_append_left hlt]]
    exact h1
  · obtain rfl : j = vs.length := by omega
    rw [show (vs ++ [u]).getD vs.length undef = u by simp [List.getD], hk]
    exact hu
theorem LnC.row (h : LnC w p q vs V) {k : Nat} (hk : k < vs.length) (h7 : k < 7) : RowIs strC V (vs.getD k undef) (partN p q k) := by
  have := h.is k hk
  unfold LnR at this
  rwa [if_pos h7] at this
theorem LnC.row9 (h : LnC w p q vs V) (hk : 9 < vs.length) : RowIs strC V (vs.getD 9 undef) (partN p q 7) := by
  exact lnR_9.1 (h.is 9 hk)
theorem LnC.ten (h : LnC w p q vs V) (hk : 10 < vs.length) : ∃ (b : Nat) (us : List Value), vs.getD 10 undef = .slice (some ⟨b, 0, none⟩) 8 8 ∧ b < V.heap.size ∧ ∃ hvs : us.length = 8, ∀ (i : Nat) (h : i < 8), V.cell? ⟨b, i, none⟩ = some (us[i]'(by omega)) ∧ RowIs strC V (us[i]'(by omega)) (partN p q i) := by
  exact lnR_10.1 (h.is 10 hk)
theorem LnC.last (h : LnC w p q vs V) (hk : 11 < vs.length) : StrsRow V w.heap.size (vs.getD 11 undef) (linesL p q) := by
  exact lnR_11.1 (h.is 11 hk)
/-- Owned of either. -/
def lnK (p q : Pol) : List (Option Value) := [none, none, none, none, none, none, none, some (.int .u16 ((ownedN p 65535 : Nat) : Int)), some (.int .u16 ((ownedN q 65535 : Nat) : Int))]
theorem LnC.get {i : Nat} {u : Value} (hi : i < vs.length) (hu : (lnK p q)[i]? = some (some u)) (h : LnC w p q vs V) : vs.getD i undef = u := by
  have h1 := h.is i hi
  have h2 : i = 7 ∨ i = 8 := by
    match i, hu with
    | 7, _ => exact .inl rfl
    | 8, _ => exact .inr rfl
  rcases h2 with rfl | rfl
  · unfold LnR at h1
    rw [if_neg (by decide), if_pos (by decide)] at h1
    rw [h1]
    exact Option.some.inj (Option.some.inj hu)
  · unfold LnR at h1
    rw [if_neg (by decide), if_neg (by decide), if_pos (by decide)] at h1
    rw [h1]
    exact Option.some.inj (Option.some.inj hu)
theorem lnR_row {k : Nat} (hk : k < 7) {u : Value} {ls : List (List UInt8)} (h : StrsRow V w.heap.size u ls) (hN : ls = partN p q k) : LnR p q w.heap.size k u V := by
  unfold LnR
  rw [if_pos hk, ← hN]
  exact rowIs_own strC_size h
end
theorem ln_row {w V V' : World} {p q : Pol} {vs : List Value} {k : Nat} (hC : LnC w p q vs V) (hl : vs.length = k) (hk : k < 7) {u : Value} {ls : List (List UInt8)} (h : StrsRow V' V.heap.size u ls) (hB : Below V.heap.size V V') (hN : ls = partN p q k) : LnC w p q (vs ++ [u]) V' :=
  hC.next hB hl (lnR_row hk (own_base h hC.so.below.size) hN)
set_option maxRecDepth 100000 in
set_option maxHeartbeats 6400000 in
theorem diLines_any : DLinesC EnvM := by
  intro p q w hE hp hq hpf hqf
  have HE := Lib.hid (fun V (h : Below w.heap.size w V) => hE.below h)
  have HO := Lib.hid (And.intro hp (And.intro hq (And.intro hpf hqf)))
  have HW := Lib.hid (SoW.new w p q)
  clear hE hp hq hpf hqf
  go_enter Tryz.func8, Tryz.ntmps8
  go_upto_region 1 with fail
  generalize (w.alloc _).alloc _ = w1 at *
  refine wp_region_L (LnC w p q) 12 [.val (.pointer (some ⟨w.heap.size, 65, none⟩)), .val (.int .u16 ((p.active : Nat) : Int)), .val (.pointer (some ⟨w.heap.size + 1, 65, none⟩)), .val (.int .u16 ((q.active : Nat) : Int)), .val (.int .u16 ((lessN (p.active) (q.active) : Nat) : Int)), .turn 0, .val (.pointer (some ⟨w.heap.size + 1, 65, none⟩)), .val (.int .u16 ((q.active : Nat) : Int)), .val (.pointer (some ⟨w.heap.size, 65, none⟩)), .val (.int .u16 ((p.active : Nat) : Int)), .val (.int .u16 ((lessN (q.active) (p.active) : Nat) : Int)), .turn 1, .val (.pointer (some ⟨w.heap.size, 0, none⟩)), .val (.int .u16 ((p.live : Nat) : Int)), .val (.pointer (some ⟨w.heap.size + 1, 0, none⟩)), .val (.int .u16 ((q.live : Nat) : Int)), .val (.int .u16 ((lessN (p.live) (q.live) : Nat) : Int)), .turn 2, .val (.agg (polC p)), .val (.agg (polC q)), .turn 3, .val (.agg (polC q)), .val (.agg (polC p)), .turn 4, .val (.agg (polC p)), .val (.agg (polC q)), .turn 5, .val (.agg (polC p)), .val (.agg (polC q)), .turn 6, .val (.agg (polC p)), .turn 7, .val (.agg (polC q)), .turn 8, .val (.int .u16 ((lessN (ownedN p 65535) (ownedN q 65535) : Nat) : Int)), .turn 9, .turn 10, .turn 11, .same 11]
    (fun x => { tmps := #[.agg (polC p), .agg (polC q), .pointer (some ⟨w.heap.size, 0, none⟩), .pointer (some ⟨w.heap.size + 1, 0, none⟩), x 38, x 0, x 1, x 2, x 3, x 4, x 5, x 6, x 7, x 8, x 9, x 10, x 11, x 12, x 13, x 14, x 15, x 16, x 17, x 18, x 19, x 20, x 21, x 22, x 23, x 24, x 25, x 26, x 27, x 28, x 29, x 30, x 31, x 32, x 33, x 34, x 35, x 36, x 37], defers := [] }) (fun i => ([undef, undef, undef, undef, undef, undef, undef, undef, undef, undef, undef, undef, undef, undef, undef, undef, undef, undef, undef, undef, undef, undef, undef, undef, undef, undef, undef, undef, undef, undef, undef, undef, undef, undef, undef, undef, undef, undef, .slice none 0 0] : List Value).getD i undef) (by kernel_rfl) rfl rfl (by kernel_rfl) (by kernel_rfl) (by kernel_rfl) (by kernel_rfl) (⟨HW.out.step ((Below.refl _ _).drew), fun k h => absurd h (by simp)⟩) ?_ ?_
  · refine ⟨ObL.of_val rfl (fun x v => rfl) (fun x V vs hC hD => ?_), ?_⟩
    · clear hD
      refine want_yes rfl ?_
      exact leads_value (v := .pointer (some ⟨w.heap.size, 65, none⟩)) (by go_simp) ⟨rfl, hC⟩
    refine ⟨ObL.of_val rfl (fun x v => rfl) (fun x V vs hC hD => ?_), ?_⟩
    · have e0 : x 0 = .pointer (some ⟨w.heap.size, 65, none⟩) := (hD.1 rfl).1
      clear hD
      refine want_yes rfl ?_
      have k0 := hC.so.pr.active
      exact leads_value (v := .int .u16 ((p.active : Nat) : Int)) (by go_simp) ⟨rfl, hC⟩
    refine ⟨ObL.of_val rfl (fun x v => rfl) (fun x V vs hC hD => ?_), ?_⟩
    · clear hD
      refine want_yes rfl ?_
      exact leads_value (v := .pointer (some ⟨w.heap.size + 1, 65, none⟩)) (by go_simp) ⟨rfl, hC⟩
    refine ⟨ObL.of_val rfl (fun x v => rfl) (fun x V vs hC hD => ?_), ?_⟩
    · have e2 : x 2 = .pointer (some ⟨w.heap.size + 1, 65, none⟩) := (hD.1 rfl).1
      clear hD
      refine want_yes rfl ?_
      have k0 := hC.so.qr.active
      exact leads_value (v := .int .u16 ((q.active : Nat) : Int)) (by go_simp) ⟨rfl, hC⟩
    refine ⟨ObL.of_val rfl (fun x v => rfl) (fun x V vs hC hD => ?_), ?_⟩
    · have e1 : x 1 = .int .u16 ((p.active : Nat) : Int) := (hD.1 rfl).1
      have e3 : x 3 = .int .u16 ((q.active : Nat) : Int) := (hD.2.1 rfl).1
      clear hD
      refine want_yes rfl ?_
      have hq0 := HO.out.1.active
      have hp0 := HO.out.2.1.active
      have hw := andNot_less hq0 hp0
      exact leads_value (v := .int .u16 (bits .andNot .u16 ((p.active : Nat) : Int) ((q.active : Nat) : Int))) (by go_simp) ⟨by rw [hw], hC⟩
    refine ⟨ObL.of_turn rfl (fun x v => rfl) (fun x V vs hl hC hD => ?_), ?_⟩
    · have e4 : x 4 = .int .u16 ((lessN (p.active) (q.active) : Nat) : Int) := (hD.1 rfl).1
      clear hD
      refine want_yes rfl ?_
      refine leads_enter2 (by go_simp <;> rfl) ((dpEach_any (wdD 0) (by decide) (lessN p.active q.active) (lessN_lt _ HO.out.1.active) V (EnvM.tab (HE.out V (SoW.below hC.so)))).mono fun e w'' hr => ?_)
      obtain ⟨u, he, hr, hB⟩ := hr
      exact ⟨u, he, ln_row hC hl (by decide) hr hB ((eachT_join (by decide) _).trans (partN_0 p q).symm)⟩
    refine ⟨ObL.of_val rfl (fun x v => rfl) (fun x V vs hC hD => ?_), ?_⟩
    · clear hD
      refine want_yes rfl ?_
      exact leads_value (v := .pointer (some ⟨w.heap.size + 1, 65, none⟩)) (by go_simp) ⟨rfl, hC⟩
    refine ⟨ObL.of_val rfl (fun x v => rfl) (fun x V vs hC hD => ?_), ?_⟩
    · have e6 : x 6 = .pointer (some ⟨w.heap.size + 1, 65, none⟩) := (hD.1 rfl).1
      clear hD
      refine want_yes rfl ?_
      have k0 := hC.so.qr.active
      exact leads_value (v := .int .u16 ((q.active : Nat) : Int)) (by go_simp) ⟨rfl, hC⟩
    refine ⟨ObL.of_val rfl (fun x v => rfl) (fun x V vs hC hD => ?_), ?_⟩
    · clear hD
      refine want_yes rfl ?_
      exact leads_value (v := .pointer (some ⟨w.heap.size, 65, none⟩)) (by go_simp) ⟨rfl, hC⟩
    refine ⟨ObL.of_val rfl (fun x v => rfl) (fun x V vs hC hD => ?_), ?_⟩
    · have e8 : x 8 = .pointer (some ⟨w.heap.size, 65, none⟩) := (hD.1 rfl).1
      clear hD
      refine want_yes rfl ?_
      have k0 := hC.so.pr.active
      exact leads_value (v := .int .u16 ((p.active : Nat) : Int)) (by go_simp) ⟨rfl, hC⟩
    refine ⟨ObL.of_val rfl (fun x v => rfl) (fun x V vs hC hD => ?_), ?_⟩
    · have e7 : x 7 = .int .u16 ((q.active : Nat) : Int) := (hD.1 rfl).1
      have e9 : x 9 = .int .u16 ((p.active : Nat) : Int) := (hD.2.1 rfl).1
      clear hD
      refine want_yes rfl ?_
      have hq0 := HO.out.2.1.active
      have hp0 := HO.out.1.active
      have hw := andNot_less hq0 hp0
      exact leads_value (v := .int .u16 (bits .andNot .u16 ((q.active : Nat) : Int) ((p.active : Nat) : Int))) (by go_simp) ⟨by rw [hw], hC⟩
    refine ⟨ObL.of_turn rfl (fun x v => rfl) (fun x V vs hl hC hD => ?_), ?_⟩
    · have e10 : x 10 = .int .u16 ((lessN (q.active) (p.active) : Nat) : Int) := (hD.1 rfl).1
      clear hD
      refine want_yes rfl ?_
      refine leads_enter2 (by go_simp <;> rfl) ((dpEach_any (wdD 1) (by decide) (lessN q.active p.active) (lessN_lt _ HO.out.2.1.active) V (EnvM.tab (HE.out V (SoW.below hC.so)))).mono fun e w'' hr => ?_)
      obtain ⟨u, he, hr, hB⟩ := hr
      exact ⟨u, he, ln_row hC hl (by decide) hr hB ((eachT_join (by decide) _).trans (partN_1 p q).symm)⟩
    refine ⟨ObL.of_val rfl (fun x v => rfl) (fun x V vs hC hD => ?_), ?_⟩
    · clear hD
      refine want_yes rfl ?_
      exact leads_value (v := .pointer (some ⟨w.heap.size, 0, none⟩)) (by go_simp) ⟨rfl, hC⟩
    refine ⟨ObL.of_val rfl (fun x v => rfl) (fun x V vs hC hD => ?_), ?_⟩
    · have e12 : x 12 = .pointer (some ⟨w.heap.size, 0, none⟩) := (hD.1 rfl).1
      clear hD
      refine want_yes rfl ?_
      have k0 := hC.so.pr.live
      exact leads_value (v := .int .u16 ((p.live : Nat) : Int)) (by go_simp) ⟨rfl, hC⟩
    refine ⟨ObL.of_val rfl (fun x v => rfl) (fun x V vs hC hD => ?_), ?_⟩
    · clear hD
      refine want_yes rfl ?_
      exact leads_value (v := .pointer (some ⟨w.heap.size + 1, 0, none⟩)) (by go_simp) ⟨rfl, hC⟩
    refine ⟨ObL.of_val rfl (fun x v => rfl) (fun x V vs hC hD => ?_), ?_⟩
    · have e14 : x 14 = .pointer (some ⟨w.heap.size + 1, 0, none⟩) := (hD.1 rfl).1
      clear hD
      refine want_yes rfl ?_
      have k0 := hC.so.qr.live
      exact leads_value (v := .int .u16 ((q.live : Nat) : Int)) (by go_simp) ⟨rfl, hC⟩
    refine ⟨ObL.of_val rfl (fun x v => rfl) (fun x V vs hC hD => ?_), ?_⟩
    · have e13 : x 13 = .int .u16 ((p.live : Nat) : Int) := (hD.1 rfl).1
      have e15 : x 15 = .int .u16 ((q.live : Nat) : Int) := (hD.2.1 rfl).1
      clear hD
      refine want_yes rfl ?_
      have hq0 := HO.out.1.live
      have hp0 := HO.out.2.1.live
      have hw := andNot_less hq0 hp0
      exact leads_value (v := .int .u16 (bits .andNot .u16 ((p.live : Nat) : Int) ((q.live : Nat) : Int))) (by go_simp) ⟨by rw [hw], hC⟩
    refine ⟨ObL.of_turn rfl (fun x v => rfl) (fun x V vs hl hC hD => ?_), ?_⟩
    · have e16 : x 16 = .int .u16 ((lessN (p.live) (q.live) : Nat) : Int) := (hD.1 rfl).1
      clear hD
      refine want_yes rfl ?_
      refine leads_enter2 (by go_simp <;> rfl) ((dpEach_any (wdD 2) (by decide) (lessN p.live q.live) (lessN_lt _ HO.out.1.live) V (EnvM.tab (HE.out V (SoW.below hC.so)))).mono fun e w'' hr => ?_)
      obtain ⟨u, he, hr, hB⟩ := hr
      exact ⟨u, he, ln_row hC hl (by decide) hr hB ((eachT_join (by decide) _).trans (partN_2 p q).symm)⟩
    refine ⟨ObL.of_val rfl (fun x v => rfl) (fun x V vs hC hD => ?_), ?_⟩
    · clear hD
      refine want_yes rfl ?_
      exact leads_value (exec_load_pol rfl rfl hC.so.pr) ⟨rfl, hC⟩
    refine ⟨ObL.of_val rfl (fun x v => rfl) (fun x V vs hC hD => ?_), ?_⟩
    · clear hD
      refine want_yes rfl ?_
      exact leads_value (exec_load_pol rfl rfl hC.so.qr) ⟨rfl, hC⟩
    refine ⟨ObL.of_turn rfl (fun x v => rfl) (fun x V vs hl hC hD => ?_), ?_⟩
    · have e18 : x 18 = .agg (polC p) := (hD.1 rfl).1
      have e19 : x 19 = .agg (polC q) := (hD.2.1 rfl).1
      clear hD
      refine want_yes rfl ?_
      refine leads_enter2 (by go_simp <;> rfl) ((dpRoles_any p q HO.out.1 HO.out.2.1 V (HE.out V (SoW.below hC.so))).mono fun e w'' hr => ?_)
      obtain ⟨u, he, hr, hB⟩ := hr
      exact ⟨u, he, ln_row hC hl (by decide) hr hB ((rolesT_join p q).trans (partN_3 p q).symm)⟩
    refine ⟨ObL.of_val rfl (fun x v => rfl) (fun x V vs hC hD => ?_), ?_⟩
    · clear hD
      refine want_yes rfl ?_
      exact leads_value (exec_load_pol rfl rfl hC.so.qr) ⟨rfl, hC⟩
    refine ⟨ObL.of_val rfl (fun x v => rfl) (fun x V vs hC hD => ?_), ?_⟩
    · clear hD
      refine want_yes rfl ?_
      exact leads_value (exec_load_pol rfl rfl hC.so.pr) ⟨rfl, hC⟩
    refine ⟨ObL.of_turn rfl (fun x v => rfl) (fun x V vs hl hC hD => ?_), ?_⟩
    · have e21 : x 21 = .agg (polC q) := (hD.1 rfl).1
      have e22 : x 22 = .agg (polC p) := (hD.2.1 rfl).1
      clear hD
      refine want_yes rfl ?_
      refine leads_enter2 (by go_simp <;> rfl) ((dpLinks_any (wdD 4) (by decide) q p HO.out.2.1 HO.out.1 V (EnvM.tab (HE.out V (SoW.below hC.so)))).mono fun e w'' hr => ?_)
      obtain ⟨u, he, hr, hB⟩ := hr
      exact ⟨u, he, ln_row hC hl (by decide) hr hB ((linksT_join (by decide) q p).trans (partN_4 p q).symm)⟩
    refine ⟨ObL.of_val rfl (fun x v => rfl) (fun x V vs hC hD => ?_), ?_⟩
    · clear hD
      refine want_yes rfl ?_
      exact leads_value (exec_load_pol rfl rfl hC.so.pr) ⟨rfl, hC⟩
    refine ⟨ObL.of_val rfl (fun x v => rfl) (fun x V vs hC hD => ?_), ?_⟩
    · clear hD
      refine want_yes rfl ?_
      exact leads_value (exec_load_pol rfl rfl hC.so.qr) ⟨rfl, hC⟩
    refine ⟨ObL.of_turn rfl (fun x v => rfl) (fun x V vs hl hC hD => ?_), ?_⟩
    · have e24 : x 24 = .agg (polC p) := (hD.1 rfl).1
      have e25 : x 25 = .agg (polC q) := (hD.2.1 rfl).1
      clear hD
      refine want_yes rfl ?_
      refine leads_enter2 (by go_simp <;> rfl) ((dpLinks_any (wdD 5) (by decide) p q HO.out.1 HO.out.2.1 V (EnvM.tab (HE.out V (SoW.below hC.so)))).mono fun e w'' hr => ?_)
      obtain ⟨u, he, hr, hB⟩ := hr
      exact ⟨u, he, ln_row hC hl (by decide) hr hB ((linksT_join (by decide) p q).trans (partN_5 p q).symm)⟩
    refine ⟨ObL.of_val rfl (fun x v => rfl) (fun x V vs hC hD => ?_), ?_⟩
    · clear hD
      refine want_yes rfl ?_
      exact leads_value (exec_load_pol rfl rfl hC.so.pr) ⟨rfl, hC⟩
    refine ⟨ObL.of_val rfl (fun x v => rfl) (fun x V vs hC hD => ?_), ?_⟩
    · clear hD
      refine want_yes rfl ?_
      exact leads_value (exec_load_pol rfl rfl hC.so.qr) ⟨rfl, hC⟩
    refine ⟨ObL.of_turn rfl (fun x v => rfl) (fun x V vs hl hC hD => ?_), ?_⟩
    · have e27 : x 27 = .agg (polC p) := (hD.1 rfl).1
      have e28 : x 28 = .agg (polC q) := (hD.2.1 rfl).1
      clear hD
      refine want_yes rfl ?_
      refine leads_enter2 (by go_simp <;> rfl) ((dpOwners_any p q HO.out.2.1 HO.out.2.2.2 V (HE.out V (SoW.below hC.so))).mono fun e w'' hr => ?_)
      obtain ⟨u, he, hr, hB⟩ := hr
      exact ⟨u, he, ln_row hC hl (by decide) hr hB ((ownersT_join p q).trans (partN_6 p q).symm)⟩
    refine ⟨ObL.of_val rfl (fun x v => rfl) (fun x V vs hC hD => ?_), ?_⟩
    · clear hD
      refine want_yes rfl ?_
      exact leads_value (exec_load_pol rfl rfl hC.so.pr) ⟨rfl, hC⟩
    refine ⟨ObL.of_turn rfl (fun x v => rfl) (fun x V vs hl hC hD => ?_), ?_⟩
    · have e30 : x 30 = .agg (polC p) := (hD.1 rfl).1
      clear hD
      refine want_yes rfl ?_
      refine leads_enter2 (by go_simp <;> rfl) ((dpOwned_any p HO.out.1 HO.out.2.2.1 V).mono fun e w'' hr => ?_)
      obtain ⟨he, hB⟩ := hr
      exact ⟨_, he, hC.next hB hl (lnR_7 p q _ _)⟩
    refine ⟨ObL.of_val rfl (fun x v => rfl) (fun x V vs hC hD => ?_), ?_⟩
    · clear hD
      refine want_yes rfl ?_
      exact leads_value (exec_load_pol rfl rfl hC.so.qr) ⟨rfl, hC⟩
    refine ⟨ObL.of_turn rfl (fun x v => rfl) (fun x V vs hl hC hD => ?_), ?_⟩
    · have e32 : x 32 = .agg (polC q) := (hD.1 rfl).1
      clear hD
      refine want_yes rfl ?_
      refine leads_enter2 (by go_simp <;> rfl) ((dpOwned_any q HO.out.2.1 HO.out.2.2.2 V).mono fun e w'' hr => ?_)
      obtain ⟨he, hB⟩ := hr
      exact ⟨_, he, hC.next hB hl (lnR_8 p q _ _)⟩
    refine ⟨ObL.of_val rfl (fun x v => rfl) (fun x V vs hC hD => ?_), ?_⟩
    · have e31 : x 31 = .int .u16 ((ownedN p 65535 : Nat) : Int) := ((hD.1 rfl).1).trans (LnC.get (hD.1 rfl).2 rfl hC)
      have e33 : x 33 = .int .u16 ((ownedN q 65535 : Nat) : Int) := ((hD.2.1 rfl).1).trans (LnC.get (hD.2.1 rfl).2 rfl hC)
      clear hD
      refine want_yes rfl ?_
      have hq0 := ownedN_lt p 65535
      have hp0 := ownedN_lt q 65535
      have hw := andNot_less hq0 hp0
      exact leads_value (v := .int .u16 (bits .andNot .u16 ((ownedN p 65535 : Nat) : Int) ((ownedN q 65535 : Nat) : Int))) (by go_simp) ⟨by rw [hw], hC⟩
    refine ⟨ObL.of_turn rfl (fun x v => rfl) (fun x V vs hl hC hD => ?_), ?_⟩
    · have e34 : x 34 = .int .u16 ((lessN (ownedN p 65535) (ownedN q 65535) : Nat) : Int) := (hD.1 rfl).1
      clear hD
      refine want_yes rfl ?_
      refine leads_enter2 (by go_simp <;> rfl) ((dpEach_any (wdD 7) (by decide) (lessN (ownedN p 65535) (ownedN q 65535)) (lessN_lt _ (ownedN_lt p 65535)) V (EnvM.tab (HE.out V (SoW.below hC.so)))).mono fun e w'' hr => ?_)
      obtain ⟨u, he, hr, hB⟩ := hr
      refine ⟨u, he, hC.next hB hl ?_⟩
      have h2 := rowIs_own strC_size hr
      rw [eachT_join (by decide), ← partN_7] at h2
      exact lnR_9.2 h2
    refine ⟨ObL.of_turn rfl (fun x v => rfl) (fun x V vs hl hC hD => ?_), ?_⟩
    · have e5 : x 5 = vs.getD 0 undef := (hD.1 rfl).1
      have e11 : x 11 = vs.getD 1 undef := (hD.2.1 rfl).1
      have e17 : x 17 = vs.getD 2 undef := (hD.2.2.1 rfl).1
      have e20 : x 20 = vs.getD 3 undef := (hD.2.2.2.1 rfl).1
      have e23 : x 23 = vs.getD 4 undef := (hD.2.2.2.2.1 rfl).1
      have e26 : x 26 = vs.getD 5 undef := (hD.2.2.2.2.2.1 rfl).1
      have e29 : x 29 = vs.getD 6 undef := (hD.2.2.2.2.2.2.1 rfl).1
      have e35 : x 35 = vs.getD 9 undef := (hD.2.2.2.2.2.2.2.1 rfl).1
      clear hD
      refine want_yes rfl ?_
      have r0 := hC.row (k := 0) (by omega) (by decide)
      obtain ⟨p0, c0, s0⟩ := rowIs_shape r0
      rw [s0] at e5 r0
      clear s0
      have r1 := hC.row (k := 1) (by omega) (by decide)
      obtain ⟨p1, c1, s1⟩ := rowIs_shape r1
      rw [s1] at e11 r1
      clear s1
      have r2 := hC.row (k := 2) (by omega) (by decide)
      obtain ⟨p2, c2, s2⟩ := rowIs_shape r2
      rw [s2] at e17 r2
      clear s2
      have r3 := hC.row (k := 3) (by omega) (by decide)
      obtain ⟨p3, c3, s3⟩ := rowIs_shape r3
      rw [s3] at e20 r3
      clear s3
      have r4 := hC.row (k := 4) (by omega) (by decide)
      obtain ⟨p4, c4, s4⟩ := rowIs_shape r4
      rw [s4] at e23 r4
      clear s4
      have r5 := hC.row (k := 5) (by omega) (by decide)
      obtain ⟨p5, c5, s5⟩ := rowIs_shape r5
      rw [s5] at e26 r5
      clear s5
      have r6 := hC.row (k := 6) (by omega) (by decide)
      obtain ⟨p6, c6, s6⟩ := rowIs_shape r6
      rw [s6] at e29 r6
      clear s6
      have r7 := hC.row9 (by omega)
      obtain ⟨p7, c7, s7⟩ := rowIs_shape r7
      rw [s7] at e35 r7
      clear s7
      refine leads_value (v := .slice (some ⟨V.heap.size, 0, none⟩) 8 8) (w' := V.alloc (.cells #[Value.slice p0 (partN p q 0).length c0, Value.slice p1 (partN p q 1).length c1, Value.slice p2 (partN p q 2).length c2, Value.slice p3 (partN p q 3).length c3, Value.slice p4 (partN p q 4).length c4, Value.slice p5 (partN p q 5).length c5, Value.slice p6 (partN p q 6).length c6, Value.slice p7 (partN p q 7).length c7] 32)) (by go_simp) ?_
      have hB := belowNew V (.cells #[Value.slice p0 (partN p q 0).length c0, Value.slice p1 (partN p q 1).length c1, Value.slice p2 (partN p q 2).length c2, Value.slice p3 (partN p q 3).length c3, Value.slice p4 (partN p q 4).length c4, Value.slice p5 (partN p q 5).length c5, Value.slice p6 (partN p q 6).length c6, Value.slice p7 (partN p q 7).length c7] 32)
      have hb := Blk.new V #[Value.slice p0 (partN p q 0).length c0, Value.slice p1 (partN p q 1).length c1, Value.slice p2 (partN p q 2).length c2, Value.slice p3 (partN p q 3).length c3, Value.slice p4 (partN p q 4).length c4, Value.slice p5 (partN p q 5).length c5, Value.slice p6 (partN p q 6).length c6, Value.slice p7 (partN p q 7).length c7] 32
      refine hC.next hB hl (lnR_10.2 ⟨V.heap.size, [Value.slice p0 (partN p q 0).length c0, Value.slice p1 (partN p q 1).length c1, Value.slice p2 (partN p q 2).length c2, Value.slice p3 (partN p q 3).length c3, Value.slice p4 (partN p q 4).length c4, Value.slice p5 (partN p q 5).length c5, Value.slice p6 (partN p q 6).length c6, Value.slice p7 (partN p q 7).length c7], rfl, by simp, rfl, fun i hi => ⟨?_, ?_⟩⟩)
      · rw [hb.cell]
        simp [hi]
      · match i, hi with
        | 0, _ => exact rowIs_below r0 hB
        | 1, _ => exact rowIs_below r1 hB
        | 2, _ => exact rowIs_below r2 hB
        | 3, _ => exact rowIs_below r3 hB
        | 4, _ => exact rowIs_below r4 hB
        | 5, _ => exact rowIs_below r5 hB
        | 6, _ => exact rowIs_below r6 hB
        | 7, _ => exact rowIs_below r7 hB
    refine ⟨ObL.of_turn rfl (fun x v => rfl) (fun x V vs hl hC hD => ?_), ?_⟩
    · have e36 : x 36 = vs.getD 10 undef := (hD.1 rfl).1
      clear hD
      refine want_yes rfl ?_
      obtain ⟨b, us, e10, hb, hus, hcs⟩ := hC.ten (by omega)
      rw [e10] at e36
      have hps : (partsT p q).length = 8 := rfl
      have hfl : (partsT p q).flatten = linesL p q := (lines_parts HO.out.1 HO.out.2.1 HO.out.2.2.1 HO.out.2.2.2).symm
      refine leads_enter2 (by go_simp) ((dpConcat_any b us (partsT p q) V (hus.trans hps.symm) (by omega) hb (fun i hi => ?_) (by rw [hfl]; have := linesL_few p q; omega)).mono fun e w'' hr => ?_)
      · have h1 := hcs i (by omega)
        refine ⟨h1.1, ?_⟩
        have h2 := h1.2
        unfold partN at h2
        rw [List.getD, List.getElem?_eq_getElem hi] at h2
        exact h2
      · obtain ⟨u, he, hr, hB⟩ := hr
        rw [hfl] at hr
        exact ⟨u, he, hC.next hB hl (lnR_11.2 (own_base hr hC.so.below.size))⟩
    refine ⟨ObL.of_same rfl (fun x v => rfl) (fun x V vs hC hD => ?_), ?_⟩
    · have e37 : x 37 = vs.getD 11 undef := (hD.1 rfl).1
      have n37 : 11 < vs.length := (hD.1 rfl).2
      clear hD
      refine want_yes rfl ?_
      generalize hy : vs.getD 11 undef = y at *
      exact leads_value (v := y) (by go_simp) ⟨rfl, n37, hC⟩
    trivial
  · intro xa V vs hlv hC hx
    have e38 : xa 38 = vs.getD 11 undef := hx 38 (by simp)
    have HR := Lib.hid (hC.last (by omega))
    have HB := Lib.hid hC.so.below
    clear hx hC hlv
    rw [e38]
    clear e38
    generalize vs.getD 11 undef = u at *
    go_wp2_with fail
    go_ret
    exact ⟨u, rfl, HR.out, HB.out⟩
end Go.Proofs.YtmaachmidgfhdaaGreatDoor

/-
  The law LexTable, from the program's contracts.
-/
import Derived.Test.YtcbphjdhafnkmaaDoorLawXBlanks
import Derived.Test.YtcbphjdhafnkmaaDoorInvM
namespace Go.Proofs.YtcbphjdhafnkmaaDoor
open Go.RowKit

theorem okIs_of {e : Except Nat (List (Pc × Nat))} {l : List Pc} (h : okIs e l = true) : ∃ M, e = .ok M ∧ M.map (·.1) = l := by
  unfold okIs at h
  split at h
  · exact ⟨_, rfl, of_decide_eq_true h⟩
  · cases h
theorem alone_is {x : Pc} (hx : x ∈ tabPc) : ∃ q, pcsO x.text = ([(x, 0), (endPc, q)], 0, 0) := by
  obtain ⟨M, hM, hm⟩ := okIs_of (tab_alone x hx)
  have h8 := (tab_few x hx).2.2
  have hO := pcsO_ok (s := x.text) (by omega) hM
  rcases M with _ | ⟨⟨a, p⟩, _ | ⟨⟨b, q⟩, _ | ⟨c, r⟩⟩⟩
  · cases hm
  · cases hm
  · simp only [List.map_cons, List.map_nil, List.cons.injEq, and_true] at hm
    obtain ⟨rfl, rfl⟩ := hm
    have h2 := (pcsL_stands hM (a, p) (by simp)).1
    simp only at h2
    obtain rfl : p = 0 := by omega
    exact ⟨q, hO⟩
  · cases hm
theorem three_of {M : List (Pc × Nat)} {x y z : Pc} (hm : M.map (·.1) = [x, y, z]) : ∃ p q r, M = [(x, p), (y, q), (z, r)] := by
  rcases M with _ | ⟨⟨a, p⟩, _ | ⟨⟨b, q⟩, _ | ⟨⟨c, r⟩, _ | ⟨d, t⟩⟩⟩⟩
  · cases hm
  · cases hm
  · cases hm
  · simp only [List.map_cons, List.map_nil, List.cons.injEq, and_true] at hm
    obtain ⟨rfl, rfl, rfl⟩ := hm
    exact ⟨p, q, r, rfl⟩
  · cases hm
theorem apart_is {x y : Pc} (hx : x ∈ tabPc) (hy : y ∈ tabPc) : ∃ p q r, pcsO (x.text ++ 32 :: y.text) = ([(x, p), (y, q), (endPc, r)], 0, 0) := by
  obtain ⟨M, hM, hm⟩ := okIs_of (tab_apart x hx y hy)
  obtain ⟨p, q, r, rfl⟩ := three_of hm
  have h8 := (tab_few x hx).2.2
  have h9 := (tab_few y hy).2.2
  exact ⟨p, q, r, pcsO_ok (by simp only [List.length_append, List.length_cons]; omega) hM⟩
theorem close_is {x y : Pc} (hx : x ∈ tabPc) (hy : y ∈ tabPc) : (x.kind = 4 ∨ y.kind = 4 → ∃ p q r, pcsO (x.text ++ y.text) = ([(x, p), (y, q), (endPc, r)], 0, 0)) ∧ (¬ (x.kind = 4 ∨ y.kind = 4) → (∃ M, pcsO (x.text ++ y.text) = (M, 0, 0) ∧ M.length = 2) ∨ ∃ k, pcsO (x.text ++ y.text) = ([], k, 3)) := by
  have h := tab_two x hx y hy
  have h8 := (tab_few x hx).2.2
  have h9 := (tab_few y hy).2.2
  have hl : ¬ 48 < (x.text ++ y.text).length := by simp only [List.length_append]; omega
  unfold twoB at h
  constructor
  · intro hk
    rw [if_pos hk] at h
    obtain ⟨M, hM, hm⟩ := okIs_of h
    obtain ⟨p, q, r, rfl⟩ := three_of hm
    exact ⟨p, q, r, pcsO_ok hl hM⟩
  · intro hk
    rw [if_neg hk] at h
    split at h
    · rename_i M hM
      exact .inl ⟨M, pcsO_ok hl hM, of_decide_eq_true h⟩
    · rename_i k hk2
      exact .inr ⟨k, pcsO_not hl hk2⟩
def pieO (x : Pc × Nat) : Obj := .cells (pieC x) 31
theorem leads_alloc_pie {o : Oper} {a : Act} {w : World} (ho : o.op = .alloc 31) : leads Tryd.prog o a w (fun u V' => u = .pointer (some ⟨w.heap.size, 0, none⟩) ∧ Below w.heap.size w V' ∧ w.heap.size < V'.heap.size ∧ V'.heap[w.heap.size]? = some (pieO (⟨0, [], 0⟩, 0))) := by
  refine leads_value (v := .pointer (some ⟨w.heap.size, 0, none⟩)) (w' := w.alloc (pieO (⟨0, [], 0⟩, 0))) ?_ ⟨rfl, belowNew w _, by simp, Blk.new w _ _⟩
  unfold execOp
  rw [ho]
  kernel_rfl
/-- The two pieces, in memory of the law's own. -/
structure TxW (w : World) (b1 b2 : Nat) (X Y : Pc) (V : World) : Prop where
  below : Below w.heap.size w V
  bx : Blk V b1 (pieC (X, 0)) 31
  by_ : Blk V b2 (pieC (Y, 0)) 31
theorem TxW.step {w : World} {b1 b2 : Nat} {X Y : Pc} {V V' : World} (h : TxW w b1 b2 X Y V) (hB : Below V.heap.size V V') : TxW w b1 b2 X Y V' :=
  ⟨h.below.trans (hB.mono h.below.size), h.bx.below hB h.bx.lt, h.by_.below hB h.by_.lt⟩
theorem pies_shape {w : World} {v : Value} {l : List (Pc × Nat)} {n : Nat} (h : PiesAt w v l) (hl : l.length = n) (hn : 0 < n) : ∃ g o c, v = .slice (some ⟨g, o, none⟩) n c ∧ ∀ V, Below w.heap.size w V → ∀ i, (hi : i < l.length) → CellsAt V g (o + i * 4) (pieC l[i]) := by
  subst hl
  obtain ⟨g, o, c, rfl, -, -, hg⟩ := h.shape (by intro e; rw [e] at hn; cases hn)
  exact ⟨g, o, c, rfl, fun V hV i hi => (h.elem hi).2.below hV hg⟩
set_option maxRecDepth 100000 in
set_option maxHeartbeats 3200000 in
theorem xtable_any {G : World → Prop} (gK : KeepX G) (cP : LPiecesC G) (hA : LxAliveC G) (a b : Nat) (w : World) (hw : G w) (ha : a < 65536) (hb : b < 65536) : Calls Tryd.prog 5 #[.int .u16 (a : Int), .int .u16 (b : Int)] w fun e w' => e = .returned (.bool true) ∧ Below w.heap.size w w' := by
  have ia : a % 47 < tabPc.length := by rw [tab_len]; omega
  have ib : b % 47 < tabPc.length := by rw [tab_len]; omega
  have HAl := Lib.hid (fun V (hV : Below w.heap.size w V) => hA V (gK.keep hw hV))
  have HPc := Lib.hid (fun (l : List UInt8) V (hV : Below w.heap.size w V) => cP l V (gK.keep hw hV))
  have HTa := Lib.hid (rlTable_any w)
  have HXi := Lib.hid (List.getElem_mem ia)
  have HYi := Lib.hid (List.getElem_mem ib)
  have HXg := Lib.hid (tab0_get ia (by rw [tab0_len]; omega))
  have HYg := Lib.hid (tab0_get ib (by rw [tab0_len]; omega))
  have HPx := Lib.hid (alone_is HXi.out)
  have HPa := Lib.hid (apart_is HXi.out HYi.out)
  have HPn := Lib.hid (close_is HXi.out HYi.out)
  have HSX := Lib.hid (show SmallPc (tabPc[a % 47], 0) from ⟨(tab_few _ HXi.out).1, (tab_few _ HXi.out).2.1, (tab_few _ HXi.out).2.2, Nat.zero_le _⟩)
  have HX8 := Lib.hid (tab_few _ HXi.out).2.2
  have HY8 := Lib.hid (tab_few _ HYi.out).2.2
  clear gK cP hA hw HXi HYi
  generalize tabPc[a % 47] = X at *
  generalize tabPc[b % 47] = Y at *
  go_enter Tryd.func5, Tryd.ntmps5
  go_wp2_with fail
  refine HTa.out.mono ?_
  rintro e wt ⟨tv, rfl, ht, hB⟩
  obtain ⟨g, off, cap, rfl, hcap1, hcap2, hg⟩ := (pcRow_at ht).shape (by intro h; have := tab0_len; rw [h] at this; cases this)
  have HTb := Lib.hid (pcRow_at ht)
  have HB := Lib.hid hB
  have hn1 : a % 47 < tab0.length := by rw [tab0_len]; omega
  have hn2 : b % 47 < tab0.length := by rw [tab0_len]; omega
  have HC1 := Lib.hid (fun V (hV : Below wt.drew.heap.size wt.drew V) => (show CellsAt V g (off + (a % 47) * 4) (pieC (X, 0)) from HXg.out ▸ ((HTb.out.elem hn1).2.below ((Below.refl _ wt).drew.trans hV) hg)))
  have HC2 := Lib.hid (fun V (hV : Below wt.drew.heap.size wt.drew V) => (show CellsAt V g (off + (b % 47) * 4) (pieC (Y, 0)) from HYg.out ▸ ((HTb.out.elem hn2).2.below ((Below.refl _ wt).drew.trans hV) hg)))
  rw [tab0_len] at *
  have ra : (a : Int).tmod 47 = ((a % 47 : Nat) : Int) := by rw [Int.tmod_eq_emod_of_nonneg (by omega)]; rfl
  have rb : (b : Int).tmod 47 = ((b % 47 : Nat) : Int) := by rw [Int.tmod_eq_emod_of_nonneg (by omega)]; rfl
  have la : a % 47 < 47 := Nat.mod_lt _ (by decide)
  have lb : b % 47 < 47 := Nat.mod_lt _ (by decide)
  clear hn1 hn2 ht hcap1 hcap2 hg hB HTa HTb HXg HYg ia ib
  generalize a % 47 = k1 at *
  generalize b % 47 = k2 at *
  have l1 : (0 : Int) ≤ (k1 : Int) := by omega
  have l2 : (k1 : Int) < 47 := by omega
  have l3 : (0 : Int) ≤ (k2 : Int) := by omega
  have l4 : (k2 : Int) < 47 := by omega
  have wa : IntKind.i64.wrap (a : Int) = (a : Int) := by rw [IntKind.wrap_i64]; omega
  have wb : IntKind.i64.wrap (b : Int) = (b : Int) := by rw [IntKind.wrap_i64]; omega
  have wa2 : IntKind.i64.wrap (k1 : Int) = (k1 : Int) := by rw [IntKind.wrap_i64]; omega
  have wb2 : IntKind.i64.wrap (k2 : Int) = (k2 : Int) := by rw [IntKind.wrap_i64]; omega
  go_upto_region 2 with fail
  refine wp_region_M [.val (.slice (some ⟨g, off, none⟩) 47 cap), .val (.int .u16 (a : Int)), .val (.int .i64 (a : Int)), .val (.slice (some ⟨g, off, none⟩) 47 cap), .val (.int .i64 47), .val (.int .i64 (k1 : Int)), .val (.pointer (some ⟨g, off + k1 * 4, none⟩)), .val (.agg (pieC (X, 0))), .val (.slice (some ⟨g, off, none⟩) 47 cap), .val (.int .u16 (b : Int)), .val (.int .i64 (b : Int)), .val (.slice (some ⟨g, off, none⟩) 47 cap), .val (.int .i64 47), .val (.int .i64 (k2 : Int)), .val (.pointer (some ⟨g, off + k2 * 4, none⟩)), .val (.agg (pieC (Y, 0))), .mk (pieO (⟨0, [], 0⟩, 0)) 18 (pieO (X, 0)), .mk (pieO (⟨0, [], 0⟩, 0)) 19 (pieO (Y, 0)), .st 16, .st 17]
    (fun x => { tmps := #[.int .u16 (a : Int), .int .u16 (b : Int), undef, undef, .bool false, .slice (some ⟨g, off, none⟩) 47 cap, x 16, x 17, undef, undef, undef, undef, undef, undef, undef, undef, undef, .slice (some ⟨g, off, none⟩) 47 cap, x 0, x 1, x 2, x 3, x 4, x 5, x 6, x 7, x 8, x 9, x 10, x 11, x 12, x 13, x 14, x 15, undef, undef, undef, undef, undef, undef, undef, undef, undef, undef, undef, undef, undef, undef, undef, undef, undef, undef, undef, undef, undef, undef, undef, undef, undef, undef, undef, undef, undef, undef, undef, undef, undef, undef, undef, undef, undef, undef, undef, undef, undef, undef, undef, undef, undef, undef, undef, undef, undef, undef, undef, undef, undef, undef, undef, undef, undef, undef, undef, undef, undef, undef, undef, undef, undef, undef, undef, undef, undef, undef, undef, undef, undef, undef, undef, undef, undef, undef, undef, undef, undef, undef, undef, undef, undef, undef, undef, undef, undef, undef, undef, undef, undef, undef, undef, undef, undef, undef, undef, undef, undef, undef, undef, undef, undef, undef, undef, undef, undef, undef, undef, undef, undef], defers := [] }) (fun _ => undef) (by kernel_rfl) rfl rfl rfl (by kernel_rfl) ?_ ?_
  · refine ⟨ObM.of_val rfl (fun x v => rfl) (fun x V hC hD => ?_), ?_⟩
    · clear hD
      have hH := HB
      refine want_yes rfl ?_
      exact leads_value (v := .slice (some ⟨g, off, none⟩) 47 cap) (by go_simp) ⟨rfl, Below.refl _ _⟩
    refine ⟨ObM.of_val rfl (fun x v => rfl) (fun x V hC hD => ?_), ?_⟩
    · clear hD
      have hH := HB
      refine want_yes rfl ?_
      exact leads_value (v := .int .u16 (a : Int)) (by go_simp) ⟨rfl, Below.refl _ _⟩
    refine ⟨ObM.of_val rfl (fun x v => rfl) (fun x V hC hD => ?_), ?_⟩
    · have e1 : x 1 = .int .u16 (a : Int) := hD.1 _ rfl rfl
      clear hD
      have hH := HB
      refine want_yes rfl ?_
      exact leads_value (v := .int .i64 (a : Int)) (by go_simp) ⟨rfl, Below.refl _ _⟩
    refine ⟨ObM.of_val rfl (fun x v => rfl) (fun x V hC hD => ?_), ?_⟩
    · clear hD
      have hH := HB
      refine want_yes rfl ?_
      exact leads_value (v := .slice (some ⟨g, off, none⟩) 47 cap) (by go_simp) ⟨rfl, Below.refl _ _⟩
    refine ⟨ObM.of_val rfl (fun x v => rfl) (fun x V hC hD => ?_), ?_⟩
    · have e3 : x 3 = .slice (some ⟨g, off, none⟩) 47 cap := hD.1 _ rfl rfl
      clear hD
      have hH := HB
      refine want_yes rfl ?_
      exact leads_value (v := .int .i64 47) (by go_simp) ⟨rfl, Below.refl _ _⟩
    refine ⟨ObM.of_val rfl (fun x v => rfl) (fun x V hC hD => ?_), ?_⟩
    · have e2 : x 2 = .int .i64 (a : Int) := hD.1 _ rfl rfl
      have e4 : x 4 = .int .i64 47 := hD.2.1 _ rfl rfl
      clear hD
      have hH := HB
      refine want_yes rfl ?_
      exact leads_value (v := .int .i64 (k1 : Int)) (by go_simp) ⟨rfl, Below.refl _ _⟩
    refine ⟨ObM.of_val rfl (fun x v => rfl) (fun x V hC hD => ?_), ?_⟩
    · have e0 : x 0 = .slice (some ⟨g, off, none⟩) 47 cap := hD.1 _ rfl rfl
      have e5 : x 5 = .int .i64 (k1 : Int) := hD.2.1 _ rfl rfl
      clear hD
      have hH := HB
      refine want_yes rfl ?_
      exact leads_value (v := .pointer (some ⟨g, off + k1 * 4, none⟩)) (by go_simp) ⟨rfl, Below.refl _ _⟩
    refine ⟨ObM.of_val rfl (fun x v => rfl) (fun x V hC hD => ?_), ?_⟩
    · have e6 : x 6 = .pointer (some ⟨g, off + k1 * 4, none⟩) := hD.1 _ rfl rfl
      clear hD
      have hH := HB
      refine want_yes rfl ?_
      exact leads_value (exec_load_cells rfl (by exact e6) (HC1.out V hC) Tryd.underlying31 rfl (infoPcS _)) ⟨rfl, Below.refl _ _⟩
    refine ⟨ObM.of_val rfl (fun x v => rfl) (fun x V hC hD => ?_), ?_⟩
    · clear hD
      have hH := HB
      refine want_yes rfl ?_
      exact leads_value (v := .slice (some ⟨g, off, none⟩) 47 cap) (by go_simp) ⟨rfl, Below.refl _ _⟩
    refine ⟨ObM.of_val rfl (fun x v => rfl) (fun x V hC hD => ?_), ?_⟩
    · clear hD
      have hH := HB
      refine want_yes rfl ?_
      exact leads_value (v := .int .u16 (b : Int)) (by go_simp) ⟨rfl, Below.refl _ _⟩
    refine ⟨ObM.of_val rfl (fun x v => rfl) (fun x V hC hD => ?_), ?_⟩
    · have e9 : x 9 = .int .u16 (b : Int) := hD.1 _ rfl rfl
      clear hD
      have hH := HB
      refine want_yes rfl ?_
      exact leads_value (v := .int .i64 (b : Int)) (by go_simp) ⟨rfl, Below.refl _ _⟩
    refine ⟨ObM.of_val rfl (fun x v => rfl) (fun x V hC hD => ?_), ?_⟩
    · clear hD
      have hH := HB
      refine want_yes rfl ?_
      exact leads_value (v := .slice (some ⟨g, off, none⟩) 47 cap) (by go_simp) ⟨rfl, Below.refl _ _⟩
    refine ⟨ObM.of_val rfl (fun x v => rfl) (fun x V hC hD => ?_), ?_⟩
    · have e11 : x 11 = .slice (some ⟨g, off, none⟩) 47 cap := hD.1 _ rfl rfl
      clear hD
      have hH := HB
      refine want_yes rfl ?_
      exact leads_value (v := .int .i64 47) (by go_simp) ⟨rfl, Below.refl _ _⟩
    refine ⟨ObM.of_val rfl (fun x v => rfl) (fun x V hC hD => ?_), ?_⟩
    · have e10 : x 10 = .int .i64 (b : Int) := hD.1 _ rfl rfl
      have e12 : x 12 = .int .i64 47 := hD.2.1 _ rfl rfl
      clear hD
      have hH := HB
      refine want_yes rfl ?_
      exact leads_value (v := .int .i64 (k2 : Int)) (by go_simp) ⟨rfl, Below.refl _ _⟩
    refine ⟨ObM.of_val rfl (fun x v => rfl) (fun x V hC hD => ?_), ?_⟩
    · have e8 : x 8 = .slice (some ⟨g, off, none⟩) 47 cap := hD.1 _ rfl rfl
      have e13 : x 13 = .int .i64 (k2 : Int) := hD.2.1 _ rfl rfl
      clear hD
      have hH := HB
      refine want_yes rfl ?_
      exact leads_value (v := .pointer (some ⟨g, off + k2 * 4, none⟩)) (by go_simp) ⟨rfl, Below.refl _ _⟩
    refine ⟨ObM.of_val rfl (fun x v => rfl) (fun x V hC hD => ?_), ?_⟩
    · have e14 : x 14 = .pointer (some ⟨g, off + k2 * 4, none⟩) := hD.1 _ rfl rfl
      clear hD
      have hH := HB
      refine want_yes rfl ?_
      exact leads_value (exec_load_cells rfl (by exact e14) (HC2.out V hC) Tryd.underlying31 rfl (infoPcS _)) ⟨rfl, Below.refl _ _⟩
    refine ⟨ObM.of_mk rfl (fun x v => rfl) rfl (fun x V => ?_), ?_⟩
    · exact leads_alloc_pie rfl
    refine ⟨ObM.of_mk rfl (fun x v => rfl) rfl (fun x V => ?_), ?_⟩
    · exact leads_alloc_pie rfl
    refine ⟨ObM.of_st rfl rfl (fun x v => rfl) rfl (by kernel_rfl) (fun x V gb hC hx hg hD => ?_), ?_⟩
    · have e7 : x 7 = .agg (pieC (X, 0)) := hD.2.1 _ rfl rfl
      clear hD
      have hH := HB
      exact leads_store_row rfl hx e7 hg (infoPcS _) rfl (pieC_one _)
    refine ⟨ObM.of_st rfl rfl (fun x v => rfl) rfl (by kernel_rfl) (fun x V gb hC hx hg hD => ?_), ?_⟩
    · have e15 : x 15 = .agg (pieC (Y, 0)) := hD.2.1 _ rfl rfl
      clear hD
      have hH := HB
      exact leads_store_row rfl hx e15 hg (infoPcS _) rfl (pieC_one _)
    trivial
  · intro x V hF
    obtain ⟨hx0, hx1, hx2⟩ := hF.made 16 _ _ _ (by simp) rfl rfl
    obtain ⟨hy0, hy1, hy2⟩ := hF.made 17 _ _ _ (by simp) rfl rfl
    have HT := Lib.hid (show TxW w (blkOf (x 16)) (blkOf (x 17)) X Y V from ⟨(HB.out.drew).trans (hF.below.mono HB.out.drew.size), hx2, hy2⟩)
    clear hF hx2 hy2 hx0 hy0 HC1 HC2 HB ra rb la lb l1 l2 l3 l4 wa wb wa2 wb2
    generalize blkOf (x 16) = b1 at *
    generalize blkOf (x 17) = b2 at *
    rw [hx1, hy1]
    clear hx1 hy1
    generalize x 0 = y18
    generalize x 1 = y19
    generalize x 2 = y20
    generalize x 3 = y21
    generalize x 4 = y22
    generalize x 5 = y23
    generalize x 6 = y24
    generalize x 7 = y25
    generalize x 8 = y26
    generalize x 9 = y27
    generalize x 10 = y28
    generalize x 11 = y29
    generalize x 12 = y30
    generalize x 13 = y31
    generalize x 14 = y32
    generalize x 15 = y33
    obtain ⟨q0, hq⟩ := HPx.out
    have HP1 := Lib.hid (show ∀ V, Below w.heap.size w V → Calls Tryd.prog 7 #[.string ⟨X.text.toArray⟩] V fun e w' => ∃ v, e = .returned (.tuple #[v, .int .i64 0, .int .i64 0]) ∧ PiesAt w' v [(X, 0), (endPc, q0)] ∧ Below V.heap.size V w' from fun V hV => by
      have h := HPc.out X.text V hV (by have := HX8.out; omega)
      unfold PcsIs at h
      rw [hq] at h
      exact h)
    obtain ⟨q1, q2, q3, hq2⟩ := HPa.out
    have HP2 := Lib.hid (show ∀ V, Below w.heap.size w V → Calls Tryd.prog 7 #[.string ⟨(X.text ++ 32 :: Y.text).toArray⟩] V fun e w' => ∃ v, e = .returned (.tuple #[v, .int .i64 0, .int .i64 0]) ∧ PiesAt w' v [(X, q1), (Y, q2), (endPc, q3)] ∧ Below V.heap.size V w' from fun V hV => by
      have h := HPc.out (X.text ++ 32 :: Y.text) V hV (by have := HX8.out; have := HY8.out; simp only [List.length_append, List.length_cons]; omega)
      unfold PcsIs at h
      rw [hq2] at h
      exact h)
    have HP3 := Lib.hid (fun V (hV : Below w.heap.size w V) => HPc.out (X.text ++ Y.text) V hV (by have := HX8.out; have := HY8.out; simp only [List.length_append]; omega))
    unfold PcsIs at HP3
    generalize pcsO (X.text ++ Y.text) = o3 at *
    obtain ⟨N, an, en⟩ := o3
    clear hq hq2 HPx HPa HPc
    have t1 : V.cell? ⟨b1, 1, none⟩ = some (.string ⟨X.text.toArray⟩) := (HT.out.bx.cell 1).trans rfl
    go_wp2_with fail
    refine (HP1.out V HT.out.below).mono ?_
    rintro e w3 ⟨v, rfl, hv, hB3⟩
    obtain ⟨g1, o1, c1, rfl, hc1⟩ := pies_shape hv (n := 2) rfl (by decide)
    have HL1 := Lib.hid hc1
    have HT3 := Lib.hid (HT.out.step hB3)
    have t2 : w3.cell? ⟨b1, 1, none⟩ = some (.string ⟨X.text.toArray⟩) := (HT3.out.bx.cell 1).trans rfl
    have t3 : w3.cell? ⟨b2, 1, none⟩ = some (.string ⟨Y.text.toArray⟩) := (HT3.out.by_.cell 1).trans rfl
    clear hv hc1 hB3 HT t1 HP1
    go_wp2_with (first | (refine wpList_of rfl (exec_cat (l := X.text) (m := [32]) rfl rfl rfl (by have := HX8.out; simp only [List.length_cons, List.length_nil]; omega)) ?_) | (refine wpList_of rfl (exec_cat (l := X.text ++ [32]) (m := Y.text) rfl rfl rfl (by have := HX8.out; have := HY8.out; simp only [List.length_append, List.length_cons, List.length_nil]; omega)) ?_))
    refine (HP2.out w3 HT3.out.below).mono ?_
    rintro e w4 ⟨v, rfl, hv, hB4⟩
    obtain ⟨g2, o2, c2, rfl, hc2⟩ := pies_shape hv (n := 3) rfl (by decide)
    have HL2 := Lib.hid hc2
    have HT4 := Lib.hid (HT3.out.step hB4)
    have HL1' := Lib.hid (fun V (hV : Below w4.heap.size w4 V) => HL1.out V (hB4.trans (hV.mono hB4.size)))
    have t4 : w4.cell? ⟨b1, 1, none⟩ = some (.string ⟨X.text.toArray⟩) := (HT4.out.bx.cell 1).trans rfl
    have t5 : w4.cell? ⟨b2, 1, none⟩ = some (.string ⟨Y.text.toArray⟩) := (HT4.out.by_.cell 1).trans rfl
    clear hv hc2 hB4 HT3 t2 t3 HP2 HL1
    go_wp2_with (first | (refine wpList_of rfl (exec_cat (l := X.text) (m := Y.text) rfl rfl rfl (by have := HX8.out; have := HY8.out; omega)) ?_))
    refine (HP3.out w4 HT4.out.below).mono ?_
    rintro e w5 ⟨v, rfl, hv, hB5⟩
    have HV3 := Lib.hid hv
    obtain ⟨p3, c3, rfl, hv'⟩ := hv
    have HT5 := Lib.hid (HT4.out.step hB5)
    have HLA := Lib.hid (fun V (hV : Below w5.heap.size w5 V) => HL1'.out V (hB5.trans (hV.mono hB5.size)))
    have HLB := Lib.hid (fun V (hV : Below w5.heap.size w5 V) => HL2.out V (hB5.trans (hV.mono hB5.size)))
    clear hv' hB5 HT4 t4 t5 HP3 HL1' HL2
    have D1 := Lib.hid (show ∀ V, Below w5.heap.size w5 V → V.cell? ⟨g1, o1 + 4, none⟩ = some (.int .i64 5) from fun V hV => HLA.out V hV 1 (by simp) 0 _ rfl)
    have D0 := Lib.hid (show ∀ V, Below w5.heap.size w5 V → CellsAt V g1 o1 (pieC (X, 0)) from fun V hV => HLA.out V hV 0 (by simp))
    have DX := Lib.hid (show ∀ V, Below w5.heap.size w5 V → CellsAt V b1 0 (pieC (X, 0)) from fun V hV => CellsAt.ofBlk (HT5.out.step hV).bx fun j u hu => by rw [Nat.zero_add]; exact hu)
    have E1 := Lib.hid (show ∀ V, Below w5.heap.size w5 V → V.cell? ⟨g2, o2 + 5, none⟩ = some (.string ⟨Y.text.toArray⟩) from fun V hV => HLB.out V hV 1 (by simp) 1 _ rfl)
    have E2 := Lib.hid (show ∀ V, Below w5.heap.size w5 V → V.cell? ⟨g2, o2 + 6, none⟩ = some (.int .i64 (Y.n : Int)) from fun V hV => HLB.out V hV 1 (by simp) 2 _ rfl)
    have B1 := Lib.hid (show ∀ V, Below w5.heap.size w5 V → V.cell? ⟨b2, 1, none⟩ = some (.string ⟨Y.text.toArray⟩) from fun V hV => ((HT5.out.step hV).by_.cell 1).trans rfl)
    have B2 := Lib.hid (show ∀ V, Below w5.heap.size w5 V → V.cell? ⟨b2, 2, none⟩ = some (.int .i64 (Y.n : Int)) from fun V hV => ((HT5.out.step hV).by_.cell 2).trans rfl)
    clear HLA HLB
    go_upto_region 6 with fail
    refine wp_region_S (fun _ V => Below w5.heap.size w5 V) 0 [.val (.int .i64 0), .val (.bool false), .val (.bool false), .val (.int .i64 0), .val (.bool false), .val (.bool false), .val (.bool false), .val (.slice (some ⟨g1, o1, none⟩) 2 c1), .val (.int .i64 2), .val (.bool false), .val (.bool false), .val (.bool false), .val (.slice (some ⟨g2, o2, none⟩) 3 c2), .val (.int .i64 3), .val (.bool false), .val (.bool false), .val (.bool false), .val (.slice (some ⟨g1, o1, none⟩) 2 c1), .val (.pointer (some ⟨g1, o1, none⟩)), .val (.agg (pieC (X, 0))), .val (.agg (pieC (X, 0))), .val (.bool false), .val (.bool false), .val (.bool false), .val (.slice (some ⟨g1, o1, none⟩) 2 c1), .val (.pointer (some ⟨g1, o1 + 4, none⟩)), .val (.pointer (some ⟨g1, o1 + 4, none⟩)), .val (.int .i64 5), .val (.bool false), .val (.bool false), .val (.bool false), .val (.slice (some ⟨g2, o2, none⟩) 3 c2), .val (.pointer (some ⟨g2, o2 + 4, none⟩)), .val (.pointer (some ⟨g2, o2 + 5, none⟩)), .val (.string ⟨Y.text.toArray⟩), .val (.pointer (some ⟨b2, 1, none⟩)), .val (.string ⟨Y.text.toArray⟩), .val (.bool false), .val (.bool false), .val (.bool false), .val (.slice (some ⟨g2, o2, none⟩) 3 c2), .val (.pointer (some ⟨g2, o2 + 4, none⟩)), .val (.pointer (some ⟨g2, o2 + 6, none⟩)), .val (.int .i64 (Y.n : Int)), .val (.pointer (some ⟨b2, 2, none⟩)), .val (.int .i64 (Y.n : Int)), .val (.bool false), .val (.bool false)]
      (fun x => { tmps := #[.int .u16 (a : Int), .int .u16 (b : Int), undef, undef, .bool false, .slice (some ⟨g, off, none⟩) 47 cap, .pointer (some ⟨b1, 0, none⟩), .pointer (some ⟨b2, 0, none⟩), .slice (some ⟨g1, o1, none⟩) 2 c1, .int .i64 0, .int .i64 0, .slice (some ⟨g2, o2, none⟩) 3 c2, .int .i64 0, .int .i64 0, .slice p3 N.length c3, .int .i64 (an : Int), .int .i64 (en : Int), .slice (some ⟨g, off, none⟩) 47 cap, y18, y19, y20, y21, y22, y23, y24, y25, y26, y27, y28, y29, y30, y31, y32, y33, .tuple #[.slice (some ⟨g1, o1, none⟩) 2 c1, .int .i64 0, .int .i64 0], .pointer (some ⟨b1, 1, none⟩), .string ⟨X.text.toArray⟩, .tuple #[.slice (some ⟨g1, o1, none⟩) 2 c1, .int .i64 0, .int .i64 0], .slice (some ⟨g1, o1, none⟩) 2 c1, .int .i64 0, .int .i64 0, .tuple #[.slice (some ⟨g2, o2, none⟩) 3 c2, .int .i64 0, .int .i64 0], .pointer (some ⟨b1, 1, none⟩), .string ⟨X.text.toArray⟩, .string ⟨(X.text ++ [32]).toArray⟩, .pointer (some ⟨b2, 1, none⟩), .string ⟨Y.text.toArray⟩, .string ⟨(X.text ++ 32 :: Y.text).toArray⟩, .tuple #[.slice (some ⟨g2, o2, none⟩) 3 c2, .int .i64 0, .int .i64 0], .slice (some ⟨g2, o2, none⟩) 3 c2, .int .i64 0, .int .i64 0, .tuple #[.slice p3 N.length c3, .int .i64 (an : Int), .int .i64 (en : Int)], .pointer (some ⟨b1, 1, none⟩), .string ⟨X.text.toArray⟩, .pointer (some ⟨b2, 1, none⟩), .string ⟨Y.text.toArray⟩, .string ⟨(X.text ++ Y.text).toArray⟩, .tuple #[.slice p3 N.length c3, .int .i64 (an : Int), .int .i64 (en : Int)], .slice p3 N.length c3, .int .i64 (an : Int), .int .i64 (en : Int), x 0, x 1, x 2, x 3, x 4, x 5, x 6, x 7, x 8, x 9, x 10, x 11, x 12, x 13, x 14, x 15, x 16, x 17, x 18, x 19, x 20, x 21, x 22, x 23, x 24, x 25, x 26, x 27, x 28, x 29, x 30, x 31, x 32, x 33, x 34, x 35, x 36, x 37, x 38, x 39, x 40, x 41, x 42, x 43, x 44, x 45, x 46, x 47, undef, undef, undef, undef, undef, undef, undef, undef, undef, undef, undef, undef, undef, undef, undef, undef, undef, undef, undef, undef, undef, undef, undef, undef, undef, undef, undef, undef, undef, undef, undef, undef, undef, undef, undef, undef, undef], defers := [] }) (fun i => ([undef, undef, undef, undef, undef, undef, undef, undef, undef, undef, undef, undef, undef, undef, undef, undef, undef, undef, undef, undef, undef, undef, undef, undef, undef, undef, undef, undef, undef, undef, undef, undef, undef, undef, undef, undef, undef, undef, undef, undef, undef, undef, undef, undef, undef, undef, undef, undef] : List Value).getD i undef) (by kernel_rfl) rfl rfl (by kernel_rfl) (by kernel_rfl) (by kernel_rfl) (by kernel_rfl) ((Below.refl _ w5).drew) ?_ ?_
    · refine ⟨ObS.of_val rfl (fun x v => rfl) (fun x V kst hC hD => ?_), ?_⟩
      · clear hD
        refine want_yes rfl ?_
        exact leads_value (v := .int .i64 0) (by go_simp) ⟨rfl, hC⟩
      refine ⟨ObS.of_val rfl (fun x v => rfl) (fun x V kst hC hD => ?_), ?_⟩
      · have e0 : x 0 = .int .i64 0 := hD.1 rfl
        clear hD
        refine want_yes rfl ?_
        exact leads_value (v := .bool false) (by go_simp) ⟨rfl, hC⟩
      refine ⟨ObS.of_val rfl (fun x v => rfl) (fun x V kst hC hD => ?_), ?_⟩
      · have e1 : x 1 = .bool false := hD.1 rfl
        clear hD
        refine want_yes rfl ?_
        exact leads_value (v := .bool false) (by go_simp) ⟨rfl, hC⟩
      refine ⟨ObS.of_val rfl (fun x v => rfl) (fun x V kst hC hD => ?_), ?_⟩
      · have e2 : x 2 = .bool false := hD.1 rfl
        clear hD
        refine want_yes (by simp [Region.wanted, yielded, e2]) ?_
        exact leads_value (v := .int .i64 0) (by go_simp) ⟨rfl, hC⟩
      refine ⟨ObS.of_val rfl (fun x v => rfl) (fun x V kst hC hD => ?_), ?_⟩
      · have e3 : x 3 = .int .i64 0 := hD.1 rfl
        have e2 : x 2 = .bool false := hD.2.1 rfl
        clear hD
        refine want_yes (by simp [Region.wanted, yielded, e2]) ?_
        exact leads_value (v := .bool false) (by go_simp) ⟨rfl, hC⟩
      refine ⟨ObS.of_val rfl (fun x v => rfl) (fun x V kst hC hD => ?_), ?_⟩
      · have e2 : x 2 = .bool false := hD.1 rfl
        have e4 : x 4 = .bool false := hD.2.1 rfl
        clear hD
        refine want_yes rfl ?_
        exact leads_value (v := .bool false) (by go_simp) ⟨rfl, hC⟩
      refine ⟨ObS.of_val rfl (fun x v => rfl) (fun x V kst hC hD => ?_), ?_⟩
      · have e5 : x 5 = .bool false := hD.1 rfl
        clear hD
        refine want_yes rfl ?_
        exact leads_value (v := .bool false) (by go_simp) ⟨rfl, hC⟩
      refine ⟨ObS.of_val rfl (fun x v => rfl) (fun x V kst hC hD => ?_), ?_⟩
      · have e6 : x 6 = .bool false := hD.1 rfl
        clear hD
        refine want_yes (by simp [Region.wanted, yielded, e6]) ?_
        exact leads_value (v := .slice (some ⟨g1, o1, none⟩) 2 c1) (by go_simp) ⟨rfl, hC⟩
      refine ⟨ObS.of_val rfl (fun x v => rfl) (fun x V kst hC hD => ?_), ?_⟩
      · have e7 : x 7 = .slice (some ⟨g1, o1, none⟩) 2 c1 := hD.1 rfl
        have e6 : x 6 = .bool false := hD.2.1 rfl
        clear hD
        refine want_yes (by simp [Region.wanted, yielded, e6]) ?_
        exact leads_value (v := .int .i64 2) (by go_simp) ⟨rfl, hC⟩
      refine ⟨ObS.of_val rfl (fun x v => rfl) (fun x V kst hC hD => ?_), ?_⟩
      · have e8 : x 8 = .int .i64 2 := hD.1 rfl
        have e6 : x 6 = .bool false := hD.2.1 rfl
        clear hD
        refine want_yes (by simp [Region.wanted, yielded, e6]) ?_
        exact leads_value (v := .bool false) (by go_simp) ⟨rfl, hC⟩
      refine ⟨ObS.of_val rfl (fun x v => rfl) (fun x V kst hC hD => ?_), ?_⟩
      · have e6 : x 6 = .bool false := hD.1 rfl
        have e9 : x 9 = .bool false := hD.2.1 rfl
        clear hD
        refine want_yes rfl ?_
        exact leads_value (v := .bool false) (by go_simp) ⟨rfl, hC⟩
      refine ⟨ObS.of_val rfl (fun x v => rfl) (fun x V kst hC hD => ?_), ?_⟩
      · have e10 : x 10 = .bool false := hD.1 rfl
        clear hD
        refine want_yes rfl ?_
        exact leads_value (v := .bool false) (by go_simp) ⟨rfl, hC⟩
      refine ⟨ObS.of_val rfl (fun x v => rfl) (fun x V kst hC hD => ?_), ?_⟩
      · have e11 : x 11 = .bool false := hD.1 rfl
        clear hD
        refine want_yes (by simp [Region.wanted, yielded, e11]) ?_
        exact leads_value (v := .slice (some ⟨g2, o2, none⟩) 3 c2) (by go_simp) ⟨rfl, hC⟩
      refine ⟨ObS.of_val rfl (fun x v => rfl) (fun x V kst hC hD => ?_), ?_⟩
      · have e12 : x 12 = .slice (some ⟨g2, o2, none⟩) 3 c2 := hD.1 rfl
        have e11 : x 11 = .bool false := hD.2.1 rfl
        clear hD
        refine want_yes (by simp [Region.wanted, yielded, e11]) ?_
        exact leads_value (v := .int .i64 3) (by go_simp) ⟨rfl, hC⟩
      refine ⟨ObS.of_val rfl (fun x v => rfl) (fun x V kst hC hD => ?_), ?_⟩
      · have e13 : x 13 = .int .i64 3 := hD.1 rfl
        have e11 : x 11 = .bool false := hD.2.1 rfl
        clear hD
        refine want_yes (by simp [Region.wanted, yielded, e11]) ?_
        exact leads_value (v := .bool false) (by go_simp) ⟨rfl, hC⟩
      refine ⟨ObS.of_val rfl (fun x v => rfl) (fun x V kst hC hD => ?_), ?_⟩
      · have e11 : x 11 = .bool false := hD.1 rfl
        have e14 : x 14 = .bool false := hD.2.1 rfl
        clear hD
        refine want_yes rfl ?_
        exact leads_value (v := .bool false) (by go_simp) ⟨rfl, hC⟩
      refine ⟨ObS.of_val rfl (fun x v => rfl) (fun x V kst hC hD => ?_), ?_⟩
      · have e15 : x 15 = .bool false := hD.1 rfl
        clear hD
        refine want_yes rfl ?_
        exact leads_value (v := .bool false) (by go_simp) ⟨rfl, hC⟩
      refine ⟨ObS.of_val rfl (fun x v => rfl) (fun x V kst hC hD => ?_), ?_⟩
      · have e16 : x 16 = .bool false := hD.1 rfl
        clear hD
        refine want_yes (by simp [Region.wanted, yielded, e16]) ?_
        exact leads_value (v := .slice (some ⟨g1, o1, none⟩) 2 c1) (by go_simp) ⟨rfl, hC⟩
      refine ⟨ObS.of_val rfl (fun x v => rfl) (fun x V kst hC hD => ?_), ?_⟩
      · have e17 : x 17 = .slice (some ⟨g1, o1, none⟩) 2 c1 := hD.1 rfl
        have e16 : x 16 = .bool false := hD.2.1 rfl
        clear hD
        refine want_yes (by simp [Region.wanted, yielded, e16]) ?_
        exact leads_value (v := .pointer (some ⟨g1, o1, none⟩)) (by go_simp) ⟨rfl, hC⟩
      refine ⟨ObS.of_val rfl (fun x v => rfl) (fun x V kst hC hD => ?_), ?_⟩
      · have e18 : x 18 = .pointer (some ⟨g1, o1, none⟩) := hD.1 rfl
        have e16 : x 16 = .bool false := hD.2.1 rfl
        clear hD
        refine want_yes (by simp [Region.wanted, yielded, e16]) ?_
        exact leads_value (exec_load_cells rfl (by exact e18) (D0.out V hC) Tryd.underlying32 rfl (infoLxS _)) ⟨rfl, hC⟩
      refine ⟨ObS.of_val rfl (fun x v => rfl) (fun x V kst hC hD => ?_), ?_⟩
      · have e16 : x 16 = .bool false := hD.1 rfl
        clear hD
        refine want_yes (by simp [Region.wanted, yielded, e16]) ?_
        exact leads_value (exec_load_cells rfl (by exact rfl) (DX.out V hC) Tryd.underlying31 rfl (infoPcS _)) ⟨rfl, hC⟩
      refine ⟨ObS.of_val rfl (fun x v => rfl) (fun x V kst hC hD => ?_), ?_⟩
      · have e19 : x 19 = .agg (pieC (X, 0)) := hD.1 rfl
        have e20 : x 20 = .agg (pieC (X, 0)) := hD.2.1 rfl
        have e16 : x 16 = .bool false := hD.2.2.1 rfl
        clear hD
        refine want_yes (by simp [Region.wanted, yielded, e16]) ?_
        exact leads_value (exec_neqLx HSX.out rfl (by exact e19) (by exact e20)) ⟨rfl, hC⟩
      refine ⟨ObS.of_val rfl (fun x v => rfl) (fun x V kst hC hD => ?_), ?_⟩
      · have e16 : x 16 = .bool false := hD.1 rfl
        have e21 : x 21 = .bool false := hD.2.1 rfl
        clear hD
        refine want_yes rfl ?_
        exact leads_value (v := .bool false) (by go_simp) ⟨rfl, hC⟩
      refine ⟨ObS.of_val rfl (fun x v => rfl) (fun x V kst hC hD => ?_), ?_⟩
      · have e22 : x 22 = .bool false := hD.1 rfl
        clear hD
        refine want_yes rfl ?_
        exact leads_value (v := .bool false) (by go_simp) ⟨rfl, hC⟩
      refine ⟨ObS.of_val rfl (fun x v => rfl) (fun x V kst hC hD => ?_), ?_⟩
      · have e23 : x 23 = .bool false := hD.1 rfl
        clear hD
        refine want_yes (by simp [Region.wanted, yielded, e23]) ?_
        exact leads_value (v := .slice (some ⟨g1, o1, none⟩) 2 c1) (by go_simp) ⟨rfl, hC⟩
      refine ⟨ObS.of_val rfl (fun x v => rfl) (fun x V kst hC hD => ?_), ?_⟩
      · have e24 : x 24 = .slice (some ⟨g1, o1, none⟩) 2 c1 := hD.1 rfl
        have e23 : x 23 = .bool false := hD.2.1 rfl
        clear hD
        refine want_yes (by simp [Region.wanted, yielded, e23]) ?_
        exact leads_value (v := .pointer (some ⟨g1, o1 + 4, none⟩)) (by go_simp) ⟨rfl, hC⟩
      refine ⟨ObS.of_val rfl (fun x v => rfl) (fun x V kst hC hD => ?_), ?_⟩
      · have e25 : x 25 = .pointer (some ⟨g1, o1 + 4, none⟩) := hD.1 rfl
        have e23 : x 23 = .bool false := hD.2.1 rfl
        clear hD
        refine want_yes (by simp [Region.wanted, yielded, e23]) ?_
        exact leads_value (v := .pointer (some ⟨g1, o1 + 4, none⟩)) (by go_simp) ⟨rfl, hC⟩
      refine ⟨ObS.of_val rfl (fun x v => rfl) (fun x V kst hC hD => ?_), ?_⟩
      · have e26 : x 26 = .pointer (some ⟨g1, o1 + 4, none⟩) := hD.1 rfl
        have e23 : x 23 = .bool false := hD.2.1 rfl
        clear hD
        refine want_yes (by simp [Region.wanted, yielded, e23]) ?_
        have k0 := D1.out V hC
        exact leads_value (v := .int .i64 5) (by go_simp) ⟨rfl, hC⟩
      refine ⟨ObS.of_val rfl (fun x v => rfl) (fun x V kst hC hD => ?_), ?_⟩
      · have e27 : x 27 = .int .i64 5 := hD.1 rfl
        have e23 : x 23 = .bool false := hD.2.1 rfl
        clear hD
        refine want_yes (by simp [Region.wanted, yielded, e23]) ?_
        exact leads_value (v := .bool false) (by go_simp) ⟨rfl, hC⟩
      refine ⟨ObS.of_val rfl (fun x v => rfl) (fun x V kst hC hD => ?_), ?_⟩
      · have e23 : x 23 = .bool false := hD.1 rfl
        have e28 : x 28 = .bool false := hD.2.1 rfl
        clear hD
        refine want_yes rfl ?_
        exact leads_value (v := .bool false) (by go_simp) ⟨rfl, hC⟩
      refine ⟨ObS.of_val rfl (fun x v => rfl) (fun x V kst hC hD => ?_), ?_⟩
      · have e29 : x 29 = .bool false := hD.1 rfl
        clear hD
        refine want_yes rfl ?_
        exact leads_value (v := .bool false) (by go_simp) ⟨rfl, hC⟩
      refine ⟨ObS.of_val rfl (fun x v => rfl) (fun x V kst hC hD => ?_), ?_⟩
      · have e30 : x 30 = .bool false := hD.1 rfl
        clear hD
        refine want_yes (by simp [Region.wanted, yielded, e30]) ?_
        exact leads_value (v := .slice (some ⟨g2, o2, none⟩) 3 c2) (by go_simp) ⟨rfl, hC⟩
      refine ⟨ObS.of_val rfl (fun x v => rfl) (fun x V kst hC hD => ?_), ?_⟩
      · have e31 : x 31 = .slice (some ⟨g2, o2, none⟩) 3 c2 := hD.1 rfl
        have e30 : x 30 = .bool false := hD.2.1 rfl
        clear hD
        refine want_yes (by simp [Region.wanted, yielded, e30]) ?_
        exact leads_value (v := .pointer (some ⟨g2, o2 + 4, none⟩)) (by go_simp) ⟨rfl, hC⟩
      refine ⟨ObS.of_val rfl (fun x v => rfl) (fun x V kst hC hD => ?_), ?_⟩
      · have e32 : x 32 = .pointer (some ⟨g2, o2 + 4, none⟩) := hD.1 rfl
        have e30 : x 30 = .bool false := hD.2.1 rfl
        clear hD
        refine want_yes (by simp [Region.wanted, yielded, e30]) ?_
        exact leads_value (v := .pointer (some ⟨g2, o2 + 5, none⟩)) (by go_simp) ⟨rfl, hC⟩
      refine ⟨ObS.of_val rfl (fun x v => rfl) (fun x V kst hC hD => ?_), ?_⟩
      · have e33 : x 33 = .pointer (some ⟨g2, o2 + 5, none⟩) := hD.1 rfl
        have e30 : x 30 = .bool false := hD.2.1 rfl
        clear hD
        refine want_yes (by simp [Region.wanted, yielded, e30]) ?_
        have k0 := E1.out V hC
        exact leads_value (v := .string ⟨Y.text.toArray⟩) (by go_simp) ⟨rfl, hC⟩
      refine ⟨ObS.of_val rfl (fun x v => rfl) (fun x V kst hC hD => ?_), ?_⟩
      · have e30 : x 30 = .bool false := hD.1 rfl
        clear hD
        refine want_yes (by simp [Region.wanted, yielded, e30]) ?_
        exact leads_value (v := .pointer (some ⟨b2, 1, none⟩)) (by go_simp) ⟨rfl, hC⟩
      refine ⟨ObS.of_val rfl (fun x v => rfl) (fun x V kst hC hD => ?_), ?_⟩
      · have e35 : x 35 = .pointer (some ⟨b2, 1, none⟩) := hD.1 rfl
        have e30 : x 30 = .bool false := hD.2.1 rfl
        clear hD
        refine want_yes (by simp [Region.wanted, yielded, e30]) ?_
        have k0 := B1.out V hC
        exact leads_value (v := .string ⟨Y.text.toArray⟩) (by go_simp) ⟨rfl, hC⟩
      refine ⟨ObS.of_val rfl (fun x v => rfl) (fun x V kst hC hD => ?_), ?_⟩
      · have e34 : x 34 = .string ⟨Y.text.toArray⟩ := hD.1 rfl
        have e36 : x 36 = .string ⟨Y.text.toArray⟩ := hD.2.1 rfl
        have e30 : x 30 = .bool false := hD.2.2.1 rfl
        clear hD
        refine want_yes (by simp [Region.wanted, yielded, e30]) ?_
        exact leads_value (v := .bool false) (by go_simp) ⟨rfl, hC⟩
      refine ⟨ObS.of_val rfl (fun x v => rfl) (fun x V kst hC hD => ?_), ?_⟩
      · have e30 : x 30 = .bool false := hD.1 rfl
        have e37 : x 37 = .bool false := hD.2.1 rfl
        clear hD
        refine want_yes rfl ?_
        exact leads_value (v := .bool false) (by go_simp) ⟨rfl, hC⟩
      refine ⟨ObS.of_val rfl (fun x v => rfl) (fun x V kst hC hD => ?_), ?_⟩
      · have e38 : x 38 = .bool false := hD.1 rfl
        clear hD
        refine want_yes rfl ?_
        exact leads_value (v := .bool false) (by go_simp) ⟨rfl, hC⟩
      refine ⟨ObS.of_val rfl (fun x v => rfl) (fun x V kst hC hD => ?_), ?_⟩
      · have e39 : x 39 = .bool false := hD.1 rfl
        clear hD
        refine want_yes (by simp [Region.wanted, yielded, e39]) ?_
        exact leads_value (v := .slice (some ⟨g2, o2, none⟩) 3 c2) (by go_simp) ⟨rfl, hC⟩
      refine ⟨ObS.of_val rfl (fun x v => rfl) (fun x V kst hC hD => ?_), ?_⟩
      · have e40 : x 40 = .slice (some ⟨g2, o2, none⟩) 3 c2 := hD.1 rfl
        have e39 : x 39 = .bool false := hD.2.1 rfl
        clear hD
        refine want_yes (by simp [Region.wanted, yielded, e39]) ?_
        exact leads_value (v := .pointer (some ⟨g2, o2 + 4, none⟩)) (by go_simp) ⟨rfl, hC⟩
      refine ⟨ObS.of_val rfl (fun x v => rfl) (fun x V kst hC hD => ?_), ?_⟩
      · have e41 : x 41 = .pointer (some ⟨g2, o2 + 4, none⟩) := hD.1 rfl
        have e39 : x 39 = .bool false := hD.2.1 rfl
        clear hD
        refine want_yes (by simp [Region.wanted, yielded, e39]) ?_
        exact leads_value (v := .pointer (some ⟨g2, o2 + 6, none⟩)) (by go_simp) ⟨rfl, hC⟩
      refine ⟨ObS.of_val rfl (fun x v => rfl) (fun x V kst hC hD => ?_), ?_⟩
      · have e42 : x 42 = .pointer (some ⟨g2, o2 + 6, none⟩) := hD.1 rfl
        have e39 : x 39 = .bool false := hD.2.1 rfl
        clear hD
        refine want_yes (by simp [Region.wanted, yielded, e39]) ?_
        have k0 := E2.out V hC
        exact leads_value (v := .int .i64 (Y.n : Int)) (by go_simp) ⟨rfl, hC⟩
      refine ⟨ObS.of_val rfl (fun x v => rfl) (fun x V kst hC hD => ?_), ?_⟩
      · have e39 : x 39 = .bool false := hD.1 rfl
        clear hD
        refine want_yes (by simp [Region.wanted, yielded, e39]) ?_
        exact leads_value (v := .pointer (some ⟨b2, 2, none⟩)) (by go_simp) ⟨rfl, hC⟩
      refine ⟨ObS.of_val rfl (fun x v => rfl) (fun x V kst hC hD => ?_), ?_⟩
      · have e44 : x 44 = .pointer (some ⟨b2, 2, none⟩) := hD.1 rfl
        have e39 : x 39 = .bool false := hD.2.1 rfl
        clear hD
        refine want_yes (by simp [Region.wanted, yielded, e39]) ?_
        have k0 := B2.out V hC
        exact leads_value (v := .int .i64 (Y.n : Int)) (by go_simp) ⟨rfl, hC⟩
      refine ⟨ObS.of_val rfl (fun x v => rfl) (fun x V kst hC hD => ?_), ?_⟩
      · have e43 : x 43 = .int .i64 (Y.n : Int) := hD.1 rfl
        have e45 : x 45 = .int .i64 (Y.n : Int) := hD.2.1 rfl
        have e39 : x 39 = .bool false := hD.2.2.1 rfl
        clear hD
        refine want_yes (by simp [Region.wanted, yielded, e39]) ?_
        exact leads_value (v := .bool false) (by go_simp) ⟨rfl, hC⟩
      refine ⟨ObS.of_val rfl (fun x v => rfl) (fun x V kst hC hD => ?_), ?_⟩
      · have e39 : x 39 = .bool false := hD.1 rfl
        have e46 : x 46 = .bool false := hD.2.1 rfl
        clear hD
        refine want_yes rfl ?_
        exact leads_value (v := .bool false) (by go_simp) ⟨rfl, hC⟩
      trivial
    · intro xa V hC hx
      have e47 : xa 47 = .bool false := hx 47 (by simp)
      have HV := Lib.hid (show Below w5.heap.size w5 V from hC)
      have HT6 := Lib.hid (HT5.out.step hC)
      clear hx hC D1 D0 DX E1 E2 B2 HT5
      rw [e47]
      clear e47
      generalize xa 0 = y62 at *
      generalize xa 1 = y63 at *
      generalize xa 2 = y64 at *
      generalize xa 3 = y65 at *
      generalize xa 4 = y66 at *
      generalize xa 5 = y67 at *
      generalize xa 6 = y68 at *
      generalize xa 7 = y69 at *
      generalize xa 8 = y70 at *
      generalize xa 9 = y71 at *
      generalize xa 10 = y72 at *
      generalize xa 11 = y73 at *
      generalize xa 12 = y74 at *
      generalize xa 13 = y75 at *
      generalize xa 14 = y76 at *
      generalize xa 15 = y77 at *
      generalize xa 16 = y78 at *
      generalize xa 17 = y79 at *
      generalize xa 18 = y80 at *
      generalize xa 19 = y81 at *
      generalize xa 20 = y82 at *
      generalize xa 21 = y83 at *
      generalize xa 22 = y84 at *
      generalize xa 23 = y85 at *
      generalize xa 24 = y86 at *
      generalize xa 25 = y87 at *
      generalize xa 26 = y88 at *
      generalize xa 27 = y89 at *
      generalize xa 28 = y90 at *
      generalize xa 29 = y91 at *
      generalize xa 30 = y92 at *
      generalize xa 31 = y93 at *
      generalize xa 32 = y94 at *
      generalize xa 33 = y95 at *
      generalize xa 34 = y96 at *
      generalize xa 35 = y97 at *
      generalize xa 36 = y98 at *
      generalize xa 37 = y99 at *
      generalize xa 38 = y100 at *
      generalize xa 39 = y101 at *
      generalize xa 40 = y102 at *
      generalize xa 41 = y103 at *
      generalize xa 42 = y104 at *
      generalize xa 43 = y105 at *
      generalize xa 44 = y106 at *
      generalize xa 45 = y107 at *
      generalize xa 46 = y108 at *
      have t6 : V.cell? ⟨b1, 0, none⟩ = some (.int .i64 (X.kind : Int)) := (HT6.out.bx.cell 0).trans rfl
      have t7 : V.cell? ⟨b2, 0, none⟩ = some (.int .i64 (Y.kind : Int)) := (HT6.out.by_.cell 0).trans rfl
      by_cases hx4 : X.kind = 4
      · have dx : ((X.kind : Int) == 4) = true := by rw [hx4]; rfl
        obtain ⟨r1, r2, r3, hN⟩ := HPn.out.1 (.inl hx4)
        simp only [Prod.mk.injEq] at hN
        obtain ⟨rfl, rfl, rfl⟩ := hN
        obtain ⟨g3, o3, c4, he, hc3⟩ := pies_shape HV3.out (n := 3) rfl (by decide)
        simp only [Value.slice.injEq] at he
        obtain ⟨rfl, -, rfl⟩ := he
        have F1 := Lib.hid (show ∀ V, Below w5.heap.size w5 V → V.cell? ⟨g3, o3 + 5, none⟩ = some (.string ⟨Y.text.toArray⟩) from fun V hV => hc3 V hV 1 (by simp) 1 _ rfl)
        clear hc3 hx4 HPn HV3
        go_upto_region 9 with fail
        refine wp_region_S (fun _ U => Below V.heap.size V U) 0 [.val (.int .i64 (0 : Int)), .val (.bool true), .val (.bool true), .val (.slice (some ⟨g3, o3, none⟩) [(X, r1), (Y, r2), (endPc, r3)].length c3), .val (.int .i64 3), .val (.bool true), .val (.bool true), .val (.bool true), .val (.slice (some ⟨g3, o3, none⟩) [(X, r1), (Y, r2), (endPc, r3)].length c3), .val (.pointer (some ⟨g3, o3 + 4, none⟩)), .val (.pointer (some ⟨g3, o3 + 5, none⟩)), .val (.string ⟨Y.text.toArray⟩), .val (.pointer (some ⟨b2, 1, none⟩)), .val (.string ⟨Y.text.toArray⟩), .val (.bool true), .val (.bool true), .val (.bool true), .val (.bool true), .val (.bool true), .val (.bool true)]
          (fun x => { tmps := #[.int .u16 (a : Int), .int .u16 (b : Int), undef, undef, x 19, .slice (some ⟨g, off, none⟩) 47 cap, .pointer (some ⟨b1, 0, none⟩), .pointer (some ⟨b2, 0, none⟩), .slice (some ⟨g1, o1, none⟩) 2 c1, .int .i64 0, .int .i64 0, .slice (some ⟨g2, o2, none⟩) 3 c2, .int .i64 0, .int .i64 0, .slice (some ⟨g3, o3, none⟩) [(X, r1), (Y, r2), (endPc, r3)].length c3, .int .i64 (0 : Int), .int .i64 (0 : Int), .slice (some ⟨g, off, none⟩) 47 cap, y18, y19, y20, y21, y22, y23, y24, y25, y26, y27, y28, y29, y30, y31, y32, y33, .tuple #[.slice (some ⟨g1, o1, none⟩) 2 c1, .int .i64 0, .int .i64 0], .pointer (some ⟨b1, 1, none⟩), .string ⟨X.text.toArray⟩, .tuple #[.slice (some ⟨g1, o1, none⟩) 2 c1, .int .i64 0, .int .i64 0], .slice (some ⟨g1, o1, none⟩) 2 c1, .int .i64 0, .int .i64 0, .tuple #[.slice (some ⟨g2, o2, none⟩) 3 c2, .int .i64 0, .int .i64 0], .pointer (some ⟨b1, 1, none⟩), .string ⟨X.text.toArray⟩, .string ⟨(X.text ++ [32]).toArray⟩, .pointer (some ⟨b2, 1, none⟩), .string ⟨Y.text.toArray⟩, .string ⟨(X.text ++ 32 :: Y.text).toArray⟩, .tuple #[.slice (some ⟨g2, o2, none⟩) 3 c2, .int .i64 0, .int .i64 0], .slice (some ⟨g2, o2, none⟩) 3 c2, .int .i64 0, .int .i64 0, .tuple #[.slice (some ⟨g3, o3, none⟩) [(X, r1), (Y, r2), (endPc, r3)].length c3, .int .i64 (0 : Int), .int .i64 (0 : Int)], .pointer (some ⟨b1, 1, none⟩), .string ⟨X.text.toArray⟩, .pointer (some ⟨b2, 1, none⟩), .string ⟨Y.text.toArray⟩, .string ⟨(X.text ++ Y.text).toArray⟩, .tuple #[.slice (some ⟨g3, o3, none⟩) [(X, r1), (Y, r2), (endPc, r3)].length c3, .int .i64 (0 : Int), .int .i64 (0 : Int)], .slice (some ⟨g3, o3, none⟩) [(X, r1), (Y, r2), (endPc, r3)].length c3, .int .i64 (0 : Int), .int .i64 (0 : Int), y62, y63, y64, y65, y66, y67, y68, y69, y70, y71, y72, y73, y74, y75, y76, y77, y78, y79, y80, y81, y82, y83, y84, y85, y86, y87, y88, y89, y90, y91, y92, y93, y94, y95, y96, y97, y98, y99, y100, y101, y102, y103, y104, y105, y106, y107, y108, .bool false, .pointer (some ⟨b1, 0, none⟩), .int .i64 (X.kind : Int), .bool true, .bool true, undef, undef, undef, .bool true, x 0, x 1, x 2, x 3, x 4, x 5, x 6, x 7, x 8, x 9, x 10, x 11, x 12, x 13, x 14, x 15, x 16, x 17, x 18, undef, undef, undef, undef, undef, undef, undef, undef, undef, undef], defers := [] }) (fun i => ([undef, undef, undef, undef, undef, undef, undef, undef, undef, undef, undef, undef, undef, undef, undef, undef, undef, undef, undef, .bool false] : List Value).getD i undef) (by kernel_rfl) rfl rfl (by kernel_rfl) (by kernel_rfl) (by kernel_rfl) (by kernel_rfl) ((Below.refl _ V).drew) ?_ ?_
        · refine ⟨ObS.of_val rfl (fun x v => rfl) (fun x V kst hC hD => ?_), ?_⟩
          · clear hD
            refine want_yes rfl ?_
            exact leads_value (v := .int .i64 (0 : Int)) (by go_simp) ⟨rfl, hC⟩
          refine ⟨ObS.of_val rfl (fun x v => rfl) (fun x V kst hC hD => ?_), ?_⟩
          · have e0 : x 0 = .int .i64 (0 : Int) := hD.1 rfl
            clear hD
            refine want_yes rfl ?_
            exact leads_value (v := .bool true) (by go_simp) ⟨rfl, hC⟩
          refine ⟨ObS.of_val rfl (fun x v => rfl) (fun x V kst hC hD => ?_), ?_⟩
          · have e1 : x 1 = .bool true := hD.1 rfl
            clear hD
            refine want_yes rfl ?_
            exact leads_value (v := .bool true) (by go_simp) ⟨rfl, hC⟩
          refine ⟨ObS.of_val rfl (fun x v => rfl) (fun x V kst hC hD => ?_), ?_⟩
          · have e2 : x 2 = .bool true := hD.1 rfl
            clear hD
            refine want_yes (by simp [Region.wanted, yielded, e2]) ?_
            exact leads_value (v := .slice (some ⟨g3, o3, none⟩) [(X, r1), (Y, r2), (endPc, r3)].length c3) (by go_simp) ⟨rfl, hC⟩
          refine ⟨ObS.of_val rfl (fun x v => rfl) (fun x V kst hC hD => ?_), ?_⟩
          · have e3 : x 3 = .slice (some ⟨g3, o3, none⟩) [(X, r1), (Y, r2), (endPc, r3)].length c3 := hD.1 rfl
            have e2 : x 2 = .bool true := hD.2.1 rfl
            clear hD
            refine want_yes (by simp [Region.wanted, yielded, e2]) ?_
            exact leads_value (v := .int .i64 3) (by go_simp) ⟨rfl, hC⟩
          refine ⟨ObS.of_val rfl (fun x v => rfl) (fun x V kst hC hD => ?_), ?_⟩
          · have e4 : x 4 = .int .i64 3 := hD.1 rfl
            have e2 : x 2 = .bool true := hD.2.1 rfl
            clear hD
            refine want_yes (by simp [Region.wanted, yielded, e2]) ?_
            exact leads_value (v := .bool true) (by go_simp) ⟨rfl, hC⟩
          refine ⟨ObS.of_val rfl (fun x v => rfl) (fun x V kst hC hD => ?_), ?_⟩
          · have e2 : x 2 = .bool true := hD.1 rfl
            have e5 : x 5 = .bool true := hD.2.1 rfl
            clear hD
            refine want_yes rfl ?_
            exact leads_value (v := .bool true) (by go_simp) ⟨rfl, hC⟩
          refine ⟨ObS.of_val rfl (fun x v => rfl) (fun x V kst hC hD => ?_), ?_⟩
          · have e6 : x 6 = .bool true := hD.1 rfl
            clear hD
            refine want_yes rfl ?_
            exact leads_value (v := .bool true) (by go_simp) ⟨rfl, hC⟩
          refine ⟨ObS.of_val rfl (fun x v => rfl) (fun x V kst hC hD => ?_), ?_⟩
          · have e7 : x 7 = .bool true := hD.1 rfl
            clear hD
            refine want_yes (by simp [Region.wanted, yielded, e7]) ?_
            exact leads_value (v := .slice (some ⟨g3, o3, none⟩) [(X, r1), (Y, r2), (endPc, r3)].length c3) (by go_simp) ⟨rfl, hC⟩
          refine ⟨ObS.of_val rfl (fun x v => rfl) (fun x V kst hC hD => ?_), ?_⟩
          · have e8 : x 8 = .slice (some ⟨g3, o3, none⟩) [(X, r1), (Y, r2), (endPc, r3)].length c3 := hD.1 rfl
            have e7 : x 7 = .bool true := hD.2.1 rfl
            clear hD
            refine want_yes (by simp [Region.wanted, yielded, e7]) ?_
            exact leads_value (v := .pointer (some ⟨g3, o3 + 4, none⟩)) (by go_simp) ⟨rfl, hC⟩
          refine ⟨ObS.of_val rfl (fun x v => rfl) (fun x V kst hC hD => ?_), ?_⟩
          · have e9 : x 9 = .pointer (some ⟨g3, o3 + 4, none⟩) := hD.1 rfl
            have e7 : x 7 = .bool true := hD.2.1 rfl
            clear hD
            refine want_yes (by simp [Region.wanted, yielded, e7]) ?_
            exact leads_value (v := .pointer (some ⟨g3, o3 + 5, none⟩)) (by go_simp) ⟨rfl, hC⟩
          refine ⟨ObS.of_val rfl (fun x v => rfl) (fun x V kst hC hD => ?_), ?_⟩
          · have e10 : x 10 = .pointer (some ⟨g3, o3 + 5, none⟩) := hD.1 rfl
            have e7 : x 7 = .bool true := hD.2.1 rfl
            clear hD
            refine want_yes (by simp [Region.wanted, yielded, e7]) ?_
            have k0 := F1.out _ (HV.out.trans (hC.mono HV.out.size))
            exact leads_value (v := .string ⟨Y.text.toArray⟩) (by go_simp) ⟨rfl, hC⟩
          refine ⟨ObS.of_val rfl (fun x v => rfl) (fun x V kst hC hD => ?_), ?_⟩
          · have e7 : x 7 = .bool true := hD.1 rfl
            clear hD
            refine want_yes (by simp [Region.wanted, yielded, e7]) ?_
            exact leads_value (v := .pointer (some ⟨b2, 1, none⟩)) (by go_simp) ⟨rfl, hC⟩
          refine ⟨ObS.of_val rfl (fun x v => rfl) (fun x V kst hC hD => ?_), ?_⟩
          · have e12 : x 12 = .pointer (some ⟨b2, 1, none⟩) := hD.1 rfl
            have e7 : x 7 = .bool true := hD.2.1 rfl
            clear hD
            refine want_yes (by simp [Region.wanted, yielded, e7]) ?_
            have k0 := B1.out _ (HV.out.trans (hC.mono HV.out.size))
            exact leads_value (v := .string ⟨Y.text.toArray⟩) (by go_simp) ⟨rfl, hC⟩
          refine ⟨ObS.of_val rfl (fun x v => rfl) (fun x V kst hC hD => ?_), ?_⟩
          · have e11 : x 11 = .string ⟨Y.text.toArray⟩ := hD.1 rfl
            have e13 : x 13 = .string ⟨Y.text.toArray⟩ := hD.2.1 rfl
            have e7 : x 7 = .bool true := hD.2.2.1 rfl
            clear hD
            refine want_yes (by simp [Region.wanted, yielded, e7]) ?_
            exact leads_value (v := .bool true) (by go_simp) ⟨rfl, hC⟩
          refine ⟨ObS.of_val rfl (fun x v => rfl) (fun x V kst hC hD => ?_), ?_⟩
          · have e7 : x 7 = .bool true := hD.1 rfl
            have e14 : x 14 = .bool true := hD.2.1 rfl
            clear hD
            refine want_yes rfl ?_
            exact leads_value (v := .bool true) (by go_simp) ⟨rfl, hC⟩
          refine ⟨ObS.of_val rfl (fun x v => rfl) (fun x V kst hC hD => ?_), ?_⟩
          · have e15 : x 15 = .bool true := hD.1 rfl
            clear hD
            refine want_yes rfl ?_
            exact leads_value (v := .bool true) (by go_simp) ⟨rfl, hC⟩
          refine ⟨ObS.of_val rfl (fun x v => rfl) (fun x V kst hC hD => ?_), ?_⟩
          · have e16 : x 16 = .bool true := hD.1 rfl
            clear hD
            refine want_yes (by simp [Region.wanted, yielded, e16]) ?_
            exact leads_enter2 (by go_simp) ((HAl.out _ ((HT6.out.below.trans (hC.mono HT6.out.below.size)))).mono fun e w'' ⟨he, hB⟩ => ⟨_, he, rfl, hC.trans (hB.mono hC.size)⟩)
          refine ⟨ObS.of_val rfl (fun x v => rfl) (fun x V kst hC hD => ?_), ?_⟩
          · have e16 : x 16 = .bool true := hD.1 rfl
            have e17 : x 17 = .bool true := hD.2.1 rfl
            clear hD
            refine want_yes rfl ?_
            exact leads_value (v := .bool true) (by go_simp) ⟨rfl, hC⟩
          refine ⟨ObS.of_val rfl (fun x v => rfl) (fun x V kst hC hD => ?_), ?_⟩
          · have e18 : x 18 = .bool true := hD.1 rfl
            clear hD
            refine want_yes rfl ?_
            exact leads_value (v := .bool true) (by go_simp) ⟨rfl, hC⟩
          trivial
        · intro xb U hC hx
          have e19 : xb 19 = .bool true := hx 19 (by simp)
          have HU := Lib.hid (HT6.out.below.trans (hC.mono HT6.out.below.size))
          clear hx hC
          rw [e19]
          go_wp2_with fail
          go_ret
          exact ⟨rfl, HU.out⟩
      · have dx : ((X.kind : Int) == 4) = false := by simp; omega
        by_cases hy4 : Y.kind = 4
        · have dy : ((Y.kind : Int) == 4) = true := by rw [hy4]; rfl
          obtain ⟨r1, r2, r3, hN⟩ := HPn.out.1 (.inr hy4)
          simp only [Prod.mk.injEq] at hN
          obtain ⟨rfl, rfl, rfl⟩ := hN
          obtain ⟨g3, o3, c4, he, hc3⟩ := pies_shape HV3.out (n := 3) rfl (by decide)
          simp only [Value.slice.injEq] at he
          obtain ⟨rfl, -, rfl⟩ := he
          have F1 := Lib.hid (show ∀ V, Below w5.heap.size w5 V → V.cell? ⟨g3, o3 + 5, none⟩ = some (.string ⟨Y.text.toArray⟩) from fun V hV => hc3 V hV 1 (by simp) 1 _ rfl)
          clear hc3 hx4 hy4 HPn HV3
          go_upto_region 9 with fail
          refine wp_region_S (fun _ U => Below V.heap.size V U) 0 [.val (.int .i64 (0 : Int)), .val (.bool true), .val (.bool true), .val (.slice (some ⟨g3, o3, none⟩) [(X, r1), (Y, r2), (endPc, r3)].length c3), .val (.int .i64 3), .val (.bool true), .val (.bool true), .val (.bool true), .val (.slice (some ⟨g3, o3, none⟩) [(X, r1), (Y, r2), (endPc, r3)].length c3), .val (.pointer (some ⟨g3, o3 + 4, none⟩)), .val (.pointer (some ⟨g3, o3 + 5, none⟩)), .val (.string ⟨Y.text.toArray⟩), .val (.pointer (some ⟨b2, 1, none⟩)), .val (.string ⟨Y.text.toArray⟩), .val (.bool true), .val (.bool true), .val (.bool true), .val (.bool true), .val (.bool true), .val (.bool true)]
            (fun x => { tmps := #[.int .u16 (a : Int), .int .u16 (b : Int), undef, undef, x 19, .slice (some ⟨g, off, none⟩) 47 cap, .pointer (some ⟨b1, 0, none⟩), .pointer (some ⟨b2, 0, none⟩), .slice (some ⟨g1, o1, none⟩) 2 c1, .int .i64 0, .int .i64 0, .slice (some ⟨g2, o2, none⟩) 3 c2, .int .i64 0, .int .i64 0, .slice (some ⟨g3, o3, none⟩) [(X, r1), (Y, r2), (endPc, r3)].length c3, .int .i64 (0 : Int), .int .i64 (0 : Int), .slice (some ⟨g, off, none⟩) 47 cap, y18, y19, y20, y21, y22, y23, y24, y25, y26, y27, y28, y29, y30, y31, y32, y33, .tuple #[.slice (some ⟨g1, o1, none⟩) 2 c1, .int .i64 0, .int .i64 0], .pointer (some ⟨b1, 1, none⟩), .string ⟨X.text.toArray⟩, .tuple #[.slice (some ⟨g1, o1, none⟩) 2 c1, .int .i64 0, .int .i64 0], .slice (some ⟨g1, o1, none⟩) 2 c1, .int .i64 0, .int .i64 0, .tuple #[.slice (some ⟨g2, o2, none⟩) 3 c2, .int .i64 0, .int .i64 0], .pointer (some ⟨b1, 1, none⟩), .string ⟨X.text.toArray⟩, .string ⟨(X.text ++ [32]).toArray⟩, .pointer (some ⟨b2, 1, none⟩), .string ⟨Y.text.toArray⟩, .string ⟨(X.text ++ 32 :: Y.text).toArray⟩, .tuple #[.slice (some ⟨g2, o2, none⟩) 3 c2, .int .i64 0, .int .i64 0], .slice (some ⟨g2, o2, none⟩) 3 c2, .int .i64 0, .int .i64 0, .tuple #[.slice (some ⟨g3, o3, none⟩) [(X, r1), (Y, r2), (endPc, r3)].length c3, .int .i64 (0 : Int), .int .i64 (0 : Int)], .pointer (some ⟨b1, 1, none⟩), .string ⟨X.text.toArray⟩, .pointer (some ⟨b2, 1, none⟩), .string ⟨Y.text.toArray⟩, .string ⟨(X.text ++ Y.text).toArray⟩, .tuple #[.slice (some ⟨g3, o3, none⟩) [(X, r1), (Y, r2), (endPc, r3)].length c3, .int .i64 (0 : Int), .int .i64 (0 : Int)], .slice (some ⟨g3, o3, none⟩) [(X, r1), (Y, r2), (endPc, r3)].length c3, .int .i64 (0 : Int), .int .i64 (0 : Int), y62, y63, y64, y65, y66, y67, y68, y69, y70, y71, y72, y73, y74, y75, y76, y77, y78, y79, y80, y81, y82, y83, y84, y85, y86, y87, y88, y89, y90, y91, y92, y93, y94, y95, y96, y97, y98, y99, y100, y101, y102, y103, y104, y105, y106, y107, y108, .bool false, .pointer (some ⟨b1, 0, none⟩), .int .i64 (X.kind : Int), .bool false, .bool false, .pointer (some ⟨b2, 0, none⟩), .int .i64 (Y.kind : Int), .bool true, .bool true, x 0, x 1, x 2, x 3, x 4, x 5, x 6, x 7, x 8, x 9, x 10, x 11, x 12, x 13, x 14, x 15, x 16, x 17, x 18, undef, undef, undef, undef, undef, undef, undef, undef, undef, undef], defers := [] }) (fun i => ([undef, undef, undef, undef, undef, undef, undef, undef, undef, undef, undef, undef, undef, undef, undef, undef, undef, undef, undef, .bool false] : List Value).getD i undef) (by kernel_rfl) rfl rfl (by kernel_rfl) (by kernel_rfl) (by kernel_rfl) (by kernel_rfl) ((Below.refl _ V).drew) ?_ ?_
          · refine ⟨ObS.of_val rfl (fun x v => rfl) (fun x V kst hC hD => ?_), ?_⟩
            · clear hD
              refine want_yes rfl ?_
              exact leads_value (v := .int .i64 (0 : Int)) (by go_simp) ⟨rfl, hC⟩
            refine ⟨ObS.of_val rfl (fun x v => rfl) (fun x V kst hC hD => ?_), ?_⟩
            · have e0 : x 0 = .int .i64 (0 : Int) := hD.1 rfl
              clear hD
              refine want_yes rfl ?_
              exact leads_value (v := .bool true) (by go_simp) ⟨rfl, hC⟩
            refine ⟨ObS.of_val rfl (fun x v => rfl) (fun x V kst hC hD => ?_), ?_⟩
            · have e1 : x 1 = .bool true := hD.1 rfl
              clear hD
              refine want_yes rfl ?_
              exact leads_value (v := .bool true) (by go_simp) ⟨rfl, hC⟩
            refine ⟨ObS.of_val rfl (fun x v => rfl) (fun x V kst hC hD => ?_), ?_⟩
            · have e2 : x 2 = .bool true := hD.1 rfl
              clear hD
              refine want_yes (by simp [Region.wanted, yielded, e2]) ?_
              exact leads_value (v := .slice (some ⟨g3, o3, none⟩) [(X, r1), (Y, r2), (endPc, r3)].length c3) (by go_simp) ⟨rfl, hC⟩
            refine ⟨ObS.of_val rfl (fun x v => rfl) (fun x V kst hC hD => ?_), ?_⟩
            · have e3 : x 3 = .slice (some ⟨g3, o3, none⟩) [(X, r1), (Y, r2), (endPc, r3)].length c3 := hD.1 rfl
              have e2 : x 2 = .bool true := hD.2.1 rfl
              clear hD
              refine want_yes (by simp [Region.wanted, yielded, e2]) ?_
              exact leads_value (v := .int .i64 3) (by go_simp) ⟨rfl, hC⟩
            refine ⟨ObS.of_val rfl (fun x v => rfl) (fun x V kst hC hD => ?_), ?_⟩
            · have e4 : x 4 = .int .i64 3 := hD.1 rfl
              have e2 : x 2 = .bool true := hD.2.1 rfl
              clear hD
              refine want_yes (by simp [Region.wanted, yielded, e2]) ?_
              exact leads_value (v := .bool true) (by go_simp) ⟨rfl, hC⟩
            refine ⟨ObS.of_val rfl (fun x v => rfl) (fun x V kst hC hD => ?_), ?_⟩
            · have e2 : x 2 = .bool true := hD.1 rfl
              have e5 : x 5 = .bool true := hD.2.1 rfl
              clear hD
              refine want_yes rfl ?_
              exact leads_value (v := .bool true) (by go_simp) ⟨rfl, hC⟩
            refine ⟨ObS.of_val rfl (fun x v => rfl) (fun x V kst hC hD => ?_), ?_⟩
            · have e6 : x 6 = .bool true := hD.1 rfl
              clear hD
              refine want_yes rfl ?_
              exact leads_value (v := .bool true) (by go_simp) ⟨rfl, hC⟩
            refine ⟨ObS.of_val rfl (fun x v => rfl) (fun x V kst hC hD => ?_), ?_⟩
            · have e7 : x 7 = .bool true := hD.1 rfl
              clear hD
              refine want_yes (by simp [Region.wanted, yielded, e7]) ?_
              exact leads_value (v := .slice (some ⟨g3, o3, none⟩) [(X, r1), (Y, r2), (endPc, r3)].length c3) (by go_simp) ⟨rfl, hC⟩
            refine ⟨ObS.of_val rfl (fun x v => rfl) (fun x V kst hC hD => ?_), ?_⟩
            · have e8 : x 8 = .slice (some ⟨g3, o3, none⟩) [(X, r1), (Y, r2), (endPc, r3)].length c3 := hD.1 rfl
              have e7 : x 7 = .bool true := hD.2.1 rfl
              clear hD
              refine want_yes (by simp [Region.wanted, yielded, e7]) ?_
              exact leads_value (v := .pointer (some ⟨g3, o3 + 4, none⟩)) (by go_simp) ⟨rfl, hC⟩
            refine ⟨ObS.of_val rfl (fun x v => rfl) (fun x V kst hC hD => ?_), ?_⟩
            · have e9 : x 9 = .pointer (some ⟨g3, o3 + 4, none⟩) := hD.1 rfl
              have e7 : x 7 = .bool true := hD.2.1 rfl
              clear hD
              refine want_yes (by simp [Region.wanted, yielded, e7]) ?_
              exact leads_value (v := .pointer (some ⟨g3, o3 + 5, none⟩)) (by go_simp) ⟨rfl, hC⟩
            refine ⟨ObS.of_val rfl (fun x v => rfl) (fun x V kst hC hD => ?_), ?_⟩
            · have e10 : x 10 = .pointer (some ⟨g3, o3 + 5, none⟩) := hD.1 rfl
              have e7 : x 7 = .bool true := hD.2.1 rfl
              clear hD
              refine want_yes (by simp [Region.wanted, yielded, e7]) ?_
              have k0 := F1.out _ (HV.out.trans (hC.mono HV.out.size))
              exact leads_value (v := .string ⟨Y.text.toArray⟩) (by go_simp) ⟨rfl, hC⟩
            refine ⟨ObS.of_val rfl (fun x v => rfl) (fun x V kst hC hD => ?_), ?_⟩
            · have e7 : x 7 = .bool true := hD.1 rfl
              clear hD
              refine want_yes (by simp [Region.wanted, yielded, e7]) ?_
              exact leads_value (v := .pointer (some ⟨b2, 1, none⟩)) (by go_simp) ⟨rfl, hC⟩
            refine ⟨ObS.of_val rfl (fun x v => rfl) (fun x V kst hC hD => ?_), ?_⟩
            · have e12 : x 12 = .pointer (some ⟨b2, 1, none⟩) := hD.1 rfl
              have e7 : x 7 = .bool true := hD.2.1 rfl
              clear hD
              refine want_yes (by simp [Region.wanted, yielded, e7]) ?_
              have k0 := B1.out _ (HV.out.trans (hC.mono HV.out.size))
              exact leads_value (v := .string ⟨Y.text.toArray⟩) (by go_simp) ⟨rfl, hC⟩
            refine ⟨ObS.of_val rfl (fun x v => rfl) (fun x V kst hC hD => ?_), ?_⟩
            · have e11 : x 11 = .string ⟨Y.text.toArray⟩ := hD.1 rfl
              have e13 : x 13 = .string ⟨Y.text.toArray⟩ := hD.2.1 rfl
              have e7 : x 7 = .bool true := hD.2.2.1 rfl
              clear hD
              refine want_yes (by simp [Region.wanted, yielded, e7]) ?_
              exact leads_value (v := .bool true) (by go_simp) ⟨rfl, hC⟩
            refine ⟨ObS.of_val rfl (fun x v => rfl) (fun x V kst hC hD => ?_), ?_⟩
            · have e7 : x 7 = .bool true := hD.1 rfl
              have e14 : x 14 = .bool true := hD.2.1 rfl
              clear hD
              refine want_yes rfl ?_
              exact leads_value (v := .bool true) (by go_simp) ⟨rfl, hC⟩
            refine ⟨ObS.of_val rfl (fun x v => rfl) (fun x V kst hC hD => ?_), ?_⟩
            · have e15 : x 15 = .bool true := hD.1 rfl
              clear hD
              refine want_yes rfl ?_
              exact leads_value (v := .bool true) (by go_simp) ⟨rfl, hC⟩
            refine ⟨ObS.of_val rfl (fun x v => rfl) (fun x V kst hC hD => ?_), ?_⟩
            · have e16 : x 16 = .bool true := hD.1 rfl
              clear hD
              refine want_yes (by simp [Region.wanted, yielded, e16]) ?_
              exact leads_enter2 (by go_simp) ((HAl.out _ ((HT6.out.below.trans (hC.mono HT6.out.below.size)))).mono fun e w'' ⟨he, hB⟩ => ⟨_, he, rfl, hC.trans (hB.mono hC.size)⟩)
            refine ⟨ObS.of_val rfl (fun x v => rfl) (fun x V kst hC hD => ?_), ?_⟩
            · have e16 : x 16 = .bool true := hD.1 rfl
              have e17 : x 17 = .bool true := hD.2.1 rfl
              clear hD
              refine want_yes rfl ?_
              exact leads_value (v := .bool true) (by go_simp) ⟨rfl, hC⟩
            refine ⟨ObS.of_val rfl (fun x v => rfl) (fun x V kst hC hD => ?_), ?_⟩
            · have e18 : x 18 = .bool true := hD.1 rfl
              clear hD
              refine want_yes rfl ?_
              exact leads_value (v := .bool true) (by go_simp) ⟨rfl, hC⟩
            trivial
          · intro xb U hC hx
            have e19 : xb 19 = .bool true := hx 19 (by simp)
            have HU := Lib.hid (HT6.out.below.trans (hC.mono HT6.out.below.size))
            clear hx hC
            rw [e19]
            go_wp2_with fail
            go_ret
            exact ⟨rfl, HU.out⟩
        · have dy : ((Y.kind : Int) == 4) = false := by simp; omega
          rcases HPn.out.2 (fun h => h.elim hx4 hy4) with ⟨M, hN, hM⟩ | ⟨k, hN⟩
          · simp only [Prod.mk.injEq] at hN
            obtain ⟨rfl, rfl, rfl⟩ := hN
            rw [hM]
            clear hx4 hy4 HPn HV3
            go_wp2_with fail
            refine (HAl.out V HT6.out.below).mono ?_
            rintro e w6 ⟨rfl, hB6⟩
            have HB6 := Lib.hid (HT6.out.below.trans (hB6.mono HT6.out.below.size))
            clear hB6
            go_wp2_with fail
            go_ret
            exact ⟨rfl, HB6.out⟩
          · simp only [Prod.mk.injEq] at hN
            obtain ⟨rfl, rfl, rfl⟩ := hN
            clear hx4 hy4 HPn HV3
            go_wp2_with fail
            refine (HAl.out V HT6.out.below).mono ?_
            rintro e w6 ⟨rfl, hB6⟩
            have HB6 := Lib.hid (HT6.out.below.trans (hB6.mono HT6.out.below.size))
            clear hB6
            go_wp2_with fail
            go_ret
            exact ⟨rfl, HB6.out⟩
end Go.Proofs.YtcbphjdhafnkmaaDoor

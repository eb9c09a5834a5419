/-
  The program's differences: lines collected in ranges over a function.
-/
import Derived.Test.YtmaachmidgfhdaaGreatDoorWDpB
import Derived.Test.YtmaachmidgfhdaaGreatDoorWGraL
import Derived.Test.YtmaachmidgfhdaaGreatDoorW2
import Derived.Test.YtmaachmidgfhdaaGreatDoorWPolF
/-! DpD -/
namespace Go.Proofs.YtmaachmidgfhdaaGreatDoor
open Go.RowKit Go.Shelf

attribute [local go_sem] Oper.semAt_some

/-- A call's row is handed back, and its marks are gone. -/
theorem row_out {w : World} {w1 V : World} {D N : Nat} {m : List (List UInt8)} {o' : Obj} {v : Value} (h : StrsRow V w1.heap.size v m) (hB : Below N w V) (hN : N ≤ w1.heap.size) (hD : N ≤ D) {o : Obj} (hK : V.heap[D]? = some o) (ho : o.isCells = false) : StrsRow (V.putObj D o') N v m ∧ Below N w (V.putObj D o') :=
  ⟨own_base (ownsRow_putObj h o' hK ho) hN, hB.trans ⟨rfl, rfl, rfl, by simp [World.putObj], fun k hk => World.putObj_heap_other (by omega)⟩⟩
theorem join_len2 (wd : List UInt8) (n : Nat) (hn : n < 16) (h : wd.length ≤ 10) : (Lib.join [wd, dig n] [32]).length ≤ 1000 := by
  have := (dig_len ⟨n, hn⟩).2
  rw [join_two, List.length_append, List.length_cons]
  simp only at this
  omega
set_option maxRecDepth 100000 in
set_option maxHeartbeats 3200000 in
theorem dpEach_any (wd : List UInt8) (hwd : wd.length ≤ 10) (s : Nat) (hs : s < 65536) (w : World) (hT : TabOk w) : Calls Tryz.prog 18 #[.string ⟨wd.toArray⟩, .int .u16 (s : Int)] w fun e w' => ∃ u, e = .returned u ∧ StrsRow w' w.heap.size u ((tagsN s).flatMap fun n => [Lib.join [wd, dig n] [32]]) ∧ Below w.heap.size w w' := by
  have hB1 := belowNew w (.cells #[.string ⟨wd.toArray⟩] 9)
  have b0 := Blk.new w #[.string ⟨wd.toArray⟩] 9
  have z1 : (w.alloc (.cells #[.string ⟨wd.toArray⟩] 9)).heap.size = w.heap.size + 1 := by simp
  obtain ⟨wa, hwa⟩ : ∃ wa, wa = w.alloc (.cells #[.string ⟨wd.toArray⟩] 9) := ⟨_, rfl⟩
  rw [← hwa] at hB1 b0 z1
  have hB2 := hB1.alloc (by omega) (.cells #[.slice none 0 0] 32)
  have b1 := b0.alloc (.cells #[.slice none 0 0] 32)
  have x1 := Boxed.new wa 32 (.slice none 0 0)
  have z2 : (wa.alloc (.cells #[.slice none 0 0] 32)).heap.size = w.heap.size + 1 + 1 := by simp [z1]
  obtain ⟨w1, hw1⟩ : ∃ w1, w1 = wa.alloc (.cells #[.slice none 0 0] 32) := ⟨_, rfl⟩
  rw [← hw1] at hB2 b1 x1 z2
  have hB3 := hB2.alloc (by omega) (.cells #[.int .u16 (s : Int)] 22)
  have bN := Boxed.new w1 22 (.int .u16 (s : Int))
  have hn1 : w1.heap.size < (w1.alloc (.cells #[.int .u16 (s : Int)] 22)).heap.size := by simp
  have hL2 := (LnaW.new x1).step (belowNew w1 (.cells #[.int .u16 (s : Int)] 22))
  obtain ⟨w2, hw2⟩ : ∃ w2, w2 = w1.alloc (.cells #[.int .u16 (s : Int)] 22) := ⟨_, rfl⟩
  rw [← hw2] at hB3 bN hn1 hL2
  have HW2 := Lib.hid (show w2 = ((w.alloc (.cells #[.string ⟨wd.toArray⟩] 9)).alloc (.cells #[.slice none 0 0] 32)).alloc (.cells #[.int .u16 (s : Int)] 22) by rw [hw2, hw1, hwa])
  clear hw2 hw1 hwa
  refine (callsIn_wide (n := 3)).1 ?_
  refine callsIn_of_wp_marks Tryz.func18 rfl trivial ?_ rfl
  simp only [Tryz.ntmps18, List.size_toArray, List.length_cons, List.length_nil, Nat.reduceAdd, Nat.reduceSub, Array.replicate_succ, Array.replicate_zero, List.push_toArray, List.append_toArray, List.nil_append, List.cons_append]
  gi_wp2_with (refine ⟨trivial, ?_⟩; gi_at_call 31; refine (Each_in _ _ _).mono ?_; rintro e w' ⟨rfl, rfl⟩)
  rw [← HW2.out]
  clear HW2
  have hN3 : w.heap.size ≤ w2.heap.size := hB3.size
  have hT2 := hT.below hB3
  obtain ⟨bl, hbl⟩ : ∃ b, b = wa.heap.size := ⟨_, rfl⟩
  obtain ⟨bw, hbw⟩ : ∃ b, b = w.heap.size := ⟨_, rfl⟩
  obtain ⟨be, hbe⟩ : ∃ b, b = w1.heap.size := ⟨_, rfl⟩
  have HZ := Lib.hid (show w.heap.size ≤ bl ∧ bw ≠ bl ∧ bw < w1.heap.size ∧ w.heap.size ≤ w1.heap.size from ⟨by omega, by omega, by omega, by omega⟩)
  have HB2 := Lib.hid hB2
  rw [← hbw] at b1
  have HBl := Lib.hid b1
  rw [← hbl] at hL2
  rw [← hbe] at bN hn1
  rw [show w.heap.size + 1 + 1 = be by omega, show w.heap.size + 1 = bl by omega, show Value.pointer (some ⟨w.heap.size, 0, none⟩) = .pointer (some ⟨bw, 0, none⟩) by rw [hbw]]
  have hbe2 : w1.heap.size ≤ w2.heap.size := by omega
  clear hbl hbw hbe b0 b1 x1 z1 z2 hB1 hB2 hB3
  refine wpIn_rangeFunc_ownG rfl (by decide) (gf := 56) (lb := #[.pointer (some ⟨be, 0, none⟩)]) rfl trivial (enters_of Tryz.func56 (by kernel_rfl) rfl)
    (Each_stops 2 (by decide) be w.heap.size s hs w2 hn1 hN3 hT.2 bN.cell hT2.1) belowK_t (belowK_b hN3) (Below.refl _ _) (fun _ => rfl)
    (fun pre V => LnaW bl w1 ((valsF pre).flatMap fun n => [Lib.join [wd, dig n] [32]]) V) (fun _ _ _ => False) (liw_own _ hbe2) (fun _ _ _ _ _ hs _ _ => hs)
    hL2
    (fun x => { tmps := #[.string ⟨(wd).toArray⟩, .int .u16 (s : Int), .pointer (some ⟨bw, 0, none⟩), undef, .slice none 0 0, .pointer (some ⟨bl, 0, none⟩), .int .i64 (x.val : Int), .int .u16 (s : Int), .func (.func 56) #[] #[.pointer (some ⟨be, 0, none⟩)], .int .i64 (x.val : Int), undef, undef, undef, undef, undef, undef, undef, undef, undef], defers := [] }) ?assign ?body ?done ?stop
  case assign =>
    intro l x W3 K hK
    simp only [encT]
    gi_wp2
    exact hK
  case body =>
    rintro l pre tt W hI hlt
    have HN := Lib.hid tt.isLt
    have HJ := Lib.hid (join_len2 wd tt.val tt.isLt hwd)
    have HL := Lib.hid (valsF_snoc pre tt)
    obtain ⟨⟨v, hv, hrow⟩, hch⟩ := hI
    have hml : ((valsF pre).flatMap fun n => [Lib.join [wd, dig n] [32]]).length ≤ 1000 := by
      rw [List.length_flatMap]
      simp only [List.length_cons, List.length_nil, Nat.reduceAdd, List.map_const', List.sum_replicate_nat, Nat.mul_one, valsF_length]
      omega
    generalize hm : ((valsF pre).flatMap fun n => [Lib.join [wd, dig n] [32]]) = m at *
    have HV := Lib.hid (And.intro hv (And.intro hrow (And.intro hch hml)))
    have HBw := Lib.hid (fun (V : World) (hB : Below W.heap.size W V) => (Blk.below (hch.kept HBl.out HZ.out.2.1) hB (hch.kept HBl.out HZ.out.2.1).lt).cell 0)
    have HM := Lib.hid hm
    have hN3b : w.heap.size ≤ W.heap.size := Nat.le_trans HZ.out.2.2.2 hch.size
    clear hv hrow hch hml hm hwd
    generalize hn : tt.val = n at *
    gi_wp2
    refine wpIn_region_W (CW bl w1 v m [wd, dig n] W) 5 [.val (v), .val (.string ⟨(wd).toArray⟩), .val (.int .i64 (n : Int)), .val (.string ⟨(dig n).toArray⟩), .turn 0, .turn 1, .turn 2, .turn 3, .turn 4]
      (fun x => { tmps := #[.string ⟨(wd).toArray⟩, .int .u16 (s : Int), .pointer (some ⟨bw, 0, none⟩), undef, .slice none 0 0, .pointer (some ⟨bl, 0, none⟩), .int .i64 (n : Int), .int .u16 (s : Int), .func (.func 56) #[] #[.pointer (some ⟨be, 0, none⟩)], .int .i64 (n : Int), x 0, x 1, x 2, x 3, x 4, x 5, x 6, x 7, undef], defers := [] }) (fun i => ([undef, undef, undef, undef, undef, undef, undef, undef, undef] : List Value).getD i undef) (by kernel_rfl) rfl (by kernel_rfl) rfl (by kernel_rfl) (by kernel_rfl) (by kernel_rfl) (by kernel_rfl) ((Below.refl _ W).drew) ?_ ?_
    · refine ⟨ObW.of_val rfl (fun x v => rfl) (fun x V vs hW hC hD => ?_), ?_⟩
      · clear hD
        have hlk : vs.length ≤ 3 := hW 3 7 rfl (by kernel_rfl)
        clear hW
        refine want_yes rfl ?_
        have hB0 := CW_below hlk hC
        have k0 := (boxed_step HV.out.1 hB0).cell
        exact leads_value (v := v) (by go_simp) ⟨rfl, hC⟩
      refine ⟨ObW.of_val rfl (fun x v => rfl) (fun x V vs hW hC hD => ?_), ?_⟩
      · clear hD
        have hlk : vs.length ≤ 0 := hW 0 4 rfl (by kernel_rfl)
        clear hW
        refine want_yes rfl ?_
        obtain rfl := CW_nil hlk
        have k0 := HBw.out V hC
        exact leads_value (v := .string ⟨(wd).toArray⟩) (by go_simp) ⟨rfl, hC⟩
      refine ⟨ObW.of_val rfl (fun x v => rfl) (fun x V vs hW hC hD => ?_), ?_⟩
      · clear hD
        clear hW
        refine want_yes rfl ?_
        exact leads_value (v := .int .i64 (n : Int)) (by go_simp) ⟨rfl, hC⟩
      refine ⟨ObW.of_val rfl (fun x v => rfl) (fun x V vs hW hC hD => ?_), ?_⟩
      · have e2 : x 2 = .int .i64 (n : Int) := (hD.1 rfl).1
        clear hD
        have hlk : vs.length ≤ 0 := hW 0 4 rfl (by kernel_rfl)
        clear hW
        refine want_yes rfl ?_
        exact leads_enter2 (by go_simp) ((dpText_any n HN.out V).mono fun e w'' ⟨he, hw⟩ => ⟨_, he, rfl, hw ▸ hC⟩)
      refine ⟨ObW.of_turn rfl (fun x v => rfl) (fun x V vs hl hC hD => ?_), ?_⟩
      · obtain rfl := len_zero hl
        have e1 : x 1 = .string ⟨(wd).toArray⟩ := (hD.1 rfl).1
        have e3 : x 3 = .string ⟨(dig n).toArray⟩ := (hD.2.1 rfl).1
        clear hD
        refine want_yes rfl ?_
        refine leads_value (v := .slice (some ⟨V.heap.size, 0, none⟩) 2 2) (w' := V.alloc (.cells #[.string ⟨(wd).toArray⟩, .string ⟨(dig n).toArray⟩] 9)) (by go_simp) ?_
        exact ⟨hC.trans ((belowNew V _).mono hC.size), strs_made V [wd, dig n] _ 2 rfl rfl (by decide)⟩
      refine ⟨ObW.of_turn rfl (fun x v => rfl) (fun x V vs hl hC hD => ?_), ?_⟩
      · obtain ⟨a0, rfl⟩ := len_one hl
        have e4 : x 4 = a0 := (hD.1 rfl).1
        clear hD
        refine want_yes rfl ?_
        exact leads_enter2 (by go_simp) ((dpLine_any _ _ V hC.2 (by simp) HJ.out (by simp)).mono fun e w'' ⟨he, hB⟩ => ⟨_, he, hC.1.trans (hB.mono hC.1.size), rfl⟩)
      refine ⟨ObW.of_turn rfl (fun x v => rfl) (fun x V vs hl hC hD => ?_), ?_⟩
      · obtain ⟨a0, a1, rfl⟩ := len_two hl
        have e5 : x 5 = a1 := (hD.1 rfl).1
        clear hD
        refine want_yes rfl ?_
        obtain ⟨hC1, rfl⟩ := hC
        refine leads_value (v := .slice (some ⟨V.heap.size, 0, none⟩) 1 1) (w' := V.alloc (.cells #[.string ⟨(Lib.join [wd, dig n] [32]).toArray⟩] 9)) (by go_simp) ?_
        exact ⟨hC1.trans ((belowNew V _).mono hC1.size), _, rfl, Blk.new V _ _⟩
      refine ⟨ObW.of_turn rfl (fun x v => rfl) (fun x V vs hl hC hD => ?_), ?_⟩
      · obtain ⟨a0, a1, a2, rfl⟩ := len_three hl
        have e0 : x 0 = v := (hD.1 rfl).1
        have e6 : x 6 = a2 := (hD.2.1 rfl).1
        clear hD
        refine want_yes rfl ?_
        obtain ⟨hC1, g, rfl, hg⟩ := hC
        refine leads_append_line (v := v) (m := m) (W := W) (g := g) (l := Lib.join [wd, dig n] [32]) (.tmp 10) (.tmp 16) rfl ?_ ?_ HV.out.1 HV.out.2.1 HV.out.2.2.1 hC1 hg HV.out.2.2.2 (fun d V' h => h)
        · exact e0
        · exact e6
      refine ⟨ObW.of_turn rfl (fun x v => rfl) (fun x V vs hl hC hD => ?_), ?_⟩
      · obtain ⟨a0, a1, a2, a3, rfl⟩ := len_four hl
        have e7 : x 7 = a3 := (hD.1 rfl).1
        clear hD
        refine want_yes rfl ?_
        obtain ⟨p0, c0, rfl⟩ := owns_shape hC.row
        have kc := hC.box.cell
        have kf := hC.box.frozen
        exact leadsP_skip (w' := V.setCell ⟨bl, 0, none⟩ _) (by go_simp) (StW.of hC HV.out.1 HV.out.2.1 HV.out.2.2.1)
      trivial
    · intro xa V vs hlv hC hx
      have hS := CW_end hlv hC
      clear hx hC
      refine show _ ∧ _ ∧ _ from ⟨hS.keep.from _, hS.chg.below hN3b fun k e => ?_, ?_⟩
      · rcases e with e | e
        · exact e ▸ HZ.out.1
        · exact Nat.le_trans HZ.out.2.2.2 e
      · show LnaW bl w1 ((valsF (pre ++ [tt])).flatMap fun n => [Lib.join [wd, dig n] [32]]) V
        rw [HL.out, List.flatMap_append, HM.out]
        exact hS.li
  case done =>
    rintro D ys W hD hys hI hK
    rw [hys] at hI
    obtain ⟨⟨v, hv, hrow⟩, hch⟩ := hI
    have hB := HB2.out.trans (hch.below (Nat.le_trans (Nat.le_of_eq rfl) HZ.out.2.2.2) fun k e => e ▸ HZ.out.1)
    have hc := hv.cell
    gi_wp2
    refine ⟨by simp, .inl ⟨_, _, rfl, run_takeDeferred hK, ?_⟩⟩
    obtain ⟨h1, h2⟩ := row_out (o' := .deferred none) hrow hB HZ.out.2.2.2 (Nat.le_trans hN3 hD) hK rfl
    exact ⟨_, results_tmp rfl _ _ _, v, rfl, h1, h2⟩
  case stop =>
    rintro D c pre W _ _ h _
    exact h.elim
/-- The boxes of two policies and of the lines. -/
theorem made_pq (w : World) (p q : Pol) {w1 : World} (h : w1 = ((w.alloc (.cells (polC p) 29)).alloc (.cells (polC q) 29)).alloc (.cells #[.slice none 0 0] 32)) : w1.heap.size = w.heap.size + 3 ∧ Below w.heap.size w w1 ∧ PRow w1 w.heap.size p ∧ PRow w1 (w.heap.size + 1) q ∧ Boxed w1 (w.heap.size + 2) 32 (.slice none 0 0) := by
  have hB1 := belowNew w (.cells (polC p) 29)
  have p1 := PRow.new w p
  have z1 : (w.alloc (.cells (polC p) 29)).heap.size = w.heap.size + 1 := by simp
  generalize w.alloc (.cells (polC p) 29) = wa at *
  have hB2 := hB1.alloc (by omega) (.cells (polC q) 29)
  have p2 := p1.alloc (.cells (polC q) 29)
  have q2 := PRow.new wa q
  have z2 : (wa.alloc (.cells (polC q) 29)).heap.size = w.heap.size + 2 := by simp [z1]
  rw [z1] at q2
  generalize wa.alloc (.cells (polC q) 29) = wb at *
  have x3 := Boxed.new wb 32 (.slice none 0 0)
  rw [z2] at x3
  rw [h]
  exact ⟨by simp [z2], hB2.alloc (by omega) _, p2.alloc _, q2.alloc _, x3⟩
theorem keeps_below {W V : World} (hB : Below W.heap.size W V) : KeepsOthers W V := ⟨hB.size, fun k _ hk _ => (hB.block k (Array.getElem?_eq_some_iff.1 hk).1).trans hk⟩
theorem prow_chg {S : Nat → Prop} {w w' : World} {b : Nat} {p : Pol} (h : PRow w b p) (hc : Chg S w w') (hb : ¬ S b) : PRow w' b p := hc.kept h hb
theorem dig_len17 {n : Nat} (hn : n < 17) : (dig n).length ≤ 2 := by
  have : ∀ t : Fin 17, (dig t.val).length ≤ 2 := by decide +kernel
  exact this ⟨n, hn⟩
def roleJ (p q : Pol) (n : Nat) : List (List UInt8) := if (!p.live.testBit n || !(decide (p.s n = q.s n ∧ p.i n = q.i n))) = true then [Lib.join [[114, 111, 108, 101], dig n, textL (q.s n) (q.i n)] [32]] else []
def ownJ (p q : Pol) (n : Nat) : List (List UInt8) := if (!decide (p.owner n = q.owner n)) = true then [Lib.join [[111, 119, 110], dig n, dig (q.owner n)] [32]] else []
theorem flat_few {F : Nat → List (List UInt8)} (hF : ∀ n, (F n).length ≤ 1) : ∀ l : List Nat, (l.flatMap F).length ≤ l.length
  | [] => Nat.le_refl _
  | a :: r => by
    rw [List.flatMap_cons, List.length_append, List.length_cons]
    have h1 := hF a
    have h2 := flat_few hF r
    omega
set_option maxRecDepth 100000 in
set_option maxHeartbeats 6400000 in
theorem dpRoles_any (p q : Pol) (hp : PolOk p) (hq : PolOk q) (w : World) (hE : EnvM w) : Calls Tryz.prog 19 #[.agg (polC p), .agg (polC q)] w fun e w' => ∃ u, e = .returned u ∧ StrsRow w' w.heap.size u ((tagsN (q.live)).flatMap (roleJ p q)) ∧ Below w.heap.size w w' := by
  obtain ⟨w1, hw1⟩ : ∃ w1, w1 = ((w.alloc (.cells (polC p) 29)).alloc (.cells (polC q) 29)).alloc (.cells #[.slice none 0 0] 32) := ⟨_, rfl⟩
  obtain ⟨z1, hB2, hpr, hqr, x1⟩ := made_pq w p q hw1
  have k0 := hqr.live
  rw [hw1] at k0
  have HW1 := Lib.hid hw1
  have hS := hq.live
  clear hw1
  refine (callsIn_wide (n := 3)).1 ?_
  refine callsIn_of_wp_marks Tryz.func19 rfl trivial ?_ rfl
  simp only [Tryz.ntmps19, List.size_toArray, List.length_cons, List.length_nil, Nat.reduceAdd, Nat.reduceSub, Array.replicate_succ, Array.replicate_zero, List.push_toArray, List.append_toArray, List.nil_append, List.cons_append]
  gi_wp2_with (refine ⟨trivial, ?_⟩; gi_at_call 31; refine (Each_in _ _ _).mono ?_; rintro e w' ⟨rfl, rfl⟩)
  rw [← HW1.out]
  clear HW1 k0
  have hB3 := hB2.alloc (Nat.le_trans (Nat.le_refl _) hB2.size) (.cells #[.int .u16 ((q.live : Nat) : Int)] 22)
  have bN := Boxed.new w1 22 (.int .u16 ((q.live : Nat) : Int))
  have hn1 : w1.heap.size < (w1.alloc (.cells #[.int .u16 ((q.live : Nat) : Int)] 22)).heap.size := by simp
  have hL2 := (LnaW.new x1).step (belowNew w1 (.cells #[.int .u16 ((q.live : Nat) : Int)] 22))
  generalize w1.alloc (.cells #[.int .u16 ((q.live : Nat) : Int)] 22) = w2 at *
  have hN3 : w.heap.size ≤ w2.heap.size := hB3.size
  have hT2 := hE.tab.below hB3
  have hlb := x1.lt
  obtain ⟨bl, hbl⟩ : ∃ b, b = w.heap.size + 1 + 1 := ⟨_, rfl⟩
  obtain ⟨bq, hbq⟩ : ∃ b, b = w.heap.size + 1 := ⟨_, rfl⟩
  obtain ⟨bp, hbp⟩ : ∃ b, b = w.heap.size := ⟨_, rfl⟩
  obtain ⟨be, hbe⟩ : ∃ b, b = w1.heap.size := ⟨_, rfl⟩
  have HZ := Lib.hid (show w.heap.size ≤ bl ∧ bp ≠ bl ∧ bq ≠ bl ∧ w.heap.size ≤ w1.heap.size ∧ bp < w1.heap.size ∧ bq < w1.heap.size from ⟨by omega, by omega, by omega, hB2.size, by omega, by omega⟩)
  have HB2 := Lib.hid hB2
  have hpr2 : PRow w1 bp p := hbp ▸ hpr
  have hqr2 : PRow w1 bq q := hbq ▸ hqr
  have HPr := Lib.hid hpr2
  have HQr := Lib.hid hqr2
  rw [show w.heap.size + 2 = bl by omega] at hL2
  rw [← hbe] at bN hn1
  first | rw [show w.heap.size + 1 + 1 + 1 = be by omega] | rw [← hbe]
  rw [← hbl, ← hbq, show Value.pointer (some ⟨w.heap.size, 0, none⟩) = .pointer (some ⟨bp, 0, none⟩) by rw [hbp]]
  have hbe2 : w1.heap.size ≤ w2.heap.size := by omega
  clear hpr hqr hpr2 hqr2 x1 hB2 hB3 hlb hbl hbq hbp hbe z1
  refine wpIn_rangeFunc_ownG rfl (by decide) (gf := 56) (lb := #[.pointer (some ⟨be, 0, none⟩)]) rfl trivial (enters_of Tryz.func56 (by kernel_rfl) rfl)
    (Each_stops 2 (by decide) be w.heap.size (q.live) hS w2 hn1 hN3 hE.tab.2 bN.cell hT2.1) belowK_t (belowK_b hN3) (Below.refl _ _) (fun _ => rfl)
    (fun pre V => LnaW bl w1 ((valsF pre).flatMap (roleJ p q)) V) (fun _ _ _ => False) (liw_own _ hbe2) (fun _ _ _ _ _ hs _ _ => hs)
    hL2
    (fun x => { tmps := #[.agg (polC p), .agg (polC q), .pointer (some ⟨bp, 0, none⟩), .pointer (some ⟨bq, 0, none⟩), .slice none 0 0, .pointer (some ⟨bl, 0, none⟩), .int .i64 (x.val : Int), .pointer (some ⟨bq, 0, none⟩), .int .u16 ((q.live : Nat) : Int), .func (.func 56) #[] #[.pointer (some ⟨be, 0, none⟩)], .int .i64 (x.val : Int), undef, undef, undef, undef, undef, undef, undef, undef, undef, undef, undef, undef, undef, undef, undef, undef, undef, undef, undef, undef, undef, undef, undef, undef, undef, undef, undef, undef, undef], defers := [] }) ?assign ?body ?done ?stop
  case assign =>
    intro l x W3 K hK
    simp only [encT]
    gi_wp2
    exact hK
  case body =>
    rintro l pre tt W hI hlt
    have HN := Lib.hid tt.isLt
    have HL := Lib.hid (valsF_snoc pre tt)
    have hml : ((valsF pre).flatMap (roleJ p q)).length ≤ 1000 := by
      have := flat_few (F := roleJ p q) (fun n => by unfold roleJ; split <;> simp) (valsF pre)
      rw [valsF_length] at this
      omega
    generalize hm : ((valsF pre).flatMap (roleJ p q)) = m at *
    have HM := Lib.hid hm
    have HMl := Lib.hid hml
    have HI := Lib.hid hI
    have HP := Lib.hid (prow_chg HPr.out hI.chg HZ.out.2.1)
    have HQ := Lib.hid (prow_chg HQr.out hI.chg HZ.out.2.2.1)
    have hNW : w.heap.size ≤ W.heap.size := Nat.le_trans HZ.out.2.2.2.1 hI.chg.size
    have HEn := Lib.hid (fun (V : World) (hB : Below W.heap.size W V) => hE.1.below ((hI.below HB2.out HZ.out.1 (Nat.le_refl _)).trans (hB.mono hNW)) hE.1.lt)
    clear hI hm hml
    generalize hn : tt.val = n at *
    have i0 : (0 : Int) ≤ (n : Int) := by omega
    have i1 : (n : Int) < 16 := by have := HN.out; omega
    have HHa := Lib.hid (fun V => Has_any p.live (n : Int) V hp.live)
    rw [hasB_bit] at HHa
    have HLb := Lib.hid (And.intro (hq.s n HN.out) (hq.i n HN.out))
    have HJ := Lib.hid (show (Lib.join [[114, 111, 108, 101], dig n, textL (q.s n) (q.i n)] [32]).length ≤ 1000 from by
      have h1 := dig_len17 (n := n) (by have := HN.out; omega)
      have h2 := textL_len (q.s n) (q.i n)
      rw [join_three]
      simp; omega)
    cases hb : p.live.testBit n with
    | false =>
      rw [hb] at HHa
      have HG := Lib.hid (show roleJ p q n = [Lib.join [[114, 111, 108, 101], dig n, textL (q.s n) (q.i n)] [32]] from by unfold roleJ; rw [hb]; rfl)
      clear hb
      gi_wp2
      refine wpIn_region_S (fun _ V => Below W.heap.size W V) 0 [.val (.pointer (some ⟨bp, 0, none⟩)), .val (.int .u16 (p.live : Int)), .val (.int .i64 (n : Int)), .val (.bool false), .val (.bool true), .val (.bool true), .val undef, .val undef, .val undef, .val undef, .val undef, .val undef, .val undef, .val undef, .val undef, .val (.bool true)]
        (fun x => { tmps := #[.agg (polC p), .agg (polC q), .pointer (some ⟨bp, 0, none⟩), .pointer (some ⟨bq, 0, none⟩), .slice none 0 0, .pointer (some ⟨bl, 0, none⟩), .int .i64 (n : Int), .pointer (some ⟨bq, 0, none⟩), .int .u16 ((q.live : Nat) : Int), .func (.func 56) #[] #[.pointer (some ⟨be, 0, none⟩)], .int .i64 (n : Int), x 0, x 1, x 2, x 3, x 4, x 5, x 6, x 7, x 8, x 9, x 10, x 11, x 12, x 13, x 14, x 15, undef, undef, undef, undef, undef, undef, undef, undef, undef, undef, undef, undef, undef], defers := [] }) (fun i => ([undef, undef, undef, undef, undef, undef, undef, undef, undef, undef, undef, undef, undef, undef, undef, undef] : List Value).getD i undef) (by kernel_rfl) rfl (by kernel_rfl) rfl (by kernel_rfl) (by kernel_rfl) (by kernel_rfl) (by kernel_rfl) ((Below.refl _ W).drew) ?_ ?_
      · refine ⟨ObS.of_val rfl (fun x v => rfl) (fun x V kst hC hD => ?_), ?_⟩
        · clear hD
          refine want_yes rfl ?_
          exact leads_value (v := .pointer (some ⟨bp, 0, none⟩)) (by go_simp) ⟨rfl, hC⟩
        refine ⟨ObS.of_val rfl (fun x v => rfl) (fun x V kst hC hD => ?_), ?_⟩
        · have e0 : x 0 = .pointer (some ⟨bp, 0, none⟩) := hD.1 rfl
          clear hD
          refine want_yes rfl ?_
          have k0 := (HP.out.step hC).live
          exact leads_value (v := .int .u16 (p.live : Int)) (by go_simp) ⟨rfl, hC⟩
        refine ⟨ObS.of_val rfl (fun x v => rfl) (fun x V kst hC hD => ?_), ?_⟩
        · clear hD
          refine want_yes rfl ?_
          exact leads_value (v := .int .i64 (n : Int)) (by go_simp) ⟨rfl, hC⟩
        refine ⟨ObS.of_val rfl (fun x v => rfl) (fun x V kst hC hD => ?_), ?_⟩
        · have e1 : x 1 = .int .u16 (p.live : Int) := hD.1 rfl
          have e2 : x 2 = .int .i64 (n : Int) := hD.2.1 rfl
          clear hD
          refine want_yes rfl ?_
          exact leads_enter2 (by go_simp) ((HHa.out V).mono fun e w'' ⟨he, hw⟩ => ⟨_, he, rfl, hw ▸ hC⟩)
        refine ⟨ObS.of_val rfl (fun x v => rfl) (fun x V kst hC hD => ?_), ?_⟩
        · have e3 : x 3 = .bool false := hD.1 rfl
          clear hD
          refine want_yes rfl ?_
          exact leads_value (v := .bool true) (by go_simp) ⟨rfl, hC⟩
        refine ⟨ObS.of_val rfl (fun x v => rfl) (fun x V kst hC hD => ?_), ?_⟩
        · have e4 : x 4 = .bool true := hD.1 rfl
          clear hD
          refine want_yes rfl ?_
          exact leads_value (v := .bool true) (by go_simp) ⟨rfl, hC⟩
        refine ⟨ObS.of_val rfl (fun x v => rfl) (fun x V kst hC hD => ?_), ?_⟩
        · have e5 : x 5 = .bool true := hD.1 rfl
          clear hD
          exact want_no (by simp [Region.wanted, yielded, e5]) rfl
        refine ⟨ObS.of_val rfl (fun x v => rfl) (fun x V kst hC hD => ?_), ?_⟩
        · have e5 : x 5 = .bool true := hD.1 rfl
          clear hD
          exact want_no (by simp [Region.wanted, yielded, e5]) rfl
        refine ⟨ObS.of_val rfl (fun x v => rfl) (fun x V kst hC hD => ?_), ?_⟩
        · have e7 : x 7 = undef := hD.1 rfl
          have e6 : x 6 = undef := hD.2.1 rfl
          have e5 : x 5 = .bool true := hD.2.2.1 rfl
          clear hD
          exact want_no (by simp [Region.wanted, yielded, e5]) rfl
        refine ⟨ObS.of_val rfl (fun x v => rfl) (fun x V kst hC hD => ?_), ?_⟩
        · have e8 : x 8 = undef := hD.1 rfl
          have e5 : x 5 = .bool true := hD.2.1 rfl
          clear hD
          exact want_no (by simp [Region.wanted, yielded, e5]) rfl
        refine ⟨ObS.of_val rfl (fun x v => rfl) (fun x V kst hC hD => ?_), ?_⟩
        · have e5 : x 5 = .bool true := hD.1 rfl
          clear hD
          exact want_no (by simp [Region.wanted, yielded, e5]) rfl
        refine ⟨ObS.of_val rfl (fun x v => rfl) (fun x V kst hC hD => ?_), ?_⟩
        · have e5 : x 5 = .bool true := hD.1 rfl
          clear hD
          exact want_no (by simp [Region.wanted, yielded, e5]) rfl
        refine ⟨ObS.of_val rfl (fun x v => rfl) (fun x V kst hC hD => ?_), ?_⟩
        · have e11 : x 11 = undef := hD.1 rfl
          have e10 : x 10 = undef := hD.2.1 rfl
          have e5 : x 5 = .bool true := hD.2.2.1 rfl
          clear hD
          exact want_no (by simp [Region.wanted, yielded, e5]) rfl
        refine ⟨ObS.of_val rfl (fun x v => rfl) (fun x V kst hC hD => ?_), ?_⟩
        · have e12 : x 12 = undef := hD.1 rfl
          have e5 : x 5 = .bool true := hD.2.1 rfl
          clear hD
          exact want_no (by simp [Region.wanted, yielded, e5]) rfl
        refine ⟨ObS.of_val rfl (fun x v => rfl) (fun x V kst hC hD => ?_), ?_⟩
        · have e9 : x 9 = undef := hD.1 rfl
          have e13 : x 13 = undef := hD.2.1 rfl
          have e5 : x 5 = .bool true := hD.2.2.1 rfl
          clear hD
          exact want_no (by simp [Region.wanted, yielded, e5]) rfl
        refine ⟨ObS.of_val rfl (fun x v => rfl) (fun x V kst hC hD => ?_), ?_⟩
        · have e5 : x 5 = .bool true := hD.1 rfl
          have e14 : x 14 = undef := hD.2.1 rfl
          clear hD
          refine want_yes rfl ?_
          exact leads_value (v := .bool true) (by go_simp) ⟨rfl, hC⟩
        trivial
      · intro xa W4 hC hx
        have e15 : xa 15 = .bool true := hx 15 (by simp)
        have HC := Lib.hid (show Below W.heap.size W W4 from hC)
        clear hx hC
        rw [e15]
        clear e15
        generalize xa 0 = z11
        generalize xa 1 = z12
        generalize xa 2 = z13
        generalize xa 3 = z14
        generalize xa 4 = z15
        generalize xa 5 = z16
        generalize xa 6 = z17
        generalize xa 7 = z18
        generalize xa 8 = z19
        generalize xa 9 = z20
        generalize xa 10 = z21
        generalize xa 11 = z22
        generalize xa 12 = z23
        generalize xa 13 = z24
        generalize xa 14 = z25
        rename_i hgo
        refine hgo _ _ ?_
        clear hgo
        obtain ⟨⟨v, hv, hrow⟩, hch⟩ := HI.out.step HC.out
        have HV := Lib.hid (And.intro hv (And.intro hrow (And.intro hch HMl.out)))
        have HQ2 := Lib.hid (HQ.out.step HC.out)
        have HEn2 := Lib.hid (fun (V : World) (hB : Below W4.heap.size W4 V) => HEn.out V (HC.out.trans (hB.mono HC.out.size)))
        clear hv hrow hch
        gi_wp2
        refine wpIn_region_W (CW bl w1 v m [[114, 111, 108, 101], dig n, textL (q.s n) (q.i n)] W4) 5 [.val (v), .val (.int .i64 (n : Int)), .val (.string ⟨(dig n).toArray⟩), .val (.int .i64 (n : Int)), .val (.pointer (some ⟨bq, 1, none⟩)), .val (.pointer (some ⟨bq, 1 + n * 2, none⟩)), .val (.agg #[.int .u16 (q.s n : Nat), .int .u16 (q.i n : Nat)]), .val (.string ⟨(textL (q.s n) (q.i n)).toArray⟩), .turn 0, .turn 1, .turn 2, .turn 3, .turn 4]
          (fun x => { tmps := #[.agg (polC p), .agg (polC q), .pointer (some ⟨bp, 0, none⟩), .pointer (some ⟨bq, 0, none⟩), .slice none 0 0, .pointer (some ⟨bl, 0, none⟩), .int .i64 (n : Int), .pointer (some ⟨bq, 0, none⟩), .int .u16 ((q.live : Nat) : Int), .func (.func 56) #[] #[.pointer (some ⟨be, 0, none⟩)], .int .i64 (n : Int), z11, z12, z13, z14, z15, z16, z17, z18, z19, z20, z21, z22, z23, z24, z25, .bool true, x 0, x 1, x 2, x 3, x 4, x 5, x 6, x 7, x 8, x 9, x 10, x 11, undef], defers := [] }) (fun i => ([undef, undef, undef, undef, undef, undef, undef, undef, undef, undef, undef, undef, undef] : List Value).getD i undef) (by kernel_rfl) rfl (by kernel_rfl) rfl (by kernel_rfl) (by kernel_rfl) (by kernel_rfl) (by kernel_rfl) ((Below.refl _ W4).drew) ?_ ?_
        · refine ⟨ObW.of_val rfl (fun x v => rfl) (fun x V vs hW hC hD => ?_), ?_⟩
          · clear hD
            have hlk : vs.length ≤ 3 := hW 3 11 rfl (by kernel_rfl)
            clear hW
            refine want_yes rfl ?_
            have hB0 := CW_below hlk hC
            have k0 := (boxed_step HV.out.1 hB0).cell
            exact leads_value (v := v) (by go_simp) ⟨rfl, hC⟩
          refine ⟨ObW.of_val rfl (fun x v => rfl) (fun x V vs hW hC hD => ?_), ?_⟩
          · clear hD
            clear hW
            refine want_yes rfl ?_
            exact leads_value (v := .int .i64 (n : Int)) (by go_simp) ⟨rfl, hC⟩
          refine ⟨ObW.of_val rfl (fun x v => rfl) (fun x V vs hW hC hD => ?_), ?_⟩
          · have e1 : x 1 = .int .i64 (n : Int) := (hD.1 rfl).1
            clear hD
            have hlk : vs.length ≤ 0 := hW 0 8 rfl (by kernel_rfl)
            clear hW
            refine want_yes rfl ?_
            exact leads_enter2 (by go_simp) ((dpText_any n HN.out V).mono fun e w'' ⟨he, hw⟩ => ⟨_, he, rfl, hw ▸ hC⟩)
          refine ⟨ObW.of_val rfl (fun x v => rfl) (fun x V vs hW hC hD => ?_), ?_⟩
          · clear hD
            clear hW
            refine want_yes rfl ?_
            exact leads_value (v := .int .i64 (n : Int)) (by go_simp) ⟨rfl, hC⟩
          refine ⟨ObW.of_val rfl (fun x v => rfl) (fun x V vs hW hC hD => ?_), ?_⟩
          · clear hD
            clear hW
            refine want_yes rfl ?_
            exact leads_value (v := .pointer (some ⟨bq, 1, none⟩)) (by go_simp) ⟨rfl, hC⟩
          refine ⟨ObW.of_val rfl (fun x v => rfl) (fun x V vs hW hC hD => ?_), ?_⟩
          · have e4 : x 4 = .pointer (some ⟨bq, 1, none⟩) := (hD.1 rfl).1
            have e3 : x 3 = .int .i64 (n : Int) := (hD.2.1 rfl).1
            clear hD
            clear hW
            refine want_yes rfl ?_
            exact leads_value (v := .pointer (some ⟨bq, 1 + n * 2, none⟩)) (by go_simp) ⟨rfl, hC⟩
          refine ⟨ObW.of_val rfl (fun x v => rfl) (fun x V vs hW hC hD => ?_), ?_⟩
          · have e5 : x 5 = .pointer (some ⟨bq, 1 + n * 2, none⟩) := (hD.1 rfl).1
            clear hD
            have hlk : vs.length ≤ 4 := hW 4 12 rfl (by kernel_rfl)
            clear hW
            refine want_yes rfl ?_
            have hc4 := CW_chg HV.out.2.1 hlk hC
            have hq4 := prow_chg HQ2.out hc4 (fun h => h.elim HZ.out.2.2.1 (fun h => by have := HZ.out.2.2.2.2.2; omega))
            have k0 := hq4.s HN.out
            have k1 := hq4.i HN.out
            exact leads_value (v := .agg #[.int .u16 (q.s n : Nat), .int .u16 (q.i n : Nat)]) (by go_simp) ⟨rfl, hC⟩
          refine ⟨ObW.of_val rfl (fun x v => rfl) (fun x V vs hW hC hD => ?_), ?_⟩
          · have e6 : x 6 = .agg #[.int .u16 (q.s n : Nat), .int .u16 (q.i n : Nat)] := (hD.1 rfl).1
            clear hD
            have hlk : vs.length ≤ 0 := hW 0 8 rfl (by kernel_rfl)
            clear hW
            refine want_yes rfl ?_
            obtain rfl := CW_nil hlk
            exact leads_enter2 (by go_simp) ((lText_any _ _ HLb.out.1 HLb.out.2 V (HEn2.out V hC)).mono fun e w'' ⟨he, hB⟩ => ⟨_, he, rfl, Below.trans hC (hB.mono hC.size)⟩)
          refine ⟨ObW.of_turn rfl (fun x v => rfl) (fun x V vs hl hC hD => ?_), ?_⟩
          · obtain rfl := len_zero hl
            have e2 : x 2 = .string ⟨(dig n).toArray⟩ := (hD.1 rfl).1
            have e7 : x 7 = .string ⟨(textL (q.s n) (q.i n)).toArray⟩ := (hD.2.1 rfl).1
            clear hD
            refine want_yes rfl ?_
            refine leads_value (v := .slice (some ⟨V.heap.size, 0, none⟩) 3 3) (w' := V.alloc (.cells #[.string ⟨([114, 111, 108, 101]).toArray⟩, .string ⟨(dig n).toArray⟩, .string ⟨(textL (q.s n) (q.i n)).toArray⟩] 9)) (by go_simp) ?_
            exact ⟨hC.trans ((belowNew V _).mono hC.size), strs_made V [[114, 111, 108, 101], dig n, textL (q.s n) (q.i n)] _ 3 rfl rfl (by decide)⟩
          refine ⟨ObW.of_turn rfl (fun x v => rfl) (fun x V vs hl hC hD => ?_), ?_⟩
          · obtain ⟨a0, rfl⟩ := len_one hl
            have e8 : x 8 = a0 := (hD.1 rfl).1
            clear hD
            refine want_yes rfl ?_
            exact leads_enter2 (by go_simp) ((dpLine_any _ _ V hC.2 (by simp) HJ.out (by simp)).mono fun e w'' ⟨he, hB⟩ => ⟨_, he, hC.1.trans (hB.mono hC.1.size), rfl⟩)
          refine ⟨ObW.of_turn rfl (fun x v => rfl) (fun x V vs hl hC hD => ?_), ?_⟩
          · obtain ⟨a0, a1, rfl⟩ := len_two hl
            have e9 : x 9 = a1 := (hD.1 rfl).1
            clear hD
            refine want_yes rfl ?_
            obtain ⟨hC1, rfl⟩ := hC
            refine leads_value (v := .slice (some ⟨V.heap.size, 0, none⟩) 1 1) (w' := V.alloc (.cells #[.string ⟨(Lib.join [[114, 111, 108, 101], dig n, textL (q.s n) (q.i n)] [32]).toArray⟩] 9)) (by go_simp) ?_
            exact ⟨hC1.trans ((belowNew V _).mono hC1.size), _, rfl, Blk.new V _ _⟩
          refine ⟨ObW.of_turn rfl (fun x v => rfl) (fun x V vs hl hC hD => ?_), ?_⟩
          · obtain ⟨a0, a1, a2, rfl⟩ := len_three hl
            have e0 : x 0 = v := (hD.1 rfl).1
            have e10 : x 10 = a2 := (hD.2.1 rfl).1
            clear hD
            refine want_yes rfl ?_
            obtain ⟨hC1, g, rfl, hg⟩ := hC
            refine leads_append_line (v := v) (m := m) (W := W4) (g := g) (l := Lib.join [[114, 111, 108, 101], dig n, textL (q.s n) (q.i n)] [32]) (.tmp 27) (.tmp 37) rfl ?_ ?_ HV.out.1 HV.out.2.1 HV.out.2.2.1 hC1 hg HV.out.2.2.2 (fun d V' h => h)
            · exact e0
            · exact e10
          refine ⟨ObW.of_turn rfl (fun x v => rfl) (fun x V vs hl hC hD => ?_), ?_⟩
          · obtain ⟨a0, a1, a2, a3, rfl⟩ := len_four hl
            have e11 : x 11 = a3 := (hD.1 rfl).1
            clear hD
            refine want_yes rfl ?_
            obtain ⟨p0, c0, rfl⟩ := owns_shape hC.row
            have kc := hC.box.cell
            have kf := hC.box.frozen
            exact leadsP_skip (w' := V.setCell ⟨bl, 0, none⟩ _) (by go_simp) (StW.of hC HV.out.1 HV.out.2.1 HV.out.2.2.1)
          trivial
        · intro xb V vs hlv hC hx
          have hS := CW_end hlv hC
          clear hx hC
          refine show _ ∧ _ ∧ _ from ⟨((keeps_below HC.out).trans hS.keep).from _, (HC.out.mono hNW).trans (hS.chg.below (Nat.le_trans hNW HC.out.size) fun k e => ?_), ?_⟩
          · rcases e with e | e
            · exact e ▸ HZ.out.1
            · exact Nat.le_trans HZ.out.2.2.2.1 e
          · show LnaW bl w1 ((valsF (pre ++ [tt])).flatMap (roleJ p q)) V
            rw [HL.out, List.flatMap_append, HM.out, List.flatMap_cons, HG.out, List.flatMap_nil, List.append_nil]
            exact hS.li
    | true =>
      rw [hb] at HHa
      by_cases he : p.s n = q.s n ∧ p.i n = q.i n
      · have HG := Lib.hid (show roleJ p q n = [] from by unfold roleJ; rw [hb, decide_eq_true he]; rfl)
        have HE := Lib.hid he
        clear hb he
        gi_wp2
        refine wpIn_region_S (fun _ V => Below W.heap.size W V) 0 [.val (.pointer (some ⟨bp, 0, none⟩)), .val (.int .u16 (p.live : Int)), .val (.int .i64 (n : Int)), .val (.bool true), .val (.bool false), .val (.bool false), .val (.int .i64 (n : Int)), .val (.pointer (some ⟨bp, 1, none⟩)), .val (.pointer (some ⟨bp, 1 + n * 2, none⟩)), .val (.agg #[.int .u16 (p.s n : Nat), .int .u16 (p.i n : Nat)]), .val (.int .i64 (n : Int)), .val (.pointer (some ⟨bq, 1, none⟩)), .val (.pointer (some ⟨bq, 1 + n * 2, none⟩)), .val (.agg #[.int .u16 (q.s n : Nat), .int .u16 (q.i n : Nat)]), .val (.bool false), .val (.bool false)]
          (fun x => { tmps := #[.agg (polC p), .agg (polC q), .pointer (some ⟨bp, 0, none⟩), .pointer (some ⟨bq, 0, none⟩), .slice none 0 0, .pointer (some ⟨bl, 0, none⟩), .int .i64 (n : Int), .pointer (some ⟨bq, 0, none⟩), .int .u16 ((q.live : Nat) : Int), .func (.func 56) #[] #[.pointer (some ⟨be, 0, none⟩)], .int .i64 (n : Int), x 0, x 1, x 2, x 3, x 4, x 5, x 6, x 7, x 8, x 9, x 10, x 11, x 12, x 13, x 14, x 15, undef, undef, undef, undef, undef, undef, undef, undef, undef, undef, undef, undef, undef], defers := [] }) (fun i => ([undef, undef, undef, undef, undef, undef, undef, undef, undef, undef, undef, undef, undef, undef, undef, undef] : List Value).getD i undef) (by kernel_rfl) rfl (by kernel_rfl) rfl (by kernel_rfl) (by kernel_rfl) (by kernel_rfl) (by kernel_rfl) ((Below.refl _ W).drew) ?_ ?_
        · refine ⟨ObS.of_val rfl (fun x v => rfl) (fun x V kst hC hD => ?_), ?_⟩
          · clear hD
            refine want_yes rfl ?_
            exact leads_value (v := .pointer (some ⟨bp, 0, none⟩)) (by go_simp) ⟨rfl, hC⟩
          refine ⟨ObS.of_val rfl (fun x v => rfl) (fun x V kst hC hD => ?_), ?_⟩
          · have e0 : x 0 = .pointer (some ⟨bp, 0, none⟩) := hD.1 rfl
            clear hD
            refine want_yes rfl ?_
            have k0 := (HP.out.step hC).live
            exact leads_value (v := .int .u16 (p.live : Int)) (by go_simp) ⟨rfl, hC⟩
          refine ⟨ObS.of_val rfl (fun x v => rfl) (fun x V kst hC hD => ?_), ?_⟩
          · clear hD
            refine want_yes rfl ?_
            exact leads_value (v := .int .i64 (n : Int)) (by go_simp) ⟨rfl, hC⟩
          refine ⟨ObS.of_val rfl (fun x v => rfl) (fun x V kst hC hD => ?_), ?_⟩
          · have e1 : x 1 = .int .u16 (p.live : Int) := hD.1 rfl
            have e2 : x 2 = .int .i64 (n : Int) := hD.2.1 rfl
            clear hD
            refine want_yes rfl ?_
            exact leads_enter2 (by go_simp) ((HHa.out V).mono fun e w'' ⟨he, hw⟩ => ⟨_, he, rfl, hw ▸ hC⟩)
          refine ⟨ObS.of_val rfl (fun x v => rfl) (fun x V kst hC hD => ?_), ?_⟩
          · have e3 : x 3 = .bool true := hD.1 rfl
            clear hD
            refine want_yes rfl ?_
            exact leads_value (v := .bool false) (by go_simp) ⟨rfl, hC⟩
          refine ⟨ObS.of_val rfl (fun x v => rfl) (fun x V kst hC hD => ?_), ?_⟩
          · have e4 : x 4 = .bool false := hD.1 rfl
            clear hD
            refine want_yes rfl ?_
            exact leads_value (v := .bool false) (by go_simp) ⟨rfl, hC⟩
          refine ⟨ObS.of_val rfl (fun x v => rfl) (fun x V kst hC hD => ?_), ?_⟩
          · have e5 : x 5 = .bool false := hD.1 rfl
            clear hD
            refine want_yes (by simp [Region.wanted, yielded, e5]) ?_
            exact leads_value (v := .int .i64 (n : Int)) (by go_simp) ⟨rfl, hC⟩
          refine ⟨ObS.of_val rfl (fun x v => rfl) (fun x V kst hC hD => ?_), ?_⟩
          · have e5 : x 5 = .bool false := hD.1 rfl
            clear hD
            refine want_yes (by simp [Region.wanted, yielded, e5]) ?_
            exact leads_value (v := .pointer (some ⟨bp, 1, none⟩)) (by go_simp) ⟨rfl, hC⟩
          refine ⟨ObS.of_val rfl (fun x v => rfl) (fun x V kst hC hD => ?_), ?_⟩
          · have e7 : x 7 = .pointer (some ⟨bp, 1, none⟩) := hD.1 rfl
            have e6 : x 6 = .int .i64 (n : Int) := hD.2.1 rfl
            have e5 : x 5 = .bool false := hD.2.2.1 rfl
            clear hD
            refine want_yes (by simp [Region.wanted, yielded, e5]) ?_
            exact leads_value (v := .pointer (some ⟨bp, 1 + n * 2, none⟩)) (by go_simp) ⟨rfl, hC⟩
          refine ⟨ObS.of_val rfl (fun x v => rfl) (fun x V kst hC hD => ?_), ?_⟩
          · have e8 : x 8 = .pointer (some ⟨bp, 1 + n * 2, none⟩) := hD.1 rfl
            have e5 : x 5 = .bool false := hD.2.1 rfl
            clear hD
            refine want_yes (by simp [Region.wanted, yielded, e5]) ?_
            have k0 := (HP.out.step hC).s HN.out
            have k1 := (HP.out.step hC).i HN.out
            exact leads_value (v := .agg #[.int .u16 (p.s n : Nat), .int .u16 (p.i n : Nat)]) (by go_simp) ⟨rfl, hC⟩
          refine ⟨ObS.of_val rfl (fun x v => rfl) (fun x V kst hC hD => ?_), ?_⟩
          · have e5 : x 5 = .bool false := hD.1 rfl
            clear hD
            refine want_yes (by simp [Region.wanted, yielded, e5]) ?_
            exact leads_value (v := .int .i64 (n : Int)) (by go_simp) ⟨rfl, hC⟩
          refine ⟨ObS.of_val rfl (fun x v => rfl) (fun x V kst hC hD => ?_), ?_⟩
          · have e5 : x 5 = .bool false := hD.1 rfl
            clear hD
            refine want_yes (by simp [Region.wanted, yielded, e5]) ?_
            exact leads_value (v := .pointer (some ⟨bq, 1, none⟩)) (by go_simp) ⟨rfl, hC⟩
          refine ⟨ObS.of_val rfl (fun x v => rfl) (fun x V kst hC hD => ?_), ?_⟩
          · have e11 : x 11 = .pointer (some ⟨bq, 1, none⟩) := hD.1 rfl
            have e10 : x 10 = .int .i64 (n : Int) := hD.2.1 rfl
            have e5 : x 5 = .bool false := hD.2.2.1 rfl
            clear hD
            refine want_yes (by simp [Region.wanted, yielded, e5]) ?_
            exact leads_value (v := .pointer (some ⟨bq, 1 + n * 2, none⟩)) (by go_simp) ⟨rfl, hC⟩
          refine ⟨ObS.of_val rfl (fun x v => rfl) (fun x V kst hC hD => ?_), ?_⟩
          · have e12 : x 12 = .pointer (some ⟨bq, 1 + n * 2, none⟩) := hD.1 rfl
            have e5 : x 5 = .bool false := hD.2.1 rfl
            clear hD
            refine want_yes (by simp [Region.wanted, yielded, e5]) ?_
            have k0 := (HQ.out.step hC).s HN.out
            have k1 := (HQ.out.step hC).i HN.out
            exact leads_value (v := .agg #[.int .u16 (q.s n : Nat), .int .u16 (q.i n : Nat)]) (by go_simp) ⟨rfl, hC⟩
          refine ⟨ObS.of_val rfl (fun x v => rfl) (fun x V kst hC hD => ?_), ?_⟩
          · have e9 : x 9 = .agg #[.int .u16 (p.s n : Nat), .int .u16 (p.i n : Nat)] := hD.1 rfl
            have e13 : x 13 = .agg #[.int .u16 (q.s n : Nat), .int .u16 (q.i n : Nat)] := hD.2.1 rfl
            have e5 : x 5 = .bool false := hD.2.2.1 rfl
            clear hD
            refine want_yes (by simp [Region.wanted, yielded, e5]) ?_
            have h1 := HE.out.1
            have h2 := HE.out.2
            exact leads_value (v := .bool false) (by go_simp) ⟨rfl, hC⟩
          refine ⟨ObS.of_val rfl (fun x v => rfl) (fun x V kst hC hD => ?_), ?_⟩
          · have e5 : x 5 = .bool false := hD.1 rfl
            have e14 : x 14 = .bool false := hD.2.1 rfl
            clear hD
            refine want_yes rfl ?_
            exact leads_value (v := .bool false) (by go_simp) ⟨rfl, hC⟩
          trivial
        · intro xa W4 hC hx
          have e15 : xa 15 = .bool false := hx 15 (by simp)
          have HC := Lib.hid (show Below W.heap.size W W4 from hC)
          clear hx hC
          rw [e15]
          clear e15
          generalize xa 0 = z11
          generalize xa 1 = z12
          generalize xa 2 = z13
          generalize xa 3 = z14
          generalize xa 4 = z15
          generalize xa 5 = z16
          generalize xa 6 = z17
          generalize xa 7 = z18
          generalize xa 8 = z19
          generalize xa 9 = z20
          generalize xa 10 = z21
          generalize xa 11 = z22
          generalize xa 12 = z23
          generalize xa 13 = z24
          generalize xa 14 = z25
          rename_i hgo
          refine hgo _ _ ?_
          clear hgo
          gi_wp2
          refine show _ ∧ _ ∧ _ from ⟨(keeps_below HC.out).from _, HC.out.mono hNW, ?_⟩
          show LnaW bl w1 ((valsF (pre ++ [tt])).flatMap (roleJ p q)) W4
          rw [HL.out, List.flatMap_append, HM.out, List.flatMap_cons, HG.out, List.flatMap_nil, List.append_nil, List.append_nil]
          exact HI.out.step HC.out
      · have HG := Lib.hid (show roleJ p q n = [Lib.join [[114, 111, 108, 101], dig n, textL (q.s n) (q.i n)] [32]] from by unfold roleJ; rw [hb, decide_eq_false he]; rfl)
        have HE := Lib.hid he
        clear hb he
        gi_wp2
        refine wpIn_region_S (fun _ V => Below W.heap.size W V) 0 [.val (.pointer (some ⟨bp, 0, none⟩)), .val (.int .u16 (p.live : Int)), .val (.int .i64 (n : Int)), .val (.bool true), .val (.bool false), .val (.bool false), .val (.int .i64 (n : Int)), .val (.pointer (some ⟨bp, 1, none⟩)), .val (.pointer (some ⟨bp, 1 + n * 2, none⟩)), .val (.agg #[.int .u16 (p.s n : Nat), .int .u16 (p.i n : Nat)]), .val (.int .i64 (n : Int)), .val (.pointer (some ⟨bq, 1, none⟩)), .val (.pointer (some ⟨bq, 1 + n * 2, none⟩)), .val (.agg #[.int .u16 (q.s n : Nat), .int .u16 (q.i n : Nat)]), .val (.bool true), .val (.bool true)]
          (fun x => { tmps := #[.agg (polC p), .agg (polC q), .pointer (some ⟨bp, 0, none⟩), .pointer (some ⟨bq, 0, none⟩), .slice none 0 0, .pointer (some ⟨bl, 0, none⟩), .int .i64 (n : Int), .pointer (some ⟨bq, 0, none⟩), .int .u16 ((q.live : Nat) : Int), .func (.func 56) #[] #[.pointer (some ⟨be, 0, none⟩)], .int .i64 (n : Int), x 0, x 1, x 2, x 3, x 4, x 5, x 6, x 7, x 8, x 9, x 10, x 11, x 12, x 13, x 14, x 15, undef, undef, undef, undef, undef, undef, undef, undef, undef, undef, undef, undef, undef], defers := [] }) (fun i => ([undef, undef, undef, undef, undef, undef, undef, undef, undef, undef, undef, undef, undef, undef, undef, undef] : List Value).getD i undef) (by kernel_rfl) rfl (by kernel_rfl) rfl (by kernel_rfl) (by kernel_rfl) (by kernel_rfl) (by kernel_rfl) ((Below.refl _ W).drew) ?_ ?_
        · refine ⟨ObS.of_val rfl (fun x v => rfl) (fun x V kst hC hD => ?_), ?_⟩
          · clear hD
            refine want_yes rfl ?_
            exact leads_value (v := .pointer (some ⟨bp, 0, none⟩)) (by go_simp) ⟨rfl, hC⟩
          refine ⟨ObS.of_val rfl (fun x v => rfl) (fun x V kst hC hD => ?_), ?_⟩
          · have e0 : x 0 = .pointer (some ⟨bp, 0, none⟩) := hD.1 rfl
            clear hD
            refine want_yes rfl ?_
            have k0 := (HP.out.step hC).live
            exact leads_value (v := .int .u16 (p.live : Int)) (by go_simp) ⟨rfl, hC⟩
          refine ⟨ObS.of_val rfl (fun x v => rfl) (fun x V kst hC hD => ?_), ?_⟩
          · clear hD
            refine want_yes rfl ?_
            exact leads_value (v := .int .i64 (n : Int)) (by go_simp) ⟨rfl, hC⟩
          refine ⟨ObS.of_val rfl (fun x v => rfl) (fun x V kst hC hD => ?_), ?_⟩
          · have e1 : x 1 = .int .u16 (p.live : Int) := hD.1 rfl
            have e2 : x 2 = .int .i64 (n : Int) := hD.2.1 rfl
            clear hD
            refine want_yes rfl ?_
            exact leads_enter2 (by go_simp) ((HHa.out V).mono fun e w'' ⟨he, hw⟩ => ⟨_, he, rfl, hw ▸ hC⟩)
          refine ⟨ObS.of_val rfl (fun x v => rfl) (fun x V kst hC hD => ?_), ?_⟩
          · have e3 : x 3 = .bool true := hD.1 rfl
            clear hD
            refine want_yes rfl ?_
            exact leads_value (v := .bool false) (by go_simp) ⟨rfl, hC⟩
          refine ⟨ObS.of_val rfl (fun x v => rfl) (fun x V kst hC hD => ?_), ?_⟩
          · have e4 : x 4 = .bool false := hD.1 rfl
            clear hD
            refine want_yes rfl ?_
            exact leads_value (v := .bool false) (by go_simp) ⟨rfl, hC⟩
          refine ⟨ObS.of_val rfl (fun x v => rfl) (fun x V kst hC hD => ?_), ?_⟩
          · have e5 : x 5 = .bool false := hD.1 rfl
            clear hD
            refine want_yes (by simp [Region.wanted, yielded, e5]) ?_
            exact leads_value (v := .int .i64 (n : Int)) (by go_simp) ⟨rfl, hC⟩
          refine ⟨ObS.of_val rfl (fun x v => rfl) (fun x V kst hC hD => ?_), ?_⟩
          · have e5 : x 5 = .bool false := hD.1 rfl
            clear hD
            refine want_yes (by simp [Region.wanted, yielded, e5]) ?_
            exact leads_value (v := .pointer (some ⟨bp, 1, none⟩)) (by go_simp) ⟨rfl, hC⟩
          refine ⟨ObS.of_val rfl (fun x v => rfl) (fun x V kst hC hD => ?_), ?_⟩
          · have e7 : x 7 = .pointer (some ⟨bp, 1, none⟩) := hD.1 rfl
            have e6 : x 6 = .int .i64 (n : Int) := hD.2.1 rfl
            have e5 : x 5 = .bool false := hD.2.2.1 rfl
            clear hD
            refine want_yes (by simp [Region.wanted, yielded, e5]) ?_
            exact leads_value (v := .pointer (some ⟨bp, 1 + n * 2, none⟩)) (by go_simp) ⟨rfl, hC⟩
          refine ⟨ObS.of_val rfl (fun x v => rfl) (fun x V kst hC hD => ?_), ?_⟩
          · have e8 : x 8 = .pointer (some ⟨bp, 1 + n * 2, none⟩) := hD.1 rfl
            have e5 : x 5 = .bool false := hD.2.1 rfl
            clear hD
            refine want_yes (by simp [Region.wanted, yielded, e5]) ?_
            have k0 := (HP.out.step hC).s HN.out
            have k1 := (HP.out.step hC).i HN.out
            exact leads_value (v := .agg #[.int .u16 (p.s n : Nat), .int .u16 (p.i n : Nat)]) (by go_simp) ⟨rfl, hC⟩
          refine ⟨ObS.of_val rfl (fun x v => rfl) (fun x V kst hC hD => ?_), ?_⟩
          · have e5 : x 5 = .bool false := hD.1 rfl
            clear hD
            refine want_yes (by simp [Region.wanted, yielded, e5]) ?_
            exact leads_value (v := .int .i64 (n : Int)) (by go_simp) ⟨rfl, hC⟩
          refine ⟨ObS.of_val rfl (fun x v => rfl) (fun x V kst hC hD => ?_), ?_⟩
          · have e5 : x 5 = .bool false := hD.1 rfl
            clear hD
            refine want_yes (by simp [Region.wanted, yielded, e5]) ?_
            exact leads_value (v := .pointer (some ⟨bq, 1, none⟩)) (by go_simp) ⟨rfl, hC⟩
          refine ⟨ObS.of_val rfl (fun x v => rfl) (fun x V kst hC hD => ?_), ?_⟩
          · have e11 : x 11 = .pointer (some ⟨bq, 1, none⟩) := hD.1 rfl
            have e10 : x 10 = .int .i64 (n : Int) := hD.2.1 rfl
            have e5 : x 5 = .bool false := hD.2.2.1 rfl
            clear hD
            refine want_yes (by simp [Region.wanted, yielded, e5]) ?_
            exact leads_value (v := .pointer (some ⟨bq, 1 + n * 2, none⟩)) (by go_simp) ⟨rfl, hC⟩
          refine ⟨ObS.of_val rfl (fun x v => rfl) (fun x V kst hC hD => ?_), ?_⟩
          · have e12 : x 12 = .pointer (some ⟨bq, 1 + n * 2, none⟩) := hD.1 rfl
            have e5 : x 5 = .bool false := hD.2.1 rfl
            clear hD
            refine want_yes (by simp [Region.wanted, yielded, e5]) ?_
            have k0 := (HQ.out.step hC).s HN.out
            have k1 := (HQ.out.step hC).i HN.out
            exact leads_value (v := .agg #[.int .u16 (q.s n : Nat), .int .u16 (q.i n : Nat)]) (by go_simp) ⟨rfl, hC⟩
          refine ⟨ObS.of_val rfl (fun x v => rfl) (fun x V kst hC hD => ?_), ?_⟩
          · have e9 : x 9 = .agg #[.int .u16 (p.s n : Nat), .int .u16 (p.i n : Nat)] := hD.1 rfl
            have e13 : x 13 = .agg #[.int .u16 (q.s n : Nat), .int .u16 (q.i n : Nat)] := hD.2.1 rfl
            have e5 : x 5 = .bool false := hD.2.2.1 rfl
            clear hD
            refine want_yes (by simp [Region.wanted, yielded, e5]) ?_
            have h1 := HE.out
            exact leads_value (v := .bool true) (by go_simp; intro e1 e2; exact h1 ⟨by omega, by omega⟩) ⟨rfl, hC⟩
          refine ⟨ObS.of_val rfl (fun x v => rfl) (fun x V kst hC hD => ?_), ?_⟩
          · have e5 : x 5 = .bool false := hD.1 rfl
            have e14 : x 14 = .bool true := hD.2.1 rfl
            clear hD
            refine want_yes rfl ?_
            exact leads_value (v := .bool true) (by go_simp) ⟨rfl, hC⟩
          trivial
        · intro xa W4 hC hx
          have e15 : xa 15 = .bool true := hx 15 (by simp)
          have HC := Lib.hid (show Below W.heap.size W W4 from hC)
          clear hx hC
          rw [e15]
          clear e15
          generalize xa 0 = z11
          generalize xa 1 = z12
          generalize xa 2 = z13
          generalize xa 3 = z14
          generalize xa 4 = z15
          generalize xa 5 = z16
          generalize xa 6 = z17
          generalize xa 7 = z18
          generalize xa 8 = z19
          generalize xa 9 = z20
          generalize xa 10 = z21
          generalize xa 11 = z22
          generalize xa 12 = z23
          generalize xa 13 = z24
          generalize xa 14 = z25
          rename_i hgo
          refine hgo _ _ ?_
          clear hgo
          obtain ⟨⟨v, hv, hrow⟩, hch⟩ := HI.out.step HC.out
          have HV := Lib.hid (And.intro hv (And.intro hrow (And.intro hch HMl.out)))
          have HQ2 := Lib.hid (HQ.out.step HC.out)
          have HEn2 := Lib.hid (fun (V : World) (hB : Below W4.heap.size W4 V) => HEn.out V (HC.out.trans (hB.mono HC.out.size)))
          clear hv hrow hch
          gi_wp2
          refine wpIn_region_W (CW bl w1 v m [[114, 111, 108, 101], dig n, textL (q.s n) (q.i n)] W4) 5 [.val (v), .val (.int .i64 (n : Int)), .val (.string ⟨(dig n).toArray⟩), .val (.int .i64 (n : Int)), .val (.pointer (some ⟨bq, 1, none⟩)), .val (.pointer (some ⟨bq, 1 + n * 2, none⟩)), .val (.agg #[.int .u16 (q.s n : Nat), .int .u16 (q.i n : Nat)]), .val (.string ⟨(textL (q.s n) (q.i n)).toArray⟩), .turn 0, .turn 1, .turn 2, .turn 3, .turn 4]
            (fun x => { tmps := #[.agg (polC p), .agg (polC q), .pointer (some ⟨bp, 0, none⟩), .pointer (some ⟨bq, 0, none⟩), .slice none 0 0, .pointer (some ⟨bl, 0, none⟩), .int .i64 (n : Int), .pointer (some ⟨bq, 0, none⟩), .int .u16 ((q.live : Nat) : Int), .func (.func 56) #[] #[.pointer (some ⟨be, 0, none⟩)], .int .i64 (n : Int), z11, z12, z13, z14, z15, z16, z17, z18, z19, z20, z21, z22, z23, z24, z25, .bool true, x 0, x 1, x 2, x 3, x 4, x 5, x 6, x 7, x 8, x 9, x 10, x 11, undef], defers := [] }) (fun i => ([undef, undef, undef, undef, undef, undef, undef, undef, undef, undef, undef, undef, undef] : List Value).getD i undef) (by kernel_rfl) rfl (by kernel_rfl) rfl (by kernel_rfl) (by kernel_rfl) (by kernel_rfl) (by kernel_rfl) ((Below.refl _ W4).drew) ?_ ?_
          · refine ⟨ObW.of_val rfl (fun x v => rfl) (fun x V vs hW hC hD => ?_), ?_⟩
            · clear hD
              have hlk : vs.length ≤ 3 := hW 3 11 rfl (by kernel_rfl)
              clear hW
              refine want_yes rfl ?_
              have hB0 := CW_below hlk hC
              have k0 := (boxed_step HV.out.1 hB0).cell
              exact leads_value (v := v) (by go_simp) ⟨rfl, hC⟩
            refine ⟨ObW.of_val rfl (fun x v => rfl) (fun x V vs hW hC hD => ?_), ?_⟩
            · clear hD
              clear hW
              refine want_yes rfl ?_
              exact leads_value (v := .int .i64 (n : Int)) (by go_simp) ⟨rfl, hC⟩
            refine ⟨ObW.of_val rfl (fun x v => rfl) (fun x V vs hW hC hD => ?_), ?_⟩
            · have e1 : x 1 = .int .i64 (n : Int) := (hD.1 rfl).1
              clear hD
              have hlk : vs.length ≤ 0 := hW 0 8 rfl (by kernel_rfl)
              clear hW
              refine want_yes rfl ?_
              exact leads_enter2 (by go_simp) ((dpText_any n HN.out V).mono fun e w'' ⟨he, hw⟩ => ⟨_, he, rfl, hw ▸ hC⟩)
            refine ⟨ObW.of_val rfl (fun x v => rfl) (fun x V vs hW hC hD => ?_), ?_⟩
            · clear hD
              clear hW
              refine want_yes rfl ?_
              exact leads_value (v := .int .i64 (n : Int)) (by go_simp) ⟨rfl, hC⟩
            refine ⟨ObW.of_val rfl (fun x v => rfl) (fun x V vs hW hC hD => ?_), ?_⟩
            · clear hD
              clear hW
              refine want_yes rfl ?_
              exact leads_value (v := .pointer (some ⟨bq, 1, none⟩)) (by go_simp) ⟨rfl, hC⟩
            refine ⟨ObW.of_val rfl (fun x v => rfl) (fun x V vs hW hC hD => ?_), ?_⟩
            · have e4 : x 4 = .pointer (some ⟨bq, 1, none⟩) := (hD.1 rfl).1
              have e3 : x 3 = .int .i64 (n : Int) := (hD.2.1 rfl).1
              clear hD
              clear hW
              refine want_yes rfl ?_
              exact leads_value (v := .pointer (some ⟨bq, 1 + n * 2, none⟩)) (by go_simp) ⟨rfl, hC⟩
            refine ⟨ObW.of_val rfl (fun x v => rfl) (fun x V vs hW hC hD => ?_), ?_⟩
            · have e5 : x 5 = .pointer (some ⟨bq, 1 + n * 2, none⟩) := (hD.1 rfl).1
              clear hD
              have hlk : vs.length ≤ 4 := hW 4 12 rfl (by kernel_rfl)
              clear hW
              refine want_yes rfl ?_
              have hc4 := CW_chg HV.out.2.1 hlk hC
              have hq4 := prow_chg HQ2.out hc4 (fun h => h.elim HZ.out.2.2.1 (fun h => by have := HZ.out.2.2.2.2.2; omega))
              have k0 := hq4.s HN.out
              have k1 := hq4.i HN.out
              exact leads_value (v := .agg #[.int .u16 (q.s n : Nat), .int .u16 (q.i n : Nat)]) (by go_simp) ⟨rfl, hC⟩
            refine ⟨ObW.of_val rfl (fun x v => rfl) (fun x V vs hW hC hD => ?_), ?_⟩
            · have e6 : x 6 = .agg #[.int .u16 (q.s n : Nat), .int .u16 (q.i n : Nat)] := (hD.1 rfl).1
              clear hD
              have hlk : vs.length ≤ 0 := hW 0 8 rfl (by kernel_rfl)
              clear hW
              refine want_yes rfl ?_
              obtain rfl := CW_nil hlk
              exact leads_enter2 (by go_simp) ((lText_any _ _ HLb.out.1 HLb.out.2 V (HEn2.out V hC)).mono fun e w'' ⟨he, hB⟩ => ⟨_, he, rfl, Below.trans hC (hB.mono hC.size)⟩)
            refine ⟨ObW.of_turn rfl (fun x v => rfl) (fun x V vs hl hC hD => ?_), ?_⟩
            · obtain rfl := len_zero hl
              have e2 : x 2 = .string ⟨(dig n).toArray⟩ := (hD.1 rfl).1
              have e7 : x 7 = .string ⟨(textL (q.s n) (q.i n)).toArray⟩ := (hD.2.1 rfl).1
              clear hD
              refine want_yes rfl ?_
              refine leads_value (v := .slice (some ⟨V.heap.size, 0, none⟩) 3 3) (w' := V.alloc (.cells #[.string ⟨([114, 111, 108, 101]).toArray⟩, .string ⟨(dig n).toArray⟩, .string ⟨(textL (q.s n) (q.i n)).toArray⟩] 9)) (by go_simp) ?_
              exact ⟨hC.trans ((belowNew V _).mono hC.size), strs_made V [[114, 111, 108, 101], dig n, textL (q.s n) (q.i n)] _ 3 rfl rfl (by decide)⟩
            refine ⟨ObW.of_turn rfl (fun x v => rfl) (fun x V vs hl hC hD => ?_), ?_⟩
            · obtain ⟨a0, rfl⟩ := len_one hl
              have e8 : x 8 = a0 := (hD.1 rfl).1
              clear hD
              refine want_yes rfl ?_
              exact leads_enter2 (by go_simp) ((dpLine_any _ _ V hC.2 (by simp) HJ.out (by simp)).mono fun e w'' ⟨he, hB⟩ => ⟨_, he, hC.1.trans (hB.mono hC.1.size), rfl⟩)
            refine ⟨ObW.of_turn rfl (fun x v => rfl) (fun x V vs hl hC hD => ?_), ?_⟩
            · obtain ⟨a0, a1, rfl⟩ := len_two hl
              have e9 : x 9 = a1 := (hD.1 rfl).1
              clear hD
              refine want_yes rfl ?_
              obtain ⟨hC1, rfl⟩ := hC
              refine leads_value (v := .slice (some ⟨V.heap.size, 0, none⟩) 1 1) (w' := V.alloc (.cells #[.string ⟨(Lib.join [[114, 111, 108, 101], dig n, textL (q.s n) (q.i n)] [32]).toArray⟩] 9)) (by go_simp) ?_
              exact ⟨hC1.trans ((belowNew V _).mono hC1.size), _, rfl, Blk.new V _ _⟩
            refine ⟨ObW.of_turn rfl (fun x v => rfl) (fun x V vs hl hC hD => ?_), ?_⟩
            · obtain ⟨a0, a1, a2, rfl⟩ := len_three hl
              have e0 : x 0 = v := (hD.1 rfl).1
              have e10 : x 10 = a2 := (hD.2.1 rfl).1
              clear hD
              refine want_yes rfl ?_
              obtain ⟨hC1, g, rfl, hg⟩ := hC
              refine leads_append_line (v := v) (m := m) (W := W4) (g := g) (l := Lib.join [[114, 111, 108, 101], dig n, textL (q.s n) (q.i n)] [32]) (.tmp 27) (.tmp 37) rfl ?_ ?_ HV.out.1 HV.out.2.1 HV.out.2.2.1 hC1 hg HV.out.2.2.2 (fun d V' h => h)
              · exact e0
              · exact e10
            refine ⟨ObW.of_turn rfl (fun x v => rfl) (fun x V vs hl hC hD => ?_), ?_⟩
            · obtain ⟨a0, a1, a2, a3, rfl⟩ := len_four hl
              have e11 : x 11 = a3 := (hD.1 rfl).1
              clear hD
              refine want_yes rfl ?_
              obtain ⟨p0, c0, rfl⟩ := owns_shape hC.row
              have kc := hC.box.cell
              have kf := hC.box.frozen
              exact leadsP_skip (w' := V.setCell ⟨bl, 0, none⟩ _) (by go_simp) (StW.of hC HV.out.1 HV.out.2.1 HV.out.2.2.1)
            trivial
          · intro xb V vs hlv hC hx
            have hS := CW_end hlv hC
            clear hx hC
            refine show _ ∧ _ ∧ _ from ⟨((keeps_below HC.out).trans hS.keep).from _, (HC.out.mono hNW).trans (hS.chg.below (Nat.le_trans hNW HC.out.size) fun k e => ?_), ?_⟩
            · rcases e with e | e
              · exact e ▸ HZ.out.1
              · exact Nat.le_trans HZ.out.2.2.2.1 e
            · show LnaW bl w1 ((valsF (pre ++ [tt])).flatMap (roleJ p q)) V
              rw [HL.out, List.flatMap_append, HM.out, List.flatMap_cons, HG.out, List.flatMap_nil, List.append_nil]
              exact hS.li
  case done =>
    rintro D ys W hD hys hI hK
    rw [hys] at hI
    obtain ⟨⟨v, hv, hrow⟩, hch⟩ := hI
    have hB := HB2.out.trans (hch.below HZ.out.2.2.2.1 fun k e => e ▸ HZ.out.1)
    have hc := hv.cell
    gi_wp2
    refine ⟨by simp, .inl ⟨_, _, rfl, run_takeDeferred hK, ?_⟩⟩
    obtain ⟨h1, h2⟩ := row_out (o' := .deferred none) hrow hB HZ.out.2.2.2.1 (Nat.le_trans hN3 hD) hK rfl
    exact ⟨_, results_tmp rfl _ _ _, v, rfl, h1, h2⟩
  case stop =>
    rintro D c pre W _ _ h _
    exact h.elim
end Go.Proofs.YtmaachmidgfhdaaGreatDoor

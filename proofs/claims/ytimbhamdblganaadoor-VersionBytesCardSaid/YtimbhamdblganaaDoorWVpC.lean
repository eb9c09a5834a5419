/-
  The program's stores: Commit.
-/
import Derived.Test.YtimbhamdblganaaDoorWVpB
/-! VpC -/
namespace Go.Proofs.YtimbhamdblganaaDoor
open Go.RowKit

/-- The store, and the policy that comes. -/
structure VpK (w : World) (b g : Nat) (ep : Int) (l : List Pol) (p : Pol) (V : World) : Prop where
  chg : Chg (fun k => k = b ∨ k = g) w V
  blk : Blk V b #[.int .i64 ep, .slice (some ⟨g, 0, none⟩) l.length l.length] 78
  row : PolsAt V (.slice (some ⟨g, 0, none⟩) l.length l.length) l
  pol : PRow V w.heap.size p
section
variable {w : World} {b g : Nat} {ep : Int} {l : List Pol} {p : Pol} {V V' : World}
theorem VpK.step (h : VpK w b g ep l p V) (hB : Below V.heap.size V V') : VpK w b g ep l p V' :=
  ⟨h.chg.trans (Chg.ofBelow hB), h.blk.below hB h.blk.lt, h.row.below hB (Nat.le_refl _), h.pol.step hB⟩
theorem VpK.c0 (h : VpK w b g ep l p V) : V.cell? ⟨b, 0, none⟩ = some (.int .i64 ep) := h.blk.cell 0
theorem VpK.c1 (h : VpK w b g ep l p V) : V.cell? ⟨b, 1, none⟩ = some (.slice (some ⟨g, 0, none⟩) l.length l.length) := h.blk.cell 1
/-- Behind the store: the policies lie in new memory. -/
structure VpD (w : World) (b g : Nat) (ep : Int) (l : List Pol) (V : World) : Prop where
  chg : Chg (fun k => k = b ∨ k = g) w V
  ex : ∃ g2, Blk V b #[.int .i64 ep, .slice (some ⟨g2, 0, none⟩) l.length l.length] 78 ∧ PolsAt V (.slice (some ⟨g2, 0, none⟩) l.length l.length) l ∧ w.heap.size ≤ g2 ∧ g2 < V.heap.size
theorem VpK.store (h : VpK w b g ep l p V) (hb : b < w.heap.size) {l2 : List Pol} {g2 : Nat} (h2 : PolsAt V (.slice (some ⟨g2, 0, none⟩) l2.length l2.length) l2) (hg : w.heap.size ≤ g2) (hlt : g2 < V.heap.size) : VpD w b g ep l2 (V.setCell ⟨b, 1, none⟩ (.slice (some ⟨g2, 0, none⟩) l2.length l2.length)) := by
  have hp := (Put.refl h.blk).set 1 (.slice (some ⟨g2, 0, none⟩) l2.length l2.length)
  exact ⟨h.chg.trans (hp.chg.mono fun k _ hk => .inl hk), g2, hp.blk, h2.chg hp.chg (fun a n c e hk => by cases e; have hk : g2 = b := hk; omega), hg, by simpa using hlt⟩
/-- New policies, at an address of their own. -/
def newF (N : Nat) (full : Bool) (l : List Pol) : Fact := ⟨fun v w => ∃ q c, v = .slice (some ⟨q, 0, none⟩) l.length c ∧ (full = true → c = l.length) ∧ c ≤ maxLen ∧ l.length ≤ c ∧ N ≤ q ∧ q < w.heap.size ∧ PolsAt w (.slice (some ⟨q, 0, none⟩) l.length c) l, fun _ _ _ ⟨q, c, h1, h2, h3, h4, h5, h6, h7⟩ hB => ⟨q, c, h1, h2, h3, h4, h5, Nat.lt_of_lt_of_le h6 hB.size, h7.below hB (Nat.le_refl _)⟩⟩
end
theorem veNobCommit_any : VeNobCommitC stZ := by
  intro v p w hp h
  have HM := Lib.hid (veMade_no (h.below (belowNew w (.cells (polC p) 46))))
  have HB := Lib.hid (belowNew w (.cells (polC p) 46))
  clear h hp
  go_enter Tryd.func18, Tryd.ntmps18
  go_upto_region 1 with fail
  generalize w.alloc _ = w1 at *
  go_wp2_with fail
  with_reducible refine HM.out.mono ?_
  rintro e w2 ⟨rfl, rfl⟩
  go_wp2_with fail
  go_ret
  exact ⟨rfl, HB.out⟩
set_option maxRecDepth 100000 in
set_option maxHeartbeats 1600000 in
theorem veCommit_any : VeCommitC theVer := by
  rintro w b S F p ⟨g, h, rfl⟩ hok hp
  have hpos := sto_pos hok
  have hep := hok.ep
  have hlen := hok.len
  obtain ⟨ep, l⟩ := S
  simp only at hpos hep hlen
  have hB0 := belowNew w (.cells (polC p) 46)
  have HG := Lib.hid (show VpK w b g ep l p (w.alloc (.cells (polC p) 46)) from ⟨Chg.ofBelow hB0, h.blk.below hB0 h.blk.lt, h.row.below hB0 (Nat.le_refl _), PRow.new w p⟩)
  have HS := Lib.hid (h.step hB0)
  have HM := Lib.hid (veMade_any HS.out (show 0 < l.length by omega))
  have HL := Lib.hid (And.intro h.blk.lt (And.intro h.lt h.ne))
  clear h hB0
  unfold storeV at *
  go_enter Tryd.func18, Tryd.ntmps18
  go_upto_region 1 with fail
  generalize w.alloc _ = w1 at *
  go_wp2_with fail
  with_reducible refine HM.out.mono ?_
  rintro e w2 ⟨rfl, rfl⟩
  have c0 := HG.out.c0
  by_cases h255 : ep = 255
  · subst h255
    go_wp2_with fail
    go_ret
    have hcS : comS ⟨255, l⟩ p = ⟨255, l⟩ := rfl
    exact ⟨_, rfl, by rw [hcS]; exact ⟨g, HS.out, rfl⟩, fun k hk => .inl hk, HG.out.chg⟩
  have d : ((ep : Int) == 255) = false := by rw [beq_eq_false_iff_ne]; omega
  have d2 : (ep == 255) = false := by rw [beq_eq_false_iff_ne]; omega
  have q1 : IntKind.i64.wrap ((ep : Int) + 1) = (ep : Int) + 1 := by rw [IntKind.wrap_i64]; omega
  have HK := Lib.hid (fun V => veCount_any ((ep : Int) + 1) V (by omega) (by omega))
  rw [show (ep : Int) + 1 = ((ep + 1 : Nat) : Int) from rfl, keptN_nat (show ep + 1 ≤ 255 by omega), show ((ep + 1 : Nat) : Int) = (ep : Int) + 1 from rfl] at HK
  rw [keptN_nat hep] at hlen
  obtain ⟨dr, hdr⟩ : ∃ dr, dr = l.length + 1 - min (ep + 1 + 1) 8 := ⟨_, rfl⟩
  have q2 : IntKind.i64.wrap ((l.length : Int) + 1) = (l.length : Int) + 1 := by rw [IntKind.wrap_i64]; omega
  have q3 : IntKind.i64.wrap ((l.length : Int) + 1 - ((min (ep + 1 + 1) 8 : Nat) : Int)) = (dr : Int) := by rw [IntKind.wrap_i64]; omega
  have HD := Lib.hid (show comS ⟨ep, l⟩ p = ⟨ep + 1, l.drop dr ++ [p]⟩ ∧ dr ≤ l.length ∧ comE ⟨ep, l⟩ = 0 ∧ l.length ≤ 8 ∧ dr < 2 by
    refine ⟨?_, by omega, if_neg h255, hpos.2.1, by omega⟩
    unfold comS
    rw [if_neg (show ¬ ep = 255 from h255)]
    show Sto.mk (ep + 1) ((if l.length = 8 then l.drop 1 else l) ++ [p]) = _
    congr 2
    split
    · rw [show dr = 1 by omega]
    · rw [show dr = 0 by omega, List.drop_zero])
  have f0 := HG.out.blk.free 0
  have HG2 := Lib.hid (show VpK w b g ((ep : Int) + 1) l p (w1.setCell ⟨b, 0, none⟩ (.int .i64 ((ep : Int) + 1))) from
    have hp := (Put.refl HG.out.blk).set 0 (.int .i64 ((ep : Int) + 1))
    ⟨HG.out.chg.trans (hp.chg.mono fun k _ hk => .inl hk), hp.blk, HG.out.row.chg hp.chg (fun a n c e hk => by cases e; exact HL.out.2.2 hk), hp.chg.kept HG.out.pol (fun hk => by have := HL.out.1; omega)⟩)
  have hlen' : 1 < l.length ∨ dr = 0 ∧ 0 < l.length := by omega
  clear hdr hpos hep hlen h255 HM HS
  generalize min (ep + 1 + 1) 8 = kn at *
  go_upto_region 6 with fail
  clear d d2 q1 f0 c0 HG
  generalize w1.setCell _ _ = w2 at *
  have c0 := HG2.out.c0
  have c1 := HG2.out.c1
  go_quiet (refine Calls.quiet_of_same ((HK.out _).mono fun _ _ h => ⟨h.1, h.2.symm⟩))
  have HG3 := Lib.hid (HG2.out.step (below_drewN (Below.refl _ w2) nq))
  clear HK q2 q3 c0 c1 HG2
  go_upto_region 7 with fail
  generalize w2.drewN nq = w3 at *
  clear w2 w1
  have HP := Lib.hid hp
  have hsz := Lib.hid HG3.out.chg.size
  have HNe := Lib.hid (show dr < l.length ∧ (l.drop dr).length = l.length - dr by have := HD.out; have := hlen'; rw [List.length_drop]; omega)
  refine wp_region_P (fun V => VpK w b g ((ep : Int) + 1) l p V) (fun V => VpD w b g ((ep : Int) + 1) (l.drop dr ++ [p]) V) 13 _ [.val (.pointer (some ⟨b, 0, none⟩)), .val (.pointer (some ⟨b, 0, none⟩)), .val (.pointer (some ⟨b, 0, none⟩)), .val (.pointer (some ⟨b, 1, none⟩)), .val (.slice (some ⟨g, 0, none⟩) l.length l.length), .val (.int .i64 (dr : Int)), .val (.slice (some ⟨g, dr * 66, none⟩) (l.length - dr) (l.length - dr)), .val (.agg (polC p)), .fact (newF w.heap.size true [p]), .fact (newF w.heap.size false (l.drop dr ++ [p])), .fact (newF w.heap.size true (l.drop dr ++ [p])), .pure (.pointer (some ⟨b, 0, none⟩)), .val (.pointer (some ⟨b, 1, none⟩)), .st]
    (fun x => { tmps := #[.pointer (some ⟨b, 0, none⟩), .agg (polC p), undef, .pointer (some ⟨w.heap.size, 0, none⟩), .int .i64 0, .int .i64 (dr : Int), .bool false, .pointer (some ⟨b, 0, none⟩), .bool true, .bool false, .bool false, .pointer (some ⟨b, 0, none⟩), .pointer (some ⟨b, 0, none⟩), .pointer (some ⟨b, 0, none⟩), .int .i64 (ep : Int), .bool false, .pointer (some ⟨b, 0, none⟩), .pointer (some ⟨b, 0, none⟩), .pointer (some ⟨b, 0, none⟩), .int .i64 (ep : Int), .int .i64 ((ep : Int) + 1), .pointer (some ⟨b, 0, none⟩), .pointer (some ⟨b, 0, none⟩), .pointer (some ⟨b, 0, none⟩), .pointer (some ⟨b, 0, none⟩), .pointer (some ⟨b, 1, none⟩), .slice (some ⟨g, 0, none⟩) l.length l.length, .int .i64 (l.length : Int), .int .i64 ((l.length : Int) + 1), .pointer (some ⟨b, 0, none⟩), .pointer (some ⟨b, 0, none⟩), .pointer (some ⟨b, 0, none⟩), .int .i64 ((ep : Int) + 1), .int .i64 (kn : Int), .int .i64 (dr : Int), x 0, x 1, x 2, x 3, x 4, x 5, x 6, x 7, x 8, x 9, x 10, x 11, x 12], defers := [] }) (fun i => ([undef, undef, undef, undef, undef, undef, undef, undef, undef, undef, undef, undef, undef, undef] : List Value).getD i undef) (by kernel_rfl) rfl (by decide) rfl (by kernel_rfl) (by kernel_rfl) (HG3.out.step (Below.drew (Below.refl _ w3))) ?_ ?_
  · refine ⟨ObP.of_val rfl (fun x v => rfl) (fun x V hC hD => ?_), ?_⟩
    · clear hD
      refine want_yes rfl ?_
      exact leads_value (v := .pointer (some ⟨b, 0, none⟩)) (by go_simp) ⟨rfl, hC, Below.refl _ _⟩
    refine ⟨ObP.of_val rfl (fun x v => rfl) (fun x V hC hD => ?_), ?_⟩
    · clear hD
      refine want_yes rfl ?_
      exact leads_value (v := .pointer (some ⟨b, 0, none⟩)) (by go_simp) ⟨rfl, hC, Below.refl _ _⟩
    refine ⟨ObP.of_val rfl (fun x v => rfl) (fun x V hC hD => ?_), ?_⟩
    · have e1 : x 1 = .pointer (some ⟨b, 0, none⟩) := hD.1.1 _ rfl rfl
      clear hD
      refine want_yes rfl ?_
      exact leads_value (v := .pointer (some ⟨b, 0, none⟩)) (by go_simp) ⟨rfl, hC, Below.refl _ _⟩
    refine ⟨ObP.of_val rfl (fun x v => rfl) (fun x V hC hD => ?_), ?_⟩
    · have e2 : x 2 = .pointer (some ⟨b, 0, none⟩) := hD.1.1 _ rfl rfl
      clear hD
      refine want_yes rfl ?_
      exact leads_value (v := .pointer (some ⟨b, 1, none⟩)) (by go_simp) ⟨rfl, hC, Below.refl _ _⟩
    refine ⟨ObP.of_val rfl (fun x v => rfl) (fun x V hC hD => ?_), ?_⟩
    · have e3 : x 3 = .pointer (some ⟨b, 1, none⟩) := hD.1.1 _ rfl rfl
      clear hD
      refine want_yes rfl ?_
      have k1 := hC.c1
      exact leads_value (v := .slice (some ⟨g, 0, none⟩) l.length l.length) (by go_simp) ⟨rfl, hC, Below.refl _ _⟩
    refine ⟨ObP.of_val rfl (fun x v => rfl) (fun x V hC hD => ?_), ?_⟩
    · clear hD
      refine want_yes rfl ?_
      exact leads_value (v := .int .i64 (dr : Int)) (by go_simp) ⟨rfl, hC, Below.refl _ _⟩
    refine ⟨ObP.of_val rfl (fun x v => rfl) (fun x V hC hD => ?_), ?_⟩
    · have e4 : x 4 = .slice (some ⟨g, 0, none⟩) l.length l.length := hD.1.1 _ rfl rfl
      have e5 : x 5 = .int .i64 (dr : Int) := hD.2.1.1 _ rfl rfl
      clear hD
      refine want_yes rfl ?_
      exact leads_value (exec_drop_full (k := 66) 22 46 _ _ rfl Tryd.underlying22 rfl (by exact e4) (by exact e5) HNe.out.1) ⟨rfl, hC, Below.refl _ _⟩
    refine ⟨ObP.of_val rfl (fun x v => rfl) (fun x V hC hD => ?_), ?_⟩
    · clear hD
      refine want_yes rfl ?_
      exact leads_value (exec_load_pol rfl rfl hC.pol) ⟨rfl, hC, Below.refl _ _⟩
    refine ⟨ObP.of_fact rfl (fun x v => rfl) rfl (fun x V hC hD => ?_), ?_⟩
    · have e7 : x 7 = .agg (polC p) := hD.1.1 _ rfl rfl
      clear hD
      refine leads_value (exec_build_flat polC_size (by decide) _ 46 1 _ rfl Tryd.underlying22 infoPl [p] (by simp) rfl (by show 1 * 66 ≤ 2 ^ 24; decide) (by show [(0, _)] = [(0, Value.agg (polC p))]; rw [← e7]; rfl)) ⟨⟨V.heap.size, 1, rfl, fun _ => rfl, by unfold maxLen; decide, Nat.le_refl _, hC.chg.size, by simp, SlAt.ofBlk polC_size (Blk.new V _ _) (by show 1 ≤ _; decide) (fun c hc => by rw [List.mem_singleton.1 hc]; exact HP.out)⟩, hC.step (belowNew V _), belowNew V _⟩
    refine ⟨ObP.of_fact rfl (fun x v => rfl) rfl (fun x V hC hD => ?_), ?_⟩
    · have e6 : x 6 = .slice (some ⟨g, dr * 66, none⟩) (l.length - dr) (l.length - dr) := hD.1.1 _ rfl rfl
      have e8 : ∃ q c, (x 8) = .slice (some ⟨q, 0, none⟩) [p].length c ∧ (true = true → c = [p].length) ∧ c ≤ maxLen ∧ [p].length ≤ c ∧ w.heap.size ≤ q ∧ q < V.heap.size ∧ PolsAt V (.slice (some ⟨q, 0, none⟩) [p].length c) [p] := hD.2.1.2 _ rfl rfl
      clear hD
      obtain ⟨q, c, h8, -, -, -, -, -, h8r⟩ := e8
      have hr := (hC.row.drop (d := dr))
      rw [Nat.zero_add, ← HNe.out.2] at hr
      rw [← HNe.out.2] at e6
      refine leads_append_full polC_size (by decide) _ _ 22 rfl Tryd.underlying22 infoPl (by exact e6) (by exact h8) hr h8r (by simp) (by have := HD.out; have := HNe.out.2; show ((l.drop dr).length + 1) * 116 ≤ _; omega) (by have := HD.out; have := HNe.out.2; show (l.drop dr).length + 1 ≤ maxLen; unfold maxLen; omega) fun cap V' h1 h2 h3 h4 => ?_
      refine ⟨⟨V.heap.size, cap, rfl, (fun h => by cases h), h3, h2, hC.chg.size, (h1.lt _ rfl).2, SlAt.ofRow polC_size h1 (fun c hc => ?_)⟩, hC.step h4, h4⟩
      rcases List.mem_append.1 hc with hc | hc
      · exact hC.row.oks c (List.mem_of_mem_drop hc)
      · rw [List.mem_singleton.1 hc]; exact HP.out
    refine ⟨ObP.of_fact rfl (fun x v => rfl) rfl (fun x V hC hD => ?_), ?_⟩
    · have e9 : ∃ q c, (x 9) = .slice (some ⟨q, 0, none⟩) (l.drop dr ++ [p]).length c ∧ (false = true → c = (l.drop dr ++ [p]).length) ∧ c ≤ maxLen ∧ (l.drop dr ++ [p]).length ≤ c ∧ w.heap.size ≤ q ∧ q < V.heap.size ∧ PolsAt V (.slice (some ⟨q, 0, none⟩) (l.drop dr ++ [p]).length c) (l.drop dr ++ [p]) := hD.1.2 _ rfl rfl
      clear hD
      obtain ⟨q, c, h9, -, h3, h2, h4, h5, h6⟩ := e9
      exact leads_enter2 (by simp only [execOp]; go_simp) ((veLim_any (w := V) (g := q) (off := 0) h2 (by unfold maxLen at h3; exact h3)).mono fun e w'' ⟨he, hw⟩ => by subst hw; exact ⟨_, he, ⟨q, _, rfl, fun _ => rfl, by omega, Nat.le_refl _, h4, h5, h6.cut⟩, hC, Below.refl _ _⟩)
    refine ⟨ObP.of_pure rfl (fun x v => rfl) (fun x V hD => ?_), ?_⟩
    · have e0 : x 0 = .pointer (some ⟨b, 0, none⟩) := hD.1 _ rfl rfl
      clear hD
      refine want_yes rfl ?_
      exact leads_value (v := .pointer (some ⟨b, 0, none⟩)) (by go_simp) ⟨rfl, rfl⟩
    refine ⟨ObP.of_val rfl (fun x v => rfl) (fun x V hC hD => ?_), ?_⟩
    · have e11 : x 11 = .pointer (some ⟨b, 0, none⟩) := hD.1.1 _ rfl rfl
      clear hD
      refine want_yes rfl ?_
      exact leads_value (v := .pointer (some ⟨b, 1, none⟩)) (by go_simp) ⟨rfl, hC, Below.refl _ _⟩
    refine ⟨ObP.of_st rfl (fun x v => rfl) rfl (fun x V hC hD => ?_), ?_⟩
    · have e12 : x 12 = .pointer (some ⟨b, 1, none⟩) := hD.1.1 _ rfl rfl
      have e10 : ∃ q c, (x 10) = .slice (some ⟨q, 0, none⟩) (l.drop dr ++ [p]).length c ∧ (true = true → c = (l.drop dr ++ [p]).length) ∧ c ≤ maxLen ∧ (l.drop dr ++ [p]).length ≤ c ∧ w.heap.size ≤ q ∧ q < V.heap.size ∧ PolsAt V (.slice (some ⟨q, 0, none⟩) (l.drop dr ++ [p]).length c) (l.drop dr ++ [p]) := hD.2.1.2 _ rfl rfl
      clear hD
      obtain ⟨q, c, h10, hc, -, -, h4, h5, h6⟩ := e10
      obtain rfl := hc rfl
      generalize l.drop dr ++ [p] = l2 at *
      have f1 := hC.blk.free 1
      have k1 := hC.c1
      exact leadsP_skip (w' := V.setCell ⟨b, 1, none⟩ (.slice (some ⟨q, 0, none⟩) l2.length l2.length)) (by go_simp) (hC.store HL.out.1 h6 h4 h5)
    trivial
  rintro x V hD hx
  clear hx
  refine wpList_nil ?_
  go_wp2_with fail
  go_ret
  obtain ⟨hc, g2, h1, h2, h3, h4⟩ := hD
  obtain ⟨hs, -, he, -⟩ := HD.out
  refine ⟨fun k => k = b ∨ k = g2, by rw [he]; rfl, ?_, fun k hk => hk.elim (fun e => .inl (.inl e)) (fun e => .inr (by omega)), hc⟩
  rw [hs]
  exact ⟨g2, ⟨h1, h2, h4, by have := HL.out.1; omega⟩, rfl⟩
end Go.Proofs.YtimbhamdblganaaDoor

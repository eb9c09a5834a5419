/-
  The program's changes: revoke, and a role comes.
-/
import Derived.Test.YthpangacpihclaaDoorWCpH
import Derived.Test.YthpangacpihclaaDoorWChD
import Derived.Test.YthpangacpihclaaDoorW3
/-! CpI -/
namespace Go.Proofs.YthpangacpihclaaDoor
open Go.RowKit

def chsF (l : List Cg) : Fact := ⟨fun v w => ChsAt w v l, fun _ _ _ h hB => h.below hB (Nat.le_refl _)⟩
theorem chs_one (w : World) {c : Cg} (hc : CgOk c) : ChsAt (w.alloc (.cells (chgC c) 31)) (.slice (some ⟨w.heap.size, 0, none⟩) 1 1) [c] :=
  ⟨_, 1, rfl, by show 1 ≤ 9223372036854775807; decide, fun _ => ⟨w.heap.size, 0, rfl, by simp, fun i hi => by
    obtain rfl : i = 0 := by simp at hi; omega
    refine ⟨hc, fun j u hu => ?_⟩
    rw [show 0 + 0 * 5 + j = j by omega, (Blk.new w (chgC c) 31).cell]
    exact hu⟩⟩
theorem PutB.put {w V : World} {b : Nat} {cs : Array Value} {t : TypeId} (h : PutB w V b (.cells cs t (0, 0))) : Put w V b cs t := ⟨⟨h.os, h.tape, h.output, Nat.le_of_eq h.size.symm, fun k _ hk => h.other k hk⟩, h.new⟩
theorem leads_store_mid {P : Program} {o : Oper} {a : Act} {w : World} {x y : Operand} {ty : TypeId} {g off : Nat} {cs new : Array Value} {t : TypeId} (ho : o.op = .store ty x y) (hx : a.eval x = .pointer (some ⟨g, off, none⟩)) (hy : a.eval y = .agg new) (h : Blk w g cs t) (hn : off + new.size ≤ cs.size) (h1 : new.all (·.oneCell') = true)
    (hi : (P.info? ty).map (·.size) = some new.size) : leads P o a w (fun _ V' => Put w V' g (midC cs off new) t) := by
  unfold leads execOp
  simp only [ho, hx, hy, Instr.storeAt, Instr.sureAddr, Sem.run_bind, Sem.run_pure, Result.andThen_ok, run_store_mid (P := P) h hn h1 hi]
  exact ⟨⟨rfl, rfl, rfl, by simp, fun k _ hk => setRow_other w g k _ hk⟩, setRow_heap w g _ _ _ _ h⟩
theorem moves_one {a d s i : Nat} (ha : a < 16) (hd : d < 16) (hab : a ≠ d) : madeF idF (movesL [⟨6, (a : Int), (d : Int), s, i⟩]) = moveF idF a d := by
  show madeF idF [((a : Int), (d : Int))] = _
  show (if mayB idF (a : Int) (d : Int) then moveF idF (a : Int).toNat (d : Int).toNat else idF) = _
  rw [if_pos (mayB_iff.2 ⟨by omega, by omega, by omega, by omega, by omega, rfl, rfl⟩), Int.toNat_natCast, Int.toNat_natCast]
set_option maxRecDepth 100000 in
set_option maxHeartbeats 3200000 in
theorem chRevoke_of (cM : CMapC) (cP : PMappedC) : EffPC 69 6 := by
  intro N p c b w hT hN hp hf hc hg hk hr
  obtain ⟨h1, h2, h3, h4, h5, h6, h7⟩ := cgB_iff.1 hg
  obtain ⟨k, a, d, s, i⟩ := c
  obtain rfl : k = 6 := hk
  obtain ⟨a, rfl⟩ := Int.eq_ofNat_of_zero_le h3
  obtain ⟨d, rfl⟩ := Int.eq_ofNat_of_zero_le h5
  have hs := hc.s
  have hi := hc.i
  have h8 : (d : Int) ≤ 15 := h7
  simp only at h4 hs hi
  have ha : a < 16 := by omega
  have hd : d < 16 := by omega
  have HE := Lib.hid (one_is (p := p) (k := 6) (a := a) (b := d) (s := s) (i := i) (e := revE p a d) hg rfl)
  have HW := Lib.hid (EfW.new hr ⟨6, (a : Int), (d : Int), s, i⟩)
  have HOk := Lib.hid (And.intro hp (And.intro hf (And.intro ha hd)))
  have HT := Lib.hid (And.intro hT hN)
  have HG := Lib.hid (And.intro hg hc)
  have HLa := Lib.hid (fun V (h : EfW w b p ⟨6, (a : Int), (d : Int), s, i⟩ V) => used_any p b a V HOk.out.1 h.row)
  have HLd := Lib.hid (fun V (h : EfW w b p ⟨6, (a : Int), (d : Int), s, i⟩ V) => used_any p b d V HOk.out.1 h.row)
  have HEf := Lib.hid (show revE p a d = if (p.active.testBit a && p.active.testBit d) = true then (if a = d then 1 else 0) else 6 from rfl)
  clear hT hN hp hf hc hg hr h1 h2 h3 h4 h5 h6 h7 h8
  unfold EffIs
  go_enter Tryd.func69, Tryd.ntmps69
  go_upto_region 1 with fail
  generalize w.alloc (.cells _ 31) = w1 at *
  have k1 := HW.out.c1
  have k2 := HW.out.c2
  cases hla : p.active.testBit a with
  | false =>
    rw [hla] at HLa HEf
    have HN := Lib.hid (show oneE p ⟨6, (a : Int), (d : Int), s, i⟩ = 6 from HE.out.1.trans (by rw [HEf.out, Bool.false_and]; rfl))
    clear hla HLd
    go_wp2_with fail
    refine (HLa.out _ HW.out).mono ?_
    rintro e wx ⟨rfl, rfl⟩
    go_wp2_with fail
    go_ret
    exact ⟨by rw [HN.out]; rfl, HW.out.no (by rw [HN.out]; decide)⟩
  | true =>
    rw [hla] at HLa HEf
    cases hld : p.active.testBit d with
    | false =>
      rw [hld] at HLd HEf
      have HN := Lib.hid (show oneE p ⟨6, (a : Int), (d : Int), s, i⟩ = 6 from HE.out.1.trans (by rw [HEf.out]; rfl))
      clear hla hld
      go_wp2_with fail
      refine (HLa.out _ HW.out).mono ?_
      rintro e wx ⟨rfl, rfl⟩
      go_wp2_with fail
      refine (HLd.out _ HW.out).mono ?_
      rintro e wx ⟨rfl, rfl⟩
      go_wp2_with fail
      go_ret
      exact ⟨by rw [HN.out]; rfl, HW.out.no (by rw [HN.out]; decide)⟩
    | true =>
      rw [hld] at HLd HEf
      have HAc := Lib.hid hld
      clear hla hld
      go_wp2_with fail
      refine (HLa.out _ HW.out).mono ?_
      rintro e wx ⟨rfl, rfl⟩
      go_wp2_with fail
      refine (HLd.out _ HW.out).mono ?_
      rintro e wx ⟨rfl, rfl⟩
      clear HLa HLd
      by_cases hab : a = d
      · have q1 : ((a : Int) == (d : Int)) = true := by simp [hab]
        have q2 : (a == d) = true := by simp [hab]
        have q3 : decide (a = d) = true := by simp [hab]
        have HN := Lib.hid (show oneE p ⟨6, (a : Int), (d : Int), s, i⟩ = 1 from HE.out.1.trans (by rw [HEf.out, Bool.true_and, if_pos (by trivial), if_pos hab]))
        clear hab
        go_wp2_with fail
        go_ret
        exact ⟨by rw [HN.out]; rfl, HW.out.no (by rw [HN.out]; decide)⟩
      · have q1 : ((a : Int) == (d : Int)) = false := by simp; omega
        have q2 : (a == d) = false := by simpa using hab
        have q3 : decide (a = d) = false := by simpa using hab
        have HN := Lib.hid (show oneE p ⟨6, (a : Int), (d : Int), s, i⟩ = 0 ∧ oneP p ⟨6, (a : Int), (d : Int), s, i⟩ = revP p a d from by
          have h := HE.out
          rw [show revE p a d = 0 from by rw [HEf.out, Bool.true_and, if_pos (by trivial), if_neg hab]] at h
          exact ⟨h.1, h.2.trans (if_pos rfl)⟩)
        have HMp : Hid (∀ v V, ChsAt V v [⟨6, (a : Int), (d : Int), s, i⟩] → Calls Tryd.prog 17 #[v] V fun e w' => e = .returned (.agg (mapC (moveF idF a d))) ∧ Below V.heap.size V w') := Lib.hid fun v V h => by
          have k := cM v _ V h (by simp) (fun c hc => by rw [List.mem_singleton.1 hc]; exact HG.out.1)
          rw [moves_one HOk.out.2.2.1 HOk.out.2.2.2 hab] at k
          exact k
        have HMd : Hid (∀ V, EfW w b p ⟨6, (a : Int), (d : Int), s, i⟩ V → Calls Tryd.prog 92 #[.agg (polC p), .agg (mapC (moveF idF a d))] V fun e w' => e = .returned (.agg (polC (revP p a d))) ∧ Below V.heap.size V w') := Lib.hid fun V h => by
          refine cP p (moveF idF a d) V (h.tab HT.out.1 HT.out.2) HOk.out.1 HOk.out.2.1 (move_fine fine_id HOk.out.2.2.2 hab rfl) fun t _ hne => ?_
          unfold moveF idF at hne ⊢
          split at hne
          · rename_i e; rw [if_pos e]; exact HAc.out
          · exact absurd rfl hne
        clear hab
        go_upto_region 5 with fail
        clear q1 q2 q3 k1 k2
        generalize revP p a d = r at *
        refine wp_region_P (fun V => EfW w b p ⟨6, (a : Int), (d : Int), s, i⟩ V) (fun V => EfW w b r ⟨6, (a : Int), (d : Int), s, i⟩ V) 9 _ [.val (.pointer (some ⟨b, 0, none⟩)), .val (.pointer (some ⟨b, 0, none⟩)), .val (.pointer (some ⟨b, 0, none⟩)), .val (.agg (polC p)), .val (.agg #[.int .i64 6, .int .i64 (a : Int), .int .i64 (d : Int), .int .u16 (s : Int), .int .u16 (i : Int)]), .fact (chsF [⟨6, (a : Int), (d : Int), s, i⟩]), .val (.agg (mapC (moveF idF a d))), .val (.agg (polC r)), .val (.pointer (some ⟨b, 0, none⟩)), .st]
          (fun x => { tmps := #[.pointer (some ⟨b, 0, none⟩), .agg (chgC ⟨6, (a : Int), (d : Int), s, i⟩), undef, .pointer (some ⟨w.heap.size, 0, none⟩), .int .i64 0, .bool false, .pointer (some ⟨b, 0, none⟩), .pointer (some ⟨w.heap.size, 1, none⟩), .int .i64 (a : Int), .bool true, .bool false, .bool false, .pointer (some ⟨b, 0, none⟩), .pointer (some ⟨w.heap.size, 2, none⟩), .int .i64 (d : Int), .bool true, .bool false, .bool false, .bool false, .pointer (some ⟨w.heap.size, 1, none⟩), .int .i64 (a : Int), .pointer (some ⟨w.heap.size, 2, none⟩), .int .i64 (d : Int), .bool false, x 0, x 1, x 2, x 3, x 4, x 5, x 6, x 7, x 8], defers := [] }) (fun i => ([undef, undef, undef, undef, undef, undef, undef, undef, undef, undef] : List Value).getD i undef) (by kernel_rfl) rfl (by decide) rfl (by kernel_rfl) (by kernel_rfl) (HW.out.step (Below.refl _ _).drew) ?_ ?_
        · refine ⟨ObP.of_val rfl (fun x v => rfl) (fun x V hC hD => ?_), ?_⟩
          · clear hD
            refine want_yes rfl ?_
            exact leads_value (v := .pointer (some ⟨b, 0, none⟩)) (by go_simp) ⟨rfl, hC, Below.refl _ _⟩
          refine ⟨ObP.of_val rfl (fun x v => rfl) (fun x V hC hD => ?_), ?_⟩
          · clear hD
            refine want_yes rfl ?_
            exact leads_value (v := .pointer (some ⟨b, 0, none⟩)) (by go_simp) ⟨rfl, hC, Below.refl _ _⟩
          refine ⟨ObP.of_val rfl (fun x v => rfl) (fun x V hC hD => ?_), ?_⟩
          · have e1 : x 1 = .pointer (some ⟨b, 0, none⟩) := hD.1.1 _ rfl rfl
            clear hD
            refine want_yes rfl ?_
            exact leads_value (v := .pointer (some ⟨b, 0, none⟩)) (by go_simp) ⟨rfl, hC, Below.refl _ _⟩
          refine ⟨ObP.of_val rfl (fun x v => rfl) (fun x V hC hD => ?_), ?_⟩
          · have e2 : x 2 = .pointer (some ⟨b, 0, none⟩) := hD.1.1 _ rfl rfl
            clear hD
            refine want_yes rfl ?_
            exact leads_value (exec_load_pol rfl e2 hC.row) ⟨rfl, hC, Below.refl _ _⟩
          refine ⟨ObP.of_val rfl (fun x v => rfl) (fun x V hC hD => ?_), ?_⟩
          · clear hD
            refine want_yes rfl ?_
            exact leads_value (exec_load_chg rfl rfl hC.cg) ⟨rfl, hC, Below.refl _ _⟩
          refine ⟨ObP.of_fact rfl (fun x v => rfl) rfl (fun x V hC hD => ?_), ?_⟩
          · have e4 : x 4 = .agg #[.int .i64 6, .int .i64 (a : Int), .int .i64 (d : Int), .int .u16 (s : Int), .int .u16 (i : Int)] := hD.1.1 _ rfl rfl
            clear hD
            exact leads_value (v := .slice (some ⟨V.heap.size, 0, none⟩) 1 1) (w' := V.alloc (.cells (chgC ⟨6, (a : Int), (d : Int), s, i⟩) 31)) (by unfold chgC; go_simp) ⟨chs_one V HG.out.2, hC.step (belowNew V _), belowNew V _⟩
          refine ⟨ObP.of_val rfl (fun x v => rfl) (fun x V hC hD => ?_), ?_⟩
          · have e5 : ChsAt V (x 5) [⟨6, (a : Int), (d : Int), s, i⟩] := hD.1.2 _ rfl rfl
            clear hD
            refine want_yes rfl ?_
            exact leads_enter2 (by go_simp) ((HMp.out _ V e5).mono fun e w'' ⟨he, hB⟩ => ⟨_, he, rfl, hC.step hB, hB⟩)
          refine ⟨ObP.of_val rfl (fun x v => rfl) (fun x V hC hD => ?_), ?_⟩
          · have e3 : x 3 = .agg (polC p) := hD.1.1 _ rfl rfl
            have e6 : x 6 = .agg (mapC (moveF idF a d)) := hD.2.1.1 _ rfl rfl
            clear hD
            refine want_yes rfl ?_
            exact leads_enter2 (by go_simp) ((HMd.out V hC).mono fun e w'' ⟨he, hB⟩ => ⟨_, he, rfl, hC.step hB, hB⟩)
          refine ⟨ObP.of_val rfl (fun x v => rfl) (fun x V hC hD => ?_), ?_⟩
          · have e0 : x 0 = .pointer (some ⟨b, 0, none⟩) := hD.1.1 _ rfl rfl
            clear hD
            refine want_yes rfl ?_
            exact leads_value (v := .pointer (some ⟨b, 0, none⟩)) (by go_simp) ⟨rfl, hC, Below.refl _ _⟩
          refine ⟨ObP.of_st rfl (fun x v => rfl) rfl (fun x V hC hD => ?_), ?_⟩
          · have e8 : x 8 = .pointer (some ⟨b, 0, none⟩) := hD.1.1 _ rfl rfl
            have e7 : x 7 = .agg (polC r) := hD.2.1.1 _ rfl rfl
            clear hD
            exact leadsP_mono (leads_store_row rfl e8 e7 hC.row (infoPol _) (by rw [polC_size, polC_size]) (polC_one _)) fun u V' hp => hC.put hp.put
          trivial
        · intro x V6 hD hx
          have HD := Lib.hid hD
          clear hx hD HW
          generalize x 0 = y0
          generalize x 1 = y1
          generalize x 2 = y2
          generalize x 3 = y3
          generalize x 4 = y4
          generalize x 5 = y5
          generalize x 6 = y6
          generalize x 7 = y7
          generalize x 8 = y8
          go_wp2_with fail
          go_ret
          exact ⟨by rw [HN.out.1]; rfl, HD.out.yes HN.out.1 HN.out.2⟩
theorem midC_two {cs : Array Value} {off : Nat} {x y : Value} (h : off + 2 ≤ cs.size) : midC cs off #[x, y] = (cs.setIfInBounds off x).setIfInBounds (off + 1) y := by
  apply Array.ext_getElem?
  intro j
  rw [midC_get (by simpa using h), Array.getElem?_setIfInBounds, Array.getElem?_setIfInBounds, Array.size_setIfInBounds]
  show (if off ≤ j ∧ j < off + 2 then _ else _) = _
  by_cases e1 : j = off + 1
  · subst e1
    rw [if_pos (by omega), if_pos rfl, if_pos (by omega), show off + 1 - off = 1 by omega]; rfl
  · by_cases e0 : j = off
    · subst e0
      rw [if_pos (by omega), if_neg (by omega), if_pos rfl, if_pos (by omega), Nat.sub_self]; rfl
    · rw [if_neg (by omega), if_neg (by omega), if_neg (by omega)]
theorem cells_inj {w : World} {b : Nat} {xs ys : Array Value} {t : TypeId} (h : Blk w b xs t) (k : Blk w b ys t) : xs = ys := by
  unfold Blk at h k
  rw [h] at k
  cases k; rfl
/-- A whole label is set. -/
theorem PRow.putLab {w w' : World} {b : Nat} {q : Pol} {a : Nat} {s i : Nat} (h : PRow w b q) (ha : a < 16) (hp : Put w w' b (midC (polC q) (1 + a * 2) #[.int .u16 (s : Int), .int .u16 (i : Int)]) 29) : Put w w' b (polC ((q.putS a s).putI a i)) 29 := by
  have e := cells_inj (Blk.set (Blk.set h (1 + a * 2) (.int .u16 (s : Int))) (1 + a * 2 + 1) (.int .u16 (i : Int))) ((PRow.putS h ha s).putI ha i)
  rw [midC_two (by rw [polC_size]; omega), e] at hp
  exact hp
set_option maxRecDepth 100000 in
set_option maxHeartbeats 3200000 in
theorem chAdd_any : EffPC 64 1 := by
  intro N p c b w _ _ hp _ hc hg hk hr
  obtain ⟨h1, h2, h3, h4, h5, h6, h7⟩ := cgB_iff.1 hg
  obtain ⟨k, a, d, s, i⟩ := c
  obtain rfl : k = 1 := hk
  obtain ⟨a, rfl⟩ := Int.eq_ofNat_of_zero_le h3
  have hs := hc.s
  have hi := hc.i
  have h8 : d ≤ 0 := h7
  simp only at h4 h5 hs hi
  have ha : a < 16 := by omega
  obtain rfl : d = 0 := by omega
  have HE := Lib.hid (one_is (p := p) (k := 1) (a := a) (b := 0) (s := s) (i := i) (e := addE p a s i) hg rfl)
  have HW := Lib.hid (EfW.new hr ⟨1, (a : Int), 0, s, i⟩)
  have HLa := Lib.hid (fun V (h : EfW w b p ⟨1, (a : Int), 0, s, i⟩ V) => live_any p b a V hp h.row)
  have HTg := Lib.hid (fun V => lTags_any s i V hs hi)
  have hts : s ||| i < 65536 := Nat.or_lt_two_pow (n := 16) hs hi
  have HSb := Lib.hid (fun V => Sub_any (s ||| i) p.active V hts hp.active)
  have HOk := Lib.hid (And.intro hp ha)
  have HEf := Lib.hid (show addE p a s i = if p.live.testBit a = true then 7 else if subB (s ||| i) p.active = true then 0 else 8 from rfl)
  clear hp hc hg hr h1 h2 h3 h4 h5 h7 h8
  unfold EffIs
  go_enter Tryd.func64, Tryd.ntmps64
  go_upto_region 1 with fail
  generalize w.alloc (.cells _ 31) = w1 at *
  have k1 := HW.out.c1
  cases hla : p.live.testBit a with
  | true =>
    rw [hla] at HLa HEf
    have HN := Lib.hid (show oneE p ⟨1, (a : Int), 0, s, i⟩ = 7 from HE.out.1.trans (by rw [HEf.out]; rfl))
    clear hla
    go_wp2_with fail
    refine (HLa.out _ HW.out).mono ?_
    rintro e wx ⟨rfl, rfl⟩
    go_wp2_with fail
    go_ret
    exact ⟨by rw [HN.out]; rfl, HW.out.no (by rw [HN.out]; decide)⟩
  | false =>
    rw [hla] at HLa HEf
    clear hla
    go_wp2_with fail
    refine (HLa.out _ HW.out).mono ?_
    rintro e wx ⟨rfl, rfl⟩
    clear k1 HLa
    go_upto_region 3 with fail
    cases hsb : subB (s ||| i) p.active with
    | false =>
      rw [hsb] at HSb HEf
      have HN := Lib.hid (show oneE p ⟨1, (a : Int), 0, s, i⟩ = 8 from HE.out.1.trans (by rw [HEf.out]; rfl))
      clear hsb
      refine wp_region_S (fun _ V => EfW w b p ⟨1, (a : Int), 0, s, i⟩ V) 0 [.val (.pointer (some ⟨w.heap.size, 3, none⟩)), .val (.agg #[.int .u16 (s : Int), .int .u16 (i : Int)]), .val (.int .u16 ((s ||| i : Nat) : Int)), .val (.pointer (some ⟨b, 0, none⟩)), .val (.pointer (some ⟨b, 0, none⟩)), .val (.pointer (some ⟨b, 65, none⟩)), .val (.int .u16 (p.active : Int)), .val (.bool false), .val (.bool true), .val (.bool true)]
        (fun x => { tmps := #[.pointer (some ⟨b, 0, none⟩), .agg (chgC ⟨1, (a : Int), 0, s, i⟩), undef, .pointer (some ⟨w.heap.size, 0, none⟩), .int .i64 0, .bool false, .pointer (some ⟨b, 0, none⟩), .pointer (some ⟨w.heap.size, 1, none⟩), .int .i64 (a : Int), .bool false, x 9, x 0, x 1, x 2, x 3, x 4, x 5, x 6, x 7, x 8, undef, undef, undef, undef, undef, undef, undef, undef, undef, undef, undef, undef, undef, undef, undef, undef, undef, undef, undef], defers := [] }) (fun i => ([undef, undef, undef, undef, undef, undef, undef, undef, undef, undef] : List Value).getD i undef) (by kernel_rfl) rfl rfl (by kernel_rfl) (by kernel_rfl) (by kernel_rfl) (by kernel_rfl) (HW.out.step (Below.refl _ _).drew) ?_ ?_
      · refine ⟨ObS.of_val rfl (fun x v => rfl) (fun x V kst hC hD => ?_), ?_⟩
        · clear hD
          refine want_yes rfl ?_
          exact leads_value (v := .pointer (some ⟨w.heap.size, 3, none⟩)) (by go_simp) ⟨rfl, hC⟩
        refine ⟨ObS.of_val rfl (fun x v => rfl) (fun x V kst hC hD => ?_), ?_⟩
        · have e0 : x 0 = .pointer (some ⟨w.heap.size, 3, none⟩) := hD.1 rfl
          clear hD
          refine want_yes rfl ?_
          have k3 := hC.c3
          have k4 := hC.c4
          exact leads_value (v := .agg #[.int .u16 (s : Int), .int .u16 (i : Int)]) (by go_simp) ⟨rfl, hC⟩
        refine ⟨ObS.of_val rfl (fun x v => rfl) (fun x V kst hC hD => ?_), ?_⟩
        · have e1 : x 1 = .agg #[.int .u16 (s : Int), .int .u16 (i : Int)] := hD.1 rfl
          clear hD
          refine want_yes rfl ?_
          exact leads_enter2 (by go_simp) ((HTg.out V).mono fun e w'' ⟨he, hB⟩ => ⟨_, he, rfl, hC.step hB⟩)
        refine ⟨ObS.of_val rfl (fun x v => rfl) (fun x V kst hC hD => ?_), ?_⟩
        · clear hD
          refine want_yes rfl ?_
          exact leads_value (v := .pointer (some ⟨b, 0, none⟩)) (by go_simp) ⟨rfl, hC⟩
        refine ⟨ObS.of_val rfl (fun x v => rfl) (fun x V kst hC hD => ?_), ?_⟩
        · have e3 : x 3 = .pointer (some ⟨b, 0, none⟩) := hD.1 rfl
          clear hD
          refine want_yes rfl ?_
          exact leads_value (v := .pointer (some ⟨b, 0, none⟩)) (by go_simp) ⟨rfl, hC⟩
        refine ⟨ObS.of_val rfl (fun x v => rfl) (fun x V kst hC hD => ?_), ?_⟩
        · have e4 : x 4 = .pointer (some ⟨b, 0, none⟩) := hD.1 rfl
          clear hD
          refine want_yes rfl ?_
          exact leads_value (v := .pointer (some ⟨b, 65, none⟩)) (by go_simp) ⟨rfl, hC⟩
        refine ⟨ObS.of_val rfl (fun x v => rfl) (fun x V kst hC hD => ?_), ?_⟩
        · have e5 : x 5 = .pointer (some ⟨b, 65, none⟩) := hD.1 rfl
          clear hD
          refine want_yes rfl ?_
          have k0 := hC.row.active
          exact leads_value (v := .int .u16 (p.active : Int)) (by go_simp) ⟨rfl, hC⟩
        refine ⟨ObS.of_val rfl (fun x v => rfl) (fun x V kst hC hD => ?_), ?_⟩
        · have e2 : x 2 = .int .u16 ((s ||| i : Nat) : Int) := hD.1 rfl
          have e6 : x 6 = .int .u16 (p.active : Int) := hD.2.1 rfl
          clear hD
          refine want_yes rfl ?_
          exact leads_enter2 (by go_simp) ((HSb.out V).mono fun e w'' ⟨he, hw⟩ => ⟨_, he, rfl, hw ▸ hC⟩)
        refine ⟨ObS.of_val rfl (fun x v => rfl) (fun x V kst hC hD => ?_), ?_⟩
        · have e7 : x 7 = .bool false := hD.1 rfl
          clear hD
          refine want_yes rfl ?_
          exact leads_value (v := .bool true) (by go_simp) ⟨rfl, hC⟩
        refine ⟨ObS.of_val rfl (fun x v => rfl) (fun x V kst hC hD => ?_), ?_⟩
        · have e8 : x 8 = .bool true := hD.1 rfl
          clear hD
          refine want_yes rfl ?_
          exact leads_value (v := .bool true) (by go_simp) ⟨rfl, hC⟩
        trivial
      · intro xa V hC hx
        have e9 : xa 9 = .bool true := hx 9 (by simp)
        have HV := Lib.hid (show EfW w b p ⟨1, (a : Int), 0, s, i⟩ V from hC)
        clear hx hC HW HTg HSb
        rw [e9]
        clear e9
        generalize xa 0 = z11
        generalize xa 1 = z12
        generalize xa 2 = z13
        generalize xa 3 = z14
        generalize xa 4 = z15
        generalize xa 5 = z16
        generalize xa 6 = z17
        generalize xa 7 = z18
        generalize xa 8 = z19
        have HW := HV
        clear HV
        go_wp2_with fail
        go_ret
        exact ⟨by rw [HN.out]; rfl, HW.out.no (by rw [HN.out]; decide)⟩
    | true =>
      rw [hsb] at HSb HEf
      have HN := Lib.hid (show oneE p ⟨1, (a : Int), 0, s, i⟩ = 0 ∧ oneP p ⟨1, (a : Int), 0, s, i⟩ = addP p a s i from by
        have h := HE.out
        rw [show addE p a s i = 0 from by rw [HEf.out]; rfl] at h
        exact ⟨h.1, h.2.trans (if_pos rfl)⟩)
      clear hsb
      refine wp_region_S (fun _ V => EfW w b p ⟨1, (a : Int), 0, s, i⟩ V) 0 [.val (.pointer (some ⟨w.heap.size, 3, none⟩)), .val (.agg #[.int .u16 (s : Int), .int .u16 (i : Int)]), .val (.int .u16 ((s ||| i : Nat) : Int)), .val (.pointer (some ⟨b, 0, none⟩)), .val (.pointer (some ⟨b, 0, none⟩)), .val (.pointer (some ⟨b, 65, none⟩)), .val (.int .u16 (p.active : Int)), .val (.bool true), .val (.bool false), .val (.bool false)]
        (fun x => { tmps := #[.pointer (some ⟨b, 0, none⟩), .agg (chgC ⟨1, (a : Int), 0, s, i⟩), undef, .pointer (some ⟨w.heap.size, 0, none⟩), .int .i64 0, .bool false, .pointer (some ⟨b, 0, none⟩), .pointer (some ⟨w.heap.size, 1, none⟩), .int .i64 (a : Int), .bool false, x 9, x 0, x 1, x 2, x 3, x 4, x 5, x 6, x 7, x 8, undef, undef, undef, undef, undef, undef, undef, undef, undef, undef, undef, undef, undef, undef, undef, undef, undef, undef, undef], defers := [] }) (fun i => ([undef, undef, undef, undef, undef, undef, undef, undef, undef, undef] : List Value).getD i undef) (by kernel_rfl) rfl rfl (by kernel_rfl) (by kernel_rfl) (by kernel_rfl) (by kernel_rfl) (HW.out.step (Below.refl _ _).drew) ?_ ?_
      · refine ⟨ObS.of_val rfl (fun x v => rfl) (fun x V kst hC hD => ?_), ?_⟩
        · clear hD
          refine want_yes rfl ?_
          exact leads_value (v := .pointer (some ⟨w.heap.size, 3, none⟩)) (by go_simp) ⟨rfl, hC⟩
        refine ⟨ObS.of_val rfl (fun x v => rfl) (fun x V kst hC hD => ?_), ?_⟩
        · have e0 : x 0 = .pointer (some ⟨w.heap.size, 3, none⟩) := hD.1 rfl
          clear hD
          refine want_yes rfl ?_
          have k3 := hC.c3
          have k4 := hC.c4
          exact leads_value (v := .agg #[.int .u16 (s : Int), .int .u16 (i : Int)]) (by go_simp) ⟨rfl, hC⟩
        refine ⟨ObS.of_val rfl (fun x v => rfl) (fun x V kst hC hD => ?_), ?_⟩
        · have e1 : x 1 = .agg #[.int .u16 (s : Int), .int .u16 (i : Int)] := hD.1 rfl
          clear hD
          refine want_yes rfl ?_
          exact leads_enter2 (by go_simp) ((HTg.out V).mono fun e w'' ⟨he, hB⟩ => ⟨_, he, rfl, hC.step hB⟩)
        refine ⟨ObS.of_val rfl (fun x v => rfl) (fun x V kst hC hD => ?_), ?_⟩
        · clear hD
          refine want_yes rfl ?_
          exact leads_value (v := .pointer (some ⟨b, 0, none⟩)) (by go_simp) ⟨rfl, hC⟩
        refine ⟨ObS.of_val rfl (fun x v => rfl) (fun x V kst hC hD => ?_), ?_⟩
        · have e3 : x 3 = .pointer (some ⟨b, 0, none⟩) := hD.1 rfl
          clear hD
          refine want_yes rfl ?_
          exact leads_value (v := .pointer (some ⟨b, 0, none⟩)) (by go_simp) ⟨rfl, hC⟩
        refine ⟨ObS.of_val rfl (fun x v => rfl) (fun x V kst hC hD => ?_), ?_⟩
        · have e4 : x 4 = .pointer (some ⟨b, 0, none⟩) := hD.1 rfl
          clear hD
          refine want_yes rfl ?_
          exact leads_value (v := .pointer (some ⟨b, 65, none⟩)) (by go_simp) ⟨rfl, hC⟩
        refine ⟨ObS.of_val rfl (fun x v => rfl) (fun x V kst hC hD => ?_), ?_⟩
        · have e5 : x 5 = .pointer (some ⟨b, 65, none⟩) := hD.1 rfl
          clear hD
          refine want_yes rfl ?_
          have k0 := hC.row.active
          exact leads_value (v := .int .u16 (p.active : Int)) (by go_simp) ⟨rfl, hC⟩
        refine ⟨ObS.of_val rfl (fun x v => rfl) (fun x V kst hC hD => ?_), ?_⟩
        · have e2 : x 2 = .int .u16 ((s ||| i : Nat) : Int) := hD.1 rfl
          have e6 : x 6 = .int .u16 (p.active : Int) := hD.2.1 rfl
          clear hD
          refine want_yes rfl ?_
          exact leads_enter2 (by go_simp) ((HSb.out V).mono fun e w'' ⟨he, hw⟩ => ⟨_, he, rfl, hw ▸ hC⟩)
        refine ⟨ObS.of_val rfl (fun x v => rfl) (fun x V kst hC hD => ?_), ?_⟩
        · have e7 : x 7 = .bool true := hD.1 rfl
          clear hD
          refine want_yes rfl ?_
          exact leads_value (v := .bool false) (by go_simp) ⟨rfl, hC⟩
        refine ⟨ObS.of_val rfl (fun x v => rfl) (fun x V kst hC hD => ?_), ?_⟩
        · have e8 : x 8 = .bool false := hD.1 rfl
          clear hD
          refine want_yes rfl ?_
          exact leads_value (v := .bool false) (by go_simp) ⟨rfl, hC⟩
        trivial
      · intro xa V hC hx
        have e9 : xa 9 = .bool false := hx 9 (by simp)
        have HV := Lib.hid (show EfW w b p ⟨1, (a : Int), 0, s, i⟩ V from hC)
        clear hx hC HW HTg HSb
        rw [e9]
        clear e9
        generalize xa 0 = z11
        generalize xa 1 = z12
        generalize xa 2 = z13
        generalize xa 3 = z14
        generalize xa 4 = z15
        generalize xa 5 = z16
        generalize xa 6 = z17
        generalize xa 7 = z18
        generalize xa 8 = z19
        have HW := HV
        clear HV
        go_upto_region 5 with fail
        refine wp_region_P (fun V => EfW w b p ⟨1, (a : Int), 0, s, i⟩ V) (fun V => EfW w b (p.putL (withN p.live a)) ⟨1, (a : Int), 0, s, i⟩ V) 11 _ [.val (.pointer (some ⟨b, 0, none⟩)), .val (.pointer (some ⟨b, 0, none⟩)), .val (.pointer (some ⟨b, 0, none⟩)), .val (.int .u16 (p.live : Int)), .val (.pointer (some ⟨w.heap.size, 1, none⟩)), .val (.int .i64 (a : Int)), .fact (intsF [(a : Int)]), .val (.int .u16 ((ofL 0 [(a : Int)] : Nat) : Int)), .val (.int .u16 ((withN p.live a : Nat) : Int)), .pure (.pointer (some ⟨b, 0, none⟩)), .val (.pointer (some ⟨b, 0, none⟩)), .st]
          (fun x => { tmps := #[.pointer (some ⟨b, 0, none⟩), .agg (chgC ⟨1, (a : Int), 0, s, i⟩), undef, .pointer (some ⟨w.heap.size, 0, none⟩), .int .i64 0, .bool false, .pointer (some ⟨b, 0, none⟩), .pointer (some ⟨w.heap.size, 1, none⟩), .int .i64 (a : Int), .bool false, .bool false, z11, z12, z13, z14, z15, z16, z17, z18, z19, x 0, x 1, x 2, x 3, x 4, x 5, x 6, x 7, x 8, x 9, x 10, undef, undef, undef, undef, undef, undef, undef, undef], defers := [] }) (fun i => ([undef, undef, undef, undef, undef, undef, undef, undef, undef, undef, undef, undef] : List Value).getD i undef) (by kernel_rfl) rfl (by decide) rfl (by kernel_rfl) (by kernel_rfl) (HW.out.step (Below.refl _ _).drew) ?_ ?_
        · refine ⟨ObP.of_val rfl (fun x v => rfl) (fun x V hC hD => ?_), ?_⟩
          · clear hD
            refine want_yes rfl ?_
            exact leads_value (v := .pointer (some ⟨b, 0, none⟩)) (by go_simp) ⟨rfl, hC, Below.refl _ _⟩
          refine ⟨ObP.of_val rfl (fun x v => rfl) (fun x V hC hD => ?_), ?_⟩
          · have e0 : x 0 = .pointer (some ⟨b, 0, none⟩) := hD.1.1 _ rfl rfl
            clear hD
            refine want_yes rfl ?_
            exact leads_value (v := .pointer (some ⟨b, 0, none⟩)) (by go_simp) ⟨rfl, hC, Below.refl _ _⟩
          refine ⟨ObP.of_val rfl (fun x v => rfl) (fun x V hC hD => ?_), ?_⟩
          · have e1 : x 1 = .pointer (some ⟨b, 0, none⟩) := hD.1.1 _ rfl rfl
            clear hD
            refine want_yes rfl ?_
            exact leads_value (v := .pointer (some ⟨b, 0, none⟩)) (by go_simp) ⟨rfl, hC, Below.refl _ _⟩
          refine ⟨ObP.of_val rfl (fun x v => rfl) (fun x V hC hD => ?_), ?_⟩
          · have e2 : x 2 = .pointer (some ⟨b, 0, none⟩) := hD.1.1 _ rfl rfl
            clear hD
            refine want_yes rfl ?_
            have k0 := hC.row.live
            exact leads_value (v := .int .u16 (p.live : Int)) (by go_simp) ⟨rfl, hC, Below.refl _ _⟩
          refine ⟨ObP.of_val rfl (fun x v => rfl) (fun x V hC hD => ?_), ?_⟩
          · clear hD
            refine want_yes rfl ?_
            exact leads_value (v := .pointer (some ⟨w.heap.size, 1, none⟩)) (by go_simp) ⟨rfl, hC, Below.refl _ _⟩
          refine ⟨ObP.of_val rfl (fun x v => rfl) (fun x V hC hD => ?_), ?_⟩
          · have e4 : x 4 = .pointer (some ⟨w.heap.size, 1, none⟩) := hD.1.1 _ rfl rfl
            clear hD
            refine want_yes rfl ?_
            have k0 := hC.c1
            exact leads_value (v := .int .i64 (a : Int)) (by go_simp) ⟨rfl, hC, Below.refl _ _⟩
          refine ⟨ObP.of_fact rfl (fun x v => rfl) rfl (fun x V hC hD => ?_), ?_⟩
          · have e5 : x 5 = .int .i64 (a : Int) := hD.1.1 _ rfl rfl
            clear hD
            exact leads_value (by go_simp) ⟨ints_one _ _, hC.step (below_one _ _), below_one _ _⟩
          refine ⟨ObP.of_val rfl (fun x v => rfl) (fun x V hC hD => ?_), ?_⟩
          · have e6 : IntsAt V (x 6) [(a : Int)] := hD.1.2 _ rfl rfl
            clear hD
            refine want_yes rfl ?_
            exact leads_enter2 (by go_simp) ((Of_any _ _ V e6).mono fun e w'' ⟨he, hw⟩ => ⟨_, he, rfl, hw ▸ hC, hw ▸ Below.refl _ _⟩)
          refine ⟨ObP.of_val rfl (fun x v => rfl) (fun x V hC hD => ?_), ?_⟩
          · have e3 : x 3 = .int .u16 (p.live : Int) := hD.1.1 _ rfl rfl
            have e7 : x 7 = .int .u16 ((ofL 0 [(a : Int)] : Nat) : Int) := hD.2.1.1 _ rfl rfl
            clear hD
            refine want_yes rfl ?_
            have how := ofL_with HOk.out.1.live HOk.out.2
            exact leads_value (v := .int .u16 ((withN p.live a : Nat) : Int)) (by go_simp) ⟨rfl, hC, Below.refl _ _⟩
          refine ⟨ObP.of_pure rfl (fun x v => rfl) (fun x V hD => ?_), ?_⟩
          · have e0 : x 0 = .pointer (some ⟨b, 0, none⟩) := hD.1 _ rfl rfl
            clear hD
            refine want_yes rfl ?_
            exact leads_value (v := .pointer (some ⟨b, 0, none⟩)) (by go_simp) ⟨rfl, rfl⟩
          refine ⟨ObP.of_val rfl (fun x v => rfl) (fun x V hC hD => ?_), ?_⟩
          · have e9 : x 9 = .pointer (some ⟨b, 0, none⟩) := hD.1.1 _ rfl rfl
            clear hD
            refine want_yes rfl ?_
            exact leads_value (v := .pointer (some ⟨b, 0, none⟩)) (by go_simp) ⟨rfl, hC, Below.refl _ _⟩
          refine ⟨ObP.of_st rfl (fun x v => rfl) rfl (fun x V hC hD => ?_), ?_⟩
          · have e10 : x 10 = .pointer (some ⟨b, 0, none⟩) := hD.1.1 _ rfl rfl
            have e8 : x 8 = .int .u16 ((withN p.live a : Nat) : Int) := hD.2.1.1 _ rfl rfl
            clear hD
            have kf := Blk.free hC.row 0
            have k0 := hC.row.live
            exact leadsP_skip (w' := V.setCell ⟨b, 0, none⟩ (.int .u16 ((withN p.live a : Nat) : Int))) (by go_simp) (hC.cell (hC.row.putL _))
          trivial
        · intro x V6 hD hx
          have HD := Lib.hid hD
          clear hx hD HW
          generalize x 0 = y20
          generalize x 1 = y21
          generalize x 2 = y22
          generalize x 3 = y23
          generalize x 4 = y24
          generalize x 5 = y25
          generalize x 6 = y26
          generalize x 7 = y27
          generalize x 8 = y28
          generalize x 9 = y29
          generalize x 10 = y30
          go_upto_region 6 with fail
          refine wp_region_P (fun V => EfW w b (p.putL (withN p.live a)) ⟨1, (a : Int), 0, s, i⟩ V) (fun V => EfW w b (addP p a s i) ⟨1, (a : Int), 0, s, i⟩ V) 8 _ [.val (.pointer (some ⟨b, 0, none⟩)), .val (.pointer (some ⟨w.heap.size, 1, none⟩)), .val (.int .i64 (a : Int)), .val (.pointer (some ⟨w.heap.size, 3, none⟩)), .val (.agg #[.int .u16 (s : Int), .int .u16 (i : Int)]), .pure (.pointer (some ⟨b, 0, none⟩)), .pure (.pointer (some ⟨b, 1, none⟩)), .val (.pointer (some ⟨b, 1 + a * 2, none⟩)), .st]
            (fun x => { tmps := #[.pointer (some ⟨b, 0, none⟩), .agg (chgC ⟨1, (a : Int), 0, s, i⟩), undef, .pointer (some ⟨w.heap.size, 0, none⟩), .int .i64 0, .bool false, .pointer (some ⟨b, 0, none⟩), .pointer (some ⟨w.heap.size, 1, none⟩), .int .i64 (a : Int), .bool false, .bool false, z11, z12, z13, z14, z15, z16, z17, z18, z19, y20, y21, y22, y23, y24, y25, y26, y27, y28, y29, y30, x 0, x 1, x 2, x 3, x 4, x 5, x 6, x 7], defers := [] }) (fun i => ([undef, undef, undef, undef, undef, undef, undef, undef, undef] : List Value).getD i undef) (by kernel_rfl) rfl (by decide) rfl (by kernel_rfl) (by kernel_rfl) (HD.out.step (Below.refl _ _).drew) ?_ ?_
          · refine ⟨ObP.of_val rfl (fun x v => rfl) (fun x V hC hD => ?_), ?_⟩
            · clear hD
              refine want_yes rfl ?_
              exact leads_value (v := .pointer (some ⟨b, 0, none⟩)) (by go_simp) ⟨rfl, hC, Below.refl _ _⟩
            refine ⟨ObP.of_val rfl (fun x v => rfl) (fun x V hC hD => ?_), ?_⟩
            · clear hD
              refine want_yes rfl ?_
              exact leads_value (v := .pointer (some ⟨w.heap.size, 1, none⟩)) (by go_simp) ⟨rfl, hC, Below.refl _ _⟩
            refine ⟨ObP.of_val rfl (fun x v => rfl) (fun x V hC hD => ?_), ?_⟩
            · have e1 : x 1 = .pointer (some ⟨w.heap.size, 1, none⟩) := hD.1.1 _ rfl rfl
              clear hD
              refine want_yes rfl ?_
              have k0 := hC.c1
              exact leads_value (v := .int .i64 (a : Int)) (by go_simp) ⟨rfl, hC, Below.refl _ _⟩
            refine ⟨ObP.of_val rfl (fun x v => rfl) (fun x V hC hD => ?_), ?_⟩
            · clear hD
              refine want_yes rfl ?_
              exact leads_value (v := .pointer (some ⟨w.heap.size, 3, none⟩)) (by go_simp) ⟨rfl, hC, Below.refl _ _⟩
            refine ⟨ObP.of_val rfl (fun x v => rfl) (fun x V hC hD => ?_), ?_⟩
            · have e3 : x 3 = .pointer (some ⟨w.heap.size, 3, none⟩) := hD.1.1 _ rfl rfl
              clear hD
              refine want_yes rfl ?_
              have k3 := hC.c3
              have k4 := hC.c4
              exact leads_value (v := .agg #[.int .u16 (s : Int), .int .u16 (i : Int)]) (by go_simp) ⟨rfl, hC, Below.refl _ _⟩
            refine ⟨ObP.of_pure rfl (fun x v => rfl) (fun x V hD => ?_), ?_⟩
            · have e0 : x 0 = .pointer (some ⟨b, 0, none⟩) := hD.1 _ rfl rfl
              clear hD
              refine want_yes rfl ?_
              exact leads_value (v := .pointer (some ⟨b, 0, none⟩)) (by go_simp) ⟨rfl, rfl⟩
            refine ⟨ObP.of_pure rfl (fun x v => rfl) (fun x V hD => ?_), ?_⟩
            · have e5 : x 5 = .pointer (some ⟨b, 0, none⟩) := hD.1 _ rfl rfl
              clear hD
              refine want_yes rfl ?_
              exact leads_value (v := .pointer (some ⟨b, 1, none⟩)) (by go_simp) ⟨rfl, rfl⟩
            refine ⟨ObP.of_val rfl (fun x v => rfl) (fun x V hC hD => ?_), ?_⟩
            · have e6 : x 6 = .pointer (some ⟨b, 1, none⟩) := hD.1.1 _ rfl rfl
              have e2 : x 2 = .int .i64 (a : Int) := hD.2.1.1 _ rfl rfl
              clear hD
              refine want_yes rfl ?_
              have h0 : (0 : Int) ≤ (a : Int) := by omega
              have h16 : (a : Int) < 16 := by have := HOk.out.2; omega
              exact leads_value (v := .pointer (some ⟨b, 1 + a * 2, none⟩)) (by go_simp) ⟨rfl, hC, Below.refl _ _⟩
            refine ⟨ObP.of_st rfl (fun x v => rfl) rfl (fun x V hC hD => ?_), ?_⟩
            · have e7 : x 7 = .pointer (some ⟨b, 1 + a * 2, none⟩) := hD.1.1 _ rfl rfl
              have e4 : x 4 = .agg #[.int .u16 (s : Int), .int .u16 (i : Int)] := hD.2.1.1 _ rfl rfl
              clear hD
              have hrow := hC.row
              have ha := HOk.out.2
              exact leadsP_mono (leads_store_mid (new := #[.int .u16 (s : Int), .int .u16 (i : Int)]) rfl e7 e4 hrow (by show 1 + a * 2 + 2 ≤ (polC _).size; rw [polC_size]; omega) (by simp [Value.oneCell']) infoLb) fun u V' hp => hC.put (hrow.putLab ha hp)
            trivial
          · intro x V7 hD hx
            have HD := Lib.hid hD
            clear hx hD
            generalize x 0 = v0
            generalize x 1 = v1
            generalize x 2 = v2
            generalize x 3 = v3
            generalize x 4 = v4
            generalize x 5 = v5
            generalize x 6 = v6
            generalize x 7 = v7
            go_wp2_with fail
            go_ret
            exact ⟨by rw [HN.out.1]; rfl, HD.out.yes HN.out.1 HN.out.2⟩
end Go.Proofs.YthpangacpihclaaDoor

/-
  The law VersionOf, from the program's contracts.
-/
import Derived.Deep.CutBlock
import Derived.LoopTactic
import Derived.Outline
import Derived.OneCell
import Derived.Laws.Rows
import Derived.Lib.ItoaNum
import Derived.Lib.Join
import Derived.Lib.AtoiAll
import Derived.Lib.Bytealg
import Derived.Test.YtimbhamdblganaaWVerA
import Derived.Test.YtimbhamdblganaaWFactsT
import Derived.Test.YtimbhamdblganaaWLabA
import Derived.Test.YtimbhamdblganaaWBitsM
import Derived.Test.YtimbhamdblganaaWArr
/-! LawVeOf -/
namespace Go.Proofs.Ytimbhamdblganaa
open Go.RowKit

/-- The policies so far, a row of the call's own. -/
structure OfW (w : World) (u : Value) (l : List Pol) (V : World) : Prop where
  below : Below w.heap.size w V
  own : V.ownsRow w.heap.size 34 66 u l.length (flatC polC l)
/-- The two policies that were told, and the store. -/
structure OtW (K : VerRel) (w : World) (b : Nat) (S : Sto) (b1 b2 : Nat) (q : Pol) (u : Value) (l : List Pol) (V : World) : Prop where
  ve : VeW K w b S V
  r1 : PRow V b1 q
  r2 : PRow V b2 q
  ps : PolsAt V u l
theorem OtW.step {K : VerRel} {w : World} {b : Nat} {S : Sto} {b1 b2 : Nat} {q : Pol} {u : Value} {l : List Pol} {V V' : World} (h : OtW K w b S b1 b2 q u l V) (hB : Below V.heap.size V V') : OtW K w b S b1 b2 q u l V' := ⟨h.ve.step hB, h.r1.step hB, h.r2.step hB, h.ps.below hB (Nat.le_refl _)⟩
theorem VeW.atB {K : VerRel} {w : World} {b : Nat} {S : Sto} {V : World} (c : VeAtC K) (h : VeW K w b S V) (e : Int) (h1 : -9223372036854775808 ≤ e) (h2 : e ≤ 9223372036854775807) : Calls Try.prog 13 #[storeV b, .int .i64 e] V fun x w' => x = .returned (.tuple #[.agg (polC (atP S e)), .int .i64 (atE S e)]) ∧ Below V.heap.size V w' := by
  obtain ⟨F, h3, -⟩ := h.ex
  exact c e h3 h.ok h1 h2
theorem VeW.epochB {K : VerRel} {w : World} {b : Nat} {S : Sto} {V : World} (c : VeEpochC K) (h : VeW K w b S V) : Calls Try.prog 12 #[storeV b] V fun x w' => x = .returned (.int .i64 (S.ep : Int)) ∧ Below V.heap.size V w' := by
  obtain ⟨F, h3, -⟩ := h.ex
  exact c h3 h.ok
theorem numPs_ok (l : List Nat) : ∀ p ∈ l.map numP, PolOk p := by
  intro p hp
  obtain ⟨n, -, rfl⟩ := List.mem_map.1 hp
  exact numP_ok n
set_option maxRecDepth 100000 in
set_option maxHeartbeats 3200000 in
theorem veof_any {K : VerRel} (cO : VeOfC K) (cX : VeOfNoC) (cT : VeCountC) (cA : VeAtC K) (cE : VeEpochC K) (cK : VeKeptC K) (cF : PFirstC) (hA : VeAliveC) (e : Int) (v : Value) (l : List Nat) (ask : Int) (w : World) (hv : U16sV w v l) (hx : ∀ x ∈ l, x < 65536)
    (he1 : -9223372036854775808 ≤ e) (he2 : e ≤ 9223372036854775807) (ha1 : -9223372036854775808 ≤ ask) (ha2 : ask ≤ 9223372036854775807) :
    Calls Try.prog 4 #[.int .i64 e, v, .int .i64 ask] w fun x w' => x = .returned (.bool true) ∧ Below w.heap.size w w' := by
  have HA := Lib.hid hA
  have HX := Lib.hid hx
  have HNu := Lib.hid (fun (n : Nat) V (h : n ≤ 65535) => vnum_any cF n V h)
  obtain ⟨p, cap, rfl, hll, hcs⟩ := hv
  have HC := Lib.hid hcs
  have HOf := Lib.hid cO
  have HNo := Lib.hid (fun v l V (h : PolsAt V v l) => cX e v l V h he1 he2)
  have HCt := Lib.hid (fun V => cT e V he1 he2)
  have HRk := Lib.hid (fun V => rvKept_any e V he1 he2)
  have HAt := @Lib.hid (VeAtC K) @cA
  have HEp := @Lib.hid (VeEpochC K) @cE
  have HKe := @Lib.hid (VeKeptC K) @cK
  have HAk := Lib.hid (And.intro ha1 ha2)
  obtain ⟨i0, hi, hix⟩ := Option.map_eq_some_iff.1 infoPl
  simp only [Prod.mk.injEq] at hix
  obtain ⟨hz0, hz1, hz2⟩ := hix
  have HI := Lib.hid (And.intro hi (And.intro hz0 (And.intro hz1 hz2)))
  clear hx hcs cO cX cT cA cE cK cF hA ha1 ha2 hi hz0 hz1 hz2
  go_enter Try.func4, Try.ntmps4
  by_cases h40 : 40 < l.length
  · have d : decide ((40 : Int) < (l.length : Int)) = true := by simp; omega
    have d2 : decide (40 < l.length) = true := by simpa using h40
    go_wp2_with fail
    refine (HA.out _).mono ?_
    rintro e w1 ⟨rfl, hB⟩
    have HB := Lib.hid hB
    clear hB
    go_wp2_with fail
    go_ret
    exact ⟨rfl, HB.out⟩
  have d : decide ((40 : Int) < (l.length : Int)) = false := by simp; omega
  have d2 : decide (40 < l.length) = false := by simpa using h40
  have HL := Lib.hid (show l.length ≤ 40 by omega)
  have HG0 := Lib.hid (show OfW w (.slice none 0 0) ((l.take 0).map numP) w from ⟨Below.refl _ _, ⟨rfl, .inl ⟨rfl, rfl⟩⟩⟩)
  clear h40
  go_wp2_with fail
  clear d d2
  go_loopw [7, 8] (fun u i wr => ∃ k : Nat, k ≤ l.length ∧ i = .int .i64 (k : Int) ∧ OfW w u ((l.take k).map numP) wr) (fun _ i _ => l.length - (intOf i).toNat)
  case atStart => exact ⟨0, by omega, rfl, HG0.out⟩
  case round =>
    obtain ⟨k, hk, rfl, hg⟩ := hrel
    have HG := Lib.hid hg
    clear hg HG0
    by_cases hlt : k < l.length
    · have dk : decide ((k : Int) < (l.length : Int)) = true := by simp; omega
      have dk2 : decide (k < l.length) = true := by simpa using hlt
      obtain ⟨g, off, rfl, hgl, hcs⟩ := HC.out (by intro e; rw [e] at hlt; cases hlt)
      have hcl := (HG.out.below.cell (p := ⟨g, off + k, none⟩) hgl).trans (hcs k hlt)
      have HXk := Lib.hid (HX.out l[k] (List.getElem_mem hlt))
      have HTk := Lib.hid (show (l.take (k + 1)).map numP = (l.take k).map numP ++ [numP l[k]] by rw [List.take_succ_eq_append_getElem hlt, List.map_append]; rfl)
      have HLk := Lib.hid (show ((l.take k).map numP).length = k by rw [List.length_map, List.length_take]; omega)
      generalize l[k] = x0 at *
      generalize (l.take k).map numP = m at *
      have HKl := Lib.hid hlt
      have hk0 : (0 : Int) ≤ (k : Int) := by omega
      have hk1 : (k : Int) < (l.length : Int) := by omega
      have hwx : IntKind.i64.wrap (x0 : Int) = (x0 : Int) := by have := HXk.out; rw [IntKind.wrap_i64]; omega
      have h5 := Lib.hid (HNu.out x0 wr (by have := HXk.out; omega))
      clear hcs
      go_wp2_with fail
      refine h5.out.mono ?_
      rintro e1 w5 ⟨rfl, hB5⟩
      have HB5 := Lib.hid (HG.out.below.trans (hB5.mono HG.out.below.size))
      have HO5 := Lib.hid (show w5.ownsRow w.heap.size 34 66 u7 m.length (flatC polC m) from own_belowC HG.out.own hB5)
      clear hB5 h5 hcl HG
      generalize numP x0 = q at *
      have HB6 := Lib.hid (HB5.out.trans (belowNew w5 (.cells (flatC polC [q]).toArray 34) |>.mono HB5.out.size))
      have HO6 := Lib.hid (HO5.out.alloc (.cells (flatC polC [q]).toArray 34))
      have HCn := Lib.hid (cells_madeC w5 (flatC polC [q]).toArray 34)
      have hmk := HLk.out
      have hwk : IntKind.i64.wrap ((k : Int) + 1) = (k : Int) + 1 := by have := HL.out; rw [IntKind.wrap_i64]; omega
      go_wp2_with (first
        | (refine wpList_build_flat polC_size (by decide) rfl _ 34 1 _ rfl Try.underlying36 infoPl [q] (by simp) rfl (by show 1 * 66 ≤ 2 ^ 24; decide) rfl ?_)
        | (at_builtin; refine wpList_append_own_at _ rfl _ _ 36 rfl w.heap.size 34 i0 _ 66 116 Try.underlying36 HI.out.1 HI.out.2.1 HI.out.2.2.1 HI.out.2.2.2 (polC_size zeroP) (by decide) u7 m.length (flatC polC m) rfl HO6.out ⟨w5.heap.size, 0, none⟩ 1 1 (flatC polC [q]) rfl (flatC_length polC_size [q]) HCn.out (flatC_cells polC_one [q]) (by have := HL.out; unfold maxLen; omega) (by have := HL.out; omega) HB6.out.size ?_; intro v7 w7 hr7 hg7 hx1 hx2; have HG7 := Lib.hid (show OfW w v7 (m ++ [q]) w7 from ⟨HB6.out.grown hg7 HB6.out.size (fun r e => (HO6.out.lt r e).1), own_snocC (c := q) (by rw [flatC_one] at hr7; exact hr7)⟩); clear hr7 hg7 hx1 hx2))
      rw [← HTk.out] at HG7
      go_roundw
      case rel => exact ⟨k + 1, by have := HKl.out; omega, by go_num, HG7.out⟩
      case measure => have := HKl.out; simp [intOf]; omega
    · have dk : decide ((k : Int) < (l.length : Int)) = false := by simp; omega
      have dk2 : decide (k < l.length) = false := by simpa using hlt
      obtain rfl : k = l.length := by omega
      have HG1 := HG
      rw [List.take_length] at HG1
      clear HG hlt hk
      have HPs := Lib.hid (SlAt.ofRow (ok := PolOk) polC_size HG1.out.own (numPs_ok l))
      have HLm := Lib.hid (show (l.map numP).length = l.length from List.length_map _)
      generalize l.map numP = m at *
      obtain ⟨p7, c7, rfl, -, -⟩ := HPs.out
      by_cases hz : keptN e = 0
      · skip
        have h1 := Lib.hid (HNo.out (.slice p7 m.length c7) m wr HPs.out (.inl hz))
        rw [if_pos hz] at h1
        have d1 : ((keptN e : Int) == 0) = true := by rw [hz]; rfl
        have d2 : (keptN e == 0) = true := by rw [hz]; rfl
        clear hz
        generalize keptN e = kn at *
        have d3 : ((kn : Int) != (kn : Int)) = false := by simp
        go_wp2_with fail
        refine h1.out.mono ?_
        rintro e1 w2 ⟨rfl, hB2⟩
        have HB2 := Lib.hid (HG1.out.below.trans (hB2.mono HG1.out.below.size))
        clear hB2 h1
        go_wp2_with fail
        refine (HRk.out _).mono ?_
        rintro e1 wx ⟨rfl, rfl⟩
        go_wp2_with fail
        refine (HCt.out _).mono ?_
        rintro e1 wx ⟨rfl, rfl⟩
        go_wp2_with fail
        refine (HA.out _).mono ?_
        rintro e1 w5 ⟨rfl, hB5⟩
        have HB5 := Lib.hid (HB2.out.trans (hB5.mono HB2.out.size))
        clear hB5
        go_wp2_with fail
        go_ret
        exact ⟨rfl, HB5.out⟩
      by_cases hn : m.length ≠ keptN e
      · skip
        have h1 := Lib.hid (HNo.out (.slice p7 m.length c7) m wr HPs.out (.inr hn))
        rw [if_neg hz] at h1
        have d1 : ((keptN e : Int) == 0) = false := by rw [beq_eq_false_iff_ne]; omega
        have d2 : (keptN e == 0) = false := by rw [beq_eq_false_iff_ne]; omega
        have d4 : ((keptN e : Int) != (m.length : Int)) = true := by simp; omega
        have d5 : (keptN e != m.length) = true := by simp; omega
        clear hz hn
        generalize keptN e = kn at *
        have d3 : ((kn : Int) != (kn : Int)) = false := by simp
        go_wp2_with fail
        refine h1.out.mono ?_
        rintro e1 w2 ⟨rfl, hB2⟩
        have HB2 := Lib.hid (HG1.out.below.trans (hB2.mono HG1.out.below.size))
        clear hB2 h1
        go_wp2_with fail
        refine (HRk.out _).mono ?_
        rintro e1 wx ⟨rfl, rfl⟩
        go_wp2_with fail
        refine (HCt.out _).mono ?_
        rintro e1 wx ⟨rfl, rfl⟩
        go_wp2_with fail
        refine (HA.out _).mono ?_
        rintro e1 w5 ⟨rfl, hB5⟩
        have HB5 := Lib.hid (HB2.out.trans (hB5.mono HB2.out.size))
        clear hB5
        go_wp2_with fail
        go_ret
        exact ⟨rfl, HB5.out⟩
      have hn2 : m.length = keptN e := by omega
      have he0 : 0 ≤ e ∧ e ≤ 255 := by
        unfold keptN at hz
        split at hz
        · exact absurd rfl hz
        · omega
      obtain ⟨en, rfl⟩ := Int.eq_ofNat_of_zero_le he0.1
      have hen : en ≤ 255 := by omega
      have h1 := Lib.hid (HOf.out (en : Int) (.slice p7 m.length c7) m wr HPs.out hz hn2)
      rw [Int.toNat_natCast] at h1
      have HSo := Lib.hid (show StoOk ⟨en, m⟩ from ⟨hen, hn2, HPs.out.oks⟩)
      have HRa := Lib.hid (fun V (h : PolsAt V (.slice p7 m.length c7) m) => by
        have k := rvAt_any en (.slice p7 m.length c7) m ask V h hen (by rw [hn2]; exact Nat.le_refl _) (by have := HLm.out; have := HL.out; omega) HAk.out.1 HAk.out.2
        rw [lastK_all hn2] at k
        exact k)
      have d1 : ((keptN (en : Int) : Int) == 0) = false := by rw [beq_eq_false_iff_ne]; omega
      have d2 : (keptN (en : Int) == 0) = false := by rw [beq_eq_false_iff_ne]; omega
      have d4 : ((keptN (en : Int) : Int) != (m.length : Int)) = false := by simp; omega
      have d5 : (keptN (en : Int) != m.length) = false := by simp; omega
      clear hz hn hn2 he0 hen
      generalize keptN (en : Int) = kn at *
      have d3 : ((kn : Int) != (kn : Int)) = false := by simp
      go_wp2_with fail
      refine h1.out.mono ?_
      rintro e1 w2 ⟨b, F, rfl, hAt2, hF2, hB2⟩
      have HV2 := Lib.hid (show VeW K w b ⟨en, m⟩ w2 from ⟨HG1.out.below.trans (hB2.mono HG1.out.below.size), HSo.out, F, hAt2, fun k hk => Nat.le_trans HG1.out.below.size (hF2 k hk)⟩)
      have HP2 := Lib.hid (HPs.out.below hB2 (Nat.le_refl _))
      clear hAt2 hF2 hB2 h1 HG1
      go_wp2_with fail
      refine (HRk.out _).mono ?_
      rintro e1 wx ⟨rfl, rfl⟩
      go_wp2_with fail
      refine (HCt.out _).mono ?_
      rintro e1 wx ⟨rfl, rfl⟩
      have h3 := Lib.hid (HV2.out.atB HAt.out ask HAk.out.1 HAk.out.2)
      have HOq := Lib.hid (show PolOk (atP ⟨en, m⟩ ask) by
        unfold atP
        split
        · exact getD_ok HSo.out.ok zeroP_ok _
        · exact zeroP_ok)
      generalize atP ⟨en, m⟩ ask = q at *
      generalize atE ⟨en, m⟩ ask = ae at *
      go_wp2_with fail
      refine h3.out.mono ?_
      rintro e1 w4 ⟨rfl, hB4⟩
      have HV4 := Lib.hid (HV2.out.step hB4)
      have HP4 := Lib.hid (HP2.out.below hB4 (Nat.le_refl _))
      have hz := PRow.new w4 zeroP
      clear hB4 h3 HV2 HP2
      go_upto_region 17 with (refine wpList_store_arr rfl rfl _ _ _ rfl rfl rfl hz (infoPol _) (by rw [polC_size, polC_size]) (polC_one _) ?_; intro w5 hw5)
      have HB5 := Lib.hid (show Below w4.heap.size w4 w5 from (belowNew w4 _).trans (hw5.below (by simp) (Nat.le_refl _)))
      have HR5 := Lib.hid (show PRow w5 w4.heap.size q from hw5.blk)
      have HV5 := Lib.hid (HV4.out.step HB5.out)
      have HP5 := Lib.hid (HP4.out.below HB5.out (Nat.le_refl _))
      clear hw5 hz HB5 HV4 HP4
      generalize w4.heap.size = b1 at *
      go_wp2_with fail
      refine (HRa.out _ HP5.out).mono ?_
      rintro e1 w6 ⟨rfl, hB6⟩
      have HV6 := Lib.hid (HV5.out.step hB6)
      have HP6 := Lib.hid (HP5.out.below hB6 (Nat.le_refl _))
      have HR6 := Lib.hid (HR5.out.step hB6)
      have hz := PRow.new w6 zeroP
      clear hB6 HV5 HP5 HR5
      go_upto_region 18 with (refine wpList_store_arr rfl rfl _ _ _ rfl rfl rfl hz (infoPol _) (by rw [polC_size, polC_size]) (polC_one _) ?_; intro w7 hw7)
      have hB7 : Below w6.heap.size w6 w7 := (belowNew w6 _).trans (hw7.below (by simp) (Nat.le_refl _))
      have HT := Lib.hid (show OtW K w b ⟨en, m⟩ b1 w6.heap.size q (.slice p7 m.length c7) m w7 from ⟨HV6.out.step hB7, HR6.out.step hB7, hw7.blk, HP6.out.below hB7 (Nat.le_refl _)⟩)
      clear hw7 hz hB7 HV6 HP6 HR6
      generalize w6.heap.size = b2 at *
      have hr1 := HT.out.r1
      have hr2 := HT.out.r2
      have da : (ae == ae) = true := by simp
      have h8 := Lib.hid (HT.out.ve.epochB HEp.out)
      go_wp2_with (first
        | (refine wpList_load_arr rfl _ _ rfl rfl hr1 Try.underlying34 rfl (infoPol _) ?_)
        | (refine wpList_load_arr rfl _ _ rfl rfl hr2 Try.underlying34 rfl (infoPol _) ?_)
        | (refine wpList_of rfl (exec_eql_pol HOq.out rfl rfl rfl) ?_))
      refine h8.out.mono ?_
      rintro e1 w8 ⟨rfl, hB8⟩
      have HT8 := Lib.hid (HT.out.step hB8)
      have h9 := Lib.hid (HT8.out.ve.keptL HKe.out)
      have de : ((en : Int) == (en : Int)) = true := by simp
      have de2 : (en == en) = true := by simp
      clear hB8 h8 HT hr1 hr2
      go_wp2_with fail
      refine h9.out.mono ?_
      rintro e1 w9 ⟨u, rfl, hr, hB9⟩
      have hs9 := SlAt.ofRow (ok := PolOk) polC_size hr HSo.out.ok
      have HT9 := Lib.hid (HT8.out.step hB9)
      have h10 := Lib.hid (rvSame_any u (.slice p7 m.length c7) m w9 hs9 HT9.out.ps)
      clear hr hs9 hB9 h9 HT8
      go_wp2_with fail
      refine h10.out.mono ?_
      rintro e1 w10 ⟨rfl, hB10⟩
      have HB10 := Lib.hid (HT9.out.ve.below.trans (hB10.mono HT9.out.ve.below.size))
      clear hB10 h10 HT9
      go_wp2_with fail
      refine (HA.out _).mono ?_
      rintro e1 w11 ⟨rfl, hB11⟩
      have HB11 := Lib.hid (HB10.out.trans (hB11.mono HB10.out.size))
      clear hB11
      go_wp2_with fail
      go_ret
      exact ⟨rfl, HB11.out⟩
end Go.Proofs.Ytimbhamdblganaa

/-
  The document's changes: Read.
-/
import Derived.Deep.DeepCutAuto
import Derived.Deep.CutBlock
import Derived.Maps.AppendAt
import Derived.Test.YthpangacpihclaaDoorWChT
import Derived.Test.YthpangacpihclaaDoorWChA
import Derived.Test.YthpangacpihclaaDoorW2
/-! ChU -/
namespace Go.Proofs.YthpangacpihclaaDoor
open Go.RowKit

def csC (l : List Cg) : List Value := l.flatMap fun c => (chgC c).toList
theorem csC_push (l : List Cg) (c : Cg) : csC (l ++ [c]) = csC l ++ (chgC c).toList := by simp [csC]
theorem csC_get : ∀ (l : List Cg) (i : Nat) (h : i < l.length) (j : Nat) (u : Value), (chgC l[i])[j]? = some u → (csC l)[i * 5 + j]? = some u
  | c :: l, 0, _, j, u, hu => by
    have e : csC (c :: l) = (chgC c).toList ++ csC l := rfl
    have hj := (Array.getElem?_eq_some_iff.1 hu).1
    rw [e, Nat.zero_mul, Nat.zero_add, List.getElem?_append_left (by simpa using hj), Array.getElem?_toList]
    exact hu
  | c :: l, i + 1, h, j, u, hu => by
    have h' : i < l.length := by simpa using h
    have e : csC (c :: l) = (chgC c).toList ++ csC l := rfl
    rw [e, List.getElem?_append_right (by simp [chgC]; omega), show (i + 1) * 5 + j - (chgC c).toList.length = i * 5 + j by simp [chgC]; omega]
    exact csC_get l i h' j u hu
theorem ownS_chg {S : Nat → Prop} {w w' : World} {base e n z : Nat} {v : Value} {xs : List Value} (h : w.ownsRow base e z v n xs) (hc : Chg S w w') (hv : ∀ k, v.ownBlock = some k → ¬ S k) : w'.ownsRow base e z v n xs := by
  obtain ⟨h1, h2⟩ := h
  refine ⟨h1, ?_⟩
  rcases h2 with h2 | ⟨g, cap, cur, rfl, hg, hgg, rest⟩
  · exact .inl h2
  · refine .inr ⟨g, cap, cur, rfl, hg, ?_, rest⟩
    rw [hc.block g (Array.getElem?_eq_some_iff.1 hgg).1 (hv g rfl)]; exact hgg
/-- What is owned is read as changes. -/
theorem ChsAt.ofRow {w : World} {base e : Nat} {v : Value} {l : List Cg} (h : w.ownsRow base e 5 v l.length (csC l)) (hl : l.length ≤ 9223372036854775807) (hc : ∀ c ∈ l, CgOk c) : ChsAt w v l := by
  obtain ⟨-, ⟨rfl, h0⟩ | ⟨g, cap, cur, rfl, hb, hg, hcp, hm, hs, ht⟩⟩ := h
  · have e0 : l = [] := List.eq_nil_of_length_eq_zero h0
    subst e0
    exact ⟨none, 0, rfl, by decide, fun h => absurd rfl h⟩
  · refine ⟨_, cap, rfl, hl, fun _ => ⟨g, 0, rfl, lt_of_block hg, fun i hi => ⟨hc _ (List.getElem_mem hi), fun j u hu => ?_⟩⟩⟩
    have hcell : ∀ k, w.cell? ⟨g, k, none⟩ = cur[k]? := fun k => Blk.cell (w := w) (t := e) hg k
    have hk : ∀ k u, (csC l)[k]? = some u → cur[k]? = some u := fun k u hu => by
      rw [← ht, List.getElem?_take] at hu
      split at hu
      · rw [← hu, Array.getElem?_toList]
      · cases hu
    rw [Nat.zero_add, hcell]
    exact hk _ _ (csC_get l i hi j u hu)
theorem infoCh5 : (Tryd.prog.info? 31).map (fun i => (i.zero, i.size, i.bytes)) = some (some (.agg (chgC ⟨0, 0, 0, 0, 0⟩)), 5, 32) := by kernel_rfl

theorem chg_set0 (k a b : Int) (s i : Nat) (x : Int) : (chgC ⟨k, a, b, s, i⟩).setIfInBounds 0 (.int .i64 x) = chgC ⟨x, a, b, s, i⟩ := rfl
theorem chg_set1 (k a b : Int) (s i : Nat) (x : Int) : (chgC ⟨k, a, b, s, i⟩).setIfInBounds 1 (.int .i64 x) = chgC ⟨k, x, b, s, i⟩ := rfl
theorem chg_set2 (k a b : Int) (s i : Nat) (x : Int) : (chgC ⟨k, a, b, s, i⟩).setIfInBounds 2 (.int .i64 x) = chgC ⟨k, a, x, s, i⟩ := rfl
theorem chg_set3 (k a b : Int) (s i : Nat) (x : Nat) : (chgC ⟨k, a, b, s, i⟩).setIfInBounds 3 (.int .u16 (x : Int)) = chgC ⟨k, a, b, x, i⟩ := rfl
theorem chg_set4 (k a b : Int) (s i : Nat) (x : Nat) : (chgC ⟨k, a, b, s, i⟩).setIfInBounds 4 (.int .u16 (x : Int)) = chgC ⟨k, a, b, s, x⟩ := rfl

/-- Between rounds: the Reader, and the changes so far. -/
structure RCW (w : World) (b : Nat) (ty : TypeId) (g : Nat) (L : List UInt8) (v : Value) (l : List Cg) (s : WSt) (V : World) : Prop where
  rd : XRd V b ty g L s
  own : V.ownsRow w.heap.size 31 5 v l.length (csC l)
  chg : Chg (fun k => k = b) w V
section
variable {w : World} {b : Nat} {ty : TypeId} {g : Nat} {L : List UInt8} {v v' : Value} {l : List Cg} {s s' : WSt} {V V' : World} {c0 : Nat} {d d' : Cg}
theorem RCW.step (h : RCW w b ty g L v l s V) (hB : Below V.heap.size V V') : RCW w b ty g L v l s V' :=
  ⟨h.rd.below hB (Nat.le_refl _), ownS_chg h.own (Chg.ofBelow (S := fun _ => False) hB) (fun _ _ h => h), h.chg.trans (Chg.ofBelow hB)⟩
theorem RCW.to (h : RCW w b ty g L v l s V) (hb : b < w.heap.size) (hX : XTo V b ty g L s' V') : RCW w b ty g L v l s' V' :=
  ⟨hX.1, ownS_chg h.own hX.2 (fun k hk e => by have := (h.own.lt k hk).1; have h2 : k = b := e; omega), h.chg.trans hX.2⟩
theorem RCW.lt (h : RCW w b ty g L v l s V) : ∀ k, v.ownBlock = some k → w.heap.size ≤ k ∧ k < V.heap.size := fun k hk => h.own.lt k hk
/-- With the change that is read. -/
structure RCC (w : World) (b : Nat) (ty : TypeId) (g : Nat) (L : List UInt8) (v : Value) (l : List Cg) (s : WSt) (c0 : Nat) (d : Cg) (V : World) : Prop where
  cw : RCW w b ty g L v l s V
  blk : Blk V c0 (chgC d) 31
  le : w.heap.size ≤ c0
  ne : ∀ k, v.ownBlock = some k → k < c0
theorem RCC.new (h : RCW w b ty g L v l s V) (d : Cg) : RCC w b ty g L v l s V.heap.size d (V.alloc (.cells (chgC d) 31)) :=
  ⟨h.step (belowNew V _), Blk.new V _ _, h.chg.size, fun k hk => (h.lt k hk).2⟩
theorem RCC.step (h : RCC w b ty g L v l s c0 d V) (hB : Below V.heap.size V V') : RCC w b ty g L v l s c0 d V' :=
  ⟨h.cw.step hB, h.blk.below hB h.blk.lt, h.le, h.ne⟩
theorem RCC.to (h : RCC w b ty g L v l s c0 d V) (hb : b < w.heap.size) (hX : XTo V b ty g L s' V') : RCC w b ty g L v l s' c0 d V' :=
  ⟨h.cw.to hb hX, hX.2.kept h.blk (fun e => by have h2 : c0 = b := e; have := h.le; omega), h.le, h.ne⟩
theorem RCC.cell (h : RCC w b ty g L v l s c0 d V) (hb : b < w.heap.size) (hg : g < w.heap.size) {k : Nat} {u : Value} (hd : (chgC d).setIfInBounds k u = chgC d') : RCC w b ty g L v l s c0 d' (V.setCell ⟨c0, k, none⟩ u) := by
  have h1 := h.le
  have hc := (Chg.refl (fun k => k = c0) V).setCell (p := ⟨c0, k, none⟩) (fun _ => rfl) u
  refine ⟨⟨h.cw.rd.kept hc (by show ¬ b = c0; omega) (by show ¬ g = c0; omega), ownS_chg h.cw.own hc (fun i hi e => by have := h.ne i hi; have h2 : i = c0 := e; omega), h.cw.chg.setCell (fun hk => by have h2 : c0 < w.heap.size := hk; omega) u⟩, ?_, h.le, h.ne⟩
  rw [← hd]; exact h.blk.set k u
theorem RCW.push (h : RCW w b ty g L v l s V) (hb : b < w.heap.size) (hg : g < w.heap.size) (hr : V'.ownsRow w.heap.size 31 5 v' (l.length + 1) (csC l ++ (chgC d).toList)) (hgr : V.grownBy V' v.ownBlock) : RCW w b ty g L v' (l ++ [d]) s V' := by
  have hc := Chg.ofGrown hgr
  refine ⟨h.rd.kept hc (fun e => by have := (h.lt b e).1; omega) (fun e => by have := (h.lt g e).1; omega), ?_, h.chg.then hc (fun i hi e => by have := (h.lt i e).1; omega)⟩
  rw [List.length_append, csC_push]; exact hr
end
theorem cells_new (w : World) (xs : Array Value) (t : TypeId) : ∀ (j : Nat) (u : Value), xs.toList[j]? = some u → (w.alloc (.cells xs t)).cell? ((⟨w.heap.size, 0, none⟩ : Addr).add j) = some u := by
  intro j u hj
  have hadd : (⟨w.heap.size, 0, none⟩ : Addr).add j = ⟨w.heap.size, j, none⟩ := by unfold Addr.add; split <;> simp_all
  rw [hadd, Blk.cell (Blk.new w xs t) j, ← Array.getElem?_toList]
  exact hj
theorem rdWd_cast (s : WSt) : ((rdWd s : Nat) : Int) = (dNum s 2 65535).1 := Int.toNat_of_nonneg (by
  unfold dNum; split
  · split
    · exact Int.le_refl _
    · exact Int.natCast_nonneg _
  · exact Int.le_refl _)
def CReadIs (w : World) (b : Nat) (ty : TypeId) (g : Nat) (L : List UInt8) (s : WSt) (e : Ending) (w' : World) : Prop := ∃ u, e = .returned u ∧ w'.ownsRow w.heap.size 31 5 u (rdQ s).length (csC (rdQ s)) ∧ XTo w b ty g L (rdQs s) w'
set_option maxRecDepth 100000 in
set_option maxHeartbeats 800000 in
theorem rcRead_any (b : Nat) (ty : TypeId) (g : Nat) (L : List UInt8) (s : WSt) (w : World) (h : XRd w b ty g L s) (hg : g ≠ b) (hgl : g < w.heap.size) (hL : L.length ≤ 1000000) :
    Calls Tryd.prog 21 #[.pointer (some ⟨b, 0, none⟩)] w (CReadIs w b ty g L s) := by
  have hbl : b < w.heap.size := by obtain ⟨p, c, k, h1, -⟩ := h; exact h1.lt
  have hft : Fit s := by obtain ⟨p, c, k, -, -, -, -, h5⟩ := h; exact h5
  have HX := Lib.hid h
  have HH := Lib.hid (And.intro hg (And.intro hgl (And.intro hL hbl)))
  have HNm := Lib.hid (fun V s2 (size most : Int) (hx : XRd V b ty g L s2) => xnum_any b ty g L s2 size most V hx hg hL)
  have HBy := Lib.hid (fun V s2 (hx : XRd V b ty g L s2) => (xbyte_any b ty g L s2 V hx hg hL).mono (fun e w' (hq : XByteIs V b ty g L s2 e w') => (show e = .returned (.int .i64 (rdB s2 : Nat)) ∧ XTo V b ty g L (rdBs s2) w' from by
    obtain ⟨p, c, k, -, -, -, -, h5⟩ := hx
    obtain ⟨h6, h7⟩ := byte_dNum h5
    rw [← h6, ← h7]; exact hq)))
  have HWd := Lib.hid (fun V s2 (hx : XRd V b ty g L s2) => (HNm.out V s2 2 65535 hx).mono (fun e w' (hq : XNumIs V b ty g L (dNum s2 2 65535) e w') => (show e = .returned (.int .i64 (rdWd s2 : Nat)) ∧ XTo V b ty g L (rdWs s2) w' from by
    rw [rdWd_cast]; exact hq)))
  obtain ⟨i0, hi, hx⟩ := Option.map_eq_some_iff.1 infoCh5
  simp only [Prod.mk.injEq] at hx
  obtain ⟨hz0, hz1, hz2⟩ := hx
  have HI := Lib.hid (And.intro hi (And.intro hz0 (And.intro hz1 hz2)))
  clear h hg hgl hL hbl hft hi hz0 hz1 hz2 HNm
  go_enter Tryd.func21, Tryd.ntmps21
  go_wp2_with fail
  refine (HBy.out _ _ HX.out).mono ?_
  rintro e w1 ⟨rfl, hX1⟩
  have HX1 := Lib.hid hX1
  clear hX1 HX
  have HHd := Lib.hid (show rdHead s = if (rdBs s).2 = 0 ∧ (rdB s < 1 ∨ 6 < rdB s) then ([], 5) else rdBs s from rfl)
  have HAl := Lib.hid (show rdAll s = rdMany (rdB s) [] (rdHead s) from rfl)
  have HQ1 := Lib.hid (show rdQ s = if (rdAll s).2.2 = 0 then (rdAll s).1 else [] from rfl)
  have HQ2 := Lib.hid (show rdQs s = (rdAll s).2 from rfl)
  have hn := rdB_lt s
  generalize rdB s = n at *
  generalize rdHead s = sh at *
  generalize rdBs s = s1 at *
  go_upto_region 2 with fail
  obtain ⟨k1, f1⟩ : w1.cell? ⟨b, 2, none⟩ = some (.int .i64 s1.2) ∧ w1.frozen? ⟨b, 2, none⟩ = false := by
    obtain ⟨p, c, k, h1, -⟩ := HX1.out.1
    exact ⟨h1.cell 2, h1.free 2⟩
  go_cut [21] (fun x wx => x = .bool (decide (s1.2 = 0 ∧ (n < 1 ∨ 6 < n))) ∧ wx = w1)
  case first =>
    by_cases e1 : s1.2 = 0
    · have d0 : (s1.2 == 0) = true := by simpa using e1
      rw [e1] at k1
      by_cases e2 : n < 1
      · have d2 : decide ((n : Int) < 1) = true := by simp; omega
        have HD := Lib.hid (show decide (s1.2 = 0 ∧ (n < 1 ∨ 6 < n)) = true by simp [e1, e2])
        clear e1
        go_wp2_with fail
        go_meet
        exact ⟨congrArg Value.bool HD.out.symm, rfl⟩
      · by_cases e3 : 6 < n
        · have d2 : decide ((n : Int) < 1) = false := by simp; omega
          have d4 : decide ((6 : Int) < (n : Int)) = true := by simp; omega
          have HD := Lib.hid (show decide (s1.2 = 0 ∧ (n < 1 ∨ 6 < n)) = true by simp [e1, e3])
          clear e1
          go_wp2_with fail
          go_meet
          exact ⟨congrArg Value.bool HD.out.symm, rfl⟩
        · have d2 : decide ((n : Int) < 1) = false := by simp; omega
          have d4 : decide ((6 : Int) < (n : Int)) = false := by simp; omega
          have HD := Lib.hid (show decide (s1.2 = 0 ∧ (n < 1 ∨ 6 < n)) = false by simp [e2, e3])
          clear e1
          go_wp2_with fail
          go_meet
          exact ⟨congrArg Value.bool HD.out.symm, rfl⟩
    · have d0 : (s1.2 == 0) = false := by simpa using e1
      have HD := Lib.hid (show decide (s1.2 = 0 ∧ (n < 1 ∨ 6 < n)) = false by simp [e1])
      clear e1
      go_wp2_with fail
      go_meet
      exact ⟨congrArg Value.bool HD.out.symm, rfl⟩
  case rest =>
    obtain ⟨rfl, rfl⟩ := hcut
    go_upto_if 21 with fail
    go_cut [21] (fun _ wx => Hid (XTo w b ty g L sh wx))
    case first =>
      by_cases hb : s1.2 = 0 ∧ (n < 1 ∨ 6 < n)
      · rw [decide_eq_true hb]
        have HY := Lib.hid (show XTo w b ty g L sh (wc.setCell ⟨b, 2, none⟩ (.int .i64 5)) from by
          rw [HHd.out, if_pos hb]
          exact HX1.out.trans (HX1.out.1.set HH.out.1 (by decide)))
        go_wp2_with fail
        go_meet
        exact HY
      · rw [decide_eq_false hb]
        have HY := Lib.hid (show XTo w b ty g L sh wc from by rw [HHd.out, if_neg hb]; exact HX1.out)
        go_wp2_with fail
        go_meet
        exact HY
    case rest =>
      have HS0 := Lib.hid (show RCW w b ty g L (.slice none 0 0) [] sh wc from ⟨hcut.out.1, ⟨rfl, .inl ⟨rfl, rfl⟩⟩, hcut.out.2⟩)
      clear k1 f1 hcut HX1
      go_wp2_with fail
      have HnB := Lib.hid hn
      go_loopw [4, 5] (fun v i wr => ∃ (k : Nat) (l : List Cg) (q : WSt), k ≤ n ∧ i = .int .i64 (k : Int) ∧ l.length = k ∧ rdMany (n - k) l q = rdAll s ∧ RCW w b ty g L v l q wr) (fun _ i _ => n - (intOf i).toNat)
      case atStart => exact ⟨0, [], sh, by omega, rfl, rfl, HAl.out.symm, HS0.out⟩
      case round =>
        obtain ⟨k, l, q, hk, rfl, hlk, hm, hw⟩ := hrel
        have HG := Lib.hid hw
        have HM := Lib.hid hm
        have HLk := Lib.hid hlk
        clear hw hm hlk HS0
        obtain ⟨k2, f2⟩ : wr.cell? ⟨b, 2, none⟩ = some (.int .i64 q.2) ∧ wr.frozen? ⟨b, 2, none⟩ = false := by
          obtain ⟨p, c, k, h1, -⟩ := HG.out.rd
          exact ⟨h1.cell 2, h1.free 2⟩
        by_cases he : q.2 = 0
        · have HQe := Lib.hid he
          rw [he] at k2
          clear he
          by_cases hlt : k < n
          · have dk : decide ((k : Int) < (n : Int)) = true := by simp; omega
            have hlt' : (k : Int) < (n : Int) := by omega
            have HM2 := Lib.hid (show rdMany (n - (k + 1)) (l ++ [rdCg q]) (rdOne q) = rdAll s from by
              rw [← HM.out, show n - k = n - (k + 1) + 1 by omega, rdMany_step HQe.out])
            go_upto_region 9 with fail
            have HC0 := Lib.hid (show RCC w b ty g L u4 l q wr.heap.size ⟨0, 0, 0, 0, 0⟩ (wr.alloc (.cells #[.int .i64 0, .int .i64 0, .int .i64 0, .int .u16 0, .int .u16 0] 31)) from RCC.new HG.out _)
            have HOk := Lib.hid (rdCg_ok q)
            have HRc := Lib.hid (rdCg_is q)
            have HRs := Lib.hid (rdCs_is q)
            have HOn := Lib.hid (rdOne_is q)
            clear k2 f2 HG HM
            generalize rdOne q = qo at *
            generalize rdCs q = qc at *
            generalize rdCg q = d at *
            generalize wr.alloc _ = w3 at *
            generalize wr.heap.size = c0 at *
            go_wp2_with fail
            refine (HBy.out _ _ HC0.out.cw.rd).mono ?_
            rintro e w4 ⟨rfl, hX4⟩
            have HC4a := Lib.hid (HC0.out.to HH.out.2.2.2 hX4)
            clear hX4
            generalize rdB q = x0 at *
            generalize rdBs q = q1 at *
            have k4 := HC4a.out.blk.cell 0
            have f4 := HC4a.out.blk.free 0
            have HC4 := Lib.hid (show RCC w b ty g L u4 l q1 c0 ⟨(x0 : Nat), 0, 0, 0, 0⟩ (w4.setCell ⟨c0, 0, none⟩ (.int .i64 (x0 : Nat))) from HC4a.out.cell HH.out.2.2.2 HH.out.2.1 (chg_set0 _ _ _ _ _ _))
            go_upto_region 10 with fail
            clear k4 f4 HC4a HC0
            generalize w4.setCell _ _ = V4 at *
            go_wp2_with fail
            refine (HBy.out _ _ HC4.out.cw.rd).mono ?_
            rintro e w5 ⟨rfl, hX5⟩
            have HC5a := Lib.hid (HC4.out.to HH.out.2.2.2 hX5)
            clear hX5
            generalize rdB q1 = x1 at *
            generalize rdBs q1 = q2 at *
            have k5 := HC5a.out.blk.cell 1
            have f5 := HC5a.out.blk.free 1
            have HC5 := Lib.hid (show RCC w b ty g L u4 l q2 c0 ⟨(x0 : Nat), (x1 : Nat), 0, 0, 0⟩ (w5.setCell ⟨c0, 1, none⟩ (.int .i64 (x1 : Nat))) from HC5a.out.cell HH.out.2.2.2 HH.out.2.1 (chg_set1 _ _ _ _ _ _))
            go_upto_region 11 with fail
            clear k5 f5 HC5a HC4
            generalize w5.setCell _ _ = V5 at *
            go_wp2_with fail
            refine (HBy.out _ _ HC5.out.cw.rd).mono ?_
            rintro e w6 ⟨rfl, hX6⟩
            have HC6a := Lib.hid (HC5.out.to HH.out.2.2.2 hX6)
            clear hX6
            generalize rdB q2 = x2 at *
            generalize rdBs q2 = q3 at *
            have k6 := HC6a.out.blk.cell 2
            have f6 := HC6a.out.blk.free 2
            have HC6 := Lib.hid (show RCC w b ty g L u4 l q3 c0 ⟨(x0 : Nat), (x1 : Nat), (x2 : Nat), 0, 0⟩ (w6.setCell ⟨c0, 2, none⟩ (.int .i64 (x2 : Nat))) from HC6a.out.cell HH.out.2.2.2 HH.out.2.1 (chg_set2 _ _ _ _ _ _))
            go_upto_region 12 with fail
            clear k6 f6 HC6a HC5
            generalize w6.setCell _ _ = V6 at *
            go_wp2_with fail
            refine (HWd.out _ _ HC6.out.cw.rd).mono ?_
            rintro e w7 ⟨rfl, hX7⟩
            have HC7a := Lib.hid (HC6.out.to HH.out.2.2.2 hX7)
            clear hX7
            have hv3 := rdWd_lt q3
            generalize rdWd q3 = x3 at *
            generalize rdWs q3 = q4 at *
            have hw : IntKind.u16.wrap (x3 : Int) = (x3 : Int) := by unfold IntKind.wrap; simp [IntKind.signed, IntKind.bits]; omega
            have k7 := HC7a.out.blk.cell 3
            have f7 := HC7a.out.blk.free 3
            have HC7 := Lib.hid (show RCC w b ty g L u4 l q4 c0 ⟨(x0 : Nat), (x1 : Nat), (x2 : Nat), x3, 0⟩ (w7.setCell ⟨c0, 3, none⟩ (.int .u16 (x3 : Nat))) from HC7a.out.cell HH.out.2.2.2 HH.out.2.1 (chg_set3 _ _ _ _ _ _))
            go_upto_region 13 with fail
            clear k7 f7 HC7a HC6 hw
            generalize w7.setCell _ _ = V7 at *
            go_wp2_with fail
            refine (HWd.out _ _ HC7.out.cw.rd).mono ?_
            rintro e w8 ⟨rfl, hX8⟩
            have HC8a := Lib.hid (HC7.out.to HH.out.2.2.2 hX8)
            clear hX8
            have hv4 := rdWd_lt q4
            generalize rdWd q4 = x4 at *
            generalize rdWs q4 = q5 at *
            have hw : IntKind.u16.wrap (x4 : Int) = (x4 : Int) := by unfold IntKind.wrap; simp [IntKind.signed, IntKind.bits]; omega
            have k8 := HC8a.out.blk.cell 4
            have f8 := HC8a.out.blk.free 4
            have HC8 := Lib.hid (show RCC w b ty g L u4 l q5 c0 ⟨(x0 : Nat), (x1 : Nat), (x2 : Nat), x3, x4⟩ (w8.setCell ⟨c0, 4, none⟩ (.int .u16 (x4 : Nat))) from HC8a.out.cell HH.out.2.2.2 HH.out.2.1 (chg_set4 _ _ _ _ _ _))
            go_upto_region 14 with fail
            clear k8 f8 HC8a HC7 hw
            generalize w8.setCell _ _ = V8 at *
            rw [← HRc.out, ← HRs.out] at HC8
            clear HRc HRs hv3 hv4
            have HFi := Lib.hid (fun V => rcFine_any d V HOk.out)
            obtain ⟨k9, f9⟩ : V8.cell? ⟨b, 2, none⟩ = some (.int .i64 qc.2) ∧ V8.frozen? ⟨b, 2, none⟩ = false := by
              obtain ⟨p, c, k, h1, -⟩ := HC8.out.cw.rd
              exact ⟨h1.cell 2, h1.free 2⟩
            go_cut [65] (fun x wx => x = .bool (decide (qc.2 = 0 ∧ cgB d = false)) ∧ Hid (RCC w b ty g L u4 l qc c0 d wx))
            case first =>
              by_cases e0 : qc.2 = 0
              · cases hc : cgB d with
                | true =>
                  have HD := Lib.hid (show decide (qc.2 = 0 ∧ cgB d = false) = false by simp [hc])
                  rw [hc] at HFi
                  rw [e0] at k9
                  clear hc e0
                  have hblk := HC8.out.blk
                  go_wp2_with (refine wpList_load_mid (by kernel_rfl) _ _ rfl (new := chgC d) rfl hblk (fun i _ => by rw [Nat.zero_add]) Tryd.underlying31 rfl (infoChg _) ?_)
                  refine (HFi.out _).mono ?_
                  rintro e w9 ⟨rfl, hB9⟩
                  have HC9 := Lib.hid (HC8.out.step hB9)
                  go_wp2_with fail
                  go_meet
                  exact ⟨congrArg Value.bool HD.out.symm, HC9⟩
                | false =>
                  have HD := Lib.hid (show decide (qc.2 = 0 ∧ cgB d = false) = true by simp [hc, e0])
                  rw [hc] at HFi
                  rw [e0] at k9
                  clear hc e0
                  have hblk := HC8.out.blk
                  go_wp2_with (refine wpList_load_mid (by kernel_rfl) _ _ rfl (new := chgC d) rfl hblk (fun i _ => by rw [Nat.zero_add]) Tryd.underlying31 rfl (infoChg _) ?_)
                  refine (HFi.out _).mono ?_
                  rintro e w9 ⟨rfl, hB9⟩
                  have HC9 := Lib.hid (HC8.out.step hB9)
                  go_wp2_with fail
                  go_meet
                  exact ⟨congrArg Value.bool HD.out.symm, HC9⟩
              · have d0 : (qc.2 == 0) = false := by simpa using e0
                have HD := Lib.hid (show decide (qc.2 = 0 ∧ cgB d = false) = false by simp [e0])
                clear e0
                go_wp2_with fail
                go_meet
                exact ⟨congrArg Value.bool HD.out.symm, HC8⟩
            case rest =>
              obtain ⟨rfl, hC9⟩ := hcut
              clear k9 f9 HC8 HFi
              obtain ⟨k9, f9⟩ : wc.cell? ⟨b, 2, none⟩ = some (.int .i64 qc.2) ∧ wc.frozen? ⟨b, 2, none⟩ = false := by
                obtain ⟨p, c, k, h1, -⟩ := hC9.out.cw.rd
                exact ⟨h1.cell 2, h1.free 2⟩
              go_upto_if 65 with fail
              go_cut [65] (fun _ wx => Hid (RCC w b ty g L u4 l qo c0 d wx))
              case first =>
                by_cases hb : qc.2 = 0 ∧ cgB d = false
                · rw [decide_eq_true hb]
                  have HY := Lib.hid (show RCC w b ty g L u4 l qo c0 d (wc.setCell ⟨b, 2, none⟩ (.int .i64 3)) from by
                    rw [HOn.out, if_pos hb]
                    exact hC9.out.to HH.out.2.2.2 (hC9.out.cw.rd.set HH.out.1 (by decide)))
                  clear hb
                  go_wp2_with fail
                  go_meet
                  exact HY
                · rw [decide_eq_false hb]
                  have HY := Lib.hid (show RCC w b ty g L u4 l qo c0 d wc from by rw [HOn.out, if_neg hb]; exact hC9.out)
                  clear hb
                  go_wp2_with fail
                  go_meet
                  exact HY
              case rest =>
                clear k9 f9 hC9 HOn HOk
                have HCC := hcut
                clear hcut
                obtain ⟨dk, da, db, ds, di⟩ := d
                have hblk : Blk wc c0 #[.int .i64 dk, .int .i64 da, .int .i64 db, .int .u16 (ds : Int), .int .u16 (di : Int)] 31 := HCC.out.blk
                have HCA := Lib.hid (HCC.out.cw.step (belowNew wc (.cells #[.int .i64 dk, .int .i64 da, .int .i64 db, .int .u16 (ds : Int), .int .u16 (di : Int)] 31)))
                have HLt := Lib.hid (show l.length + 1 ≤ 255 by rw [HLk.out]; omega)
                go_wp2_with (first
                  | (at_builtin; (refine wpList_append_own_at _ rfl _ _ 39 rfl w.heap.size 31 i0 _ 5 32 Tryd.underlying39 HI.out.1 HI.out.2.1 HI.out.2.2.1 HI.out.2.2.2 rfl (by decide) u4 l.length (csC l) rfl HCA.out.own ⟨wc.heap.size, 0, none⟩ 1 1 [.int .i64 dk, .int .i64 da, .int .i64 db, .int .u16 (ds : Int), .int .u16 (di : Int)] rfl rfl (cells_new wc #[.int .i64 dk, .int .i64 da, .int .i64 db, .int .u16 (ds : Int), .int .u16 (di : Int)] _) (by simp [Value.oneCell']) (by have := HLt.out; unfold maxLen; omega) (by have := HLt.out; omega) HCA.out.chg.size ?_; intro v' w9 hr9 hg9 _ _; have HC9 := Lib.hid (HCA.out.push (d := ⟨dk, da, db, ds, di⟩) HH.out.2.2.2 HH.out.2.1 hr9 hg9); clear hr9 hg9))
                  | (refine wpList_load_arr rfl _ _ rfl rfl hblk Tryd.underlying31 rfl (infoChg ⟨dk, da, db, ds, di⟩) ?_))
                go_roundw
                case rel => exact ⟨k + 1, _, qo, by omega, by go_num, by rw [List.length_append, HLk.out]; rfl, HM2.out, HC9.out⟩
                case measure => simp [intOf]; omega
          · have dk : decide ((k : Int) < (n : Int)) = false := by simp; omega
            have HEq := Lib.hid (show rdQ s = l ∧ rdQs s = q from by
              have e : rdAll s = (l, q) := by rw [← HM.out, show n - k = 0 by omega]; rfl
              rw [HQ1.out, HQ2.out, e]; exact ⟨if_pos HQe.out, rfl⟩)
            go_wp2_with fail
            go_ret
            exact ⟨_, rfl, by rw [HEq.out.1]; exact HG.out.own, by rw [HEq.out.2]; exact ⟨HG.out.rd, HG.out.chg⟩⟩
        · have d0 : (q.2 == 0) = false := by simpa using he
          have d1 : (q.2 != 0) = true := by simpa using he
          have HQe := Lib.hid he
          have HEq := Lib.hid (show rdQ s = [] ∧ rdQs s = q from by
            have e : rdAll s = (l, q) := by rw [← HM.out, rdMany_err _ _ he]
            rw [HQ1.out, HQ2.out, e]; exact ⟨if_neg he, rfl⟩)
          clear he
          by_cases hlt : k < n
          · have dk : decide ((k : Int) < (n : Int)) = true := by simp; omega
            have hlt' : (k : Int) < (n : Int) := by omega
            go_wp2_with fail
            go_ret
            exact ⟨_, rfl, by rw [HEq.out.1]; exact ⟨rfl, .inl ⟨rfl, rfl⟩⟩, by rw [HEq.out.2]; exact ⟨HG.out.rd, HG.out.chg⟩⟩
          · have dk : decide ((k : Int) < (n : Int)) = false := by simp; omega
            go_wp2_with fail
            go_ret
            exact ⟨_, rfl, by rw [HEq.out.1]; exact ⟨rfl, .inl ⟨rfl, rfl⟩⟩, by rw [HEq.out.2]; exact ⟨HG.out.rd, HG.out.chg⟩⟩
end Go.Proofs.YthpangacpihclaaDoor

/-
  The document's stores: Read.
-/
import Derived.Deep.CutBlock
import Derived.LoopTactic
import Derived.Test.YtimbhamdblganaaDoorWVerR
import Derived.Test.YtimbhamdblganaaDoorWVerB
import Derived.Test.YtimbhamdblganaaDoorWPolW
import Derived.Test.YtimbhamdblganaaDoorW2
/-! VerD -/
namespace Go.Proofs.YtimbhamdblganaaDoor
open Go.RowKit

/-- So many policies, one behind the other. -/
def vrMany : Nat → List Pol → WSt → List Pol × WSt
  | 0, l, s => (l, s)
  | n + 1, l, s => vrMany n (l ++ [rdPo s]) (rdE s)
def vrAll (s : WSt) : List Pol × WSt := vrMany (keptN (byteV s : Nat)) [] (byteS s)
/-- What is read, and the Reader behind it. -/
def vrE (s : WSt) : Nat := if (vrAll s).2.2 = 0 then byteV s else 0
def vrL (s : WSt) : List Pol := if (vrAll s).2.2 = 0 then (vrAll s).1 else []
theorem byteV_lt (s : WSt) : byteV s < 256 := by
  unfold byteV; split
  · exact UInt8.toNat_lt _
  · decide
theorem vrMany_ok : ∀ (n : Nat) (l : List Pol) (s : WSt), (∀ p ∈ l, PolOk p) → ∀ p ∈ (vrMany n l s).1, PolOk p
  | 0, _, _, h => h
  | n + 1, l, s, h => vrMany_ok n _ _ fun p hp => by
    rcases List.mem_append.1 hp with hp | hp
    · exact h p hp
    · rw [List.mem_singleton.1 hp]; exact rdPo_ok s
theorem vrL_ok (s : WSt) : ∀ p ∈ vrL s, PolOk p := by
  unfold vrL; split
  · exact vrMany_ok _ _ _ fun _ h => by cases h
  · intro p h; cases h
theorem ownV_chg {S : Nat → Prop} {w w' : World} {base e n z : Nat} {v : Value} {xs : List Value} (h : w.ownsRow base e z v n xs) (hc : Chg S w w') (hv : ∀ k, v.ownBlock = some k → ¬ S k) : w'.ownsRow base e z v n xs := by
  obtain ⟨h1, h2⟩ := h
  refine ⟨h1, ?_⟩
  rcases h2 with h2 | ⟨g, cap, cur, rfl, hg, hgg, rest⟩
  · exact .inl h2
  · refine .inr ⟨g, cap, cur, rfl, hg, ?_, rest⟩
    rw [hc.block g (Array.getElem?_eq_some_iff.1 hgg).1 (hv g rfl)]; exact hgg
/-- Between rounds: the Reader, and the policies so far. -/
structure RVW (w : World) (b : Nat) (ty : TypeId) (g : Nat) (L : List UInt8) (v : Value) (l : List Pol) (s : WSt) (V : World) : Prop where
  rd : XRd V b ty g L s
  own : V.ownsRow w.heap.size 46 66 v l.length (flatC polC l)
  chg : Chg (fun k => k = b) w V
section
variable {w : World} {b : Nat} {ty : TypeId} {g : Nat} {L : List UInt8} {v v' : Value} {l : List Pol} {s s' : WSt} {V V' : World} {q : Pol}
theorem RVW.step (h : RVW w b ty g L v l s V) (hB : Below V.heap.size V V') : RVW w b ty g L v l s V' :=
  ⟨h.rd.below hB (Nat.le_refl _), ownV_chg h.own (Chg.ofBelow (S := fun _ => False) hB) (fun _ _ h => h), h.chg.trans (Chg.ofBelow hB)⟩
theorem RVW.to (h : RVW w b ty g L v l s V) (hb : b < w.heap.size) (hX : XTo V b ty g L s' V') : RVW w b ty g L v l s' V' :=
  ⟨hX.1, ownV_chg h.own hX.2 (fun k hk e => by have := (h.own.lt k hk).1; have h2 : k = b := e; omega), h.chg.trans hX.2⟩
theorem RVW.push (h : RVW w b ty g L v l s V) (hb : b < w.heap.size) (hg : g < w.heap.size) (hr : V'.ownsRow w.heap.size 46 66 v' (l.length + 1) (flatC polC l ++ flatC polC [q])) (hgr : V.grownBy V' v.ownBlock) : RVW w b ty g L v' (l ++ [q]) s V' := by
  have hc := Chg.ofGrown hgr
  exact ⟨h.rd.kept hc (fun e => by have := (h.own.lt b e).1; omega) (fun e => by have := (h.own.lt g e).1; omega), own_snocC (c := q) (by rw [flatC_one] at hr; exact hr), h.chg.then hc (fun i hi e => by have := (h.own.lt i e).1; omega)⟩
end
theorem infoPl2 : (Tryd.prog.info? 46).map (fun i => (i.zero, i.size, i.bytes)) = some (some (.agg (polC zeroP)), 66, 116) := by kernel_rfl
def VReadIs (w : World) (b : Nat) (ty : TypeId) (g : Nat) (L : List UInt8) (s : WSt) (e : Ending) (w' : World) : Prop := ∃ u, e = .returned (.tuple #[.int .i64 (vrE s : Nat), u]) ∧ w'.ownsRow w.heap.size 46 66 u (vrL s).length (flatC polC (vrL s)) ∧ XTo w b ty g L (vrAll s).2 w'
set_option maxRecDepth 100000 in
set_option maxHeartbeats 3200000 in
theorem rvRead_any (b : Nat) (ty : TypeId) (g : Nat) (L : List UInt8) (s : WSt) (w : World) (h : XRd w b ty g L s) (hg : g ≠ b) (hgl : g < w.heap.size) (hL : L.length ≤ 1000000) :
    Calls Tryd.prog 7 #[.pointer (some ⟨b, 0, none⟩)] w (VReadIs w b ty g L s) := by
  have hbl : b < w.heap.size := by obtain ⟨p, c, k, h1, -⟩ := h; exact h1.lt
  have HX := Lib.hid h
  have HH := Lib.hid (And.intro hg (And.intro hgl (And.intro hL hbl)))
  have HBy := Lib.hid (fun V s2 (hx : XRd V b ty g L s2) => xbyte_any b ty g L s2 V hx hg hL)
  have HRd := Lib.hid (fun V s2 (hx : XRd V b ty g L s2) (hs : w.heap.size ≤ V.heap.size) => rpRead_any b ty g L s2 V hx hg (by omega) hL)
  have hn := byteV_lt s
  have HKp := Lib.hid (fun V => rvKept_any (byteV s : Nat) V (by omega) (by omega))
  have HKm := Lib.hid (show keptN (byteV s : Nat) ≤ 8 from (keptN_pos (by omega)).2.1)
  have HQ := Lib.hid (show vrAll s = vrMany (keptN (byteV s : Nat)) [] (byteS s) from rfl)
  have HQ1 := Lib.hid (show vrE s = if (vrAll s).2.2 = 0 then byteV s else 0 from rfl)
  have HQ2 := Lib.hid (show vrL s = if (vrAll s).2.2 = 0 then (vrAll s).1 else [] from rfl)
  obtain ⟨i0, hi, hx⟩ := Option.map_eq_some_iff.1 infoPl2
  simp only [Prod.mk.injEq] at hx
  obtain ⟨hz0, hz1, hz2⟩ := hx
  have HI := Lib.hid (And.intro hi (And.intro hz0 (And.intro hz1 hz2)))
  clear h hg hgl hL hbl hi hz0 hz1 hz2
  go_enter Tryd.func7, Tryd.ntmps7
  go_wp2_with fail
  refine (HBy.out _ _ HX.out).mono ?_
  rintro e w1 ⟨rfl, hX1⟩
  have HS0 := Lib.hid (show RVW w b ty g L (.slice none 0 0) [] (byteS s) w1 from ⟨hX1.1, ⟨rfl, .inl ⟨rfl, rfl⟩⟩, hX1.2⟩)
  clear hX1 HX hn
  generalize byteV s = e0 at *
  generalize byteS s = s1 at *
  generalize keptN (e0 : Nat) = n at *
  go_wp2_with fail
  go_loopw [5, 6] (fun v i wr => ∃ (k : Nat) (l : List Pol) (q : WSt), k ≤ n ∧ i = .int .i64 (k : Int) ∧ l.length = k ∧ vrMany (n - k) l q = vrAll s ∧ RVW w b ty g L v l q wr) (fun _ i _ => n - (intOf i).toNat)
  case atStart => exact ⟨0, [], s1, by omega, rfl, rfl, HQ.out.symm, HS0.out⟩
  case round =>
    obtain ⟨k, l, q, hk, rfl, hlk, hm, hw⟩ := hrel
    have HG := Lib.hid hw
    have HM := Lib.hid hm
    have HLk := Lib.hid hlk
    clear hw hm hlk HS0
    by_cases hlt : k < n
    · have dk : decide ((k : Int) < (n : Int)) = true := by simp; omega
      have dk2 : decide (k < n) = true := by simpa using hlt
      have HKl := Lib.hid hlt
      have HM2 := Lib.hid (show vrMany (n - (k + 1)) (l ++ [rdPo q]) (rdE q) = vrAll s from by
        rw [← HM.out, show n - k = n - (k + 1) + 1 by omega]; rfl)
      have h5 := Lib.hid (HRd.out wr q HG.out.rd HG.out.chg.size)
      clear hlt hk HM
      go_wp2_with fail
      refine (HKp.out _).mono ?_
      rintro e wx ⟨rfl, rfl⟩
      go_wp2_with fail
      refine h5.out.mono ?_
      rintro e w5 ⟨rfl, hX5⟩
      have HG5 := Lib.hid (HG.out.to HH.out.2.2.2 hX5)
      clear h5 hX5 HG dk dk2
      generalize rdPo q = d at *
      generalize rdE q = q1 at *
      have HG6 := Lib.hid (HG5.out.step (belowNew w5 (.cells (flatC polC [d]).toArray 46)))
      have HCn := Lib.hid (cells_madeC w5 (flatC polC [d]).toArray 46)
      have hwk : IntKind.i64.wrap ((k : Int) + 1) = (k : Int) + 1 := by have := HKm.out; have := HKl.out; rw [IntKind.wrap_i64]; omega
      go_wp2_with (first
        | (refine wpList_build_flat polC_size (by decide) rfl _ 46 1 _ rfl Tryd.underlying22 infoPl2 [d] (by simp) rfl (by show 1 * 66 ≤ 2 ^ 24; decide) rfl ?_)
        | (at_builtin; refine wpList_append_own_at _ rfl _ _ 22 rfl w.heap.size 46 i0 _ 66 116 Tryd.underlying22 HI.out.1 HI.out.2.1 HI.out.2.2.1 HI.out.2.2.2 (polC_size zeroP) (by decide) u5 l.length (flatC polC l) rfl HG6.out.own ⟨w5.heap.size, 0, none⟩ 1 1 (flatC polC [d]) rfl (flatC_length polC_size [d]) HCn.out (flatC_cells polC_one [d]) (by have := HLk.out; have := HKm.out; have := HKl.out; unfold maxLen; omega) (by have := HLk.out; have := HKm.out; have := HKl.out; omega) HG6.out.chg.size ?_; intro v7 w7 hr7 hg7 hx1 hx2; have HG7 := Lib.hid (HG6.out.push HH.out.2.2.2 HH.out.2.1 hr7 hg7); clear hr7 hg7 hx1 hx2))
      go_roundw
      case rel => exact ⟨k + 1, l ++ [d], q1, by have := HKl.out; omega, by go_num, by rw [List.length_append, HLk.out]; rfl, HM2.out, HG7.out⟩
      case measure => have := HKl.out; simp [intOf]; omega
    · have dk : decide ((k : Int) < (n : Int)) = false := by simp; omega
      have dk2 : decide (k < n) = false := by simpa using hlt
      have HEa := Lib.hid (show vrAll s = (l, q) by rw [← HM.out, show n - k = 0 by omega]; rfl)
      obtain ⟨k2, f2⟩ : wr.cell? ⟨b, 2, none⟩ = some (.int .i64 q.2) ∧ wr.frozen? ⟨b, 2, none⟩ = false := by
        obtain ⟨p, c, k, h1, -⟩ := HG.out.rd
        exact ⟨h1.cell 2, h1.free 2⟩
      clear hlt hk HM
      by_cases he : q.2 = 0
      · have HEq := Lib.hid (show vrE s = e0 ∧ vrL s = l by rw [HQ1.out, HQ2.out, HEa.out]; exact ⟨if_pos he, if_pos he⟩)
        rw [he] at k2
        clear he
        go_wp2_with fail
        refine (HKp.out _).mono ?_
        rintro e wx ⟨rfl, rfl⟩
        go_wp2_with fail
        refine bodyPost_ret (results_tmp2 rfl _ _ _) rfl ?_
        exact ⟨_, by rw [HEq.out.1]; rfl, by rw [HEq.out.2]; exact HG.out.own, by rw [HEa.out]; exact ⟨HG.out.rd, HG.out.chg⟩⟩
      · have HEq := Lib.hid (show vrE s = 0 ∧ vrL s = [] by rw [HQ1.out, HQ2.out, HEa.out]; exact ⟨if_neg he, if_neg he⟩)
        have d0 : (q.2 == 0) = false := by simpa using he
        have d1 : (q.2 != 0) = true := by simpa using he
        clear he
        go_wp2_with fail
        refine (HKp.out _).mono ?_
        rintro e wx ⟨rfl, rfl⟩
        go_wp2_with fail
        refine bodyPost_ret (results_tmp2 rfl _ _ _) rfl ?_
        exact ⟨_, by rw [HEq.out.1]; rfl, by rw [HEq.out.2]; exact ⟨rfl, .inl ⟨rfl, rfl⟩⟩, by rw [HEa.out]; exact ⟨HG.out.rd, HG.out.chg⟩⟩
end Go.Proofs.YtimbhamdblganaaDoor

/-
  The program's stores: Bytes, Read.
-/
import Derived.Deep.DeepCutAuto
import Derived.Deep.CutBlock
import Derived.Test.YtimbhamdblganaaDoorWVerX
import Derived.Test.YtimbhamdblganaaDoorWVpA
import Derived.Test.YtimbhamdblganaaDoorWChT
import Derived.Test.YtimbhamdblganaaDoorWPolJ
import Derived.Test.YtimbhamdblganaaDoorWPolL
import Derived.Test.YtimbhamdblganaaDoorW2
import Derived.Test.YtimbhamdblganaaDoorW1
/-! VpD -/
namespace Go.Proofs.YtimbhamdblganaaDoor
open Go.RowKit

theorem fit_rdR {s : WSt} (h : Fit s) : ∀ k, Fit (rdR s k).2
  | 0 => fit_dNum h 2 65535
  | k + 1 => by
    show Fit (rdRole (rdR s k) k).2
    unfold rdRole
    split
    · rw [rdG_snd]
      refine fit_dNum ?_ 2 65535
      rw [rdI_snd]
      refine fit_dNum ?_ 2 65535
      rw [rdS_snd]
      exact fit_dNum (fit_rdR h k) 2 65535
    · exact fit_rdR h k
theorem fit_rdT {s : WSt} (h : Fit s) : ∀ t, Fit (rdT s t).2
  | 0 => fit_dNum (fit_rdR h 16) 2 65535
  | t + 1 => fit_dNum (fit_rdT h t) 1 16
theorem fit_rdE {s : WSt} (h : Fit s) : Fit (rdE s) := by
  unfold rdE
  split
  · exact fun _ => rfl
  · exact fit_rdT h 16
theorem rdR_fewer (s : WSt) : ∀ k, (rdR s k).2.1.length ≤ s.1.length
  | 0 => dNum_fewer s 2 65535
  | k + 1 => by
    show (rdRole (rdR s k) k).2.1.length ≤ _
    unfold rdRole
    split
    · rw [rdG_snd]
      refine Nat.le_trans (dNum_fewer _ 2 65535) ?_
      rw [rdI_snd]
      refine Nat.le_trans (dNum_fewer _ 2 65535) ?_
      rw [rdS_snd]
      exact Nat.le_trans (dNum_fewer _ 2 65535) (rdR_fewer s k)
    · exact rdR_fewer s k
theorem rdT_fewer (s : WSt) : ∀ t, (rdT s t).2.1.length ≤ s.1.length
  | 0 => Nat.le_trans (dNum_fewer _ 2 65535) (rdR_fewer s 16)
  | t + 1 => Nat.le_trans (dNum_fewer _ 1 16) (rdT_fewer s t)
theorem rdE_fewer (s : WSt) : (rdE s).1.length ≤ s.1.length := by
  unfold rdE
  split
  · exact Nat.zero_le _
  · exact rdT_fewer s 16
/-- Between rounds: the Reader, and the policies: so many are read. -/
structure VPR (w : World) (b : Nat) (ty : TypeId) (g gl : Nat) (acc : List Pol) (r : Nat) (s : WSt) (V : World) : Prop where
  rd : RAt V b ty g s
  chg : Chg (fun k => k = b) w V
  row : Blk V gl (flatC polC (acc ++ List.replicate r zeroP)).toArray 46
  far : w.heap.size ≤ gl
  le : s.1.length ≤ 1000000
  fit : Fit s
section
variable {w : World} {b : Nat} {ty : TypeId} {g gl : Nat} {acc : List Pol} {r : Nat} {s s' : WSt} {V V' : World} {q : Pol}
theorem VPR.to (h : VPR w b ty g gl acc r s V) (hb : b < w.heap.size) (hX : RTo V b ty g s' V') (hl : s'.1.length ≤ s.1.length) (hf : Fit s') : VPR w b ty g gl acc r s' V' :=
  ⟨hX.1, h.chg.trans hX.2, hX.2.kept h.row (fun e => by have h2 : gl = b := e; have := h.far; omega), h.far, Nat.le_trans hl h.le, hf⟩
theorem VPR.put (h : VPR w b ty g gl acc (r + 1) s V) (hb : b < w.heap.size) (hg : g < w.heap.size) (hp : Put V V' gl (midC (flatC polC (acc ++ List.replicate (r + 1) zeroP)).toArray (acc.length * 66) (polC q)) 46) : VPR w b ty g gl (acc ++ [q]) r s V' := by
  have h1 := h.far
  refine ⟨h.rd.kept hp.chg (by show ¬ b = gl; omega) (by show ¬ g = gl; omega), h.chg.then hp.chg (fun i hi e => by have h2 : i = gl := e; omega), ?_, h.far, h.le, h.fit⟩
  have e : (flatC polC (acc ++ q :: List.replicate r zeroP)).toArray = (flatC polC (acc ++ [q] ++ List.replicate r zeroP)).toArray := by rw [List.append_assoc]; rfl
  rw [← e, ← midC_flat polC_size acc (List.replicate r zeroP) zeroP q]
  exact hp.blk
end
set_option maxRecDepth 100000 in
set_option maxHeartbeats 3200000 in
theorem veRead_of (cR : PReadC) : VeReadC := by
  intro b ty g s w hT h hg hgl hL hF
  have hbl : b < w.heap.size := by obtain ⟨p, n, c, h1, -⟩ := h; exact h1.lt
  obtain ⟨y1, y2⟩ := byte_dNum hF
  have hv := byteV_lt s
  have HH := Lib.hid (And.intro hg (And.intro hgl (And.intro hbl hL)))
  have HN := Lib.hid (rdnum_any b ty g s 1 255 w h hg hL)
  have HNv := Lib.hid (show (dNum s 1 255).1 = (byteV s : Int) ∧ (dNum s 1 255).2 = byteS s from ⟨by
    rw [y1]
    exact (Int.toNat_of_nonneg (by
      unfold dNum; split
      · split
        · exact Int.le_refl _
        · exact Int.natCast_nonneg _
      · exact Int.le_refl _)).symm, y2.symm⟩)
  have HFs := Lib.hid (show Fit (byteS s) ∧ (byteS s).1.length ≤ 1000000 from ⟨by rw [y2]; exact fit_dNum hF 1 255, by rw [y2]; exact Nat.le_trans (dNum_fewer s 1 255) hL⟩)
  have HKp := Lib.hid (fun V => veCount_any (byteV s : Nat) V (by omega) (by omega))
  have HKm := Lib.hid (show keptN (byteV s : Nat) ≤ 8 ∧ 1 ≤ keptN (byteV s : Nat) from ⟨(keptN_pos (by omega)).2.1, (keptN_pos (by omega)).1⟩)
  have HQ := Lib.hid (show vrAll s = vrMany (keptN (byteV s : Nat)) [] (byteS s) from rfl)
  have HQ1 := Lib.hid (show vrE s = if (vrAll s).2.2 = 0 then byteV s else 0 from rfl)
  have HQ2 := Lib.hid (show vrL s = if (vrAll s).2.2 = 0 then (vrAll s).1 else [] from rfl)
  have HOk := Lib.hid (vrL_ok s)
  have HCR := Lib.hid (fun V s2 (hV : Chg (fun k => k = b) w V) (hx : RAt V b ty g s2) (h1 : s2.1.length ≤ 1000000) (h2 : Fit s2) => cR b ty g s2 V (hT.reader h hV) hx hg h1 h2)
  clear h hg hgl hL hF hT cR hv y1 y2 hbl
  go_enter Tryd.func6, Tryd.ntmps6
  go_wp2_with fail
  refine HN.out.mono ?_
  rintro x w1 ⟨rfl, hR⟩
  rw [HNv.out.1]
  rw [HNv.out.2] at hR
  have HR1 := Lib.hid hR
  have HS1 := Lib.hid hR.2.size
  clear hR HN HNv
  generalize byteV s = e0 at *
  generalize byteS s = s1 at *
  generalize keptN (e0 : Nat) = n at *
  go_wp2_with fail
  refine (HKp.out _).mono ?_
  rintro x wk ⟨rfl, rfl⟩
  go_upto_region 3 with (refine wpList_make_flat polC_size (by decide) rfl _ _ 22 rfl Tryd.underlying22 infoPl2 n rfl rfl rfl rfl (by have := HKm.out; omega) (by have := HKm.out; omega) ?_; intro w2 hb2 hB2)
  have HS0 := Lib.hid (show VPR w b ty g w1.heap.size [] n s1 w2 from ⟨HR1.out.1.below hB2 (Nat.le_refl _), HR1.out.2.trans (Chg.ofBelow hB2), hb2, HS1.out, HFs.out.2, HFs.out.1⟩)
  clear hb2 hB2 HR1 HFs
  generalize hgl : w1.heap.size = gl at *
  clear hgl
  go_wp2_with fail
  go_loopw [6, 14] (fun _ i wr => ∃ (k : Nat) (acc : List Pol) (q : WSt), k ≤ n ∧ i = .int .i64 (k : Int) ∧ acc.length = k ∧ vrMany (n - k) acc q = vrAll s ∧ VPR w b ty g gl acc (n - k) q wr) (fun _ i _ => n - (intOf i).toNat)
  case atStart => exact ⟨0, [], s1, by omega, rfl, rfl, HQ.out.symm, HS0.out⟩
  case round =>
    obtain ⟨k, acc, q, hk, rfl, hlk, hm, hw⟩ := hrel
    have HG := Lib.hid hw
    have HM := Lib.hid hm
    have HLk := Lib.hid hlk
    clear hw hm hlk HS0
    by_cases hlt : k < n
    · have dk : decide ((k : Int) < (n : Int)) = true := by simp; omega
      have dk2 : decide (k < n) = true := by simpa using hlt
      have HKl := Lib.hid hlt
      have HM2 := Lib.hid (show vrMany (n - (k + 1)) (acc ++ [rdPo q]) (rdE q) = vrAll s from by
        rw [← HM.out, show n - k = n - (k + 1) + 1 by omega]; rfl)
      have h5 := Lib.hid (HCR.out wr q HG.out.chg HG.out.rd HG.out.le HG.out.fit)
      have HFq := Lib.hid (And.intro (rdE_fewer q) (fit_rdE HG.out.fit))
      have h0 : (0 : Int) ≤ (k : Int) := by omega
      have h1 : (k : Int) < (n : Int) := by omega
      clear hlt hk HM
      go_wp2_with fail
      refine h5.out.mono ?_
      rintro x w5 ⟨rfl, hX5⟩
      have hG5 := HG.out.to HH.out.2.2.1 hX5 HFq.out.1 HFq.out.2
      rw [show n - k = n - (k + 1) + 1 by have := HKl.out; omega] at hG5
      have HG5 := Lib.hid hG5
      clear h5 hX5 HG hG5 HFq
      generalize rdPo q = d at *
      generalize rdE q = q1 at *
      have hblk := HG5.out.row
      have hsz : k * 66 + (polC d).size ≤ (flatC polC (acc ++ List.replicate (n - (k + 1) + 1) zeroP)).toArray.size := by
        have := HLk.out
        have := HKl.out
        rw [polC_size, List.size_toArray, flatC_length polC_size, List.length_append, List.length_replicate]; omega
      have hwk : IntKind.i64.wrap ((k : Int) + 1) = (k : Int) + 1 := by have := HKm.out; have := HKl.out; rw [IntKind.wrap_i64]; omega
      go_wp2_with (refine wpList_store_mid (new := polC d) (off := k * 66) rfl rfl _ _ _ rfl rfl rfl hblk hsz (polC_one _) (infoPol _) ?_; intro w6 hw6)
      rw [show k * 66 = acc.length * 66 by rw [HLk.out]] at hw6
      have HG6 := Lib.hid (HG5.out.put HH.out.2.2.1 HH.out.2.1 hw6)
      clear hw6 hblk hsz
      go_roundw
      case rel => exact ⟨k + 1, acc ++ [d], q1, by have := HKl.out; omega, by go_num, by rw [List.length_append, HLk.out]; rfl, HM2.out, HG6.out⟩
      case measure => have := HKl.out; simp [intOf]; omega
    · have dk : decide ((k : Int) < (n : Int)) = false := by simp; omega
      have dk2 : decide (k < n) = false := by simpa using hlt
      obtain rfl : k = n := by omega
      have HEa := Lib.hid (show vrAll s = (acc, q) by rw [← HM.out, Nat.sub_self]; rfl)
      have hG := HG.out
      rw [Nat.sub_self] at hG
      have hrow := hG.row
      rw [List.replicate_zero, List.append_nil] at hrow
      have HRw := Lib.hid hrow
      have HG2 := Lib.hid hG
      have HEr := Lib.hid (fun V (hx : RAt V b ty g q) => rderr_any b ty g q V hx)
      clear hlt hk HM hG hrow HG
      by_cases he : q.2 = 0
      · have HEq := Lib.hid (show vrE s = e0 ∧ vrL s = acc by rw [HQ1.out, HQ2.out, HEa.out]; exact ⟨if_pos he, if_pos he⟩)
        rw [he] at HEr
        clear he
        go_wp2_with fail
        refine (HEr.out _ HG2.out.rd).mono ?_
        rintro x wx ⟨rfl, rfl⟩
        go_wp2_with fail
        refine bodyPost_ret (results_tmp2 rfl _ _ _) rfl ?_
        refine ⟨_, by rw [HEq.out.1]; rfl, ?_, by rw [HEa.out]; exact ⟨HG2.out.rd, HG2.out.chg⟩⟩
        have hok := HOk.out
        rw [HEq.out.2] at hok ⊢
        have hl2 := HLk.out
        have hat := SlAt.ofBlk (ok := PolOk) polC_size HRw.out (by have := HKm.out; omega) hok
        rw [hl2] at hat
        exact ⟨hat, fun a m c e => by cases e; exact HG2.out.far⟩
      · have HEq := Lib.hid (show vrE s = 0 ∧ vrL s = [] by rw [HQ1.out, HQ2.out, HEa.out]; exact ⟨if_neg he, if_neg he⟩)
        have d0 : (q.2 == 0) = false := by simpa using he
        have d1 : (q.2 != 0) = true := by simpa using he
        clear he
        go_wp2_with fail
        refine (HEr.out _ HG2.out.rd).mono ?_
        rintro x wx ⟨rfl, rfl⟩
        go_wp2_with fail
        refine bodyPost_ret (results_tmp2 rfl _ _ _) rfl ?_
        exact ⟨_, by rw [HEq.out.1]; rfl, by rw [HEq.out.2]; exact ⟨SlAt.nil _, fun a m c e => by cases e⟩, by rw [HEa.out]; exact ⟨HG2.out.rd, HG2.out.chg⟩⟩
end Go.Proofs.YtimbhamdblganaaDoor

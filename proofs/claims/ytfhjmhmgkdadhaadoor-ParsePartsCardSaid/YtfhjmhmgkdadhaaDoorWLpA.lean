/-
  The program's joins, numbered pieces.
-/
import Derived.Test.YtfhjmhmgkdadhaaDoorWLexE
import Derived.Test.YtfhjmhmgkdadhaaDoorW1
/-! LpA -/
namespace Go.Proofs.YtfhjmhmgkdadhaaDoor
open Go.RowKit

set_option maxRecDepth 100000 in
set_option maxHeartbeats 1600000 in
theorem lxJoins_any (b : UInt8) (w : World) : Calls Tryd.prog 24 #[.int .u8 (b.toNat : Int)] w fun e w' => e = .returned (.bool (smallB b)) ∧ w' = w := by
  have HS := Lib.hid (smallB_int b)
  go_enter Tryd.func24, Tryd.ntmps24
  by_cases h1 : (97 : Int) ≤ (b.toNat : Int) <;> by_cases h2 : (b.toNat : Int) ≤ 122 <;> by_cases h3 : (48 : Int) ≤ (b.toNat : Int) <;> by_cases h4 : (b.toNat : Int) ≤ 57 <;>
    (go_wp2_with fail; go_ret; exact ⟨by rw [HS.out]; simp [h1, h2, h3, h4], rfl⟩)
/-- The number that a text is. -/
def numQ (ds : List UInt8) : Option Nat := (List.range 16).find? fun n => decide (dig n = ds)
theorem numQ_some {ds : List UInt8} {n : Nat} (h : numQ ds = some n) : n < 16 ∧ dig n = ds := by
  unfold numQ at h
  exact ⟨by simpa using List.mem_of_find?_eq_some h, by simpa using List.find?_some h⟩
theorem numQ_none {ds : List UInt8} (h : numQ ds = none) (n : Nat) (hn : n < 16) : ¬ dig n = ds := by
  unfold numQ at h
  have := List.find?_eq_none.1 h n (by simpa using hn)
  simpa using this
/-- What numbered answers. -/
def numR (kd : Nat) (t : List UInt8) (pl : Nat) : Option Nat → (Pc × Nat) × Bool
  | some n => ((⟨kd, t, n⟩, pl), true)
  | none => ((⟨0, [], 0⟩, 0), false)
theorem infoLp : (Tryd.prog.info? 44).map (fun i => (i.zero, i.size, i.bytes)) = some (some (.agg (pieC (⟨0, [], 0⟩, 0))), 4, 40) := by kernel_rfl
theorem infoLpS (x : Pc × Nat) : (Tryd.prog.info? 44).map (·.size) = some (pieC x).size := by rw [pieC_size]; kernel_rfl
theorem results_lp {fn : Func} {p q : Tmp} (h : fn.results = #[.cell p 44, .tmp q]) {tmps : Array Value} {w : World} {b : Nat} {x : Pc × Nat} {v : Value} (hp : tmps.getD p undef = .pointer (some ⟨b, 0, none⟩)) (hq : tmps.getD q undef = v) (hr : Blk w b (pieC x) 44) :
    (results fn tmps).run Tryd.prog w = .ok (.tuple #[.agg (pieC x), v]) w := by
  have hp' : tmps[p]?.getD undef = .pointer (some ⟨b, 0, none⟩) := by simpa using hp
  have hq' : tmps[q]?.getD undef = v := by simpa using hq
  simp [results, h, hp', hq', asAddr, run_loadVar_row w b _ 44 (pieC x) _ _ hr Tryd.underlying44 rfl (infoLpS x)]
theorem drop_one (c : UInt8) (ds : List UInt8) : (⟨(c :: ds).toArray⟩ : ByteArray).extract 1 (ds.length + 1) = ⟨ds.toArray⟩ := by
  rw [str_mid]
  simp
set_option maxRecDepth 100000 in
set_option maxHeartbeats 1600000 in
theorem lxNumbered_any (kd : Nat) (c : UInt8) (ds : List UInt8) (pl : Nat) (hl : ds.length ≤ 48) (w : World) (hE : Env w) : Calls Tryd.prog 33 #[.int .i64 (kd : Int), .string ⟨(c :: ds).toArray⟩, .int .i64 (pl : Int), .int .i64 16] w fun e w' => e = .returned (.tuple #[.agg (pieC (numR kd (c :: ds) pl (numQ ds)).1), .bool (numR kd (c :: ds) pl (numQ ds)).2]) ∧ Below w.heap.size w w' := by
  have HX := Lib.hid (drop_one c ds)
  have hz : (⟨(c :: ds).toArray⟩ : ByteArray).size = ds.length + 1 := by simp [ByteArray.size]
  go_enter Tryd.func33, Tryd.ntmps33
  have HB0 := Lib.hid (belowNew w (.cells (pieC (⟨0, [], 0⟩, 0)) 44))
  have HK0 := Lib.hid (Blk.new w (pieC (⟨0, [], 0⟩, 0)) 44)
  have HE0 := Lib.hid (hE.below (HB0.out.mono (Nat.le_refl _)) hE.lt)
  have HAl := Lib.hid (show w.heap.size < (w.alloc (.cells (pieC (⟨0, [], 0⟩, 0)) 44)).heap.size by simp)
  have hpz : #[Value.int IntKind.i64 0, Value.string ⟨#[]⟩, Value.int IntKind.i64 0, Value.int IntKind.i64 0] = pieC (⟨0, [], 0⟩, 0) := rfl
  go_wp2_with fail
  rw [HX.out]
  generalize w.alloc (.cells (pieC (⟨0, [], 0⟩, 0)) 44) = wa at *
  have fin : ∀ (W : World), Hid (Below wa.heap.size wa W) → Hid (Below w.heap.size w W ∧ Blk W w.heap.size (pieC (⟨0, [], 0⟩, 0)) 44) := fun W hW => Lib.hid ⟨HB0.out.trans (hW.out.mono HB0.out.size), Blk.below HK0.out hW.out HAl.out⟩
  have HF := Lib.hid fin
  clear fin hpz
  by_cases hok : ∃ v, Lib.atoiAll ds = .ok v
  · obtain ⟨v, hv⟩ := hok
    have HAt := Lib.hid (fun V => Atoi_ok ⟨ds.toArray⟩ (by rw [show (⟨ds.toArray⟩ : ByteArray).size = ds.length from strB_size _]; omega) v hv V)
    by_cases ht : 0 ≤ v ∧ v < 16
    · obtain ⟨n, rfl⟩ := Int.eq_ofNat_of_zero_le ht.1
      have hn : n < 16 := by omega
      have HD := Lib.hid (dec_dig n hn)
      have HI := Lib.hid (fun V => Tryd.strconv_Itoa_small n (by omega) V)
      have HQ1 := Lib.hid (fun h : dig n = ds => show numQ ds = some n from by
        cases e : numQ ds with
        | none => exact absurd h (numQ_none e n hn)
        | some m => rw [dig_inj hn (numQ_some e).1 (h.trans (numQ_some e).2.symm)])
      have HQ2 := Lib.hid (fun h : ¬ dig n = ds => show numQ ds = none from by
        cases e : numQ ds with
        | none => rfl
        | some m =>
          have h1 := numQ_some e
          have h2 := dig_atoi ⟨m, h1.1⟩
          simp only at h2
          rw [h1.2, hv] at h2
          cases h2
          exact absurd h1.2 h)
      have d0 : decide ((n : Int) < 0) = false := by simp
      have d1 : decide ((16 : Int) ≤ (n : Int)) = false := by simp; omega
      clear ht hn hv
      refine (HAt.out wa).mono ?_
      rintro e w2 ⟨rfl, hB2⟩
      have HW := HF.out w2 (Lib.hid hB2)
      clear hB2
      go_wp2_with fail
      refine (HI.out _).mono ?_
      rintro e w3 ⟨rfl, rfl⟩
      rw [HD.out]
      generalize dig n = d at *
      by_cases hd : d = ds
      · have HQ := Lib.hid (HQ1.out hd)
        have dd : (d == ds) = true := by simpa using hd
        clear hd
        go_wp2_with (refine wpList_store_arr (new := pieC (⟨kd, c :: ds, n⟩, pl)) rfl rfl _ _ _ rfl rfl rfl HW.out.2 (infoLpS _) rfl (pieC_one _) ?_; intro w9 hw9)
        exact bodyPost_ret (v := .tuple #[.agg (pieC (⟨kd, c :: ds, n⟩, pl)), .bool true]) (results_lp rfl rfl rfl hw9.blk) rfl ⟨by rw [HQ.out]; rfl, HW.out.1.trans (hw9.below HW.out.1.size (Nat.le_refl _))⟩
      · have HQ := Lib.hid (HQ2.out hd)
        have dd : (d == ds) = false := by simpa using hd
        clear hd
        go_wp2_with (refine wpList_store_arr (new := pieC (⟨0, [], 0⟩, 0)) rfl rfl _ _ _ rfl rfl rfl HW.out.2 (infoLpS _) rfl (pieC_one _) ?_; intro w9 hw9)
        exact bodyPost_ret (v := .tuple #[.agg (pieC (⟨0, [], 0⟩, 0)), .bool false]) (results_lp rfl rfl rfl hw9.blk) rfl ⟨by rw [HQ.out]; rfl, HW.out.1.trans (hw9.below HW.out.1.size (Nat.le_refl _))⟩
    · have HQ := Lib.hid (show numQ ds = none from by
        cases e : numQ ds with
        | none => rfl
        | some m =>
          have h1 := numQ_some e
          have h2 := dig_atoi ⟨m, h1.1⟩
          simp only at h2
          rw [h1.2, hv] at h2
          cases h2
          exact absurd ⟨by omega, by have := h1.1; omega⟩ ht)
      clear hv
      refine (HAt.out wa).mono ?_
      rintro e w2 ⟨rfl, hB2⟩
      have HW := HF.out w2 (Lib.hid hB2)
      clear hB2
      by_cases h0 : v < 0
      · have d0 : decide (v < 0) = true := by simpa using h0
        clear ht
        go_wp2_with (refine wpList_store_arr (new := pieC (⟨0, [], 0⟩, 0)) rfl rfl _ _ _ rfl rfl rfl HW.out.2 (infoLpS _) rfl (pieC_one _) ?_; intro w9 hw9)
        exact bodyPost_ret (v := .tuple #[.agg (pieC (⟨0, [], 0⟩, 0)), .bool false]) (results_lp rfl rfl rfl hw9.blk) rfl ⟨by rw [HQ.out]; rfl, HW.out.1.trans (hw9.below HW.out.1.size (Nat.le_refl _))⟩
      · have d0 : decide (v < 0) = false := by simpa using h0
        have d1 : decide ((16 : Int) ≤ v) = true := by simp; omega
        clear ht h0
        go_wp2_with (refine wpList_store_arr (new := pieC (⟨0, [], 0⟩, 0)) rfl rfl _ _ _ rfl rfl rfl HW.out.2 (infoLpS _) rfl (pieC_one _) ?_; intro w9 hw9)
        exact bodyPost_ret (v := .tuple #[.agg (pieC (⟨0, [], 0⟩, 0)), .bool false]) (results_lp rfl rfl rfl hw9.blk) rfl ⟨by rw [HQ.out]; rfl, HW.out.1.trans (hw9.below HW.out.1.size (Nat.le_refl _))⟩
  · have HQ := Lib.hid (show numQ ds = none from by
      cases e : numQ ds with
      | none => rfl
      | some m =>
        have h1 := numQ_some e
        have h2 := dig_atoi ⟨m, h1.1⟩
        simp only at h2
        rw [h1.2] at h2
        exact absurd ⟨_, h2⟩ hok)
    refine (Atoi_fails ⟨ds.toArray⟩ (by rw [show (⟨ds.toArray⟩ : ByteArray).size = ds.length from strB_size _]; omega) (fun v hv => hok ⟨v, hv⟩) wa HE0.out).mono ?_
    rintro e w2 ⟨v, te, pe, rfl, hB2⟩
    have HW := HF.out w2 (Lib.hid hB2)
    clear hB2 hok
    go_wp2_with (refine wpList_store_arr (new := pieC (⟨0, [], 0⟩, 0)) rfl rfl _ _ _ rfl rfl rfl HW.out.2 (infoLpS _) rfl (pieC_one _) ?_; intro w9 hw9)
    exact bodyPost_ret (v := .tuple #[.agg (pieC (⟨0, [], 0⟩, 0)), .bool false]) (results_lp rfl rfl rfl hw9.blk) rfl ⟨by rw [HQ.out]; rfl, HW.out.1.trans (hw9.below HW.out.1.size (Nat.le_refl _))⟩
end Go.Proofs.YtfhjmhmgkdadhaaDoor

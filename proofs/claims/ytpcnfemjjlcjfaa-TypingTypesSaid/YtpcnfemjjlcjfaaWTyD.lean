/-
  The document's types of nodes: at, Type.
-/
import Derived.Test.YtpcnfemjjlcjfaaWTyB
/-! TyD -/
namespace Go.Proofs.Ytpcnfemjjlcjfaa
open Go.RowKit

def valT : TyR → Int
  | .ok t => t
  | .error _ => 0
def errT : TyR → Int
  | .ok _ => -1
  | .error b => (b : Int)
theorem infoZn : (Try.prog.info? 3).map (fun i => (i.zero, i.size, i.bytes)) = some (some (.int .i64 0), 1, 8) := by kernel_rfl
abbrev ZnRow (w : World) (base : Nat) (v : Value) (l : List Int) : Prop := w.ownsRow base 3 1 v l.length (flatC znC l)
/-- So many arguments read. -/
def StT (l : List Qn) (i : Nat) : Nat → List Int → Int → Int → Prop
  | 0, a, b, e => a = [] ∧ b = -1 ∧ e = (i : Int) - 1
  | 1, a, b, e => a = [valT (typQ l (i - 1))] ∧ b = errT (typQ l (i - 1)) ∧ ∃ c, begQ l (i - 1) = some c ∧ e = (c : Int) - 1
  | _, a, b, _ => ∃ c, begQ l (i - 1) = some c ∧ a = [valT (typQ l (c - 1)), valT (typQ l (i - 1))] ∧ b = if 0 ≤ errT (typQ l (c - 1)) then errT (typQ l (c - 1)) else errT (typQ l (i - 1))
theorem errT_neg (R : TyR) : (if 0 ≤ errT R then errT R else -1) = errT R := by
  cases R with
  | ok t => rfl
  | error b => rw [if_pos (by show (0 : Int) ≤ (b : Int); omega)]
theorem stT_round {l : List Qn} (h : rightQ l) {i k : Nat} (hi : i < l.length) {args : List Int} {bad en : Int} (hs : StT l i k args bad en) (hk : (k : Int) < argN (kindQ l i)) : ∃ m c : Nat, en = (m : Int) ∧ m < i ∧ begQ l m = some c ∧ StT l i (k + 1) (valT (typQ l m) :: args) (if 0 ≤ errT (typQ l m) then errT (typQ l m) else bad) ((c : Int) - 1) := by
  obtain ⟨b, -, -, -, h4, h5⟩ := right_parts h hi
  rw [← kindQ_at hi] at h4 h5
  have hA := argN_cases (kindQ l i)
  match k, hs with
  | 0, hs =>
    obtain ⟨rfl, rfl, rfl⟩ := hs
    have hi0 : 0 < i := by
      rcases hA with e | e | e | e
      · omega
      · omega
      · exact (h4 e).1
      · exact (h5 e).1
    obtain ⟨c, hc, -⟩ := right_parts h (i := i - 1) (by omega)
    refine ⟨i - 1, c, by omega, by omega, hc, rfl, ?_, c, hc, rfl⟩
    rw [errT_neg]
  | 1, hs =>
    obtain ⟨rfl, rfl, c, hc, rfl⟩ := hs
    have e : argN (kindQ l i) = 2 := by omega
    obtain ⟨hi0, c2, hc2, hbc, hcb⟩ := h5 e
    rw [hc] at hc2
    cases hc2
    have hle := begF_le _ _ _ _ hc
    exact ⟨c - 1, b, by omega, by omega, hcb, c, hc, rfl, rfl⟩
  | k + 2, _ => omega
theorem stT_end {l : List Qn} (h : rightQ l) {i : Nat} (hi : i < l.length) {k : Nat} (hk : (k : Int) = argN (kindQ l i)) {args : List Int} {bad en : Int} (hs : StT l i k args bad en) : (0 ≤ bad → valT (typQ l i) = 0 ∧ errT (typQ l i) = bad) ∧ (bad < 0 → typQ l i = ownT (kindQ l i) i args) := by
  obtain ⟨b, -, -, -, h4, h5⟩ := right_parts h hi
  rw [← kindQ_at hi] at h4 h5
  have hA := argN_cases (kindQ l i)
  match k, hs with
  | 0, hs =>
    obtain ⟨rfl, rfl, rfl⟩ := hs
    exact ⟨fun h => by omega, fun _ => typQ_none (by omega) (by omega)⟩
  | 1, hs =>
    obtain ⟨rfl, rfl, c, hc, rfl⟩ := hs
    have e : argN (kindQ l i) = 1 := by omega
    rw [typQ_one e (h4 e).1]
    cases typQ l (i - 1) with
    | ok t => exact ⟨fun h => by exact absurd h (by show ¬ (0 : Int) ≤ -1; decide), fun _ => rfl⟩
    | error x => exact ⟨fun _ => ⟨rfl, rfl⟩, fun h => by exact absurd h (by show ¬ (x : Int) < 0; omega)⟩
  | 2, hs =>
    obtain ⟨c, hc, rfl, rfl⟩ := hs
    have e : argN (kindQ l i) = 2 := by omega
    rw [typQ_two e (h5 e).1 hc]
    cases typQ l (c - 1) with
    | error x =>
      have hx : (if 0 ≤ errT (Except.error x : TyR) then errT (Except.error x : TyR) else errT (typQ l (i - 1))) = (x : Int) := if_pos (by show (0 : Int) ≤ (x : Int); omega)
      rw [hx]
      exact ⟨fun _ => ⟨rfl, rfl⟩, fun h => by omega⟩
    | ok t1 =>
      have hx : (if 0 ≤ errT (Except.ok t1 : TyR) then errT (Except.ok t1 : TyR) else errT (typQ l (i - 1))) = errT (typQ l (i - 1)) := if_neg (by show ¬ (0 : Int) ≤ -1; decide)
      rw [hx]
      cases typQ l (i - 1) with
      | ok t => exact ⟨fun h => by exact absurd h (by show ¬ (0 : Int) ≤ -1; decide), fun _ => rfl⟩
      | error x => exact ⟨fun _ => ⟨rfl, rfl⟩, fun h => by exact absurd h (by show ¬ (x : Int) < 0; omega)⟩
  | k + 3, _ => omega
theorem znRow_low {V : World} {base : Nat} {v : Value} {m : List Int} (h : ZnRow V base v m) {r : Nat} (e : v.ownBlock = some r) : base ≤ r := by
  obtain ⟨-, ⟨rfl, -⟩ | ⟨g, cap, cur, rfl, hb, -⟩⟩ := h
  · cases e
  · cases e; exact hb
theorem stT_len {l : List Qn} {i k : Nat} {args : List Int} {bad en : Int} (h : StT l i k args bad en) : args.length ≤ 2 := by
  match k, h with
  | 0, h => obtain ⟨rfl, -⟩ := h; decide
  | 1, h => obtain ⟨rfl, -⟩ := h; simp
  | k + 2, h => obtain ⟨c, -, rfl, -⟩ := h; simp
theorem zn_lit (w3 : World) (t : Int) (B : Nat) (h : B ≤ w3.heap.size) : ZnRow (w3.alloc (.cells #[Value.int .i64 t] 3)) B (.slice (some ⟨w3.heap.size, 0, none⟩) 1 1) [t] := own_ofBlk znC_size (l := [t]) (Blk.new _ _ _) (by show (1 : Nat) ≤ maxLen; decide) h
theorem zn_grown (w w3 w7 : World) (t : Int) (h : Below w.heap.size w w3) (hg7 : (w3.alloc (.cells #[Value.int .i64 t] 3)).grownBy w7 (Value.slice (some ⟨w3.heap.size, 0, none⟩) 1 1).ownBlock) : Below w.heap.size w w7 := (h.trans ((belowNew w3 (.cells #[Value.int .i64 t] 3)).mono h.size)).grown hg7 ((h.trans ((belowNew w3 (.cells #[Value.int .i64 t] 3)).mono h.size)).size) fun _ e => znRow_low (zn_lit w3 t _ h.size) e
set_option maxRecDepth 100000 in
set_option maxHeartbeats 6400000 in
theorem rtAt_any : ∀ (f : Nat) (l : List Qn) (i : Nat) (v : Value) (w : World), NodesAt w v l → rightQ l → i < l.length → i < f → Calls Try.prog 20 #[v, .int .i64 (i : Int)] w fun e w' => e = .returned (.tuple #[.int .i64 (valT (typQ l i)), .int .i64 (errT (typQ l i))]) ∧ Below w.heap.size w w'
  | 0, _, _, _, _, _, _, _, h => absurd h (by omega)
  | f + 1, l, i, v, w, hv, hr, hi, hf => by
    have HI := Lib.hid (fun m V (hV : NodesAt V v l) (hm : m < l.length) (hmf : m < f) => rtAt_any f l m v V hV hr hm hmf)
    have HV := Lib.hid (fun V (hV : Below w.heap.size w V) => hv.below hV (Nat.le_refl _))
    have h24 := hr.2.2.1
    have HRd := Lib.hid (fun k (args : List Int) bad en (hs : StT l i k args bad en) hk => stT_round hr hi hs hk)
    have HEn := Lib.hid (fun k (args : List Int) bad en (hs : StT l i k args bad en) hk => stT_end hr hi hk hs)
    have HBg := Lib.hid (fun m V (hV : Below w.heap.size w V) (hm : m < l.length) => rqBegin_any (m + 1) l m v V (HV.out V hV) hm (by omega) (Nat.lt_succ_self _))
    obtain ⟨g, off, cap, hs1, -, -, hg⟩ := hv.shape (by intro e; rw [e] at hi; cases hi)
    subst hs1
    have hkd := kindQ_at hi
    have HK := Lib.hid (show ∀ V, Below w.heap.size w V → V.cell? ⟨g, off + i * 2, none⟩ = some (.int .i64 (kindQ l i)) from fun V hV => by rw [hkd]; exact (hv.elem hi).2.below hV hg 0 _ rfl)
    have HAc := Lib.hid (show 0 ≤ argN (kindQ l i) ∧ argN (kindQ l i) ≤ 2 from by
      have h1 := (hr.1 _ (List.getElem_mem hi)).1
      rw [← hkd] at h1
      have := argN_cases (kindQ l i)
      omega)
    have HAr := Lib.hid (fun V => rqArgs_any (kindQ l i) V)
    have HNd := Lib.hid (fun args u V hu => rtNode_any (kindQ l i) args u V hu)
    have HBd := Lib.hid (And.intro hi (And.intro h24 hf))
    have i0 : (0 : Int) ≤ (i : Int) := by omega
    have i1 : (i : Int) < (l.length : Int) := by omega
    have hwi : IntKind.i64.wrap ((i : Int) - 1) = (i : Int) - 1 := by rw [IntKind.wrap_i64]; omega
    have HSt := Lib.hid (show StT l i 0 [] (-1) ((i : Int) - 1) from ⟨rfl, rfl, rfl⟩)
    clear hkd hv hg hr hi h24 hf
    generalize argN (kindQ l i) = A at *
    generalize kindQ l i = kd at *
    go_enter Try.func20, Try.ntmps20
    go_wp2_with fail
    go_loopw [6, 7, 8, 9] (fun u en bd kv V => ∃ (k : Nat) (args : List Int) (bad e : Int), en = .int .i64 e ∧ bd = .int .i64 bad ∧ kv = .int .i64 (k : Int) ∧ (k : Int) ≤ A ∧ StT l i k args bad e ∧ ZnRow V w.heap.size u args ∧ Below w.heap.size w V) (fun _ _ _ k _ => 3 - (intOf k).toNat)
    case atStart => exact ⟨0, [], -1, _, rfl, rfl, rfl, HAc.out.1, HSt.out, World.ownsRow_nil _ _ _ _, Below.refl _ _⟩
    case round =>
      obtain ⟨k, args, bad, e, rfl, rfl, rfl, hk, hs, hrow, hB⟩ := hrel
      have HB := Lib.hid hB
      have HRw := Lib.hid hrow
      have HS := Lib.hid hs
      have k0 := HK.out wr hB
      clear hB hrow hs HSt
      by_cases hlt : (k : Int) < A
      · obtain ⟨m, c, he, hmi, hmc, hst⟩ := HRd.out k args bad e HS.out hlt
        subst he
        have dk : decide ((k : Int) < A) = true := by simpa using hlt
        have hwk : IntKind.i64.wrap ((k : Int) + 1) = (k : Int) + 1 := by have := HAc.out; rw [IntKind.wrap_i64]; omega
        have hwc : IntKind.i64.wrap ((c : Int) - 1) = (c : Int) - 1 := by
          have h1 := begF_le _ _ _ _ hmc
          have := HBd.out
          rw [IntKind.wrap_i64]; omega
        have HM := Lib.hid (show m < l.length ∧ m < f from by have := HBd.out; omega)
        have HBm := Lib.hid (show ∀ V, Below w.heap.size w V → Calls Try.prog 23 #[.slice (some ⟨g, off, none⟩) l.length cap, .int .i64 (m : Int)] V fun e w' => e = .returned (.int .i64 (c : Int)) ∧ Below V.heap.size V w' from fun V hV => by
          have h := HBg.out m V hV HM.out.1
          rw [show begF (m + 1) l m = some c from hmc] at h
          exact h)
        have HSt2 := Lib.hid hst
        have HKl := Lib.hid (And.intro hlt hk)
        have HLen := Lib.hid (stT_len HS.out)
        clear hst hmc hmi hlt hk HS
        go_wp2_with fail
        refine (HAr.out wr).mono ?_
        rintro e w2 ⟨rfl, hB2⟩
        have HB2 := Lib.hid (HB.out.trans (hB2.mono HB.out.size))
        have HRw := Lib.hid (own_belowC HRw.out hB2)
        clear hB2 HB k0
        go_wp2_with fail
        refine (HI.out m w2 (HV.out w2 HB2.out) HM.out.1 HM.out.2).mono ?_
        rintro e w3 ⟨rfl, hB3⟩
        have HB3 := Lib.hid (HB2.out.trans (hB3.mono HB2.out.size))
        have HRw := Lib.hid (own_belowC HRw.out hB3)
        clear hB3 HB2
        generalize valT (typQ l m) = t at *
        generalize errT (typQ l m) = x at *
        by_cases hx : 0 ≤ x
        · have dx : decide (0 ≤ x) = true := by simpa using hx
          have HSt2 := Lib.hid (show StT l i (k + 1) (t :: args) x ((c : Int) - 1) from by have h := HSt2.out; rwa [if_pos hx] at h)
          clear hx
          go_wp2_with (at_builtin; refine wpList_append_rows (l := args) (m := [t]) znC_size (by decide) znC_one rfl _ _ 22 rfl w.heap.size Try.underlying22 infoZn rfl rfl rfl (zn_lit w3 t _ HB3.out.size) (rowIs_own znC_size (own_belowC HRw.out (belowNew _ _))) (by have := HLen.out; unfold maxLen; simp only [List.length_cons, List.length_nil]; omega) (by have := HLen.out; simp only [List.length_cons, List.length_nil]; omega) (by have := HB3.out.size; simp; omega) ?_; intro v7 w7 hr7 hg7; have HB7 := Lib.hid (zn_grown w w3 w7 t HB3.out hg7); have HRw7 := Lib.hid (show ZnRow w7 w.heap.size v7 (t :: args) from hr7); clear hr7 hg7)
          refine (HBm.out w7 HB7.out).mono ?_
          rintro e w8 ⟨rfl, hB8⟩
          have HB8 := Lib.hid (HB7.out.trans (hB8.mono HB7.out.size))
          have HRw8 := Lib.hid (own_belowC HRw7.out hB8)
          clear hB8 HB7 HRw7
          go_wp2_with fail
          go_roundw
          case rel => exact ⟨k + 1, t :: args, x, (c : Int) - 1, rfl, rfl, by go_num, by have := HKl.out.1; omega, HSt2.out, HRw8.out, HB8.out⟩
          case measure => have := HAc.out; have := HKl.out.1; simp [intOf]; omega
        · have dx : decide (0 ≤ x) = false := by simpa using hx
          have HSt2 := Lib.hid (show StT l i (k + 1) (t :: args) bad ((c : Int) - 1) from by have h := HSt2.out; rwa [if_neg hx] at h)
          clear hx
          go_wp2_with (at_builtin; refine wpList_append_rows (l := args) (m := [t]) znC_size (by decide) znC_one rfl _ _ 22 rfl w.heap.size Try.underlying22 infoZn rfl rfl rfl (zn_lit w3 t _ HB3.out.size) (rowIs_own znC_size (own_belowC HRw.out (belowNew _ _))) (by have := HLen.out; unfold maxLen; simp only [List.length_cons, List.length_nil]; omega) (by have := HLen.out; simp only [List.length_cons, List.length_nil]; omega) (by have := HB3.out.size; simp; omega) ?_; intro v7 w7 hr7 hg7; have HB7 := Lib.hid (zn_grown w w3 w7 t HB3.out hg7); have HRw7 := Lib.hid (show ZnRow w7 w.heap.size v7 (t :: args) from hr7); clear hr7 hg7)
          refine (HBm.out w7 HB7.out).mono ?_
          rintro e w8 ⟨rfl, hB8⟩
          have HB8 := Lib.hid (HB7.out.trans (hB8.mono HB7.out.size))
          have HRw8 := Lib.hid (own_belowC HRw7.out hB8)
          clear hB8 HB7 HRw7
          go_wp2_with fail
          go_roundw
          case rel => exact ⟨k + 1, t :: args, bad, (c : Int) - 1, rfl, rfl, by go_num, by have := HKl.out.1; omega, HSt2.out, HRw8.out, HB8.out⟩
          case measure => have := HAc.out; have := HKl.out.1; simp [intOf]; omega
      · have dk : decide ((k : Int) < A) = false := by simpa using hlt
        have HF := Lib.hid (HEn.out k args bad e HS.out (by omega))
        have HZ := Lib.hid (SlAt.ofRow (ok := fun _ => True) znC_size HRw.out fun _ _ => trivial)
        clear hlt hk
        by_cases hb : 0 ≤ bad
        · have db : decide (0 ≤ bad) = true := by simpa using hb
          have HE := Lib.hid (HF.out.1 hb)
          clear hb
          go_wp2_with fail
          refine (HAr.out wr).mono ?_
          rintro e9 w2 ⟨rfl, hB2⟩
          have HB2 := Lib.hid (HB.out.trans (hB2.mono HB.out.size))
          clear hB2 HB k0
          go_wp2_with fail
          go_ret2
          exact ⟨by rw [HE.out.1, HE.out.2]; rfl, HB2.out⟩
        · have db : decide (0 ≤ bad) = false := by simpa using hb
          have HE := Lib.hid (HF.out.2 (by omega))
          clear hb
          go_wp2_with fail
          refine (HAr.out wr).mono ?_
          rintro e9 w2 ⟨rfl, hB2⟩
          have HB2 := Lib.hid (HB.out.trans (hB2.mono HB.out.size))
          have HZ2 := Lib.hid (HZ.out.below hB2 (Nat.le_refl _))
          have k2 := HK.out w2 HB2.out
          clear hB2 HB k0 HZ
          go_wp2_with fail
          refine (HNd.out args _ w2 HZ2.out).mono ?_
          rintro e9 w3 ⟨rfl, hB3⟩
          have HB3 := Lib.hid (HB2.out.trans (hB3.mono HB2.out.size))
          clear hB3 HB2 HZ2 k2
          by_cases h0 : nodeT kd args = 0
          · have HX := Lib.hid (show valT (typQ l i) = 0 ∧ errT (typQ l i) = (i : Int) from by rw [HE.out, ownT, if_pos h0]; exact ⟨rfl, rfl⟩)
            rw [h0]
            clear h0
            go_wp2_with fail
            go_ret2
            exact ⟨by rw [HX.out.1, HX.out.2]; rfl, HB3.out⟩
          · have HX := Lib.hid (show valT (typQ l i) = nodeT kd args ∧ errT (typQ l i) = -1 from by rw [HE.out, ownT, if_neg h0]; exact ⟨rfl, rfl⟩)
            generalize nodeT kd args = t9 at *
            have q0 : (t9 == 0) = false := by simpa using h0
            clear h0
            go_wp2_with fail
            go_ret2
            exact ⟨by rw [HX.out.1, HX.out.2]; rfl, HB3.out⟩
end Go.Proofs.Ytpcnfemjjlcjfaa

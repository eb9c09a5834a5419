/-
  The functions of the package caps.
-/
import Derived.Test.YtjcjibbojhlknaaFactsT
import Derived.Test.YtjcjibbojhlknaaPair
import Derived.Test.YtjcjibbojhlknaaCapM
import Derived.Outline
namespace Go.Proofs.Ytjcjibbojhlknaa
open Go.RowKit

/-- In the world w the slice v holds just these sets. -/
def U16sAt (w : World) (v : Value) (l : List Nat) : Prop :=
  ∃ p cap, v = .slice p l.length cap ∧ l.length ≤ 70368744177664 ∧ (l ≠ [] → ∃ b off, p = some ⟨b, off, none⟩ ∧ b < w.heap.size ∧ ∀ i, (h : i < l.length) → w.cell? ⟨b, off + i, none⟩ = some (.int .u16 l[i]))
theorem U16sAt.below {B : Nat} {w w' : World} {v : Value} {l : List Nat} (h : U16sAt w v l) (hB : Below B w w') (hb : w.heap.size ≤ B) : U16sAt w' v l := by
  obtain ⟨p, cap, h1, h2, h3⟩ := h
  refine ⟨p, cap, h1, h2, fun hne => ?_⟩
  obtain ⟨b, off, h4, h5, h6⟩ := h3 hne
  exact ⟨b, off, h4, Nat.lt_of_lt_of_le h5 hB.size, fun i hi => (hB.cell (p := ⟨b, off + i, none⟩) (Nat.lt_of_lt_of_le h5 hb)).trans (h6 i hi)⟩
theorem u16s_one (W : World) (a : Nat) : U16sAt (W.alloc (.cells #[.int .u16 a] 22)) (.slice (some ⟨W.heap.size, 0, none⟩) 1 1) [a] := by
  refine ⟨_, 1, rfl, by simp, fun _ => ⟨W.heap.size, 0, rfl, by simp, fun i hi => ?_⟩⟩
  have h := heap_alloc_new W (.cells #[.int .u16 a] 22)
  simp only [World.cell?, h, Nat.zero_add]
  have : i = 0 := by simp at hi; omega
  subst this; rfl
def u16sF (l : List Nat) : Fact := ⟨fun v w => U16sAt w v l, fun _ _ _ h hB => U16sAt.below h hB (Nat.le_refl _)⟩

/-- What of a set none of the others has. -/
def lessAll (s : Nat) (l : List Nat) : Nat := l.foldl lessN s
theorem lessAll_snoc (s : Nat) (l : List Nat) (x : Nat) : lessAll s (l ++ [x]) = lessN (lessAll s l) x := by simp [lessAll]
theorem lessAll_lt {s : Nat} (hs : s < 65536) : ∀ l, lessAll s l < 65536
  | [] => hs
  | x :: r => lessAll_lt (s := lessN s x) (lessN_lt x hs) r
theorem take_snocU {α : Type} (l : List α) (k : Nat) (h : k < l.length) : l.take (k + 1) = l.take k ++ [l[k]] := List.take_succ_eq_append_getElem h
theorem u16_less_nat (a b : Nat) (ha : a < 65536) (hb : b < 65536) : bits .andNot .u16 (a : Int) (b : Int) = (lessN a b : Nat) := u16_andNot_nat a b ha hb

set_option maxHeartbeats 1000000 in
theorem without_any (s : Nat) (hs : s < 65536) (v : Value) (l : List Nat) (hl : ∀ x, x ∈ l → x < 65536) (w : World) (h : U16sAt w v l) :
    Calls Try.prog 20 #[.int .u16 s, v] w fun e w' => e = .returned (.int .u16 (lessAll s l : Nat)) ∧ w = w' := by
  obtain ⟨p, cap, rfl, hm, hc⟩ := h
  have HC := Lib.hid hc
  have HL := Lib.hid hl
  have H0 := Lib.hid (show lessAll s (l.take 0) = s from rfl)
  clear hc hl
  go_enter Try.func20, Try.ntmps20
  go_wp2_with fail
  go_loop [0, 9] (fun s' i => ∃ k : Nat, k ≤ l.length ∧ i = .int .i64 k ∧ s' = .int .u16 (lessAll s (l.take k) : Nat)) (fun _ i => l.length - (intOf i).toNat)
  case atStart => exact ⟨0, by omega, rfl, by rw [H0.out]⟩
  case round =>
    obtain ⟨k, hk, rfl, rfl⟩ := hrel
    have hJ := lessAll_lt hs (l.take k)
    by_cases hlt : k < l.length
    · obtain ⟨b, off, rfl, hb, hcs⟩ := HC.out (by intro e; rw [e] at hlt; simp at hlt)
      have c0 := hcs k hlt
      have x0 := HL.out _ (List.getElem_mem hlt)
      clear hcs
      have HS := Lib.hid (take_snocU l k hlt)
      have HA := Lib.hid (u16_less_nat (lessAll s (l.take k)) l[k] hJ x0)
      have H1 := Lib.hid (lessAll_snoc s (l.take k) l[k])
      generalize l[k] = x at *
      generalize lessAll s (l.take k) = J at *
      go_wp2_with fail
      go_round
      case rel => exact ⟨k + 1, by omega, by go_num, by rw [HS.out, H1.out, ← HA.out]⟩
      case measure => simp [intOf]; omega
    · have hK : l.take k = l := List.take_of_length_le (by omega)
      have HJ := Lib.hid (congrArg (lessAll s) hK)
      clear hK
      generalize lessAll s (l.take k) = J at *
      go_wp2_with fail
      go_ret
      exact ⟨ret_int (by rw [HJ.out]), rfl⟩
theorem without_one (s o : Nat) (hs : s < 65536) (ho : o < 65536) (v : Value) (W : World) (h : U16sAt W v [o]) :
    Calls Try.prog 20 #[.int .u16 s, v] W fun e w' => e = .returned (.int .u16 (lessN s o : Nat)) ∧ Below W.heap.size W w' :=
  (without_any s hs v [o] (fun x hx => by simp at hx; rw [hx]; exact ho) W h).mono fun _ _ ⟨h1, h2⟩ => ⟨h1, h2 ▸ Below.refl _ _⟩

/-- Two labels that a call has boxed. -/
structure TwoL (w : World) (a b c d : Nat) (W : World) : Prop where
  below : Below w.heap.size w W
  a : Pair W w.heap.size (.int .u16 a) (.int .u16 b)
  b : Pair W (w.heap.size + 1) (.int .u16 c) (.int .u16 d)
theorem TwoL.new (w : World) (a b c d : Nat) : TwoL w a b c d ((w.alloc (.cells #[.int .u16 a, .int .u16 b] 24)).alloc (.cells #[.int .u16 c, .int .u16 d] 24)) := by
  have hC := Pair.new (w.alloc (.cells #[.int .u16 a, .int .u16 b] 24)) (.int .u16 c) (.int .u16 d)
  rw [World.size_alloc] at hC
  exact ⟨below_two w _ _, (Pair.new w (.int .u16 a) (.int .u16 b)).alloc _, hC⟩
theorem TwoL.step {w W W' : World} {a b c d : Nat} (h : TwoL w a b c d W) (hB : Below W.heap.size W W') : TwoL w a b c d W' :=
  ⟨h.below.trans (hB.mono h.below.size), h.a.below hB h.a.lt, h.b.below hB h.b.lt⟩
theorem TwoL.drew {w W : World} {a b c d : Nat} (h : TwoL w a b c d W) : TwoL w a b c d W.drew := ⟨h.below.drew, h.a.drew, h.b.drew⟩

set_option maxRecDepth 100000 in
set_option maxHeartbeats 4000000 in
theorem cUsed_any (a b c d : Nat) (w : World) (ha : a < 65536) (hb : b < 65536) (hc : c < 65536) (hd : d < 65536) :
    Calls Try.prog 7 #[.agg #[.int .u16 a, .int .u16 b], .agg #[.int .u16 c, .int .u16 d]] w fun e w' => e = .returned (.int .u16 (usedN a b c d : Nat)) ∧ Below w.heap.size w w' := by
  have T0 := Lib.hid (TwoL.new w a b c d)
  have HO := Lib.hid (u16_or_nat (lessN a c) (lessN d b) (lessN_lt c ha) (lessN_lt b hd))
  go_enter Try.func7, Try.ntmps7
  go_wp2_with fail
  generalize (w.alloc (.cells #[.int .u16 a, .int .u16 b] 24)).alloc (.cells #[.int .u16 c, .int .u16 d] 24) = w0 at *
  refine wp_region_factsT 13 1 (TwoL w a b c d) [Fact.is (.pointer (some ⟨w.heap.size, 0, none⟩)), Fact.is (.int .u16 (a : Nat)), Fact.is (.pointer (some ⟨w.heap.size + 1, 0, none⟩)), Fact.is (.int .u16 (c : Nat)), u16sF [c], Fact.is (.int .u16 (lessN a c : Nat)), Fact.is (.pointer (some ⟨w.heap.size + 1, 1, none⟩)), Fact.is (.int .u16 (d : Nat)), Fact.is (.pointer (some ⟨w.heap.size, 1, none⟩)), Fact.is (.int .u16 (b : Nat)), u16sF [b], Fact.is (.int .u16 (lessN d b : Nat)), Fact.is (.int .u16 (usedN a b c d : Nat))] []
    (fun x => { tmps := #[.agg #[.int .u16 (a : Nat), .int .u16 (b : Nat)], .agg #[.int .u16 (c : Nat), .int .u16 (d : Nat)], .pointer (some ⟨w.heap.size, 0, none⟩), .pointer (some ⟨w.heap.size + 1, 0, none⟩), .int .u16 0, x 0, x 1, x 2, x 3, x 4, x 5, x 6, x 7, x 8, x 9, x 10, x 11, x 12], defers := [] }) (fun _ => undef) (by kernel_rfl) rfl rfl (by kernel_rfl) (by kernel_rfl) (T0.out.drew) (fun u v hu hB => hu.step hB) ?_ ?_
  · simp only [List.take_succ_cons, List.take_zero]
    refine ⟨⟨fun x v => rfl, fun x V hC hD => ?_⟩, ?_⟩
    · clear hD
      refine want_yes rfl ?_
      exact leads_value (by go_simp) ⟨Below.refl _ _, rfl, fun h => absurd h (by simp)⟩
    refine ⟨⟨fun x v => rfl, fun x V hC hD => ?_⟩, ?_⟩
    · have e0 : x 0 = .pointer (some ⟨w.heap.size, 0, none⟩) := hD.1 rfl
      clear hD
      refine want_yes rfl ?_
      have k0 := hC.a.cell0
      exact leads_value (by go_simp) ⟨Below.refl _ _, rfl, fun h => absurd h (by simp)⟩
    refine ⟨⟨fun x v => rfl, fun x V hC hD => ?_⟩, ?_⟩
    · clear hD
      refine want_yes rfl ?_
      exact leads_value (by go_simp) ⟨Below.refl _ _, rfl, fun h => absurd h (by simp)⟩
    refine ⟨⟨fun x v => rfl, fun x V hC hD => ?_⟩, ?_⟩
    · have e2 : x 2 = .pointer (some ⟨w.heap.size + 1, 0, none⟩) := hD.1 rfl
      clear hD
      refine want_yes rfl ?_
      have k0 := hC.b.cell0
      exact leads_value (by go_simp) ⟨Below.refl _ _, rfl, fun h => absurd h (by simp)⟩
    refine ⟨⟨fun x v => rfl, fun x V hC hD => ?_⟩, ?_⟩
    · have e3 : x 3 = .int .u16 (c : Nat) := hD.1 rfl
      clear hD
      refine want_yes rfl ?_
      exact leads_value (by go_simp) ⟨below_one _ _, u16s_one V c, fun h => absurd h (by simp)⟩
    refine ⟨⟨fun x v => rfl, fun x V hC hD => ?_⟩, ?_⟩
    · have e1 : x 1 = .int .u16 (a : Nat) := hD.1 rfl
      have e4 : U16sAt V (x 4) [c] := hD.2.1 rfl
      clear hD
      refine want_yes rfl ?_
      exact leads_enter (by go_simp) (without_one a c ha hc (x 4) V e4) fun w'' hB => ⟨hB, rfl, fun h => absurd h (by simp)⟩
    refine ⟨⟨fun x v => rfl, fun x V hC hD => ?_⟩, ?_⟩
    · clear hD
      refine want_yes rfl ?_
      exact leads_value (by go_simp) ⟨Below.refl _ _, rfl, fun h => absurd h (by simp)⟩
    refine ⟨⟨fun x v => rfl, fun x V hC hD => ?_⟩, ?_⟩
    · have e6 : x 6 = .pointer (some ⟨w.heap.size + 1, 1, none⟩) := hD.1 rfl
      clear hD
      refine want_yes rfl ?_
      have k0 := hC.b.cell1
      exact leads_value (by go_simp) ⟨Below.refl _ _, rfl, fun h => absurd h (by simp)⟩
    refine ⟨⟨fun x v => rfl, fun x V hC hD => ?_⟩, ?_⟩
    · clear hD
      refine want_yes rfl ?_
      exact leads_value (by go_simp) ⟨Below.refl _ _, rfl, fun h => absurd h (by simp)⟩
    refine ⟨⟨fun x v => rfl, fun x V hC hD => ?_⟩, ?_⟩
    · have e8 : x 8 = .pointer (some ⟨w.heap.size, 1, none⟩) := hD.1 rfl
      clear hD
      refine want_yes rfl ?_
      have k0 := hC.a.cell1
      exact leads_value (by go_simp) ⟨Below.refl _ _, rfl, fun h => absurd h (by simp)⟩
    refine ⟨⟨fun x v => rfl, fun x V hC hD => ?_⟩, ?_⟩
    · have e9 : x 9 = .int .u16 (b : Nat) := hD.1 rfl
      clear hD
      refine want_yes rfl ?_
      exact leads_value (by go_simp) ⟨below_one _ _, u16s_one V b, fun h => absurd h (by simp)⟩
    refine ⟨⟨fun x v => rfl, fun x V hC hD => ?_⟩, ?_⟩
    · have e7 : x 7 = .int .u16 (d : Nat) := hD.1 rfl
      have e10 : U16sAt V (x 10) [b] := hD.2.1 rfl
      have e5 : x 5 = .int .u16 (lessN a c : Nat) := hD.2.2.1 rfl
      clear hD
      refine want_yes rfl ?_
      exact leads_enter (by go_simp) (without_one d b hd hb (x 10) V e10) fun w'' hB => ⟨hB, rfl, fun h => absurd h (by simp)⟩
    refine ⟨⟨fun x v => rfl, fun x V hC hD => ?_⟩, ?_⟩
    · have e5 : x 5 = .int .u16 (lessN a c : Nat) := hD.1 rfl
      have e11 : x 11 = .int .u16 (lessN d b : Nat) := hD.2.1 rfl
      clear hD
      refine want_yes rfl ?_
      exact leads_value (v := .int .u16 (bits .or .u16 (lessN a c : Nat) (lessN d b : Nat))) (by go_simp) ⟨Below.refl _ _, by rw [HO.out]; rfl, fun h => absurd h (by simp)⟩
    trivial
  · intro x W hF
    simp only [List.drop_succ_cons, List.drop_zero]
    have e12 : x 12 = .int .u16 (usedN a b c d : Nat) := hF.fact 12 (by decide) rfl
    have T := hF.c.below
    clear hF
    rw [e12]
    clear e12
    have HT := Lib.hid T
    clear T
    go_wp2_with fail
    go_ret
    exact ⟨rfl, HT.out⟩

set_option maxHeartbeats 1000000 in
theorem cFlows_any (a b c d k : Nat) (w : World) (ha : a < 65536) (hb : b < 65536) (hc : c < 65536) (hd : d < 65536) (hk : k < 65536) :
    Calls Try.prog 9 #[.agg #[.int .u16 a, .int .u16 b], .agg #[.int .u16 c, .int .u16 d], .int .u16 k] w fun e w' => e = .returned (.bool (capsB a b c d k)) ∧ Below w.heap.size w w' := by
  have H1 := Lib.hid (fun W => cUsed_any a b c d W ha hb hc hd)
  have H2 := Lib.hid (fun W => Sub_any (usedN a b c d) k W (usedN_lt b c ha hd) hk)
  have HB := Lib.hid (show capsB a b c d k = subB (usedN a b c d) k from rfl)
  have hW := Lib.hid (below_two w (.cells #[.int .u16 a, .int .u16 b] 24) (.cells #[.int .u16 c, .int .u16 d] 24))
  generalize usedN a b c d = u at *
  go_enter Try.func9, Try.ntmps9
  go_wp2_with fail
  (with_reducible refine (H1.out _).mono ?_); rintro e w1 ⟨rfl, hB⟩
  have hB1 := Lib.hid (hW.out.trans (hB.mono hW.out.size))
  clear hB
  go_wp2_with fail
  (with_reducible refine (H2.out _).mono ?_); rintro e w' ⟨rfl, rfl⟩
  go_wp2_with fail
  go_ret
  exact ⟨ret_bool HB.out.symm, hB1.out⟩

theorem lFlows_is (a b c d : Nat) (x : Bool) (h : flowsB a b c d = x) (w : World) (ha : a < 65536) (hb : b < 65536) (hc : c < 65536) (hd : d < 65536) :
    Calls Try.prog 19 #[.agg #[.int .u16 a, .int .u16 b], .agg #[.int .u16 c, .int .u16 d]] w fun e w' => e = .returned (.bool x) ∧ Below w.heap.size w w' := by
  rw [← h]; exact lFlows_any a b c d w ha hb hc hd

/-- A label beside an error's number. -/
def labErr (a b e : Nat) : Value := .tuple #[.agg #[.int .u16 a, .int .u16 b], .int .i64 e]

set_option maxHeartbeats 1000000 in
theorem cRaise_yes (a b c d : Nat) (h : flowsB a b c d = true) (w : World) (ha : a < 65536) (hb : b < 65536) (hc : c < 65536) (hd : d < 65536) :
    Calls Try.prog 12 #[.agg #[.int .u16 a, .int .u16 b], .agg #[.int .u16 c, .int .u16 d]] w fun e w' => e = .returned (.tuple #[.agg #[.int .u16 c, .int .u16 d], .int .i64 0]) ∧ Below w.heap.size w w' := by
  have H1 := Lib.hid (fun W => lFlows_is a b c d true h W ha hb hc hd)
  have T0 := Lib.hid ((TwoL.new w a b c d).step (below_one _ (.cells #[.int .u16 0, .int .u16 0] 24)))
  have R0 := Pair.new ((w.alloc (.cells #[.int .u16 a, .int .u16 b] 24)).alloc (.cells #[.int .u16 c, .int .u16 d] 24)) (.int .u16 0) (.int .u16 0)
  rw [World.size_alloc, World.size_alloc] at R0
  have HR0 := Lib.hid R0
  clear R0 h
  go_enter Try.func12, Try.ntmps12
  go_wp2_with fail
  generalize ((w.alloc (.cells #[.int .u16 a, .int .u16 b] 24)).alloc (.cells #[.int .u16 c, .int .u16 d] 24)).alloc (.cells #[.int .u16 0, .int .u16 0] 24) = w0 at *
  (with_reducible refine (H1.out _).mono ?_); rintro e w1 ⟨rfl, hB⟩
  have T1 := Lib.hid (T0.out.step hB)
  have HR1 := Lib.hid (HR0.out.below hB HR0.out.lt)
  clear hB
  have k0 := T1.out.b.cell0
  have k1 := T1.out.b.cell1
  have k2 := HR1.out.free0
  have k3 := HR1.out.free1
  have k4 := HR1.out.cell0
  have k5 := HR1.out.cell1
  go_wp2_with fail
  have r0 := ((HR1.out.set0 (.int .u16 c)).set1 (.int .u16 d)).cell0
  have r1 := ((HR1.out.set0 (.int .u16 c)).set1 (.int .u16 d)).cell1
  exact bodyPost_ret (v := .tuple #[.agg #[.int .u16 c, .int .u16 d], .int .i64 0]) (by simp [results, Try.results12, go_sem, r0, r1]) rfl ⟨rfl, (T1.out.below.setCell (by simp; omega) _).setCell (by simp; omega) _⟩

set_option maxHeartbeats 1000000 in
theorem cRaise_no (a b c d : Nat) (h : flowsB a b c d = false) (w : World) (ha : a < 65536) (hb : b < 65536) (hc : c < 65536) (hd : d < 65536) :
    Calls Try.prog 12 #[.agg #[.int .u16 a, .int .u16 b], .agg #[.int .u16 c, .int .u16 d]] w fun e w' => e = .returned (.tuple #[.agg #[.int .u16 0, .int .u16 0], .int .i64 9]) ∧ Below w.heap.size w w' := by
  have H1 := Lib.hid (fun W => lFlows_is a b c d false h W ha hb hc hd)
  have T0 := Lib.hid ((TwoL.new w a b c d).step (below_one _ (.cells #[.int .u16 0, .int .u16 0] 24)))
  have R0 := Pair.new ((w.alloc (.cells #[.int .u16 a, .int .u16 b] 24)).alloc (.cells #[.int .u16 c, .int .u16 d] 24)) (.int .u16 0) (.int .u16 0)
  rw [World.size_alloc, World.size_alloc] at R0
  have HR0 := Lib.hid R0
  clear R0 h
  go_enter Try.func12, Try.ntmps12
  go_wp2_with fail
  generalize ((w.alloc (.cells #[.int .u16 a, .int .u16 b] 24)).alloc (.cells #[.int .u16 c, .int .u16 d] 24)).alloc (.cells #[.int .u16 0, .int .u16 0] 24) = w0 at *
  (with_reducible refine (H1.out _).mono ?_); rintro e w1 ⟨rfl, hB⟩
  have T1 := Lib.hid (T0.out.step hB)
  have HR1 := Lib.hid (HR0.out.below hB HR0.out.lt)
  clear hB
  have k2 := HR1.out.free0
  have k3 := HR1.out.free1
  have k4 := HR1.out.cell0
  have k5 := HR1.out.cell1
  go_wp2_with fail
  have r0 := ((HR1.out.set0 (.int .u16 0)).set1 (.int .u16 0)).cell0
  have r1 := ((HR1.out.set0 (.int .u16 0)).set1 (.int .u16 0)).cell1
  exact bodyPost_ret (v := .tuple #[.agg #[.int .u16 0, .int .u16 0], .int .i64 9]) (by simp [results, Try.results12, go_sem, r0, r1]) rfl ⟨rfl, (T1.out.below.setCell (by simp; omega) _).setCell (by simp; omega) _⟩

set_option maxRecDepth 100000 in
set_option maxHeartbeats 4000000 in
theorem cDecl_yes (a b t k : Nat) (h : subB t k = true) (w : World) (ha : a < 65536) (hb : b < 65536) (ht : t < 65536) (hk : k < 65536) :
    Calls Try.prog 13 #[.agg #[.int .u16 a, .int .u16 b], .int .u16 t, .int .u16 k] w fun e w' => e = .returned (.tuple #[.agg #[.int .u16 (lessN a t : Nat), .int .u16 b], .int .i64 0]) ∧ Below w.heap.size w w' := by
  have H1 := Lib.hid (Sub_is t k true h ht hk)
  have T0 := Lib.hid (TwoL.new w a b 0 0)
  have HO := Lib.hid (u16_or_nat b t hb ht)
  clear h
  go_enter Try.func13, Try.ntmps13
  go_wp2_with fail
  (with_reducible refine (H1.out _).mono ?_); rintro e w' ⟨rfl, rfl⟩
  go_wp2_with fail
  generalize (w.alloc (.cells #[.int .u16 a, .int .u16 b] 24)).alloc (.cells #[.int .u16 0, .int .u16 0] 24) = w0 at *
  refine wp_region_factsT 8 2 (TwoL w a b 0 0) [Fact.is (.pointer (some ⟨w.heap.size, 0, none⟩)), Fact.is (.int .u16 (a : Nat)), Fact.is (.int .u16 (t : Nat)), u16sF [t], Fact.is (.int .u16 (lessN a t : Nat)), Fact.is (.pointer (some ⟨w.heap.size, 1, none⟩)), Fact.is (.int .u16 (b : Nat)), Fact.is (.agg #[.int .u16 (lessN a t : Nat), .int .u16 (b : Nat)])] []
    (fun x => { tmps := #[.agg #[.int .u16 (a : Nat), .int .u16 (b : Nat)], .int .u16 (t : Nat), .int .u16 (k : Nat), .pointer (some ⟨w.heap.size, 0, none⟩), undef, undef, .pointer (some ⟨w.heap.size + 1, 0, none⟩), .int .i64 0, .int .u16 (t : Nat), .int .u16 (k : Nat), .bool true, .bool false, undef, x 0, x 1, x 2, x 3, x 4, x 5, x 6, x 7], defers := [] }) (fun _ => undef) (by kernel_rfl) rfl rfl (by kernel_rfl) (by kernel_rfl) (T0.out.drew) (fun u v hu hB => hu.step hB) ?_ ?_
  · simp only [List.take_succ_cons, List.take_zero]
    refine ⟨⟨fun x v => rfl, fun x V hC hD => ?_⟩, ?_⟩
    · clear hD
      refine want_yes rfl ?_
      exact leads_value (by go_simp) ⟨Below.refl _ _, rfl, fun h => absurd h (by simp)⟩
    refine ⟨⟨fun x v => rfl, fun x V hC hD => ?_⟩, ?_⟩
    · have e0 : x 0 = .pointer (some ⟨w.heap.size, 0, none⟩) := hD.1 rfl
      clear hD
      refine want_yes rfl ?_
      have k0 := hC.a.cell0
      exact leads_value (by go_simp) ⟨Below.refl _ _, rfl, fun h => absurd h (by simp)⟩
    refine ⟨⟨fun x v => rfl, fun x V hC hD => ?_⟩, ?_⟩
    · clear hD
      refine want_yes rfl ?_
      exact leads_value (by go_simp) ⟨Below.refl _ _, rfl, fun h => absurd h (by simp)⟩
    refine ⟨⟨fun x v => rfl, fun x V hC hD => ?_⟩, ?_⟩
    · have e2 : x 2 = .int .u16 (t : Nat) := hD.1 rfl
      clear hD
      refine want_yes rfl ?_
      exact leads_value (by go_simp) ⟨below_one _ _, u16s_one V t, fun h => absurd h (by simp)⟩
    refine ⟨⟨fun x v => rfl, fun x V hC hD => ?_⟩, ?_⟩
    · have e1 : x 1 = .int .u16 (a : Nat) := hD.1 rfl
      have e3 : U16sAt V (x 3) [t] := hD.2.1 rfl
      clear hD
      refine want_yes rfl ?_
      exact leads_enter (by go_simp) (without_one a t ha ht (x 3) V e3) fun w'' hB => ⟨hB, rfl, fun h => absurd h (by simp)⟩
    refine ⟨⟨fun x v => rfl, fun x V hC hD => ?_⟩, ?_⟩
    · clear hD
      refine want_yes rfl ?_
      exact leads_value (by go_simp) ⟨Below.refl _ _, rfl, fun h => absurd h (by simp)⟩
    refine ⟨⟨fun x v => rfl, fun x V hC hD => ?_⟩, ?_⟩
    · have e5 : x 5 = .pointer (some ⟨w.heap.size, 1, none⟩) := hD.1 rfl
      clear hD
      refine want_yes rfl ?_
      have k0 := hC.a.cell1
      exact leads_value (by go_simp) ⟨Below.refl _ _, rfl, fun h => absurd h (by simp)⟩
    refine ⟨⟨fun x v => rfl, fun x V hC hD => ?_⟩, ?_⟩
    · have e4 : x 4 = .int .u16 (lessN a t : Nat) := hD.1 rfl
      have e6 : x 6 = .int .u16 (b : Nat) := hD.2.1 rfl
      clear hD
      refine want_yes rfl ?_
      exact leads_value (by go_simp) ⟨Below.refl _ _, rfl, fun h => absurd h (by simp)⟩
    trivial
  · intro x W hF
    simp only [List.drop_succ_cons, List.drop_zero]
    have e7 : x 7 = .agg #[.int .u16 (lessN a t : Nat), .int .u16 b] := hF.fact 7 (by decide) rfl
    have T := Lib.hid hF.c
    clear hF
    rw [e7]
    clear e7
    have k2 := T.out.b.free0
    have k3 := T.out.b.free1
    have k4 := T.out.b.cell0
    have k5 := T.out.b.cell1
    go_wp2_with fail
    have r0 := ((T.out.b.set0 (.int .u16 (lessN a t : Nat))).set1 (.int .u16 (b))).cell0
    have r1 := ((T.out.b.set0 (.int .u16 (lessN a t : Nat))).set1 (.int .u16 (b))).cell1
    exact bodyPost_ret (v := .tuple #[.agg #[.int .u16 (lessN a t : Nat), .int .u16 b], .int .i64 0]) (by simp [results, Try.results13, go_sem, r0, r1]) rfl ⟨rfl, (T.out.below.setCell (by simp) _).setCell (by simp) _⟩

set_option maxRecDepth 100000 in
set_option maxHeartbeats 4000000 in
theorem cDecl_no (a b t k : Nat) (h : subB t k = false) (w : World) (_ha : a < 65536) (hb : b < 65536) (ht : t < 65536) (hk : k < 65536) :
    Calls Try.prog 13 #[.agg #[.int .u16 a, .int .u16 b], .int .u16 t, .int .u16 k] w fun e w' => e = .returned (.tuple #[.agg #[.int .u16 0, .int .u16 0], .int .i64 9]) ∧ Below w.heap.size w w' := by
  have H1 := Lib.hid (Sub_is t k false h ht hk)
  have T0 := Lib.hid (TwoL.new w a b 0 0)
  have HO := Lib.hid (u16_or_nat b t hb ht)
  clear h
  go_enter Try.func13, Try.ntmps13
  go_wp2_with fail
  (with_reducible refine (H1.out _).mono ?_); rintro e w' ⟨rfl, rfl⟩
  generalize (w.alloc (.cells #[.int .u16 a, .int .u16 b] 24)).alloc (.cells #[.int .u16 0, .int .u16 0] 24) = w0 at *
  have T := T0
  clear T0
  have k0 := T.out.a.cell0
  have k1 := T.out.a.cell1
  have k2 := T.out.b.free0
  have k3 := T.out.b.free1
  have k4 := T.out.b.cell0
  have k5 := T.out.b.cell1
  go_wp2_with fail
  have r0 := ((T.out.b.set0 (.int .u16 (0))).set1 (.int .u16 (0))).cell0
  have r1 := ((T.out.b.set0 (.int .u16 (0))).set1 (.int .u16 (0))).cell1
  exact bodyPost_ret (v := .tuple #[.agg #[.int .u16 0, .int .u16 0], .int .i64 9]) (by simp [results, Try.results13, go_sem, r0, r1]) rfl ⟨rfl, (T.out.below.setCell (by simp) _).setCell (by simp) _⟩

set_option maxRecDepth 100000 in
set_option maxHeartbeats 4000000 in
theorem cEnd_yes (a b t k : Nat) (h : subB t k = true) (w : World) (_ha : a < 65536) (hb : b < 65536) (ht : t < 65536) (hk : k < 65536) :
    Calls Try.prog 14 #[.agg #[.int .u16 a, .int .u16 b], .int .u16 t, .int .u16 k] w fun e w' => e = .returned (.tuple #[.agg #[.int .u16 a, .int .u16 (b ||| t : Nat)], .int .i64 0]) ∧ Below w.heap.size w w' := by
  have H1 := Lib.hid (Sub_is t k true h ht hk)
  have T0 := Lib.hid (TwoL.new w a b 0 0)
  have HO := Lib.hid (u16_or_nat b t hb ht)
  clear h
  go_enter Try.func14, Try.ntmps14
  go_wp2_with fail
  (with_reducible refine (H1.out _).mono ?_); rintro e w' ⟨rfl, rfl⟩
  generalize (w.alloc (.cells #[.int .u16 a, .int .u16 b] 24)).alloc (.cells #[.int .u16 0, .int .u16 0] 24) = w0 at *
  have T := T0
  clear T0
  have k0 := T.out.a.cell0
  have k1 := T.out.a.cell1
  have k2 := T.out.b.free0
  have k3 := T.out.b.free1
  have k4 := T.out.b.cell0
  have k5 := T.out.b.cell1
  go_wp2_with fail
  rw [HO.out]
  have r0 := ((T.out.b.set0 (.int .u16 (a))).set1 (.int .u16 (b ||| t : Nat))).cell0
  have r1 := ((T.out.b.set0 (.int .u16 (a))).set1 (.int .u16 (b ||| t : Nat))).cell1
  exact bodyPost_ret (v := .tuple #[.agg #[.int .u16 a, .int .u16 (b ||| t : Nat)], .int .i64 0]) (by simp [results, Try.results14, go_sem, r0, r1]) rfl ⟨rfl, (T.out.below.setCell (by simp) _).setCell (by simp) _⟩

set_option maxRecDepth 100000 in
set_option maxHeartbeats 4000000 in
theorem cEnd_no (a b t k : Nat) (h : subB t k = false) (w : World) (_ha : a < 65536) (hb : b < 65536) (ht : t < 65536) (hk : k < 65536) :
    Calls Try.prog 14 #[.agg #[.int .u16 a, .int .u16 b], .int .u16 t, .int .u16 k] w fun e w' => e = .returned (.tuple #[.agg #[.int .u16 0, .int .u16 0], .int .i64 9]) ∧ Below w.heap.size w w' := by
  have H1 := Lib.hid (Sub_is t k false h ht hk)
  have T0 := Lib.hid (TwoL.new w a b 0 0)
  have HO := Lib.hid (u16_or_nat b t hb ht)
  clear h
  go_enter Try.func14, Try.ntmps14
  go_wp2_with fail
  (with_reducible refine (H1.out _).mono ?_); rintro e w' ⟨rfl, rfl⟩
  generalize (w.alloc (.cells #[.int .u16 a, .int .u16 b] 24)).alloc (.cells #[.int .u16 0, .int .u16 0] 24) = w0 at *
  have T := T0
  clear T0
  have k0 := T.out.a.cell0
  have k1 := T.out.a.cell1
  have k2 := T.out.b.free0
  have k3 := T.out.b.free1
  have k4 := T.out.b.cell0
  have k5 := T.out.b.cell1
  go_wp2_with fail
  have r0 := ((T.out.b.set0 (.int .u16 (0))).set1 (.int .u16 (0))).cell0
  have r1 := ((T.out.b.set0 (.int .u16 (0))).set1 (.int .u16 (0))).cell1
  exact bodyPost_ret (v := .tuple #[.agg #[.int .u16 0, .int .u16 0], .int .i64 9]) (by simp [results, Try.results14, go_sem, r0, r1]) rfl ⟨rfl, (T.out.below.setCell (by simp) _).setCell (by simp) _⟩

end Go.Proofs.Ytjcjibbojhlknaa

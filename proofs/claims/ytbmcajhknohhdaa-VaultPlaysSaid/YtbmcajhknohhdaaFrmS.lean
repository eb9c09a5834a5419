/-
  The document's frames: Read.
-/
import Derived.Test.YtbmcajhknohhdaaFrmR
import Derived.Test.YtbmcajhknohhdaaChain
import Derived.Test.YtbmcajhknohhdaaWirN
namespace Go.Proofs.Ytbmcajhknohhdaa
open Go.RowKit

theorem run_rng {w : World} {p : Option Addr} {len cap lo hi : Nat} {x y : Int} (hx : x = (lo : Int)) (hy : y = (hi : Int)) (h1 : lo ≤ hi) (h2 : hi ≤ cap) :
    (Instr.slice 31 (.slice p len cap) (some (.int .i64 x)) (some (.int .i64 y)) none).run Try.prog w = .ok (.slice (if cap = lo then p else p.map (·.add lo)) (hi - lo) (cap - lo)) w := by
  subst hx; subst hy
  rw [run_slice_lh w _ _ _ _ elemU8 .i64 .i64 _ _ (by omega) (by omega) (by omega), sizeU8]
  simp [Result.andThen, sliced]

theorem results_tmp4 {fn : Func} {t u v x : Tmp} (h : fn.results = #[.tmp t, .tmp u, .tmp v, .tmp x]) (tmps : Array Value) (P : Program) (w : World) :
    (results fn tmps).run P w = .ok (.tuple #[tmps.getD t undef, tmps.getD u undef, tmps.getD v undef, tmps.getD x undef]) w := by
  simp [results, h]
/-- The form of a block of 128 bytes, byte by byte. -/
theorem tail_iff {t : List UInt8} (h : t.length = 128) : t.drop 124 = frTail ↔ at8 t 124 = 0 ∧ at8 t 125 = 0 ∧ at8 t 126 = 0 ∧ at8 t 127 = 69 := by
  have hd : t.drop 124 = [t.getD 124 0, t.getD 125 0, t.getD 126 0, t.getD 127 0] := by
    apply List.ext_getElem?
    intro k
    rw [List.getElem?_drop]
    match k with
    | 0 => simp [List.getD, show 124 < t.length by omega]
    | 1 => simp [List.getD, show 125 < t.length by omega]
    | 2 => simp [List.getD, show 126 < t.length by omega]
    | 3 => simp [List.getD, show 127 < t.length by omega]
    | k + 4 => rw [List.getElem?_eq_none (by omega)]; simp
  rw [hd]
  unfold frTail at8
  simp only [List.cons.injEq, and_true]
  constructor
  · rintro ⟨h1, h2, h3, h4⟩
    rw [h1, h2, h3, h4]; decide
  · rintro ⟨h1, h2, h3, h4⟩
    exact ⟨UInt8.toNat_inj.1 h1, UInt8.toNat_inj.1 h2, UInt8.toNat_inj.1 h3, UInt8.toNat_inj.1 h4⟩
theorem frR_form {kd : UInt8} {t : List UInt8} (hl : t.length = 128) (h : ¬ (at8 t 0 = kd.toNat ∧ at8 t 124 = 0 ∧ at8 t 125 = 0 ∧ at8 t 126 = 0 ∧ at8 t 127 = 69)) : frR kd t = ⟨0, 0, [], 3⟩ := by
  have he : frRE kd t = 3 := by
    unfold frRE
    rw [if_neg (by omega), if_pos]
    by_cases h0 : t.getD 0 0 = kd
    · right
      rw [Ne, tail_iff hl]
      exact fun h1 => h ⟨by unfold at8; rw [h0], h1⟩
    · exact .inl h0
  unfold frR
  rw [if_neg (by omega), he]

theorem frR_sum {kd : UInt8} {t : List UInt8} (hl : t.length = 128) (h : at8 t 0 = kd.toNat ∧ at8 t 124 = 0 ∧ at8 t 125 = 0 ∧ at8 t 126 = 0 ∧ at8 t 127 = 69) (hs : sealL (t.take 120) ≠ t.take 124) : frR kd t = ⟨0, 0, [], 18⟩ := by
  have h0 : t.getD 0 0 = kd := UInt8.toNat_inj.1 h.1
  have he : frRE kd t = 18 := by
    unfold frRE
    rw [if_neg (by omega), if_neg (by rintro (h1 | h1); exact h1 h0; exact h1 ((tail_iff hl).2 h.2)), if_pos hs]
  unfold frR
  rw [if_neg (by omega), he]
theorem frR_more {kd : UInt8} {t : List UInt8} (hl : t.length = 128) (h : at8 t 0 = kd.toNat ∧ at8 t 124 = 0 ∧ at8 t 125 = 0 ∧ at8 t 126 = 0 ∧ at8 t 127 = 69) (hs : sealL (t.take 120) = t.take 124) :
    (112 < at8 t 7 ∨ frWL kd (frGen t) (frSeq t) (frPay t) ≠ t → frR kd t = ⟨0, 0, [], 3⟩) ∧ (¬ 112 < at8 t 7 → frWL kd (frGen t) (frSeq t) (frPay t) = t → frR kd t = ⟨frGen t, frSeq t, frPay t, 0⟩) := by
  have h0 : t.getD 0 0 = kd := UInt8.toNat_inj.1 h.1
  have hn2 : ¬ (t.getD 0 0 ≠ kd ∨ t.drop 124 ≠ frTail) := by rintro (h1 | h1); exact h1 h0; exact h1 ((tail_iff hl).2 h.2)
  refine ⟨fun h1 => ?_, fun h1 h2 => ?_⟩
  · have he : frRE kd t = 3 := by
      unfold frRE
      rw [if_neg (by omega), if_neg hn2, if_neg (by rw [hs]; simp), if_pos h1]
    unfold frR
    rw [if_neg (by omega), he]
  · have he : frRE kd t = 0 := by
      unfold frRE
      rw [if_neg (by omega), if_neg hn2, if_neg (by rw [hs]; simp), if_neg (by rintro (h3 | h3); exact h1 h3; exact h3 h2)]
    unfold frR
    rw [if_pos he]
def C5 (w : World) (L : List UInt8) : List Value → World → Prop
  | [], V => Below w.heap.size w V
  | [a0], V => Below w.heap.size w V ∧ ∃ p c, a0 = .slice p 124 c ∧ BsAt V p 124 c L
  | _, _ => False
theorem C5_com {w : World} {L : List UInt8} : ∀ (vs : List Value) (V : World), C5 w L vs V → Below w.heap.size w V
  | [], _, h => h
  | [_], _, h => h.1
  | _ :: _ :: _, _, h => h.elim
theorem C5_val {w : World} {L : List UInt8} {vs : List Value} {V : World} (hn : 0 < vs.length) (h : C5 w L vs V) : ∃ p c, vs.getD 0 undef = .slice p 124 c ∧ BsAt V p 124 c L := by
  match vs, hn, h with
  | [a0], _, h => exact h.2
  | _ :: _ :: _, _, h => exact h.elim
theorem str_ne {a b : List UInt8} (h : a ≠ b) : ((⟨a.toArray⟩ : ByteArray) == ⟨b.toArray⟩) = false := by
  show (a.toArray == b.toArray) = false
  simpa using h
theorem at8_lt (t : List UInt8) (k : Nat) : at8 t k < 256 := (t.getD k 0).toNat_lt
/-- The generation, as far as it is read. -/
def genP (t : List UInt8) : Nat → Nat
  | 0 => 0
  | k + 1 => if k = 0 then 0 else 256 * genP t k + at8 t k
theorem genP_lt (t : List UInt8) (k : Nat) (h : k ≤ 5) : genP t k < 4294967296 := by
  have h1 := at8_lt t 1
  have h2 := at8_lt t 2
  have h3 := at8_lt t 3
  have h4 := at8_lt t 4
  have e : k = 0 ∨ k = 1 ∨ k = 2 ∨ k = 3 ∨ k = 4 ∨ k = 5 := by omega
  rcases e with rfl | rfl | rfl | rfl | rfl | rfl <;> simp [genP] <;> omega
theorem genP_five (t : List UInt8) : genP t 5 = frGen t := by simp [genP, frGen]; omega
theorem genP_succ (t : List UInt8) {k : Nat} (h : 1 ≤ k) : genP t (k + 1) = 256 * genP t k + at8 t k := by rw [genP, if_neg (by omega)]

set_option maxRecDepth 100000 in
set_option maxHeartbeats 12800000 in
theorem rfRead_any (kd : UInt8) (p : Option Addr) (len cap : Nat) (t : List UInt8) (w : World) (h : BsAt w p len cap t) :
    Calls Try.prog 50 #[.int .u8 (kd.toNat : Int), .slice p len cap] w fun e w' => ∃ q c, e = .returned (.tuple #[.int .i64 (frR kd t).gen, .int .i64 (frR kd t).seq, .slice q (frR kd t).pay.length c, .int .i64 (frR kd t).e]) ∧ BsAt w' q (frR kd t).pay.length c (frR kd t).pay ∧ Below w.heap.size w w' := by
  have hl := h.same
  subst hl
  by_cases hlen : t.length = 128
  case neg =>
    have HE := Lib.hid (show frR kd t = ⟨0, 0, [], 1⟩ from by
      have he : frRE kd t = 1 := by unfold frRE; rw [if_pos hlen]
      unfold frR; rw [if_neg (by omega), he])
    have hbm : t.length ≤ 9223372036854775807 := by have := h.le; have := h.small; unfold maxLen at this; omega
    have d1 : ¬ ((t.length : Int) = 128) := by omega
    clear h hlen
    generalize t.length = n at *
    go_enter Try.func50, Try.ntmps50
    go_wp2_with fail
    refine bodyPost_ret (results_tmp4 rfl _ _ _) rfl ?_
    exact ⟨none, 0, by rw [HE.out]; rfl, by rw [HE.out]; exact bsAt_nil _, Below.refl _ _⟩
  obtain ⟨g, off, rfl, hcell⟩ : ∃ g off, p = some ⟨g, off, none⟩ ∧ ∀ V, Below w.heap.size w V → ∀ j, j < 128 → V.cell? ⟨g, off + j, none⟩ = some (.int .u8 ((at8 t j : Nat) : Int)) := by
    rcases h.place with ⟨-, h2⟩ | ⟨h2, -⟩ | ⟨g', off, rfl, hg, h3⟩
    · have := h.le; omega
    · rw [h2] at hlen; simp at hlen
    · refine ⟨g', off, rfl, fun V hV j hj => ?_⟩
      rw [hV.cell (p := ⟨g', off + j, none⟩) hg, h3 j (by omega)]
      simp [at8, List.getD, show j < t.length by omega]
  have HCell := Lib.hid hcell
  have HC0 := Lib.hid (fun V (hV : Below w.heap.size w V) => (show V.cell? ⟨g, off, none⟩ = some (.int .u8 ((at8 t 0 : Nat) : Int)) from hcell V hV 0 (by decide)))
  have HBs := Lib.hid h
  rw [hlen] at HBs
  rw [hlen]
  clear hcell h
  by_cases f0 : at8 t 0 = kd.toNat
  case neg =>
    have HE := Lib.hid (show frR kd t = ⟨0, 0, [], 3⟩ from frR_form hlen (fun h => f0 h.1))
    have d0 : ¬ ((at8 t 0 : Nat) : Int) = ((kd.toNat : Nat) : Int) := by omega
    have c0 := HC0.out w (Below.refl _ _)
    clear f0
    generalize at8 t 0 = y0 at *
    go_enter Try.func50, Try.ntmps50
    go_wp2_with fail
    refine bodyPost_ret (results_tmp4 rfl _ _ _) rfl ?_
    exact ⟨none, 0, by rw [HE.out]; rfl, by rw [HE.out]; exact bsAt_nil _, Below.refl _ _⟩
  by_cases f124 : at8 t 124 = 0
  case neg =>
    have HE := Lib.hid (show frR kd t = ⟨0, 0, [], 3⟩ from frR_form hlen (fun h => f124 h.2.1))
    have d0 : ((at8 t 0 : Nat) : Int) = ((kd.toNat : Nat) : Int) := by omega
    have d124 : ¬ ((at8 t 124 : Nat) : Int) = 0 := by omega
    have c0 := HC0.out w (Below.refl _ _)
    have c124 := HCell.out w (Below.refl _ _) 124 (by decide)
    clear f0
    clear f124
    generalize at8 t 0 = y0 at *
    generalize at8 t 124 = y124 at *
    go_enter Try.func50, Try.ntmps50
    go_wp2_with fail
    refine bodyPost_ret (results_tmp4 rfl _ _ _) rfl ?_
    exact ⟨none, 0, by rw [HE.out]; rfl, by rw [HE.out]; exact bsAt_nil _, Below.refl _ _⟩
  by_cases f125 : at8 t 125 = 0
  case neg =>
    have HE := Lib.hid (show frR kd t = ⟨0, 0, [], 3⟩ from frR_form hlen (fun h => f125 h.2.2.1))
    have d0 : ((at8 t 0 : Nat) : Int) = ((kd.toNat : Nat) : Int) := by omega
    have d124 : ((at8 t 124 : Nat) : Int) = 0 := by omega
    have d125 : ¬ ((at8 t 125 : Nat) : Int) = 0 := by omega
    have c0 := HC0.out w (Below.refl _ _)
    have c124 := HCell.out w (Below.refl _ _) 124 (by decide)
    have c125 := HCell.out w (Below.refl _ _) 125 (by decide)
    clear f0
    clear f124
    clear f125
    generalize at8 t 0 = y0 at *
    generalize at8 t 124 = y124 at *
    generalize at8 t 125 = y125 at *
    go_enter Try.func50, Try.ntmps50
    go_wp2_with fail
    refine bodyPost_ret (results_tmp4 rfl _ _ _) rfl ?_
    exact ⟨none, 0, by rw [HE.out]; rfl, by rw [HE.out]; exact bsAt_nil _, Below.refl _ _⟩
  by_cases f126 : at8 t 126 = 0
  case neg =>
    have HE := Lib.hid (show frR kd t = ⟨0, 0, [], 3⟩ from frR_form hlen (fun h => f126 h.2.2.2.1))
    have d0 : ((at8 t 0 : Nat) : Int) = ((kd.toNat : Nat) : Int) := by omega
    have d124 : ((at8 t 124 : Nat) : Int) = 0 := by omega
    have d125 : ((at8 t 125 : Nat) : Int) = 0 := by omega
    have d126 : ¬ ((at8 t 126 : Nat) : Int) = 0 := by omega
    have c0 := HC0.out w (Below.refl _ _)
    have c124 := HCell.out w (Below.refl _ _) 124 (by decide)
    have c125 := HCell.out w (Below.refl _ _) 125 (by decide)
    have c126 := HCell.out w (Below.refl _ _) 126 (by decide)
    clear f0
    clear f124
    clear f125
    clear f126
    generalize at8 t 0 = y0 at *
    generalize at8 t 124 = y124 at *
    generalize at8 t 125 = y125 at *
    generalize at8 t 126 = y126 at *
    go_enter Try.func50, Try.ntmps50
    go_wp2_with fail
    refine bodyPost_ret (results_tmp4 rfl _ _ _) rfl ?_
    exact ⟨none, 0, by rw [HE.out]; rfl, by rw [HE.out]; exact bsAt_nil _, Below.refl _ _⟩
  by_cases f127 : at8 t 127 = 69
  case neg =>
    have HE := Lib.hid (show frR kd t = ⟨0, 0, [], 3⟩ from frR_form hlen (fun h => f127 h.2.2.2.2))
    have d0 : ((at8 t 0 : Nat) : Int) = ((kd.toNat : Nat) : Int) := by omega
    have d124 : ((at8 t 124 : Nat) : Int) = 0 := by omega
    have d125 : ((at8 t 125 : Nat) : Int) = 0 := by omega
    have d126 : ((at8 t 126 : Nat) : Int) = 0 := by omega
    have d127 : ¬ ((at8 t 127 : Nat) : Int) = 69 := by omega
    have c0 := HC0.out w (Below.refl _ _)
    have c124 := HCell.out w (Below.refl _ _) 124 (by decide)
    have c125 := HCell.out w (Below.refl _ _) 125 (by decide)
    have c126 := HCell.out w (Below.refl _ _) 126 (by decide)
    have c127 := HCell.out w (Below.refl _ _) 127 (by decide)
    clear f0
    clear f124
    clear f125
    clear f126
    clear f127
    generalize at8 t 0 = y0 at *
    generalize at8 t 124 = y124 at *
    generalize at8 t 125 = y125 at *
    generalize at8 t 126 = y126 at *
    generalize at8 t 127 = y127 at *
    go_enter Try.func50, Try.ntmps50
    go_wp2_with fail
    refine bodyPost_ret (results_tmp4 rfl _ _ _) rfl ?_
    exact ⟨none, 0, by rw [HE.out]; rfl, by rw [HE.out]; exact bsAt_nil _, Below.refl _ _⟩
  have HForm := Lib.hid (show at8 t 0 = kd.toNat ∧ at8 t 124 = 0 ∧ at8 t 125 = 0 ∧ at8 t 126 = 0 ∧ at8 t 127 = 69 from ⟨f0, f124, f125, f126, f127⟩)
  have d0 : ((at8 t 0 : Nat) : Int) = ((kd.toNat : Nat) : Int) := by omega
  have d124 : ((at8 t 124 : Nat) : Int) = 0 := by omega
  have d125 : ((at8 t 125 : Nat) : Int) = 0 := by omega
  have d126 : ((at8 t 126 : Nat) : Int) = 0 := by omega
  have d127 : ((at8 t 127 : Nat) : Int) = 69 := by omega
  have c0 := HC0.out w (Below.refl _ _)
  have c124 := HCell.out w (Below.refl _ _) 124 (by decide)
  have c125 := HCell.out w (Below.refl _ _) 125 (by decide)
  have c126 := HCell.out w (Below.refl _ _) 126 (by decide)
  have c127 := HCell.out w (Below.refl _ _) 127 (by decide)
  clear f0 f124 f125 f126 f127
  go_enter Try.func50, Try.ntmps50
  go_upto_region 5 with fail
  clear c0 c124 c125 c126 c127 d0 d124 d125 d126 d127
  have hcap : 128 ≤ cap := HBs.out.le
  have hB120 := Lib.hid (fun V (hV : Below w.heap.size w V) => bs_take (HBs.out.below hV (Nat.le_refl _)) (n := 120) (by omega))
  have hB124 := Lib.hid (fun V (hV : Below w.heap.size w V) => bs_take (HBs.out.below hV (Nat.le_refl _)) (n := 124) (by omega))
  have hl120 : (t.take 120).length = 120 := by rw [List.length_take]; omega
  have hls : (sealL (t.take 120)).length = 124 := by simp [sealL, le4, hl120]
  have HLs := Lib.hid hls
  have HL1 := Lib.hid hl120
  have u120 := fun V => run_upto V (some ⟨g, off, none⟩) 128 cap 120 (by omega)
  have u124 := fun V => run_upto V (some ⟨g, off, none⟩) 128 cap 124 (by omega)
  have HU120 := Lib.hid (show ∀ V : World, (Instr.slice 31 (.slice (some ⟨g, off, none⟩) 128 cap) none (some (.int .i64 120)) none).run Try.prog V = .ok (.slice (some ⟨g, off, none⟩) 120 cap) V from u120)
  have HU124 := Lib.hid (show ∀ V : World, (Instr.slice 31 (.slice (some ⟨g, off, none⟩) 128 cap) none (some (.int .i64 124)) none).run Try.prog V = .ok (.slice (some ⟨g, off, none⟩) 124 cap) V from u124)
  have hc120 : (120 : Int) ≤ (cap : Int) := by omega
  have hc124 : (124 : Int) ≤ (cap : Int) := by omega
  clear hls hl120 u120 u124
  by_cases hs : sealL (t.take 120) = t.take 124
  · have HSeq := Lib.hid hs
    clear hs
    refine wp_region_L (C5 w (sealL (t.take 120))) 1 [.val (.slice (some ⟨g, off, none⟩) 128 cap), .val (.slice (some ⟨g, off, none⟩) 120 cap), .turn 0, .val (.string ⟨(sealL (t.take 120)).toArray⟩), .val (.slice (some ⟨g, off, none⟩) 128 cap), .val (.slice (some ⟨g, off, none⟩) 124 cap), .val (.string ⟨(t.take 124).toArray⟩), .val (.bool false)]
      (fun x => { tmps := #[.int .u8 (kd.toNat : Int), .slice (some ⟨g, off, none⟩) 128 cap, undef, undef, .int .i64 0, .int .i64 0, .slice none 0 0, .int .i64 0, undef, undef, undef, undef, undef, undef, undef, .slice (some ⟨g, off, none⟩) 128 cap, .int .i64 128, .bool false, .slice (some ⟨g, off, none⟩) 128 cap, .pointer (some ⟨g, off, none⟩), .int .u8 (kd.toNat : Int), .int .u8 (kd.toNat : Int), .bool false, .bool false, .slice (some ⟨g, off, none⟩) 128 cap, .pointer (some ⟨g, off + 124, none⟩), .int .u8 0, .bool false, .bool false, .bool false, .slice (some ⟨g, off, none⟩) 128 cap, .pointer (some ⟨g, off + 125, none⟩), .int .u8 0, .bool false, .bool false, .bool false, .slice (some ⟨g, off, none⟩) 128 cap, .pointer (some ⟨g, off + 126, none⟩), .int .u8 0, .bool false, .bool false, .bool false, .slice (some ⟨g, off, none⟩) 128 cap, .pointer (some ⟨g, off + 127, none⟩), .int .u8 69, .bool false, .bool false, x 0, x 1, x 2, x 3, x 4, x 5, x 6, x 7, undef, undef, undef, undef, undef, undef, undef, undef, undef, undef, undef, undef, undef, undef, undef, undef, undef, undef, undef, undef, undef, undef, undef, undef, undef, undef, undef, undef, undef, undef, undef, undef, undef, undef, undef, undef, undef, undef, undef, undef, undef, undef, undef, undef, undef, undef, undef, undef, undef, undef, undef, undef, undef, undef], defers := [] }) (fun i => ([undef, undef, undef, undef, undef, undef, undef, undef] : List Value).getD i undef) (by kernel_rfl) rfl rfl (by kernel_rfl) (by kernel_rfl) (by kernel_rfl) (by kernel_rfl) ((Below.refl _ w).drew) ?_ ?_
    · refine ⟨ObL.of_val rfl (fun x v => rfl) (fun x V vs hC hD => ?_), ?_⟩
      · clear hD
        refine want_yes rfl ?_
        exact leads_value (v := .slice (some ⟨g, off, none⟩) 128 cap) (by go_simp) ⟨rfl, hC⟩
      refine ⟨ObL.of_val rfl (fun x v => rfl) (fun x V vs hC hD => ?_), ?_⟩
      · have e0 : x 0 = .slice (some ⟨g, off, none⟩) 128 cap := (hD.1 rfl).1
        clear hD
        refine want_yes rfl ?_
        have q := HU120.out V
        exact leads_value (v := .slice (some ⟨g, off, none⟩) 120 cap) (by go_simp) ⟨rfl, hC⟩
      refine ⟨ObL.of_turn rfl (fun x v => rfl) (fun x V vs hl hC hD => ?_), ?_⟩
      · obtain rfl := len_zero hl
        have e1 : x 1 = .slice (some ⟨g, off, none⟩) 120 cap := (hD.1 rfl).1
        clear hD
        refine want_yes rfl ?_
        have hC : Below w.heap.size w V := hC
        refine leads_enter2 (by go_simp) ((rcSeal_any _ _ _ _ V (hB120.out V hC) (by rw [HL1.out]; decide)).mono fun e w'' hO => ?_)
        obtain ⟨p3, c3, he, hr, hB⟩ := hO
        obtain ⟨q, d', e1, hbs⟩ := BsAt.ofRow hr
        rw [Value.slice.injEq] at e1
        obtain ⟨rfl, -, rfl⟩ := e1
        rw [HLs.out] at he hbs
        exact ⟨_, he, hC.trans (hB.mono hC.size), p3, c3, rfl, hbs⟩
      refine ⟨ObL.of_val rfl (fun x v => rfl) (fun x V vs hC hD => ?_), ?_⟩
      · have e2 : x 2 = vs.getD 0 undef := (hD.1 rfl).1
        have n2 : 0 < vs.length := (hD.1 rfl).2
        clear hD
        refine want_yes rfl ?_
        obtain ⟨p3, c3, hv, hb3⟩ := C5_val n2 hC
        rw [hv] at e2
        have q := run_string_bs (P := Try.prog) V 31 5 9 Try.underlying31 Try.underlying5 Try.underlying9 hb3
        clear n2
        generalize vs.getD 0 undef = y0 at *
        exact leads_value (v := .string ⟨(sealL (t.take 120)).toArray⟩) (by go_simp) ⟨rfl, hC⟩
      refine ⟨ObL.of_val rfl (fun x v => rfl) (fun x V vs hC hD => ?_), ?_⟩
      · clear hD
        refine want_yes rfl ?_
        exact leads_value (v := .slice (some ⟨g, off, none⟩) 128 cap) (by go_simp) ⟨rfl, hC⟩
      refine ⟨ObL.of_val rfl (fun x v => rfl) (fun x V vs hC hD => ?_), ?_⟩
      · have e4 : x 4 = .slice (some ⟨g, off, none⟩) 128 cap := (hD.1 rfl).1
        clear hD
        refine want_yes rfl ?_
        have q := HU124.out V
        exact leads_value (v := .slice (some ⟨g, off, none⟩) 124 cap) (by go_simp) ⟨rfl, hC⟩
      refine ⟨ObL.of_val rfl (fun x v => rfl) (fun x V vs hC hD => ?_), ?_⟩
      · have e5 : x 5 = .slice (some ⟨g, off, none⟩) 124 cap := (hD.1 rfl).1
        clear hD
        refine want_yes rfl ?_
        have q := run_string_bs (P := Try.prog) V 31 5 9 Try.underlying31 Try.underlying5 Try.underlying9 (hB124.out V (C5_com vs V hC))
        exact leads_value (v := .string ⟨(t.take 124).toArray⟩) (by go_simp) ⟨rfl, hC⟩
      refine ⟨ObL.of_val rfl (fun x v => rfl) (fun x V vs hC hD => ?_), ?_⟩
      · have e3 : x 3 = .string ⟨(sealL (t.take 120)).toArray⟩ := (hD.1 rfl).1
        have e6 : x 6 = .string ⟨(t.take 124).toArray⟩ := (hD.2.1 rfl).1
        clear hD
        refine want_yes rfl ?_
        rw [HSeq.out] at e3
        exact leads_value (v := .bool false) (by go_simp) ⟨rfl, hC⟩
      trivial
    · intro xa V vs hlv hC hx
      have HB5 := Lib.hid (C5_com vs V hC)
      have e7 : xa 7 = .bool false := hx 7 (by simp)
      clear hx hC
      rw [e7]
      clear e7
      go_upto_region 9 with fail
      generalize xa 0 = z0, xa 1 = z1, xa 2 = z2, xa 3 = z3, xa 4 = z4, xa 5 = z5, xa 6 = z6
      go_loop [8, 9] (fun gv i => ∃ k : Nat, 1 ≤ k ∧ k ≤ 5 ∧ i = .int .i64 k ∧ gv = .int .i64 (genP t k : Nat)) (fun _ i => 5 - (intOf i).toNat)
      case atStart => exact ⟨1, by decide, by decide, rfl, rfl⟩
      case round =>
        obtain ⟨k, hk1, hk5, rfl, rfl⟩ := hrel
        have hgl := genP_lt t k hk5
        by_cases hk : k < 5
        · have ck := HCell.out V HB5.out k (by omega)
          have hyk : at8 t k < 256 := by unfold at8; exact (t.getD k 0).toNat_lt
          have HG := Lib.hid (genP_succ t hk1)
          generalize genP t k = G at *
          generalize at8 t k = y at *
          go_wp2_with fail
          go_round
          case rel => exact ⟨k + 1, by omega, by omega, by go_num, by rw [HG.out]; go_num⟩
          case measure => simp [intOf]; omega
        · obtain rfl : k = 5 := by omega
          rw [genP_five] at hgl ⊢
          have HMore := Lib.hid (frR_more hlen HForm.out HSeq.out)
          have HA5 := Lib.hid (at8_lt t 5)
          have HA6 := Lib.hid (at8_lt t 6)
          go_upto_region 12 with fail
          refine wp_region_S (fun _ W => Below w.heap.size w W) 0 [.val (.slice (some ⟨g, off, none⟩) 128 cap), .val (.pointer (some ⟨g, off + 5, none⟩)), .val (.int .u8 (at8 t 5 : Int)), .val (.int .i64 (at8 t 5 : Int)), .val (.int .i64 (256 * (at8 t 5 : Int))), .val (.slice (some ⟨g, off, none⟩) 128 cap), .val (.pointer (some ⟨g, off + 6, none⟩)), .val (.int .u8 (at8 t 6 : Int)), .val (.int .i64 (at8 t 6 : Int)), .val (.int .i64 (256 * (at8 t 5 : Int) + (at8 t 6 : Int))), .val (.int .i64 (256 * (at8 t 5 : Int) + (at8 t 6 : Int)))]
            (fun x => { tmps := #[.int .u8 (kd.toNat : Int), .slice (some ⟨g, off, none⟩) 128 cap, undef, undef, .int .i64 0, .int .i64 0, .slice none 0 0, .int .i64 0, .int .i64 ↑(frGen t), .int .i64 (5 : Int), x 10, undef, undef, undef, undef, .slice (some ⟨g, off, none⟩) 128 cap, .int .i64 128, .bool false, .slice (some ⟨g, off, none⟩) 128 cap, .pointer (some ⟨g, off, none⟩), .int .u8 (kd.toNat : Int), .int .u8 (kd.toNat : Int), .bool false, .bool false, .slice (some ⟨g, off, none⟩) 128 cap, .pointer (some ⟨g, off + 124, none⟩), .int .u8 0, .bool false, .bool false, .bool false, .slice (some ⟨g, off, none⟩) 128 cap, .pointer (some ⟨g, off + 125, none⟩), .int .u8 0, .bool false, .bool false, .bool false, .slice (some ⟨g, off, none⟩) 128 cap, .pointer (some ⟨g, off + 126, none⟩), .int .u8 0, .bool false, .bool false, .bool false, .slice (some ⟨g, off, none⟩) 128 cap, .pointer (some ⟨g, off + 127, none⟩), .int .u8 69, .bool false, .bool false, z0, z1, z2, z3, z4, z5, z6, .bool false, .int .i64 (5 : Int), .bool false, u57, u58, u59, u60, u61, u62, u63, u64, u65, u66, x 0, x 1, x 2, x 3, x 4, x 5, x 6, x 7, x 8, x 9, undef, undef, undef, undef, undef, undef, undef, undef, undef, undef, undef, undef, undef, undef, undef, undef, undef, undef, undef, undef, undef, undef, undef, undef, undef, undef, undef, undef, undef, undef, undef, undef], defers := [] }) (fun i => ([undef, undef, undef, undef, undef, undef, undef, undef, undef, undef, undef] : List Value).getD i undef) (by kernel_rfl) rfl rfl (by kernel_rfl) (by kernel_rfl) (by kernel_rfl) (by kernel_rfl) (HB5.out.trans (Below.refl _ V).drew) ?_ ?_
          · refine ⟨ObS.of_val rfl (fun x v => rfl) (fun x V kst hC hD => ?_), ?_⟩
            · clear hD
              refine want_yes rfl ?_
              exact leads_value (v := .slice (some ⟨g, off, none⟩) 128 cap) (by go_simp) ⟨rfl, hC⟩
            refine ⟨ObS.of_val rfl (fun x v => rfl) (fun x V kst hC hD => ?_), ?_⟩
            · have e0 : x 0 = .slice (some ⟨g, off, none⟩) 128 cap := hD.1 rfl
              clear hD
              refine want_yes rfl ?_
              exact leads_value (v := .pointer (some ⟨g, off + 5, none⟩)) (by go_simp) ⟨rfl, hC⟩
            refine ⟨ObS.of_val rfl (fun x v => rfl) (fun x V kst hC hD => ?_), ?_⟩
            · have e1 : x 1 = .pointer (some ⟨g, off + 5, none⟩) := hD.1 rfl
              clear hD
              refine want_yes rfl ?_
              have k0 := HCell.out V hC 5 (by decide)
              exact leads_value (v := .int .u8 (at8 t 5 : Int)) (by go_simp) ⟨rfl, hC⟩
            refine ⟨ObS.of_val rfl (fun x v => rfl) (fun x V kst hC hD => ?_), ?_⟩
            · have e2 : x 2 = .int .u8 (at8 t 5 : Int) := hD.1 rfl
              clear hD
              refine want_yes rfl ?_
              have q := IntWalk.i64_in (at8 t 5 : Int) (by have := HA5.out; omega)
              exact leads_value (v := .int .i64 (at8 t 5 : Int)) (by go_simp) ⟨rfl, hC⟩
            refine ⟨ObS.of_val rfl (fun x v => rfl) (fun x V kst hC hD => ?_), ?_⟩
            · have e3 : x 3 = .int .i64 (at8 t 5 : Int) := hD.1 rfl
              clear hD
              refine want_yes rfl ?_
              have q := IntWalk.i64_in (256 * (at8 t 5 : Int)) (by have := HA5.out; omega)
              exact leads_value (v := .int .i64 (256 * (at8 t 5 : Int))) (by go_simp) ⟨rfl, hC⟩
            refine ⟨ObS.of_val rfl (fun x v => rfl) (fun x V kst hC hD => ?_), ?_⟩
            · clear hD
              refine want_yes rfl ?_
              exact leads_value (v := .slice (some ⟨g, off, none⟩) 128 cap) (by go_simp) ⟨rfl, hC⟩
            refine ⟨ObS.of_val rfl (fun x v => rfl) (fun x V kst hC hD => ?_), ?_⟩
            · have e5 : x 5 = .slice (some ⟨g, off, none⟩) 128 cap := hD.1 rfl
              clear hD
              refine want_yes rfl ?_
              exact leads_value (v := .pointer (some ⟨g, off + 6, none⟩)) (by go_simp) ⟨rfl, hC⟩
            refine ⟨ObS.of_val rfl (fun x v => rfl) (fun x V kst hC hD => ?_), ?_⟩
            · have e6 : x 6 = .pointer (some ⟨g, off + 6, none⟩) := hD.1 rfl
              clear hD
              refine want_yes rfl ?_
              have k0 := HCell.out V hC 6 (by decide)
              exact leads_value (v := .int .u8 (at8 t 6 : Int)) (by go_simp) ⟨rfl, hC⟩
            refine ⟨ObS.of_val rfl (fun x v => rfl) (fun x V kst hC hD => ?_), ?_⟩
            · have e7 : x 7 = .int .u8 (at8 t 6 : Int) := hD.1 rfl
              clear hD
              refine want_yes rfl ?_
              have q := IntWalk.i64_in (at8 t 6 : Int) (by have := HA6.out; omega)
              exact leads_value (v := .int .i64 (at8 t 6 : Int)) (by go_simp) ⟨rfl, hC⟩
            refine ⟨ObS.of_val rfl (fun x v => rfl) (fun x V kst hC hD => ?_), ?_⟩
            · have e4 : x 4 = .int .i64 (256 * (at8 t 5 : Int)) := hD.1 rfl
              have e8 : x 8 = .int .i64 (at8 t 6 : Int) := hD.2.1 rfl
              clear hD
              refine want_yes rfl ?_
              have q := IntWalk.i64_in (256 * (at8 t 5 : Int) + (at8 t 6 : Int)) (by have := HA5.out; have := HA6.out; omega)
              exact leads_value (v := .int .i64 (256 * (at8 t 5 : Int) + (at8 t 6 : Int))) (by go_simp) ⟨rfl, hC⟩
            refine ⟨ObS.of_val rfl (fun x v => rfl) (fun x V kst hC hD => ?_), ?_⟩
            · have e9 : x 9 = .int .i64 (256 * (at8 t 5 : Int) + (at8 t 6 : Int)) := hD.1 rfl
              have e0 : x 0 = .slice (some ⟨g, off, none⟩) 128 cap := hD.2.1 rfl
              have e1 : x 1 = .pointer (some ⟨g, off + 5, none⟩) := hD.2.2.1 rfl
              have e2 : x 2 = .int .u8 (at8 t 5 : Int) := hD.2.2.2.1 rfl
              have e3 : x 3 = .int .i64 (at8 t 5 : Int) := hD.2.2.2.2.1 rfl
              have e4 : x 4 = .int .i64 (256 * (at8 t 5 : Int)) := hD.2.2.2.2.2.1 rfl
              have e5 : x 5 = .slice (some ⟨g, off, none⟩) 128 cap := hD.2.2.2.2.2.2.1 rfl
              have e6 : x 6 = .pointer (some ⟨g, off + 6, none⟩) := hD.2.2.2.2.2.2.2.1 rfl
              have e7 : x 7 = .int .u8 (at8 t 6 : Int) := hD.2.2.2.2.2.2.2.2.1 rfl
              have e8 : x 8 = .int .i64 (at8 t 6 : Int) := hD.2.2.2.2.2.2.2.2.2.1 rfl
              clear hD
              refine want_yes rfl ?_
              exact leads_value (v := .int .i64 (256 * (at8 t 5 : Int) + (at8 t 6 : Int))) (by go_simp) ⟨rfl, hC⟩
            trivial
          · intro xa V6 hC6 hx
            have HB6 := Lib.hid hC6
            have e10 : xa 10 = .int .i64 (256 * (at8 t 5 : Int) + (at8 t 6 : Int)) := hx 10 (by simp)
            clear hC6 hx
            rw [e10, show 256 * (at8 t 5 : Int) + (at8 t 6 : Int) = ((frSeq t : Nat) : Int) by unfold frSeq; omega]
            clear e10
            generalize xa 0 = y0, xa 1 = y1, xa 2 = y2, xa 3 = y3, xa 4 = y4, xa 5 = y5, xa 6 = y6, xa 7 = y7, xa 8 = y8, xa 9 = y9
            have hfs : frSeq t < 65536 := by have := HA5.out; have := HA6.out; unfold frSeq; omega
            have HFS := Lib.hid hfs
            have c7 := HCell.out V6 HB6.out 7 (by decide)
            have h7 := at8_lt t 7
            have HH7 := Lib.hid h7
            by_cases h112 : 112 < at8 t 7
            · have HE := Lib.hid (HMore.out.1 (Or.inl h112))
              generalize at8 t 7 = n7 at *
              go_wp2_with fail
              refine bodyPost_ret (results_tmp4 rfl _ _ _) rfl ?_
              exact ⟨none, 0, by rw [HE.out]; rfl, by rw [HE.out]; exact bsAt_nil _, HB6.out⟩
            · have HPl := Lib.hid (show (frPay t).length = at8 t 7 by unfold frPay; rw [List.length_take, List.length_drop]; omega)
              have HM1 := Lib.hid (fun h => HMore.out.1 (Or.inr h))
              have HM2 := Lib.hid (HMore.out.2 h112)
              have HD := Lib.hid (fun V (hV : Below w.heap.size w V) => (show BsAt V (if cap = 8 then some ⟨g, off, none⟩ else (some (⟨g, off, none⟩ : Addr)).map (·.add 8)) (at8 t 7) (cap - 8) (frPay t) from
                bs_take (bs_drop (HBs.out.below hV (Nat.le_refl _)) (n := 8) (by omega)) (n := at8 t 7) (by rw [List.length_drop]; omega)))
              have u1 := fun V => run_rng (w := V) (p := some ⟨g, off, none⟩) (len := 128) (cap := cap) (x := 8) (y := 8 + (at8 t 7 : Int)) (lo := 8) (hi := 8 + at8 t 7) rfl (by omega) (by omega) (by omega)
              rw [show 8 + at8 t 7 - 8 = at8 t 7 by omega] at u1
              generalize (if cap = 8 then some (⟨g, off, none⟩ : Addr) else (some (⟨g, off, none⟩ : Addr)).map (·.add 8)) = qv at *
              generalize cap - 8 = qc at *
              have HB7 := Lib.hid (HB6.out.alloc HB6.out.size (.cells #[] 5))
              have HD7 := Lib.hid (HD.out _ HB7.out)
              have hown0 : (V6.alloc (.cells #[] 5)).ownsRow w.heap.size 5 1 (.slice (some ⟨V6.heap.size, 0, none⟩) 0 0) ([] : List UInt8).length (bvs []) := World.ownsRow_lit V6 #[] 0 HB6.out.size (by decide) rfl
              have hq : ([] : List UInt8).length + (frPay t).length ≤ 140737488355328 := by rw [HPl.out]; simp only [List.length_nil]; omega
              have hhi : 8 + (at8 t 7 : Int) ≤ (cap : Int) := by omega
              clear HMore HD
              generalize at8 t 7 = n7 at *
              have tok1 : True := trivial
              go_wp2_with (at_builtin; have _t := tok1; refine wpList_append_bytes rfl _ _ 31 rfl w.heap.size 5 Try.underlying31 infoU8 rfl hown0 rfl HD7.out hq HB7.out.size ?_; intro p3 n3 c3 w3 hrow3 hg3 hn3; have HR3 := Lib.hid hrow3; have HB3 := Lib.hid (HB7.out.grown hg3 HB7.out.size (fun k hk => (hown0.lt k hk).1)); clear hrow3 hg3 hn3 tok1)
              have hR3 := HR3.out
              rw [List.nil_append] at hR3
              obtain ⟨q3, d3, e1, hbs⟩ := BsAt.ofRow hR3
              rw [Value.slice.injEq] at e1
              obtain ⟨rfl, rfl, rfl⟩ := e1
              have HP3 := Lib.hid hbs
              have HWr := Lib.hid (rfWrite_any kd (frGen t) (frSeq t) p3 (frPay t).length c3 (frPay t) w3 hbs)
              clear hown0 hR3 hbs HR3 u1 hq
              with_reducible refine HWr.out.mono ?_
              rintro e w4 ⟨q4, c4, rfl, hrow4, hB4⟩
              have HB4 := Lib.hid (HB3.out.trans (hB4.mono HB3.out.size))
              have HP4 := Lib.hid (HP3.out.below hB4 (Nat.le_refl _))
              have hBt := HBs.out.below HB4.out (Nat.le_refl _)
              by_cases hwe : frWE (frGen t) (frSeq t) (frPay t) = 0
              · obtain ⟨q5, d5, e1, hbs4⟩ := BsAt.ofRow hrow4
                rw [Value.slice.injEq] at e1
                obtain ⟨rfl, -, rfl⟩ := e1
                have s1 := run_string_bs (P := Try.prog) w4 31 5 9 Try.underlying31 Try.underlying5 Try.underlying9 hbs4
                have s2 := run_string_bs (P := Try.prog) w4 31 5 9 Try.underlying31 Try.underlying5 Try.underlying9 hBt
                rw [hwe]
                clear hrow4 hB4 hBt hbs4 hwe
                generalize frWL kd (frGen t) (frSeq t) (frPay t) = L4 at *
                by_cases hs2 : L4 = t
                · have HE := Lib.hid (HM2.out hs2)
                  subst hs2
                  clear HM1 HM2
                  have hsn : (L4 == L4) = true := by simp
                  rw [hlen] at s1
                  go_wp2_with fail
                  refine bodyPost_ret (results_tmp4 rfl _ _ _) rfl ?_
                  exact ⟨p3, c3, by rw [HE.out]; rfl, by rw [HE.out]; exact HP4.out, HB4.out⟩
                · have HE := Lib.hid (HM1.out hs2)
                  have hsn : (L4 == t) = false := by simpa using hs2
                  clear HM1 HM2
                  go_wp2_with fail
                  refine bodyPost_ret (results_tmp4 rfl _ _ _) rfl ?_
                  exact ⟨none, 0, by rw [HE.out]; rfl, by rw [HE.out]; exact bsAt_nil _, HB4.out⟩
              · have HE := Lib.hid (HM1.out (by
                  unfold frWL
                  rw [if_neg hwe]
                  intro h
                  rw [← h] at hlen
                  cases hlen))
                clear HM1 HM2 hrow4 hB4 hBt
                generalize frWL kd (frGen t) (frSeq t) (frPay t) = L4 at *
                generalize frWE (frGen t) (frSeq t) (frPay t) = E4 at *
                go_wp2_with fail
                refine bodyPost_ret (results_tmp4 rfl _ _ _) rfl ?_
                exact ⟨none, 0, by rw [HE.out]; rfl, by rw [HE.out]; exact bsAt_nil _, HB4.out⟩
  · have HE := Lib.hid (frR_sum hlen HForm.out hs)
    have HNe := Lib.hid hs
    clear hs
    refine wp_region_L (C5 w (sealL (t.take 120))) 1 [.val (.slice (some ⟨g, off, none⟩) 128 cap), .val (.slice (some ⟨g, off, none⟩) 120 cap), .turn 0, .val (.string ⟨(sealL (t.take 120)).toArray⟩), .val (.slice (some ⟨g, off, none⟩) 128 cap), .val (.slice (some ⟨g, off, none⟩) 124 cap), .val (.string ⟨(t.take 124).toArray⟩), .val (.bool true)]
      (fun x => { tmps := #[.int .u8 (kd.toNat : Int), .slice (some ⟨g, off, none⟩) 128 cap, undef, undef, .int .i64 0, .int .i64 0, .slice none 0 0, .int .i64 0, undef, undef, undef, undef, undef, undef, undef, .slice (some ⟨g, off, none⟩) 128 cap, .int .i64 128, .bool false, .slice (some ⟨g, off, none⟩) 128 cap, .pointer (some ⟨g, off, none⟩), .int .u8 (kd.toNat : Int), .int .u8 (kd.toNat : Int), .bool false, .bool false, .slice (some ⟨g, off, none⟩) 128 cap, .pointer (some ⟨g, off + 124, none⟩), .int .u8 0, .bool false, .bool false, .bool false, .slice (some ⟨g, off, none⟩) 128 cap, .pointer (some ⟨g, off + 125, none⟩), .int .u8 0, .bool false, .bool false, .bool false, .slice (some ⟨g, off, none⟩) 128 cap, .pointer (some ⟨g, off + 126, none⟩), .int .u8 0, .bool false, .bool false, .bool false, .slice (some ⟨g, off, none⟩) 128 cap, .pointer (some ⟨g, off + 127, none⟩), .int .u8 69, .bool false, .bool false, x 0, x 1, x 2, x 3, x 4, x 5, x 6, x 7, undef, undef, undef, undef, undef, undef, undef, undef, undef, undef, undef, undef, undef, undef, undef, undef, undef, undef, undef, undef, undef, undef, undef, undef, undef, undef, undef, undef, undef, undef, undef, undef, undef, undef, undef, undef, undef, undef, undef, undef, undef, undef, undef, undef, undef, undef, undef, undef, undef, undef, undef, undef, undef, undef], defers := [] }) (fun i => ([undef, undef, undef, undef, undef, undef, undef, undef] : List Value).getD i undef) (by kernel_rfl) rfl rfl (by kernel_rfl) (by kernel_rfl) (by kernel_rfl) (by kernel_rfl) ((Below.refl _ w).drew) ?_ ?_
    · refine ⟨ObL.of_val rfl (fun x v => rfl) (fun x V vs hC hD => ?_), ?_⟩
      · clear hD
        refine want_yes rfl ?_
        exact leads_value (v := .slice (some ⟨g, off, none⟩) 128 cap) (by go_simp) ⟨rfl, hC⟩
      refine ⟨ObL.of_val rfl (fun x v => rfl) (fun x V vs hC hD => ?_), ?_⟩
      · have e0 : x 0 = .slice (some ⟨g, off, none⟩) 128 cap := (hD.1 rfl).1
        clear hD
        refine want_yes rfl ?_
        have q := HU120.out V
        exact leads_value (v := .slice (some ⟨g, off, none⟩) 120 cap) (by go_simp) ⟨rfl, hC⟩
      refine ⟨ObL.of_turn rfl (fun x v => rfl) (fun x V vs hl hC hD => ?_), ?_⟩
      · obtain rfl := len_zero hl
        have e1 : x 1 = .slice (some ⟨g, off, none⟩) 120 cap := (hD.1 rfl).1
        clear hD
        refine want_yes rfl ?_
        have hC : Below w.heap.size w V := hC
        refine leads_enter2 (by go_simp) ((rcSeal_any _ _ _ _ V (hB120.out V hC) (by rw [HL1.out]; decide)).mono fun e w'' hO => ?_)
        obtain ⟨p3, c3, he, hr, hB⟩ := hO
        obtain ⟨q, d', e1, hbs⟩ := BsAt.ofRow hr
        rw [Value.slice.injEq] at e1
        obtain ⟨rfl, -, rfl⟩ := e1
        rw [HLs.out] at he hbs
        exact ⟨_, he, hC.trans (hB.mono hC.size), p3, c3, rfl, hbs⟩
      refine ⟨ObL.of_val rfl (fun x v => rfl) (fun x V vs hC hD => ?_), ?_⟩
      · have e2 : x 2 = vs.getD 0 undef := (hD.1 rfl).1
        have n2 : 0 < vs.length := (hD.1 rfl).2
        clear hD
        refine want_yes rfl ?_
        obtain ⟨p3, c3, hv, hb3⟩ := C5_val n2 hC
        rw [hv] at e2
        have q := run_string_bs (P := Try.prog) V 31 5 9 Try.underlying31 Try.underlying5 Try.underlying9 hb3
        clear n2
        generalize vs.getD 0 undef = y0 at *
        exact leads_value (v := .string ⟨(sealL (t.take 120)).toArray⟩) (by go_simp) ⟨rfl, hC⟩
      refine ⟨ObL.of_val rfl (fun x v => rfl) (fun x V vs hC hD => ?_), ?_⟩
      · clear hD
        refine want_yes rfl ?_
        exact leads_value (v := .slice (some ⟨g, off, none⟩) 128 cap) (by go_simp) ⟨rfl, hC⟩
      refine ⟨ObL.of_val rfl (fun x v => rfl) (fun x V vs hC hD => ?_), ?_⟩
      · have e4 : x 4 = .slice (some ⟨g, off, none⟩) 128 cap := (hD.1 rfl).1
        clear hD
        refine want_yes rfl ?_
        have q := HU124.out V
        exact leads_value (v := .slice (some ⟨g, off, none⟩) 124 cap) (by go_simp) ⟨rfl, hC⟩
      refine ⟨ObL.of_val rfl (fun x v => rfl) (fun x V vs hC hD => ?_), ?_⟩
      · have e5 : x 5 = .slice (some ⟨g, off, none⟩) 124 cap := (hD.1 rfl).1
        clear hD
        refine want_yes rfl ?_
        have q := run_string_bs (P := Try.prog) V 31 5 9 Try.underlying31 Try.underlying5 Try.underlying9 (hB124.out V (C5_com vs V hC))
        exact leads_value (v := .string ⟨(t.take 124).toArray⟩) (by go_simp) ⟨rfl, hC⟩
      refine ⟨ObL.of_val rfl (fun x v => rfl) (fun x V vs hC hD => ?_), ?_⟩
      · have e3 : x 3 = .string ⟨(sealL (t.take 120)).toArray⟩ := (hD.1 rfl).1
        have e6 : x 6 = .string ⟨(t.take 124).toArray⟩ := (hD.2.1 rfl).1
        clear hD
        refine want_yes rfl ?_
        exact leads_value (v := .bool true) (by go_simp; exact HNe.out) ⟨rfl, hC⟩
      trivial
    · intro xa V vs hlv hC hx
      have HB5 := Lib.hid (C5_com vs V hC)
      have e7 : xa 7 = .bool true := hx 7 (by simp)
      clear hx hC
      rw [e7]
      clear e7
      go_wp2_with fail
      refine bodyPost_ret (results_tmp4 rfl _ _ _) rfl ?_
      exact ⟨none, 0, by rw [HE.out]; rfl, by rw [HE.out]; exact bsAt_nil _, HB5.out⟩

end Go.Proofs.Ytbmcajhknohhdaa

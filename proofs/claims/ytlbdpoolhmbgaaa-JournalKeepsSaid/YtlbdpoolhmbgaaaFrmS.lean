/-
  The document's frames: Read.
-/
import Derived.Test.YtlbdpoolhmbgaaaFrmR
import Derived.Test.YtlbdpoolhmbgaaaChain
import Derived.Test.YtlbdpoolhmbgaaaWirN
namespace Go.Proofs.Ytlbdpoolhmbgaaa
open Go.RowKit

theorem run_rng {w : World} {p : Option Addr} {len cap lo hi : Nat} {x y : Int} (hx : x = (lo : Int)) (hy : y = (hi : Int)) (h1 : lo ≤ hi) (h2 : hi ≤ cap) :
    (Instr.slice 34 (.slice p len cap) (some (.int .i64 x)) (some (.int .i64 y)) none).run Try.prog w = .ok (.slice (if cap = lo then p else p.map (·.add lo)) (hi - lo) (cap - lo)) w := by
  subst hx; subst hy
  rw [run_slice_lh w _ _ _ _ elemU8 .i64 .i64 _ _ (by omega) (by omega) (by omega), sizeU8]
  simp [Result.andThen, sliced]

theorem results_tmp4 {fn : Func} {t u v x : Tmp} (h : fn.results = #[.tmp t, .tmp u, .tmp v, .tmp x]) (tmps : Array Value) (P : Program) (w : World) :
    (results fn tmps).run P w = .ok (.tuple #[tmps.getD t undef, tmps.getD u undef, tmps.getD v undef, tmps.getD x undef]) w := by
  simp [results, h]
/-- The form of a block of 128 bytes, byte by byte. -/
theorem tail_iff {t : List UInt8} (h : t.length = 128) : t.drop 124 = frTail ↔ at8 t 124 = 0 ∧ at8 t 125 = 0 ∧ at8 t 126 = 0 ∧ at8 t 127 = 69 := by
  have hd : t.drop 124 = [t.getD 124 0, t.getD 125 0, t.getD 126 0, t.getD 127 0] := by
    apply List.ext_getElem?
    intro k
    rw [List.getElem?_drop]
    match k with
    | 0 => simp [List.getD, show 124 < t.length by omega]
    | 1 => simp [List.getD, show 125 < t.length by omega]
    | 2 => simp [List.getD, show 126 < t.length by omega]
    | 3 => simp [List.getD, show 127 < t.length by omega]
    | k + 4 => rw [List.getElem?_eq_none (by omega)]; simp
  rw [hd]
  unfold frTail at8
  simp only [List.cons.injEq, and_true]
  constructor
  · rintro ⟨h1, h2, h3, h4⟩
    rw [h1, h2, h3, h4]; decide
  · rintro ⟨h1, h2, h3, h4⟩
    exact ⟨UInt8.toNat_inj.1 h1, UInt8.toNat_inj.1 h2, UInt8.toNat_inj.1 h3, UInt8.toNat_inj.1 h4⟩
theorem frR_form {kd : UInt8} {t : List UInt8} (hl : t.length = 128) (h : ¬ (at8 t 0 = kd.toNat ∧ at8 t 124 = 0 ∧ at8 t 125 = 0 ∧ at8 t 126 = 0 ∧ at8 t 127 = 69)) : frR kd t = ⟨0, 0, [], 3⟩ := by
  have he : frRE kd t = 3 := by
    unfold frRE
    rw [if_neg (by omega), if_pos]
    by_cases h0 : t.getD 0 0 = kd
    · right
      rw [Ne, tail_iff hl]
      exact fun h1 => h ⟨by unfold at8; rw [h0], h1⟩
    · exact .inl h0
  unfold frR
  rw [if_neg (by omega), he]

theorem frR_sum {kd : UInt8} {t : List UInt8} (hl : t.length = 128) (h : at8 t 0 = kd.toNat ∧ at8 t 124 = 0 ∧ at8 t 125 = 0 ∧ at8 t 126 = 0 ∧ at8 t 127 = 69) (hs : sealL (t.take 120) ≠ t.take 124) : frR kd t = ⟨0, 0, [], 18⟩ := by
  have h0 : t.getD 0 0 = kd := UInt8.toNat_inj.1 h.1
  have he : frRE kd t = 18 := by
    unfold frRE
    rw [if_neg (by omega), if_neg (by rintro (h1 | h1); exact h1 h0; exact h1 ((tail_iff hl).2 h.2)), if_pos hs]
  unfold frR
  rw [if_neg (by omega), he]
theorem frR_more {kd : UInt8} {t : List UInt8} (hl : t.length = 128) (h : at8 t 0 = kd.toNat ∧ at8 t 124 = 0 ∧ at8 t 125 = 0 ∧ at8 t 126 = 0 ∧ at8 t 127 = 69) (hs : sealL (t.take 120) = t.take 124) :
    (112 < at8 t 7 ∨ frWL kd (frGen t) (frSeq t) (frPay t) ≠ t → frR kd t = ⟨0, 0, [], 3⟩) ∧ (¬ 112 < at8 t 7 → frWL kd (frGen t) (frSeq t) (frPay t) = t → frR kd t = ⟨frGen t, frSeq t, frPay t, 0⟩) := by
  have h0 : t.getD 0 0 = kd := UInt8.toNat_inj.1 h.1
  have hn2 : ¬ (t.getD 0 0 ≠ kd ∨ t.drop 124 ≠ frTail) := by rintro (h1 | h1); exact h1 h0; exact h1 ((tail_iff hl).2 h.2)
  refine ⟨fun h1 => ?_, fun h1 h2 => ?_⟩
  · have he : frRE kd t = 3 := by
      unfold frRE
      rw [if_neg (by omega), if_neg hn2, if_neg (by rw [hs]; simp), if_pos h1]
    unfold frR
    rw [if_neg (by omega), he]
  · have he : frRE kd t = 0 := by
      unfold frRE
      rw [if_neg (by omega), if_neg hn2, if_neg (by rw [hs]; simp), if_neg (by rintro (h3 | h3); exact h1 h3; exact h3 h2)]
    unfold frR
    rw [if_pos he]
def C5 (w : World) (L : List UInt8) : List Value → World → Prop
  | [], V => Below w.heap.size w V
  | [a0], V => Below w.heap.size w V ∧ ∃ p c, a0 = .slice p 124 c ∧ BsAt V p 124 c L
  | _, _ => False
theorem C5_com {w : World} {L : List UInt8} : ∀ (vs : List Value) (V : World), C5 w L vs V → Below w.heap.size w V
  | [], _, h => h
  | [_], _, h => h.1
  | _ :: _ :: _, _, h => h.elim
theorem C5_val {w : World} {L : List UInt8} {vs : List Value} {V : World} (hn : 0 < vs.length) (h : C5 w L vs V) : ∃ p c, vs.getD 0 undef = .slice p 124 c ∧ BsAt V p 124 c L := by
  match vs, hn, h with
  | [a0], _, h => exact h.2
  | _ :: _ :: _, _, h => exact h.elim
theorem str_ne {a b : List UInt8} (h : a ≠ b) : ((⟨a.toArray⟩ : ByteArray) == ⟨b.toArray⟩) = false := by
  show (a.toArray == b.toArray) = false
  simpa using h
theorem at8_lt (t : List UInt8) (k : Nat) : at8 t k < 256 := (t.getD k 0).toNat_lt
/-- The generation, as far as it is read. -/
def genP (t : List UInt8) : Nat → Nat
  | 0 => 0
  | k + 1 => if k = 0 then 0 else 256 * genP t k + at8 t k
theorem genP_lt (t : List UInt8) (k : Nat) (h : k ≤ 5) : genP t k < 4294967296 := by
  have h1 := at8_lt t 1
  have h2 := at8_lt t 2
  have h3 := at8_lt t 3
  have h4 := at8_lt t 4
  have e : k = 0 ∨ k = 1 ∨ k = 2 ∨ k = 3 ∨ k = 4 ∨ k = 5 := by omega
  rcases e with rfl | rfl | rfl | rfl | rfl | rfl <;> simp [genP] <;> omega
theorem genP_five (t : List UInt8) : genP t 5 = frGen t := by simp [genP, frGen]; omega
theorem genP_succ (t : List UInt8) {k : Nat} (h : 1 ≤ k) : genP t (k + 1) = 256 * genP t k + at8 t k := by rw [genP, if_neg (by omega)]

end Go.Proofs.Ytlbdpoolhmbgaaa

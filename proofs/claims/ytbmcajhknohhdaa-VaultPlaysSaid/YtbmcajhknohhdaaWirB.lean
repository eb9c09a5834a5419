/-
  The document's Writer.
-/
import Derived.Test.YtbmcajhknohhdaaWirV
import Derived.LoopTactic
namespace Go.Proofs.Ytbmcajhknohhdaa
open Go.RowKit

theorem WAt.failR {B : Nat} {w w' : World} {b : Nat} {t : TypeId} {v : Value} {s : List UInt8 × Int} {c : Int} (h : WAt 5 B w b t v s) (hp : Put w w' b #[v, .int .i64 (if s.2 = 0 then c else s.2)] t) : WNow B w b t v (failR s c) w' := by
  have hch : Chg (foot b v) w w' := hp.chg.mono fun i _ h => .inl h
  refine ⟨v, ⟨?_, ?_, h.apart⟩, hch, OwnNew.refl _ _⟩
  · have hb := hp.blk
    unfold _root_.Go.Proofs.Ytbmcajhknohhdaa.failR
    by_cases e : s.2 = 0
    · rw [if_pos e] at hb ⊢; exact hb
    · rw [if_neg e] at hb ⊢; exact hb
  · have hl : (_root_.Go.Proofs.Ytbmcajhknohhdaa.failR s c).1 = s.1 := by unfold _root_.Go.Proofs.Ytbmcajhknohhdaa.failR; split <;> rfl
    rw [hl]
    obtain ⟨h1, h2⟩ := h.row
    refine ⟨h1, ?_⟩
    rcases h2 with h2 | ⟨g, cap, cur, rfl, hg, hgg, rest⟩
    · exact .inl h2
    · refine .inr ⟨g, cap, cur, rfl, hg, ?_, rest⟩
      rw [hp.chg.block g (Array.getElem?_eq_some_iff.1 hgg).1 (fun e => h.apart (by rw [Value.ownBlock, e]))]; exact hgg

/-- The block of a Writer that has appended. -/
theorem WAt.appended {B : Nat} {w1 w2 : World} {b : Nat} {t : TypeId} {v : Value} {l m : List UInt8} {e : Int} {p1 : Option Addr} {n1 c1 : Nat} (h : WAt 5 B w1 b t v (l, e)) (hk : Blk w2 b #[v, .int .i64 e] t)
    (hr : w2.ownsRow B 5 1 (.slice p1 n1 c1) (l ++ m).length (bvs (l ++ m))) (hg : w1.grownBy w2 v.ownBlock) (hn : OwnNew w1 v (.slice p1 n1 c1)) :
    WTo 5 B w1 b t v (l ++ m, e) (.slice p1 n1 c1) (w2.setCell ⟨b, 0, none⟩ (.slice p1 n1 c1)) := by
  refine ⟨⟨hk.set 0 _, ?_, ?_⟩, ?_, hn⟩
  · exact hr.kept (w' := w2.setCell ⟨b, 0, none⟩ (.slice p1 n1 c1)) (row := some b) ⟨rfl, rfl, rfl, by simp [World.setCell], fun k hk hne => Below.heap_setCell _ _ _ _ (fun e => hne (by rw [e]))⟩ (by
      cases ho : (Value.slice p1 n1 c1).ownBlock with
      | none => exact .inl rfl
      | some k =>
        right
        intro he
        rcases hn k ho with h2 | h2
        · rw [he] at ho; cases he; exact h.apart h2
        · cases he; have := h.blk.lt; omega)
  · intro he
    rcases hn b he with h2 | h2
    · exact h.apart h2
    · have := h.blk.lt; omega
  · exact ((Chg.ofGrown hg).mono (fun i _ h => .inr h)).setCell (fun _ => .inl rfl) _

/-- What the document's Num gives. -/
def RNumIs (w : World) (ok : Bool) (x : List UInt8) (e : Ending) (w' : World) : Prop := ∃ p m c y, e = .returned (.tuple #[.slice p m c, .bool ok]) ∧ BsAt w' p m c y ∧ (ok = true → y = x) ∧ Below w.heap.size w w'
set_option maxHeartbeats 400000 in
theorem rnum_out (n size : Int) (w : World) (h : sizedB size = false ∨ n < 0) :
    Calls Try.prog 45 #[.int .i64 n, .int .i64 size] w (RNumIs w false []) := by
  by_cases h1 : size < 1
  · clear h
    go_enter Try.func45, Try.ntmps45
    go_wp2_with fail
    go_ret2
    exact ⟨none, 0, 0, [], rfl, bsAt_nil _, (fun h => by cases h), Below.refl _ _⟩
  · by_cases h2 : 4 < size
    · clear h
      go_enter Try.func45, Try.ntmps45
      go_wp2_with fail
      go_ret2
      exact ⟨none, 0, 0, [], rfl, bsAt_nil _, (fun h => by cases h), Below.refl _ _⟩
    · have h3 : n < 0 := by
        rcases h with h | h
        · simp only [sizedB, Bool.and_eq_false_iff, decide_eq_false_iff_not] at h; omega
        · exact h
      clear h
      go_enter Try.func45, Try.ntmps45
      go_wp2_with fail
      go_ret2
      exact ⟨none, 0, 0, [], rfl, bsAt_nil _, (fun h => by cases h), Below.refl _ _⟩

set_option maxRecDepth 100000 in
set_option maxHeartbeats 1600000 in
theorem rnum_in (n z : Nat) (w : World) (h1 : 1 ≤ z) (h4 : z ≤ 4) (hn : n < 9223372036854775808) :
    Calls Try.prog 45 #[.int .i64 n, .int .i64 z] w (RNumIs w (okN n z) (be n z)) := by
  have HO := Lib.hid (okN_div (n := n) h1 h4)
  go_enter Try.func45, Try.ntmps45
  go_wp2_with fail
  go_loopw [6, 7, 0] (fun v i m wr => ∃ k : Nat, k ≤ z ∧ i = .int .i64 k ∧ m = .int .i64 ((n / 256 ^ k : Nat) : Int) ∧ wr.ownsRow w.heap.size 5 1 v (be n k).length (bvs (be n k)) ∧ Below w.heap.size w wr) (fun _ i _ _ => z - (intOf i).toNat)
  case atStart => exact ⟨0, Nat.zero_le _, rfl, by simp, World.ownsRow_nil _ _ _ _, Below.refl _ _⟩
  case round =>
    obtain ⟨k, hk, rfl, rfl, hR, hB⟩ := hrel
    obtain ⟨p, cap, rfl, hb⟩ := BsAt.ofRow hR
    have hlen := be_length n k
    rw [hlen] at hb
    rw [hlen]
    have HB := Lib.hid hB
    have HS := Lib.hid hb
    have hle : n / 256 ^ k ≤ n := Nat.div_le_self _ _
    have HN := Lib.hid (show n / 256 ^ (k + 1) = n / 256 ^ k / 256 by rw [Nat.div_div_eq_div_mul, Nat.pow_succ])
    by_cases hlt : k < z
    · have HC := Lib.hid (be_cons n k)
      generalize n / 256 ^ k = m at *
      have hown : (wr.alloc (.cells #[.int .u8 ((m : Int) % 256)] 5)).ownsRow w.heap.size 5 1 (.slice (some ⟨wr.heap.size, 0, none⟩) 1 1) [UInt8.ofNat m].length (bvs [UInt8.ofNat m]) := by
        have h0 := World.ownsRow_lit (base := w.heap.size) (e := 5) (size := 1) wr #[.int .u8 ((m : Int) % 256)] 1 hB.size (by decide) rfl
        have e1 : bvs [UInt8.ofNat m] = [.int .u8 ((m : Int) % 256)] := by simp [bvs]
        rw [e1]; exact h0
      have hsrc : BsAt (wr.alloc (.cells #[.int .u8 ((m : Int) % 256)] 5)) p k cap (be n k) := hb.below (belowNew wr _) (Nat.le_refl _)
      have HSR := Lib.hid hsrc
      have HBZ := Lib.hid (show w.heap.size ≤ (wr.alloc (.cells #[.int .u8 ((m : Int) % 256)] 5)).heap.size by have := hB.size; simp; omega)
      have hq : (1 : Nat) + (be n k).length ≤ 140737488355328 := by rw [hlen]; omega
      clear hR hB hb hsrc hlen
      go_wp2_with (at_builtin; refine wpList_append_bytes rfl _ _ 31 rfl w.heap.size 5 Try.underlying31 infoU8 rfl hown rfl HSR.out hq HBZ.out ?_; intro p1 n1 c1' w1 hrow1 hg1 hn1; have HR1 := Lib.hid hrow1; have HG := Lib.hid hg1; clear hrow1 hg1 hn1 hown)
      go_roundw
      case rel => exact ⟨k + 1, by omega, by go_num, by rw [HN.out]; go_num, by rw [HC.out]; exact HR1.out, ((HB.out.alloc HB.out.size _).grown HG.out HBZ.out (fun q hq => by cases hq; exact HB.out.size))⟩
      case measure => simp [intOf]; omega
    · have hkz : k = z := by omega
      subst hkz
      have hbb : (((n / 256 ^ k : Nat) : Int) == 0) = okN n k := by rw [HO.out, Bool.eq_iff_iff]; simp only [beq_iff_eq]; omega
      generalize n / 256 ^ k = m at *
      generalize okN n k = ok at *
      clear hR hB hb hlen HN HO
      go_wp2_with fail
      go_ret2
      exact ⟨p, k, cap, be n k, rfl, HS.out, fun _ => rfl, HB.out⟩

end Go.Proofs.Ytbmcajhknohhdaa

/-
  The document's Writer.
-/
import Derived.Test.YtnajbkijejlgiaaWirV
import Derived.LoopTactic
namespace Go.Proofs.Ytnajbkijejlgiaa
open Go.RowKit

set_option maxHeartbeats 400000 in
theorem rfail_any (b : Nat) (t : TypeId) (v : Value) (e c : Int) (w : World) (h : Blk w b #[v, .int .i64 e] t) :
    Calls Try.prog 25 #[.pointer (some ⟨b, 0, none⟩), .int .i64 c] w fun en w' => en = .returned (.tuple #[]) ∧ Put w w' b #[v, .int .i64 (if e = 0 then c else e)] t := by
  have c1 : w.cell? ⟨b, 1, none⟩ = some (.int .i64 e) := h.cell 1
  have f1 := h.free 1
  by_cases h2 : e = 0
  · have HP := Lib.hid ((Put.refl h).set 1 (.int .i64 c))
    have b2 : (e == 0) = true := by simpa using h2
    rw [if_pos h2]
    clear h h2
    go_enter Try.func25, Try.ntmps25
    go_wp2_with fail
    go_end0
    exact ⟨rfl, HP.out⟩
  · have HP := Lib.hid (Put.refl h)
    have b2 : (e == 0) = false := by simpa using h2
    rw [if_neg h2]
    clear h h2
    go_enter Try.func25, Try.ntmps25
    go_wp2_with fail
    go_end0
    exact ⟨rfl, HP.out⟩
theorem WAt.failR {B : Nat} {w w' : World} {b : Nat} {t : TypeId} {v : Value} {s : List UInt8 × Int} {c : Int} (h : WAt 5 B w b t v s) (hp : Put w w' b #[v, .int .i64 (if s.2 = 0 then c else s.2)] t) : WNow B w b t v (failR s c) w' := by
  have hch : Chg (foot b v) w w' := hp.chg.mono fun i _ h => .inl h
  refine ⟨v, ⟨?_, ?_, h.apart⟩, hch, OwnNew.refl _ _⟩
  · have hb := hp.blk
    unfold _root_.Go.Proofs.Ytnajbkijejlgiaa.failR
    by_cases e : s.2 = 0
    · rw [if_pos e] at hb ⊢; exact hb
    · rw [if_neg e] at hb ⊢; exact hb
  · have hl : (_root_.Go.Proofs.Ytnajbkijejlgiaa.failR s c).1 = s.1 := by unfold _root_.Go.Proofs.Ytnajbkijejlgiaa.failR; split <;> rfl
    rw [hl]
    obtain ⟨h1, h2⟩ := h.row
    refine ⟨h1, ?_⟩
    rcases h2 with h2 | ⟨g, cap, cur, rfl, hg, hgg, rest⟩
    · exact .inl h2
    · refine .inr ⟨g, cap, cur, rfl, hg, ?_, rest⟩
      rw [hp.chg.block g (Array.getElem?_eq_some_iff.1 hgg).1 (fun e => h.apart (by rw [Value.ownBlock, e]))]; exact hgg

/-- The block of a Writer that has appended. -/
theorem WAt.appended {B : Nat} {w1 w2 : World} {b : Nat} {t : TypeId} {v : Value} {l m : List UInt8} {e : Int} {p1 : Option Addr} {n1 c1 : Nat} (h : WAt 5 B w1 b t v (l, e)) (hk : Blk w2 b #[v, .int .i64 e] t)
    (hr : w2.ownsRow B 5 1 (.slice p1 n1 c1) (l ++ m).length (bvs (l ++ m))) (hg : w1.grownBy w2 v.ownBlock) (hn : OwnNew w1 v (.slice p1 n1 c1)) :
    WTo 5 B w1 b t v (l ++ m, e) (.slice p1 n1 c1) (w2.setCell ⟨b, 0, none⟩ (.slice p1 n1 c1)) := by
  refine ⟨⟨hk.set 0 _, ?_, ?_⟩, ?_, hn⟩
  · exact hr.kept (w' := w2.setCell ⟨b, 0, none⟩ (.slice p1 n1 c1)) (row := some b) ⟨rfl, rfl, rfl, by simp [World.setCell], fun k hk hne => Below.heap_setCell _ _ _ _ (fun e => hne (by rw [e]))⟩ (by
      cases ho : (Value.slice p1 n1 c1).ownBlock with
      | none => exact .inl rfl
      | some k =>
        right
        intro he
        rcases hn k ho with h2 | h2
        · rw [he] at ho; cases he; exact h.apart h2
        · cases he; have := h.blk.lt; omega)
  · intro he
    rcases hn b he with h2 | h2
    · exact h.apart h2
    · have := h.blk.lt; omega
  · exact ((Chg.ofGrown hg).mono (fun i _ h => .inr h)).setCell (fun _ => .inl rfl) _

/-- What the document's Num gives. -/
def RNumIs (w : World) (ok : Bool) (x : List UInt8) (e : Ending) (w' : World) : Prop := ∃ p m c y, e = .returned (.tuple #[.slice p m c, .bool ok]) ∧ BsAt w' p m c y ∧ (ok = true → y = x) ∧ Below w.heap.size w w'
set_option maxHeartbeats 400000 in
theorem rnum_out (n size : Int) (w : World) (h : sizedB size = false ∨ n < 0) :
    Calls Try.prog 27 #[.int .i64 n, .int .i64 size] w (RNumIs w false []) := by
  by_cases h1 : size < 1
  · clear h
    go_enter Try.func27, Try.ntmps27
    go_wp2_with fail
    go_ret2
    exact ⟨none, 0, 0, [], rfl, bsAt_nil _, (fun h => by cases h), Below.refl _ _⟩
  · by_cases h2 : 4 < size
    · clear h
      go_enter Try.func27, Try.ntmps27
      go_wp2_with fail
      go_ret2
      exact ⟨none, 0, 0, [], rfl, bsAt_nil _, (fun h => by cases h), Below.refl _ _⟩
    · have h3 : n < 0 := by
        rcases h with h | h
        · simp only [sizedB, Bool.and_eq_false_iff, decide_eq_false_iff_not] at h; omega
        · exact h
      clear h
      go_enter Try.func27, Try.ntmps27
      go_wp2_with fail
      go_ret2
      exact ⟨none, 0, 0, [], rfl, bsAt_nil _, (fun h => by cases h), Below.refl _ _⟩

set_option maxRecDepth 100000 in
set_option maxHeartbeats 1600000 in
theorem rnum_in (n z : Nat) (w : World) (h1 : 1 ≤ z) (h4 : z ≤ 4) (hn : n < 9223372036854775808) :
    Calls Try.prog 27 #[.int .i64 n, .int .i64 z] w (RNumIs w (okN n z) (be n z)) := by
  have HO := Lib.hid (okN_div (n := n) h1 h4)
  go_enter Try.func27, Try.ntmps27
  go_wp2_with fail
  go_loopw [6, 7, 0] (fun v i m wr => ∃ k : Nat, k ≤ z ∧ i = .int .i64 k ∧ m = .int .i64 ((n / 256 ^ k : Nat) : Int) ∧ wr.ownsRow w.heap.size 5 1 v (be n k).length (bvs (be n k)) ∧ Below w.heap.size w wr) (fun _ i _ _ => z - (intOf i).toNat)
  case atStart => exact ⟨0, Nat.zero_le _, rfl, by simp, World.ownsRow_nil _ _ _ _, Below.refl _ _⟩
  case round =>
    obtain ⟨k, hk, rfl, rfl, hR, hB⟩ := hrel
    obtain ⟨p, cap, rfl, hb⟩ := BsAt.ofRow hR
    have hlen := be_length n k
    rw [hlen] at hb
    rw [hlen]
    have HB := Lib.hid hB
    have HS := Lib.hid hb
    have hle : n / 256 ^ k ≤ n := Nat.div_le_self _ _
    have HN := Lib.hid (show n / 256 ^ (k + 1) = n / 256 ^ k / 256 by rw [Nat.div_div_eq_div_mul, Nat.pow_succ])
    by_cases hlt : k < z
    · have HC := Lib.hid (be_cons n k)
      generalize n / 256 ^ k = m at *
      have hown : (wr.alloc (.cells #[.int .u8 ((m : Int) % 256)] 5)).ownsRow w.heap.size 5 1 (.slice (some ⟨wr.heap.size, 0, none⟩) 1 1) [UInt8.ofNat m].length (bvs [UInt8.ofNat m]) := by
        have h0 := World.ownsRow_lit (base := w.heap.size) (e := 5) (size := 1) wr #[.int .u8 ((m : Int) % 256)] 1 hB.size (by decide) rfl
        have e1 : bvs [UInt8.ofNat m] = [.int .u8 ((m : Int) % 256)] := by simp [bvs]
        rw [e1]; exact h0
      have hsrc : BsAt (wr.alloc (.cells #[.int .u8 ((m : Int) % 256)] 5)) p k cap (be n k) := hb.below (belowNew wr _) (Nat.le_refl _)
      have HSR := Lib.hid hsrc
      have HBZ := Lib.hid (show w.heap.size ≤ (wr.alloc (.cells #[.int .u8 ((m : Int) % 256)] 5)).heap.size by have := hB.size; simp; omega)
      have hq : (1 : Nat) + (be n k).length ≤ 140737488355328 := by rw [hlen]; omega
      clear hR hB hb hsrc hlen
      go_wp2_with (at_builtin; refine wpList_append_bytes rfl _ _ 25 rfl w.heap.size 5 Try.underlying25 infoU8 rfl hown rfl HSR.out hq HBZ.out ?_; intro p1 n1 c1' w1 hrow1 hg1 hn1; have HR1 := Lib.hid hrow1; have HG := Lib.hid hg1; clear hrow1 hg1 hn1 hown)
      go_roundw
      case rel => exact ⟨k + 1, by omega, by go_num, by rw [HN.out]; go_num, by rw [HC.out]; exact HR1.out, ((HB.out.alloc HB.out.size _).grown HG.out HBZ.out (fun q hq => by cases hq; exact HB.out.size))⟩
      case measure => simp [intOf]; omega
    · have hkz : k = z := by omega
      subst hkz
      have hbb : (((n / 256 ^ k : Nat) : Int) == 0) = okN n k := by rw [HO.out, Bool.eq_iff_iff]; simp only [beq_iff_eq]; omega
      generalize n / 256 ^ k = m at *
      generalize okN n k = ok at *
      clear hR hB hb hlen HN HO
      go_wp2_with fail
      go_ret2
      exact ⟨p, k, cap, be n k, rfl, HS.out, fun _ => rfl, HB.out⟩

set_option maxHeartbeats 800000 in
theorem rwnum_is (B b : Nat) (t : TypeId) (v : Value) (s : List UInt8 × Int) (n size : Int) (ok : Bool) (x : List UInt8) (w : World) (h : WAt 5 B w b t v s) (hB : B ≤ w.heap.size) (hsm : s.1.length + x.length ≤ 1000000)
    (hN : Calls Try.prog 27 #[.int .i64 n, .int .i64 size] w (RNumIs w ok x)) :
    Calls Try.prog 12 #[.pointer (some ⟨b, 0, none⟩), .int .i64 n, .int .i64 size] w fun en w' => en = .returned (.tuple #[]) ∧ WNow B w b t v (if ok then (s.1 ++ x, s.2) else failR s 8) w' := by
  have HH := Lib.hid h
  have HZ := Lib.hid hB
  have HN := Lib.hid hN
  have HM := Lib.hid hsm
  clear h hB hN hsm
  go_enter Try.func12, Try.ntmps12
  go_wp2_with fail
  refine HN.out.mono ?_
  rintro e w1 ⟨p, m, c, y, rfl, hb, hy, hB1⟩
  have HH1 := Lib.hid (HH.out.below hB1 (Nat.le_refl _))
  have HB1 := Lib.hid hB1
  have HZ1 := Lib.hid (Nat.le_trans HZ.out hB1.size)
  have HS := Lib.hid hb
  have HY := Lib.hid hy
  clear hb hy hB1 HN
  cases ok with
  | false =>
    go_wp2_with fail
    refine (rfail_any b t v s.2 8 _ HH1.out.blk).mono ?_
    rintro e w' ⟨rfl, hP⟩
    go_wp2_with fail
    refine bodyPost_ret (results_none rfl _ _ _) rfl ?_
    exact ⟨rfl, (HH1.out.failR hP).after HB1.out⟩
  | true =>
    obtain rfl := HY.out rfl
    have c0 : w1.cell? ⟨b, 0, none⟩ = some v := HH1.out.blk.cell 0
    have hown := HH1.out.row
    have hq : s.1.length + y.length ≤ 140737488355328 := by have := HM.out; omega
    clear HY
    go_wp2_with (at_builtin; refine wpList_append_bytes rfl _ _ 25 rfl B 5 Try.underlying25 infoU8 rfl hown rfl HS.out hq HZ1.out ?_; intro p1 n1 c1' w2 hrow1 hg1 hn1; have hk1 : Blk w2 b #[v, .int .i64 s.2] t := (hg1.block b HH1.out.blk.lt (fun e => HH1.out.apart e.symm)).trans HH1.out.blk; have q0 : w2.cell? ⟨b, 0, none⟩ = some v := hk1.cell 0; have q1 := hk1.free 0; have HK := Lib.hid hk1; have HR := Lib.hid hrow1; have HG := Lib.hid hg1; have HN := Lib.hid hn1; clear hk1 hrow1 hg1 hn1 hown)
    go_end0
    exact ⟨rfl, _, (WAt.appended HH1.out HK.out HR.out HG.out HN.out).after HB1.out⟩

theorem rwnum_any (B b : Nat) (t : TypeId) (v : Value) (s : List UInt8 × Int) (n size : Int) (w : World) (h : WAt 5 B w b t v s) (hB : B ≤ w.heap.size) (hsm : s.1.length ≤ 900000) (hn : n ≤ 9223372036854775807) :
    Calls Try.prog 12 #[.pointer (some ⟨b, 0, none⟩), .int .i64 n, .int .i64 size] w fun en w' => en = .returned (.tuple #[]) ∧ WNow B w b t v (rNum s n size) w' := by
  by_cases hc : sizedB size = false ∨ n < 0
  · have ho : okN n size = false := by
      cases hk : okN n size with
      | false => rfl
      | true =>
        have h1 := okN_iff.1 hk
        rcases hc with hc | hc
        · simp only [sizedB, Bool.and_eq_false_iff, decide_eq_false_iff_not] at hc; omega
        · omega
    have h1 := rwnum_is B b t v s n size false [] w h hB (by simp; omega) (rnum_out n size w hc)
    rw [show rNum s n size = failR s 8 by unfold rNum; rw [ho]; rfl]
    exact h1
  · have h1 : sizedB size = true := by
      cases hz : sizedB size with
      | true => rfl
      | false => exact absurd (.inl hz) hc
    have h2 : 0 ≤ n := by
      have : ¬ n < 0 := fun x => hc (.inr x)
      omega
    simp only [sizedB, Bool.and_eq_true, decide_eq_true_eq] at h1
    obtain ⟨k, rfl⟩ := Int.eq_ofNat_of_zero_le h2
    obtain ⟨z, rfl⟩ := Int.eq_ofNat_of_zero_le (show 0 ≤ size by omega)
    exact rwnum_is B b t v s k z (okN k z) (be k z) w h hB (by rw [be_length]; omega) (rnum_in k z w (by omega) (by omega) (by omega))

set_option maxHeartbeats 1600000 in
theorem rwtext_any (B b : Nat) (t : TypeId) (v : Value) (s : List UInt8 × Int) (r : ByteArray) (w : World) (h : WAt 5 B w b t v s) (hB : B ≤ w.heap.size) (hsm : s.1.length ≤ 900000) (hr : r.size ≤ 1000000) :
    Calls Try.prog 10 #[.pointer (some ⟨b, 0, none⟩), .string r] w fun en w' => en = .returned (.tuple #[]) ∧ WNow B w b t v (rText s r.data.toList) w' := by
  have hl : r.data.toList.length = r.size := by simp
  by_cases hm : 255 < r.size
  · rw [show rText s r.data.toList = failR s 5 by unfold rText; rw [hl, if_pos hm]]
    have HH := Lib.hid h
    clear h hB hsm hl
    go_enter Try.func10, Try.ntmps10
    go_wp2_with fail
    refine (rfail_any b t v s.2 5 _ HH.out.blk).mono ?_
    rintro e w' ⟨rfl, hP⟩
    go_wp2_with fail
    refine bodyPost_ret (results_none rfl _ _ _) rfl ?_
    exact ⟨rfl, HH.out.failR hP⟩
  · have HE := Lib.hid (show rText s r.data.toList = ((s.1 ++ [UInt8.ofNat r.size]) ++ r.data.toList, s.2) by unfold rText; rw [hl, if_neg hm]; simp)
    have h1 : WAt 5 B (w.alloc (.cells #[.int .u8 (r.size : Int)] 5)) b t v s := h.below (belowNew w _) (Nat.le_refl _)
    have hb1 : BsAt (w.alloc (.cells #[.int .u8 (r.size : Int)] 5)) (some ⟨w.heap.size, 0, none⟩) 1 1 [UInt8.ofNat r.size] := bsAt_new w _ _ 0 [UInt8.ofNat r.size] (by simp [maxLen]) (fun i hi => by
      obtain rfl : i = 0 := by simp at hi; omega
      exact congrArg (fun x => some (Value.int .u8 x)) (by show _ = (((UInt8.ofNat r.size).toNat : Nat) : Int); simp; omega))
    have HH1 := Lib.hid h1
    have HS1 := Lib.hid hb1
    have HZ1 := Lib.hid (show B ≤ (w.alloc (.cells #[.int .u8 (r.size : Int)] 5)).heap.size by simp; omega)
    have HZ := Lib.hid hB
    have c0 : w.cell? ⟨b, 0, none⟩ = some v := h.blk.cell 0
    have hlt : b < w.heap.size := h.blk.lt
    have hown := h1.row
    have hq : s.1.length + [UInt8.ofNat r.size].length ≤ 140737488355328 := by simp; omega
    have hq2 : (s.1 ++ [UInt8.ofNat r.size]).length + r.size ≤ 140737488355328 := by simp; omega
    have tok1 : True := trivial
    clear h hB hsm hl h1 hb1
    go_enter Try.func10, Try.ntmps10
    go_wp2_with (first | (at_builtin; have _t := tok1; refine wpList_append_bytes rfl _ _ 25 rfl B 5 Try.underlying25 infoU8 rfl hown rfl HS1.out hq HZ1.out ?_; intro p1 n1 c1' w2 hrow1 hg1 hn1; have hk1 : Blk w2 b #[v, .int .i64 s.2] t := (hg1.block b HH1.out.blk.lt (fun e => HH1.out.apart e.symm)).trans HH1.out.blk; have q0 : w2.cell? ⟨b, 0, none⟩ = some v := hk1.cell 0; have q1 := hk1.free 0; have HT := Lib.hid (WAt.appended HH1.out hk1 hrow1 hg1 hn1); have hrow2 := HT.out.now.row; have HZ2 := Lib.hid (Nat.le_trans HZ1.out HT.out.chg.size); clear hk1 hrow1 hg1 hn1 hown tok1) | (at_builtin; refine wpList_append_text rfl _ _ 25 9 rfl B 5 Try.underlying25 Try.underlying9 infoU8 rfl hrow2 rfl hq2 HZ2.out ?_; intro p2 n2 c2' w3 hrow3 hg3 hn3; have hk3 : Blk w3 b #[.slice p1 n1 c1', .int .i64 s.2] t := (hg3.block b HT.out.now.blk.lt (fun e => HT.out.now.apart e.symm)).trans HT.out.now.blk; have r0 : w3.cell? ⟨b, 0, none⟩ = some (.slice p1 n1 c1') := hk3.cell 0; have r1 := hk3.free 0; have HT2 := Lib.hid (WAt.appended HT.out.now hk3 hrow3 hg3 hn3); clear hk3 hrow3 hg3 hn3 hrow2))
    go_end0
    refine ⟨rfl, ?_⟩
    rw [HE.out]
    exact ⟨_, (HT.out.trans HT2.out).after (belowNew w _)⟩

end Go.Proofs.Ytnajbkijejlgiaa

/-
  The law DiskPlays, from the kit: a disk answers every call, in every order, as the document says.
-/
import Derived.Test.YtjoimgmnklfmeaaDskS
import Derived.Test.YtjoimgmnklfmeaaActA
namespace Go.Proofs.Ytjoimgmnklfmeaa
open Go.RowKit

theorem infoAct : (Try.prog.info? 35).map (·.size) = some 5 := by kernel_rfl
/-- Both disks, the program's with S and the document's with S', and the act. -/
structure PP (K : DiskKit) (w : World) (b c : Nat) (v : Value) (S S' : DS) (ca : Nat) (A : Array Value) (F : Nat → Prop) (V : World) : Prop where
  at_ : K.At V b S F
  rd : RDisk w.heap.size V c v S'
  act : Blk V ca A 35
  below : Below w.heap.size w V
  own : ∀ k, F k → w.heap.size ≤ k
  apart : ∀ k, F k → ¬ foot c v k
  noA : ¬ F ca
  c0 : w.heap.size ≤ c
  a0 : w.heap.size ≤ ca
  noC : ¬ foot c v ca
theorem PP.cell {K : DiskKit} {w : World} {b c : Nat} {v : Value} {S S' : DS} {ca : Nat} {A : Array Value} {F : Nat → Prop} {V : World} (h : PP K w b c v S S' ca A F V) (k : Nat) : V.cell? ⟨ca, k, none⟩ = A[k]? := h.act.cell k
theorem PP.r0 {K : DiskKit} {w : World} {b c : Nat} {v : Value} {S S' : DS} {ca : Nat} {A : Array Value} {F : Nat → Prop} {V : World} (h : PP K w b c v S S' ca A F V) : V.cell? ⟨c, 0, none⟩ = some v := h.rd.blk.cell 0
theorem PP.r1 {K : DiskKit} {w : World} {b c : Nat} {v : Value} {S S' : DS} {ca : Nat} {A : Array Value} {F : Nat → Prop} {V : World} (h : PP K w b c v S S' ca A F V) : V.cell? ⟨c, 1, none⟩ = some (.bool S'.off) := h.rd.blk.cell 1
theorem PP.r2 {K : DiskKit} {w : World} {b c : Nat} {v : Value} {S S' : DS} {ca : Nat} {A : Array Value} {F : Nat → Prop} {V : World} (h : PP K w b c v S S' ca A F V) : V.cell? ⟨c, 2, none⟩ = some (.int .i64 S'.fuse) := h.rd.blk.cell 2
theorem PP.r3 {K : DiskKit} {w : World} {b c : Nat} {v : Value} {S S' : DS} {ca : Nat} {A : Array Value} {F : Nat → Prop} {V : World} (h : PP K w b c v S S' ca A F V) : V.cell? ⟨c, 3, none⟩ = some (.int .i64 S'.keep) := h.rd.blk.cell 3
theorem PP.r4 {K : DiskKit} {w : World} {b c : Nat} {v : Value} {S S' : DS} {ca : Nat} {A : Array Value} {F : Nat → Prop} {V : World} (h : PP K w b c v S S' ca A F V) : V.cell? ⟨c, 4, none⟩ = some (.int .i64 S'.wr) := h.rd.blk.cell 4
theorem PP.foot_lt {K : DiskKit} {w : World} {b c : Nat} {v : Value} {S S' : DS} {ca : Nat} {A : Array Value} {F : Nat → Prop} {V : World} (h : PP K w b c v S S' ca A F V) {k : Nat} (hk : foot c v k) : k < V.heap.size := by
  rcases hk with rfl | hk
  · exact h.rd.blk.lt
  · exact (h.rd.row.lt k hk).2
theorem PP.foot_ge {K : DiskKit} {w : World} {b c : Nat} {v : Value} {S S' : DS} {ca : Nat} {A : Array Value} {F : Nat → Prop} {V : World} (h : PP K w b c v S S' ca A F V) {k : Nat} (hk : foot c v k) : w.heap.size ≤ k := by
  rcases hk with rfl | hk
  · exact h.c0
  · exact (h.rd.row.lt k hk).1
theorem RDisk.chg {B : Nat} {w w' : World} {c : Nat} {v : Value} {S : DS} {T : Nat → Prop} (h : RDisk B w c v S) (hc : Chg T w w') (ht : ∀ k, foot c v k → ¬ T k) : RDisk B w' c v S :=
  ⟨hc.kept h.blk (ht c (.inl rfl)), own_chg h.row hc (fun k hk => ht k (.inr hk)), h.apart⟩
theorem PP.step {K : DiskKit} {w : World} {b c : Nat} {v : Value} {S S' : DS} {ca : Nat} {A : Array Value} {F : Nat → Prop} {V V' : World} (h : PP K w b c v S S' ca A F V) (hB : Below V.heap.size V V') : PP K w b c v S S' ca A F V' :=
  ⟨DiskKit.below h.at_ hB, h.rd.chg (Chg.ofBelow (S := fun _ => False) hB) (fun _ _ h => h), h.act.below hB h.act.lt, h.below.trans (hB.mono h.below.size), h.own, h.apart, h.noA, h.c0, h.a0, h.noC⟩
theorem PP.drew {K : DiskKit} {w : World} {b c : Nat} {v : Value} {S S' : DS} {ca : Nat} {A : Array Value} {F : Nat → Prop} {V : World} (h : PP K w b c v S S' ca A F V) : PP K w b c v S S' ca A F V.drew := h.step (Below.refl _ _).drew
/-- The program's disk came to S2. -/
theorem PP.dto {K : DiskKit} {w : World} {b c : Nat} {v : Value} {S S' S2 : DS} {ca : Nat} {A : Array Value} {F F' : Nat → Prop} {V V' : World} (h : PP K w b c v S S' ca A F V) (hA : K.At V' b S2 F') (hs : ∀ k, F' k → F k ∨ V.heap.size ≤ k) (hc : Chg F V V') : PP K w b c v S2 S' ca A F' V' :=
  ⟨hA, h.rd.chg hc (fun k hk hf => h.apart k hf hk), hc.kept h.act h.noA, h.below.trans (hc.below h.below.size h.own), fun k hk => by
    rcases hs k hk with h1 | h1
    · exact h.own k h1
    · have := h.below.size; omega, fun k hk hf => by
    rcases hs k hk with h1 | h1
    · exact h.apart k h1 hf
    · have := h.foot_lt hf; omega, fun hf => by
    rcases hs _ hf with h1 | h1
    · exact h.noA h1
    · have := h.act.lt; omega, h.c0, h.a0, h.noC⟩
/-- The document's disk came to S2. -/
theorem PP.rto {K : DiskKit} {w : World} {b c : Nat} {v : Value} {S S' S2 : DS} {ca : Nat} {A : Array Value} {F : Nat → Prop} {V V' : World} (h : PP K w b c v S S' ca A F V) (hR : RDisk w.heap.size V' c v S2) (hc : Chg (foot c v) V V') : PP K w b c v S S2 ca A F V' :=
  ⟨K.kept h.at_ hc h.apart, hR, hc.kept h.act h.noC, h.below.trans (hc.below h.below.size fun _ hk => h.foot_ge hk), h.own, h.apart, h.noA, h.c0, h.a0, h.noC⟩

/-! What is known in the region of the two writes, behind each call. -/
def C16b (K : DiskKit) (w : World) (b c : Nat) (v : Value) (S S' : DS) (ca : Nat) (A : Array Value) (F : Nat → Prop) (L : List UInt8) (a0 : Value) (V : World) : Prop :=
  ∃ p c3, a0 = .slice p L.length c3 ∧ PP K w b c v S S' ca A F V ∧ (∃ n, V.ownsRow n 5 1 (.slice p L.length c3) L.length (bvs L)) ∧ ∀ a, p = some a → ¬ F a.block
def C16c (K : DiskKit) (w : World) (b c : Nat) (v : Value) (S : DS) (I : Int) (L : List UInt8) (ca : Nat) (A : Array Value) (a1 : Value) (V : World) : Prop :=
  a1 = .int .i64 (writeE S I L) ∧ ∃ F, PP K w b c v (writeS S I L) S ca A F V
def C16d (K : DiskKit) (w : World) (b c : Nat) (v : Value) (S : DS) (I : Int) (L : List UInt8) (ca : Nat) (A : Array Value) (a1 a2 : Value) (V : World) : Prop :=
  a1 = .int .i64 (writeE S I L) ∧ ∃ F p c3, a2 = .slice p L.length c3 ∧ PP K w b c v (writeS S I L) S ca A F V ∧ (∃ n, V.ownsRow n 5 1 (.slice p L.length c3) L.length (bvs L)) ∧ ∀ a, p = some a → ¬ foot c v a.block
def C16e (K : DiskKit) (w : World) (b c : Nat) (v : Value) (S : DS) (I : Int) (L : List UInt8) (ca : Nat) (A : Array Value) (a1 a3 : Value) (V : World) : Prop :=
  a1 = .int .i64 (writeE S I L) ∧ a3 = .int .i64 (writeE S I L) ∧ ∃ F, PP K w b c v (writeS S I L) (writeS S I L) ca A F V
def C16 (K : DiskKit) (w : World) (b c : Nat) (v : Value) (S : DS) (I : Int) (L : List UInt8) (ca : Nat) (A : Array Value) (F : Nat → Prop) : List Value → World → Prop
  | [], V => PP K w b c v S S ca A F V
  | [a0], V => C16b K w b c v S S ca A F L a0 V
  | [_, a1], V => C16c K w b c v S I L ca A a1 V
  | [_, a1, a2], V => C16d K w b c v S I L ca A a1 a2 V
  | [_, a1, _, a3], V => C16e K w b c v S I L ca A a1 a3 V
  | _, _ => False
theorem C16_com {K : DiskKit} {w : World} {b c : Nat} {v : Value} {S : DS} {I : Int} {L : List UInt8} {ca : Nat} {A : Array Value} {F : Nat → Prop} : ∀ (vs : List Value) (V : World), C16 K w b c v S I L ca A F vs V → ∀ k : Nat, V.cell? ⟨ca, k, none⟩ = A[k]?
  | [], _, h => h.cell
  | [_], _, h => by obtain ⟨_, _, _, h, -⟩ := h; exact h.cell
  | [_, _], _, h => by obtain ⟨_, _, h⟩ := h; exact h.cell
  | [_, _, _], _, h => by obtain ⟨_, _, _, _, _, h, -⟩ := h; exact h.cell
  | [_, _, _, _], _, h => by obtain ⟨_, _, _, h⟩ := h; exact h.cell
  | _ :: _ :: _ :: _ :: _ :: _, _, h => h.elim
theorem C16eq {K : DiskKit} {w : World} {b c : Nat} {v : Value} {S : DS} {I : Int} {L : List UInt8} {ca : Nat} {A : Array Value} {F : Nat → Prop} {vs : List Value} {V : World} (hn : 3 < vs.length) (h : C16 K w b c v S I L ca A F vs V) : vs.getD 1 undef = .int .i64 (writeE S I L) ∧ vs.getD 3 undef = .int .i64 (writeE S I L) := by
  match vs, hn, h with
  | [_, a1, _, a3], _, h => exact ⟨h.1, h.2.1⟩
  | _ :: _ :: _ :: _ :: _ :: _, _, h => exact h.elim
theorem C16_end {K : DiskKit} {w : World} {b c : Nat} {v : Value} {S : DS} {I : Int} {L : List UInt8} {ca : Nat} {A : Array Value} {F : Nat → Prop} {vs : List Value} {V : World} (hn : vs.length = 4) (h : C16 K w b c v S I L ca A F vs V) : ∃ F, PP K w b c v (writeS S I L) (writeS S I L) ca A F V := by
  obtain ⟨a0, a1, a2, a3, rfl⟩ := len_four hn
  exact h.2.2
def C22b (K : DiskKit) (w : World) (b c : Nat) (v : Value) (S : DS) (I kp : Int) (ca : Nat) (A : Array Value) (a0 : Value) (V : World) : Prop :=
  a0 = .int .i64 (armE I kp) ∧ ∃ F, PP K w b c v (armS S I kp) S ca A F V
def C22c (K : DiskKit) (w : World) (b c : Nat) (v : Value) (S : DS) (I kp : Int) (ca : Nat) (A : Array Value) (a0 a1 : Value) (V : World) : Prop :=
  a0 = .int .i64 (armE I kp) ∧ a1 = .int .i64 (armE I kp) ∧ ∃ F, PP K w b c v (armS S I kp) (armS S I kp) ca A F V
def C22 (K : DiskKit) (w : World) (b c : Nat) (v : Value) (S : DS) (I kp : Int) (ca : Nat) (A : Array Value) (F : Nat → Prop) : List Value → World → Prop
  | [], V => PP K w b c v S S ca A F V
  | [a0], V => C22b K w b c v S I kp ca A a0 V
  | [a0, a1], V => C22c K w b c v S I kp ca A a0 a1 V
  | _, _ => False
theorem C22_com {K : DiskKit} {w : World} {b c : Nat} {v : Value} {S : DS} {I kp : Int} {ca : Nat} {A : Array Value} {F : Nat → Prop} : ∀ (vs : List Value) (V : World), C22 K w b c v S I kp ca A F vs V → ∀ k : Nat, V.cell? ⟨ca, k, none⟩ = A[k]?
  | [], _, h => h.cell
  | [_], _, h => by obtain ⟨_, _, h⟩ := h; exact h.cell
  | [_, _], _, h => by obtain ⟨_, _, _, h⟩ := h; exact h.cell
  | _ :: _ :: _ :: _, _, h => h.elim
theorem C22eq {K : DiskKit} {w : World} {b c : Nat} {v : Value} {S : DS} {I kp : Int} {ca : Nat} {A : Array Value} {F : Nat → Prop} {vs : List Value} {V : World} (hn : 1 < vs.length) (h : C22 K w b c v S I kp ca A F vs V) : vs.getD 0 undef = .int .i64 (armE I kp) ∧ vs.getD 1 undef = .int .i64 (armE I kp) := by
  match vs, hn, h with
  | [a0, a1], _, h => exact ⟨h.1, h.2.1⟩
  | _ :: _ :: _ :: _, _, h => exact h.elim
theorem C22_end {K : DiskKit} {w : World} {b c : Nat} {v : Value} {S : DS} {I kp : Int} {ca : Nat} {A : Array Value} {F : Nat → Prop} {vs : List Value} {V : World} (hn : vs.length = 2) (h : C22 K w b c v S I kp ca A F vs V) : ∃ F, PP K w b c v (armS S I kp) (armS S I kp) ca A F V := by
  obtain ⟨a0, a1, rfl⟩ := len_two hn
  exact h.2.2

theorem own_base {w : World} {base base' size n : Nat} {e : TypeId} {v : Value} {xs : List Value} (h : w.ownsRow base e size v n xs) (hb : base' ≤ base) : w.ownsRow base' e size v n xs :=
  ⟨h.1, h.2.elim Or.inl (fun ⟨g, cap, cur, hv, hg, r⟩ => Or.inr ⟨g, cap, cur, hv, Nat.le_trans hb hg, r⟩)⟩
theorem write_wr (S : DS) (i : Int) (l : List UInt8) {k : Nat} (h : S.wr ≤ k) : (writeS S i l).wr ≤ ((k + 1 : Nat) : Int) := by
  unfold writeS; split
  · simp only; omega
  · omega
theorem write_n {S : DS} (h : DSOk S) (i : Int) (l : List UInt8) {n : Nat} (hn : S.len = n) : (writeS S i l).len = n := by
  unfold DS.len at *; rw [writeS_len S h]; exact hn
theorem arm_wr (S : DS) (n keep : Int) {k : Nat} (h : S.wr ≤ k) : (armS S n keep).wr ≤ ((k + 1 : Nat) : Int) := by
  unfold armS; split
  · simp only; omega
  · omega
theorem arm_n {S : DS} (i kp : Int) {n : Nat} (hn : S.len = n) : (armS S i kp).len = n := by
  unfold DS.len at *; rw [armS_all]; exact hn
theorem RDisk.bs {B : Nat} {w : World} {c M cv : Nat} {p : Option Addr} {S : DS} (h : RDisk B w c (.slice p M cv) S) : BsAt w p M cv S.all := by
  obtain ⟨q, d, e1, hb⟩ := BsAt.ofRow h.row
  rw [Value.slice.injEq] at e1
  obtain ⟨rfl, rfl, rfl⟩ := e1
  exact hb
/-- What holds at the head of each round. -/
structure PPl (K : DiskKit) (w : World) (b c g n k : Nat) (V : World) : Prop where
  ex : ∃ S F, K.At V b S F ∧ RDisk w.heap.size V c (.slice (some ⟨g, 0, none⟩) (128 * n) (128 * n)) S ∧ (∀ k, F k → w.heap.size ≤ k) ∧ (∀ k, F k → ¬ foot c (.slice (some ⟨g, 0, none⟩) (128 * n) (128 * n)) k) ∧ DSOk S ∧ S.wr ≤ k ∧ S.len = n
  below : Below w.heap.size w V

set_option maxRecDepth 100000 in
set_option maxHeartbeats 12800000 in
theorem dplays_any (K : DiskKit) (hAlive : DiskAliveC) (z : Int) (v : Value) (l : List ActM) (w : World) (hz0 : -9223372036854775808 ≤ z) (hz1 : z ≤ 9223372036854775807) (h : ActsAt w v l) :
    Calls Try.prog 3 #[.int .i64 z, v] w fun e w' => e = .returned (.bool true) ∧ Below w.heap.size w w' := by
  obtain ⟨p, cap, rfl, hm, hc⟩ := h
  have HC := Lib.hid hc
  have HAl := Lib.hid hAlive
  clear hc hAlive
  by_cases hn : 1 ≤ z ∧ z ≤ 1024
  · obtain ⟨n, rfl⟩ := Int.eq_ofNat_of_zero_le (show 0 ≤ z by omega)
    have HN := Lib.hid (K.newOk n w (by omega) (by omega))
    have d1 : ¬ ((n : Int) < 1) := by omega
    have d2 : ¬ ((1024 : Int) < (n : Int)) := by omega
    have hn2 : n ≤ 1024 := by omega
    have hn3 : 1 ≤ n := by omega
    clear hn hz0 hz1
    go_enter Try.func3, Try.ntmps3
    go_wp2_with fail
    refine HN.out.mono ?_
    rintro e w1 ⟨b, F, rfl, hA1, hF1, hB1⟩
    have HA1 := Lib.hid hA1
    have HF1 := Lib.hid hF1
    have HB1 := Lib.hid hB1
    clear hA1 hF1 hB1 HN
    unfold ptrV
    by_cases hbig : 30 < l.length ∨ 40 < n
    · have HLen := Lib.hid (K.len HA1.out (DSOk.new hn2))
      rw [DS.new_len] at HLen
      by_cases h30 : 30 < l.length
      all_goals
        have h40 : l.length ≤ 30 → 40 < n := by omega
        clear hbig
        go_upto_region 5 with fail
        go_wp2_with fail
        refine HLen.out.mono ?_
        rintro e w5 ⟨rfl, hB5⟩
        have HB5 := Lib.hid (HB1.out.trans (hB5.mono HB1.out.size))
        clear hB5
        go_wp2_with fail
        refine (HAl.out _).mono ?_
        rintro e w6 ⟨rfl, hB6⟩
        have HB6 := Lib.hid (HB5.out.trans (hB6.mono HB5.out.size))
        clear hB6
        go_wp2_with fail
        go_ret
        exact ⟨rfl, HB6.out⟩
    · have e1 : ¬ ((30 : Int) < (l.length : Int)) := by omega
      have e2 : ¬ ((40 : Int) < (n : Int)) := by omega
      have hl30 : l.length ≤ 30 := by omega
      clear hbig
      go_upto_region 6 with fail
      go_wp2_with fail
      refine (rdNew_any n _ hn2).mono ?_
      rintro e w2 ⟨g, rfl, hrow, hB2⟩
      have HB2 := Lib.hid hB2
      have hbk : Blk (w2.alloc (.cells #[.slice none 0 0, .bool false, .int .i64 0, .int .i64 0, .int .i64 0] 31)) w2.heap.size #[.slice none 0 0, .bool false, .int .i64 0, .int .i64 0, .int .i64 0] 31 := Blk.new _ _ _
      have HRow := Lib.hid hrow
      clear hB2 hrow
      go_wp2_with (refine wpList_store_arr rfl rfl _ _ _ rfl rfl rfl hbk infoRD rfl (by simp [Value.oneCell']) ?_; intro w3 hw3; have HW3 := Lib.hid hw3; clear hw3)
      have HI0 := Lib.hid (show PPl K w b w2.heap.size g n 0 w3 from by
        have hB12 : Below w.heap.size w w2 := HB1.out.trans (HB2.out.mono HB1.out.size)
        have hB3 : Below w2.heap.size w2 w3 := (belowNew w2 _).trans (HW3.out.below (by simp) (Nat.le_refl _))
        have hg := (HRow.out.lt g rfl)
        have hA3 := DiskKit.below (DiskKit.below HA1.out HB2.out) hB3
        refine ⟨⟨DS.new n, F, hA3, ⟨HW3.out.blk, ?_, fun e => by simp [Value.ownBlock] at e; omega⟩, HF1.out, fun k hk hf => ?_, DSOk.new hn2, by simp [DS.new], DS.new_len n⟩, hB12.trans (hB3.mono hB12.size)⟩
        · have h1 := own_below HRow.out hB3 (Nat.le_refl _)
          have h2 := own_base h1 HB1.out.size
          exact h2
        · have h1 := (K.lt HA1.out).2 k hk
          have h2 := HB2.out.size
          rcases hf with rfl | hf
          · omega
          · simp [Value.ownBlock] at hf
            omega)
      have hc0 : w.heap.size ≤ w2.heap.size := Nat.le_trans HB1.out.size HB2.out.size
      generalize w2.heap.size = c at *
      clear hbk HRow HW3 HB1 HB2 HA1 HF1
      go_upto_region 8 with fail
      go_loopw [8] (fun i wr => ∃ k : Nat, k ≤ l.length ∧ i = .int .i64 k ∧ PPl K w b c g n k wr) (fun i _ => l.length - (intOf i).toNat)
      case atStart => exact ⟨0, Nat.zero_le _, rfl, HI0.out⟩
      case round =>
        obtain ⟨k, hk, rfl, hI⟩ := hrel
        have HI := Lib.hid hI
        clear hI HI0
        by_cases hlt : k < l.length
        · obtain ⟨bl, off, rfl, hbl, hcs⟩ := HC.out (by intro e; rw [e] at hlt; simp at hlt)
          obtain ⟨hOk, q0, q1, q2, q3, q4⟩ := hcs k hlt
          have hbel := HI.out.below
          have j0 := (hbel.cell (p := ⟨bl, off + k * 5, none⟩) hbl).trans q0
          have j1 := (hbel.cell (p := ⟨bl, off + k * 5 + 1, none⟩) hbl).trans q1
          have j2 := (hbel.cell (p := ⟨bl, off + k * 5 + 2, none⟩) hbl).trans q2
          have j3 := (hbel.cell (p := ⟨bl, off + k * 5 + 3, none⟩) hbl).trans q3
          have j4 := (hbel.cell (p := ⟨bl, off + k * 5 + 4, none⟩) hbl).trans q4
          obtain ⟨⟨ho1, ho2⟩, ⟨hi1, hi2⟩, -, ⟨hb1, hb2⟩, ⟨hz0, hz1⟩⟩ := hOk
          clear hcs q0 q1 q2 q3 q4 hbel
          generalize l[k].kd = kd at *
          generalize l[k].i = I at *
          generalize l[k].kp = kp at *
          generalize l[k].sz = sz at *
          obtain ⟨bb, hbb⟩ := Int.eq_ofNat_of_zero_le hb1
          rw [hbb] at j3 hb1 hb2
          clear hbb
          have hbk : Blk (wr.alloc (.cells #[.int .u8 0, .int .i64 0, .int .i64 0, .int .u8 0, .int .i8 0] 35)) wr.heap.size #[.int .u8 0, .int .i64 0, .int .i64 0, .int .u8 0, .int .i8 0] 35 := Blk.new _ _ _
          go_upto_region 12 with (refine wpList_store_arr rfl rfl _ _ _ rfl rfl rfl hbk infoAct rfl (by simp [Value.oneCell']) ?_; intro w4 hw4; have HW4 := Lib.hid hw4; clear hw4 hbk)
          obtain ⟨S, F, hA, hR, hFo, hFa, hok, hwr, hSn⟩ := HI.out.ex
          have HP := Lib.hid (show PP K w b c (.slice (some ⟨g, 0, none⟩) (128 * n) (128 * n)) S S wr.heap.size #[.int .u8 kd, .int .i64 I, .int .i64 kp, .int .u8 (bb : Int), .int .i8 sz] F w4 from by
            have hB : Below wr.heap.size wr w4 := (belowNew wr _).trans (HW4.out.below (by simp) (Nat.le_refl _))
            have hfl : ∀ j, foot c (.slice (some ⟨g, 0, none⟩) (128 * n) (128 * n)) j → j < wr.heap.size := fun j hj => by
              rcases hj with rfl | hj
              · exact hR.blk.lt
              · exact (hR.row.lt j hj).2
            exact ⟨DiskKit.below hA hB, hR.chg (Chg.ofBelow (S := fun _ => False) hB) (fun _ _ h => h), HW4.out.blk, HI.out.below.trans (hB.mono HI.out.below.size), hFo, hFa, fun hf => by have := (K.lt hA).2 _ hf; omega, hc0, HI.out.below.size, fun hf => by have := hfl _ hf; omega⟩)
          have HS := Lib.hid (And.intro hSn hwr)
          have hwr2 : S.wr ≤ 1000000 := by omega
          clear hA hR hFo hFa hSn hwr HI HW4 j0 j1 j2 j3 j4
          generalize hca : wr.heap.size = ca at *
          clear hca
          have k0 : w4.cell? ⟨ca, 0, none⟩ = some (.int .u8 kd) := HP.out.cell 0
          have HM := Lib.hid (show kd % 4 = 0 ∨ kd % 4 = 1 ∨ kd % 4 = 2 ∨ kd % 4 = 3 by omega)
          have T0 := Lib.hid HP.out
          go_upto_region 15 with fail
          clear k0
          rcases HM.out with hm0 | hm1 | hm2 | hm3
          · have b0 : (kd % 4 == 0) = true := by simpa using hm0
            clear hm0 HM
            have HCom := Lib.hid (@C16_com K w b c (.slice (some ⟨g, 0, none⟩) (128 * n) (128 * n)) S I (actL bb sz) ca (#[.int .u8 kd, .int .i64 I, .int .i64 kp, .int .u8 (bb : Int), .int .i8 sz]) F)
            go_upto_region 16 with fail
            refine wp_region_L (C16 K w b c (.slice (some ⟨g, 0, none⟩) (128 * n) (128 * n)) S I (actL bb sz) ca (#[.int .u8 kd, .int .i64 I, .int .i64 kp, .int .u8 (bb : Int), .int .i8 sz]) F) 4 [.val (.pointer (some ⟨b, 0, none⟩)), .val (.pointer (some ⟨ca, 1, none⟩)), .val (.int .i64 I), .val (.agg #[.int .u8 kd, .int .i64 I, .int .i64 kp, .int .u8 (bb : Int), .int .i8 sz]), .turn 0, .turn 1, .val (.pointer (some ⟨ca, 1, none⟩)), .val (.int .i64 I), .val (.agg #[.int .u8 kd, .int .i64 I, .int .i64 kp, .int .u8 (bb : Int), .int .i8 sz]), .turn 2, .turn 3, .val (.bool true), .val (.bool true)]
              (fun x => { tmps := #[.int .i64 (n : Int), .slice (some ⟨bl, off, none⟩) l.length cap, undef, undef, u4, .pointer (some ⟨b, 0, none⟩), .int .i64 0, .pointer (some ⟨c, 0, none⟩), .int .i64 (k : Int), .pointer (some ⟨ca, 0, none⟩), x 12, u11, u12, u13, u14, .tuple #[.pointer (some ⟨b, 0, none⟩), .int .i64 0], .int .i64 (n : Int), .tuple #[.pointer (some ⟨b, 0, none⟩), .int .i64 0], .pointer (some ⟨b, 0, none⟩), .int .i64 0, .int .i64 (n : Int), .bool (decide ((n : Int) < 1)), .bool (decide ((n : Int) < 1)), .int .i64 (n : Int), .bool (decide (1024 < (n : Int))), .bool (decide ((n : Int) < 1) || decide (1024 < (n : Int))), undef, undef, undef, undef, undef, undef, undef, undef, undef, .pointer (some ⟨b, 0, none⟩), .bool false, .bool false, .int .i64 0, .bool false, .bool false, .bool false, .slice (some ⟨bl, off, none⟩) l.length cap, .int .i64 (l.length : Int), .bool (decide (30 < (l.length : Int))), .bool (decide (30 < (l.length : Int))), .bool (decide (30 < (l.length : Int))), .int .i64 (n : Int), .bool (decide (40 < (n : Int))), .bool (decide (30 < (l.length : Int)) || decide (40 < (n : Int))), undef, undef, undef, undef, undef, undef, undef, undef, undef, undef, undef, undef, undef, undef, undef, .int .i64 (n : Int), .agg #[.slice (some ⟨g, 0, none⟩) (128 * n) (128 * n), .bool false, .int .i64 (-1), .int .i64 0, .int .i64 0], .int .i64 (k : Int), .slice (some ⟨bl, off, none⟩) l.length cap, .int .i64 (l.length : Int), .bool true, u71, u72, .slice (some ⟨bl, off, none⟩) l.length cap, .int .i64 (k : Int), .pointer (some ⟨bl, off + k * 5, none⟩), .agg #[.int .u8 kd, .int .i64 I, .int .i64 kp, .int .u8 (bb : Int), .int .i8 sz], .pointer (some ⟨ca, 0, none⟩), .int .u8 kd, .int .u8 (kd % 4), u80, u81, u82, .bool true, .bool true, x 0, x 1, x 2, x 3, x 4, x 5, x 6, x 7, x 8, x 9, x 10, x 11, u97, u98, u99, u100, u101, u102, u103, u104, u105, u106, u107, u108, u109, u110, u111, u112, u113, u114, u115, u116, u117, u118, u119, u120, u121, u122, u123, u124, u125, u126, u127, u128, u129, u130, u131, u132, u133, u134, u135, u136, u137, u138, u139, u140, u141, u142, u143, undef], defers := [] }) (fun i => ([u85, u86, u87, u88, u89, u90, u91, u92, u93, u94, u95, u96, .bool true] : List Value).getD i undef) (by kernel_rfl) rfl rfl (by kernel_rfl) (by kernel_rfl) (by kernel_rfl) (by kernel_rfl) (T0.out.drew) ?_ ?_
            · refine ⟨ObL.of_val rfl (fun x v => rfl) (fun x V vs hC hD => ?_), ?_⟩
              · clear hD
                refine want_yes rfl ?_
                exact leads_value (v := .pointer (some ⟨b, 0, none⟩)) (by go_simp) ⟨rfl, hC⟩
              refine ⟨ObL.of_val rfl (fun x v => rfl) (fun x V vs hC hD => ?_), ?_⟩
              · clear hD
                refine want_yes rfl ?_
                exact leads_value (v := .pointer (some ⟨ca, 1, none⟩)) (by go_simp) ⟨rfl, hC⟩
              refine ⟨ObL.of_val rfl (fun x v => rfl) (fun x V vs hC hD => ?_), ?_⟩
              · have e1 : x 1 = .pointer (some ⟨ca, 1, none⟩) := (hD.1 rfl).1
                clear hD
                refine want_yes rfl ?_
                have k0 : V.cell? ⟨ca, 1, none⟩ = some (.int .i64 I) := HCom.out vs V hC 1
                exact leads_value (v := .int .i64 I) (by go_simp) ⟨rfl, hC⟩
              refine ⟨ObL.of_val rfl (fun x v => rfl) (fun x V vs hC hD => ?_), ?_⟩
              · clear hD
                refine want_yes rfl ?_
                have hk := HCom.out vs V hC
                have k0 : V.cell? ⟨ca, 0, none⟩ = some (.int .u8 kd) := hk 0
                have k1 : V.cell? ⟨ca, 1, none⟩ = some (.int .i64 I) := hk 1
                have k2 : V.cell? ⟨ca, 2, none⟩ = some (.int .i64 kp) := hk 2
                have k3 : V.cell? ⟨ca, 3, none⟩ = some (.int .u8 (bb : Int)) := hk 3
                have k4 : V.cell? ⟨ca, 4, none⟩ = some (.int .i8 sz) := hk 4
                exact leads_value (v := .agg #[.int .u8 kd, .int .i64 I, .int .i64 kp, .int .u8 (bb : Int), .int .i8 sz]) (by go_simp) ⟨rfl, hC⟩
              refine ⟨ObL.of_turn rfl (fun x v => rfl) (fun x V vs hl hC hD => ?_), ?_⟩
              · obtain rfl := len_zero hl
                have e3 : x 3 = .agg #[.int .u8 kd, .int .i64 I, .int .i64 kp, .int .u8 (bb : Int), .int .i8 sz] := (hD.1 rfl).1
                clear hD
                refine want_yes rfl ?_
                have hC : PP K w b c (.slice (some ⟨g, 0, none⟩) (128 * n) (128 * n)) S S ca (#[.int .u8 kd, .int .i64 I, .int .i64 kp, .int .u8 (bb : Int), .int .i8 sz]) F V := hC
                refine leads_enter2 (by go_simp) ((rdBytes_any kd I kp bb sz V hz0 hz1).mono fun e w'' hO => ?_)
                obtain ⟨p3, c3, he, hr, hB⟩ := hO
                exact ⟨_, he, p3, c3, rfl, hC.step hB, ⟨_, hr⟩, fresh_apart hr (K.lt hC.at_).2⟩
              refine ⟨ObL.of_turn rfl (fun x v => rfl) (fun x V vs hl hC hD => ?_), ?_⟩
              · obtain ⟨a0, rfl⟩ := len_one hl
                have e0 : x 0 = .pointer (some ⟨b, 0, none⟩) := (hD.1 rfl).1
                have e2 : x 2 = .int .i64 I := (hD.2.1 rfl).1
                have e4 : x 4 = a0 := (hD.2.2.1 rfl).1
                clear hD
                refine want_yes rfl ?_
                obtain ⟨p3, c3, rfl, hC, ⟨n3, hr⟩, ha⟩ := (show C16b K w b c (.slice (some ⟨g, 0, none⟩) (128 * n) (128 * n)) S S ca (#[.int .u8 kd, .int .i64 I, .int .i64 kp, .int .u8 (bb : Int), .int .i8 sz]) F (actL bb sz) a0 V from hC)
                obtain ⟨q, d', e1, hbs⟩ := BsAt.ofRow hr
                rw [Value.slice.injEq] at e1
                obtain ⟨rfl, -, rfl⟩ := e1
                refine leads_enter2 (by go_simp) ((K.write I hC.at_ hok hwr2 hbs ha).mono fun e w'' hO => ?_)
                obtain ⟨F', he, hA', hs', hc'⟩ := hO
                exact ⟨_, he, rfl, F', hC.dto hA' hs' hc'⟩
              refine ⟨ObL.of_val rfl (fun x v => rfl) (fun x V vs hC hD => ?_), ?_⟩
              · clear hD
                refine want_yes rfl ?_
                exact leads_value (v := .pointer (some ⟨ca, 1, none⟩)) (by go_simp) ⟨rfl, hC⟩
              refine ⟨ObL.of_val rfl (fun x v => rfl) (fun x V vs hC hD => ?_), ?_⟩
              · have e6 : x 6 = .pointer (some ⟨ca, 1, none⟩) := (hD.1 rfl).1
                clear hD
                refine want_yes rfl ?_
                have k0 : V.cell? ⟨ca, 1, none⟩ = some (.int .i64 I) := HCom.out vs V hC 1
                exact leads_value (v := .int .i64 I) (by go_simp) ⟨rfl, hC⟩
              refine ⟨ObL.of_val rfl (fun x v => rfl) (fun x V vs hC hD => ?_), ?_⟩
              · clear hD
                refine want_yes rfl ?_
                have hk := HCom.out vs V hC
                have k0 : V.cell? ⟨ca, 0, none⟩ = some (.int .u8 kd) := hk 0
                have k1 : V.cell? ⟨ca, 1, none⟩ = some (.int .i64 I) := hk 1
                have k2 : V.cell? ⟨ca, 2, none⟩ = some (.int .i64 kp) := hk 2
                have k3 : V.cell? ⟨ca, 3, none⟩ = some (.int .u8 (bb : Int)) := hk 3
                have k4 : V.cell? ⟨ca, 4, none⟩ = some (.int .i8 sz) := hk 4
                exact leads_value (v := .agg #[.int .u8 kd, .int .i64 I, .int .i64 kp, .int .u8 (bb : Int), .int .i8 sz]) (by go_simp) ⟨rfl, hC⟩
              refine ⟨ObL.of_turn rfl (fun x v => rfl) (fun x V vs hl hC hD => ?_), ?_⟩
              · obtain ⟨a0, a1, rfl⟩ := len_two hl
                have e8 : x 8 = .agg #[.int .u8 kd, .int .i64 I, .int .i64 kp, .int .u8 (bb : Int), .int .i8 sz] := (hD.1 rfl).1
                have e5 : x 5 = a1 := (hD.2.1 rfl).1
                clear hD
                refine want_yes rfl ?_
                obtain ⟨rfl, F', hC⟩ := (show C16c K w b c (.slice (some ⟨g, 0, none⟩) (128 * n) (128 * n)) S I (actL bb sz) ca (#[.int .u8 kd, .int .i64 I, .int .i64 kp, .int .u8 (bb : Int), .int .i8 sz]) a1 V from hC)
                refine leads_enter2 (by go_simp) ((rdBytes_any kd I kp bb sz V hz0 hz1).mono fun e w'' hO => ?_)
                obtain ⟨p3, c3, he, hr, hB⟩ := hO
                exact ⟨_, he, rfl, F', p3, c3, rfl, hC.step hB, ⟨_, hr⟩, fresh_apart hr (fun k hk => hC.foot_lt hk)⟩
              refine ⟨ObL.of_turn rfl (fun x v => rfl) (fun x V vs hl hC hD => ?_), ?_⟩
              · obtain ⟨a0, a1, a2, rfl⟩ := len_three hl
                have e7 : x 7 = .int .i64 I := (hD.1 rfl).1
                have e9 : x 9 = a2 := (hD.2.1 rfl).1
                clear hD
                refine want_yes rfl ?_
                obtain ⟨rfl, F', p3, c3, rfl, hC, ⟨n3, hr⟩, ha⟩ := (show C16d K w b c (.slice (some ⟨g, 0, none⟩) (128 * n) (128 * n)) S I (actL bb sz) ca (#[.int .u8 kd, .int .i64 I, .int .i64 kp, .int .u8 (bb : Int), .int .i8 sz]) a1 a2 V from hC)
                obtain ⟨q, d', e1, hbs⟩ := BsAt.ofRow hr
                rw [Value.slice.injEq] at e1
                obtain ⟨rfl, -, rfl⟩ := e1
                refine leads_enter2 (by go_simp) ((rdWrite_any I hC.rd hok hwr2 hbs ha).mono fun e w'' hO => ?_)
                obtain ⟨he, hR', hc'⟩ := hO
                exact ⟨_, he, rfl, rfl, F', hC.rto hR' hc'⟩
              refine ⟨ObL.of_val rfl (fun x v => rfl) (fun x V vs hC hD => ?_), ?_⟩
              · have e5 : x 5 = vs.getD 1 undef := (hD.1 rfl).1
                have n5 : 1 < vs.length := (hD.1 rfl).2
                have e10 : x 10 = vs.getD 3 undef := (hD.2.1 rfl).1
                have n10 : 3 < vs.length := (hD.2.1 rfl).2
                clear hD
                refine want_yes rfl ?_
                obtain ⟨h5, h10⟩ := C16eq n10 hC
                rw [h5] at e5
                rw [h10] at e10
                clear n5 n10
                generalize vs.getD 1 undef = y1 at *
                generalize vs.getD 3 undef = y3 at *
                exact leads_value (v := .bool true) (by go_simp) ⟨rfl, hC⟩
              refine ⟨ObL.of_val rfl (fun x v => rfl) (fun x V vs hC hD => ?_), ?_⟩
              · have e11 : x 11 = .bool true := (hD.1 rfl).1
                have e10 : x 10 = vs.getD 3 undef := (hD.2.1 rfl).1
                have n10 : 3 < vs.length := (hD.2.1 rfl).2
                have e0 : x 0 = .pointer (some ⟨b, 0, none⟩) := (hD.2.2.1 rfl).1
                have e1 : x 1 = .pointer (some ⟨ca, 1, none⟩) := (hD.2.2.2.1 rfl).1
                have e2 : x 2 = .int .i64 I := (hD.2.2.2.2.1 rfl).1
                have e3 : x 3 = .agg #[.int .u8 kd, .int .i64 I, .int .i64 kp, .int .u8 (bb : Int), .int .i8 sz] := (hD.2.2.2.2.2.1 rfl).1
                have e4 : x 4 = vs.getD 0 undef := (hD.2.2.2.2.2.2.1 rfl).1
                have n4 : 0 < vs.length := (hD.2.2.2.2.2.2.1 rfl).2
                have e5 : x 5 = vs.getD 1 undef := (hD.2.2.2.2.2.2.2.1 rfl).1
                have n5 : 1 < vs.length := (hD.2.2.2.2.2.2.2.1 rfl).2
                have e6 : x 6 = .pointer (some ⟨ca, 1, none⟩) := (hD.2.2.2.2.2.2.2.2.1 rfl).1
                have e7 : x 7 = .int .i64 I := (hD.2.2.2.2.2.2.2.2.2.1 rfl).1
                have e8 : x 8 = .agg #[.int .u8 kd, .int .i64 I, .int .i64 kp, .int .u8 (bb : Int), .int .i8 sz] := (hD.2.2.2.2.2.2.2.2.2.2.1 rfl).1
                have e9 : x 9 = vs.getD 2 undef := (hD.2.2.2.2.2.2.2.2.2.2.2.1 rfl).1
                have n9 : 2 < vs.length := (hD.2.2.2.2.2.2.2.2.2.2.2.1 rfl).2
                clear hD
                refine want_yes rfl ?_
                clear n10 n4 n5 n9
                generalize vs.getD 0 undef = y0 at *
                generalize vs.getD 1 undef = y1 at *
                generalize vs.getD 2 undef = y2 at *
                generalize vs.getD 3 undef = y3 at *
                exact leads_value (v := .bool true) (by go_simp) ⟨rfl, hC⟩
              trivial
            · intro xa V vs hl hC hx
              obtain ⟨F', hP⟩ := C16_end hl hC
              have e12 : xa 12 = .bool true := hx 12 (by simp)
              have HP := Lib.hid hP
              have HS2 := Lib.hid (show DSOk (writeS S I (actL bb sz)) ∧ (writeS S I (actL bb sz)).wr ≤ ((k + 1 : Nat) : Int) ∧ (writeS S I (actL bb sz)).len = n from ⟨hok.write _ _, write_wr S I _ HS.out.2, write_n hok I _ HS.out.1⟩)
              clear hx hC hP
              rw [e12]
              clear e12
              go_upto_region 23 with fail
              have k0 := HP.out.r0
              have k1 := HP.out.r1
              have k2 := HP.out.r2
              have k3 := HP.out.r3
              have k4 := HP.out.r4
              have HSame := Lib.hid (dsame_any K HP.out.at_ HS2.out.1 HP.out.rd.bs)
              go_wp2_with fail
              with_reducible refine HSame.out.mono ?_
              rintro e w9 ⟨rfl, hB9⟩
              have HQ := Lib.hid (HP.out.step hB9)
              clear hB9 k0 k1 k2 k3 k4 HSame HP
              go_wp2_with fail
              go_roundw
              case rel =>
                refine ⟨k + 1, by omega, by go_num, ⟨_, _, HQ.out.at_, ?_⟩, HQ.out.below⟩
                exact ⟨HQ.out.rd, HQ.out.own, HQ.out.apart, HS2.out.1, HS2.out.2.1, HS2.out.2.2⟩
              case measure => simp [intOf]; omega
          · have b0 : (kd % 4 == 0) = false := by simp; omega
            have b1 : (kd % 4 == 1) = true := by simpa using hm1
            clear hm1 HM
            have k1 : w4.cell? ⟨ca, 1, none⟩ = some (.int .i64 I) := HP.out.cell 1
            have HRd := Lib.hid (K.read I HP.out.at_ hok)
            go_upto_region 18 with fail
            go_wp2_with fail
            refine HRd.out.mono ?_
            rintro e w5 ⟨p5, c5, rfl, ⟨t5, hR5⟩, hB5⟩
            have HP5 := Lib.hid (HP.out.step hB5)
            have HR5 := Lib.hid hR5
            have k1' : w5.cell? ⟨ca, 1, none⟩ = some (.int .i64 I) := HP5.out.cell 1
            have HRr := Lib.hid (rdRead_any I HP5.out.rd hok)
            clear hR5 hB5 k1 T0 HP HRd
            go_upto_region 19 with fail
            go_wp2_with fail
            refine HRr.out.mono ?_
            rintro e w6 ⟨p6, c6, rfl, hb6, hB6⟩
            have HP6 := Lib.hid (HP5.out.step hB6)
            obtain ⟨q5, d5, e5, hb5⟩ := BsAt.ofRow (own_below HR5.out hB6 (Nat.le_refl _))
            rw [Value.slice.injEq] at e5
            obtain ⟨rfl, -, rfl⟩ := e5
            clear hB6 k1' HP5 HRr HR5
            have q5 := run_string_bs (P := Try.prog) w6 29 5 9 Try.underlying29 Try.underlying5 Try.underlying9 hb5
            have q6 := run_string_bs (P := Try.prog) w6 29 5 9 Try.underlying29 Try.underlying5 Try.underlying9 hb6
            clear hb5 hb6
            generalize readL S I = R at *
            generalize readE S I = E at *
            go_upto_region 20 with fail
            go_upto_region 23 with fail
            clear q5 q6
            have HP := Lib.hid HP6.out
            have HS2 := Lib.hid (show DSOk S ∧ S.wr ≤ ((k + 1 : Nat) : Int) ∧ S.len = n from ⟨hok, by have := HS.out.2; omega, HS.out.1⟩)
            clear HP6
            have k0 := HP.out.r0
            have k1 := HP.out.r1
            have k2 := HP.out.r2
            have k3 := HP.out.r3
            have k4 := HP.out.r4
            have HSame := Lib.hid (dsame_any K HP.out.at_ HS2.out.1 HP.out.rd.bs)
            go_wp2_with fail
            with_reducible refine HSame.out.mono ?_
            rintro e w9 ⟨rfl, hB9⟩
            have HQ := Lib.hid (HP.out.step hB9)
            clear hB9 k0 k1 k2 k3 k4 HSame HP
            go_wp2_with fail
            go_roundw
            case rel =>
              refine ⟨k + 1, by omega, by go_num, ⟨_, _, HQ.out.at_, ?_⟩, HQ.out.below⟩
              exact ⟨HQ.out.rd, HQ.out.own, HQ.out.apart, HS2.out.1, HS2.out.2.1, HS2.out.2.2⟩
            case measure => simp [intOf]; omega
          · have b0 : (kd % 4 == 0) = false := by simp; omega
            have b1 : (kd % 4 == 1) = false := by simp; omega
            have b2 : (kd % 4 == 2) = true := by simpa using hm2
            clear hm2 HM
            have HCom := Lib.hid (@C22_com K w b c (.slice (some ⟨g, 0, none⟩) (128 * n) (128 * n)) S I kp ca (#[.int .u8 kd, .int .i64 I, .int .i64 kp, .int .u8 (bb : Int), .int .i8 sz]) F)
            go_upto_region 22 with fail
            refine wp_region_L (C22 K w b c (.slice (some ⟨g, 0, none⟩) (128 * n) (128 * n)) S I kp ca (#[.int .u8 kd, .int .i64 I, .int .i64 kp, .int .u8 (bb : Int), .int .i8 sz]) F) 2 [.val (.pointer (some ⟨b, 0, none⟩)), .val (.pointer (some ⟨ca, 1, none⟩)), .val (.int .i64 I), .val (.pointer (some ⟨ca, 2, none⟩)), .val (.int .i64 kp), .turn 0, .val (.pointer (some ⟨ca, 1, none⟩)), .val (.int .i64 I), .val (.pointer (some ⟨ca, 2, none⟩)), .val (.int .i64 kp), .turn 1, .val (.bool true), .val (.bool true)]
              (fun x => { tmps := #[.int .i64 (n : Int), .slice (some ⟨bl, off, none⟩) l.length cap, undef, undef, u4, .pointer (some ⟨b, 0, none⟩), .int .i64 0, .pointer (some ⟨c, 0, none⟩), .int .i64 (k : Int), .pointer (some ⟨ca, 0, none⟩), x 12, u11, u12, u13, u14, .tuple #[.pointer (some ⟨b, 0, none⟩), .int .i64 0], .int .i64 (n : Int), .tuple #[.pointer (some ⟨b, 0, none⟩), .int .i64 0], .pointer (some ⟨b, 0, none⟩), .int .i64 0, .int .i64 (n : Int), .bool (decide ((n : Int) < 1)), .bool (decide ((n : Int) < 1)), .int .i64 (n : Int), .bool (decide (1024 < (n : Int))), .bool (decide ((n : Int) < 1) || decide (1024 < (n : Int))), undef, undef, undef, undef, undef, undef, undef, undef, undef, .pointer (some ⟨b, 0, none⟩), .bool false, .bool false, .int .i64 0, .bool false, .bool false, .bool false, .slice (some ⟨bl, off, none⟩) l.length cap, .int .i64 (l.length : Int), .bool (decide (30 < (l.length : Int))), .bool (decide (30 < (l.length : Int))), .bool (decide (30 < (l.length : Int))), .int .i64 (n : Int), .bool (decide (40 < (n : Int))), .bool (decide (30 < (l.length : Int)) || decide (40 < (n : Int))), undef, undef, undef, undef, undef, undef, undef, undef, undef, undef, undef, undef, undef, undef, undef, .int .i64 (n : Int), .agg #[.slice (some ⟨g, 0, none⟩) (128 * n) (128 * n), .bool false, .int .i64 (-1), .int .i64 0, .int .i64 0], .int .i64 (k : Int), .slice (some ⟨bl, off, none⟩) l.length cap, .int .i64 (l.length : Int), .bool true, u71, u72, .slice (some ⟨bl, off, none⟩) l.length cap, .int .i64 (k : Int), .pointer (some ⟨bl, off + k * 5, none⟩), .agg #[.int .u8 kd, .int .i64 I, .int .i64 kp, .int .u8 (bb : Int), .int .i8 sz], .pointer (some ⟨ca, 0, none⟩), .int .u8 kd, .int .u8 (kd % 4), u80, u81, u82, .bool false, .bool false, u85, u86, u87, u88, u89, u90, u91, u92, u93, u94, u95, u96, .bool false, .bool false, u99, u100, u101, u102, u103, u104, u105, u106, u107, u108, u109, u110, u111, u112, u113, u114, u115, u116, u117, u118, u119, u120, u121, .bool true, .bool true, x 0, x 1, x 2, x 3, x 4, x 5, x 6, x 7, x 8, x 9, x 10, x 11, u136, u137, u138, u139, u140, u141, u142, u143, undef], defers := [] }) (fun i => ([u124, u125, u126, u127, u128, u129, u130, u131, u132, u133, u134, u135, .bool true] : List Value).getD i undef) (by kernel_rfl) rfl rfl (by kernel_rfl) (by kernel_rfl) (by kernel_rfl) (by kernel_rfl) (T0.out.drew) ?_ ?_
            · refine ⟨ObL.of_val rfl (fun x v => rfl) (fun x V vs hC hD => ?_), ?_⟩
              · clear hD
                refine want_yes rfl ?_
                exact leads_value (v := .pointer (some ⟨b, 0, none⟩)) (by go_simp) ⟨rfl, hC⟩
              refine ⟨ObL.of_val rfl (fun x v => rfl) (fun x V vs hC hD => ?_), ?_⟩
              · clear hD
                refine want_yes rfl ?_
                exact leads_value (v := .pointer (some ⟨ca, 1, none⟩)) (by go_simp) ⟨rfl, hC⟩
              refine ⟨ObL.of_val rfl (fun x v => rfl) (fun x V vs hC hD => ?_), ?_⟩
              · have e1 : x 1 = .pointer (some ⟨ca, 1, none⟩) := (hD.1 rfl).1
                clear hD
                refine want_yes rfl ?_
                have k0 : V.cell? ⟨ca, 1, none⟩ = some (.int .i64 I) := HCom.out vs V hC 1
                exact leads_value (v := .int .i64 I) (by go_simp) ⟨rfl, hC⟩
              refine ⟨ObL.of_val rfl (fun x v => rfl) (fun x V vs hC hD => ?_), ?_⟩
              · clear hD
                refine want_yes rfl ?_
                exact leads_value (v := .pointer (some ⟨ca, 2, none⟩)) (by go_simp) ⟨rfl, hC⟩
              refine ⟨ObL.of_val rfl (fun x v => rfl) (fun x V vs hC hD => ?_), ?_⟩
              · have e3 : x 3 = .pointer (some ⟨ca, 2, none⟩) := (hD.1 rfl).1
                clear hD
                refine want_yes rfl ?_
                have k0 : V.cell? ⟨ca, 2, none⟩ = some (.int .i64 kp) := HCom.out vs V hC 2
                exact leads_value (v := .int .i64 kp) (by go_simp) ⟨rfl, hC⟩
              refine ⟨ObL.of_turn rfl (fun x v => rfl) (fun x V vs hl hC hD => ?_), ?_⟩
              · obtain rfl := len_zero hl
                have e0 : x 0 = .pointer (some ⟨b, 0, none⟩) := (hD.1 rfl).1
                have e2 : x 2 = .int .i64 I := (hD.2.1 rfl).1
                have e4 : x 4 = .int .i64 kp := (hD.2.2.1 rfl).1
                clear hD
                refine want_yes rfl ?_
                have hC : PP K w b c (.slice (some ⟨g, 0, none⟩) (128 * n) (128 * n)) S S ca (#[.int .u8 kd, .int .i64 I, .int .i64 kp, .int .u8 (bb : Int), .int .i8 sz]) F V := hC
                refine leads_enter2 (by go_simp) ((K.arm I kp hC.at_ hok hi2).mono fun e w'' hO => ?_)
                obtain ⟨F', he, hA', hs', hc'⟩ := hO
                exact ⟨_, he, rfl, F', hC.dto hA' hs' hc'⟩
              refine ⟨ObL.of_val rfl (fun x v => rfl) (fun x V vs hC hD => ?_), ?_⟩
              · clear hD
                refine want_yes rfl ?_
                exact leads_value (v := .pointer (some ⟨ca, 1, none⟩)) (by go_simp) ⟨rfl, hC⟩
              refine ⟨ObL.of_val rfl (fun x v => rfl) (fun x V vs hC hD => ?_), ?_⟩
              · have e6 : x 6 = .pointer (some ⟨ca, 1, none⟩) := (hD.1 rfl).1
                clear hD
                refine want_yes rfl ?_
                have k0 : V.cell? ⟨ca, 1, none⟩ = some (.int .i64 I) := HCom.out vs V hC 1
                exact leads_value (v := .int .i64 I) (by go_simp) ⟨rfl, hC⟩
              refine ⟨ObL.of_val rfl (fun x v => rfl) (fun x V vs hC hD => ?_), ?_⟩
              · clear hD
                refine want_yes rfl ?_
                exact leads_value (v := .pointer (some ⟨ca, 2, none⟩)) (by go_simp) ⟨rfl, hC⟩
              refine ⟨ObL.of_val rfl (fun x v => rfl) (fun x V vs hC hD => ?_), ?_⟩
              · have e8 : x 8 = .pointer (some ⟨ca, 2, none⟩) := (hD.1 rfl).1
                clear hD
                refine want_yes rfl ?_
                have k0 : V.cell? ⟨ca, 2, none⟩ = some (.int .i64 kp) := HCom.out vs V hC 2
                exact leads_value (v := .int .i64 kp) (by go_simp) ⟨rfl, hC⟩
              refine ⟨ObL.of_turn rfl (fun x v => rfl) (fun x V vs hl hC hD => ?_), ?_⟩
              · obtain ⟨a0, rfl⟩ := len_one hl
                have e7 : x 7 = .int .i64 I := (hD.1 rfl).1
                have e9 : x 9 = .int .i64 kp := (hD.2.1 rfl).1
                have e5 : x 5 = a0 := (hD.2.2.1 rfl).1
                clear hD
                refine want_yes rfl ?_
                obtain ⟨rfl, F', hC⟩ := (show C22b K w b c (.slice (some ⟨g, 0, none⟩) (128 * n) (128 * n)) S I kp ca (#[.int .u8 kd, .int .i64 I, .int .i64 kp, .int .u8 (bb : Int), .int .i8 sz]) a0 V from hC)
                refine leads_enter2 (by go_simp) ((rdArm_any I kp hC.rd).mono fun e w'' hO => ?_)
                obtain ⟨he, hR', hc'⟩ := hO
                exact ⟨_, he, rfl, rfl, F', hC.rto hR' (hc'.mono fun i _ hi => .inl hi)⟩
              refine ⟨ObL.of_val rfl (fun x v => rfl) (fun x V vs hC hD => ?_), ?_⟩
              · have e5 : x 5 = vs.getD 0 undef := (hD.1 rfl).1
                have n5 : 0 < vs.length := (hD.1 rfl).2
                have e10 : x 10 = vs.getD 1 undef := (hD.2.1 rfl).1
                have n10 : 1 < vs.length := (hD.2.1 rfl).2
                clear hD
                refine want_yes rfl ?_
                obtain ⟨h5, h10⟩ := C22eq n10 hC
                rw [h5] at e5
                rw [h10] at e10
                clear n5 n10
                generalize vs.getD 0 undef = y0 at *
                generalize vs.getD 1 undef = y1 at *
                exact leads_value (v := .bool true) (by go_simp) ⟨rfl, hC⟩
              refine ⟨ObL.of_val rfl (fun x v => rfl) (fun x V vs hC hD => ?_), ?_⟩
              · have e11 : x 11 = .bool true := (hD.1 rfl).1
                have e10 : x 10 = vs.getD 1 undef := (hD.2.1 rfl).1
                have n10 : 1 < vs.length := (hD.2.1 rfl).2
                have e0 : x 0 = .pointer (some ⟨b, 0, none⟩) := (hD.2.2.1 rfl).1
                have e1 : x 1 = .pointer (some ⟨ca, 1, none⟩) := (hD.2.2.2.1 rfl).1
                have e2 : x 2 = .int .i64 I := (hD.2.2.2.2.1 rfl).1
                have e3 : x 3 = .pointer (some ⟨ca, 2, none⟩) := (hD.2.2.2.2.2.1 rfl).1
                have e4 : x 4 = .int .i64 kp := (hD.2.2.2.2.2.2.1 rfl).1
                have e5 : x 5 = vs.getD 0 undef := (hD.2.2.2.2.2.2.2.1 rfl).1
                have n5 : 0 < vs.length := (hD.2.2.2.2.2.2.2.1 rfl).2
                have e6 : x 6 = .pointer (some ⟨ca, 1, none⟩) := (hD.2.2.2.2.2.2.2.2.1 rfl).1
                have e7 : x 7 = .int .i64 I := (hD.2.2.2.2.2.2.2.2.2.1 rfl).1
                have e8 : x 8 = .pointer (some ⟨ca, 2, none⟩) := (hD.2.2.2.2.2.2.2.2.2.2.1 rfl).1
                have e9 : x 9 = .int .i64 kp := (hD.2.2.2.2.2.2.2.2.2.2.2.1 rfl).1
                clear hD
                refine want_yes rfl ?_
                clear n10 n5
                generalize vs.getD 0 undef = y0 at *
                generalize vs.getD 1 undef = y1 at *
                exact leads_value (v := .bool true) (by go_simp) ⟨rfl, hC⟩
              trivial
            · intro xa V vs hl hC hx
              obtain ⟨F', hP⟩ := C22_end hl hC
              have e12 : xa 12 = .bool true := hx 12 (by simp)
              have HP := Lib.hid hP
              have HS2 := Lib.hid (show DSOk (armS S I kp) ∧ (armS S I kp).wr ≤ ((k + 1 : Nat) : Int) ∧ (armS S I kp).len = n from ⟨hok.arm _ _ hi2, arm_wr S I kp HS.out.2, arm_n I kp HS.out.1⟩)
              clear hx hC hP
              rw [e12]
              clear e12
              go_upto_region 23 with fail
              have k0 := HP.out.r0
              have k1 := HP.out.r1
              have k2 := HP.out.r2
              have k3 := HP.out.r3
              have k4 := HP.out.r4
              have HSame := Lib.hid (dsame_any K HP.out.at_ HS2.out.1 HP.out.rd.bs)
              go_wp2_with fail
              with_reducible refine HSame.out.mono ?_
              rintro e w9 ⟨rfl, hB9⟩
              have HQ := Lib.hid (HP.out.step hB9)
              clear hB9 k0 k1 k2 k3 k4 HSame HP
              go_wp2_with fail
              go_roundw
              case rel =>
                refine ⟨k + 1, by omega, by go_num, ⟨_, _, HQ.out.at_, ?_⟩, HQ.out.below⟩
                exact ⟨HQ.out.rd, HQ.out.own, HQ.out.apart, HS2.out.1, HS2.out.2.1, HS2.out.2.2⟩
              case measure => simp [intOf]; omega
          · have b0 : (kd % 4 == 0) = false := by simp; omega
            have b1 : (kd % 4 == 1) = false := by simp; omega
            have b2 : (kd % 4 == 2) = false := by simp; omega
            clear hm3 HM
            have HPw := Lib.hid (K.power HP.out.at_ hok)
            go_upto_region 13 with fail
            go_wp2_with fail
            refine HPw.out.mono ?_
            rintro e w5 ⟨F5, rfl, hA5, hs5, hc5⟩
            have HP5 := Lib.hid (HP.out.dto hA5 hs5 hc5)
            have HPr := Lib.hid (rdPower_any HP5.out.rd)
            clear hA5 hs5 hc5 HPw T0 HP
            go_upto_region 14 with fail
            go_wp2_with fail
            refine HPr.out.mono ?_
            rintro e w6 ⟨rfl, hR6, hc6⟩
            have HP := Lib.hid (HP5.out.rto hR6 (hc6.mono fun i _ hi => .inl hi))
            have HS2 := Lib.hid (show DSOk (powerS S) ∧ (powerS S).wr ≤ ((k + 1 : Nat) : Int) ∧ (powerS S).len = n from ⟨hok.power, by show S.wr ≤ _; have := HS.out.2; omega, HS.out.1⟩)
            clear hR6 hc6 HP5 HPr
            go_upto_region 23 with fail
            have k0 := HP.out.r0
            have k1 := HP.out.r1
            have k2 := HP.out.r2
            have k3 := HP.out.r3
            have k4 := HP.out.r4
            have HSame := Lib.hid (dsame_any K HP.out.at_ HS2.out.1 HP.out.rd.bs)
            go_wp2_with fail
            with_reducible refine HSame.out.mono ?_
            rintro e w9 ⟨rfl, hB9⟩
            have HQ := Lib.hid (HP.out.step hB9)
            clear hB9 k0 k1 k2 k3 k4 HSame HP
            go_wp2_with fail
            go_roundw
            case rel =>
              refine ⟨k + 1, by omega, by go_num, ⟨_, _, HQ.out.at_, ?_⟩, HQ.out.below⟩
              exact ⟨HQ.out.rd, HQ.out.own, HQ.out.apart, HS2.out.1, HS2.out.2.1, HS2.out.2.2⟩
            case measure => simp [intOf]; omega
        · obtain rfl : k = l.length := by omega
          go_upto_region 25 with fail
          go_wp2_with fail
          refine (HAl.out _).mono ?_
          rintro e w5 ⟨rfl, hB5⟩
          have HB5 := Lib.hid (HI.out.below.trans (hB5.mono HI.out.below.size))
          clear hB5
          go_wp2_with fail
          go_ret
          exact ⟨rfl, HB5.out⟩
  · have HNo := Lib.hid (K.newNo z w (by omega))
    by_cases h1 : z < 1
    all_goals
      have h2 : ¬ z < 1 → 1024 < z := by omega
      clear hn
      go_enter Try.func3, Try.ntmps3
      go_wp2_with fail
      refine HNo.out.mono ?_
      rintro e w1 ⟨rfl, hB1⟩
      have HB1 := Lib.hid hB1
      clear hB1
      go_upto_region 3 with fail
      go_wp2_with fail
      refine (HAl.out _).mono ?_
      rintro e w6 ⟨rfl, hB6⟩
      have HB6 := Lib.hid (HB1.out.trans (hB6.mono HB1.out.size))
      clear hB6
      go_wp2_with fail
      go_ret
      exact ⟨rfl, HB6.out⟩

end Go.Proofs.Ytjoimgmnklfmeaa

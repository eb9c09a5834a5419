/-
  The law DiskKeeps, from the kit: what is written is read, until it is written anew.
-/
import Derived.Test.YtjoimgmnklfmeaaLawDTears
import Derived.Test.YtjoimgmnklfmeaaPbA
import Derived.Test.YtjoimgmnklfmeaaChain
namespace Go.Proofs.Ytjoimgmnklfmeaa
open Go.RowKit

def boolC (h : Nat → Bool) : Array Value := ((List.range 16).map fun t => Value.bool (h t)).toArray
theorem boolC_get (h : Nat → Bool) {i : Nat} (hi : i < 16) : (boolC h)[i]? = some (.bool (h i)) := by simp [boolC, hi]
def setH (h : Nat → Bool) (k : Nat) : Nat → Bool := fun t => if t = k then true else h t
theorem boolC_set (h : Nat → Bool) {k : Nat} (hk : k < 16) : (boolC h).setIfInBounds k (.bool true) = boolC (setH h k) := by
  apply Array.ext_getElem?
  intro i
  rw [Array.getElem?_setIfInBounds]
  by_cases hi : i < 16
  · rw [boolC_get _ hi]
    by_cases e : k = i
    · subst e; rw [boolC_get _ hk]; simp [setH, boolC, hk]
    · have e2 : ¬ i = k := fun h => e h.symm
      rw [if_neg e, boolC_get _ hi]; simp [setH, e2]
  · have h1 : ¬ k = i := by omega
    rw [if_neg h1]; simp [boolC, hi]
/-- The disk, and the law's two arrays. -/
structure KP (K : DiskKit) (w : World) (b c5 c6 : Nat) (S : DS) (F : Nat → Prop) (la : Nat → Nat) (ha : Nat → Bool) (V : World) : Prop where
  at_ : K.At V b S F
  own : ∀ j, F j → w.heap.size ≤ j
  bl : Blk V c5 (arrC .u8 16 la) 51
  bh : Blk V c6 (boolC ha) 52
  n5 : ¬ F c5
  n6 : ¬ F c6
  g5 : w.heap.size ≤ c5
  g6 : w.heap.size ≤ c6
  ne : c5 ≠ c6
  below : Below w.heap.size w V
theorem KP.step {K : DiskKit} {w : World} {b c5 c6 : Nat} {S : DS} {F : Nat → Prop} {la : Nat → Nat} {ha : Nat → Bool} {V V' : World} (h : KP K w b c5 c6 S F la ha V) (hB : Below V.heap.size V V') : KP K w b c5 c6 S F la ha V' :=
  ⟨DiskKit.below h.at_ hB, h.own, h.bl.below hB h.bl.lt, h.bh.below hB h.bh.lt, h.n5, h.n6, h.g5, h.g6, h.ne, h.below.trans (hB.mono h.below.size)⟩
theorem KP.to {K : DiskKit} {w : World} {b c5 c6 : Nat} {S S' : DS} {F F' : Nat → Prop} {la : Nat → Nat} {ha : Nat → Bool} {V V' : World} (h : KP K w b c5 c6 S F la ha V) (hA : K.At V' b S' F') (hs : ∀ j, F' j → F j ∨ V.heap.size ≤ j) (hc : Chg F V V') : KP K w b c5 c6 S' F' la ha V' :=
  ⟨hA, fun j hj => by
    rcases hs j hj with h1 | h1
    · exact h.own j h1
    · have := h.below.size; omega, hc.kept h.bl h.n5, hc.kept h.bh h.n6, fun hf => by
    rcases hs _ hf with h1 | h1
    · exact h.n5 h1
    · have := h.bl.lt; omega, fun hf => by
    rcases hs _ hf with h1 | h1
    · exact h.n6 h1
    · have := h.bh.lt; omega, h.g5, h.g6, h.ne, h.below.trans (hc.below h.below.size h.own)⟩
/-- A store into some other block. -/
theorem KP.other {K : DiskKit} {w : World} {b c5 c6 : Nat} {S : DS} {F : Nat → Prop} {la : Nat → Nat} {ha : Nat → Bool} {V : World} (h : KP K w b c5 c6 S F la ha V) {g : Nat} (hg : w.heap.size ≤ g) (hF : ¬ F g) (h5 : g ≠ c5) (h6 : g ≠ c6) (o : Nat) (u : Value) : KP K w b c5 c6 S F la ha (V.setCell ⟨g, o, none⟩ u) := by
  have hc : Chg (fun k => k = g) V (V.setCell ⟨g, o, none⟩ u) := (Chg.refl (fun k => k = g) V).setCell (p := ⟨g, o, none⟩) (fun _ => rfl) _
  exact ⟨K.kept h.at_ hc (fun k hk e => hF (e ▸ hk)), h.own, hc.kept h.bl (fun e => h5 e.symm), hc.kept h.bh (fun e => h6 e.symm), h.n5, h.n6, h.g5, h.g6, h.ne, h.below.trans (hc.below h.below.size fun k hk => hk ▸ hg)⟩
theorem KP.setla {K : DiskKit} {w : World} {b c5 c6 : Nat} {S : DS} {F : Nat → Prop} {la : Nat → Nat} {ha : Nat → Bool} {V : World} (h : KP K w b c5 c6 S F la ha V) {m : Nat} (hm : m < 16) (y : Nat) : KP K w b c5 c6 S F (setF la m y) ha (V.setCell ⟨c5, m, none⟩ (.int .u8 (y : Int))) := by
  have hc : Chg (fun k => k = c5) V (V.setCell ⟨c5, m, none⟩ (.int .u8 (y : Int))) := (Chg.refl (fun k => k = c5) V).setCell (p := ⟨c5, m, none⟩) (fun _ => rfl) _
  exact ⟨K.kept h.at_ hc (fun k hk e => h.n5 (e ▸ hk)), h.own, by rw [← arrC_set .u8 la y hm]; exact h.bl.set m _, hc.kept h.bh (fun e => h.ne e.symm), h.n5, h.n6, h.g5, h.g6, h.ne, h.below.trans (hc.below h.below.size fun k hk => hk ▸ h.g5)⟩
theorem KP.setha {K : DiskKit} {w : World} {b c5 c6 : Nat} {S : DS} {F : Nat → Prop} {la : Nat → Nat} {ha : Nat → Bool} {V : World} (h : KP K w b c5 c6 S F la ha V) {m : Nat} (hm : m < 16) : KP K w b c5 c6 S F la (setH ha m) (V.setCell ⟨c6, m, none⟩ (.bool true)) := by
  have hc : Chg (fun k => k = c6) V (V.setCell ⟨c6, m, none⟩ (.bool true)) := (Chg.refl (fun k => k = c6) V).setCell (p := ⟨c6, m, none⟩) (fun _ => rfl) _
  exact ⟨K.kept h.at_ hc (fun k hk e => h.n6 (e ▸ hk)), h.own, hc.kept h.bl h.ne, by rw [← boolC_set ha hm]; exact h.bh.set m _, h.n5, h.n6, h.g5, h.g6, h.ne, h.below.trans (hc.below h.below.size fun k hk => hk ▸ h.g6)⟩
/-- What the disk holds. -/
structure KS (S : DS) (la : Nat → Nat) (ha : Nat → Bool) (k : Nat) : Prop where
  ok : DSOk S
  n : S.len = 16
  off : S.off = false
  fuse : S.fuse = -1
  wr : S.wr = k
  has : ∀ t, t < 16 → blockL S t = if ha t then risingL (la t) 128 else zerosB 128
theorem KS.new : KS (DS.new 16) (fun _ => 0) (fun _ => false) 0 :=
  ⟨DSOk.new (by decide), DS.new_len 16, rfl, rfl, rfl, fun t ht => by
    simp only [blockL, DS.new, zerosB, Bool.false_eq_true, if_false]
    rw [List.drop_replicate, List.take_replicate]
    congr 1; omega⟩
theorem KS.write {S : DS} {la : Nat → Nat} {ha : Nat → Bool} {k : Nat} (h : KS S la ha k) {m : Nat} (hm : m < 16) (y : Nat) : KS (writeS S m (risingL y 128)) (setF la m y) (setH ha m) (k + 1) := by
  have hl := risingL_length y 128
  have hlen := h.ok.len
  have hw := writeS_ok (S := S) (i := m) (l := risingL y 128) (by rw [h.n]; exact hm) hl h.off h.fuse
  refine ⟨h.ok.write _ _, write_n8 h.ok _ _ h.n, by rw [hw], by rw [hw], by rw [hw]; show S.wr + 1 = _; rw [h.wr]; simp, fun t ht => ?_⟩
  rw [hw]
  show ((putL S.all (128 * m) (risingL y 128)).drop (128 * t)).take 128 = _
  rw [block_put hl (by rw [hlen, h.n]; omega)]
  unfold setF setH
  by_cases e : t = m
  · rw [if_pos e, if_pos e, if_pos e, if_pos rfl]
  · rw [if_neg e, if_neg e, if_neg e]; exact h.has t ht
theorem KS.read {S : DS} {la : Nat → Nat} {ha : Nat → Bool} {k : Nat} (h : KS S la ha k) {t : Nat} (ht : t < 16) : readE S t = 0 ∧ readL S t = if ha t then risingL (la t) 128 else zerosB 128 := by
  have h1 : readE S t = 0 := by unfold readE; rw [hasD_iff.2 ⟨by omega, by rw [h.n]; omega⟩, h.off]; rfl
  refine ⟨h1, ?_⟩
  unfold readL
  rw [if_pos h1, Int.toNat_natCast]
  exact h.has t ht
/-- While what was read is looked at. -/
structure K17 (K : DiskKit) (w : World) (b c5 c6 : Nat) (S : DS) (F : Nat → Prop) (la : Nat → Nat) (ha : Nat → Bool) (gx cx bl off k y : Nat) (tx : TypeId) (nx : Nat) (V : World) : Prop where
  kp : KP K w b c5 c6 S F la ha V
  row : V.ownsRow nx tx 1 (.slice (some ⟨gx, 0, none⟩) 128 cx) 128 (bvs (risingL y 128))
  q1 : V.cell? ⟨bl, off + k * 2 + 1, none⟩ = some (.int .u8 (y : Int))
theorem K17.step {K : DiskKit} {w : World} {b c5 c6 : Nat} {S : DS} {F : Nat → Prop} {la : Nat → Nat} {ha : Nat → Bool} {gx cx bl off k y : Nat} {tx : TypeId} {nx : Nat} {V V' : World} (h : K17 K w b c5 c6 S F la ha gx cx bl off k y tx nx V) (hB : Below V.heap.size V V') : K17 K w b c5 c6 S F la ha gx cx bl off k y tx nx V' :=
  ⟨h.kp.step hB, own_below h.row hB (Nat.le_refl _), (hB.cell (p := ⟨bl, off + k * 2 + 1, none⟩) (block_lt_of_cell h.q1)).trans h.q1⟩
theorem K17.drew {K : DiskKit} {w : World} {b c5 c6 : Nat} {S : DS} {F : Nat → Prop} {la : Nat → Nat} {ha : Nat → Bool} {gx cx bl off k y : Nat} {tx : TypeId} {nx : Nat} {V : World} (h : K17 K w b c5 c6 S F la ha gx cx bl off k y tx nx V) : K17 K w b c5 c6 S F la ha gx cx bl off k y tx nx V.drew := h.step (Below.refl _ _).drew
theorem K17.cell {K : DiskKit} {w : World} {b c5 c6 : Nat} {S : DS} {F : Nat → Prop} {la : Nat → Nat} {ha : Nat → Bool} {gx cx bl off k y : Nat} {tx : TypeId} {nx : Nat} {V : World} (h : K17 K w b c5 c6 S F la ha gx cx bl off k y tx nx V) {j : Nat} (hj : j < 128) : V.cell? ⟨gx, j, none⟩ = some (.int .u8 (((y : Int) + (j : Int)) % 256)) := by
  rw [h.row.cellAt j (by omega), bvs_get _ j (by rw [risingL_length]; exact hj), risingL_get _ _ _ hj]; simp
/-- While the last read is compared: L is what it must be. -/
structure K25 (K : DiskKit) (w : World) (b c5 c6 : Nat) (S : DS) (F : Nat → Prop) (la : Nat → Nat) (ha : Nat → Bool) (px : Option Addr) (cx : Nat) (L : List UInt8) (V : World) : Prop where
  kp : KP K w b c5 c6 S F la ha V
  rd : BsAt V px 128 cx L
theorem K25.step {K : DiskKit} {w : World} {b c5 c6 : Nat} {S : DS} {F : Nat → Prop} {la : Nat → Nat} {ha : Nat → Bool} {px : Option Addr} {cx : Nat} {L : List UInt8} {V V' : World} (h : K25 K w b c5 c6 S F la ha px cx L V) (hB : Below V.heap.size V V') : K25 K w b c5 c6 S F la ha px cx L V' := ⟨h.kp.step hB, h.rd.below hB (Nat.le_refl _)⟩
theorem K25.drew {K : DiskKit} {w : World} {b c5 c6 : Nat} {S : DS} {F : Nat → Prop} {la : Nat → Nat} {ha : Nat → Bool} {px : Option Addr} {cx : Nat} {L : List UInt8} {V : World} (h : K25 K w b c5 c6 S F la ha px cx L V) : K25 K w b c5 c6 S F la ha px cx L V.drew := h.step (Below.refl _ _).drew
def C25 (K : DiskKit) (w : World) (b c5 c6 : Nat) (S : DS) (F : Nat → Prop) (la : Nat → Nat) (ha : Nat → Bool) (px : Option Addr) (cx : Nat) (L : List UInt8) : List Value → World → Prop
  | [], V => K25 K w b c5 c6 S F la ha px cx L V
  | [a0], V => K25 K w b c5 c6 S F la ha px cx L V ∧ ∃ p c, a0 = .slice p 128 c ∧ BsAt V p 128 c L
  | _, _ => False
theorem C25_com {K : DiskKit} {w : World} {b c5 c6 : Nat} {S : DS} {F : Nat → Prop} {la : Nat → Nat} {ha : Nat → Bool} {px : Option Addr} {cx : Nat} {L : List UInt8} : ∀ (vs : List Value) (V : World), C25 K w b c5 c6 S F la ha px cx L vs V → K25 K w b c5 c6 S F la ha px cx L V
  | [], _, h => h
  | [_], _, h => h.1
  | _ :: _ :: _, _, h => h.elim
theorem C25_val {K : DiskKit} {w : World} {b c5 c6 : Nat} {S : DS} {F : Nat → Prop} {la : Nat → Nat} {ha : Nat → Bool} {px : Option Addr} {cx : Nat} {L : List UInt8} {vs : List Value} {V : World} (hn : 0 < vs.length) (h : C25 K w b c5 c6 S F la ha px cx L vs V) : ∃ p c, vs.getD 0 undef = .slice p 128 c ∧ BsAt V p 128 c L := by
  match vs, hn, h with
  | [a0], _, h => exact h.2
  | _ :: _ :: _, _, h => exact h.elim
theorem C25_end {K : DiskKit} {w : World} {b c5 c6 : Nat} {S : DS} {F : Nat → Prop} {la : Nat → Nat} {ha : Nat → Bool} {px : Option Addr} {cx : Nat} {L : List UInt8} {vs : List Value} {V : World} (h : C25 K w b c5 c6 S F la ha px cx L vs V) : KP K w b c5 c6 S F la ha V := (C25_com vs V h).kp
theorem leads_make_zeros {P : Program} {o : Oper} {a : Act} {w : World} {R : Value → World → Prop} (x y : Operand) (t : TypeId) (ho : o.op = .makeSlice t x y)
    (base e : Nat) (ht : P.underlying t = some (.slice e)) (hi : (P.info? e).map (fun i => (i.zero, i.size, i.bytes)) = some (some (.int .u8 0), 1, 1))
    {kl kc : IntKind} {ci di : Int} (c : Nat) (hx : a.eval x = .int kl ci) (hy : a.eval y = .int kc di) (hc : ci = (c : Int)) (hd : di = (c : Int)) (hsm : c ≤ 140737488355328) (hbase : base ≤ w.heap.size)
    (h : ∀ w', w'.ownsRow base e 1 (.slice (some ⟨w.heap.size, 0, none⟩) c c) (zerosB c).length (bvs (zerosB c)) → w.grownBy w' none → R (.slice (some ⟨w.heap.size, 0, none⟩) c c) w') : leads P o a w R := by
  obtain ⟨i, hi', hz0, hz1, hz2⟩ := info_parts hi
  subst hc; subst hd
  obtain ⟨w', hr, h2, h3⟩ := run_make_full (P := P) w base t e i (.int .u8 0) 1 ht hi' hz0 hz1 kl kc c (by rw [hz2]; omega) (by unfold maxLen; omega) hbase
  refine leads_value (v := .slice (some ⟨w.heap.size, 0, none⟩) c c) (w' := w') (by unfold execOp; simp only [ho, Sem.run_bind, Sem.run_pure, Result.andThen_ok, hx, hy, hr]) (h w' ?_ h3)
  have e1 : (madeCells (Value.int .u8 0).cells (c * 1)).toList = bvs (zerosB c) := by
    apply List.ext_getElem?
    intro k
    simp only [madeCells, bvs, zerosB, Value.cells, List.map_replicate, Nat.mul_one]
    by_cases hk : k < c
    · simp [hk, Nat.mod_one]
    · simp [hk]
  rw [e1] at h2
  rw [zerosB_length]
  exact h2

set_option maxRecDepth 100000 in
set_option maxHeartbeats 12800000 in
theorem dkeeps_any (K : DiskKit) (hAlive : DiskAliveC) (v : Value) (l : List (UInt8 × UInt8)) (w : World) (h : PbsAt w v l) :
    Calls Try.prog 5 #[v] w fun e w' => e = .returned (.bool true) ∧ Below w.heap.size w w' := by
  obtain ⟨p, cap, rfl, hm, hc⟩ := h
  have HC := Lib.hid hc
  have HAl := Lib.hid hAlive
  clear hc hAlive
  by_cases hl60 : 60 < l.length
  · go_enter Try.func5, Try.ntmps5
    go_wp2_with fail
    refine (HAl.out _).mono ?_
    rintro e w6 ⟨rfl, hB6⟩
    have HB6 := Lib.hid hB6
    clear hB6
    go_wp2_with fail
    go_ret
    exact ⟨rfl, HB6.out⟩
  · have HN := Lib.hid (K.newOk 16 w (by decide) (by decide))
    go_enter Try.func5, Try.ntmps5
    go_wp2_with fail
    refine HN.out.mono ?_
    rintro e w1 ⟨b, F, rfl, hA1, hF1, hB1⟩
    have HA1 := Lib.hid hA1
    have HF1 := Lib.hid hF1
    have HB1 := Lib.hid hB1
    clear hA1 hF1 hB1 HN
    unfold ptrV
    go_upto_region 8 with fail
    have HI0 := Lib.hid (show ∃ S F la ha, KP K w b w1.heap.size (w1.heap.size + 1) S F la ha ((w1.alloc (.cells #[.int .u8 0, .int .u8 0, .int .u8 0, .int .u8 0, .int .u8 0, .int .u8 0, .int .u8 0, .int .u8 0, .int .u8 0, .int .u8 0, .int .u8 0, .int .u8 0, .int .u8 0, .int .u8 0, .int .u8 0, .int .u8 0] 51)).alloc (.cells #[.bool false, .bool false, .bool false, .bool false, .bool false, .bool false, .bool false, .bool false, .bool false, .bool false, .bool false, .bool false, .bool false, .bool false, .bool false, .bool false] 52)) ∧ KS S la ha 0 from by
      have hlt := (K.lt HA1.out).2
      have hB2 : Below w1.heap.size w1 ((w1.alloc (.cells #[.int .u8 0, .int .u8 0, .int .u8 0, .int .u8 0, .int .u8 0, .int .u8 0, .int .u8 0, .int .u8 0, .int .u8 0, .int .u8 0, .int .u8 0, .int .u8 0, .int .u8 0, .int .u8 0, .int .u8 0, .int .u8 0] 51)).alloc (.cells #[.bool false, .bool false, .bool false, .bool false, .bool false, .bool false, .bool false, .bool false, .bool false, .bool false, .bool false, .bool false, .bool false, .bool false, .bool false, .bool false] 52)) := (belowNew w1 _).alloc (by simp) _
      refine ⟨DS.new 16, F, fun _ => 0, fun _ => false, ⟨DiskKit.below HA1.out hB2, HF1.out, (Blk.new w1 _ _).alloc _, ?_, fun hf => by have := hlt _ hf; omega, fun hf => by have := hlt _ hf; omega, HB1.out.size, by have := HB1.out.size; omega, by omega, HB1.out.trans (hB2.mono HB1.out.size)⟩, KS.new⟩
      have := Blk.new (w1.alloc (.cells #[.int .u8 0, .int .u8 0, .int .u8 0, .int .u8 0, .int .u8 0, .int .u8 0, .int .u8 0, .int .u8 0, .int .u8 0, .int .u8 0, .int .u8 0, .int .u8 0, .int .u8 0, .int .u8 0, .int .u8 0, .int .u8 0] 51)) #[.bool false, .bool false, .bool false, .bool false, .bool false, .bool false, .bool false, .bool false, .bool false, .bool false, .bool false, .bool false, .bool false, .bool false, .bool false, .bool false] 52
      simp only [World.size_alloc] at this
      exact this)
    clear HA1 HF1 HB1
    generalize hc6 : w1.heap.size + 1 = c6 at *
    clear hc6
    generalize w1.heap.size = c5 at *
    go_upto_region 9 with fail
    go_loopw [7] (fun i wr => ∃ k : Nat, k ≤ l.length ∧ i = .int .i64 k ∧ ∃ S F la ha, KP K w b c5 c6 S F la ha wr ∧ KS S la ha k) (fun i _ => l.length - (intOf i).toNat)
    case atStart => exact ⟨0, Nat.zero_le _, rfl, HI0.out⟩
    case round =>
      obtain ⟨k, hk, rfl, S, F, la, ha, hI, hS⟩ := hrel
      have HI := Lib.hid hI
      have HS := Lib.hid hS
      clear hI hS HI0
      by_cases hlt : k < l.length
      · obtain ⟨bl, off, rfl, hbl, hcs⟩ := HC.out (by intro e; rw [e] at hlt; simp at hlt)
        obtain ⟨q0, q1⟩ := hcs k hlt
        have HQ1 := Lib.hid (fun V (hV : Below w.heap.size w V) => (hV.cell (p := ⟨bl, off + k * 2 + 1, none⟩) hbl).trans q1)
        have j0 := (HI.out.below.cell (p := ⟨bl, off + k * 2, none⟩) hbl).trans q0
        have j1 := HQ1.out wr HI.out.below
        have hy := l[k].2.toNat_lt
        clear hcs q0 q1
        generalize l[k].1.toNat = z1 at *
        generalize l[k].2.toNat = y at *
        obtain ⟨m, hm⟩ : ∃ m, z1 % 16 = m := ⟨_, rfl⟩
        have hm2 : (z1 : Int) % 16 = (m : Int) := by omega
        have hm16 : m < 16 := by omega
        clear hm
        have HBy := Lib.hid (rdBytes_any 0 0 0 y 0 wr (by decide) (by decide))
        go_upto_region 12 with fail
        go_wp2_with fail
        refine HBy.out.mono ?_
        rintro e w2 ⟨p2, c2, rfl, hR2, hB2⟩
        rw [act_byte] at hR2
        rw [act_byte]
        have hl2 : (risingL y 128).length = 128 := risingL_length _ _
        obtain ⟨gb, rfl, hby⟩ := row_byte hR2 (by rw [hl2]; decide)
        have HR2 := Lib.hid hR2
        have HI2 := Lib.hid (HI.out.step hB2)
        have hgb := hR2.lt gb rfl
        have HW := Lib.hid (K.write (m : Int) HI2.out.at_ HS.out.ok (by rw [HS.out.wr]; omega) (BsAt.ofRow hR2 |> fun ⟨q, d, e, hb⟩ => by rw [Value.slice.injEq] at e; obtain ⟨rfl, -, rfl⟩ := e; exact hb) (fresh_apart hR2 (K.lt HI.out.at_).2))
        have HE := Lib.hid (writeE_ok (S := S) (i := m) (l := risingL y 128) (by rw [HS.out.n]; exact hm16) hl2 HS.out.off HS.out.fuse)
        rw [hl2] at HW
        rw [hl2]
        have hFlt : ∀ j, F j → j < wr.heap.size := (K.lt HI.out.at_).2
        have hgF : ¬ F gb := fun hf => by have := hFlt _ hf; omega
        have hg5 : gb ≠ c5 := by have := HI.out.bl.lt; omega
        have hg6 : gb ≠ c6 := by have := HI.out.bh.lt; omega
        have hgw : w.heap.size ≤ gb := by have := HI.out.below.size; omega
        clear hB2 hby hFlt HBy j0 j1
        go_upto_region 13 with fail
        go_wp2_with fail
        refine HW.out.mono ?_
        rintro e w3 ⟨F3, rfl, hA3, hs3, hc3⟩
        rw [HE.out]
        have HI3 := Lib.hid (HI2.out.to hA3 hs3 hc3)
        have HR3 := Lib.hid (own_chg HR2.out hc3 (fun k hk => by cases hk; exact hgF))
        have hgF3 : ¬ F3 gb := fun hf => by
          rcases hs3 _ hf with h1 | h1
          · exact hgF h1
          · have := hgb.2; omega
        rw [hl2] at HR3
        have f0 := HR3.out.frozenAt 0
        have c0 : w3.cell? ⟨gb, 0, none⟩ = some (.int .u8 (y : Int)) := by
          rw [HR3.out.cellAt 0 (by decide), bvs_get _ 0 (by rw [hl2]; decide), risingL_get _ _ _ (by decide)]; simp; omega
        have HI4 := Lib.hid (HI3.out.other hgw hgF3 hg5 hg6 0 (.int .u8 (((y : Int) + 1) % 256)))
        clear hA3 hs3 hc3 HW HR2 HI2 hgb hgF HR3
        go_upto_region 16 with fail
        clear c0 f0
        generalize w3.setCell ⟨gb, 0, none⟩ (.int .u8 (((y : Int) + 1) % 256)) = w4 at *
        have HSw := Lib.hid (HS.out.write hm16 y)
        have HRd := Lib.hid (K.read (m : Int) HI4.out.at_ HSw.out.ok)
        have HRr := Lib.hid (HSw.out.read hm16)
        go_wp2_with fail
        refine HRd.out.mono ?_
        rintro e w5 ⟨px, cx, rfl, ⟨tx, hRx⟩, hBx⟩
        rw [HRr.out.1]
        have hrl : readL (writeS S m (risingL y 128)) m = risingL y 128 := by rw [HRr.out.2]; simp [setH, setF]
        rw [hrl] at hRx
        rw [hrl, hl2]
        obtain ⟨gx, rfl, -⟩ := row_byte hRx (by rw [hl2]; decide)
        have hgx := hRx.lt gx rfl
        rw [hl2] at hRx
        have HI5 := Lib.hid (show K17 K w b c5 c6 (writeS S m (risingL y 128)) F3 la ha gx cx bl off k y tx w4.heap.size w5 from ⟨HI4.out.step hBx, hRx, HQ1.out w5 (HI4.out.step hBx).below⟩)
        have hx5 : gx ≠ c5 := by have := HI4.out.bl.lt; omega
        have hx6 : gx ≠ c6 := by have := HI4.out.bh.lt; omega
        have hxw : w.heap.size ≤ gx := by have := HI4.out.below.size; omega
        have hxF : ¬ F3 gx := fun hf => by have := (K.lt HI4.out.at_).2 _ hf; omega
        clear hRx hBx hrl HRd HRr HI4 HI3 HI HS HE hgx hgw hgF3 hg5 hg6 hl2
        generalize writeS S m (risingL y 128) = S' at *
        go_upto_region 17 with fail
        refine wp_region_S (fun _ V => K17 K w b c5 c6 S' F3 la ha gx cx bl off k y tx w4.heap.size V) 0 [.val (.int .i64 0), .val (.bool false), .val (.bool false), .val (.slice (some ⟨gx, 0, none⟩) 128 cx), .val (.int .i64 128), .val (.bool false), .val (.bool false), .val (.bool false), .val (.slice (some ⟨gx, 0, none⟩) 128 cx), .val (.pointer (some ⟨gx, 0, none⟩)), .val (.int .u8 (y : Int)), .val (.slice (some ⟨bl, off, none⟩) l.length cap), .val (.int .i64 (k : Int)), .val (.pointer (some ⟨bl, off + k * 2, none⟩)), .val (.pointer (some ⟨bl, off + k * 2 + 1, none⟩)), .val (.int .u8 (y : Int)), .val (.bool false), .val (.bool false)]
          (fun x => { tmps := #[.slice (some ⟨bl, off, none⟩) l.length cap, undef, u2, .pointer (some ⟨b, 0, none⟩), .int .i64 0, .pointer (some ⟨c5, 0, none⟩), .pointer (some ⟨c6, 0, none⟩), .int .i64 (k : Int), .int .i64 (m : Int), .slice (some ⟨gb, 0, none⟩) 128 c2, .slice (some ⟨gx, 0, none⟩) 128 cx, .int .i64 0, undef, undef, undef, .slice (some ⟨bl, off, none⟩) l.length cap, .int .i64 (l.length : Int), .bool (decide (60 < (l.length : Int))), undef, .tuple #[.pointer (some ⟨b, 0, none⟩), .int .i64 0], .tuple #[.pointer (some ⟨b, 0, none⟩), .int .i64 0], .pointer (some ⟨b, 0, none⟩), .int .i64 0, .pointer (some ⟨b, 0, none⟩), .bool false, .int .i64 (k : Int), .slice (some ⟨bl, off, none⟩) l.length cap, .int .i64 (l.length : Int), .bool true, u29, u30, .slice (some ⟨bl, off, none⟩) l.length cap, .int .i64 (k : Int), .pointer (some ⟨bl, off + k * 2, none⟩), .pointer (some ⟨bl, off + k * 2, none⟩), .int .u8 (z1 : Int), .int .u8 (m : Int), .int .i64 (m : Int), .slice (some ⟨bl, off, none⟩) l.length cap, .int .i64 (k : Int), .pointer (some ⟨bl, off + k * 2, none⟩), .pointer (some ⟨bl, off + k * 2 + 1, none⟩), .int .u8 (y : Int), .agg #[.int .u8 0, .int .i64 0, .int .i64 0, .int .u8 (y : Int), .int .i8 0], .slice (some ⟨gb, 0, none⟩) 128 c2, .pointer (some ⟨b, 0, none⟩), .int .i64 (m : Int), .slice (some ⟨gb, 0, none⟩) 128 c2, .int .i64 0, .bool false, .slice (some ⟨gb, 0, none⟩) 128 c2, .pointer (some ⟨gb, 0, none⟩), .int .u8 (y : Int), .int .u8 (((y : Int) + 1) % 256), .pointer (some ⟨gb, 0, none⟩), .tuple #[.slice (some ⟨gx, 0, none⟩) 128 cx, .int .i64 0], .pointer (some ⟨b, 0, none⟩), .int .i64 (m : Int), .tuple #[.slice (some ⟨gx, 0, none⟩) 128 cx, .int .i64 0], .slice (some ⟨gx, 0, none⟩) 128 cx, .int .i64 0, x 0, x 1, x 2, x 3, x 4, x 5, x 6, x 7, x 8, x 9, x 10, x 11, x 12, x 13, x 14, x 15, x 16, x 17, u79, u80, u81, u82, u83, u84, u85, u86, u87, u88, u89, u90, u91, u92, undef, undef, undef, undef, undef, undef, undef, undef, undef, undef, undef, undef, undef, undef, undef, undef, undef, undef, undef, undef, undef, undef, undef, undef, undef, undef, undef, undef, undef, undef, undef, undef, undef, undef, undef, undef, undef, undef, undef, undef, undef, undef, undef, undef, undef, undef, undef, undef, undef], defers := [] }) (fun i => ([u61, u62, u63, u64, u65, u66, u67, u68, u69, u70, u71, u72, u73, u74, u75, u76, u77, u78] : List Value).getD i undef) (by kernel_rfl) rfl rfl (by kernel_rfl) (by kernel_rfl) (by kernel_rfl) (by kernel_rfl) (HI5.out.drew) ?_ ?_
        · refine ⟨ObS.of_val rfl (fun x v => rfl) (fun x V kst hC hD => ?_), ?_⟩
          · clear hD
            refine want_yes rfl ?_
            exact leads_value (v := .int .i64 0) (by go_simp) ⟨rfl, hC⟩
          refine ⟨ObS.of_val rfl (fun x v => rfl) (fun x V kst hC hD => ?_), ?_⟩
          · have e0 : x 0 = .int .i64 0 := hD.1 rfl
            clear hD
            refine want_yes rfl ?_
            exact leads_value (v := .bool false) (by go_simp) ⟨rfl, hC⟩
          refine ⟨ObS.of_val rfl (fun x v => rfl) (fun x V kst hC hD => ?_), ?_⟩
          · have e1 : x 1 = .bool false := hD.1 rfl
            clear hD
            refine want_yes rfl ?_
            exact leads_value (v := .bool false) (by go_simp) ⟨rfl, hC⟩
          refine ⟨ObS.of_val rfl (fun x v => rfl) (fun x V kst hC hD => ?_), ?_⟩
          · have e2 : x 2 = .bool false := hD.1 rfl
            clear hD
            refine want_yes (by simp [Region.wanted, yielded, e2]) ?_
            exact leads_value (v := .slice (some ⟨gx, 0, none⟩) 128 cx) (by go_simp) ⟨rfl, hC⟩
          refine ⟨ObS.of_val rfl (fun x v => rfl) (fun x V kst hC hD => ?_), ?_⟩
          · have e3 : x 3 = .slice (some ⟨gx, 0, none⟩) 128 cx := hD.1 rfl
            have e2 : x 2 = .bool false := hD.2.1 rfl
            clear hD
            refine want_yes (by simp [Region.wanted, yielded, e2]) ?_
            exact leads_value (v := .int .i64 128) (by go_simp) ⟨rfl, hC⟩
          refine ⟨ObS.of_val rfl (fun x v => rfl) (fun x V kst hC hD => ?_), ?_⟩
          · have e4 : x 4 = .int .i64 128 := hD.1 rfl
            have e2 : x 2 = .bool false := hD.2.1 rfl
            clear hD
            refine want_yes (by simp [Region.wanted, yielded, e2]) ?_
            exact leads_value (v := .bool false) (by go_simp) ⟨rfl, hC⟩
          refine ⟨ObS.of_val rfl (fun x v => rfl) (fun x V kst hC hD => ?_), ?_⟩
          · have e2 : x 2 = .bool false := hD.1 rfl
            have e5 : x 5 = .bool false := hD.2.1 rfl
            clear hD
            refine want_yes rfl ?_
            exact leads_value (v := .bool false) (by go_simp) ⟨rfl, hC⟩
          refine ⟨ObS.of_val rfl (fun x v => rfl) (fun x V kst hC hD => ?_), ?_⟩
          · have e6 : x 6 = .bool false := hD.1 rfl
            have e2 : x 2 = .bool false := hD.2.1 rfl
            clear hD
            refine want_yes rfl ?_
            exact leads_value (v := .bool false) (by go_simp) ⟨rfl, hC⟩
          refine ⟨ObS.of_val rfl (fun x v => rfl) (fun x V kst hC hD => ?_), ?_⟩
          · have e7 : x 7 = .bool false := hD.1 rfl
            clear hD
            refine want_yes (by simp [Region.wanted, yielded, e7]) ?_
            exact leads_value (v := .slice (some ⟨gx, 0, none⟩) 128 cx) (by go_simp) ⟨rfl, hC⟩
          refine ⟨ObS.of_val rfl (fun x v => rfl) (fun x V kst hC hD => ?_), ?_⟩
          · have e8 : x 8 = .slice (some ⟨gx, 0, none⟩) 128 cx := hD.1 rfl
            have e7 : x 7 = .bool false := hD.2.1 rfl
            clear hD
            refine want_yes (by simp [Region.wanted, yielded, e7]) ?_
            exact leads_value (v := .pointer (some ⟨gx, 0, none⟩)) (by go_simp) ⟨rfl, hC⟩
          refine ⟨ObS.of_val rfl (fun x v => rfl) (fun x V kst hC hD => ?_), ?_⟩
          · have e9 : x 9 = .pointer (some ⟨gx, 0, none⟩) := hD.1 rfl
            have e7 : x 7 = .bool false := hD.2.1 rfl
            clear hD
            refine want_yes (by simp [Region.wanted, yielded, e7]) ?_
            have k0 := hC.cell (j := 0) (by decide)
            rw [show ((y : Int) + ((0 : Nat) : Int)) % 256 = (y : Int) by omega] at k0
            exact leads_value (v := .int .u8 (y : Int)) (by go_simp) ⟨rfl, hC⟩
          refine ⟨ObS.of_val rfl (fun x v => rfl) (fun x V kst hC hD => ?_), ?_⟩
          · have e7 : x 7 = .bool false := hD.1 rfl
            clear hD
            refine want_yes (by simp [Region.wanted, yielded, e7]) ?_
            exact leads_value (v := .slice (some ⟨bl, off, none⟩) l.length cap) (by go_simp) ⟨rfl, hC⟩
          refine ⟨ObS.of_val rfl (fun x v => rfl) (fun x V kst hC hD => ?_), ?_⟩
          · have e7 : x 7 = .bool false := hD.1 rfl
            clear hD
            refine want_yes (by simp [Region.wanted, yielded, e7]) ?_
            exact leads_value (v := .int .i64 (k : Int)) (by go_simp) ⟨rfl, hC⟩
          refine ⟨ObS.of_val rfl (fun x v => rfl) (fun x V kst hC hD => ?_), ?_⟩
          · have e11 : x 11 = .slice (some ⟨bl, off, none⟩) l.length cap := hD.1 rfl
            have e12 : x 12 = .int .i64 (k : Int) := hD.2.1 rfl
            have e7 : x 7 = .bool false := hD.2.2.1 rfl
            clear hD
            refine want_yes (by simp [Region.wanted, yielded, e7]) ?_
            exact leads_value (v := .pointer (some ⟨bl, off + k * 2, none⟩)) (by go_simp) ⟨rfl, hC⟩
          refine ⟨ObS.of_val rfl (fun x v => rfl) (fun x V kst hC hD => ?_), ?_⟩
          · have e13 : x 13 = .pointer (some ⟨bl, off + k * 2, none⟩) := hD.1 rfl
            have e7 : x 7 = .bool false := hD.2.1 rfl
            clear hD
            refine want_yes (by simp [Region.wanted, yielded, e7]) ?_
            exact leads_value (v := .pointer (some ⟨bl, off + k * 2 + 1, none⟩)) (by go_simp) ⟨rfl, hC⟩
          refine ⟨ObS.of_val rfl (fun x v => rfl) (fun x V kst hC hD => ?_), ?_⟩
          · have e14 : x 14 = .pointer (some ⟨bl, off + k * 2 + 1, none⟩) := hD.1 rfl
            have e7 : x 7 = .bool false := hD.2.1 rfl
            clear hD
            refine want_yes (by simp [Region.wanted, yielded, e7]) ?_
            have k0 := hC.q1
            exact leads_value (v := .int .u8 (y : Int)) (by go_simp) ⟨rfl, hC⟩
          refine ⟨ObS.of_val rfl (fun x v => rfl) (fun x V kst hC hD => ?_), ?_⟩
          · have e10 : x 10 = .int .u8 (y : Int) := hD.1 rfl
            have e15 : x 15 = .int .u8 (y : Int) := hD.2.1 rfl
            have e7 : x 7 = .bool false := hD.2.2.1 rfl
            clear hD
            refine want_yes (by simp [Region.wanted, yielded, e7]) ?_
            exact leads_value (v := .bool false) (by go_simp) ⟨rfl, hC⟩
          refine ⟨ObS.of_val rfl (fun x v => rfl) (fun x V kst hC hD => ?_), ?_⟩
          · have e7 : x 7 = .bool false := hD.1 rfl
            have e16 : x 16 = .bool false := hD.2.1 rfl
            clear hD
            refine want_yes rfl ?_
            exact leads_value (v := .bool false) (by go_simp) ⟨rfl, hC⟩
          trivial
        · intro xa V hD hx
          have HD := Lib.hid (show K17 K w b c5 c6 S' F3 la ha gx cx bl off k y tx w4.heap.size V from hD)
          have e17 : xa 17 = .bool false := hx 17 (by simp)
          clear hx hD
          rw [e17]
          clear e17
          have c5x := HD.out.cell (j := 5) (by decide)
          have f5 := HD.out.row.frozenAt 5
          have s5 : V.cell? ⟨gx, 5, none⟩ = some (.int .u8 (((y : Int) + 5) % 256)) := c5x
          clear c5x
          have H6 := Lib.hid (HD.out.kp.other hxw hxF hx5 hx6 5 (.int .u8 (((y : Int) + 5 + 1) % 256)))
          have q1 := HD.out.q1
          go_upto_region 19 with fail
          go_upto_region 20 with fail
          clear s5 f5 q1 HI5
          generalize V.setCell ⟨gx, 5, none⟩ (.int .u8 (((y : Int) + 5 + 1) % 256)) = w6 at *
          have q1 := HQ1.out w6 H6.out.below
          have a1 : w6.cell? ⟨c5, m, none⟩ = some (.int .u8 (la m : Int)) := by rw [H6.out.bl.cell, arrC_get _ _ hm16]
          have f1 := H6.out.bl.free m
          have H7 := Lib.hid (H6.out.setla hm16 y)
          have a2 : (w6.setCell ⟨c5, m, none⟩ (.int .u8 (y : Int))).cell? ⟨c6, m, none⟩ = some (.bool (ha m)) := by rw [H7.out.bh.cell, boolC_get _ hm16]
          have f2 := H7.out.bh.free m
          have H8 := Lib.hid (H7.out.setha hm16)
          go_wp2_with fail
          go_roundw
          case rel => exact ⟨k + 1, by omega, by go_num, S', F3, setF la m y, setH ha m, H8.out, HSw.out⟩
          case measure => simp [intOf]; omega
      · obtain rfl : k = l.length := by omega
        go_upto_region 22 with fail
        go_loopw [12] (fun i wx => ∃ t : Nat, t ≤ 16 ∧ i = .int .i64 t ∧ KP K w b c5 c6 S F la ha wx) (fun i _ => 16 - (intOf i).toNat)
        case atStart => exact ⟨0, Nat.zero_le _, rfl, HI.out⟩
        case round =>
          obtain ⟨t, ht, rfl, hT⟩ := hrel
          have HT := Lib.hid hT
          clear hT HI
          by_cases ht16 : t < 16
          · have HRd := Lib.hid (K.read (t : Int) HT.out.at_ HS.out.ok)
            have HRr := Lib.hid (HS.out.read ht16)
            go_upto_region 24 with fail
            go_wp2_with fail
            refine HRd.out.mono ?_
            rintro e w5 ⟨px, cx, rfl, ⟨tx, hRx⟩, hBx⟩
            rw [HRr.out.1]
            have HTx := Lib.hid (HT.out.step hBx)
            clear HRd
            cases hha : ha t with
            | true =>
              have hrl : readL S t = risingL (la t) 128 := by rw [HRr.out.2, hha]; rfl
              rw [hrl] at hRx
              rw [hrl, risingL_length]
              obtain ⟨q5, d5, e5, hbx⟩ := BsAt.ofRow hRx
              rw [Value.slice.injEq] at e5
              obtain ⟨rfl, -, rfl⟩ := e5
              rw [risingL_length] at hbx
              have T0 := Lib.hid (show K25 K w b c5 c6 S F la ha px cx (risingL (la t) 128) w5 from ⟨HTx.out, hbx⟩)
              have HHa := Lib.hid hha
              have HCom := Lib.hid (@C25_com K w b c5 c6 S F la ha px cx (risingL (la t) 128))
              clear hRx hbx hrl HRr hBx HT HTx hha
              go_upto_region 25 with fail
              refine wp_region_L (C25 K w b c5 c6 S F la ha px cx (risingL (la t) 128)) 1 [.val (.int .i64 0), .val (.bool false), .val (.bool false), .val (.int .i64 (t : Int)), .val (.pointer (some ⟨c6, t, none⟩)), .val (.bool true), .val (.bool true), .val (.slice px 128 cx), .val (.string ⟨(risingL (la t) 128).toArray⟩), .val (.int .i64 (t : Int)), .val (.pointer (some ⟨c5, t, none⟩)), .val (.int .u8 (la t : Int)), .val (.agg #[.int .u8 0, .int .i64 0, .int .i64 0, .int .u8 (la t : Int), .int .i8 0]), .turn 0, .val (.string ⟨(risingL (la t) 128).toArray⟩), .val (.bool false), .val (.bool false), .val (.bool false), .val (.bool false), .val (.int .i64 (t : Int)), .val (.pointer (some ⟨c6, t, none⟩)), .val (.bool true), .val (.bool false), .val (.bool false), .val undef, .val undef, .val undef, .val undef, .val undef, .val (.bool false), .val (.bool false)]
                (fun x => { tmps := #[.slice p l.length cap, undef, u2, .pointer (some ⟨b, 0, none⟩), .int .i64 0, .pointer (some ⟨c5, 0, none⟩), .pointer (some ⟨c6, 0, none⟩), .int .i64 (l.length : Int), u8, u9, u10, u11, .int .i64 (t : Int), .slice px 128 cx, .int .i64 0, .slice p l.length cap, .int .i64 (l.length : Int), .bool (decide (60 < (l.length : Int))), undef, .tuple #[.pointer (some ⟨b, 0, none⟩), .int .i64 0], .tuple #[.pointer (some ⟨b, 0, none⟩), .int .i64 0], .pointer (some ⟨b, 0, none⟩), .int .i64 0, .pointer (some ⟨b, 0, none⟩), .bool false, .int .i64 (l.length : Int), .slice p l.length cap, .int .i64 (l.length : Int), .bool false, u29, u30, u31, u32, u33, u34, u35, u36, u37, u38, u39, u40, u41, u42, u43, u44, u45, u46, u47, u48, u49, u50, u51, u52, u53, u54, u55, u56, u57, u58, u59, u60, u61, u62, u63, u64, u65, u66, u67, u68, u69, u70, u71, u72, u73, u74, u75, u76, u77, u78, u79, u80, u81, u82, u83, u84, u85, u86, u87, u88, u89, u90, u91, u92, .int .i64 (t : Int), .bool true, u95, u96, .tuple #[.slice px 128 cx, .int .i64 0], .pointer (some ⟨b, 0, none⟩), .int .i64 (t : Int), .tuple #[.slice px 128 cx, .int .i64 0], .slice px 128 cx, .int .i64 0, x 0, x 1, x 2, x 3, x 4, x 5, x 6, x 7, x 8, x 9, x 10, x 11, x 12, x 13, x 14, x 15, x 16, x 17, x 18, x 19, x 20, x 21, x 22, x 23, x 24, x 25, x 26, x 27, x 28, x 29, x 30, undef, undef, undef, undef, undef, undef, undef, undef], defers := [] }) (fun i => ([u103, u104, u105, u106, u107, u108, u109, u110, u111, u112, u113, u114, u115, u116, u117, u118, u119, u120, u121, u122, u123, u124, u125, u126, u127, u128, u129, u130, u131, u132, u133] : List Value).getD i undef) (by kernel_rfl) rfl rfl (by kernel_rfl) (by kernel_rfl) (by kernel_rfl) (by kernel_rfl) (T0.out.drew) ?_ ?_
              · refine ⟨ObL.of_val rfl (fun x v => rfl) (fun x V vs hC hD => ?_), ?_⟩
                · clear hD
                  refine want_yes rfl ?_
                  exact leads_value (v := .int .i64 0) (by go_simp) ⟨rfl, hC⟩
                refine ⟨ObL.of_val rfl (fun x v => rfl) (fun x V vs hC hD => ?_), ?_⟩
                · have e0 : x 0 = .int .i64 0 := (hD.1 rfl).1
                  clear hD
                  refine want_yes rfl ?_
                  exact leads_value (v := .bool false) (by go_simp) ⟨rfl, hC⟩
                refine ⟨ObL.of_val rfl (fun x v => rfl) (fun x V vs hC hD => ?_), ?_⟩
                · have e1 : x 1 = .bool false := (hD.1 rfl).1
                  clear hD
                  refine want_yes rfl ?_
                  exact leads_value (v := .bool false) (by go_simp) ⟨rfl, hC⟩
                refine ⟨ObL.of_val rfl (fun x v => rfl) (fun x V vs hC hD => ?_), ?_⟩
                · have e2 : x 2 = .bool false := (hD.1 rfl).1
                  clear hD
                  refine want_yes (by simp [Region.wanted, yielded, e2]) ?_
                  exact leads_value (v := .int .i64 (t : Int)) (by go_simp) ⟨rfl, hC⟩
                refine ⟨ObL.of_val rfl (fun x v => rfl) (fun x V vs hC hD => ?_), ?_⟩
                · have e3 : x 3 = .int .i64 (t : Int) := (hD.1 rfl).1
                  have e2 : x 2 = .bool false := (hD.2.1 rfl).1
                  clear hD
                  refine want_yes (by simp [Region.wanted, yielded, e2]) ?_
                  exact leads_value (v := .pointer (some ⟨c6, t, none⟩)) (by go_simp) ⟨rfl, hC⟩
                refine ⟨ObL.of_val rfl (fun x v => rfl) (fun x V vs hC hD => ?_), ?_⟩
                · have e4 : x 4 = .pointer (some ⟨c6, t, none⟩) := (hD.1 rfl).1
                  have e2 : x 2 = .bool false := (hD.2.1 rfl).1
                  clear hD
                  refine want_yes (by simp [Region.wanted, yielded, e2]) ?_
                  have k0 : V.cell? ⟨c6, t, none⟩ = some (.bool true) := by rw [(HCom.out vs V hC).kp.bh.cell, boolC_get _ ht16, HHa.out]
                  exact leads_value (v := .bool true) (by go_simp) ⟨rfl, hC⟩
                refine ⟨ObL.of_val rfl (fun x v => rfl) (fun x V vs hC hD => ?_), ?_⟩
                · have e5 : x 5 = .bool true := (hD.1 rfl).1
                  have e2 : x 2 = .bool false := (hD.2.1 rfl).1
                  clear hD
                  refine want_yes (by simp [Region.wanted, yielded, e2]) ?_
                  exact leads_value (v := .bool true) (by go_simp) ⟨rfl, hC⟩
                refine ⟨ObL.of_val rfl (fun x v => rfl) (fun x V vs hC hD => ?_), ?_⟩
                · have e6 : x 6 = .bool true := (hD.1 rfl).1
                  clear hD
                  refine want_yes (by simp [Region.wanted, yielded, e6]) ?_
                  exact leads_value (v := .slice px 128 cx) (by go_simp) ⟨rfl, hC⟩
                refine ⟨ObL.of_val rfl (fun x v => rfl) (fun x V vs hC hD => ?_), ?_⟩
                · have e7 : x 7 = .slice px 128 cx := (hD.1 rfl).1
                  have e6 : x 6 = .bool true := (hD.2.1 rfl).1
                  clear hD
                  refine want_yes (by simp [Region.wanted, yielded, e6]) ?_
                  have q := run_string_bs (P := Try.prog) V 29 5 9 Try.underlying29 Try.underlying5 Try.underlying9 (HCom.out vs V hC).rd
                  exact leads_value (v := .string ⟨(risingL (la t) 128).toArray⟩) (by go_simp) ⟨rfl, hC⟩
                refine ⟨ObL.of_val rfl (fun x v => rfl) (fun x V vs hC hD => ?_), ?_⟩
                · have e6 : x 6 = .bool true := (hD.1 rfl).1
                  clear hD
                  refine want_yes (by simp [Region.wanted, yielded, e6]) ?_
                  exact leads_value (v := .int .i64 (t : Int)) (by go_simp) ⟨rfl, hC⟩
                refine ⟨ObL.of_val rfl (fun x v => rfl) (fun x V vs hC hD => ?_), ?_⟩
                · have e9 : x 9 = .int .i64 (t : Int) := (hD.1 rfl).1
                  have e6 : x 6 = .bool true := (hD.2.1 rfl).1
                  clear hD
                  refine want_yes (by simp [Region.wanted, yielded, e6]) ?_
                  exact leads_value (v := .pointer (some ⟨c5, t, none⟩)) (by go_simp) ⟨rfl, hC⟩
                refine ⟨ObL.of_val rfl (fun x v => rfl) (fun x V vs hC hD => ?_), ?_⟩
                · have e10 : x 10 = .pointer (some ⟨c5, t, none⟩) := (hD.1 rfl).1
                  have e6 : x 6 = .bool true := (hD.2.1 rfl).1
                  clear hD
                  refine want_yes (by simp [Region.wanted, yielded, e6]) ?_
                  have k0 : V.cell? ⟨c5, t, none⟩ = some (.int .u8 (la t : Int)) := by rw [(HCom.out vs V hC).kp.bl.cell, arrC_get _ _ ht16]
                  exact leads_value (v := .int .u8 (la t : Int)) (by go_simp) ⟨rfl, hC⟩
                refine ⟨ObL.of_val rfl (fun x v => rfl) (fun x V vs hC hD => ?_), ?_⟩
                · have e11 : x 11 = .int .u8 (la t : Int) := (hD.1 rfl).1
                  have e6 : x 6 = .bool true := (hD.2.1 rfl).1
                  clear hD
                  refine want_yes (by simp [Region.wanted, yielded, e6]) ?_
                  exact leads_value (v := .agg #[.int .u8 0, .int .i64 0, .int .i64 0, .int .u8 (la t : Int), .int .i8 0]) (by go_simp) ⟨rfl, hC⟩
                refine ⟨ObL.of_turn rfl (fun x v => rfl) (fun x V vs hl hC hD => ?_), ?_⟩
                · obtain rfl := len_zero hl
                  have e12 : x 12 = .agg #[.int .u8 0, .int .i64 0, .int .i64 0, .int .u8 (la t : Int), .int .i8 0] := (hD.1 rfl).1
                  have e6 : x 6 = .bool true := (hD.2.1 rfl).1
                  clear hD
                  refine want_yes (by simp [Region.wanted, yielded, e6]) ?_
                  have hC : K25 K w b c5 c6 S F la ha px cx (risingL (la t) 128) V := hC
                  refine leads_enter2 (by go_simp) ((rdBytes_any 0 0 0 (la t) 0 V (by decide) (by decide)).mono fun e w'' hO => ?_)
                  obtain ⟨p3, c3, he, hr, hB⟩ := hO
                  obtain ⟨q, d', e1, hbs⟩ := BsAt.ofRow hr
                  rw [Value.slice.injEq] at e1
                  obtain ⟨rfl, -, rfl⟩ := e1
                  rw [act_byte, risingL_length] at he hbs
                  exact ⟨_, he, hC.step hB, p3, c3, rfl, hbs⟩
                refine ⟨ObL.of_val rfl (fun x v => rfl) (fun x V vs hC hD => ?_), ?_⟩
                · have e13 : x 13 = vs.getD 0 undef := (hD.1 rfl).1
                  have n13 : 0 < vs.length := (hD.1 rfl).2
                  have e6 : x 6 = .bool true := (hD.2.1 rfl).1
                  clear hD
                  refine want_yes (by simp [Region.wanted, yielded, e6]) ?_
                  obtain ⟨p3, c3, hv, hb3⟩ := C25_val n13 hC
                  rw [hv] at e13
                  have q := run_string_bs (P := Try.prog) V 29 5 9 Try.underlying29 Try.underlying5 Try.underlying9 hb3
                  clear n13
                  generalize vs.getD 0 undef = y0 at *
                  exact leads_value (v := .string ⟨(risingL (la t) 128).toArray⟩) (by go_simp) ⟨rfl, hC⟩
                refine ⟨ObL.of_val rfl (fun x v => rfl) (fun x V vs hC hD => ?_), ?_⟩
                · have e8 : x 8 = .string ⟨(risingL (la t) 128).toArray⟩ := (hD.1 rfl).1
                  have e14 : x 14 = .string ⟨(risingL (la t) 128).toArray⟩ := (hD.2.1 rfl).1
                  have e6 : x 6 = .bool true := (hD.2.2.1 rfl).1
                  clear hD
                  refine want_yes (by simp [Region.wanted, yielded, e6]) ?_
                  exact leads_value (v := .bool false) (by go_simp) ⟨rfl, hC⟩
                refine ⟨ObL.of_val rfl (fun x v => rfl) (fun x V vs hC hD => ?_), ?_⟩
                · have e6 : x 6 = .bool true := (hD.1 rfl).1
                  have e15 : x 15 = .bool false := (hD.2.1 rfl).1
                  have e2 : x 2 = .bool false := (hD.2.2.1 rfl).1
                  clear hD
                  refine want_yes (by simp [Region.wanted, yielded, e2]) ?_
                  exact leads_value (v := .bool false) (by go_simp) ⟨rfl, hC⟩
                refine ⟨ObL.of_val rfl (fun x v => rfl) (fun x V vs hC hD => ?_), ?_⟩
                · have e2 : x 2 = .bool false := (hD.1 rfl).1
                  have e16 : x 16 = .bool false := (hD.2.1 rfl).1
                  clear hD
                  refine want_yes rfl ?_
                  exact leads_value (v := .bool false) (by go_simp) ⟨rfl, hC⟩
                refine ⟨ObL.of_val rfl (fun x v => rfl) (fun x V vs hC hD => ?_), ?_⟩
                · have e17 : x 17 = .bool false := (hD.1 rfl).1
                  have e13 : x 13 = vs.getD 0 undef := (hD.2.1 rfl).1
                  have n13 : 0 < vs.length := (hD.2.1 rfl).2
                  clear hD
                  refine want_yes rfl ?_
                  clear n13
                  generalize vs.getD 0 undef = y0 at *
                  exact leads_value (v := .bool false) (by go_simp) ⟨rfl, hC⟩
                refine ⟨ObL.of_val rfl (fun x v => rfl) (fun x V vs hC hD => ?_), ?_⟩
                · have e18 : x 18 = .bool false := (hD.1 rfl).1
                  clear hD
                  refine want_yes (by simp [Region.wanted, yielded, e18]) ?_
                  exact leads_value (v := .int .i64 (t : Int)) (by go_simp) ⟨rfl, hC⟩
                refine ⟨ObL.of_val rfl (fun x v => rfl) (fun x V vs hC hD => ?_), ?_⟩
                · have e19 : x 19 = .int .i64 (t : Int) := (hD.1 rfl).1
                  have e18 : x 18 = .bool false := (hD.2.1 rfl).1
                  clear hD
                  refine want_yes (by simp [Region.wanted, yielded, e18]) ?_
                  exact leads_value (v := .pointer (some ⟨c6, t, none⟩)) (by go_simp) ⟨rfl, hC⟩
                refine ⟨ObL.of_val rfl (fun x v => rfl) (fun x V vs hC hD => ?_), ?_⟩
                · have e20 : x 20 = .pointer (some ⟨c6, t, none⟩) := (hD.1 rfl).1
                  have e18 : x 18 = .bool false := (hD.2.1 rfl).1
                  clear hD
                  refine want_yes (by simp [Region.wanted, yielded, e18]) ?_
                  have k0 : V.cell? ⟨c6, t, none⟩ = some (.bool true) := by rw [(HCom.out vs V hC).kp.bh.cell, boolC_get _ ht16, HHa.out]
                  exact leads_value (v := .bool true) (by go_simp) ⟨rfl, hC⟩
                refine ⟨ObL.of_val rfl (fun x v => rfl) (fun x V vs hC hD => ?_), ?_⟩
                · have e21 : x 21 = .bool true := (hD.1 rfl).1
                  have e18 : x 18 = .bool false := (hD.2.1 rfl).1
                  clear hD
                  refine want_yes (by simp [Region.wanted, yielded, e18]) ?_
                  exact leads_value (v := .bool false) (by go_simp) ⟨rfl, hC⟩
                refine ⟨ObL.of_val rfl (fun x v => rfl) (fun x V vs hC hD => ?_), ?_⟩
                · have e22 : x 22 = .bool false := (hD.1 rfl).1
                  have e18 : x 18 = .bool false := (hD.2.1 rfl).1
                  clear hD
                  refine want_yes (by simp [Region.wanted, yielded, e18]) ?_
                  exact leads_value (v := .bool false) (by go_simp) ⟨rfl, hC⟩
                refine ⟨ObL.of_val rfl (fun x v => rfl) (fun x V vs hC hD => ?_), ?_⟩
                · have e23 : x 23 = .bool false := (hD.1 rfl).1
                  clear hD
                  exact want_no (by simp [Region.wanted, yielded, e23]) rfl
                refine ⟨ObL.of_val rfl (fun x v => rfl) (fun x V vs hC hD => ?_), ?_⟩
                · have e24 : x 24 = undef := (hD.1 rfl).1
                  have e23 : x 23 = .bool false := (hD.2.1 rfl).1
                  clear hD
                  exact want_no (by simp [Region.wanted, yielded, e23]) rfl
                refine ⟨ObL.of_val rfl (fun x v => rfl) (fun x V vs hC hD => ?_), ?_⟩
                · have e23 : x 23 = .bool false := (hD.1 rfl).1
                  clear hD
                  exact want_no (by simp [Region.wanted, yielded, e23]) rfl
                refine ⟨ObL.of_val rfl (fun x v => rfl) (fun x V vs hC hD => ?_), ?_⟩
                · have e26 : x 26 = undef := (hD.1 rfl).1
                  have e23 : x 23 = .bool false := (hD.2.1 rfl).1
                  clear hD
                  exact want_no (by simp [Region.wanted, yielded, e23]) rfl
                refine ⟨ObL.of_val rfl (fun x v => rfl) (fun x V vs hC hD => ?_), ?_⟩
                · have e25 : x 25 = undef := (hD.1 rfl).1
                  have e27 : x 27 = undef := (hD.2.1 rfl).1
                  have e23 : x 23 = .bool false := (hD.2.2.1 rfl).1
                  clear hD
                  exact want_no (by simp [Region.wanted, yielded, e23]) rfl
                refine ⟨ObL.of_val rfl (fun x v => rfl) (fun x V vs hC hD => ?_), ?_⟩
                · have e23 : x 23 = .bool false := (hD.1 rfl).1
                  have e28 : x 28 = undef := (hD.2.1 rfl).1
                  have e18 : x 18 = .bool false := (hD.2.2.1 rfl).1
                  clear hD
                  refine want_yes (by simp [Region.wanted, yielded, e18]) ?_
                  exact leads_value (v := .bool false) (by go_simp) ⟨rfl, hC⟩
                refine ⟨ObL.of_val rfl (fun x v => rfl) (fun x V vs hC hD => ?_), ?_⟩
                · have e18 : x 18 = .bool false := (hD.1 rfl).1
                  have e29 : x 29 = .bool false := (hD.2.1 rfl).1
                  clear hD
                  refine want_yes rfl ?_
                  exact leads_value (v := .bool false) (by go_simp) ⟨rfl, hC⟩
                trivial
              · intro xb V vs hl hC hx
                have HD := Lib.hid (C25_end hC)
                have e30 : xb 30 = .bool false := hx 30 (by simp)
                clear hx hC
                rw [e30]
                clear e30
                go_wp2_with fail
                go_roundw
                case rel => exact ⟨t + 1, by omega, by go_num, HD.out⟩
                case measure => simp [intOf]; omega
            | false =>
              have hrl : readL S t = zerosB 128 := by rw [HRr.out.2, hha]; rfl
              rw [hrl] at hRx
              rw [hrl, zerosB_length]
              obtain ⟨q5, d5, e5, hbx⟩ := BsAt.ofRow hRx
              rw [Value.slice.injEq] at e5
              obtain ⟨rfl, -, rfl⟩ := e5
              rw [zerosB_length] at hbx
              have T0 := Lib.hid (show K25 K w b c5 c6 S F la ha px cx (zerosB 128) w5 from ⟨HTx.out, hbx⟩)
              have HHa := Lib.hid hha
              have HCom := Lib.hid (@C25_com K w b c5 c6 S F la ha px cx (zerosB 128))
              clear hRx hbx hrl HRr hBx HT HTx hha
              go_upto_region 25 with fail
              refine wp_region_L (C25 K w b c5 c6 S F la ha px cx (zerosB 128)) 1 [.val (.int .i64 0), .val (.bool false), .val (.bool false), .val (.int .i64 (t : Int)), .val (.pointer (some ⟨c6, t, none⟩)), .val (.bool false), .val (.bool false), .val undef, .val undef, .val undef, .val undef, .val undef, .val undef, .val undef, .val undef, .val undef, .val (.bool false), .val (.bool false), .val (.bool false), .val (.int .i64 (t : Int)), .val (.pointer (some ⟨c6, t, none⟩)), .val (.bool false), .val (.bool true), .val (.bool true), .val (.slice px 128 cx), .val (.string ⟨(zerosB 128).toArray⟩), .turn 0, .val (.string ⟨(zerosB 128).toArray⟩), .val (.bool false), .val (.bool false), .val (.bool false)]
                (fun x => { tmps := #[.slice p l.length cap, undef, u2, .pointer (some ⟨b, 0, none⟩), .int .i64 0, .pointer (some ⟨c5, 0, none⟩), .pointer (some ⟨c6, 0, none⟩), .int .i64 (l.length : Int), u8, u9, u10, u11, .int .i64 (t : Int), .slice px 128 cx, .int .i64 0, .slice p l.length cap, .int .i64 (l.length : Int), .bool (decide (60 < (l.length : Int))), undef, .tuple #[.pointer (some ⟨b, 0, none⟩), .int .i64 0], .tuple #[.pointer (some ⟨b, 0, none⟩), .int .i64 0], .pointer (some ⟨b, 0, none⟩), .int .i64 0, .pointer (some ⟨b, 0, none⟩), .bool false, .int .i64 (l.length : Int), .slice p l.length cap, .int .i64 (l.length : Int), .bool false, u29, u30, u31, u32, u33, u34, u35, u36, u37, u38, u39, u40, u41, u42, u43, u44, u45, u46, u47, u48, u49, u50, u51, u52, u53, u54, u55, u56, u57, u58, u59, u60, u61, u62, u63, u64, u65, u66, u67, u68, u69, u70, u71, u72, u73, u74, u75, u76, u77, u78, u79, u80, u81, u82, u83, u84, u85, u86, u87, u88, u89, u90, u91, u92, .int .i64 (t : Int), .bool true, u95, u96, .tuple #[.slice px 128 cx, .int .i64 0], .pointer (some ⟨b, 0, none⟩), .int .i64 (t : Int), .tuple #[.slice px 128 cx, .int .i64 0], .slice px 128 cx, .int .i64 0, x 0, x 1, x 2, x 3, x 4, x 5, x 6, x 7, x 8, x 9, x 10, x 11, x 12, x 13, x 14, x 15, x 16, x 17, x 18, x 19, x 20, x 21, x 22, x 23, x 24, x 25, x 26, x 27, x 28, x 29, x 30, undef, undef, undef, undef, undef, undef, undef, undef], defers := [] }) (fun i => ([u103, u104, u105, u106, u107, u108, u109, u110, u111, u112, u113, u114, u115, u116, u117, u118, u119, u120, u121, u122, u123, u124, u125, u126, u127, u128, u129, u130, u131, u132, u133] : List Value).getD i undef) (by kernel_rfl) rfl rfl (by kernel_rfl) (by kernel_rfl) (by kernel_rfl) (by kernel_rfl) (T0.out.drew) ?_ ?_
              · refine ⟨ObL.of_val rfl (fun x v => rfl) (fun x V vs hC hD => ?_), ?_⟩
                · clear hD
                  refine want_yes rfl ?_
                  exact leads_value (v := .int .i64 0) (by go_simp) ⟨rfl, hC⟩
                refine ⟨ObL.of_val rfl (fun x v => rfl) (fun x V vs hC hD => ?_), ?_⟩
                · have e0 : x 0 = .int .i64 0 := (hD.1 rfl).1
                  clear hD
                  refine want_yes rfl ?_
                  exact leads_value (v := .bool false) (by go_simp) ⟨rfl, hC⟩
                refine ⟨ObL.of_val rfl (fun x v => rfl) (fun x V vs hC hD => ?_), ?_⟩
                · have e1 : x 1 = .bool false := (hD.1 rfl).1
                  clear hD
                  refine want_yes rfl ?_
                  exact leads_value (v := .bool false) (by go_simp) ⟨rfl, hC⟩
                refine ⟨ObL.of_val rfl (fun x v => rfl) (fun x V vs hC hD => ?_), ?_⟩
                · have e2 : x 2 = .bool false := (hD.1 rfl).1
                  clear hD
                  refine want_yes (by simp [Region.wanted, yielded, e2]) ?_
                  exact leads_value (v := .int .i64 (t : Int)) (by go_simp) ⟨rfl, hC⟩
                refine ⟨ObL.of_val rfl (fun x v => rfl) (fun x V vs hC hD => ?_), ?_⟩
                · have e3 : x 3 = .int .i64 (t : Int) := (hD.1 rfl).1
                  have e2 : x 2 = .bool false := (hD.2.1 rfl).1
                  clear hD
                  refine want_yes (by simp [Region.wanted, yielded, e2]) ?_
                  exact leads_value (v := .pointer (some ⟨c6, t, none⟩)) (by go_simp) ⟨rfl, hC⟩
                refine ⟨ObL.of_val rfl (fun x v => rfl) (fun x V vs hC hD => ?_), ?_⟩
                · have e4 : x 4 = .pointer (some ⟨c6, t, none⟩) := (hD.1 rfl).1
                  have e2 : x 2 = .bool false := (hD.2.1 rfl).1
                  clear hD
                  refine want_yes (by simp [Region.wanted, yielded, e2]) ?_
                  have k0 : V.cell? ⟨c6, t, none⟩ = some (.bool false) := by rw [(HCom.out vs V hC).kp.bh.cell, boolC_get _ ht16, HHa.out]
                  exact leads_value (v := .bool false) (by go_simp) ⟨rfl, hC⟩
                refine ⟨ObL.of_val rfl (fun x v => rfl) (fun x V vs hC hD => ?_), ?_⟩
                · have e5 : x 5 = .bool false := (hD.1 rfl).1
                  have e2 : x 2 = .bool false := (hD.2.1 rfl).1
                  clear hD
                  refine want_yes (by simp [Region.wanted, yielded, e2]) ?_
                  exact leads_value (v := .bool false) (by go_simp) ⟨rfl, hC⟩
                refine ⟨ObL.of_val rfl (fun x v => rfl) (fun x V vs hC hD => ?_), ?_⟩
                · have e6 : x 6 = .bool false := (hD.1 rfl).1
                  clear hD
                  exact want_no (by simp [Region.wanted, yielded, e6]) rfl
                refine ⟨ObL.of_val rfl (fun x v => rfl) (fun x V vs hC hD => ?_), ?_⟩
                · have e7 : x 7 = undef := (hD.1 rfl).1
                  have e6 : x 6 = .bool false := (hD.2.1 rfl).1
                  clear hD
                  exact want_no (by simp [Region.wanted, yielded, e6]) rfl
                refine ⟨ObL.of_val rfl (fun x v => rfl) (fun x V vs hC hD => ?_), ?_⟩
                · have e6 : x 6 = .bool false := (hD.1 rfl).1
                  clear hD
                  exact want_no (by simp [Region.wanted, yielded, e6]) rfl
                refine ⟨ObL.of_val rfl (fun x v => rfl) (fun x V vs hC hD => ?_), ?_⟩
                · have e9 : x 9 = undef := (hD.1 rfl).1
                  have e6 : x 6 = .bool false := (hD.2.1 rfl).1
                  clear hD
                  exact want_no (by simp [Region.wanted, yielded, e6]) rfl
                refine ⟨ObL.of_val rfl (fun x v => rfl) (fun x V vs hC hD => ?_), ?_⟩
                · have e10 : x 10 = undef := (hD.1 rfl).1
                  have e6 : x 6 = .bool false := (hD.2.1 rfl).1
                  clear hD
                  exact want_no (by simp [Region.wanted, yielded, e6]) rfl
                refine ⟨ObL.of_val rfl (fun x v => rfl) (fun x V vs hC hD => ?_), ?_⟩
                · have e11 : x 11 = undef := (hD.1 rfl).1
                  have e6 : x 6 = .bool false := (hD.2.1 rfl).1
                  clear hD
                  exact want_no (by simp [Region.wanted, yielded, e6]) rfl
                refine ⟨ObL.of_val rfl (fun x v => rfl) (fun x V vs hC hD => ?_), ?_⟩
                · have e12 : x 12 = undef := (hD.1 rfl).1
                  have e6 : x 6 = .bool false := (hD.2.1 rfl).1
                  clear hD
                  exact want_no (by simp [Region.wanted, yielded, e6]) rfl
                refine ⟨ObL.of_val rfl (fun x v => rfl) (fun x V vs hC hD => ?_), ?_⟩
                · have e13 : x 13 = undef := (hD.1 rfl).1
                  have e6 : x 6 = .bool false := (hD.2.1 rfl).1
                  clear hD
                  exact want_no (by simp [Region.wanted, yielded, e6]) rfl
                refine ⟨ObL.of_val rfl (fun x v => rfl) (fun x V vs hC hD => ?_), ?_⟩
                · have e8 : x 8 = undef := (hD.1 rfl).1
                  have e14 : x 14 = undef := (hD.2.1 rfl).1
                  have e6 : x 6 = .bool false := (hD.2.2.1 rfl).1
                  clear hD
                  exact want_no (by simp [Region.wanted, yielded, e6]) rfl
                refine ⟨ObL.of_val rfl (fun x v => rfl) (fun x V vs hC hD => ?_), ?_⟩
                · have e6 : x 6 = .bool false := (hD.1 rfl).1
                  have e15 : x 15 = undef := (hD.2.1 rfl).1
                  have e2 : x 2 = .bool false := (hD.2.2.1 rfl).1
                  clear hD
                  refine want_yes (by simp [Region.wanted, yielded, e2]) ?_
                  exact leads_value (v := .bool false) (by go_simp) ⟨rfl, hC⟩
                refine ⟨ObL.of_val rfl (fun x v => rfl) (fun x V vs hC hD => ?_), ?_⟩
                · have e2 : x 2 = .bool false := (hD.1 rfl).1
                  have e16 : x 16 = .bool false := (hD.2.1 rfl).1
                  clear hD
                  refine want_yes rfl ?_
                  exact leads_value (v := .bool false) (by go_simp) ⟨rfl, hC⟩
                refine ⟨ObL.of_val rfl (fun x v => rfl) (fun x V vs hC hD => ?_), ?_⟩
                · have e17 : x 17 = .bool false := (hD.1 rfl).1
                  have e13 : x 13 = undef := (hD.2.1 rfl).1
                  clear hD
                  refine want_yes rfl ?_
                  exact leads_value (v := .bool false) (by go_simp) ⟨rfl, hC⟩
                refine ⟨ObL.of_val rfl (fun x v => rfl) (fun x V vs hC hD => ?_), ?_⟩
                · have e18 : x 18 = .bool false := (hD.1 rfl).1
                  clear hD
                  refine want_yes (by simp [Region.wanted, yielded, e18]) ?_
                  exact leads_value (v := .int .i64 (t : Int)) (by go_simp) ⟨rfl, hC⟩
                refine ⟨ObL.of_val rfl (fun x v => rfl) (fun x V vs hC hD => ?_), ?_⟩
                · have e19 : x 19 = .int .i64 (t : Int) := (hD.1 rfl).1
                  have e18 : x 18 = .bool false := (hD.2.1 rfl).1
                  clear hD
                  refine want_yes (by simp [Region.wanted, yielded, e18]) ?_
                  exact leads_value (v := .pointer (some ⟨c6, t, none⟩)) (by go_simp) ⟨rfl, hC⟩
                refine ⟨ObL.of_val rfl (fun x v => rfl) (fun x V vs hC hD => ?_), ?_⟩
                · have e20 : x 20 = .pointer (some ⟨c6, t, none⟩) := (hD.1 rfl).1
                  have e18 : x 18 = .bool false := (hD.2.1 rfl).1
                  clear hD
                  refine want_yes (by simp [Region.wanted, yielded, e18]) ?_
                  have k0 : V.cell? ⟨c6, t, none⟩ = some (.bool false) := by rw [(HCom.out vs V hC).kp.bh.cell, boolC_get _ ht16, HHa.out]
                  exact leads_value (v := .bool false) (by go_simp) ⟨rfl, hC⟩
                refine ⟨ObL.of_val rfl (fun x v => rfl) (fun x V vs hC hD => ?_), ?_⟩
                · have e21 : x 21 = .bool false := (hD.1 rfl).1
                  have e18 : x 18 = .bool false := (hD.2.1 rfl).1
                  clear hD
                  refine want_yes (by simp [Region.wanted, yielded, e18]) ?_
                  exact leads_value (v := .bool true) (by go_simp) ⟨rfl, hC⟩
                refine ⟨ObL.of_val rfl (fun x v => rfl) (fun x V vs hC hD => ?_), ?_⟩
                · have e22 : x 22 = .bool true := (hD.1 rfl).1
                  have e18 : x 18 = .bool false := (hD.2.1 rfl).1
                  clear hD
                  refine want_yes (by simp [Region.wanted, yielded, e18]) ?_
                  exact leads_value (v := .bool true) (by go_simp) ⟨rfl, hC⟩
                refine ⟨ObL.of_val rfl (fun x v => rfl) (fun x V vs hC hD => ?_), ?_⟩
                · have e23 : x 23 = .bool true := (hD.1 rfl).1
                  clear hD
                  refine want_yes (by simp [Region.wanted, yielded, e23]) ?_
                  exact leads_value (v := .slice px 128 cx) (by go_simp) ⟨rfl, hC⟩
                refine ⟨ObL.of_val rfl (fun x v => rfl) (fun x V vs hC hD => ?_), ?_⟩
                · have e24 : x 24 = .slice px 128 cx := (hD.1 rfl).1
                  have e23 : x 23 = .bool true := (hD.2.1 rfl).1
                  clear hD
                  refine want_yes (by simp [Region.wanted, yielded, e23]) ?_
                  have q := run_string_bs (P := Try.prog) V 29 5 9 Try.underlying29 Try.underlying5 Try.underlying9 (HCom.out vs V hC).rd
                  exact leads_value (v := .string ⟨(zerosB 128).toArray⟩) (by go_simp) ⟨rfl, hC⟩
                refine ⟨ObL.of_turn rfl (fun x v => rfl) (fun x V vs hl hC hD => ?_), ?_⟩
                · obtain rfl := len_zero hl
                  have e23 : x 23 = .bool true := (hD.1 rfl).1
                  clear hD
                  refine want_yes (by simp [Region.wanted, yielded, e23]) ?_
                  have hC : K25 K w b c5 c6 S F la ha px cx (zerosB 128) V := hC
                  refine leads_make_zeros _ _ 29 rfl V.heap.size 5 Try.underlying29 infoU8 128 rfl rfl rfl rfl (by decide) (Nat.le_refl _) fun w' hr hg => ?_
                  obtain ⟨q, d', e1, hbs⟩ := BsAt.ofRow hr
                  rw [Value.slice.injEq] at e1
                  obtain ⟨rfl, -, rfl⟩ := e1
                  rw [zerosB_length] at hbs
                  exact ⟨hC.step ((Below.refl V.heap.size V).grown hg (Nat.le_refl _) (fun k hk => by cases hk)), _, _, rfl, hbs⟩
                refine ⟨ObL.of_val rfl (fun x v => rfl) (fun x V vs hC hD => ?_), ?_⟩
                · have e26 : x 26 = vs.getD 0 undef := (hD.1 rfl).1
                  have n26 : 0 < vs.length := (hD.1 rfl).2
                  have e23 : x 23 = .bool true := (hD.2.1 rfl).1
                  clear hD
                  refine want_yes (by simp [Region.wanted, yielded, e23]) ?_
                  obtain ⟨p3, c3, hv, hb3⟩ := C25_val n26 hC
                  rw [hv] at e26
                  have q := run_string_bs (P := Try.prog) V 29 5 9 Try.underlying29 Try.underlying5 Try.underlying9 hb3
                  clear n26
                  generalize vs.getD 0 undef = y0 at *
                  exact leads_value (v := .string ⟨(zerosB 128).toArray⟩) (by go_simp) ⟨rfl, hC⟩
                refine ⟨ObL.of_val rfl (fun x v => rfl) (fun x V vs hC hD => ?_), ?_⟩
                · have e25 : x 25 = .string ⟨(zerosB 128).toArray⟩ := (hD.1 rfl).1
                  have e27 : x 27 = .string ⟨(zerosB 128).toArray⟩ := (hD.2.1 rfl).1
                  have e23 : x 23 = .bool true := (hD.2.2.1 rfl).1
                  clear hD
                  refine want_yes (by simp [Region.wanted, yielded, e23]) ?_
                  exact leads_value (v := .bool false) (by go_simp) ⟨rfl, hC⟩
                refine ⟨ObL.of_val rfl (fun x v => rfl) (fun x V vs hC hD => ?_), ?_⟩
                · have e23 : x 23 = .bool true := (hD.1 rfl).1
                  have e28 : x 28 = .bool false := (hD.2.1 rfl).1
                  have e18 : x 18 = .bool false := (hD.2.2.1 rfl).1
                  clear hD
                  refine want_yes (by simp [Region.wanted, yielded, e18]) ?_
                  exact leads_value (v := .bool false) (by go_simp) ⟨rfl, hC⟩
                refine ⟨ObL.of_val rfl (fun x v => rfl) (fun x V vs hC hD => ?_), ?_⟩
                · have e18 : x 18 = .bool false := (hD.1 rfl).1
                  have e29 : x 29 = .bool false := (hD.2.1 rfl).1
                  clear hD
                  refine want_yes rfl ?_
                  exact leads_value (v := .bool false) (by go_simp) ⟨rfl, hC⟩
                trivial
              · intro xb V vs hl hC hx
                have HD := Lib.hid (C25_end hC)
                have e30 : xb 30 = .bool false := hx 30 (by simp)
                clear hx hC
                rw [e30]
                clear e30
                go_wp2_with fail
                go_roundw
                case rel => exact ⟨t + 1, by omega, by go_num, HD.out⟩
                case measure => simp [intOf]; omega
          · have HWs := Lib.hid (K.writes HT.out.at_ HS.out.ok)
            rw [HS.out.wr] at HWs
            go_upto_region 27 with fail
            go_wp2_with fail
            refine HWs.out.mono ?_
            rintro e v3 ⟨rfl, hB3⟩
            have HB3 := Lib.hid (HT.out.below.trans (hB3.mono HT.out.below.size))
            clear hB3
            go_wp2_with fail
            refine (HAl.out _).mono ?_
            rintro e v4 ⟨rfl, hB4⟩
            have HB4 := Lib.hid (HB3.out.trans (hB4.mono HB3.out.size))
            clear hB4
            go_wp2_with fail
            go_ret
            exact ⟨rfl, HB4.out⟩

end Go.Proofs.Ytjoimgmnklfmeaa

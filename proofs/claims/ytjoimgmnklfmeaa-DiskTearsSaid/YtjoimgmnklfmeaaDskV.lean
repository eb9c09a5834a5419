/-
  What every law of layer 7 ends with, from the kit: a torn block.
-/
import Derived.Test.YtjoimgmnklfmeaaDskB
import Derived.Test.YtjoimgmnklfmeaaCalm
import Derived.Deep.DeepCutAuto
namespace Go.Proofs.Ytjoimgmnklfmeaa
open Go.RowKit

/-- A row that was not there is apart from what was. -/
theorem fresh_apart {w : World} {n : Nat} {p : Option Addr} {c e : Nat} {l : List UInt8} {F : Nat → Prop} (h : w.ownsRow n e 1 (.slice p l.length c) l.length (bvs l)) (hF : ∀ k, F k → k < n) : ∀ a, p = some a → ¬ F a.block := by
  rintro a rfl hf
  rcases h.2 with ⟨h1, -⟩ | ⟨g, cap, cur, h1, -⟩
  · cases h1
  · rw [Value.slice.injEq] at h1
    obtain ⟨h1, -⟩ := h1
    cases h1
    have h1 : g < n := hF _ hf
    have h2 := (h.lt g rfl).1
    omega
/-- A disk and some bytes apart from it. -/
structure DB (K : DiskKit) (w : World) (b : Nat) (S : DS) (F : Nat → Prop) (p : Option Addr) (cap : Nat) (l : List UInt8) (V : World) : Prop where
  at_ : K.At V b S F
  row : ∃ n, V.ownsRow n 5 1 (.slice p l.length cap) l.length (bvs l)
  apart : ∀ a, p = some a → ¬ F a.block
  below : Below w.heap.size w V
  own : ∀ k, F k → w.heap.size ≤ k
theorem DB.step {K : DiskKit} {w : World} {b : Nat} {S : DS} {F : Nat → Prop} {p : Option Addr} {cap : Nat} {l : List UInt8} {V V' : World} (h : DB K w b S F p cap l V) (hB : Below V.heap.size V V') : DB K w b S F p cap l V' := by
  obtain ⟨n, hr⟩ := h.row
  exact ⟨DiskKit.below h.at_ hB, ⟨n, own_below hr hB (Nat.le_refl _)⟩, h.apart, h.below.trans (hB.mono h.below.size), h.own⟩
theorem DB.to {K : DiskKit} {w : World} {b : Nat} {S S' : DS} {F F' : Nat → Prop} {p : Option Addr} {cap : Nat} {l : List UInt8} {V V' : World} (h : DB K w b S F p cap l V) (hA : K.At V' b S' F') (hs : ∀ k, F' k → F k ∨ V.heap.size ≤ k) (hc : Chg F V V') : DB K w b S' F' p cap l V' := by
  obtain ⟨n, hr⟩ := h.row
  have hp : ∀ k, (Value.slice p l.length cap).ownBlock = some k → ¬ F k := fun k hk hf => by
    rcases hr.2 with ⟨h1, -⟩ | ⟨g, cap, cur, h1, -⟩
    · rw [h1] at hk; cases hk
    · rw [h1] at hk
      rw [Value.slice.injEq] at h1
      cases hk
      exact h.apart _ h1.1 hf
  refine ⟨hA, ⟨n, own_chg hr hc hp⟩, fun a ha hf => ?_, h.below.trans (hc.below (by exact h.below.size) h.own), fun k hk => ?_⟩
  · rcases hs _ hf with h1 | h1
    · exact h.apart a ha h1
    · subst ha
      rcases hr.2 with ⟨h2, -⟩ | ⟨g, cap, cur, h2, -⟩
      · cases h2
      · rw [Value.slice.injEq] at h2
        obtain ⟨h2, -⟩ := h2
        cases h2
        have := (hr.lt g rfl).2
        simp only at h1; omega
  · rcases hs k hk with h1 | h1
    · exact h.own k h1
    · have := h.below.size; omega
theorem DB.bs {K : DiskKit} {w : World} {b : Nat} {S : DS} {F : Nat → Prop} {p : Option Addr} {cap : Nat} {l : List UInt8} {V : World} (h : DB K w b S F p cap l V) : BsAt V p l.length cap l := by
  obtain ⟨n, hr⟩ := h.row
  obtain ⟨q, d, e1, hb⟩ := BsAt.ofRow hr
  rw [Value.slice.injEq] at e1
  obtain ⟨rfl, -, rfl⟩ := e1
  exact hb

def aS1 : DS := armS (DS.new 2) 0 2
def aL : List UInt8 := risingL 1 128
def aS2 : DS := writeS aS1 1 aL
def aS3 : DS := writeS aS2 0 aL
def aS4 : DS := powerS aS3
theorem a_len : aL.length = 128 := by decide +kernel
theorem a_act : actL 1 0 = aL := rfl
theorem a_e1 : writeE aS1 1 aL = 19 := by decide +kernel
theorem a_off2 : aS2.off = true := by decide +kernel
theorem a_e2 : writeE aS2 0 aL = 19 := by decide +kernel
theorem a_r : readE aS4 1 = 0 := by decide +kernel
theorem a_rl : (readL aS4 1).length = 128 := by decide +kernel
theorem a_r0 : (readL aS4 1)[0]? = some 1 := by decide +kernel
theorem a_r1 : (readL aS4 1)[1]? = some 2 := by decide +kernel
theorem a_r2 : (readL aS4 1)[2]? = some 255 := by decide +kernel
theorem a_r3 : (readL aS4 1)[127]? = some 255 := by decide +kernel
theorem a_w : aS4.wr = 1 := by decide +kernel
theorem a_e3 : writeE aS4 2 aL = 8 := by decide +kernel
theorem a_s3 : writeS aS4 2 aL = aS4 := by
  unfold writeS; rw [if_neg (by decide +kernel)]
theorem a_e4 : writeE aS4 0 (aL.take 9) = 1 := by decide +kernel
theorem a_s4 : writeS aS4 0 (aL.take 9) = aS4 := by
  unfold writeS; rw [if_neg (by decide +kernel)]
theorem a_n : (aS4.len : Int) = 2 := by decide +kernel
theorem a_take : aL.take 128 = aL := by decide +kernel
theorem a_ok1 : DSOk aS1 := (DSOk.new (by decide)).arm 0 2 (by decide)
theorem a_ok2 : DSOk aS2 := a_ok1.write 1 aL
theorem a_ok3 : DSOk aS3 := a_ok2.write 0 aL
theorem a_ok4 : DSOk aS4 := a_ok3.power
theorem a_wr1 : aS1.wr ≤ 1000000 := by decide +kernel
theorem a_wr2 : aS2.wr ≤ 1000000 := by decide +kernel
theorem a_wr4 : aS4.wr ≤ 1000000 := by decide +kernel
/-- A byte of a fresh row. -/
theorem row_byte {w : World} {n e : Nat} {p : Option Addr} {c : Nat} {l : List UInt8} (h : w.ownsRow n e 1 (.slice p l.length c) l.length (bvs l)) (hne : 0 < l.length) : ∃ g, p = some ⟨g, 0, none⟩ ∧ ∀ k x, l[k]? = some x → w.cell? ⟨g, k, none⟩ = some (.int .u8 (x.toNat : Int)) := by
  rcases h.2 with ⟨-, h0⟩ | ⟨g, cap, cur, h1, -⟩
  · omega
  · rw [Value.slice.injEq] at h1
    obtain ⟨rfl, -, -⟩ := h1
    refine ⟨g, rfl, fun k x hx => ?_⟩
    have hk : k < l.length := (List.getElem?_eq_some_iff.1 hx).1
    rw [h.cellAt k (by omega), bvs_get l k hk]
    rw [List.getElem?_eq_getElem hk] at hx
    cases hx; rfl

/-- The disk, the bytes and what was read, whatever is asked besides. -/
structure AliveAt (K : DiskKit) (w : World) (b : Nat) (p : Option Addr) (c g c9 : Nat) (V : World) : Prop where
  db : ∃ F, DB K w b aS4 F p c aL V ∧ ¬ F g
  c0 : V.cell? ⟨g, 0, none⟩ = some (.int .u8 ((1 : UInt8).toNat : Int))
  c1 : V.cell? ⟨g, 1, none⟩ = some (.int .u8 ((2 : UInt8).toNat : Int))
  c2 : V.cell? ⟨g, 2, none⟩ = some (.int .u8 ((255 : UInt8).toNat : Int))
  c3 : V.cell? ⟨g, 127, none⟩ = some (.int .u8 ((255 : UInt8).toNat : Int))
theorem AliveAt.step {K : DiskKit} {w : World} {b : Nat} {p : Option Addr} {c g c9 : Nat} {V V' : World} (h : AliveAt K w b p c g c9 V) (hB : Below V.heap.size V V') : AliveAt K w b p c g c9 V' := by
  obtain ⟨F, h1, h2⟩ := h.db
  have hg := block_lt_of_cell h.c0
  exact ⟨⟨F, h1.step hB, h2⟩, (hB.cell (p := ⟨g, 0, none⟩) hg).trans h.c0, (hB.cell (p := ⟨g, 1, none⟩) hg).trans h.c1, (hB.cell (p := ⟨g, 2, none⟩) hg).trans h.c2, (hB.cell (p := ⟨g, 127, none⟩) hg).trans h.c3⟩
theorem AliveAt.drew {K : DiskKit} {w : World} {b : Nat} {p : Option Addr} {c g c9 : Nat} {V : World} (h : AliveAt K w b p c g c9 V) : AliveAt K w b p c g c9 V.drew := h.step (Below.refl _ _).drew
theorem AliveAt.write {K : DiskKit} {w : World} {b : Nat} {p : Option Addr} {c g c9 : Nat} {V : World} (h : AliveAt K w b p c g c9 V) (i : Int) {l : List UInt8} {z : Int} {n : Nat} (hn : n ≤ 128) (hl : aL.take n = l) (he : writeE aS4 i l = z) (hs : writeS aS4 i l = aS4) :
    Calls Try.prog 11 #[.pointer (some ⟨b, 0, none⟩), .int .i64 i, .slice p n c] V fun e w' => e = .returned (.int .i64 z) ∧ AliveAt K w b p c g c9 w' := by
  obtain ⟨F, h1, h2⟩ := h.db
  have hb := bs_take (n := n) h1.bs (by rw [a_len]; exact hn)
  rw [hl] at hb
  have hg := block_lt_of_cell h.c0
  refine (K.write i h1.at_ a_ok4 a_wr4 hb h1.apart).mono fun e w' ⟨F', he', hA', hs', hc'⟩ => ?_
  rw [he] at he'
  rw [hs] at hA'
  have hk : ∀ k v, V.cell? ⟨g, k, none⟩ = some v → w'.cell? ⟨g, k, none⟩ = some v := fun k v hv => (World.cell?_of_block (a := ⟨g, k, none⟩) (show w'.heap[g]? = V.heap[g]? from hc'.block g hg h2)).trans hv
  exact ⟨he', ⟨F', h1.to hA' hs' hc', fun hf => by
    rcases hs' _ hf with h3 | h3
    · exact h2 h3
    · simp only at hg; omega⟩, hk _ _ h.c0, hk _ _ h.c1, hk _ _ h.c2, hk _ _ h.c3⟩

set_option maxRecDepth 100000 in
set_option maxHeartbeats 6400000 in
theorem dalive_any (K : DiskKit) : DiskAliveC := by
  intro w
  have HN := Lib.hid (K.newOk 2 w (by decide) (by decide))
  go_enter Try.func8, Try.ntmps8
  go_wp2_with fail
  refine HN.out.mono ?_
  rintro e w1 ⟨b, F, rfl, hA1, hF1, hB1⟩
  have HA1 := Lib.hid hA1
  have HF1 := Lib.hid hF1
  have HB1 := Lib.hid hB1
  clear hA1 hF1 hB1
  unfold ptrV
  go_upto_region 2 with fail
  go_wp2_with fail
  refine (K.newNo 0 w1 (.inl (by decide))).mono ?_
  rintro e w2 ⟨rfl, hB2⟩
  have HA2 := Lib.hid (DiskKit.below HA1.out hB2)
  have HB2 := Lib.hid (HB1.out.trans (hB2.mono HB1.out.size))
  clear hB2
  go_upto_region 5 with fail
  go_wp2_with fail
  refine (rdBytes_any 0 0 0 1 0 w2 (by decide) (by decide)).mono ?_
  rintro e w3 ⟨p3, c3, rfl, hR3, hB3⟩
  rw [a_act] at hR3
  have HD3 := Lib.hid (show DB K w b (DS.new 2) F p3 c3 aL w3 from ⟨DiskKit.below HA2.out hB3, ⟨_, hR3⟩, fresh_apart hR3 (K.lt HA2.out).2, HB2.out.trans (hB3.mono HB2.out.size), HF1.out⟩)
  rw [a_act]
  have hl := a_len
  clear hR3 hB3
  go_upto_region 6 with fail
  go_wp2_with fail
  refine (K.arm 0 2 HD3.out.at_ (DSOk.new (by decide)) (by decide)).mono ?_
  rintro e w4 ⟨F4, rfl, hA4, hs4, hc4⟩
  rw [show armE 0 2 = 0 from rfl]
  have HD4 := Lib.hid (show DB K w b aS1 F4 p3 c3 aL w4 from HD3.out.to hA4 hs4 hc4)
  clear hA4 hs4 hc4 HD3
  go_wp2_with fail
  refine (K.write 1 HD4.out.at_ a_ok1 a_wr1 (a_len ▸ HD4.out.bs) HD4.out.apart).mono ?_
  rintro e w5 ⟨F5, rfl, hA5, hs5, hc5⟩
  rw [a_e1]
  have HD5 := Lib.hid (show DB K w b aS2 F5 p3 c3 aL w5 from HD4.out.to hA5 hs5 hc5)
  clear hA5 hs5 hc5 HD4
  go_upto_region 7 with fail
  go_wp2_with fail
  refine (K.on HD5.out.at_ a_ok2).mono ?_
  rintro e w6 ⟨rfl, hB6⟩
  rw [a_off2]
  have HD6 := Lib.hid (HD5.out.step hB6)
  clear hB6 HD5
  go_upto_region 8 with fail
  go_wp2_with fail
  refine (K.write 0 HD6.out.at_ a_ok2 a_wr2 (a_len ▸ HD6.out.bs) HD6.out.apart).mono ?_
  rintro e w7 ⟨F7, rfl, hA7, hs7, hc7⟩
  rw [a_e2]
  have HD7 := Lib.hid (show DB K w b aS3 F7 p3 c3 aL w7 from HD6.out.to hA7 hs7 hc7)
  clear hA7 hs7 hc7 HD6
  go_upto_region 9 with fail
  go_wp2_with fail
  refine (K.power HD7.out.at_ a_ok3).mono ?_
  rintro e w8 ⟨F8, rfl, hA8, hs8, hc8⟩
  have HD8 := Lib.hid (show DB K w b aS4 F8 p3 c3 aL w8 from HD7.out.to hA8 hs8 hc8)
  clear hA8 hs8 hc8 HD7
  go_upto_region 10 with fail
  go_wp2_with fail
  refine (K.read 1 HD8.out.at_ a_ok4).mono ?_
  rintro e w9 ⟨p9, c9, rfl, ⟨t9, hR9⟩, hB9⟩
  rw [a_r, a_rl]
  obtain ⟨g9, rfl, hby⟩ := row_byte hR9 (by rw [a_rl]; decide)
  have c0 := hby 0 _ a_r0
  have c1 := hby 1 _ a_r1
  have c2 := hby 2 _ a_r2
  have c3' := hby 127 _ a_r3
  have HD9x := Lib.hid (show ∃ F, DB K w b aS4 F p3 c3 aL w9 ∧ ¬ F g9 from ⟨F8, HD8.out.step hB9, fun hf => by
    have h1 := (hR9.lt g9 rfl).1
    have h2 := (K.lt HD8.out.at_).2 _ hf
    omega⟩)
  clear hB9 HD8 hR9 hby
  have H9 := Lib.hid (show 9 ≤ c3 from by
    obtain ⟨F, hd, -⟩ := HD9x.out
    have h1 := hd.bs.le
    rw [a_len] at h1
    omega)
  have T0 := Lib.hid (show AliveAt K w b p3 c3 g9 c9 w9 from ⟨HD9x.out, c0, c1, c2, c3'⟩)
  go_upto_region 14 with fail
  simp only [List.append_eq, List.cons_append, List.nil_append]
  go_wp2_with fail
  obtain ⟨F10, hd10, -⟩ := T0.out.db
  refine (K.writes hd10.at_ a_ok4).mono ?_
  rintro e w10 ⟨rfl, hB10⟩
  rw [a_w]
  have T1 := Lib.hid (T0.out.step hB10)
  clear hB10 hd10 c0 c1 c2 c3'
  go_wp2_with fail
  refine (K.nWrite 0 _ _).mono ?_
  rintro e w11 ⟨rfl, hB11⟩
  have T2 := Lib.hid (T1.out.step hB11)
  clear hB11
  go_wp2_with fail
  refine (T2.out.write 2 (n := 128) (by decide) a_take a_e3 a_s3).mono ?_
  rintro e w12 ⟨rfl, hT3⟩
  have T3 := Lib.hid hT3
  clear hT3
  have k9 : (Instr.slice 29 (.slice p3 128 c3) none (some (.int .i64 9)) none).run Try.prog w12 = .ok (.slice p3 9 c3) w12 := run_upto w12 p3 128 c3 9 H9.out
  have h9 : (9 : Int) ≤ (c3 : Int) := by have := H9.out; omega
  go_wp2_with fail
  refine (T3.out.write 0 (n := 9) (by decide) rfl a_e4 a_s4).mono ?_
  rintro e w13 ⟨rfl, hT4⟩
  have T4 := Lib.hid hT4
  clear hT4 k9
  go_wp2_with fail
  obtain ⟨F14, hd14, -⟩ := T4.out.db
  refine (K.len hd14.at_ a_ok4).mono ?_
  rintro e w14 ⟨rfl, hB14⟩
  rw [a_n]
  have HB14 := Lib.hid (hd14.below.trans (hB14.mono hd14.below.size))
  clear hB14 hd14
  go_wp2_with fail
  go_ret
  exact ⟨rfl, HB14.out⟩

end Go.Proofs.Ytjoimgmnklfmeaa

/-
  The law's own 'same', from the kit: a disk has what the document's has.
-/
import Derived.Test.YtjoimgmnklfmeaaDskV
import Derived.Test.YtjoimgmnklfmeaaWirN
namespace Go.Proofs.Ytjoimgmnklfmeaa
open Go.RowKit

/-- The two disks, while they are read. -/
structure SameSt (K : DiskKit) (w : World) (b : Nat) (S : DS) (F : Nat → Prop) (p : Option Addr) (M cv : Nat) (V : World) : Prop where
  at_ : K.At V b S F
  blk : Blk V w.heap.size #[.slice p M cv, .bool S.off, .int .i64 S.fuse, .int .i64 S.keep, .int .i64 S.wr] 31
  bs : BsAt V p M cv S.all
  below : Below w.heap.size w V
theorem SameSt.step {K : DiskKit} {w : World} {b : Nat} {S : DS} {F : Nat → Prop} {p : Option Addr} {M cv : Nat} {V V' : World} (h : SameSt K w b S F p M cv V) (hB : Below V.heap.size V V') : SameSt K w b S F p M cv V' :=
  ⟨DiskKit.below h.at_ hB, h.blk.below hB h.blk.lt, h.bs.below hB (Nat.le_refl _), h.below.trans (hB.mono h.below.size)⟩
theorem SameSt.drew {K : DiskKit} {w : World} {b : Nat} {S : DS} {F : Nat → Prop} {p : Option Addr} {M cv : Nat} {V : World} (h : SameSt K w b S F p M cv V) : SameSt K w b S F p M cv V.drew := h.step (Below.refl _ _).drew

structure SameRd (K : DiskKit) (w : World) (b : Nat) (S : DS) (F : Nat → Prop) (p : Option Addr) (M cv : Nat) (q : Option Addr) (qc : Nat) (l : List UInt8) (V : World) : Prop where
  st : SameSt K w b S F p M cv V
  rd : BsAt V q 128 qc l
theorem SameRd.step {K : DiskKit} {w : World} {b : Nat} {S : DS} {F : Nat → Prop} {p : Option Addr} {M cv : Nat} {q : Option Addr} {qc : Nat} {l : List UInt8} {V V' : World} (h : SameRd K w b S F p M cv q qc l V) (hB : Below V.heap.size V V') : SameRd K w b S F p M cv q qc l V' := ⟨h.st.step hB, h.rd.below hB (Nat.le_refl _)⟩
theorem SameRd.drew {K : DiskKit} {w : World} {b : Nat} {S : DS} {F : Nat → Prop} {p : Option Addr} {M cv : Nat} {q : Option Addr} {qc : Nat} {l : List UInt8} {V : World} (h : SameRd K w b S F p M cv q qc l V) : SameRd K w b S F p M cv q qc l V.drew := ⟨h.st.drew, h.rd.drew⟩

set_option maxRecDepth 100000 in
set_option maxHeartbeats 6400000 in
theorem dsame_any (K : DiskKit) {w : World} {b : Nat} {S : DS} {F : Nat → Prop} {p : Option Addr} {M cv : Nat} (h : K.At w b S F) (hok : DSOk S) (hb : BsAt w p M cv S.all) :
    Calls Try.prog 20 #[ptrV b, .agg #[.slice p M cv, .bool S.off, .int .i64 S.fuse, .int .i64 S.keep, .int .i64 S.wr]] w fun e w' => e = .returned (.bool true) ∧ Below w.heap.size w w' := by
  have hM : M = 128 * S.len := hb.same.trans hok.len
  have hfew := hok.few
  have HQ := Lib.hid (show (M : Int).tdiv 128 = (S.len : Int) from by
    rw [hM]
    simp)
  have HW := Lib.hid (IntWalk.i64_in (S.len : Int) (by omega))
  have T0 := Lib.hid (show SameSt K w b S F p M cv (w.alloc (.cells #[.slice p M cv, .bool S.off, .int .i64 S.fuse, .int .i64 S.keep, .int .i64 S.wr] 31)) from
    ⟨DiskKit.below h (belowNew w _), Blk.new w _ _, hb.below (belowNew w _) (Nat.le_refl _), belowNew w _⟩)
  have hM2 : M ≤ 131072 := by omega
  have HM := Lib.hid hM
  clear hb h hM
  unfold ptrV
  go_enter Try.func20, Try.ntmps20
  go_upto_region 1 with fail
  refine wp_region_S (fun _ V => SameSt K w b S F p M cv V) 0 [.val (.pointer (some ⟨b, 0, none⟩)), .val (.bool (!S.off)), .val (.pointer (some ⟨w.heap.size, 1, none⟩)), .val (.bool S.off), .val (.bool false), .val (.bool false), .val (.pointer (some ⟨b, 0, none⟩)), .val (.int .i64 S.wr), .val (.pointer (some ⟨w.heap.size, 4, none⟩)), .val (.int .i64 S.wr), .val (.bool false), .val (.bool false), .val (.bool false), .val (.pointer (some ⟨b, 0, none⟩)), .val (.int .i64 (S.len : Int)), .val (.pointer (some ⟨w.heap.size, 0, none⟩)), .val (.slice p M cv), .val (.int .i64 (M : Int)), .val (.int .i64 (S.len : Int)), .val (.bool false), .val (.bool false)]
    (fun x => { tmps := #[.pointer (some ⟨b, 0, none⟩), .agg #[.slice p M cv, .bool S.off, .int .i64 S.fuse, .int .i64 S.keep, .int .i64 S.wr], undef, .pointer (some ⟨w.heap.size, 0, none⟩), .bool false, undef, undef, undef, x 0, x 1, x 2, x 3, x 4, x 5, x 6, x 7, x 8, x 9, x 10, x 11, x 12, x 13, x 14, x 15, x 16, x 17, x 18, x 19, x 20, undef, undef, undef, undef, undef, undef, undef, undef, undef, undef, undef, undef, undef, undef, undef, undef, undef, undef, undef, undef, undef, undef, undef, undef, undef, undef, undef, undef, undef, undef, undef, undef, undef], defers := [] }) (fun i => ([undef, undef, undef, undef, undef, undef, undef, undef, undef, undef, undef, undef, undef, undef, undef, undef, undef, undef, undef, undef, undef] : List Value).getD i undef) (by kernel_rfl) rfl rfl (by kernel_rfl) (by kernel_rfl) (by kernel_rfl) (by kernel_rfl) (T0.out.drew) ?_ ?_
  · refine ⟨ObS.of_val rfl (fun x v => rfl) (fun x V kst hC hD => ?_), ?_⟩
    · clear hD
      refine want_yes rfl ?_
      exact leads_value (v := .pointer (some ⟨b, 0, none⟩)) (by go_simp) ⟨rfl, hC⟩
    refine ⟨ObS.of_val rfl (fun x v => rfl) (fun x V kst hC hD => ?_), ?_⟩
    · have e0 : x 0 = .pointer (some ⟨b, 0, none⟩) := hD.1 rfl
      clear hD
      refine want_yes rfl ?_
      exact leads_enter2 (by go_simp) ((K.on hC.at_ hok).mono fun e w'' ⟨he, hB⟩ => ⟨_, he, rfl, hC.step hB⟩)
    refine ⟨ObS.of_val rfl (fun x v => rfl) (fun x V kst hC hD => ?_), ?_⟩
    · clear hD
      refine want_yes rfl ?_
      exact leads_value (v := .pointer (some ⟨w.heap.size, 1, none⟩)) (by go_simp) ⟨rfl, hC⟩
    refine ⟨ObS.of_val rfl (fun x v => rfl) (fun x V kst hC hD => ?_), ?_⟩
    · have e2 : x 2 = .pointer (some ⟨w.heap.size, 1, none⟩) := hD.1 rfl
      clear hD
      refine want_yes rfl ?_
      have k0 : V.cell? ⟨w.heap.size, 1, none⟩ = some (.bool S.off) := hC.blk.cell 1
      exact leads_value (v := .bool S.off) (by go_simp) ⟨rfl, hC⟩
    refine ⟨ObS.of_val rfl (fun x v => rfl) (fun x V kst hC hD => ?_), ?_⟩
    · have e1 : x 1 = .bool (!S.off) := hD.1 rfl
      have e3 : x 3 = .bool S.off := hD.2.1 rfl
      clear hD
      refine want_yes rfl ?_
      have q : ((!S.off) == S.off) = false := by cases S.off <;> rfl
      exact leads_value (v := .bool false) (by go_simp) ⟨rfl, hC⟩
    refine ⟨ObS.of_val rfl (fun x v => rfl) (fun x V kst hC hD => ?_), ?_⟩
    · have e4 : x 4 = .bool false := hD.1 rfl
      have e1 : x 1 = .bool (!S.off) := hD.2.1 rfl
      clear hD
      refine want_yes rfl ?_
      exact leads_value (v := .bool false) (by go_simp) ⟨rfl, hC⟩
    refine ⟨ObS.of_val rfl (fun x v => rfl) (fun x V kst hC hD => ?_), ?_⟩
    · have e5 : x 5 = .bool false := hD.1 rfl
      clear hD
      refine want_yes (by simp [Region.wanted, yielded, e5]) ?_
      exact leads_value (v := .pointer (some ⟨b, 0, none⟩)) (by go_simp) ⟨rfl, hC⟩
    refine ⟨ObS.of_val rfl (fun x v => rfl) (fun x V kst hC hD => ?_), ?_⟩
    · have e6 : x 6 = .pointer (some ⟨b, 0, none⟩) := hD.1 rfl
      have e5 : x 5 = .bool false := hD.2.1 rfl
      clear hD
      refine want_yes (by simp [Region.wanted, yielded, e5]) ?_
      exact leads_enter2 (by go_simp) ((K.writes hC.at_ hok).mono fun e w'' ⟨he, hB⟩ => ⟨_, he, rfl, hC.step hB⟩)
    refine ⟨ObS.of_val rfl (fun x v => rfl) (fun x V kst hC hD => ?_), ?_⟩
    · have e5 : x 5 = .bool false := hD.1 rfl
      clear hD
      refine want_yes (by simp [Region.wanted, yielded, e5]) ?_
      exact leads_value (v := .pointer (some ⟨w.heap.size, 4, none⟩)) (by go_simp) ⟨rfl, hC⟩
    refine ⟨ObS.of_val rfl (fun x v => rfl) (fun x V kst hC hD => ?_), ?_⟩
    · have e8 : x 8 = .pointer (some ⟨w.heap.size, 4, none⟩) := hD.1 rfl
      have e5 : x 5 = .bool false := hD.2.1 rfl
      clear hD
      refine want_yes (by simp [Region.wanted, yielded, e5]) ?_
      have k0 : V.cell? ⟨w.heap.size, 4, none⟩ = some (.int .i64 S.wr) := hC.blk.cell 4
      exact leads_value (v := .int .i64 S.wr) (by go_simp) ⟨rfl, hC⟩
    refine ⟨ObS.of_val rfl (fun x v => rfl) (fun x V kst hC hD => ?_), ?_⟩
    · have e7 : x 7 = .int .i64 S.wr := hD.1 rfl
      have e9 : x 9 = .int .i64 S.wr := hD.2.1 rfl
      have e5 : x 5 = .bool false := hD.2.2.1 rfl
      clear hD
      refine want_yes (by simp [Region.wanted, yielded, e5]) ?_
      exact leads_value (v := .bool false) (by go_simp) ⟨rfl, hC⟩
    refine ⟨ObS.of_val rfl (fun x v => rfl) (fun x V kst hC hD => ?_), ?_⟩
    · have e5 : x 5 = .bool false := hD.1 rfl
      have e10 : x 10 = .bool false := hD.2.1 rfl
      clear hD
      refine want_yes rfl ?_
      exact leads_value (v := .bool false) (by go_simp) ⟨rfl, hC⟩
    refine ⟨ObS.of_val rfl (fun x v => rfl) (fun x V kst hC hD => ?_), ?_⟩
    · have e11 : x 11 = .bool false := hD.1 rfl
      have e7 : x 7 = .int .i64 S.wr := hD.2.1 rfl
      clear hD
      refine want_yes rfl ?_
      exact leads_value (v := .bool false) (by go_simp) ⟨rfl, hC⟩
    refine ⟨ObS.of_val rfl (fun x v => rfl) (fun x V kst hC hD => ?_), ?_⟩
    · have e12 : x 12 = .bool false := hD.1 rfl
      clear hD
      refine want_yes (by simp [Region.wanted, yielded, e12]) ?_
      exact leads_value (v := .pointer (some ⟨b, 0, none⟩)) (by go_simp) ⟨rfl, hC⟩
    refine ⟨ObS.of_val rfl (fun x v => rfl) (fun x V kst hC hD => ?_), ?_⟩
    · have e13 : x 13 = .pointer (some ⟨b, 0, none⟩) := hD.1 rfl
      have e12 : x 12 = .bool false := hD.2.1 rfl
      clear hD
      refine want_yes (by simp [Region.wanted, yielded, e12]) ?_
      exact leads_enter2 (by go_simp) ((K.len hC.at_ hok).mono fun e w'' ⟨he, hB⟩ => ⟨_, he, rfl, hC.step hB⟩)
    refine ⟨ObS.of_val rfl (fun x v => rfl) (fun x V kst hC hD => ?_), ?_⟩
    · have e12 : x 12 = .bool false := hD.1 rfl
      clear hD
      refine want_yes (by simp [Region.wanted, yielded, e12]) ?_
      exact leads_value (v := .pointer (some ⟨w.heap.size, 0, none⟩)) (by go_simp) ⟨rfl, hC⟩
    refine ⟨ObS.of_val rfl (fun x v => rfl) (fun x V kst hC hD => ?_), ?_⟩
    · have e15 : x 15 = .pointer (some ⟨w.heap.size, 0, none⟩) := hD.1 rfl
      have e12 : x 12 = .bool false := hD.2.1 rfl
      clear hD
      refine want_yes (by simp [Region.wanted, yielded, e12]) ?_
      have k0 : V.cell? ⟨w.heap.size, 0, none⟩ = some (.slice p M cv) := hC.blk.cell 0
      exact leads_value (v := .slice p M cv) (by go_simp) ⟨rfl, hC⟩
    refine ⟨ObS.of_val rfl (fun x v => rfl) (fun x V kst hC hD => ?_), ?_⟩
    · have e16 : x 16 = .slice p M cv := hD.1 rfl
      have e12 : x 12 = .bool false := hD.2.1 rfl
      clear hD
      refine want_yes (by simp [Region.wanted, yielded, e12]) ?_
      exact leads_value (v := .int .i64 (M : Int)) (by go_simp) ⟨rfl, hC⟩
    refine ⟨ObS.of_val rfl (fun x v => rfl) (fun x V kst hC hD => ?_), ?_⟩
    · have e17 : x 17 = .int .i64 (M : Int) := hD.1 rfl
      have e12 : x 12 = .bool false := hD.2.1 rfl
      clear hD
      refine want_yes (by simp [Region.wanted, yielded, e12]) ?_
      have q := HQ.out
      have q2 := HW.out
      exact leads_value (v := .int .i64 (S.len : Int)) (by go_simp) ⟨rfl, hC⟩
    refine ⟨ObS.of_val rfl (fun x v => rfl) (fun x V kst hC hD => ?_), ?_⟩
    · have e14 : x 14 = .int .i64 (S.len : Int) := hD.1 rfl
      have e18 : x 18 = .int .i64 (S.len : Int) := hD.2.1 rfl
      have e12 : x 12 = .bool false := hD.2.2.1 rfl
      clear hD
      refine want_yes (by simp [Region.wanted, yielded, e12]) ?_
      exact leads_value (v := .bool false) (by go_simp) ⟨rfl, hC⟩
    refine ⟨ObS.of_val rfl (fun x v => rfl) (fun x V kst hC hD => ?_), ?_⟩
    · have e12 : x 12 = .bool false := hD.1 rfl
      have e19 : x 19 = .bool false := hD.2.1 rfl
      clear hD
      refine want_yes rfl ?_
      exact leads_value (v := .bool false) (by go_simp) ⟨rfl, hC⟩
    trivial
  · intro xa V hD hx
    have HV := Lib.hid (show SameSt K w b S F p M cv V from hD)
    have e20 : xa 20 = .bool false := hx 20 (by simp)
    clear hx hD T0
    rw [e20]
    clear e20
    go_upto_region 4 with fail
    generalize xa 0 = z0, xa 1 = z1, xa 2 = z2, xa 3 = z3, xa 4 = z4, xa 5 = z5, xa 6 = z6, xa 7 = z7, xa 8 = z8, xa 9 = z9, xa 10 = z10, xa 11 = z11, xa 12 = z12, xa 13 = z13, xa 14 = z14, xa 15 = z15, xa 16 = z16, xa 17 = z17, xa 18 = z18, xa 19 = z19
    go_loopw [5] (fun i wr => ∃ k : Nat, k ≤ S.len ∧ i = .int .i64 k ∧ SameSt K w b S F p M cv wr) (fun i _ => S.len - (intOf i).toNat)
    case atStart => exact ⟨0, Nat.zero_le _, rfl, HV.out⟩
    case round =>
      obtain ⟨k, hk, rfl, hI⟩ := hrel
      have HI := Lib.hid hI
      clear hI HV
      have HLen := Lib.hid (K.len HI.out.at_ hok)
      go_wp2_with fail
      refine HLen.out.mono ?_
      rintro e w2 ⟨rfl, hB2⟩
      have HI2 := Lib.hid (HI.out.step hB2)
      clear hB2 HI HLen
      have c1 : w2.cell? ⟨w.heap.size, 1, none⟩ = some (.bool S.off) := HI2.out.blk.cell 1
      by_cases hlt : k < S.len
      · rcases Bool.eq_false_or_eq_true S.off with ho | ho
        · rw [ho] at c1
          clear ho
          go_wp2_with fail
          go_ret
          exact ⟨rfl, HI2.out.below⟩
        · rw [ho] at c1
          have HE := Lib.hid (show readE S (k : Int) = 0 ∧ readL S (k : Int) = blockL S k ∧ (blockL S k).length = 128 from by
            have h1 : hasD S (k : Int) = true := hasD_iff.2 ⟨by omega, by omega⟩
            have h2 : readE S (k : Int) = 0 := by unfold readE; rw [h1, ho]; rfl
            have h3 : readL S (k : Int) = blockL S k := by unfold readL; rw [if_pos h2]; rfl
            exact ⟨h2, h3, by have h4 := readL_length hok h2; rw [h3] at h4; exact h4⟩)
          have HRd := Lib.hid (K.read (k : Int) HI2.out.at_ hok)
          clear ho
          go_upto_region 6 with fail
          go_wp2_with fail
          refine HRd.out.mono ?_
          rintro e w3 ⟨p6, c6, rfl, ⟨t6, hR6⟩, hB3⟩
          rw [HE.out.2.1, HE.out.1, HE.out.2.2]
          rw [HE.out.2.1] at hR6
          obtain ⟨q6, d6, e6, hb6⟩ := BsAt.ofRow hR6
          rw [Value.slice.injEq] at e6
          obtain ⟨rfl, -, rfl⟩ := e6
          rw [HE.out.2.2] at hb6
          have HI3 := Lib.hid (show SameRd K w b S F p M cv p6 c6 (blockL S k) w3 from ⟨HI2.out.step hB3, hb6⟩)
          have HX := Lib.hid (show (128 : Int) * (k : Int) = ((128 * k : Nat) : Int) ∧ (128 : Int) * (k : Int) + 128 = ((128 * k + 128 : Nat) : Int) by omega)
          have HMk := Lib.hid (show 128 * k + 128 ≤ M from by have := HM.out; omega)
          have HA := Lib.hid (show IntKind.i64.wrap (128 * (k : Int)) = 128 * (k : Int) from IntWalk.i64_in _ (by omega))
          have HA2 := Lib.hid (show IntKind.i64.wrap (128 * (k : Int) + 128) = 128 * (k : Int) + 128 from IntWalk.i64_in _ (by omega))
          have hMc : M ≤ cv := HI2.out.bs.le
          have HSl := Lib.hid (show ∃ q qc, (∀ V : World, (Instr.slice 29 (.slice p M cv) (some (.int .i64 (128 * (k : Int)))) (some (.int .i64 (128 * (k : Int) + 128))) none).run Try.prog V = .ok (.slice q 128 qc) V) ∧ ∀ V, BsAt V p M cv S.all → BsAt V q 128 qc (blockL S k) from by
            refine ⟨if cv = 128 * k then p else p.map (·.add (128 * k)), cv - 128 * k, fun V => ?_, fun V hV => ?_⟩
            · have h1 := run_range (w := V) (p := p) (len := M) (cap := cv) HX.out.1 HX.out.2 (by omega) (by have := HMk.out; omega)
              rw [show 128 * k + 128 - 128 * k = 128 by omega] at h1
              exact h1
            · have h1 := bs_drop hV (n := 128 * k) (by have := HMk.out; have := hV.same; omega)
              exact bs_take h1 (n := 128) (by rw [List.length_drop]; have := HMk.out; have := hV.same; omega))
          clear hR6 hb6 hB3 c1 HI2 HRd
          obtain ⟨q, qc, hq1, hq2⟩ := HSl.out
          have HQ1 := Lib.hid hq1
          have HQ2 := Lib.hid hq2
          clear hq1 hq2 HSl
          go_upto_region 7 with fail
          refine wp_region_S (fun _ V => SameRd K w b S F p M cv p6 c6 (blockL S k) V) 0 [.val (.int .i64 0), .val (.bool false), .val (.bool false), .val (.slice p6 128 c6), .val (.string ⟨(blockL S k).toArray⟩), .val (.pointer (some ⟨w.heap.size, 0, none⟩)), .val (.slice p M cv), .val (.int .i64 (k : Int)), .val (.int .i64 (128 * (k : Int))), .val (.int .i64 (k : Int)), .val (.int .i64 (128 * (k : Int))), .val (.int .i64 (128 * (k : Int) + 128)), .val (.slice q 128 qc), .val (.string ⟨(blockL S k).toArray⟩), .val (.bool false), .val (.bool false)]
            (fun x => { tmps := #[.pointer (some ⟨b, 0, none⟩), .agg #[.slice p M cv, .bool S.off, .int .i64 S.fuse, .int .i64 S.keep, .int .i64 S.wr], undef, .pointer (some ⟨w.heap.size, 0, none⟩), u4, .int .i64 (k : Int), .slice p6 128 c6, .int .i64 0, z0, z1, z2, z3, z4, z5, z6, z7, z8, z9, z10, z11, z12, z13, z14, z15, z16, z17, z18, z19, .bool false, .int .i64 (k : Int), .pointer (some ⟨b, 0, none⟩), .int .i64 (S.len : Int), .bool true, .bool true, .pointer (some ⟨w.heap.size, 1, none⟩), .bool false, .bool true, .bool true, u38, u39, .tuple #[.slice p6 128 c6, .int .i64 0], .pointer (some ⟨b, 0, none⟩), .int .i64 (k : Int), .tuple #[.slice p6 128 c6, .int .i64 0], .slice p6 128 c6, .int .i64 0, x 0, x 1, x 2, x 3, x 4, x 5, x 6, x 7, x 8, x 9, x 10, x 11, x 12, x 13, x 14, x 15], defers := [] }) (fun i => ([u46, u47, u48, u49, u50, u51, u52, u53, u54, u55, u56, u57, u58, u59, u60, u61] : List Value).getD i undef) (by kernel_rfl) rfl rfl (by kernel_rfl) (by kernel_rfl) (by kernel_rfl) (by kernel_rfl) (HI3.out.drew) ?_ ?_
          · refine ⟨ObS.of_val rfl (fun x v => rfl) (fun x V kst hC hD => ?_), ?_⟩
            · clear hD
              refine want_yes rfl ?_
              exact leads_value (v := .int .i64 0) (by go_simp) ⟨rfl, hC⟩
            refine ⟨ObS.of_val rfl (fun x v => rfl) (fun x V kst hC hD => ?_), ?_⟩
            · have e0 : x 0 = .int .i64 0 := hD.1 rfl
              clear hD
              refine want_yes rfl ?_
              exact leads_value (v := .bool false) (by go_simp) ⟨rfl, hC⟩
            refine ⟨ObS.of_val rfl (fun x v => rfl) (fun x V kst hC hD => ?_), ?_⟩
            · have e1 : x 1 = .bool false := hD.1 rfl
              clear hD
              refine want_yes rfl ?_
              exact leads_value (v := .bool false) (by go_simp) ⟨rfl, hC⟩
            refine ⟨ObS.of_val rfl (fun x v => rfl) (fun x V kst hC hD => ?_), ?_⟩
            · have e2 : x 2 = .bool false := hD.1 rfl
              clear hD
              refine want_yes (by simp [Region.wanted, yielded, e2]) ?_
              exact leads_value (v := .slice p6 128 c6) (by go_simp) ⟨rfl, hC⟩
            refine ⟨ObS.of_val rfl (fun x v => rfl) (fun x V kst hC hD => ?_), ?_⟩
            · have e3 : x 3 = .slice p6 128 c6 := hD.1 rfl
              have e2 : x 2 = .bool false := hD.2.1 rfl
              clear hD
              refine want_yes (by simp [Region.wanted, yielded, e2]) ?_
              have q := run_string_bs (P := Try.prog) V 29 5 9 Try.underlying29 Try.underlying5 Try.underlying9 hC.rd
              exact leads_value (v := .string ⟨(blockL S k).toArray⟩) (by go_simp) ⟨rfl, hC⟩
            refine ⟨ObS.of_val rfl (fun x v => rfl) (fun x V kst hC hD => ?_), ?_⟩
            · have e2 : x 2 = .bool false := hD.1 rfl
              clear hD
              refine want_yes (by simp [Region.wanted, yielded, e2]) ?_
              exact leads_value (v := .pointer (some ⟨w.heap.size, 0, none⟩)) (by go_simp) ⟨rfl, hC⟩
            refine ⟨ObS.of_val rfl (fun x v => rfl) (fun x V kst hC hD => ?_), ?_⟩
            · have e5 : x 5 = .pointer (some ⟨w.heap.size, 0, none⟩) := hD.1 rfl
              have e2 : x 2 = .bool false := hD.2.1 rfl
              clear hD
              refine want_yes (by simp [Region.wanted, yielded, e2]) ?_
              have k0 : V.cell? ⟨w.heap.size, 0, none⟩ = some (.slice p M cv) := hC.st.blk.cell 0
              exact leads_value (v := .slice p M cv) (by go_simp) ⟨rfl, hC⟩
            refine ⟨ObS.of_val rfl (fun x v => rfl) (fun x V kst hC hD => ?_), ?_⟩
            · have e2 : x 2 = .bool false := hD.1 rfl
              clear hD
              refine want_yes (by simp [Region.wanted, yielded, e2]) ?_
              exact leads_value (v := .int .i64 (k : Int)) (by go_simp) ⟨rfl, hC⟩
            refine ⟨ObS.of_val rfl (fun x v => rfl) (fun x V kst hC hD => ?_), ?_⟩
            · have e7 : x 7 = .int .i64 (k : Int) := hD.1 rfl
              have e2 : x 2 = .bool false := hD.2.1 rfl
              clear hD
              refine want_yes (by simp [Region.wanted, yielded, e2]) ?_
              have q := HA.out
              exact leads_value (v := .int .i64 (128 * (k : Int))) (by go_simp) ⟨rfl, hC⟩
            refine ⟨ObS.of_val rfl (fun x v => rfl) (fun x V kst hC hD => ?_), ?_⟩
            · have e2 : x 2 = .bool false := hD.1 rfl
              clear hD
              refine want_yes (by simp [Region.wanted, yielded, e2]) ?_
              exact leads_value (v := .int .i64 (k : Int)) (by go_simp) ⟨rfl, hC⟩
            refine ⟨ObS.of_val rfl (fun x v => rfl) (fun x V kst hC hD => ?_), ?_⟩
            · have e9 : x 9 = .int .i64 (k : Int) := hD.1 rfl
              have e2 : x 2 = .bool false := hD.2.1 rfl
              clear hD
              refine want_yes (by simp [Region.wanted, yielded, e2]) ?_
              have q := HA.out
              exact leads_value (v := .int .i64 (128 * (k : Int))) (by go_simp) ⟨rfl, hC⟩
            refine ⟨ObS.of_val rfl (fun x v => rfl) (fun x V kst hC hD => ?_), ?_⟩
            · have e10 : x 10 = .int .i64 (128 * (k : Int)) := hD.1 rfl
              have e2 : x 2 = .bool false := hD.2.1 rfl
              clear hD
              refine want_yes (by simp [Region.wanted, yielded, e2]) ?_
              have q := HA2.out
              exact leads_value (v := .int .i64 (128 * (k : Int) + 128)) (by go_simp) ⟨rfl, hC⟩
            refine ⟨ObS.of_val rfl (fun x v => rfl) (fun x V kst hC hD => ?_), ?_⟩
            · have e6 : x 6 = .slice p M cv := hD.1 rfl
              have e8 : x 8 = .int .i64 (128 * (k : Int)) := hD.2.1 rfl
              have e11 : x 11 = .int .i64 (128 * (k : Int) + 128) := hD.2.2.1 rfl
              have e2 : x 2 = .bool false := hD.2.2.2.1 rfl
              clear hD
              refine want_yes (by simp [Region.wanted, yielded, e2]) ?_
              have q0 := HQ1.out V
              exact leads_value (v := .slice q 128 qc) (by go_simp) ⟨rfl, hC⟩
            refine ⟨ObS.of_val rfl (fun x v => rfl) (fun x V kst hC hD => ?_), ?_⟩
            · have e12 : x 12 = .slice q 128 qc := hD.1 rfl
              have e2 : x 2 = .bool false := hD.2.1 rfl
              clear hD
              refine want_yes (by simp [Region.wanted, yielded, e2]) ?_
              have q := run_string_bs (P := Try.prog) V 29 5 9 Try.underlying29 Try.underlying5 Try.underlying9 (HQ2.out V hC.st.bs)
              exact leads_value (v := .string ⟨(blockL S k).toArray⟩) (by go_simp) ⟨rfl, hC⟩
            refine ⟨ObS.of_val rfl (fun x v => rfl) (fun x V kst hC hD => ?_), ?_⟩
            · have e4 : x 4 = .string ⟨(blockL S k).toArray⟩ := hD.1 rfl
              have e13 : x 13 = .string ⟨(blockL S k).toArray⟩ := hD.2.1 rfl
              have e2 : x 2 = .bool false := hD.2.2.1 rfl
              clear hD
              refine want_yes (by simp [Region.wanted, yielded, e2]) ?_
              exact leads_value (v := .bool false) (by go_simp) ⟨rfl, hC⟩
            refine ⟨ObS.of_val rfl (fun x v => rfl) (fun x V kst hC hD => ?_), ?_⟩
            · have e2 : x 2 = .bool false := hD.1 rfl
              have e14 : x 14 = .bool false := hD.2.1 rfl
              clear hD
              refine want_yes rfl ?_
              exact leads_value (v := .bool false) (by go_simp) ⟨rfl, hC⟩
            trivial
          · intro xb V2 hD hx
            have HJ := Lib.hid (show SameRd K w b S F p M cv p6 c6 (blockL S k) V2 from hD)
            have e15 : xb 15 = .bool false := hx 15 (by simp)
            clear hx hD
            rw [e15]
            clear e15
            go_wp2_with fail
            go_roundw
            case rel => exact ⟨k + 1, by omega, by go_num, HJ.out.st⟩
            case measure => simp [intOf]; omega
      · clear c1
        have hd : decide ((k : Int) < (S.len : Int)) = false := by simp; omega
        go_wp2_with fail
        go_ret
        exact ⟨rfl, HI2.out.below⟩

end Go.Proofs.Ytjoimgmnklfmeaa

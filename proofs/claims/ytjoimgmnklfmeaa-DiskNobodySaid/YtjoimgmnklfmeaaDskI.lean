/-
  The program's disk: Copy.
-/
import Derived.Test.YtjoimgmnklfmeaaDskF
import Derived.Test.YtjoimgmnklfmeaaDskG
namespace Go.Proofs.Ytjoimgmnklfmeaa
open Go.RowKit

set_option maxRecDepth 100000 in
set_option maxHeartbeats 1600000 in
theorem dClone_any {w : World} {g n cap : Nat} {all ext : List UInt8} (h : Blk w g (bvA (all ++ ext)) 64) (hl : all.length = n * 128) (hn : 0 < n) (hf : n ≤ 1024) :
    Calls Try.prog 28 #[.slice (some ⟨g, 0, none⟩) n cap] w fun e w' => ∃ g' cp ext', e = .returned (.slice (some ⟨g', 0, none⟩) n cp) ∧ Blk w' g' (bvA (all ++ ext')) 64 ∧ w.heap.size ≤ g' ∧ n ≤ cp ∧ cp ≤ maxLen ∧ Below w.heap.size w w' := by
  have HB := Lib.hid (h.alloc (.cells #[] 64))
  have HW := Lib.hid (belowNew w (.cells #[] 64))
  have HL := Lib.hid (And.intro hl (And.intro hn (And.intro (show n ≤ maxLen by unfold maxLen; omega) (show n * 128 ≤ 140737488355328 by omega))))
  have HS := Lib.hid (show w.heap.size ≤ (w.alloc (.cells #[] 64)).heap.size by simp)
  have hnil := fun (V : World) => Lib.run_eql_slice_nil (P := Try.prog) V 56 64 (some ⟨g, 0, none⟩) n cap 0 0 Try.underlying56
  clear h hl hf hn
  go_enter Try.func28, Try.ntmps28
  go_wp2_with (at_builtin; refine wpList_append_blocks rfl _ _ 56 rfl 64 Try.underlying56 infoBk rfl rfl HB.out HL.out.1 HL.out.2.1 HL.out.2.2.1 HL.out.2.2.2 ?_; intro w2 c2 h2 hb2 hc2 hm2; have H2 := Lib.hid h2; have HB2 := Lib.hid hb2; have HC2 := Lib.hid hc2; have HM2 := Lib.hid hm2; clear h2 hb2 hc2 hm2)
  go_ret
  have h2 := H2.out
  have hs := HS.out
  have hb2 := HB2.out.mono hs
  rw [World.size_alloc] at h2 hs
  exact ⟨_, c2, _, rfl, h2, hs, HC2.out, HM2.out, HW.out.trans hb2⟩
theorem infoDk : (Try.prog.info? 60).map (·.size) = some 6 := by kernel_rfl
set_option maxRecDepth 100000 in
set_option maxHeartbeats 1600000 in
theorem dCopy_any {w : World} {b : Nat} {S : DS} {F : Nat → Prop} (h : theRel.At w b S F) (hok : DSOk S) : Calls Try.prog 21 #[ptrV b] w fun e w' => ∃ c G, e = .returned (ptrV c) ∧ theRel.At w' c S G ∧ (∀ k, G k → w.heap.size ≤ k) ∧ Below w.heap.size w w' := by
  obtain ⟨g, cap, ext, armed, left, keep, h, rfl⟩ := h
  obtain ⟨k0, k1, k2, k3, k4, k5⟩ := disk_cells h.blk
  have HM := Lib.hid (dMade_any k0 h.pos)
  have HH := Lib.hid h
  have HL := Lib.hid (And.intro hok.len hok.few)
  have HK := Lib.hid (Blk.new w #[.slice none 0 0, .bool false, .bool false, .int .i64 0, .int .i64 0, .int .i64 0] 60)
  have HW := Lib.hid (belowNew w (.cells #[.slice none 0 0, .bool false, .bool false, .int .i64 0, .int .i64 0, .int .i64 0] 60))
  have HD := Lib.hid (h.blk.alloc (.cells #[.slice none 0 0, .bool false, .bool false, .int .i64 0, .int .i64 0, .int .i64 0] 60))
  have HNe := Lib.hid (show b ≠ w.heap.size from Nat.ne_of_lt h.blk.lt)
  clear h k1 k2 k3 k4 k5
  unfold ptrV at *
  go_enter Try.func21, Try.ntmps21
  go_wp2_with fail
  with_reducible refine HM.out.mono ?_
  rintro e w1 ⟨rfl, rfl⟩
  go_wp2_with (first
    | (refine wpList_load_arr rfl _ _ rfl rfl HH.out.blk Try.underlying60 rfl infoDk ?_)
    | (refine wpList_store_arr rfl rfl _ _ _ rfl rfl rfl HK.out infoDk rfl (by simp [Value.oneCell']) ?_; intro w3 hw3; have HP := Lib.hid hw3; have HD3 := Lib.hid (HD.out.other hw3 HNe.out); obtain ⟨j0, j1, j2, j3, j4, j5⟩ := disk_cells HD3.out; clear hw3))
  have HW3 := Lib.hid (HW.out.trans (HP.out.below HW.out.size (Nat.le_refl _)))
  have HR3 := Lib.hid (HH.out.row.below HW3.out HH.out.row.lt)
  have HC := Lib.hid (dClone_any (n := S.len) (cap := cap) HR3.out (by have := HL.out.1; omega) HH.out.pos HL.out.2)
  with_reducible refine HC.out.mono ?_
  rintro e w4 ⟨g', cp, ext', rfl, h1, h2, h3, h4, h5⟩
  have HG := Lib.hid (And.intro h1 (And.intro h2 (And.intro h3 (And.intro h4 h5))))
  have HP4 := Lib.hid (HP.out.blk.below h5 HP.out.blk.lt)
  have f0 := HP4.out.free 0
  obtain ⟨l0, l1, l2, l3, l4, l5⟩ := disk_cells HP4.out
  clear h1 h2 h3 h4 h5 j0 j1 j2 j3 j4 j5
  go_wp2_with fail
  go_ret
  have hp := (Put.refl HP4.out).set 0 (.slice (some ⟨g', 0, none⟩) S.len cp)
  have hlt := HP.out.blk.lt
  have hw := HW.out.size
  have h3 := HW3.out.size
  refine ⟨w.heap.size, _, rfl, ⟨g', cp, ext', armed, left, keep, ⟨hp.blk, hp.chg.kept HG.out.1 (by have := HG.out.2.1; omega), HH.out.fuse, HH.out.pos, HG.out.2.2.1, HG.out.2.2.2.1, by have := HG.out.2.1; omega⟩, rfl⟩, ?_, (HW3.out.trans (HG.out.2.2.2.2.mono h3)).trans (hp.below (Nat.le_trans h3 HG.out.2.2.2.2.size) (Nat.le_refl _))⟩
  rintro k (e | e)
  · omega
  · have := HG.out.2.1; omega
end Go.Proofs.Ytjoimgmnklfmeaa

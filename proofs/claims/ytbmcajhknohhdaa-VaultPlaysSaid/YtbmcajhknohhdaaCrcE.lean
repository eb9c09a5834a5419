/-
  The program's State: Add and Sum; the sum of parts.
-/
import Derived.Test.YtbmcajhknohhdaaCrcD
import Derived.Test.YtbmcajhknohhdaaStage
import Derived.Test.YtbmcajhknohhdaaLawRSums
namespace Go.Proofs.Ytbmcajhknohhdaa
open Go.RowKit

/-- The state that is added to, and the result. -/
structure AddS (w : World) (x y : Nat) (V : World) : Prop where
  below : Below w.heap.size w V
  state : Blk V w.heap.size #[.int .u32 (x : Int)] 108
  out : Blk V (w.heap.size + 1) #[.int .u32 (y : Int)] 108
theorem AddS.new (w : World) (x : Nat) : AddS w x 0 ((w.alloc (.cells #[.int .u32 (x : Int)] 108)).alloc (.cells #[.int .u32 0] 108)) where
  below := tab_below_two _ _ _
  state := (Blk.new w _ _).alloc _
  out := by
    have := Blk.new (w.alloc (.cells #[.int .u32 (x : Int)] 108)) #[.int .u32 0] 108
    simp only [World.size_alloc] at this
    exact this
theorem AddS.step {w V V' : World} {x y : Nat} (h : AddS w x y V) (hB : Below V.heap.size V V') : AddS w x y V' :=
  ⟨h.below.trans (hB.mono h.below.size), h.state.below hB h.state.lt, h.out.below hB h.out.lt⟩
theorem AddS.drew {w V : World} {x y : Nat} (h : AddS w x y V) : AddS w x y V.drew := ⟨h.below.drew, h.state.drew, h.out.drew⟩
theorem AddS.put {w V V' : World} {x y z : Nat} (h : AddS w x y V) (hp : PutB V V' (w.heap.size + 1) (.cells #[.int .u32 (z : Int)] 108 (0, 0))) : AddS w x z V' :=
  ⟨h.below.trans (hp.below (by omega)), (hp.other _ (by omega)).trans h.state, hp.new⟩

set_option maxHeartbeats 800000 in
theorem stSum_any : StSumC := by
  intro l w
  go_enter Try.func56, Try.ntmps56
  have c0 := (Blk.new w #[.int .u32 (crcSum l : Nat)] 108).cell 0
  generalize crcSum l = S at *
  go_wp2_with fail
  go_ret
  exact ⟨rfl, belowNew _ _⟩

/-- The table and the state so far, while parts are added. -/
structure SumR (w : World) (b c x : Nat) (V : World) : Prop where
  below : Below w.heap.size w V
  tab : Blk V b (tabC 16) 105
  state : Blk V c #[.int .u32 (x : Int)] 108
theorem SumR.step {w V V' : World} {b c x : Nat} (h : SumR w b c x V) (hB : Below V.heap.size V V') : SumR w b c x V' :=
  ⟨h.below.trans (hB.mono h.below.size), h.tab.below hB h.tab.lt, h.state.below hB h.state.lt⟩
theorem SumR.set {w V : World} {b c x : Nat} (y : Nat) (h : SumR w b c x V) (hb : b < c) (hc : w.heap.size ≤ c) : SumR w b c y (V.setCell ⟨c, 0, none⟩ (.int .u32 (y : Int))) :=
  ⟨h.below.setCell (p := ⟨c, 0, none⟩) hc _, h.tab.set_other (a := ⟨c, 0, none⟩) (by show c ≠ b; omega) _, h.state.set 0 _⟩

set_option maxRecDepth 100000 in
set_option maxHeartbeats 3200000 in
theorem cSum_any : SumC := by
  intro v ls w h hl hls
  have HRows := Lib.hid h
  obtain ⟨p, cap, rfl, hcl, hcm, hc⟩ := h
  have HC := Lib.hid hc
  clear hc
  go_enter Try.func40, Try.ntmps40
  go_wp2_with fail
  refine (newTable_any _).mono ?_
  rintro e w1 ⟨rfl, hB1⟩
  have HB1 := Lib.hid hB1
  have hbk : Blk (w1.alloc (.cells #[.int .u32 0, .int .u32 0, .int .u32 0, .int .u32 0, .int .u32 0, .int .u32 0, .int .u32 0, .int .u32 0, .int .u32 0, .int .u32 0, .int .u32 0, .int .u32 0, .int .u32 0, .int .u32 0, .int .u32 0, .int .u32 0] 105)) w1.heap.size (tabC 0) 105 := Blk.new _ _ _
  clear hB1
  go_wp2_with (refine wpList_store_arr (old := tabC 0) rfl rfl _ _ _ rfl rfl rfl hbk (infoTab 16) (by rw [tabC_size, tabC_size]) (arrC_one _ _ _) ?_; intro w2 hw2; have HW2 := Lib.hid hw2; clear hw2)
  have hs2 : w1.heap.size + 1 ≤ w2.heap.size := by have := HW2.out.chg.size; simpa using this
  have I0 : SumR w w1.heap.size w2.heap.size (crcSum []) (w2.alloc (.cells #[.int .u32 0] 108)) :=
    ⟨((HB1.out.alloc HB1.out.size _).trans (HW2.out.below (by have := HB1.out.size; simp; omega) HB1.out.size)).alloc (by have := HB1.out.size; omega) _, HW2.out.blk.alloc _, by rw [crcSum_nil]; exact Blk.new _ _ _⟩
  have HI0 := Lib.hid I0
  have hs1 := HB1.out.size
  have hbc : w1.heap.size < w2.heap.size := by omega
  have hcw : w.heap.size ≤ w2.heap.size := by omega
  generalize w1.heap.size = b1 at *
  clear hs2 hs1 HW2 HB1 I0 hbk
  go_wp2_with fail
  have HBC := Lib.hid hbc
  clear hbc
  generalize w2.heap.size = b2 at *
  go_loopw [10] (fun i wr => ∃ k : Nat, k ≤ ls.length ∧ i = .int .i64 k ∧ SumR w b1 b2 (crcSum (ls.take k).flatten) wr) (fun i _ => ls.length - (intOf i).toNat)
  case atStart => exact ⟨0, Nat.zero_le _, rfl, HI0.out⟩
  case round =>
    obtain ⟨k, hk, rfl, hI⟩ := hrel
    have HI := Lib.hid hI
    clear hI
    have s0 : wr.cell? ⟨b2, 0, none⟩ = some (.int .u32 (crcSum (ls.take k).flatten : Nat)) := HI.out.state.cell 0
    by_cases hlt : k < ls.length
    · obtain ⟨b, off, rfl, hb, hcs⟩ := HC.out (by intro e; rw [e] at hlt; simp at hlt)
      obtain ⟨q, n, c, c0, hbs⟩ := hcs k hlt
      have d0 := (HI.out.below.cell (p := ⟨b, off + k, none⟩) hb).trans c0
      have HAdd := Lib.hid (addT_any q n c (ls.take k).flatten ls[k] wr (hbs.below HI.out.below (Nat.le_refl _)) (by have := hls ls[k] (List.getElem_mem hlt); omega))
      have HT := Lib.hid (congrArg crcSum (flat_take hlt))
      have f1 := HI.out.tab
      clear hcs c0 hbs
      generalize crcSum (ls.take k).flatten = x at *
      generalize crcSum ((ls.take k).flatten ++ ls[k]) = y at *
      go_wp2_with (refine wpList_load_arr rfl _ _ rfl rfl f1 Try.underlying105 rfl (infoTab 16) ?_)
      refine HAdd.out.mono ?_
      rintro e w3 ⟨rfl, hB3⟩
      have HI3 := Lib.hid (HI.out.step hB3)
      have f3 := HI3.out.state.free 0
      have s3 : w3.cell? ⟨b2, 0, none⟩ = some (.int .u32 (x : Int)) := HI3.out.state.cell 0
      clear hB3 f1 s0 d0
      go_wp2_with fail
      go_roundw
      case rel => exact ⟨k + 1, by omega, by go_num, by rw [HT.out]; exact HI3.out.set _ HBC.out hcw⟩
      case measure => simp [intOf]; omega
    · have hT : ls.take k = ls := List.take_of_length_le (by omega)
      rw [hT] at HI s0
      have HS := Lib.hid (stSum_any ls.flatten wr)
      go_wp2_with fail
      refine HS.out.mono ?_
      rintro e w3 ⟨rfl, hB3⟩
      have HI3 := Lib.hid (HI.out.step hB3)
      clear hB3
      go_wp2_with fail
      go_ret
      exact ⟨rfl, HI3.out.below⟩

end Go.Proofs.Ytbmcajhknohhdaa

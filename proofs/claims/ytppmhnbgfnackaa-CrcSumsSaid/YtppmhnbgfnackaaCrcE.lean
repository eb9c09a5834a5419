/-
  The program's State: Add and Sum; the sum of parts.
-/
import Derived.Test.YtppmhnbgfnackaaCrcD
import Derived.Test.YtppmhnbgfnackaaStage
import Derived.Test.YtppmhnbgfnackaaLawRSums
namespace Go.Proofs.Ytppmhnbgfnackaa
open Go.RowKit

/-- The state that is added to, and the result. -/
structure AddS (w : World) (x y : Nat) (V : World) : Prop where
  below : Below w.heap.size w V
  state : Blk V w.heap.size #[.int .u32 (x : Int)] 27
  out : Blk V (w.heap.size + 1) #[.int .u32 (y : Int)] 27
theorem AddS.new (w : World) (x : Nat) : AddS w x 0 ((w.alloc (.cells #[.int .u32 (x : Int)] 27)).alloc (.cells #[.int .u32 0] 27)) where
  below := tab_below_two _ _ _
  state := (Blk.new w _ _).alloc _
  out := by
    have := Blk.new (w.alloc (.cells #[.int .u32 (x : Int)] 27)) #[.int .u32 0] 27
    simp only [World.size_alloc] at this
    exact this
theorem AddS.step {w V V' : World} {x y : Nat} (h : AddS w x y V) (hB : Below V.heap.size V V') : AddS w x y V' :=
  ⟨h.below.trans (hB.mono h.below.size), h.state.below hB h.state.lt, h.out.below hB h.out.lt⟩
theorem AddS.drew {w V : World} {x y : Nat} (h : AddS w x y V) : AddS w x y V.drew := ⟨h.below.drew, h.state.drew, h.out.drew⟩
theorem AddS.put {w V V' : World} {x y z : Nat} (h : AddS w x y V) (hp : PutB V V' (w.heap.size + 1) (.cells #[.int .u32 (z : Int)] 27 (0, 0))) : AddS w x z V' :=
  ⟨h.below.trans (hp.below (by omega)), (hp.other _ (by omega)).trans h.state, hp.new⟩

set_option maxRecDepth 100000 in
set_option maxHeartbeats 1600000 in
theorem stAdd_any : AddC := by
  intro p len cap l m w h hm
  have T0 := Lib.hid (AddS.new w (crcSum l)).drew
  have HCall := Lib.hid (fun V (hV : Below w.heap.size w V) => addT_any p len cap l m V (h.below hV (Nat.le_refl _)) (by omega))
  clear h
  go_enter Try.func7, Try.ntmps7
  go_wp2_with fail
  refine wp_region_S (fun k V => AddS w (crcSum l) (turnSt 0 (crcSum (l ++ m)) (crcSum (l ++ m)) k) V) 1 [.val (.agg #[.int .u32 (crcSum l : Nat)]), .val (.agg (tabC 16)), .val (.slice p len cap), .val (.agg #[.int .u32 (crcSum (l ++ m) : Nat)]), .turn 0 (undef)]
    (fun x => { tmps := #[.agg #[.int .u32 (crcSum l : Nat)], .slice p len cap, .pointer (some ⟨w.heap.size, 0, none⟩), undef, .pointer (some ⟨w.heap.size + 1, 0, none⟩), x 0, x 1, x 2, x 3], defers := [] }) (fun i => ([undef, undef, undef, undef, undef] : List Value).getD i undef) (by kernel_rfl) rfl rfl (by kernel_rfl) (by kernel_rfl) (by kernel_rfl) (by kernel_rfl) (T0.out) ?_ ?_
  · refine ⟨ObS.of_val rfl (fun x v => rfl) (fun x V kst hC hD => ?_), ?_⟩
    · clear hD
      refine want_yes rfl ?_
      have k0 : V.cell? ⟨w.heap.size, 0, none⟩ = some (.int .u32 (crcSum l : Nat)) := hC.state.cell 0
      exact leads_value (v := .agg #[.int .u32 (crcSum l : Nat)]) (by go_simp) ⟨rfl, hC⟩
    refine ⟨ObS.of_val rfl (fun x v => rfl) (fun x V kst hC hD => ?_), ?_⟩
    · clear hD
      refine want_yes rfl ?_
      exact leads_enter2 (by go_simp) ((newTable_any V).mono fun e w'' ⟨he, hB⟩ => ⟨_, he, rfl, hC.step hB⟩)
    refine ⟨ObS.of_val rfl (fun x v => rfl) (fun x V kst hC hD => ?_), ?_⟩
    · clear hD
      refine want_yes rfl ?_
      exact leads_value (v := .slice p len cap) (by go_simp) ⟨rfl, hC⟩
    refine ⟨ObS.of_val rfl (fun x v => rfl) (fun x V kst hC hD => ?_), ?_⟩
    · have e0 : x 0 = .agg #[.int .u32 (crcSum l : Nat)] := hD.1 rfl
      have e1 : x 1 = .agg (tabC 16) := hD.2.1 rfl
      have e2 : x 2 = .slice p len cap := hD.2.2.1 rfl
      clear hD
      refine want_yes rfl ?_
      exact leads_enter2 (by go_simp) ((HCall.out V hC.below).mono fun e w'' ⟨he, hB⟩ => ⟨_, he, rfl, hC.step hB⟩)
    refine ⟨ObS.of_turn rfl (fun x v => rfl) (fun x V hC hD => ?_), ?_⟩
    · have e3 : x 3 = .agg #[.int .u32 (crcSum (l ++ m) : Nat)] := hD.1 rfl
      have e0 : x 0 = .agg #[.int .u32 (crcSum l : Nat)] := hD.2.2.1 rfl
      have e1 : x 1 = .agg (tabC 16) := hD.2.2.2.1 rfl
      have e2 : x 2 = .slice p len cap := hD.2.2.2.2.1 rfl
      clear hD
      refine want_yes rfl ?_
      exact leads_mono (leads_store_un rfl (by go_simp) e3 hC.out infoSt rfl (by simp [Value.oneCell'])) fun _ _ hp => ⟨hp.1, hC.put hp.2⟩
    trivial
  · intro xa V hD hx
    have hD : AddS w (crcSum l) (crcSum (l ++ m)) V := hD
    clear hx
    go_wp2_with fail
    exact bodyPost_ret (v := .agg #[.int .u32 (crcSum (l ++ m) : Nat)]) (results_arr rfl rfl hD.out Try.underlying27 rfl infoSt) rfl ⟨rfl, hD.below⟩

set_option maxHeartbeats 800000 in
theorem stSum_any : StSumC := by
  intro l w
  go_enter Try.func10, Try.ntmps10
  have c0 := (Blk.new w #[.int .u32 (crcSum l : Nat)] 27).cell 0
  generalize crcSum l = S at *
  go_wp2_with fail
  go_ret
  exact ⟨rfl, belowNew _ _⟩

/-- The table and the state so far, while parts are added. -/
structure SumR (w : World) (b c x : Nat) (V : World) : Prop where
  below : Below w.heap.size w V
  tab : Blk V b (tabC 16) 42
  state : Blk V c #[.int .u32 (x : Int)] 27
theorem SumR.step {w V V' : World} {b c x : Nat} (h : SumR w b c x V) (hB : Below V.heap.size V V') : SumR w b c x V' :=
  ⟨h.below.trans (hB.mono h.below.size), h.tab.below hB h.tab.lt, h.state.below hB h.state.lt⟩
theorem SumR.set {w V : World} {b c x : Nat} (y : Nat) (h : SumR w b c x V) (hb : b < c) (hc : w.heap.size ≤ c) : SumR w b c y (V.setCell ⟨c, 0, none⟩ (.int .u32 (y : Int))) :=
  ⟨h.below.setCell (p := ⟨c, 0, none⟩) hc _, h.tab.set_other (a := ⟨c, 0, none⟩) (by show c ≠ b; omega) _, h.state.set 0 _⟩

set_option maxRecDepth 100000 in
set_option maxHeartbeats 3200000 in
theorem cSum_any : SumC := by
  intro v ls w h hl hls
  have HRows := Lib.hid h
  obtain ⟨p, cap, rfl, hcl, hcm, hc⟩ := h
  have HC := Lib.hid hc
  clear hc
  go_enter Try.func9, Try.ntmps9
  go_wp2_with fail
  refine (newTable_any _).mono ?_
  rintro e w1 ⟨rfl, hB1⟩
  have HB1 := Lib.hid hB1
  have hbk : Blk (w1.alloc (.cells #[.int .u32 0, .int .u32 0, .int .u32 0, .int .u32 0, .int .u32 0, .int .u32 0, .int .u32 0, .int .u32 0, .int .u32 0, .int .u32 0, .int .u32 0, .int .u32 0, .int .u32 0, .int .u32 0, .int .u32 0, .int .u32 0] 42)) w1.heap.size (tabC 0) 42 := Blk.new _ _ _
  clear hB1
  go_wp2_with (refine wpList_store_arr (old := tabC 0) rfl rfl _ _ _ rfl rfl rfl hbk (infoTab 16) (by rw [tabC_size, tabC_size]) (arrC_one _ _ _) ?_; intro w2 hw2; have HW2 := Lib.hid hw2; clear hw2)
  have hs2 : w1.heap.size + 1 ≤ w2.heap.size := by have := HW2.out.chg.size; simpa using this
  have I0 : SumR w w1.heap.size w2.heap.size (crcSum []) (w2.alloc (.cells #[.int .u32 0] 27)) :=
    ⟨((HB1.out.alloc HB1.out.size _).trans (HW2.out.below (by have := HB1.out.size; simp; omega) HB1.out.size)).alloc (by have := HB1.out.size; omega) _, HW2.out.blk.alloc _, by rw [crcSum_nil]; exact Blk.new _ _ _⟩
  have HI0 := Lib.hid I0
  have hs1 := HB1.out.size
  have hbc : w1.heap.size < w2.heap.size := by omega
  have hcw : w.heap.size ≤ w2.heap.size := by omega
  generalize w1.heap.size = b1 at *
  clear hs2 hs1 HW2 HB1 I0 hbk
  go_wp2_with fail
  have HBC := Lib.hid hbc
  clear hbc
  generalize w2.heap.size = b2 at *
  go_loopw [10] (fun i wr => ∃ k : Nat, k ≤ ls.length ∧ i = .int .i64 k ∧ SumR w b1 b2 (crcSum (ls.take k).flatten) wr) (fun i _ => ls.length - (intOf i).toNat)
  case atStart => exact ⟨0, Nat.zero_le _, rfl, HI0.out⟩
  case round =>
    obtain ⟨k, hk, rfl, hI⟩ := hrel
    have HI := Lib.hid hI
    clear hI
    have s0 : wr.cell? ⟨b2, 0, none⟩ = some (.int .u32 (crcSum (ls.take k).flatten : Nat)) := HI.out.state.cell 0
    by_cases hlt : k < ls.length
    · obtain ⟨b, off, rfl, hb, hcs⟩ := HC.out (by intro e; rw [e] at hlt; simp at hlt)
      obtain ⟨q, n, c, c0, hbs⟩ := hcs k hlt
      have d0 := (HI.out.below.cell (p := ⟨b, off + k, none⟩) hb).trans c0
      have HAdd := Lib.hid (addT_any q n c (ls.take k).flatten ls[k] wr (hbs.below HI.out.below (Nat.le_refl _)) (by have := hls ls[k] (List.getElem_mem hlt); omega))
      have HT := Lib.hid (congrArg crcSum (flat_take hlt))
      have f1 := HI.out.tab
      clear hcs c0 hbs
      generalize crcSum (ls.take k).flatten = x at *
      generalize crcSum ((ls.take k).flatten ++ ls[k]) = y at *
      go_wp2_with (refine wpList_load_arr rfl _ _ rfl rfl f1 Try.underlying42 rfl (infoTab 16) ?_)
      refine HAdd.out.mono ?_
      rintro e w3 ⟨rfl, hB3⟩
      have HI3 := Lib.hid (HI.out.step hB3)
      have f3 := HI3.out.state.free 0
      have s3 : w3.cell? ⟨b2, 0, none⟩ = some (.int .u32 (x : Int)) := HI3.out.state.cell 0
      clear hB3 f1 s0 d0
      go_wp2_with fail
      go_roundw
      case rel => exact ⟨k + 1, by omega, by go_num, by rw [HT.out]; exact HI3.out.set _ HBC.out hcw⟩
      case measure => simp [intOf]; omega
    · have hT : ls.take k = ls := List.take_of_length_le (by omega)
      rw [hT] at HI s0
      have HS := Lib.hid (stSum_any ls.flatten wr)
      go_wp2_with fail
      refine HS.out.mono ?_
      rintro e w3 ⟨rfl, hB3⟩
      have HI3 := Lib.hid (HI.out.step hB3)
      clear hB3
      go_wp2_with fail
      go_ret
      exact ⟨rfl, HI3.out.below⟩

end Go.Proofs.Ytppmhnbgfnackaa

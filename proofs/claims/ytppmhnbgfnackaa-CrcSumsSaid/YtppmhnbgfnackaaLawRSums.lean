/-
  The law CrcSums, from the program's contracts: sums of any parts are the document's.
-/
import Derived.Test.YtppmhnbgfnackaaCrcC
import Derived.Test.YtppmhnbgfnackaaStage
import Derived.Test.YtppmhnbgfnackaaWirN
namespace Go.Proofs.Ytppmhnbgfnackaa
open Go.RowKit

theorem crcSum_nil : crcSum [] = 0 := by decide
theorem infoState : (Try.prog.info? 27).map (·.size) = some 1 := by kernel_rfl
/-- What is known in a round: the state's block, and all bytes so far. -/
structure SumsIn (w : World) (b : Nat) (x : Nat) (v : Value) (S : List UInt8) (V : World) : Prop where
  below : Below w.heap.size w V
  blk : Blk V b #[.int .u32 (x : Int)] 27
  row : V.ownsRow w.heap.size 5 1 v S.length (bvs S)
  apart : v.ownBlock ≠ some b
theorem row_chg {S : Nat → Prop} {w w' : World} {base e n : Nat} {v : Value} {xs : List Value} (h : w.ownsRow base e 1 v n xs) (hc : Chg S w w') (hv : ∀ k, v.ownBlock = some k → ¬ S k) : w'.ownsRow base e 1 v n xs := by
  obtain ⟨h1, h2⟩ := h
  refine ⟨h1, ?_⟩
  rcases h2 with h2 | ⟨g, cap, cur, rfl, hg, hgg, rest⟩
  · exact .inl h2
  · refine .inr ⟨g, cap, cur, rfl, hg, ?_, rest⟩
    rw [hc.block g (Array.getElem?_eq_some_iff.1 hgg).1 (hv g rfl)]; exact hgg
theorem SumsIn.step {w : World} {b x : Nat} {v : Value} {S : List UInt8} {V V' : World} (h : SumsIn w b x v S V) (hB : Below V.heap.size V V') : SumsIn w b x v S V' :=
  ⟨h.below.trans (hB.mono h.below.size), (hB.block b h.blk.lt).trans h.blk, row_chg h.row (Chg.ofBelow (S := fun _ => False) hB) (fun _ _ h => h), h.apart⟩
theorem SumsIn.put {w : World} {b x y : Nat} {v : Value} {S : List UInt8} {V V' : World} (h : SumsIn w b x v S V) (hb : w.heap.size ≤ b) (hp : PutB V V' b (.cells #[.int .u32 (y : Int)] 27 (0, 0))) : SumsIn w b y v S V' :=
  ⟨h.below.trans (hp.below hb), hp.new, row_chg (S := fun k => k = b) h.row ⟨hp.os, hp.tape, hp.output, by rw [hp.size]; exact Nat.le_refl _, fun k _ hn => hp.other k hn⟩ (fun k hk e => h.apart (e ▸ hk)), h.apart⟩
/-- A store of a whole struct: no value, and the block holds it. -/
theorem leads_store_un {P : Program} {o : Oper} {a : Act} {w : World} {x y : Operand} {ty : TypeId} {b : Nat} {old new : Array Value} (ho : o.op = .store ty x y) (hx : a.eval x = .pointer (some ⟨b, 0, none⟩)) (hy : a.eval y = .agg new) (h : w.heap[b]? = some (.cells old ty (0, 0)))
    (hi : (P.info? ty).map (·.size) = some new.size) (hs : old.size = new.size) (h1 : new.all (·.oneCell') = true) : leads P o a w (fun u V' => u = undef ∧ PutB w V' b (.cells new ty (0, 0))) := by
  unfold leads execOp
  simp only [ho, hx, hy, Instr.storeAt, Instr.sureAddr, Sem.run_bind, Sem.run_pure, Result.andThen_ok, run_storeVar_row w b _ ty old new h hi hs h1]
  exact ⟨trivial, rfl, rfl, rfl, setRow_heap w b _ _ _ _ h, by simp, fun k hk => setRow_other w b k _ hk⟩
theorem leads_mono {P : Program} {o : Oper} {a : Act} {w : World} {R R' : Value → World → Prop} (h : leads P o a w R) (hR : ∀ v w', R v w' → R' v w') : leads P o a w R' := by
  unfold leads at *
  generalize (execOp a.eval o).run P w = r at *
  cases r with
  | ok n w' =>
    cases n <;> simp only at h ⊢ <;> first | exact hR _ _ h | exact h.mono (fun e w'' he => by obtain ⟨v, h1, h2⟩ := he; exact ⟨v, h1, hR _ _ h2⟩) | exact h.elim
  | halt x w' => exact h
theorem turn_id {α : Type} (a : α) : ∀ k, turnSt a a a k = a
  | 0 => rfl
  | 1 => rfl
  | _ + 2 => rfl
theorem flat_take {ls : List (List UInt8)} {k : Nat} (h : k < ls.length) : (ls.take (k + 1)).flatten = (ls.take k).flatten ++ ls[k] := by
  rw [List.take_succ_eq_append_getElem h, List.flatten_append]; simp
theorem flat_le (ls : List (List UInt8)) (k : Nat) (hk : k ≤ 30) (h : ∀ l ∈ ls.take k, l.length ≤ 300) : (ls.take k).flatten.length ≤ 9000 := by
  have h1 : ∀ (m : List (List UInt8)), (∀ l ∈ m, l.length ≤ 300) → m.flatten.length ≤ 300 * m.length := by
    intro m
    induction m with
    | nil => intro _; simp
    | cons a m ih =>
      intro hm
      have h2 := ih fun l hl => hm l (List.mem_cons_of_mem _ hl)
      have h3 := hm a List.mem_cons_self
      simp only [List.flatten_cons, List.length_append, List.length_cons]
      omega
  have h2 := h1 _ h
  have h3 : (ls.take k).length ≤ k := List.length_take_le _ _
  omega
theorem all_take {ls : List (List UInt8)} {k : Nat} (h : k < ls.length) (h1 : ∀ l ∈ ls.take k, l.length ≤ 300) (h2 : ls[k].length ≤ 300) : ∀ l ∈ ls.take (k + 1), l.length ≤ 300 := by
  intro l hl
  rw [List.take_succ_eq_append_getElem h] at hl
  rcases List.mem_append.1 hl with h3 | h3
  · exact h1 l h3
  · rw [List.mem_singleton.1 h3]; exact h2

set_option maxRecDepth 100000 in
set_option maxHeartbeats 2000000 in
theorem csums_near (hAdd : AddC) (hSt : StSumC) (hSum : SumC) (hAlive : CrcAliveC) (v : Value) (ls : List (List UInt8)) (w : World) (h : RowsAt w v ls) (hl : ls.length ≤ 30) :
    Calls Try.prog 3 #[v] w fun e w' => e = .returned (.bool true) ∧ Below w.heap.size w w' := by
  have HRows := Lib.hid h
  obtain ⟨p, cap, rfl, hcl, hcm, hc⟩ := h
  have HC := Lib.hid hc
  have HA := Lib.hid hAlive
  have HAdd := Lib.hid hAdd
  have HSt := Lib.hid hSt
  have HSum := Lib.hid hSum
  have H0 := Lib.hid (show SumsIn w w.heap.size (crcSum []) (.slice none 0 0) [] (w.alloc (.cells #[.int .u32 0] 27)) from ⟨belowNew w _, by rw [crcSum_nil]; exact Blk.new w _ _, World.ownsRow_nil _ _ _ _, fun e => by cases e⟩)
  clear hc hAdd hSt hSum hAlive
  go_enter Try.func3, Try.ntmps3
  go_wp2_with fail
  go_loopw [3, 5] (fun a i wr => ∃ k : Nat, k ≤ ls.length ∧ i = .int .i64 k ∧ SumsIn w w.heap.size (crcSum (ls.take k).flatten) a (ls.take k).flatten wr ∧ ∀ l ∈ ls.take k, l.length ≤ 300) (fun _ i _ => ls.length - (intOf i).toNat)
  case atStart => exact ⟨0, Nat.zero_le _, rfl, H0.out, fun _ h => by simp at h⟩
  case round =>
    obtain ⟨k, hk, rfl, hI, hall⟩ := hrel
    obtain ⟨pa, ca, rfl⟩ := own_form hI.row
    have HI := Lib.hid hI
    have HAll := Lib.hid hall
    have HF := Lib.hid (flat_le ls k (by omega) hall)
    clear hI hall
    by_cases hlt : k < ls.length
    · obtain ⟨b, off, rfl, hb, hcs⟩ := HC.out (by intro e; rw [e] at hlt; simp at hlt)
      obtain ⟨q, n, c, c0, hbs⟩ := hcs k hlt
      have hn := hbs.same
      have HCell := Lib.hid (fun V (hV : Below w.heap.size w V) => (hV.cell (p := ⟨b, off + k, none⟩) hb).trans c0)
      have HBs := Lib.hid (fun V (hV : Below w.heap.size w V) => hbs.below hV (Nat.le_refl _))
      have d0 := HCell.out wr HI.out.below
      have HT := Lib.hid (flat_take hlt)
      have HAT := Lib.hid (fun h => all_take hlt HAll.out h)
      clear hcs c0 hbs
      by_cases h300 : 300 < n
      · clear HT
        go_wp2_with fail
        refine (HA.out _).mono ?_
        rintro e w5 ⟨rfl, hB5⟩
        have HB5 := Lib.hid (HI.out.below.trans (hB5.mono HI.out.below.size))
        clear hB5
        go_wp2_with fail
        go_ret
        exact ⟨rfl, HB5.out⟩
      · have HAT2 := Lib.hid (HAT.out (by omega))
        have hnl : n ≤ 300 := by omega
        have HNl := Lib.hid hn
        have hown := HI.out.row
        have HSrc := Lib.hid (HBs.out wr HI.out.below)
        have hq : (ls.take k).flatten.length + ls[k].length ≤ 140737488355328 := by have := HF.out; omega
        have HZ := Lib.hid HI.out.below.size
        clear hn HAT
        generalize (ls.take k).flatten = S at *
        generalize ls[k] = m at *
        go_wp2_with (at_builtin; refine wpList_append_bytes rfl _ _ 24 rfl w.heap.size 5 Try.underlying24 infoU8 rfl hown rfl HSrc.out hq HZ.out ?_; intro p1 n1 c1' w1 hrow1 hg1 hn1; have HR := Lib.hid hrow1; have HG := Lib.hid hg1; have HNw := Lib.hid hn1; clear hrow1 hg1 hn1 hown)
        have HI1 := Lib.hid (show SumsIn w w.heap.size (crcSum S) (.slice p1 n1 c1') (S ++ m) w1 from
          ⟨HI.out.below.grown HG.out HZ.out (fun k hk => (HI.out.row.lt k hk).1), (HG.out.block _ HI.out.blk.lt (fun e => HI.out.apart e.symm)).trans HI.out.blk, HR.out, fun e => by
            rcases HNw.out _ e with h1 | h1
            · exact HI.out.apart h1
            · have := HI.out.blk.lt; omega⟩)
        have T0 := Lib.hid (HI1.out.step (Below.refl w1.heap.size w1).drew)
        have HCall := Lib.hid (fun V (hV : Below w.heap.size w V) => HAdd.out q n c S m V (HBs.out V hV) (by have := HNl.out; omega))
        clear d0 HR HG HNw HI HSrc HZ
        refine wp_region_S (fun k V => SumsIn w w.heap.size (turnSt (crcSum S) (crcSum S) (crcSum (S ++ m)) k) (.slice p1 n1 c1') (S ++ m) V) 2 [.turn 0 (.agg #[.int .u32 (crcSum S : Nat)]), .val (.slice (some ⟨b, off, none⟩) ls.length cap), .val (.int .i64 (k : Int)), .val (.pointer (some ⟨b, off + k, none⟩)), .val (.slice q n c), .val (.agg #[.int .u32 (crcSum (S ++ m) : Nat)]), .turn 1 (undef)]
          (fun x => { tmps := #[.slice (some ⟨b, off, none⟩) ls.length cap, undef, u2, .slice p1 n1 c1', .pointer (some ⟨w.heap.size, 0, none⟩), .int .i64 (k : Int), undef, .slice (some ⟨b, off, none⟩) ls.length cap, .int .i64 (ls.length : Int), .bool (decide (30 < (ls.length : Int))), undef, .int .i64 (k : Int), .slice (some ⟨b, off, none⟩) ls.length cap, .int .i64 (ls.length : Int), .bool true, u15, u16, .slice (some ⟨b, off, none⟩) ls.length cap, .int .i64 (k : Int), .pointer (some ⟨b, off + k, none⟩), .slice q n c, .int .i64 (n : Int), .bool (decide (300 < (n : Int))), u23, .slice pa S.length ca, .slice (some ⟨b, off, none⟩) ls.length cap, .int .i64 (k : Int), .pointer (some ⟨b, off + k, none⟩), .slice q n c, .slice p1 n1 c1', x 0, x 1, x 2, x 3, x 4, x 5, undef, undef, undef, undef, undef, undef, undef, undef, undef, undef, undef, undef, undef, undef, undef, undef, undef, undef, undef, undef, undef, undef], defers := [] }) (fun i => ([u30, u31, u32, u33, u34, u35, undef] : List Value).getD i undef) (by kernel_rfl) rfl rfl (by kernel_rfl) (by kernel_rfl) (by kernel_rfl) (by kernel_rfl) (T0.out) ?_ ?_
        · refine ⟨ObS.of_turn rfl (fun x v => rfl) (fun x V hC hD => ?_), ?_⟩
          · clear hD
            refine want_yes rfl ?_
            have k0 : V.cell? ⟨w.heap.size, 0, none⟩ = some (.int .u32 (crcSum S : Nat)) := hC.blk.cell 0
            exact leads_value (v := .agg #[.int .u32 (crcSum S : Nat)]) (by go_simp) ⟨rfl, hC⟩
          refine ⟨ObS.of_val rfl (fun x v => rfl) (fun x V kst hC hD => ?_), ?_⟩
          · clear hD
            refine want_yes rfl ?_
            exact leads_value (v := .slice (some ⟨b, off, none⟩) ls.length cap) (by go_simp) ⟨rfl, hC⟩
          refine ⟨ObS.of_val rfl (fun x v => rfl) (fun x V kst hC hD => ?_), ?_⟩
          · clear hD
            refine want_yes rfl ?_
            exact leads_value (v := .int .i64 (k : Int)) (by go_simp) ⟨rfl, hC⟩
          refine ⟨ObS.of_val rfl (fun x v => rfl) (fun x V kst hC hD => ?_), ?_⟩
          · have e1 : x 1 = .slice (some ⟨b, off, none⟩) ls.length cap := hD.1 rfl
            have e2 : x 2 = .int .i64 (k : Int) := hD.2.1 rfl
            clear hD
            refine want_yes rfl ?_
            exact leads_value (v := .pointer (some ⟨b, off + k, none⟩)) (by go_simp) ⟨rfl, hC⟩
          refine ⟨ObS.of_val rfl (fun x v => rfl) (fun x V kst hC hD => ?_), ?_⟩
          · have e3 : x 3 = .pointer (some ⟨b, off + k, none⟩) := hD.1 rfl
            clear hD
            refine want_yes rfl ?_
            have k0 := HCell.out V hC.below
            exact leads_value (v := .slice q n c) (by go_simp) ⟨rfl, hC⟩
          refine ⟨ObS.of_val rfl (fun x v => rfl) (fun x V kst hC hD => ?_), ?_⟩
          · have e0 : x 0 = .agg #[.int .u32 (crcSum S : Nat)] := hD.1 rfl
            have e4 : x 4 = .slice q n c := hD.2.1 rfl
            clear hD
            refine want_yes rfl ?_
            exact leads_enter2 (by go_simp) ((HCall.out V hC.below).mono fun e w'' ⟨he, hB⟩ => ⟨_, he, rfl, hC.step hB⟩)
          refine ⟨ObS.of_turn rfl (fun x v => rfl) (fun x V hC hD => ?_), ?_⟩
          · have e5 : x 5 = .agg #[.int .u32 (crcSum (S ++ m) : Nat)] := hD.1 rfl
            have e0 : x 0 = .agg #[.int .u32 (crcSum S : Nat)] := hD.2.2.1 rfl
            have e1 : x 1 = .slice (some ⟨b, off, none⟩) ls.length cap := hD.2.2.2.1 rfl
            have e2 : x 2 = .int .i64 (k : Int) := hD.2.2.2.2.1 rfl
            have e3 : x 3 = .pointer (some ⟨b, off + k, none⟩) := hD.2.2.2.2.2.1 rfl
            have e4 : x 4 = .slice q n c := hD.2.2.2.2.2.2.1 rfl
            clear hD
            refine want_yes rfl ?_
            exact leads_mono (leads_store_un rfl (by go_simp) e5 hC.blk infoState rfl (by simp [Value.oneCell'])) fun _ _ hp => ⟨hp.1, hC.put (Nat.le_refl _) hp.2⟩
          trivial
        · intro xa V hD hx
          have HD := Lib.hid (show SumsIn w w.heap.size (crcSum (S ++ m)) (.slice p1 n1 c1') (S ++ m) V from hD)
          clear hx hD
          go_wp2_with fail
          go_roundw
          case rel => exact ⟨k + 1, by omega, by go_num, by rw [HT.out]; exact HD.out, HAT2.out⟩
          case measure => simp [intOf]; omega
    · have hT : ls.take k = ls := List.take_of_length_le (by omega)
      rw [hT] at HI HAll HF ⊢
      have HS3 := Lib.hid (HSum.out _ ls wr (HRows.out.below HI.out.below (Nat.le_refl _)) hl (fun l hl => Nat.le_trans (HAll.out l hl) (by decide)))
      clear hT
      generalize hF : ls.flatten = F at *
      obtain ⟨qa, da, ea, hba⟩ := BsAt.ofRow HI.out.row
      simp only [Value.slice.injEq, true_and] at ea
      obtain ⟨rfl, rfl⟩ := ea
      have HBa := Lib.hid hba
      have HSm := Lib.hid (rcSum_any _ _ _ F wr hba (by have := HF.out; omega))
      have HSt2 := Lib.hid (HSt.out F)
      have hlt2 := HI.out.blk.lt
      have HBk := Lib.hid (fun V (hV : Below wr.heap.size wr V) => (show V.cell? ⟨w.heap.size, 0, none⟩ = some (.int .u32 (crcSum F : Nat)) from (hV.cell (p := ⟨w.heap.size, 0, none⟩) hlt2).trans (HI.out.blk.cell 0)))
      have HSum1 := Lib.hid (fun V (hV : Below wr.heap.size wr V) => (show Calls Try.prog 9 #[.slice (some ⟨V.heap.size, 0, none⟩) 1 1] (V.alloc (.cells #[.slice pa F.length ca] 24)) fun e w' => e = .returned (.int .u32 (crcSum F : Nat)) ∧ Below (V.alloc (.cells #[.slice pa F.length ca] 24)).heap.size (V.alloc (.cells #[.slice pa F.length ca] 24)) w' from by
        have h1 := HSum.out _ [F] _ (rows_one (HBa.out.below hV (Nat.le_refl _)) 24) (by simp) (by intro l hl; rw [List.mem_singleton.1 hl]; exact Nat.le_trans HF.out (by decide))
        simpa using h1))
      clear hba hF
      generalize F.length = m at *
      go_wp2_with fail
      refine HSm.out.mono ?_
      rintro e w' ⟨rfl, rfl⟩
      go_wp2_with fail
      refine HS3.out.mono ?_
      rintro e w2 ⟨rfl, hB2⟩
      have HB2 := Lib.hid hB2
      have d2 := HBk.out w2 hB2
      clear hB2
      go_wp2_with fail
      refine (HSt2.out _).mono ?_
      rintro e w3 ⟨rfl, hB3⟩
      have HB3 := Lib.hid (HB2.out.trans (hB3.mono HB2.out.size))
      clear hB3 d2
      go_wp2_with fail
      refine (HSum1.out w3 HB3.out).mono ?_
      rintro e w4 ⟨rfl, hB4⟩
      have HB4 := Lib.hid (HB3.out.trans (((belowNew w3 _).trans (hB4.mono (by simp))).mono HB3.out.size))
      clear hB4
      go_wp2_with fail
      refine (HA.out _).mono ?_
      rintro e w5 ⟨rfl, hB5⟩
      have HB5 := Lib.hid (HI.out.below.trans ((HB4.out.trans (hB5.mono HB4.out.size)).mono HI.out.below.size))
      clear hB5
      go_wp2_with fail
      go_ret
      exact ⟨rfl, HB5.out⟩

theorem csums_any (hAdd : AddC) (hSt : StSumC) (hSum : SumC) (hAlive : CrcAliveC) (v : Value) (ls : List (List UInt8)) (w : World) (h : RowsAt w v ls) :
    Calls Try.prog 3 #[v] w fun e w' => e = .returned (.bool true) ∧ Below w.heap.size w w' := by
  by_cases hl : ls.length ≤ 30
  · exact csums_near hAdd hSt hSum hAlive v ls w h hl
  · obtain ⟨p, cap, rfl, h1, h2, -⟩ := h
    have hlen : 30 < ls.length := by omega
    have hm : ls.length ≤ 9223372036854775807 := by unfold maxLen at h2; omega
    have HA := Lib.hid hAlive
    clear hAdd hSt hSum hAlive hl h1 h2
    generalize ls.length = n at *
    go_enter Try.func3, Try.ntmps3
    go_wp2_with fail
    refine (HA.out _).mono ?_
    rintro e w5 ⟨rfl, hB5⟩
    have HB5 := Lib.hid hB5
    clear hB5
    go_wp2_with fail
    go_ret
    exact ⟨rfl, HB5.out⟩

end Go.Proofs.Ytppmhnbgfnackaa

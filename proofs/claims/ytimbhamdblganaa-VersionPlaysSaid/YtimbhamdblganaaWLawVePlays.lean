/-
  The law VersionPlays, from the program's contracts.
-/
import Derived.LoopTactic
import Derived.Test.YtimbhamdblganaaWVerP
import Derived.Test.YtimbhamdblganaaWVerAl
import Derived.Test.YtimbhamdblganaaWRegN
/-! LawVePlays -/
namespace Go.Proofs.Ytimbhamdblganaa
open Go.RowKit

/-- A policy as a block. -/
def polOb (p : Pol) : Obj := .cells (polC p) 34
theorem leads_alloc_polv {o : Oper} {a : Act} {w : World} (ho : o.op = .alloc 34) : leads Try.prog o a w (fun u V' => u = .pointer (some ⟨w.heap.size, 0, none⟩) ∧ Below w.heap.size w V' ∧ w.heap.size < V'.heap.size ∧ V'.heap[w.heap.size]? = some (polOb zeroP)) := by
  refine leads_value (v := .pointer (some ⟨w.heap.size, 0, none⟩)) (w' := w.alloc (polOb zeroP)) ?_ ⟨rfl, belowNew w _, by simp, PRow.new w zeroP⟩
  unfold execOp
  rw [ho]
  kernel_rfl
/-- Policies, as what is known of a value. -/
def polsF (l : List Pol) : Fact := ⟨fun v w => PolsAt w v l, fun _ _ _ h hB => h.below hB (Nat.le_refl _)⟩
theorem now_hist {all : List Pol} {ep : Nat} (he : ep ≤ 255) (h : all.length = ep + 1) : nowP ⟨ep, lastK all ep⟩ = all.getD (all.length - 1) zeroP := by
  have hk := keptN_pos he
  exact lastK_get (i := 0) (by omega) (by omega)
/-- Ahead of a commit, and behind it. -/
def pickS (k : Nat) (a b : Sto) : Sto := match k with
  | 0 => a
  | _ + 1 => b
theorem hAll_ne {ep : Nat} {all : List Pol} {q : Pol} (h : all.length = ep + 1) : hAll ep all q ≠ [] := fun e => by
  have := hAll_len (p := q) h
  rw [e] at this
  cases this
theorem py_apart {K : VerRel} {w : World} {b : Nat} {S : Sto} {r ep : Nat} {u : Value} {all : List Pol} {F : Nat → Prop} {V : World} (hC : VyW K w b S r ep u all F V) {u2 : Value} (hf : ∀ a n c, u2 = .slice (some a) n c → V.heap.size ≤ a.block ∨ u2 = u) {a : Addr} {n c : Nat} (e : u2 = .slice (some a) n c) : ¬ (a.block = r ∨ F a.block) := by
  rcases hf a n c e with h | h
  · rintro (h2 | h2)
    · have := hC.rr.lt; omega
    · have := (K.lt hC.at_).2 _ h2; omega
  · rw [e] at h
    rintro (h2 | h2)
    · exact hC.ap a n c h.symm h2
    · exact hC.fv a n c h.symm h2
/-- The document's store is read whole. -/
theorem exec_load_rs {o : Oper} {a : Act} {w : World} {x : Operand} {b : Nat} {y z : Value} (ho : o.op = .load 38 x) (hx : a.eval x = .pointer (some ⟨b, 0, none⟩)) (h : Blk w b #[y, z] 38) :
    (execOp a.eval o).run Try.prog w = .ok (.value (.agg #[y, z])) w := by
  unfold execOp
  simp only [ho, hx, Instr.loadAt, Instr.sureAddr, Sem.run_bind, Sem.run_pure, Result.andThen_ok, run_loadVar_row w b _ 38 #[y, z] _ _ h Try.underlying38 rfl infoRS]
set_option maxRecDepth 100000 in
set_option maxHeartbeats 3200000 in
theorem veplays_any {K : VerRel} (cN : VeNewC K) (cC : VeCommitC K) (cA : VeAtC K) (cE : VeEpochC K) (cW : VeNowC K) (cK : VeKeptC K) (cF : PFirstC) (hA : VeAliveC) (v : Value) (l : List Nat) (v2 : Value) (ask : List Int) (w : World) (hv : U16sV w v l) (hx : ∀ x ∈ l, x < 65536)
    (hv2 : IntsAt w v2 ask) (hr2 : ∀ z ∈ ask, -9223372036854775808 ≤ z ∧ z ≤ 9223372036854775807) :
    Calls Try.prog 3 #[v, v2] w fun x w' => x = .returned (.bool true) ∧ Below w.heap.size w w' := by
  have HA := Lib.hid hA
  have HX := Lib.hid hx
  have HX2 := Lib.hid hr2
  have HNu := Lib.hid (fun (n : Nat) V (h : n ≤ 65535) => vnum_any cF n V h)
  obtain ⟨p, cap, rfl, hll, hcs⟩ := hv
  obtain ⟨p2, cap2, rfl, hll2, hcs2⟩ := hv2
  have HC := Lib.hid hcs
  have HC2 := Lib.hid hcs2
  have HNe := Lib.hid cN
  have HCo := @Lib.hid (VeCommitC K) @cC
  have HAt := @Lib.hid (VeAtC K) @cA
  have HEp := @Lib.hid (VeEpochC K) @cE
  have HNw := @Lib.hid (VeNowC K) @cW
  have HKe := @Lib.hid (VeKeptC K) @cK
  clear hx hr2 hcs hcs2 cN cC cA cE cW cK cF hA
  go_enter Try.func3, Try.ntmps3
  by_cases h300 : 300 < l.length
  · have d : decide ((300 : Int) < (l.length : Int)) = true := by simp; omega
    have d2 : decide (300 < l.length) = true := by simpa using h300
    go_wp2_with fail
    refine (HA.out _).mono ?_
    rintro e w1 ⟨rfl, hB⟩
    have HB := Lib.hid hB
    clear hB
    go_wp2_with fail
    go_ret
    exact ⟨rfl, HB.out⟩
  have d : decide ((300 : Int) < (l.length : Int)) = false := by simp; omega
  have d2 : decide (300 < l.length) = false := by simpa using h300
  by_cases h100 : 100 < ask.length
  · have d3 : decide ((100 : Int) < (ask.length : Int)) = true := by simp; omega
    have d4 : decide (100 < ask.length) = true := by simpa using h100
    go_wp2_with fail
    refine (HA.out _).mono ?_
    rintro e w1 ⟨rfl, hB⟩
    have HB := Lib.hid hB
    clear hB
    go_wp2_with fail
    go_ret
    exact ⟨rfl, HB.out⟩
  have d3 : decide ((100 : Int) < (ask.length : Int)) = false := by simp; omega
  have d4 : decide (100 < ask.length) = false := by simpa using h100
  have HL := Lib.hid (show l.length ≤ 300 ∧ ask.length ≤ 100 by omega)
  clear h300 h100
  have h1 := Lib.hid (HNu.out 7 w (by decide))
  go_wp2_with fail
  refine h1.out.mono ?_
  rintro e w1 ⟨rfl, hB1⟩
  have HPo := Lib.hid (numP_ok 7)
  obtain ⟨p7, hp7⟩ : ∃ p7, p7 = numP 7 := ⟨_, rfl⟩
  rw [← hp7] at HPo
  have HP7 := Lib.hid hp7
  have h2 := Lib.hid (VeW.made HNe.out HPo.out hB1)
  rw [← hp7]
  clear h1 hB1 hp7 d d2 d3 d4 HNe
  go_wp2_with fail
  refine h2.out.mono ?_
  rintro e w2 ⟨b, rfl, hV2⟩
  have HV2 := Lib.hid hV2
  clear hV2 h2
  have h3 := Lib.hid (HNu.out 7 w2 (by decide))
  rw [← HP7.out] at h3
  go_wp2_with fail
  refine h3.out.mono ?_
  rintro e w3 ⟨rfl, hB3⟩
  have HV3 := Lib.hid (HV2.out.step hB3)
  have HBk := Lib.hid (show Blk (w3.alloc (.cells (flatC polC [p7]).toArray 34)) w3.heap.size (flatC polC [p7]).toArray 34 from Blk.new w3 _ _)
  have HVb := Lib.hid (HV3.out.step (belowNew w3 (.cells (flatC polC [p7]).toArray 34)))
  have HWb := Lib.hid (show w3.heap.size < (w3.alloc (.cells (flatC polC [p7]).toArray 34)).heap.size by simp)
  clear h3 hB3 HV2
  go_upto_region 5 with (first
    | (refine wpList_build_flat polC_size (by decide) rfl _ 34 1 _ rfl Try.underlying36 infoPl [p7] (by simp) rfl (by show 1 * 66 ≤ 2 ^ 24; decide) rfl ?_))
  obtain ⟨F0, hA3, hF3⟩ := HV3.out.ex
  have hlt3 := (K.lt hA3).2
  have hB5 : Below w3.heap.size w3 ((w3.alloc (.cells (flatC polC [p7]).toArray 34)).alloc (.cells #[.int .i64 0, .slice (some ⟨w3.heap.size, 0, none⟩) 1 1] 38)) := (belowNew w3 _).alloc (by simp) _
  have hrr := Blk.new (w3.alloc (.cells (flatC polC [p7]).toArray 34)) #[.int .i64 0, .slice (some ⟨w3.heap.size, 0, none⟩) 1 1] 38
  rw [show (w3.alloc (.cells (flatC polC [p7]).toArray 34)).heap.size = w3.heap.size + 1 by simp] at hrr
  have HG0 := Lib.hid (show VyW K w b ⟨0, lastK [p7] 0⟩ (w3.heap.size + 1) 0 (.slice (some ⟨w3.heap.size, 0, none⟩) 1 1) [p7] F0 ((w3.alloc (.cells (flatC polC [p7]).toArray 34)).alloc (.cells #[.int .i64 0, .slice (some ⟨w3.heap.size, 0, none⟩) 1 1] 38)) from
    ⟨HV3.out.below.trans (hB5.mono HV3.out.below.size), sto_one HPo.out, VerRel.below hA3 hB5, hF3, fun h => by have := hlt3 _ h; omega, fun a n c e h => by cases e; have := hlt3 _ h; simp only at this; omega, hrr, by have := HV3.out.below.size; omega, SlAt.ofBlk (ok := PolOk) polC_size (HBk.out.alloc _) (by simp) (fun c hc => by rw [List.mem_singleton.1 hc]; exact HPo.out), by simp, fun a n c e h => by cases e; simp only at h; omega⟩)
  clear hA3 hF3 hlt3 hB5 hrr HBk HVb HWb HV3
  generalize w3.heap.size + 1 = r at *
  generalize (w3.alloc _).alloc _ = w5 at *
  go_wp2_with fail
  go_loopw [7, 8, 9] (fun i _ _ wr => ∃ (k ep : Nat) (u : Value) (all : List Pol) (F : Nat → Prop), k ≤ l.length ∧ i = .int .i64 (k : Int) ∧ ep ≤ 255 ∧ all.length = ep + 1 ∧ VyW K w b ⟨ep, lastK all ep⟩ r ep u all F wr) (fun i _ _ _ => l.length - (intOf i).toNat)
  case atStart => exact ⟨0, 0, _, _, _, by omega, rfl, by decide, rfl, HG0.out⟩
  case round =>
    obtain ⟨k, ep, u, all, F, hk, rfl, hep, hla, hg⟩ := hrel
    have HG := Lib.hid hg
    have HE := Lib.hid (And.intro hep hla)
    clear hg HG0 hep hla
    by_cases hlt : k < l.length
    · have dk : decide ((k : Int) < (l.length : Int)) = true := by simp; omega
      have dk2 : decide (k < l.length) = true := by simpa using hlt
      obtain ⟨g, off, rfl, hgl, hcs⟩ := HC.out (by intro e; rw [e] at hlt; cases hlt)
      have HCl := Lib.hid (And.intro hgl (hcs k hlt))
      have HXk := Lib.hid (HX.out l[k] (List.getElem_mem hlt))
      generalize l[k] = x0 at *
      have HKl := Lib.hid hlt
      have HNq := Lib.hid (fun V => HNu.out x0 V (by have := HXk.out; omega))
      have HOq := Lib.hid (numP_ok x0)
      generalize numP x0 = q at *
      clear hcs hgl hlt
      go_upto_region 10 with fail
      have HIx : IxU 7 8 9 11 12 (fun i => ([some (.agg #[.int .i64 (ep : Int), u]), some (.slice (some ⟨g, off, none⟩) l.length cap), some (.int .i64 (k : Int)), some (.pointer (some ⟨g, off + k, none⟩)), some (.int .u16 (x0 : Int)), some (.int .i64 (x0 : Int)), some (.agg (polC q)), none, none, none, some (.int .i64 (hE ep)), none, none, some (.int .i64 (hE ep))] : List (Option Value)).getD i none) := ⟨by decide, by decide, by decide, by decide, by decide, by decide, by decide, by decide, by decide, by decide, rfl, rfl, rfl, rfl, rfl⟩
      refine wp_region_I (UI wr.drew (fun i => ([some (.agg #[.int .i64 (ep : Int), u]), some (.slice (some ⟨g, off, none⟩) l.length cap), some (.int .i64 (k : Int)), some (.pointer (some ⟨g, off + k, none⟩)), some (.int .u16 (x0 : Int)), some (.int .i64 (x0 : Int)), some (.agg (polC q)), none, none, none, some (.int .i64 (hE ep)), none, none, some (.int .i64 (hE ep))] : List (Option Value)).getD i none) 7 8 9 11 12 #[.int .i64 0, .slice none 0 0] 38 (.int .i64 (hE ep)) (plK (hEp ep) (hAll ep all q) (hAll_ne HE.out.2) (fun j => j = r ∨ F j))) (fun x => { tmps := #[.slice (some ⟨g, off, none⟩) l.length cap, .slice p2 ask.length cap2, undef, undef, u4, storeV b, .pointer (some ⟨r, 0, none⟩), .int .i64 (k : Int), x 11, x 13, undef, undef, undef, undef, undef, .slice (some ⟨g, off, none⟩) l.length cap, .int .i64 (l.length : Int), .bool false, .bool false, .slice p2 ask.length cap2, .int .i64 (ask.length : Int), .bool false, .bool false, undef, .agg (polC p7), storeV b, .agg (polC p7), .slice (some ⟨w3.heap.size, 0, none⟩) 1 1, .agg #[.int .i64 0, .slice (some ⟨w3.heap.size, 0, none⟩) 1 1], storeV b, .bool false, .int .i64 (k : Int), .slice (some ⟨g, off, none⟩) l.length cap, .int .i64 (l.length : Int), .bool true, u35, u36, x 8, x 0, x 1, x 2, x 3, x 4, x 5, x 6, x 7, x 9, x 10, u48, u49, u50, u51, u52, u53, u54, u55, u56, u57, u58, u59, u60, u61, u62, u63, u64, u65, undef, undef, undef, undef, undef, undef, undef, undef, undef, undef, undef, undef, undef, undef, undef, undef, undef, undef, undef, undef, undef, undef, undef, undef, undef, undef, undef, undef, undef, undef, undef, undef, undef, undef, undef, undef, undef, undef, undef, undef, undef, undef, undef, undef, undef, undef, undef, undef, undef, undef, undef, undef, undef], defers := [] }) (fun i => ([u38, u39, u40, u41, u42, u43, u44, u45, u37, u46, u47, u8, undef, u9] : List Value).getD i undef) (by kernel_rfl) rfl (by kernel_rfl) (UI.start _) ?_ ?_
      · refine ⟨⟨fun x v => rfl, fun L x V h hL hD => ?_⟩, ?_⟩
        · refine want_yes rfl ?_
          clear hD
          have hC : VyW K w b ⟨ep, lastK all ep⟩ r ep u all F V := (HG.out.step (Below.refl _ _).drew).step h.below
          have hrr := hC.rr
          exact leads_value (exec_load_rs rfl rfl hrr) (UI.simple HIx h rfl (Below.refl _ _))
        refine ⟨⟨fun x v => rfl, fun L x V h hL hD => ?_⟩, ?_⟩
        · refine want_yes rfl ?_
          clear hD
          exact leads_value (v := .slice (some ⟨g, off, none⟩) l.length cap) (by go_simp) (UI.simple HIx h rfl (Below.refl _ _))
        refine ⟨⟨fun x v => rfl, fun L x V h hL hD => ?_⟩, ?_⟩
        · refine want_yes rfl ?_
          clear hD
          exact leads_value (v := .int .i64 (k : Int)) (by go_simp) (UI.simple HIx h rfl (Below.refl _ _))
        refine ⟨⟨fun x v => rfl, fun L x V h hL hD => ?_⟩, ?_⟩
        · refine want_yes rfl ?_
          have e1 : x 1 = .slice (some ⟨g, off, none⟩) l.length cap := h.vals 1 _ rfl (hD.1 rfl)
          have e2 : x 2 = .int .i64 (k : Int) := h.vals 2 _ rfl (hD.2.1 rfl)
          clear hD
          have h0 : (0 : Int) ≤ (k : Int) := by omega
          have h1 : (k : Int) < (l.length : Int) := by have := HKl.out; omega
          exact leads_value (v := .pointer (some ⟨g, off + k, none⟩)) (by go_simp) (UI.simple HIx h rfl (Below.refl _ _))
        refine ⟨⟨fun x v => rfl, fun L x V h hL hD => ?_⟩, ?_⟩
        · refine want_yes rfl ?_
          have e3 : x 3 = .pointer (some ⟨g, off + k, none⟩) := h.vals 3 _ rfl (hD.1 rfl)
          clear hD
          have hC : VyW K w b ⟨ep, lastK all ep⟩ r ep u all F V := (HG.out.step (Below.refl _ _).drew).step h.below
          have hcl := (hC.below.cell (p := ⟨g, off + k, none⟩) HCl.out.1).trans HCl.out.2
          exact leads_value (v := .int .u16 (x0 : Int)) (by go_simp) (UI.simple HIx h rfl (Below.refl _ _))
        refine ⟨⟨fun x v => rfl, fun L x V h hL hD => ?_⟩, ?_⟩
        · refine want_yes rfl ?_
          have e4 : x 4 = .int .u16 (x0 : Int) := h.vals 4 _ rfl (hD.1 rfl)
          clear hD
          have hwx : IntKind.i64.wrap (x0 : Int) = (x0 : Int) := by have := HXk.out; rw [IntKind.wrap_i64]; omega
          exact leads_value (v := .int .i64 (x0 : Int)) (by go_simp) (UI.simple HIx h rfl (Below.refl _ _))
        refine ⟨⟨fun x v => rfl, fun L x V h hL hD => ?_⟩, ?_⟩
        · refine want_yes rfl ?_
          have e5 : x 5 = .int .i64 (x0 : Int) := h.vals 5 _ rfl (hD.1 rfl)
          clear hD
          exact leads_enter2 (by go_simp) ((HNq.out V).mono fun en w'' ⟨he, hB⟩ => ⟨_, he, UI.simple HIx h rfl hB⟩)
        refine ⟨⟨fun x v => rfl, fun L x V h hL hD => ?_⟩, ?_⟩
        · refine want_yes rfl ?_
          have e0 : x 0 = .agg #[.int .i64 (ep : Int), u] := h.vals 0 _ rfl (hD.1 rfl)
          have e6 : x 6 = .agg (polC q) := h.vals 6 _ rfl (hD.2.1 rfl)
          clear hD
          have hC : VyW K w b ⟨ep, lastK all ep⟩ r ep u all F V := (HG.out.step (Below.refl _ _).drew).step h.below
          exact leads_enter2 (by go_simp) ((rvCommit_any ep u all q V hC.ps HE.out.1 HE.out.2 HOq.out).mono fun en w'' ⟨u2, he, hs, hf, hB'⟩ => ⟨_, he, UI.called HIx h hL ⟨u2, rfl, hs, fun a n c e => py_apart hC hf e⟩ (fun j hj => by obtain ⟨z, a, n, c, h3, h4⟩ := hj; cases h3; rcases hf a n c rfl with h5 | h5; exact .inl (h4 ▸ h5); exact .inr (h4 ▸ (HG.out.step (Below.refl _ _).drew).vlt a n c h5.symm)) hB'⟩)
        refine ⟨⟨fun x v => rfl, fun L x V h hL hD => ?_⟩, ?_⟩
        · refine want_yes rfl ?_
          have hl := hD.1 rfl
          clear hD
          exact leads_value (v := x 7) (by go_simp) (UI.moved HIx h hl)
        refine ⟨⟨fun x v => rfl, fun L x V h hL hD => ?_⟩, ?_⟩
        · refine want_yes rfl ?_
          have hl := hD.1 rfl
          clear hD
          obtain ⟨hlc, em⟩ := h.mov hl
          obtain ⟨cs, ec, -⟩ := h.call hlc
          have en : x 8 = .tuple #[.agg cs, .int .i64 (hE ep)] := em.trans ec
          clear em
          exact leads_value (v := .agg cs) (by go_simp) (UI.taken HIx h hL hl ec)
        refine ⟨⟨fun x v => rfl, fun L x V h hL hD => ?_⟩, ?_⟩
        · refine want_yes rfl ?_
          have hl := hD.1 rfl
          clear hD
          obtain ⟨hlc, em⟩ := h.mov hl
          obtain ⟨cs, ec, -⟩ := h.call hlc
          have en : x 8 = .tuple #[.agg cs, .int .i64 (hE ep)] := em.trans ec
          clear em ec
          exact leads_value (v := .int .i64 (hE ep)) (by go_simp) (UI.simple HIx h rfl (Below.refl _ _))
        refine ⟨⟨fun x v => rfl, fun L x V h hL hD => ?_⟩, ?_⟩
        · refine want_yes rfl ?_
          exact leads_value (v := .pointer (some ⟨V.heap.size, 0, none⟩)) (by go_simp) (UI.laid HIx h hL)
        refine ⟨⟨fun x v => rfl, fun L x V h hL hD => ?_⟩, ?_⟩
        · refine want_yes rfl ?_
          have hll := hD.1 rfl
          have hla := hD.2.1 rfl
          clear hD
          obtain ⟨-, k2, k3, -⟩ := h.lay hll
          obtain ⟨hlm, hk⟩ := h.tak hla
          obtain ⟨hlc, -⟩ := h.mov hlm
          obtain ⟨cs, ec, hF, -⟩ := h.call hlc
          obtain ⟨u2, rfl, hs2, -⟩ := hF
          obtain ⟨g2, off2, cp2, rfl, -, -, -⟩ := hs2.shape (hAll_ne HE.out.2)
          clear hs2
          have ea : x 9 = .agg #[.int .i64 (hEp ep : Nat), .slice (some ⟨g2, off2, none⟩) (hAll ep all q).length cp2] := hk _ ec
          have hz := k3 hL
          refine leadsN_mono (leads_store_row (b := blkOf (x 11)) (new := #[.int .i64 (hEp ep : Nat), .slice (some ⟨g2, off2, none⟩) (hAll ep all q).length cp2]) rfl ?_ ?_ hz (by kernel_rfl) rfl (by simp [Value.oneCell'])) fun u V' hp => UI.stored HIx h hll hla ea ⟨⟨hp.os, hp.tape, hp.output, by rw [hp.size]; exact Nat.le_refl _, fun k _ hk => hp.other k hk⟩, hp.new⟩
          · generalize blkOf (x 11) = gb at *
            clear hz k3 hk ec ea
            go_simp
          · clear hz k3 k2 ec hk
            go_simp
        refine ⟨⟨fun x v => rfl, fun L x V h hL hD => ?_⟩, ?_⟩
        · refine want_yes rfl ?_
          have e10 : x 10 = .int .i64 (hE ep) := h.vals 10 _ rfl (hD.1 rfl)
          clear hD
          exact leads_value (v := .int .i64 (hE ep)) (by go_simp) (UI.simple HIx h rfl (Below.refl _ _))
        trivial
      · intro L x V hL hI
        obtain ⟨b8, cs, e11, hb8, hblk, ⟨u2, rfl, hs2, hN2⟩, -⟩ := hI.last (hL 12 (by decide))
        have e13 : x 13 = .int .i64 (hE ep) := hI.vals 13 _ rfl (hL 13 (by decide))
        obtain ⟨g2, off2, cp2, rfl, -, -, -⟩ := hs2.shape (hAll_ne HE.out.2)
        have HV := Lib.hid ((HG.out.step (Below.refl _ _).drew).step hI.below)
        have HS2 := Lib.hid (And.intro hs2 hN2)
        clear hI hL hs2 hN2 HG hb8 HIx
        rw [e11, e13]
        clear e11 e13
        generalize x 0 = z0
        generalize x 1 = z1
        generalize x 2 = z2
        generalize x 3 = z3
        generalize x 4 = z4
        generalize x 5 = z5
        generalize x 6 = z6
        generalize x 7 = z7
        generalize x 8 = z8
        generalize x 9 = z9
        generalize x 10 = z10
        have hrr := HV.out.rr
        go_upto_region 12 with (first
          | (refine wpList_load_arr rfl _ _ rfl rfl hblk Try.underlying38 rfl infoRS ?_)
          | (refine wpList_store_arr rfl rfl _ _ _ rfl rfl rfl hrr infoRS rfl (by simp [Value.oneCell']) ?_; intro w11 hw11))
        have HG11 := Lib.hid (HV.out.put (hAll_ne HE.out.2) HS2.out.1 HS2.out.2 hw11)
        clear hw11 hrr hblk HV HS2
        have HCm := Lib.hid (h_com q HE.out.1 HE.out.2)
        have HE2 := Lib.hid (And.intro (hEp_le HE.out.1) (hAll_len (p := q) HE.out.2))
        clear HE
        generalize hAll ep all q = all2 at *
        generalize hEp ep = ep2 at *
        generalize hE ep = he at *
        generalize Sto.mk ep (lastK all ep) = S0 at *
        refine wp_region_S (fun k V => ∃ F', VyW K w b (pickS k S0 ⟨ep2, lastK all2 ep2⟩) r ep2 (.slice (some ⟨g2, off2, none⟩) all2.length cp2) all2 F' V) 3 [.val (storeV b), .val (.slice (some ⟨g, off, none⟩) l.length cap), .val (.int .i64 (k : Int)), .val (.pointer (some ⟨g, off + k, none⟩)), .val (.int .u16 (x0 : Int)), .val (.int .i64 (x0 : Int)), .val (.agg (polC q)), .turn 0 (.int .i64 he), .val (.int .i64 he), .val (.bool false), .turn 1 (.bool false), .val (storeV b), .turn 2 (.int .i64 (ep2 : Int)), .val (.pointer (some ⟨r, 0, none⟩)), .val (.int .i64 (ep2 : Int)), .val (.bool false), .val (.bool false)]
          (fun x => { tmps := #[.slice (some ⟨g, off, none⟩) l.length cap, .slice p2 ask.length cap2, undef, undef, u4, storeV b, .pointer (some ⟨r, 0, none⟩), .int .i64 (k : Int), .pointer (some ⟨b8, 0, none⟩), .int .i64 he, undef, undef, undef, undef, undef, .slice (some ⟨g, off, none⟩) l.length cap, .int .i64 (l.length : Int), .bool false, .bool false, .slice p2 ask.length cap2, .int .i64 (ask.length : Int), .bool false, .bool false, undef, .agg (polC p7), storeV b, .agg (polC p7), .slice (some ⟨w3.heap.size, 0, none⟩) 1 1, .agg #[.int .i64 0, .slice (some ⟨w3.heap.size, 0, none⟩) 1 1], storeV b, .bool false, .int .i64 (k : Int), .slice (some ⟨g, off, none⟩) l.length cap, .int .i64 (l.length : Int), .bool true, u35, u36, z8, z0, z1, z2, z3, z4, z5, z6, z7, z9, z10, .agg #[.int .i64 (ep2 : Int), .slice (some ⟨g2, off2, none⟩) all2.length cp2], x 0, x 1, x 2, x 3, x 4, x 5, x 6, x 7, x 8, x 9, x 10, x 11, x 12, x 13, x 14, x 15, x 16, undef, undef, undef, undef, undef, undef, undef, undef, undef, undef, undef, undef, undef, undef, undef, undef, undef, undef, undef, undef, undef, undef, undef, undef, undef, undef, undef, undef, undef, undef, undef, undef, undef, undef, undef, undef, undef, undef, undef, undef, undef, undef, undef, undef, undef, undef, undef, undef, undef, undef, undef, undef, undef], defers := [] }) (fun i => ([u49, u50, u51, u52, u53, u54, u55, u56, u57, u58, u59, u60, u61, u62, u63, u64, u65] : List Value).getD i undef) (by kernel_rfl) rfl rfl (by kernel_rfl) (by kernel_rfl) (by kernel_rfl) (by kernel_rfl) (⟨F, HG11.out.step (Below.refl _ _).drew⟩) ?_ ?_
        · refine ⟨ObS.of_val rfl (fun x v => rfl) (fun x V kst hC hD => ?_), ?_⟩
          · clear hD
            refine want_yes rfl ?_
            exact leads_value (v := storeV b) (by go_simp) ⟨rfl, hC⟩
          refine ⟨ObS.of_val rfl (fun x v => rfl) (fun x V kst hC hD => ?_), ?_⟩
          · clear hD
            refine want_yes rfl ?_
            exact leads_value (v := .slice (some ⟨g, off, none⟩) l.length cap) (by go_simp) ⟨rfl, hC⟩
          refine ⟨ObS.of_val rfl (fun x v => rfl) (fun x V kst hC hD => ?_), ?_⟩
          · clear hD
            refine want_yes rfl ?_
            exact leads_value (v := .int .i64 (k : Int)) (by go_simp) ⟨rfl, hC⟩
          refine ⟨ObS.of_val rfl (fun x v => rfl) (fun x V kst hC hD => ?_), ?_⟩
          · have e1 : x 1 = .slice (some ⟨g, off, none⟩) l.length cap := hD.1 rfl
            have e2 : x 2 = .int .i64 (k : Int) := hD.2.1 rfl
            clear hD
            refine want_yes rfl ?_
            have h0 : (0 : Int) ≤ (k : Int) := by omega
            have h1 : (k : Int) < (l.length : Int) := by have := HKl.out; omega
            exact leads_value (v := .pointer (some ⟨g, off + k, none⟩)) (by go_simp) ⟨rfl, hC⟩
          refine ⟨ObS.of_val rfl (fun x v => rfl) (fun x V kst hC hD => ?_), ?_⟩
          · have e3 : x 3 = .pointer (some ⟨g, off + k, none⟩) := hD.1 rfl
            clear hD
            refine want_yes rfl ?_
            obtain ⟨F2, hC2⟩ := hC
            have hcl := (hC2.below.cell (p := ⟨g, off + k, none⟩) HCl.out.1).trans HCl.out.2
            exact leads_value (v := .int .u16 (x0 : Int)) (by go_simp) ⟨rfl, F2, hC2⟩
          refine ⟨ObS.of_val rfl (fun x v => rfl) (fun x V kst hC hD => ?_), ?_⟩
          · have e4 : x 4 = .int .u16 (x0 : Int) := hD.1 rfl
            clear hD
            refine want_yes rfl ?_
            have hwx : IntKind.i64.wrap (x0 : Int) = (x0 : Int) := by have := HXk.out; rw [IntKind.wrap_i64]; omega
            exact leads_value (v := .int .i64 (x0 : Int)) (by go_simp) ⟨rfl, hC⟩
          refine ⟨ObS.of_val rfl (fun x v => rfl) (fun x V kst hC hD => ?_), ?_⟩
          · have e5 : x 5 = .int .i64 (x0 : Int) := hD.1 rfl
            clear hD
            refine want_yes rfl ?_
            obtain ⟨F2, hC2⟩ := hC
            exact leads_enter2 (by go_simp) ((HNq.out V).mono fun en w'' ⟨he, hB⟩ => ⟨_, he, rfl, F2, hC2.step hB⟩)
          refine ⟨ObS.of_turn rfl (fun x v => rfl) (fun x V hC hD => ?_), ?_⟩
          · have e0 : x 0 = storeV b := hD.1 rfl
            have e6 : x 6 = .agg (polC q) := hD.2.1 rfl
            clear hD
            refine want_yes rfl ?_
            obtain ⟨F2, hC2⟩ := hC
            have hq := (show VyW K w b S0 r ep2 (.slice (some ⟨g2, off2, none⟩) all2.length cp2) all2 F2 V from hC2).commit HCo.out HOq.out
            rw [HCm.out.1, HCm.out.2] at hq
            exact leads_enter2 (by go_simp) (hq.mono fun en w'' ⟨he, F3, h3⟩ => ⟨_, he, rfl, F3, h3⟩)
          refine ⟨ObS.of_val rfl (fun x v => rfl) (fun x V kst hC hD => ?_), ?_⟩
          · clear hD
            refine want_yes rfl ?_
            exact leads_value (v := .int .i64 he) (by go_simp) ⟨rfl, hC⟩
          refine ⟨ObS.of_val rfl (fun x v => rfl) (fun x V kst hC hD => ?_), ?_⟩
          · have e7 : x 7 = .int .i64 he := hD.1 rfl
            have e8 : x 8 = .int .i64 he := hD.2.1 rfl
            clear hD
            refine want_yes rfl ?_
            have dn : (he != he) = false := by simp
            exact leads_value (v := .bool false) (by go_simp) ⟨rfl, hC⟩
          refine ⟨ObS.of_turn rfl (fun x v => rfl) (fun x V hC hD => ?_), ?_⟩
          · have e9 : x 9 = .bool false := hD.1 rfl
            clear hD
            refine want_yes rfl ?_
            exact leads_value (v := .bool false) (by go_simp) ⟨rfl, hC⟩
          refine ⟨ObS.of_val rfl (fun x v => rfl) (fun x V kst hC hD => ?_), ?_⟩
          · have e10 : x 10 = .bool false := hD.1 rfl
            clear hD
            refine want_yes (by simp [Region.wanted, yielded, e10]) ?_
            exact leads_value (v := storeV b) (by go_simp) ⟨rfl, hC⟩
          refine ⟨ObS.of_turn rfl (fun x v => rfl) (fun x V hC hD => ?_), ?_⟩
          · have e11 : x 11 = storeV b := hD.1 rfl
            have e10 : x 10 = .bool false := hD.2.1 rfl
            clear hD
            refine want_yes (by simp [Region.wanted, yielded, e10]) ?_
            obtain ⟨F2, hC2⟩ := hC
            have hq := (show VyW K w b ⟨ep2, lastK all2 ep2⟩ r ep2 (.slice (some ⟨g2, off2, none⟩) all2.length cp2) all2 F2 V from hC2).toVe.epochB HEp.out
            exact leads_enter2 (by go_simp) (hq.mono fun en w'' ⟨he, hB⟩ => ⟨_, he, rfl, F2, hC2.step hB⟩)
          refine ⟨ObS.of_val rfl (fun x v => rfl) (fun x V kst hC hD => ?_), ?_⟩
          · have e10 : x 10 = .bool false := hD.1 rfl
            clear hD
            refine want_yes (by simp [Region.wanted, yielded, e10]) ?_
            exact leads_value (v := .pointer (some ⟨r, 0, none⟩)) (by go_simp) ⟨rfl, hC⟩
          refine ⟨ObS.of_val rfl (fun x v => rfl) (fun x V kst hC hD => ?_), ?_⟩
          · have e13 : x 13 = .pointer (some ⟨r, 0, none⟩) := hD.1 rfl
            have e10 : x 10 = .bool false := hD.2.1 rfl
            clear hD
            refine want_yes (by simp [Region.wanted, yielded, e10]) ?_
            obtain ⟨F2, hC2⟩ := hC
            have k0 := hC2.rr.cell 0
            exact leads_value (v := .int .i64 (ep2 : Int)) (by go_simp) ⟨rfl, F2, hC2⟩
          refine ⟨ObS.of_val rfl (fun x v => rfl) (fun x V kst hC hD => ?_), ?_⟩
          · have e12 : x 12 = .int .i64 (ep2 : Int) := hD.1 rfl
            have e14 : x 14 = .int .i64 (ep2 : Int) := hD.2.1 rfl
            have e10 : x 10 = .bool false := hD.2.2.1 rfl
            clear hD
            refine want_yes (by simp [Region.wanted, yielded, e10]) ?_
            have dn : ((ep2 : Int) != (ep2 : Int)) = false := by simp
            exact leads_value (v := .bool false) (by go_simp) ⟨rfl, hC⟩
          refine ⟨ObS.of_val rfl (fun x v => rfl) (fun x V kst hC hD => ?_), ?_⟩
          · have e10 : x 10 = .bool false := hD.1 rfl
            have e15 : x 15 = .bool false := hD.2.1 rfl
            clear hD
            refine want_yes rfl ?_
            exact leads_value (v := .bool false) (by go_simp) ⟨rfl, hC⟩
          trivial
        · intro x V hC hx
          have e16 : x 16 = .bool false := hx 16 (by simp)
          obtain ⟨F3, hP3⟩ := hC
          have HP3 := Lib.hid (show VyW K w b ⟨ep2, lastK all2 ep2⟩ r ep2 (.slice (some ⟨g2, off2, none⟩) all2.length cp2) all2 F3 V from hP3)
          clear hP3 hx HG11 HCm
          rw [e16]
          clear e16
          generalize x 0 = y0
          generalize x 1 = y1
          generalize x 2 = y2
          generalize x 3 = y3
          generalize x 4 = y4
          generalize x 5 = y5
          generalize x 6 = y6
          generalize x 7 = y7
          generalize x 8 = y8
          generalize x 9 = y9
          generalize x 10 = y10
          generalize x 11 = y11
          generalize x 12 = y12
          generalize x 13 = y13
          generalize x 14 = y14
          generalize x 15 = y15
          have hwk : IntKind.i64.wrap ((k : Int) + 1) = (k : Int) + 1 := by have := HL.out; have := HKl.out; rw [IntKind.wrap_i64]; omega
          go_wp2_with fail
          go_roundw
          case rel => exact ⟨k + 1, ep2, _, all2, F3, by have := HKl.out; omega, by go_num, HE2.out.1, HE2.out.2, HP3.out⟩
          case measure => have := HKl.out; simp [intOf]; omega
    · have dk : decide ((k : Int) < (l.length : Int)) = false := by simp; omega
      have dk2 : decide (k < l.length) = false := by simpa using hlt
      clear hlt hk
      go_wp2_with fail
      clear dk dk2
      go_loopw [10, 11, 12, 13, 14] (fun i _ _ _ _ wr => ∃ k : Nat, k ≤ ask.length ∧ i = .int .i64 (k : Int) ∧ VyW K w b ⟨ep, lastK all ep⟩ r ep u all F wr) (fun i _ _ _ _ _ => ask.length - (intOf i).toNat)
      case atStart => exact ⟨0, by omega, rfl, HG.out⟩
      case round =>
        obtain ⟨k2, hk2, rfl, hg2⟩ := hrel
        have HG2 := Lib.hid hg2
        clear hg2 HG
        by_cases hlt : k2 < ask.length
        · have dk : decide ((k2 : Int) < (ask.length : Int)) = true := by simp; omega
          have dk2 : decide (k2 < ask.length) = true := by simpa using hlt
          obtain ⟨g, off, rfl, hcs⟩ := HC2.out (by intro e; rw [e] at hlt; cases hlt)
          have hc0 := hcs k2 hlt
          have HCl := Lib.hid (And.intro (block_lt_of_cell hc0) hc0)
          have HZ := Lib.hid (HX2.out (ask.getD k2 0) (by rw [List.getD_eq_getElem?_getD, List.getElem?_eq_getElem hlt]; exact List.getElem_mem hlt))
          have HKl := Lib.hid hlt
          clear hcs hc0 hlt hk2
          generalize ask.getD k2 0 = z at *
          have hcl := (HG2.out.below.cell (p := ⟨g, off + k2, none⟩) HCl.out.1).trans HCl.out.2
          have h0 : (0 : Int) ≤ (k2 : Int) := by omega
          have h1 : (k2 : Int) < (ask.length : Int) := by have := HKl.out; omega
          have h3 := Lib.hid (HG2.out.toVe.atB HAt.out z HZ.out.1 HZ.out.2)
          have HRa := Lib.hid (fun V (h : PolsAt V u all) => rvAt_any ep u all z V h HE.out.1 (by have := (keptN_pos HE.out.1).2.2; have := HE.out.2; omega) (by have := HE.out.1; have := HE.out.2; omega) HZ.out.1 HZ.out.2)
          have HOq := Lib.hid (show PolOk (atP ⟨ep, lastK all ep⟩ z) by
            unfold atP
            split
            · exact getD_ok HG2.out.ok.ok zeroP_ok _
            · exact zeroP_ok)
          generalize atP ⟨ep, lastK all ep⟩ z = q at *
          generalize atE ⟨ep, lastK all ep⟩ z = ae at *
          go_wp2_with fail
          refine h3.out.mono ?_
          rintro e1 w4 ⟨rfl, hB4⟩
          have HG4 := Lib.hid (HG2.out.step hB4)
          have hz := PRow.new w4 zeroP
          clear hB4 h3 HG2 hcl
          go_upto_region 18 with (refine wpList_store_arr rfl rfl _ _ _ rfl rfl rfl hz (infoPol _) (by rw [polC_size, polC_size]) (polC_one _) ?_; intro w5' hw5)
          have hB5 : Below w4.heap.size w4 w5' := (belowNew w4 _).trans (hw5.below (by simp) (Nat.le_refl _))
          have HG5 := Lib.hid (HG4.out.step hB5)
          have HR5 := Lib.hid (show PRow w5' w4.heap.size q from hw5.blk)
          clear hw5 hz hB5 HG4
          generalize w4.heap.size = b1 at *
          refine wp_region_N [.val (.agg #[.int .i64 (ep : Int), u]), .val (.slice (some ⟨g, off, none⟩) ask.length cap2), .val (.int .i64 (k2 : Int)), .val (.pointer (some ⟨g, off + k2, none⟩)), .val (.int .i64 z), .val (.tuple #[.agg (polC q), .int .i64 ae]), .val (.tuple #[.agg (polC q), .int .i64 ae]), .val (.agg (polC q)), .val (.int .i64 ae), .mk (polOb zeroP) 10 (polOb q), .st 9, .val (.int .i64 ae)]
            (fun x => { tmps := #[.slice p l.length cap, .slice (some ⟨g, off, none⟩) ask.length cap2, undef, undef, u4, storeV b, .pointer (some ⟨r, 0, none⟩), .int .i64 (k : Int), u8, u9, .int .i64 (k2 : Int), .pointer (some ⟨b1, 0, none⟩), .int .i64 ae, x 9, x 11, .slice p l.length cap, .int .i64 (l.length : Int), .bool false, .bool false, .slice (some ⟨g, off, none⟩) ask.length cap2, .int .i64 (ask.length : Int), .bool false, .bool false, undef, .agg (polC p7), storeV b, .agg (polC p7), .slice (some ⟨w3.heap.size, 0, none⟩) 1 1, .agg #[.int .i64 0, .slice (some ⟨w3.heap.size, 0, none⟩) 1 1], storeV b, .bool false, .int .i64 (k : Int), .slice p l.length cap, .int .i64 (l.length : Int), .bool false, u35, u36, u37, u38, u39, u40, u41, u42, u43, u44, u45, u46, u47, u48, u49, u50, u51, u52, u53, u54, u55, u56, u57, u58, u59, u60, u61, u62, u63, u64, u65, .int .i64 (k2 : Int), .slice (some ⟨g, off, none⟩) ask.length cap2, .int .i64 (ask.length : Int), .bool true, u70, u71, .tuple #[.agg (polC q), .int .i64 ae], storeV b, .slice (some ⟨g, off, none⟩) ask.length cap2, .int .i64 (k2 : Int), .pointer (some ⟨g, off + k2, none⟩), .int .i64 z, .tuple #[.agg (polC q), .int .i64 ae], .agg (polC q), .int .i64 ae, x 6, x 0, x 1, x 2, x 3, x 4, x 5, x 7, x 8, u90, u91, u92, u93, u94, u95, u96, u97, undef, undef, undef, undef, undef, undef, undef, undef, undef, undef, undef, undef, undef, undef, undef, undef, undef, undef, undef, undef, undef], defers := [] }) (fun i => ([u82, u83, u84, u85, u86, u87, u81, u88, u89, u13, undef, u14] : List Value).getD i undef) (by kernel_rfl) rfl rfl rfl (by kernel_rfl) ?_ ?_
          · refine ⟨ObN.of_val rfl (fun x v => rfl) (fun x V hC hD => ?_), ?_⟩
            · clear hD
              have hH := hC
              refine want_yes rfl ?_
              have hG : VyW K w b ⟨ep, lastK all ep⟩ r ep u all F V := (HG5.out.step (Below.refl _ _).drew).step hC
              have hrr := hG.rr
              exact leads_value (exec_load_rs rfl rfl hrr) ⟨rfl, Below.refl _ _⟩
            refine ⟨ObN.of_val rfl (fun x v => rfl) (fun x V hC hD => ?_), ?_⟩
            · clear hD
              have hH := hC
              refine want_yes rfl ?_
              exact leads_value (v := .slice (some ⟨g, off, none⟩) ask.length cap2) (by go_simp) ⟨rfl, Below.refl _ _⟩
            refine ⟨ObN.of_val rfl (fun x v => rfl) (fun x V hC hD => ?_), ?_⟩
            · clear hD
              have hH := hC
              refine want_yes rfl ?_
              exact leads_value (v := .int .i64 (k2 : Int)) (by go_simp) ⟨rfl, Below.refl _ _⟩
            refine ⟨ObN.of_val rfl (fun x v => rfl) (fun x V hC hD => ?_), ?_⟩
            · have e1 : x 1 = .slice (some ⟨g, off, none⟩) ask.length cap2 := hD.1.1 _ rfl rfl
              have e2 : x 2 = .int .i64 (k2 : Int) := hD.2.1.1 _ rfl rfl
              clear hD
              have hH := hC
              refine want_yes rfl ?_
              have h0 : (0 : Int) ≤ (k2 : Int) := by omega
              have h1 : (k2 : Int) < (ask.length : Int) := by have := HKl.out; omega
              exact leads_value (v := .pointer (some ⟨g, off + k2, none⟩)) (by go_simp) ⟨rfl, Below.refl _ _⟩
            refine ⟨ObN.of_val rfl (fun x v => rfl) (fun x V hC hD => ?_), ?_⟩
            · have e3 : x 3 = .pointer (some ⟨g, off + k2, none⟩) := hD.1.1 _ rfl rfl
              clear hD
              have hH := hC
              refine want_yes rfl ?_
              have hG : VyW K w b ⟨ep, lastK all ep⟩ r ep u all F V := (HG5.out.step (Below.refl _ _).drew).step hC
              have hcl := (hG.below.cell (p := ⟨g, off + k2, none⟩) HCl.out.1).trans HCl.out.2
              exact leads_value (v := .int .i64 z) (by go_simp) ⟨rfl, Below.refl _ _⟩
            refine ⟨ObN.of_val rfl (fun x v => rfl) (fun x V hC hD => ?_), ?_⟩
            · have e0 : x 0 = .agg #[.int .i64 (ep : Int), u] := hD.1.1 _ rfl rfl
              have e4 : x 4 = .int .i64 z := hD.2.1.1 _ rfl rfl
              clear hD
              have hH := hC
              refine want_yes rfl ?_
              have hG : VyW K w b ⟨ep, lastK all ep⟩ r ep u all F V := (HG5.out.step (Below.refl _ _).drew).step hC
              exact leads_enter2 (by go_simp) ((HRa.out V hG.ps).mono fun en w'' ⟨he, hB⟩ => ⟨_, he, rfl, hB⟩)
            refine ⟨ObN.of_val rfl (fun x v => rfl) (fun x V hC hD => ?_), ?_⟩
            · have e5 : x 5 = .tuple #[.agg (polC q), .int .i64 ae] := hD.1.1 _ rfl rfl
              clear hD
              have hH := hC
              refine want_yes rfl ?_
              exact leads_value (v := .tuple #[.agg (polC q), .int .i64 ae]) (by go_simp) ⟨rfl, Below.refl _ _⟩
            refine ⟨ObN.of_val rfl (fun x v => rfl) (fun x V hC hD => ?_), ?_⟩
            · have e6 : x 6 = .tuple #[.agg (polC q), .int .i64 ae] := hD.1.1 _ rfl rfl
              clear hD
              have hH := hC
              refine want_yes rfl ?_
              exact leads_value (v := .agg (polC q)) (by go_simp) ⟨rfl, Below.refl _ _⟩
            refine ⟨ObN.of_val rfl (fun x v => rfl) (fun x V hC hD => ?_), ?_⟩
            · have e6 : x 6 = .tuple #[.agg (polC q), .int .i64 ae] := hD.1.1 _ rfl rfl
              clear hD
              have hH := hC
              refine want_yes rfl ?_
              exact leads_value (v := .int .i64 ae) (by go_simp) ⟨rfl, Below.refl _ _⟩
            refine ⟨ObN.of_mk rfl (fun x v => rfl) rfl (fun x V => ?_), ?_⟩
            · exact leads_alloc_polv rfl
            refine ⟨ObN.of_st rfl rfl (fun x v => rfl) rfl (by kernel_rfl) (fun x V gb hC hx hg hD => ?_), ?_⟩
            · have e7 : x 7 = .agg (polC q) := hD.2.1.1 _ rfl rfl
              clear hD
              have hH := hC
              exact leads_store_row rfl hx e7 hg (infoPol _) (by rw [polC_size, polC_size]) (polC_one _)
            refine ⟨ObN.of_val rfl (fun x v => rfl) (fun x V hC hD => ?_), ?_⟩
            · have e8 : x 8 = .int .i64 ae := hD.1.1 _ rfl rfl
              clear hD
              have hH := hC
              refine want_yes rfl ?_
              exact leads_value (v := .int .i64 ae) (by go_simp) ⟨rfl, Below.refl _ _⟩
            trivial
          · intro L x V hL hF
            have e11 : x 11 = .int .i64 ae := hF.val 11 _ rfl (hL 11 (by decide))
            obtain ⟨e9, hb9⟩ := hF.made 9 _ _ _ rfl (hL 9 (by decide))
            rw [hL 10 (by decide), if_pos rfl] at hb9
            have HR6 := Lib.hid (show PRow V (blkOf (x 9)) q from hb9)
            have HG6 := Lib.hid ((HG5.out.step (Below.refl _ _).drew).step hF.below)
            have HQ6 := Lib.hid (((show PRow _ b1 q from HR5.out).step (Below.refl _ _).drew).step hF.below)
            clear hF hL hb9 HG5 HR5 HRa
            generalize blkOf (x 9) = b2 at *
            rw [e9, e11]
            clear e9 e11
            generalize x 0 = y0
            generalize x 1 = y1
            generalize x 2 = y2
            generalize x 3 = y3
            generalize x 4 = y4
            generalize x 5 = y5
            generalize x 6 = y6
            generalize x 7 = y7
            generalize x 8 = y8
            have hr1 := HQ6.out
            have hr2 := HR6.out
            have da : (ae != ae) = false := by simp
            have hwk : IntKind.i64.wrap ((k2 : Int) + 1) = (k2 : Int) + 1 := by have := HL.out; have := HKl.out; rw [IntKind.wrap_i64]; omega
            go_wp2_with (first
              | (refine wpList_load_arr rfl _ _ rfl rfl hr1 Try.underlying34 rfl (infoPol _) ?_)
              | (refine wpList_load_arr rfl _ _ rfl rfl hr2 Try.underlying34 rfl (infoPol _) ?_)
              | (refine wpList_of rfl (exec_neq_pol HOq.out rfl rfl rfl) ?_))
            go_roundw
            case rel => exact ⟨k2 + 1, by have := HKl.out; omega, by go_num, HG6.out⟩
            case measure => have := HKl.out; simp [intOf]; omega
        · have dk : decide ((k2 : Int) < (ask.length : Int)) = false := by simp; omega
          have dk2 : decide (k2 < ask.length) = false := by simpa using hlt
          clear hlt hk2
          obtain ⟨g, off, cp, rfl, -, -, hgl⟩ := HG2.out.ps.shape HG2.out.ne
          have hel := HG2.out.ps.elem (i := ep) (by have := HE.out.2; omega)
          have HNo := Lib.hid (show nowP ⟨ep, lastK all ep⟩ = all[ep]'(by have := HE.out.2; omega) by
            rw [now_hist HE.out.1 HE.out.2, List.getD_eq_getElem?_getD, show all.length - 1 = ep by have := HE.out.2; omega, List.getElem?_eq_getElem (by have := HE.out.2; omega)]; rfl)
          have HNw2 := Lib.hid (fun V (h : VeW K w b ⟨ep, lastK all ep⟩ V) => h.nowB HNw.out)
          have HLi := Lib.hid (fun V h => rvList_any ep (.slice (some ⟨g, off, none⟩) all.length cp) all V h HE.out.1 (by have := (keptN_pos HE.out.1).2.2; have := HE.out.2; omega))
          have HEl := Lib.hid (fun V (h : PolsAt V (.slice (some ⟨g, off, none⟩) all.length cp) all) => (h.elem (i := ep) (by have := HE.out.2; omega)).2)
          rw [HNo.out] at HNw2
          generalize all[ep]'(by have := HE.out.2; omega) = q at *
          have HOq := Lib.hid hel.1
          clear hel hgl HNo
          go_upto_region 21 with fail
          refine wp_region_F (fun V => VyW K w b ⟨ep, lastK all ep⟩ r ep (.slice (some ⟨g, off, none⟩) all.length cp) all F V) [Fact.is (storeV b), polsF (lastK all ep), Fact.is (.agg #[.int .i64 (ep : Int), .slice (some ⟨g, off, none⟩) all.length cp]), polsF (lastK all ep), Fact.is (.bool true), Fact.is (.bool true), Fact.is (storeV b), Fact.is (.agg (polC q)), Fact.is (.pointer (some ⟨r, 1, none⟩)), Fact.is (.slice (some ⟨g, off, none⟩) all.length cp), Fact.is (.pointer (some ⟨r, 1, none⟩)), Fact.is (.slice (some ⟨g, off, none⟩) all.length cp), Fact.is (.int .i64 (all.length : Int)), Fact.is (.int .i64 (ep : Int)), Fact.is (.pointer (some ⟨g, off + ep * 66, none⟩)), Fact.is (.agg (polC q)), Fact.is (.bool true), Fact.is (.bool true), Fact.is (.bool true), Fact.is (.bool true), Fact.is (.bool true), Fact.is (.bool true)]
            (fun x => { tmps := #[.slice p l.length cap, .slice p2 ask.length cap2, undef, undef, x 21, storeV b, .pointer (some ⟨r, 0, none⟩), .int .i64 (k : Int), u8, u9, .int .i64 (k2 : Int), u11, u12, u13, u14, .slice p l.length cap, .int .i64 (l.length : Int), .bool false, .bool false, .slice p2 ask.length cap2, .int .i64 (ask.length : Int), .bool false, .bool false, undef, .agg (polC p7), storeV b, .agg (polC p7), .slice (some ⟨w3.heap.size, 0, none⟩) 1 1, .agg #[.int .i64 0, .slice (some ⟨w3.heap.size, 0, none⟩) 1 1], storeV b, .bool false, .int .i64 (k : Int), .slice p l.length cap, .int .i64 (l.length : Int), .bool false, u35, u36, u37, u38, u39, u40, u41, u42, u43, u44, u45, u46, u47, u48, u49, u50, u51, u52, u53, u54, u55, u56, u57, u58, u59, u60, u61, u62, u63, u64, u65, .int .i64 (k2 : Int), .slice p2 ask.length cap2, .int .i64 (ask.length : Int), .bool false, u70, u71, u72, u73, u74, u75, u76, u77, u78, u79, u80, u81, u82, u83, u84, u85, u86, u87, u88, u89, u90, u91, u92, u93, u94, u95, u96, u97, x 0, x 1, x 2, x 3, x 4, x 5, x 6, x 7, x 8, x 9, x 10, x 11, x 12, x 13, x 14, x 15, x 16, x 17, x 18, x 19, x 20], defers := [] }) (fun i => ([undef, undef, undef, undef, undef, undef, undef, undef, undef, undef, undef, undef, undef, undef, undef, undef, undef, undef, undef, undef, undef, u4] : List Value).getD i undef) (by kernel_rfl) rfl rfl (by kernel_rfl) (HG2.out.step (Below.refl _ _).drew) (fun u v hu hB => hu.step hB) ?_ ?_
          · refine ⟨⟨fun x v => rfl, fun x V hC hD => ?_⟩, ?_⟩
            · clear hD
              refine want_yes rfl ?_
              exact leads_value (v := storeV b) (by go_simp) ⟨Below.refl _ _, rfl⟩
            refine ⟨⟨fun x v => rfl, fun x V hC hD => ?_⟩, ?_⟩
            · have e0 : (x 0) = storeV b := hD.1 rfl
              clear hD
              refine want_yes rfl ?_
              exact leads_enter2 (by go_simp) ((hC.toVe.keptL HKe.out).mono fun en w'' ⟨u2, he, hr, hB⟩ => ⟨_, he, hB, SlAt.ofRow (ok := PolOk) polC_size hr hC.ok.ok⟩)
            refine ⟨⟨fun x v => rfl, fun x V hC hD => ?_⟩, ?_⟩
            · clear hD
              refine want_yes rfl ?_
              have hrr := hC.rr
              exact leads_value (exec_load_rs rfl rfl hrr) ⟨Below.refl _ _, rfl⟩
            refine ⟨⟨fun x v => rfl, fun x V hC hD => ?_⟩, ?_⟩
            · have e2 : (x 2) = .agg #[.int .i64 (ep : Int), .slice (some ⟨g, off, none⟩) all.length cp] := hD.1 rfl
              clear hD
              refine want_yes rfl ?_
              exact leads_enter2 (by go_simp) ((HLi.out V hC.ps).mono fun en w'' ⟨u2, he, hs, hB⟩ => ⟨_, he, hB, hs⟩)
            refine ⟨⟨fun x v => rfl, fun x V hC hD => ?_⟩, ?_⟩
            · have e1 : PolsAt V (x 1) (lastK all ep) := hD.1 rfl
              have e3 : PolsAt V (x 3) (lastK all ep) := hD.2.1 rfl
              clear hD
              refine want_yes rfl ?_
              exact leads_enter2 (by go_simp) ((rvSame_any _ _ _ V e1 e3).mono fun en w'' ⟨he, hB⟩ => ⟨_, he, hB, rfl⟩)
            refine ⟨⟨fun x v => rfl, fun x V hC hD => ?_⟩, ?_⟩
            · have e4 : (x 4) = .bool true := hD.1 rfl
              clear hD
              refine want_yes rfl ?_
              exact leads_value (v := .bool true) (by go_simp) ⟨Below.refl _ _, rfl⟩
            refine ⟨⟨fun x v => rfl, fun x V hC hD => ?_⟩, ?_⟩
            · have e5 : (x 5) = .bool true := hD.1 rfl
              clear hD
              refine want_yes (by simp [Region.wanted, yielded, e5]) ?_
              exact leads_value (v := storeV b) (by go_simp) ⟨Below.refl _ _, rfl⟩
            refine ⟨⟨fun x v => rfl, fun x V hC hD => ?_⟩, ?_⟩
            · have e6 : (x 6) = storeV b := hD.1 rfl
              have e5 : (x 5) = .bool true := hD.2.1 rfl
              clear hD
              refine want_yes (by simp [Region.wanted, yielded, e5]) ?_
              exact leads_enter2 (by go_simp) ((HNw2.out V hC.toVe).mono fun en w'' ⟨he, hB⟩ => ⟨_, he, hB, rfl⟩)
            refine ⟨⟨fun x v => rfl, fun x V hC hD => ?_⟩, ?_⟩
            · have e5 : (x 5) = .bool true := hD.1 rfl
              clear hD
              refine want_yes (by simp [Region.wanted, yielded, e5]) ?_
              exact leads_value (v := .pointer (some ⟨r, 1, none⟩)) (by go_simp) ⟨Below.refl _ _, rfl⟩
            refine ⟨⟨fun x v => rfl, fun x V hC hD => ?_⟩, ?_⟩
            · have e8 : (x 8) = .pointer (some ⟨r, 1, none⟩) := hD.1 rfl
              have e5 : (x 5) = .bool true := hD.2.1 rfl
              clear hD
              refine want_yes (by simp [Region.wanted, yielded, e5]) ?_
              have k0 := hC.rr.cell 1
              exact leads_value (v := .slice (some ⟨g, off, none⟩) all.length cp) (by go_simp) ⟨Below.refl _ _, rfl⟩
            refine ⟨⟨fun x v => rfl, fun x V hC hD => ?_⟩, ?_⟩
            · have e5 : (x 5) = .bool true := hD.1 rfl
              clear hD
              refine want_yes (by simp [Region.wanted, yielded, e5]) ?_
              exact leads_value (v := .pointer (some ⟨r, 1, none⟩)) (by go_simp) ⟨Below.refl _ _, rfl⟩
            refine ⟨⟨fun x v => rfl, fun x V hC hD => ?_⟩, ?_⟩
            · have e10 : (x 10) = .pointer (some ⟨r, 1, none⟩) := hD.1 rfl
              have e5 : (x 5) = .bool true := hD.2.1 rfl
              clear hD
              refine want_yes (by simp [Region.wanted, yielded, e5]) ?_
              have k0 := hC.rr.cell 1
              exact leads_value (v := .slice (some ⟨g, off, none⟩) all.length cp) (by go_simp) ⟨Below.refl _ _, rfl⟩
            refine ⟨⟨fun x v => rfl, fun x V hC hD => ?_⟩, ?_⟩
            · have e11 : (x 11) = .slice (some ⟨g, off, none⟩) all.length cp := hD.1 rfl
              have e5 : (x 5) = .bool true := hD.2.1 rfl
              clear hD
              refine want_yes (by simp [Region.wanted, yielded, e5]) ?_
              exact leads_value (v := .int .i64 (all.length : Int)) (by go_simp) ⟨Below.refl _ _, rfl⟩
            refine ⟨⟨fun x v => rfl, fun x V hC hD => ?_⟩, ?_⟩
            · have e12 : (x 12) = .int .i64 (all.length : Int) := hD.1 rfl
              have e5 : (x 5) = .bool true := hD.2.1 rfl
              clear hD
              refine want_yes (by simp [Region.wanted, yielded, e5]) ?_
              have hw : IntKind.i64.wrap ((all.length : Int) - 1) = (ep : Int) := by have := HE.out.1; have := HE.out.2; rw [IntKind.wrap_i64]; omega
              exact leads_value (v := .int .i64 (ep : Int)) (by go_simp) ⟨Below.refl _ _, rfl⟩
            refine ⟨⟨fun x v => rfl, fun x V hC hD => ?_⟩, ?_⟩
            · have e9 : (x 9) = .slice (some ⟨g, off, none⟩) all.length cp := hD.1 rfl
              have e13 : (x 13) = .int .i64 (ep : Int) := hD.2.1 rfl
              have e5 : (x 5) = .bool true := hD.2.2.1 rfl
              clear hD
              refine want_yes (by simp [Region.wanted, yielded, e5]) ?_
              have h0 : (0 : Int) ≤ (ep : Int) := by omega
              have h1 : (ep : Int) < (all.length : Int) := by have := HE.out.2; omega
              exact leads_value (v := .pointer (some ⟨g, off + ep * 66, none⟩)) (by go_simp) ⟨Below.refl _ _, rfl⟩
            refine ⟨⟨fun x v => rfl, fun x V hC hD => ?_⟩, ?_⟩
            · have e14 : (x 14) = .pointer (some ⟨g, off + ep * 66, none⟩) := hD.1 rfl
              have e5 : (x 5) = .bool true := hD.2.1 rfl
              clear hD
              refine want_yes (by simp [Region.wanted, yielded, e5]) ?_
              exact leads_value (exec_load_cells rfl e14 (HEl.out V hC.ps) Try.underlying34 rfl (infoPol _)) ⟨Below.refl _ _, rfl⟩
            refine ⟨⟨fun x v => rfl, fun x V hC hD => ?_⟩, ?_⟩
            · have e7 : (x 7) = .agg (polC q) := hD.1 rfl
              have e15 : (x 15) = .agg (polC q) := hD.2.1 rfl
              have e5 : (x 5) = .bool true := hD.2.2.1 rfl
              clear hD
              refine want_yes (by simp [Region.wanted, yielded, e5]) ?_
              exact leads_value (exec_eql_pol HOq.out rfl e7 e15) ⟨Below.refl _ _, rfl⟩
            refine ⟨⟨fun x v => rfl, fun x V hC hD => ?_⟩, ?_⟩
            · have e5 : (x 5) = .bool true := hD.1 rfl
              have e16 : (x 16) = .bool true := hD.2.1 rfl
              clear hD
              refine want_yes rfl ?_
              exact leads_value (v := .bool true) (by go_simp) ⟨Below.refl _ _, rfl⟩
            refine ⟨⟨fun x v => rfl, fun x V hC hD => ?_⟩, ?_⟩
            · have e17 : (x 17) = .bool true := hD.1 rfl
              clear hD
              refine want_yes rfl ?_
              exact leads_value (v := .bool true) (by go_simp) ⟨Below.refl _ _, rfl⟩
            refine ⟨⟨fun x v => rfl, fun x V hC hD => ?_⟩, ?_⟩
            · have e18 : (x 18) = .bool true := hD.1 rfl
              clear hD
              refine want_yes (by simp [Region.wanted, yielded, e18]) ?_
              exact leads_enter2 (by go_simp) ((HA.out V).mono fun en w'' ⟨he, hB⟩ => ⟨_, he, hB, rfl⟩)
            refine ⟨⟨fun x v => rfl, fun x V hC hD => ?_⟩, ?_⟩
            · have e18 : (x 18) = .bool true := hD.1 rfl
              have e19 : (x 19) = .bool true := hD.2.1 rfl
              clear hD
              refine want_yes rfl ?_
              exact leads_value (v := .bool true) (by go_simp) ⟨Below.refl _ _, rfl⟩
            refine ⟨⟨fun x v => rfl, fun x V hC hD => ?_⟩, ?_⟩
            · have e20 : (x 20) = .bool true := hD.1 rfl
              clear hD
              refine want_yes rfl ?_
              exact leads_value (v := .bool true) (by go_simp) ⟨Below.refl _ _, rfl⟩
            trivial
          · intro x V hC hF
            have e21 : x 21 = .bool true := hF 21 (by simp)
            have HV := Lib.hid (show VyW K w b ⟨ep, lastK all ep⟩ r ep (.slice (some ⟨g, off, none⟩) all.length cp) all F V from hC)
            clear hC hF HG2
            rw [e21]
            clear e21
            go_wp2_with fail
            go_ret
            exact ⟨rfl, HV.out.below⟩
end Go.Proofs.Ytimbhamdblganaa

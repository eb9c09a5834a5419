/-
  The program's differences: the lines of the links.
-/
import Derived.Test.YtmaachmidgfhdaaGreatDoorWDpO
import Derived.Test.YtmaachmidgfhdaaGreatDoorWGraU
/-! DpK -/
namespace Go.Proofs.YtmaachmidgfhdaaGreatDoor
open Go.RowKit Go.Shelf

attribute [local go_sem] Oper.semAt_some

def linkJ (wd : List UInt8) (p q : Pol) (n : Nat) : List (List UInt8) := (tagsN (lessN (q.acts n) (p.acts n))).flatMap fun m => [Lib.join [wd, dig n, dig m] [32]]
theorem flat_many {F : Nat → List (List UInt8)} {c : Nat} (hF : ∀ n, (F n).length ≤ c) : ∀ l : List Nat, (l.flatMap F).length ≤ c * l.length
  | [] => Nat.le_refl _
  | a :: r => by
    rw [List.flatMap_cons, List.length_append, List.length_cons, Nat.mul_succ]
    have h1 := hF a
    have h2 := flat_many hF r
    omega
theorem linkJ_len (wd : List UInt8) (p q : Pol) (n : Nat) : (linkJ wd p q n).length ≤ 16 := by
  have h1 := flat_many (F := fun m => [Lib.join [wd, dig n, dig m] [32]]) (c := 1) (fun _ => Nat.le_refl _) (tagsN (lessN (q.acts n) (p.acts n)))
  have h2 : (tagsN (lessN (q.acts n) (p.acts n))).length ≤ 16 := tagsTo_length_le _ 16
  unfold linkJ
  omega
theorem join_len3 (wd : List UInt8) {n m : Nat} (hn : n < 16) (hm : m < 16) (h : wd.length ≤ 10) : (Lib.join [wd, dig n, dig m] [32]).length ≤ 1000 := by
  have h1 := dig_len17 (n := n) (by omega)
  have h2 := dig_len17 (n := m) (by omega)
  rw [join_three]
  simp; omega
/-- A block of another type is not the row's. -/
theorem blk_not_row {W : World} {b : Nat} {cs : Array Value} {t e : TypeId} {lo hi : Nat} (h : W.heap[b]? = some (.cells cs t (lo, hi))) (hte : t ≠ e) {base size k : Nat} {v : Value} {xs : List Value} (hr : W.ownsRow base e size v k xs) : v.ownBlock ≠ some b := by
  rcases hr.2 with ⟨rfl, _⟩ | ⟨g, cap, cur, rfl, _, hgb, _⟩
  · simp [Value.ownBlock]
  · intro e'
    obtain rfl : g = b := by simpa [Value.ownBlock] using e'
    rw [hgb] at h
    cases h
    exact hte rfl
theorem ints_ne : 3 ≠ 9 := by decide
/-- A box of a number is kept in a round. -/
theorem CW_int {bl : Nat} {w1 : World} {v : Value} {m ws : List (List UInt8)} {W V : World} {b : Nat} {u : Value} (hr : StrsRow W w1.heap.size v m) (hb : Blk W b #[u] 3) : ∀ {vs : List Value}, vs.length ≤ 4 → CW bl w1 v m ws W vs V → Blk V b #[u] 3
  | [], _, h => Blk.below hb h hb.lt
  | [_], _, h => Blk.below hb h.1 hb.lt
  | [_, _], _, h => Blk.below hb h.1 hb.lt
  | [_, _, _], _, h => Blk.below hb h.1 hb.lt
  | [_, _, _, _], _, h => by
    obtain ⟨V0, hB, hg⟩ := ApW.from_ h
    have h0 : Blk V0 b #[u] 3 := Blk.below hb hB hb.lt
    exact (hg.block b h0.lt fun e => blk_not_row h0 ints_ne (ownsRow_below hr hB) e.symm).trans h0
  | _ :: _ :: _ :: _ :: _ :: _, h, _ => by simp at h
/-- In a round of the loop: the lines, the round's number, the marks. -/
structure LkW (N bl bk k : Nat) (w1 w2 : World) (m : List (List UInt8)) (V : World) : Prop where
  li : LnaW bl w1 m V
  k : Blk V bk #[.int .i64 (k : Int)] 3
  keep : KeepsFrom N w2 V
theorem lk_own {N bl bk k : Nat} {w1 w2 : World} {B : Nat} (hB : w1.heap.size ≤ B) (hB2 : w2.heap.size ≤ B) (F : List (Fin 16) → List (List UInt8)) : OwnFrom B (fun pre V => LkW N bl bk k w1 w2 (F pre) V) := by
  rintro pre X Y row ⟨h, hk, hp⟩ hg hr
  exact ⟨liw_own F hB pre X Y row h hg hr, Blk.grown hk hg fun r e => (hr r e).2, ownFrom_keepsFrom hB2 () X Y row hp hg hr⟩
/-- Behind the reads: the iterator of a set. -/
def CE (s : Nat) (W : World) : List Value → World → Prop
  | [], V => Below W.heap.size W V
  | [a], V => Below W.heap.size W V ∧ ∃ be, a = .func (.func 56) #[] #[.pointer (some ⟨be, 0, none⟩)] ∧ Boxed V be 22 (.int .u16 (s : Int)) ∧ W.heap.size ≤ be
  | _, _ => False
theorem CE_com {s : Nat} {W : World} : ∀ {vs : List Value} {V : World}, CE s W vs V → Below W.heap.size W V
  | [], _, h => h
  | [_], _, h => h.1
  | _ :: _ :: _, _, h => h.elim
theorem CE_end {s : Nat} {W V : World} {vs : List Value} (hl : vs.length = 1) (h : CE s W vs V) : ∃ be, vs = [.func (.func 56) #[] #[.pointer (some ⟨be, 0, none⟩)]] ∧ Boxed V be 22 (.int .u16 (s : Int)) ∧ W.heap.size ≤ be ∧ Below W.heap.size W V := by
  obtain ⟨a, rfl⟩ := len_one hl
  obtain ⟨h1, be, rfl, h2, h3⟩ := h
  exact ⟨be, rfl, h2, h3, h1⟩
theorem made_links (w : World) (wd : List UInt8) (p q : Pol) {w1 : World} (h : w1 = (((w.alloc (.cells #[.string ⟨wd.toArray⟩] 9)).alloc (.cells (polC p) 29)).alloc (.cells (polC q) 29)).alloc (.cells #[.slice none 0 0] 32)) :
    w1.heap.size = w.heap.size + 4 ∧ Below w.heap.size w w1 ∧ Blk w1 w.heap.size #[.string ⟨wd.toArray⟩] 9 ∧ PRow w1 (w.heap.size + 1) p ∧ PRow w1 (w.heap.size + 2) q ∧ Boxed w1 (w.heap.size + 3) 32 (.slice none 0 0) := by
  have hB0 := belowNew w (.cells #[.string ⟨wd.toArray⟩] 9)
  have b0 := Blk.new w #[.string ⟨wd.toArray⟩] 9
  have z0 : (w.alloc (.cells #[.string ⟨wd.toArray⟩] 9)).heap.size = w.heap.size + 1 := by simp
  generalize w.alloc (.cells #[.string ⟨wd.toArray⟩] 9) = wz at *
  obtain ⟨h1, h2, h3, h4, h5⟩ := made_pq wz p q h
  rw [z0] at h1 h3 h4 h5
  exact ⟨h1, hB0.trans (h2.mono (by omega)), Blk.below b0 h2 b0.lt, h3, h4, h5⟩
set_option maxRecDepth 100000 in
set_option maxHeartbeats 6400000 in
theorem dpLinks_any (wd : List UInt8) (hwd : wd.length ≤ 10) (p q : Pol) (hp : PolOk p) (hq : PolOk q) (w : World) (hT : TabOk w) : Calls Tryz.prog 20 #[.string ⟨wd.toArray⟩, .agg (polC p), .agg (polC q)] w fun e w' => ∃ u, e = .returned u ∧ StrsRow w' w.heap.size u ((List.range 16).flatMap (linkJ wd p q)) ∧ Below w.heap.size w w' := by
  obtain ⟨w1, hw1⟩ : ∃ w1, w1 = (((w.alloc (.cells #[.string ⟨wd.toArray⟩] 9)).alloc (.cells (polC p) 29)).alloc (.cells (polC q) 29)).alloc (.cells #[.slice none 0 0] 32) := ⟨_, rfl⟩
  obtain ⟨z1, hB1, hbw, hpr, hqr, x1⟩ := made_links w wd p q hw1
  have HW1 := Lib.hid hw1
  clear hw1
  refine (callsIn_wide (n := 3)).1 ?_
  refine callsIn_of_wp_marks Tryz.func20 rfl trivial ?_ rfl
  simp only [Tryz.ntmps20, List.size_toArray, List.length_cons, List.length_nil, Nat.reduceAdd, Nat.reduceSub, Array.replicate_succ, Array.replicate_zero, List.push_toArray, List.append_toArray, List.nil_append, List.cons_append]
  gi_wp2
  rw [← HW1.out]
  rename_i hgo
  have HGO := Lib.hid hgo
  clear HW1 hgo
  obtain ⟨bl, hbl⟩ : ∃ b, b = w.heap.size + 1 + 1 + 1 := ⟨_, rfl⟩
  obtain ⟨bq, hbq⟩ : ∃ b, b = w.heap.size + 1 + 1 := ⟨_, rfl⟩
  obtain ⟨bp, hbp⟩ : ∃ b, b = w.heap.size + 1 := ⟨_, rfl⟩
  obtain ⟨bw, hbw2⟩ : ∃ b, b = w.heap.size := ⟨_, rfl⟩
  have HZ := Lib.hid (show w.heap.size ≤ bl ∧ bp ≠ bl ∧ bq ≠ bl ∧ bw ≠ bl ∧ w.heap.size ≤ w1.heap.size ∧ bl < w1.heap.size from ⟨by omega, by omega, by omega, by omega, by omega, by omega⟩)
  have HB1 := Lib.hid hB1
  have HPr := Lib.hid (show PRow w1 bp p from hbp ▸ hpr)
  have HQr := Lib.hid (show PRow w1 bq q by rw [hbq]; exact hqr)
  have HWr := Lib.hid (show Blk w1 bw #[.string ⟨wd.toArray⟩] 9 by rw [hbw2]; exact hbw)
  have hL := LnaW.new x1
  rw [show w.heap.size + 3 = bl by omega] at hL
  have HL0 := Lib.hid hL
  have HA := Lib.hid (And.intro hp.acts hq.acts)
  rw [← hbl, ← hbq, ← hbp, show Value.pointer (some ⟨w.heap.size, 0, none⟩) = .pointer (some ⟨bw, 0, none⟩) by rw [hbw2]]
  clear hbl hbq hbp hbw2 hL x1 hqr hpr hbw hB1 z1 hp hq
  refine wpIn_loop (fun a' V' => ∃ (n : Nat) (Ds : List Nat) (u8 u9 u11 u12 u13 u14 u15 u16 u17 u18 u19 u20 u21 u22 u23 u24 u25 u26 u27 u28 u29 u30 u31 u32 u33 u34 : Value), n ≤ 16 ∧ MarksAt w.heap.size Ds V' ∧ LnaW bl w1 ((List.range n).flatMap (linkJ wd p q)) V' ∧ a' = { tmps := #[.string ⟨(wd).toArray⟩, .agg (polC p), .agg (polC q), .pointer (some ⟨bw, 0, none⟩), .pointer (some ⟨bp, 0, none⟩), .pointer (some ⟨bq, 0, none⟩), .slice none 0 0, .pointer (some ⟨bl, 0, none⟩), u8, u9, .int .i64 (n : Int), u11, u12, u13, u14, u15, u16, u17, u18, u19, u20, u21, u22, u23, u24, u25, u26, u27, u28, u29, u30, u31, u32, u33, u34, undef], defers := Ds.map markD })
    (fun a' _ => 16 - (intOf (a'.tmps.getD 10 undef)).toNat) ?_ ?_
  · exact ⟨0, [], undef, undef, undef, undef, undef, undef, undef, undef, undef, undef, undef, undef, undef, undef, undef, undef, undef, undef, undef, undef, undef, undef, undef, undef, undef, undef, by omega, ⟨fun D h => (by cases h), List.nodup_nil⟩, HL0.out, rfl⟩
  · rintro a' V' ⟨n, Ds, u8, u9, u11, u12, u13, u14, u15, u16, u17, u18, u19, u20, u21, u22, u23, u24, u25, u26, u27, u28, u29, u30, u31, u32, u33, u34, hk, hDs, hLi, rfl⟩
    have HDs := Lib.hid hDs
    have HLi := Lib.hid hLi
    clear hDs hLi HL0
    by_cases hlt : n < 16
    · have dk : decide ((n : Int) < 16) = true := by simp; omega
      have hk16 : (n : Int) < 16 := by omega
      have hk0 : (0 : Int) ≤ (n : Int) := by omega
      have hwk : IntKind.i64.wrap ((n : Int) + 1) = ((n + 1 : Nat) : Int) := by simp [IntKind.wrap, IntKind.bits, IntKind.signed]; omega
      have HWK := Lib.hid hwk
      have HN := Lib.hid hlt
      have HAc := Lib.hid (And.intro (HA.out.2 n hlt) (HA.out.1 n hlt))
      clear hwk hk
      gi_wp2
      rename_i hgo3 _ hgo2
      have HGO2 := Lib.hid hgo2
      have HGO3 := Lib.hid hgo3
      clear hgo2 hgo3
      have hB := belowNew V' (.cells #[.int .i64 (n : Int)] 3)
      have hbk := Blk.new V' #[.int .i64 (n : Int)] 3
      have hli := HLi.out.step hB
      have hDs2 := HDs.out.keep ((KeepsOthers.alloc V' (.cells #[.int .i64 (n : Int)] 3)).from _)
      have hbkn : V'.heap.size < (V'.alloc (.cells #[.int .i64 (n : Int)] 3)).heap.size := by simp
      have hbk1 : bl < V'.heap.size := Nat.lt_of_lt_of_le HZ.out.2.2.2.2.2 HLi.out.chg.size
      generalize V'.alloc (.cells #[.int .i64 (n : Int)] 3) = W at *
      generalize V'.heap.size = bk at *
      have HK := Lib.hid hbk
      have HLW := Lib.hid hli
      have HDW := Lib.hid hDs2
      have HP := Lib.hid (prow_chg HPr.out hli.chg HZ.out.2.1)
      have HQ := Lib.hid (prow_chg HQr.out hli.chg HZ.out.2.2.1)
      have hNW : w.heap.size ≤ W.heap.size := Nat.le_trans HZ.out.2.2.2.2.1 hli.chg.size
      clear hB hbk hli hDs2 HLi HDs
      refine wpIn_region_W (CE (lessN (q.acts n) (p.acts n)) W) 1 [.val (.int .i64 (n : Int)), .val (.pointer (some ⟨bq, 33, none⟩)), .val (.pointer (some ⟨bq, 33 + n, none⟩)), .val (.int .u16 ((q.acts n : Nat) : Int)), .val (.int .i64 (n : Int)), .val (.pointer (some ⟨bp, 33, none⟩)), .val (.pointer (some ⟨bp, 33 + n, none⟩)), .val (.int .u16 ((p.acts n : Nat) : Int)), .val (.int .u16 ((lessN (q.acts n) (p.acts n) : Nat) : Int)), .turn 0]
        (fun x => { tmps := #[.string ⟨(wd).toArray⟩, .agg (polC p), .agg (polC q), .pointer (some ⟨bw, 0, none⟩), .pointer (some ⟨bp, 0, none⟩), .pointer (some ⟨bq, 0, none⟩), .slice none 0 0, .pointer (some ⟨bl, 0, none⟩), .pointer (some ⟨bk, 0, none⟩), u9, .int .i64 (n : Int), .bool true, .int .i64 (n : Int), x 0, x 1, x 2, x 3, x 4, x 5, x 6, x 7, x 8, x 9, u23, u24, u25, u26, u27, u28, u29, u30, u31, u32, u33, u34, undef], defers := Ds.map markD }) (fun i => ([u13, u14, u15, u16, u17, u18, u19, u20, u21, u22] : List Value).getD i undef) (by kernel_rfl) rfl (by kernel_rfl) rfl (by kernel_rfl) (by kernel_rfl) (by kernel_rfl) (by kernel_rfl) ((Below.refl _ W).drew) ?_ ?_
      · refine ⟨ObW.of_val rfl (fun x v => rfl) (fun x V vs hW hC hD => ?_), ?_⟩
        · clear hD
          clear hW
          refine want_yes rfl ?_
          have k0 := (Blk.below HK.out (CE_com hC) HK.out.lt).cell 0
          exact leads_value (v := .int .i64 (n : Int)) (by go_simp) ⟨rfl, hC⟩
        refine ⟨ObW.of_val rfl (fun x v => rfl) (fun x V vs hW hC hD => ?_), ?_⟩
        · clear hD
          clear hW
          refine want_yes rfl ?_
          exact leads_value (v := .pointer (some ⟨bq, 33, none⟩)) (by go_simp) ⟨rfl, hC⟩
        refine ⟨ObW.of_val rfl (fun x v => rfl) (fun x V vs hW hC hD => ?_), ?_⟩
        · have e1 : x 1 = .pointer (some ⟨bq, 33, none⟩) := (hD.1 rfl).1
          have e0 : x 0 = .int .i64 (n : Int) := (hD.2.1 rfl).1
          clear hD
          clear hW
          refine want_yes rfl ?_
          exact leads_value (v := .pointer (some ⟨bq, 33 + n, none⟩)) (by go_simp) ⟨rfl, hC⟩
        refine ⟨ObW.of_val rfl (fun x v => rfl) (fun x V vs hW hC hD => ?_), ?_⟩
        · have e2 : x 2 = .pointer (some ⟨bq, 33 + n, none⟩) := (hD.1 rfl).1
          clear hD
          clear hW
          refine want_yes rfl ?_
          have k0 := (HQ.out.step (CE_com hC)).acts HN.out
          exact leads_value (v := .int .u16 ((q.acts n : Nat) : Int)) (by go_simp) ⟨rfl, hC⟩
        refine ⟨ObW.of_val rfl (fun x v => rfl) (fun x V vs hW hC hD => ?_), ?_⟩
        · clear hD
          clear hW
          refine want_yes rfl ?_
          have k0 := (Blk.below HK.out (CE_com hC) HK.out.lt).cell 0
          exact leads_value (v := .int .i64 (n : Int)) (by go_simp) ⟨rfl, hC⟩
        refine ⟨ObW.of_val rfl (fun x v => rfl) (fun x V vs hW hC hD => ?_), ?_⟩
        · clear hD
          clear hW
          refine want_yes rfl ?_
          exact leads_value (v := .pointer (some ⟨bp, 33, none⟩)) (by go_simp) ⟨rfl, hC⟩
        refine ⟨ObW.of_val rfl (fun x v => rfl) (fun x V vs hW hC hD => ?_), ?_⟩
        · have e5 : x 5 = .pointer (some ⟨bp, 33, none⟩) := (hD.1 rfl).1
          have e4 : x 4 = .int .i64 (n : Int) := (hD.2.1 rfl).1
          clear hD
          clear hW
          refine want_yes rfl ?_
          exact leads_value (v := .pointer (some ⟨bp, 33 + n, none⟩)) (by go_simp) ⟨rfl, hC⟩
        refine ⟨ObW.of_val rfl (fun x v => rfl) (fun x V vs hW hC hD => ?_), ?_⟩
        · have e6 : x 6 = .pointer (some ⟨bp, 33 + n, none⟩) := (hD.1 rfl).1
          clear hD
          clear hW
          refine want_yes rfl ?_
          have k0 := (HP.out.step (CE_com hC)).acts HN.out
          exact leads_value (v := .int .u16 ((p.acts n : Nat) : Int)) (by go_simp) ⟨rfl, hC⟩
        refine ⟨ObW.of_val rfl (fun x v => rfl) (fun x V vs hW hC hD => ?_), ?_⟩
        · have e3 : x 3 = .int .u16 ((q.acts n : Nat) : Int) := (hD.1 rfl).1
          have e7 : x 7 = .int .u16 ((p.acts n : Nat) : Int) := (hD.2.1 rfl).1
          clear hD
          have hlk : vs.length ≤ 0 := hW 0 9 rfl (by kernel_rfl)
          clear hW
          refine want_yes rfl ?_
          have hq0 := HAc.out.1
          have hp0 := HAc.out.2
          have hw := andNot_less hq0 hp0
          exact leads_value (v := .int .u16 (bits .andNot .u16 ((q.acts n : Nat) : Int) ((p.acts n : Nat) : Int))) (by go_simp) ⟨by rw [hw], hC⟩
        refine ⟨ObW.of_turn rfl (fun x v => rfl) (fun x V vs hl hC hD => ?_), ?_⟩
        · obtain rfl := len_zero hl
          have e8 : x 8 = .int .u16 ((lessN (q.acts n) (p.acts n) : Nat) : Int) := (hD.1 rfl).1
          clear hD
          refine want_yes rfl ?_
          exact leads_enter2 (by go_simp) ((callsIn_wide.1 (Each_in (lessN (q.acts n) (p.acts n)) 3 V)).mono fun e w'' ⟨he, hw⟩ => ⟨_, he, by rw [hw]; exact ⟨Below.trans hC ((belowNew V _).mono (Below.size hC)), _, rfl, Boxed.new V _ _, Below.size hC⟩⟩)
        trivial
      · intro xa W6 vs hlv hC hx
        obtain ⟨be, rfl, hbe, hbe2, hB6⟩ := CE_end hlv hC
        have e0 : xa 0 = .int .i64 (n : Int) := hx 0 (by simp)
        have e1 : xa 1 = .pointer (some ⟨bq, 33, none⟩) := hx 1 (by simp)
        have e2 : xa 2 = .pointer (some ⟨bq, 33 + n, none⟩) := hx 2 (by simp)
        have e3 : xa 3 = .int .u16 ((q.acts n : Nat) : Int) := hx 3 (by simp)
        have e4 : xa 4 = .int .i64 (n : Int) := hx 4 (by simp)
        have e5 : xa 5 = .pointer (some ⟨bp, 33, none⟩) := hx 5 (by simp)
        have e6 : xa 6 = .pointer (some ⟨bp, 33 + n, none⟩) := hx 6 (by simp)
        have e7 : xa 7 = .int .u16 ((p.acts n : Nat) : Int) := hx 7 (by simp)
        have e8 : xa 8 = .int .u16 ((lessN (q.acts n) (p.acts n) : Nat) : Int) := hx 8 (by simp)
        have e9 : xa 9 = .func (.func 56) #[] #[.pointer (some ⟨be, 0, none⟩)] := hx 9 (by simp)
        clear hx hC hlv
        rw [e0, e1, e2, e3, e4, e5, e6, e7, e8, e9]
        clear e0 e1 e2 e3 e4 e5 e6 e7 e8 e9
        have hs := lessN_lt (p.acts n) HAc.out.1
        have HL6 := Lib.hid (HLW.out.step hB6)
        have HK6 := Lib.hid (Blk.below HK.out hB6 HK.out.lt)
        have HD6 := Lib.hid (HDW.out.keep ((keeps_below hB6).from _))
        have hN6 : w.heap.size ≤ W6.heap.size := Nat.le_trans hNW hB6.size
        have hT6 := hT.below (HL6.out.below HB1.out HZ.out.1 (Nat.le_refl _))
        have hn1 := hbe.lt
        have h16 : w1.heap.size ≤ W6.heap.size := HL6.out.chg.size
        have HS := Lib.hid (show (List.range (n + 1)).flatMap (linkJ wd p q) = (List.range n).flatMap (linkJ wd p q) ++ (tagsN (lessN (q.acts n) (p.acts n))).flatMap fun m => [Lib.join [wd, dig n, dig m] [32]] from by rw [List.range_succ, List.flatMap_append, List.flatMap_cons, List.flatMap_nil, List.append_nil]; rfl)
        have hMl : ((List.range n).flatMap (linkJ wd p q)).length ≤ 256 := by
          have := flat_many (F := linkJ wd p q) (c := 16) (fun n => linkJ_len wd p q n) (List.range n)
          rw [List.length_range] at this
          have := HN.out
          omega
        generalize hM : (List.range n).flatMap (linkJ wd p q) = M at *
        clear HK HLW HDW hB6
        refine HGO2.out _ _ ?_
        gi_wp2
        refine wpIn_rangeFunc_ownG rfl (by decide) (gf := 56) (lb := #[.pointer (some ⟨be, 0, none⟩)]) rfl trivial (enters_of Tryz.func56 (by kernel_rfl) rfl)
          (Each_stops 2 (by decide) be w.heap.size (lessN (q.acts n) (p.acts n)) hs W6 hn1 hN6 hT.2 hbe.cell hT6.1) belowK_t (belowK_b hN6) (Below.refl _ _) (fun _ => rfl)
          (fun pre V => LkW w.heap.size bl bk n w1 W6 (M ++ (valsF pre).flatMap fun m => [Lib.join [wd, dig n, dig m] [32]]) V) (fun _ _ _ => False) (lk_own h16 (Nat.le_refl _) _) (fun _ _ _ _ _ hs _ _ => hs)
          ⟨by rw [show (valsF [] : List Nat) = [] from rfl, List.flatMap_nil, List.append_nil]; exact HL6.out, HK6.out, KeepsFrom.refl _ _⟩
          (fun x => { tmps := #[.string ⟨(wd).toArray⟩, .agg (polC p), .agg (polC q), .pointer (some ⟨bw, 0, none⟩), .pointer (some ⟨bp, 0, none⟩), .pointer (some ⟨bq, 0, none⟩), .slice none 0 0, .pointer (some ⟨bl, 0, none⟩), .pointer (some ⟨bk, 0, none⟩), .int .i64 (x.val : Int), .int .i64 (n : Int), .bool true, .int .i64 (n : Int), .int .i64 (n : Int), .pointer (some ⟨bq, 33, none⟩), .pointer (some ⟨bq, 33 + n, none⟩), .int .u16 ((q.acts n : Nat) : Int), .int .i64 (n : Int), .pointer (some ⟨bp, 33, none⟩), .pointer (some ⟨bp, 33 + n, none⟩), .int .u16 ((p.acts n : Nat) : Int), .int .u16 ((lessN (q.acts n) (p.acts n) : Nat) : Int), .func (.func 56) #[] #[.pointer (some ⟨be, 0, none⟩)], .int .i64 (x.val : Int), u24, u25, u26, u27, u28, u29, u30, u31, u32, u33, u34, undef], defers := [] }) ?assign ?body ?done ?stop
        case assign =>
          intro l x W3 K hK
          simp only [encT]
          gi_wp2
          exact hK
        case body =>
          rintro l pre tt W7 hI hlt2
          have HNj := Lib.hid tt.isLt
          have HJ := Lib.hid (join_len3 wd HN.out tt.isLt hwd)
          have HLs := Lib.hid (valsF_snoc pre tt)
          obtain ⟨⟨⟨v, hv, hrow⟩, hch⟩, hk7, hkeep⟩ := hI
          have hml : (M ++ (valsF pre).flatMap fun m => [Lib.join [wd, dig n, dig m] [32]]).length ≤ 1000 := by
            have := flat_many (F := fun m => [Lib.join [wd, dig n, dig m] [32]]) (c := 1) (fun _ => Nat.le_refl _) (valsF pre)
            rw [valsF_length] at this
            rw [List.length_append]
            omega
          generalize hm : (M ++ (valsF pre).flatMap fun m => [Lib.join [wd, dig n, dig m] [32]]) = m at *
          have HV := Lib.hid (And.intro hv (And.intro hrow (And.intro hch hml)))
          have HK7 := Lib.hid hk7
          have HBw := Lib.hid (hch.kept HWr.out HZ.out.2.2.2.1)
          have HM := Lib.hid hm
          have HKp := Lib.hid hkeep
          have hN7 : w.heap.size ≤ W7.heap.size := Nat.le_trans HZ.out.2.2.2.2.1 hch.size
          clear hv hrow hch hml hm hk7 hkeep
          generalize hj : tt.val = j at *
          gi_wp2
          refine wpIn_region_W (CW bl w1 v m [wd, dig n, dig j] W7) 5 [.val (v), .val (.string ⟨(wd).toArray⟩), .val (.int .i64 (n : Int)), .val (.string ⟨(dig n).toArray⟩), .val (.int .i64 (j : Int)), .val (.string ⟨(dig j).toArray⟩), .turn 0, .turn 1, .turn 2, .turn 3, .turn 4]
            (fun x => { tmps := #[.string ⟨(wd).toArray⟩, .agg (polC p), .agg (polC q), .pointer (some ⟨bw, 0, none⟩), .pointer (some ⟨bp, 0, none⟩), .pointer (some ⟨bq, 0, none⟩), .slice none 0 0, .pointer (some ⟨bl, 0, none⟩), .pointer (some ⟨bk, 0, none⟩), .int .i64 (j : Int), .int .i64 (n : Int), .bool true, .int .i64 (n : Int), .int .i64 (n : Int), .pointer (some ⟨bq, 33, none⟩), .pointer (some ⟨bq, 33 + n, none⟩), .int .u16 ((q.acts n : Nat) : Int), .int .i64 (n : Int), .pointer (some ⟨bp, 33, none⟩), .pointer (some ⟨bp, 33 + n, none⟩), .int .u16 ((p.acts n : Nat) : Int), .int .u16 ((lessN (q.acts n) (p.acts n) : Nat) : Int), .func (.func 56) #[] #[.pointer (some ⟨be, 0, none⟩)], .int .i64 (j : Int), x 0, x 1, x 2, x 3, x 4, x 5, x 6, x 7, x 8, x 9, u34, undef], defers := [] }) (fun i => ([u24, u25, u26, u27, u28, u29, u30, u31, u32, u33, undef] : List Value).getD i undef) (by kernel_rfl) rfl (by kernel_rfl) rfl (by kernel_rfl) (by kernel_rfl) (by kernel_rfl) (by kernel_rfl) ((Below.refl _ W7).drew) ?_ ?_
          · refine ⟨ObW.of_val rfl (fun x v => rfl) (fun x V vs hW hC hD => ?_), ?_⟩
            · clear hD
              have hlk : vs.length ≤ 3 := hW 3 9 rfl (by kernel_rfl)
              clear hW
              refine want_yes rfl ?_
              have hB0 := CW_below hlk hC
              have k0 := (boxed_step HV.out.1 hB0).cell
              exact leads_value (v := v) (by go_simp) ⟨rfl, hC⟩
            refine ⟨ObW.of_val rfl (fun x v => rfl) (fun x V vs hW hC hD => ?_), ?_⟩
            · clear hD
              have hlk : vs.length ≤ 0 := hW 0 6 rfl (by kernel_rfl)
              clear hW
              refine want_yes rfl ?_
              obtain rfl := CW_nil hlk
              have k0 := (Blk.below HBw.out hC HBw.out.lt).cell 0
              exact leads_value (v := .string ⟨(wd).toArray⟩) (by go_simp) ⟨rfl, hC⟩
            refine ⟨ObW.of_val rfl (fun x v => rfl) (fun x V vs hW hC hD => ?_), ?_⟩
            · clear hD
              have hlk : vs.length ≤ 4 := hW 4 10 rfl (by kernel_rfl)
              clear hW
              refine want_yes rfl ?_
              have k0 := (CW_int HV.out.2.1 HK7.out hlk hC).cell 0
              exact leads_value (v := .int .i64 (n : Int)) (by go_simp) ⟨rfl, hC⟩
            refine ⟨ObW.of_val rfl (fun x v => rfl) (fun x V vs hW hC hD => ?_), ?_⟩
            · have e2 : x 2 = .int .i64 (n : Int) := (hD.1 rfl).1
              clear hD
              have hlk : vs.length ≤ 0 := hW 0 6 rfl (by kernel_rfl)
              clear hW
              refine want_yes rfl ?_
              exact leads_enter2 (by go_simp) ((dpText_any n HN.out V).mono fun e w'' ⟨he, hw⟩ => ⟨_, he, rfl, hw ▸ hC⟩)
            refine ⟨ObW.of_val rfl (fun x v => rfl) (fun x V vs hW hC hD => ?_), ?_⟩
            · clear hD
              clear hW
              refine want_yes rfl ?_
              exact leads_value (v := .int .i64 (j : Int)) (by go_simp) ⟨rfl, hC⟩
            refine ⟨ObW.of_val rfl (fun x v => rfl) (fun x V vs hW hC hD => ?_), ?_⟩
            · have e4 : x 4 = .int .i64 (j : Int) := (hD.1 rfl).1
              clear hD
              have hlk : vs.length ≤ 0 := hW 0 6 rfl (by kernel_rfl)
              clear hW
              refine want_yes rfl ?_
              exact leads_enter2 (by go_simp) ((dpText_any j HNj.out V).mono fun e w'' ⟨he, hw⟩ => ⟨_, he, rfl, hw ▸ hC⟩)
            refine ⟨ObW.of_turn rfl (fun x v => rfl) (fun x V vs hl hC hD => ?_), ?_⟩
            · obtain rfl := len_zero hl
              have e1 : x 1 = .string ⟨(wd).toArray⟩ := (hD.1 rfl).1
              have e3 : x 3 = .string ⟨(dig n).toArray⟩ := (hD.2.1 rfl).1
              have e5 : x 5 = .string ⟨(dig j).toArray⟩ := (hD.2.2.1 rfl).1
              clear hD
              refine want_yes rfl ?_
              refine leads_value (v := .slice (some ⟨V.heap.size, 0, none⟩) 3 3) (w' := V.alloc (.cells #[.string ⟨(wd).toArray⟩, .string ⟨(dig n).toArray⟩, .string ⟨(dig j).toArray⟩] 9)) (by go_simp) ?_
              exact ⟨hC.trans ((belowNew V _).mono hC.size), strs_made V [wd, dig n, dig j] _ 3 rfl rfl (by decide)⟩
            refine ⟨ObW.of_turn rfl (fun x v => rfl) (fun x V vs hl hC hD => ?_), ?_⟩
            · obtain ⟨a0, rfl⟩ := len_one hl
              have e6 : x 6 = a0 := (hD.1 rfl).1
              clear hD
              refine want_yes rfl ?_
              exact leads_enter2 (by go_simp) ((dpLine_any _ _ V hC.2 (by simp) HJ.out (by simp)).mono fun e w'' ⟨he, hB⟩ => ⟨_, he, hC.1.trans (hB.mono hC.1.size), rfl⟩)
            refine ⟨ObW.of_turn rfl (fun x v => rfl) (fun x V vs hl hC hD => ?_), ?_⟩
            · obtain ⟨a0, a1, rfl⟩ := len_two hl
              have e7 : x 7 = a1 := (hD.1 rfl).1
              clear hD
              refine want_yes rfl ?_
              obtain ⟨hC1, rfl⟩ := hC
              refine leads_value (v := .slice (some ⟨V.heap.size, 0, none⟩) 1 1) (w' := V.alloc (.cells #[.string ⟨(Lib.join [wd, dig n, dig j] [32]).toArray⟩] 9)) (by go_simp) ?_
              exact ⟨hC1.trans ((belowNew V _).mono hC1.size), _, rfl, Blk.new V _ _⟩
            refine ⟨ObW.of_turn rfl (fun x v => rfl) (fun x V vs hl hC hD => ?_), ?_⟩
            · obtain ⟨a0, a1, a2, rfl⟩ := len_three hl
              have e0 : x 0 = v := (hD.1 rfl).1
              have e8 : x 8 = a2 := (hD.2.1 rfl).1
              clear hD
              refine want_yes rfl ?_
              obtain ⟨hC1, g, rfl, hg⟩ := hC
              refine leads_append_line (v := v) (m := m) (W := W7) (g := g) (l := Lib.join [wd, dig n, dig j] [32]) (.tmp 24) (.tmp 32) rfl ?_ ?_ HV.out.1 HV.out.2.1 HV.out.2.2.1 hC1 hg HV.out.2.2.2 (fun d V' h => h)
              · exact e0
              · exact e8
            refine ⟨ObW.of_turn rfl (fun x v => rfl) (fun x V vs hl hC hD => ?_), ?_⟩
            · obtain ⟨a0, a1, a2, a3, rfl⟩ := len_four hl
              have e9 : x 9 = a3 := (hD.1 rfl).1
              clear hD
              refine want_yes rfl ?_
              obtain ⟨p0, c0, rfl⟩ := owns_shape hC.row
              have kc := hC.box.cell
              have kf := hC.box.frozen
              exact leadsP_skip (w' := V.setCell ⟨bl, 0, none⟩ _) (by go_simp) (StW.of hC HV.out.1 HV.out.2.1 HV.out.2.2.1)
            trivial
          · intro xb V vs hlv hC hx
            have hS := CW_end hlv hC
            clear hx hC
            refine show _ ∧ _ ∧ _ from ⟨hS.keep.from _, hS.chg.below hN7 fun k e => ?_, ?_⟩
            · rcases e with e | e
              · exact e ▸ HZ.out.1
              · exact Nat.le_trans HZ.out.2.2.2.2.1 e
            · show LkW w.heap.size bl bk n w1 W6 (M ++ (valsF (pre ++ [tt])).flatMap fun m => [Lib.join [wd, dig n, dig m] [32]]) V
              refine ⟨?_, (hS.kept bk HK7.out.lt (by omega) (blk_not_row HK7.out ints_ne HV.out.2.1)).trans HK7.out, HKp.out.trans (hS.keep.from _)⟩
              rw [HLs.out, List.flatMap_append, ← List.append_assoc, HM.out]
              exact hS.li
        case done =>
          rintro D ys W8 hD hys hI hK
          rw [hys] at hI
          have HM2 := Lib.hid ((HD6.out.keep hI.keep).cons HD6.out (Nat.le_trans hN6 hD) hD hK)
          have HL8 := Lib.hid (show LnaW bl w1 ((List.range (n + 1)).flatMap (linkJ wd p q)) W8 by rw [HS.out]; exact hI.li)
          have hwk := HWK.out
          clear hI hK hys
          refine HGO3.out _ _ ?_
          clear HGO2 HGO HGO3 HWK
          gi_wp2
          refine show _ ∧ _ from ⟨⟨n + 1, D :: Ds, _, _, _, _, _, _, _, _, _, _, _, _, _, _, _, _, _, _, _, _, _, _, _, _, _, _, by omega, HM2.out, HL8.out, rfl⟩, ?_⟩
          simp [intOf]
          omega
        case stop =>
          rintro D c pre W _ _ h _
          exact h.elim
    · obtain rfl : n = 16 := by omega
      obtain ⟨v, hv, hrow⟩ := HLi.out.row
      have HB := Lib.hid (HLi.out.below HB1.out HZ.out.1 (Nat.le_refl _))
      have HR := Lib.hid (own_base hrow HZ.out.2.2.2.2.1)
      have hc := hv.cell
      gi_wp2
      refine HGO.out _ _ (wpIn_wide.2 ?_)
      clear HGO
      go_wp2_with fail
      refine leaves_marks (B := w.heap.size) (J := fun V => StrsRow V w.heap.size v ((List.range 16).flatMap (linkJ wd p q)) ∧ Below w.heap.size w V) ?_ ?_ Ds V' HDs.out ⟨HR.out, HB.out⟩
      · rintro _ X Y row ⟨h1, h2⟩ hg hr
        refine ⟨h1.kept hg ?_, h2.grown hg h2.size fun k e => (hr k e).1⟩
        rcases h1.2 with ⟨rfl, _⟩ | ⟨g, cap, cur, rfl, _, hgb, _⟩
        · exact .inl rfl
        · refine .inr fun e' => ?_
          obtain ⟨o, ho, hc⟩ := (hr g (by simpa [Value.ownBlock] using e'.symm)).2
          rw [hgb] at ho; cases ho; cases hc
      · rintro V ⟨h1, h2⟩
        exact ⟨_, results_tmp rfl _ _ _, v, rfl, h1, h2⟩
end Go.Proofs.YtmaachmidgfhdaaGreatDoor

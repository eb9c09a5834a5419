/-
  The document's changes: Map.
-/
import Derived.WalkMore
import Derived.Deep.LoopGhost
import Derived.Maps.AppendAt
import Derived.Test.YthpangacpihclaaDoorWChD
import Derived.Test.YthpangacpihclaaDoorW2
import Derived.Test.YthpangacpihclaaDoorW1
/-! ChQ -/
namespace Go.Proofs.YthpangacpihclaaDoor
open Go.RowKit

def mvC (L : List (Int × Int)) : List Value := L.flatMap fun q => [.int .i64 q.1, .int .i64 q.2]
theorem mvC_push (L : List (Int × Int)) (a b : Int) : mvC (L ++ [(a, b)]) = mvC L ++ [.int .i64 a, .int .i64 b] := by simp [mvC]
theorem mvC_get : ∀ (L : List (Int × Int)) (i : Nat) (h : i < L.length), (mvC L)[i * 2]? = some (.int .i64 L[i].1) ∧ (mvC L)[i * 2 + 1]? = some (.int .i64 L[i].2)
  | q :: L, 0, _ => ⟨rfl, rfl⟩
  | q :: L, i + 1, h => by
    have h' : i < L.length := by simpa using h
    obtain ⟨h1, h2⟩ := mvC_get L i h'
    have e : mvC (q :: L) = .int .i64 q.1 :: .int .i64 q.2 :: mvC L := rfl
    rw [e, show (i + 1) * 2 = i * 2 + 1 + 1 by omega]
    simp only [List.getElem?_cons_succ, List.getElem_cons_succ]
    exact ⟨h1, h2⟩
theorem moves_take {l : List Cg} {k : Nat} (h : k < l.length) : movesL (l.take (k + 1)) = if l[k].kind = 6 then movesL (l.take k) ++ [(l[k].a, l[k].b)] else movesL (l.take k) := by
  rw [List.take_succ_eq_append_getElem h]
  unfold movesL
  rw [List.filter_append, List.map_append]
  by_cases h6 : l[k].kind = 6
  · rw [if_pos h6]; simp only [List.filter, h6]; rfl
  · rw [if_neg h6]
    have e : (l[k].kind == 6) = false := by simpa using h6
    simp only [List.filter, e, List.map_nil, List.append_nil]
theorem moves_len (l : List Cg) : (movesL l).length ≤ l.length := by
  unfold movesL; rw [List.length_map]; exact List.length_filter_le _ _
theorem own2_below {B : Nat} {w w' : World} {base e n s : Nat} {v : Value} {xs : List Value} (h : w.ownsRow base e s v n xs) (hB : Below B w w') (hs : w.heap.size ≤ B) : w'.ownsRow base e s v n xs := by
  refine ⟨h.1, h.2.elim .inl fun ⟨g, cap, cur, hv, hb, hg, r⟩ => .inr ⟨g, cap, cur, hv, hb, ?_, r⟩⟩
  rw [hB.block g (Nat.lt_of_lt_of_le (lt_of_block hg) hs)]; exact hg
/-- What is owned is read as pairs. -/
theorem PairsAt.ofRow {w : World} {base e : Nat} {v : Value} {L : List (Int × Int)} (h : w.ownsRow base e 2 v L.length (mvC L)) (hl : L.length ≤ 41) : PairsAt w v L := by
  obtain ⟨-, ⟨rfl, h0⟩ | ⟨g, cap, cur, rfl, hb, hg, hc, hm, hs, ht⟩⟩ := h
  · have e0 : L = [] := List.eq_nil_of_length_eq_zero h0
    subst e0
    exact ⟨none, 0, rfl, by decide, by decide, fun h => absurd rfl h⟩
  · refine ⟨_, cap, rfl, by omega, hc, fun _ => ⟨g, 0, rfl, lt_of_block hg, fun i hi => ?_⟩⟩
    have hcell : ∀ k, w.cell? ⟨g, k, none⟩ = cur[k]? := fun k => Blk.cell (w := w) (t := e) hg k
    have hk : ∀ k u, (mvC L)[k]? = some u → cur[k]? = some u := fun k u hu => by
      rw [← ht, List.getElem?_take] at hu
      split at hu
      · rw [← hu, Array.getElem?_toList]
      · cases hu
    obtain ⟨h1, h2⟩ := mvC_get L i hi
    rw [Nat.zero_add]
    exact ⟨by rw [hcell]; exact hk _ _ h1, by rw [hcell]; exact hk _ _ h2⟩
theorem infoPr : (Tryd.prog.info? 85).map (fun i => (i.zero, i.size, i.bytes)) = some (some (.agg #[.int .i64 0, .int .i64 0]), 2, 16) := by kernel_rfl
theorem two_new (w : World) (x y : Value) (t : TypeId) : ∀ j u, [x, y][j]? = some u → (w.alloc (.cells #[x, y] t)).cell? ((⟨w.heap.size, 0, none⟩ : Addr).add j) = some u := by
  intro j u hj
  have hadd : (⟨w.heap.size, 0, none⟩ : Addr).add j = ⟨w.heap.size, j, none⟩ := by unfold Addr.add; split <;> simp_all
  rw [hadd, Blk.cell (Blk.new w #[x, y] t) j]
  simpa using hj
/-- Between rounds: the place for the answer, and the moves so far. -/
structure MpW (w : World) (v : Value) (L : List (Int × Int)) (V : World) : Prop where
  below : Below w.heap.size w V
  res : Row V w.heap.size (fun _ => 0)
  own : V.ownsRow (w.heap.size + 1) 85 2 v L.length (mvC L)
theorem MpW.step {w : World} {v : Value} {L : List (Int × Int)} {V V' : World} (h : MpW w v L V) (hB : Below V.heap.size V V') : MpW w v L V' :=
  ⟨h.below.trans (hB.mono h.below.size), h.res.below hB h.res.lt, own2_below h.own hB (Nat.le_refl _)⟩
theorem leads_append_own {P : Program} {o : Oper} {a : Act} {w : World} {R : Value → World → Prop} (s x : Operand) (t : TypeId)
    (ho : o.op = .call { callee := .builtin .append, args := #[s, x], argTypes := #[t, t] })
    (base : Nat) (e : TypeId) (i : TypeInfo) (z : Value) (size bytes : Nat) (ht : P.underlying t = some (.slice e)) (hi : P.info? e = some i) (hz : i.zero = some z)
    (hsize : i.size = size) (hby : i.bytes = bytes) (hzs : z.cells.size = size) (hsz : 0 < size)
    (v : Value) (n : Nat) (xs : List Value) (hs : a.eval s = v) (hown : w.ownsRow base e size v n xs)
    (ad : Addr) (m c : Nat) (news : List Value) (hx : a.eval x = .slice (some ad) m c) (hl : news.length = m * size) (hnews : ∀ j u, news[j]? = some u → w.cell? (ad.add j) = some u) (h1 : ∀ u ∈ news, u.oneCell' = true)
    (h63 : n + m ≤ maxLen) (hbytes : (n + m) * bytes ≤ 140737488355328) (hbase : base ≤ w.heap.size)
    (h : ∀ v' w', w'.ownsRow base e size v' (n + m) (xs ++ news) → w.grownBy w' v.ownBlock → R v' w') : leads P o a w R := by
  obtain ⟨v', w', hr, h2, h3, -, -⟩ := run_append_own_at (P := P) w base t o.type e i z size bytes ht hi hz hsize hby hzs hsz v n xs hown ad m c news hl hnews h1 h63 hbytes hbase
  refine leads_value (v := v') (w' := w') ?_ (h v' w' h2 h3)
  unfold execOp
  simp only [ho, resolve, invoke, builtin, Sem.run_bind, Sem.run_pure, Result.andThen_ok, List.map_toArray, List.map_cons, List.map_nil, hs, hx, hr]
/-- Behind the literal, and behind the append. -/
def C6b (w : World) (v : Value) (L : List (Int × Int)) (a b : Int) (a0 : Value) (V : World) : Prop := MpW w v L V ∧ ∃ g, a0 = .slice (some ⟨g, 0, none⟩) 1 1 ∧ Blk V g #[.int .i64 a, .int .i64 b] 85
def C6 (w : World) (v : Value) (L : List (Int × Int)) (a b : Int) : List Value → World → Prop
  | [], V => MpW w v L V
  | [a0], V => C6b w v L a b a0 V
  | [_, a1], V => MpW w a1 (L ++ [(a, b)]) V
  | _, _ => False
theorem C6_com {w : World} {v : Value} {L : List (Int × Int)} {a b : Int} : ∀ (vs : List Value) (V : World), C6 w v L a b vs V → Below w.heap.size w V
  | [], _, h => h.below
  | [_], _, h => h.1.below
  | [_, _], _, h => MpW.below h
  | _ :: _ :: _ :: _, _, h => h.elim
theorem C6_end {w : World} {v : Value} {L : List (Int × Int)} {a b : Int} {vs : List Value} {V : World} (hn : vs.length = 2) (h : C6 w v L a b vs V) : MpW w (vs.getD 1 undef) (L ++ [(a, b)]) V := by
  obtain ⟨a0, a1, rfl⟩ := len_two hn
  exact h
theorem two_at {w : World} {g : Nat} {x y : Value} {t : TypeId} (h : Blk w g #[x, y] t) : ∀ j u, [x, y][j]? = some u → w.cell? ((⟨g, 0, none⟩ : Addr).add j) = some u := by
  intro j u hj
  have hadd : (⟨g, 0, none⟩ : Addr).add j = ⟨g, j, none⟩ := by unfold Addr.add; split <;> simp_all
  rw [hadd, Blk.cell h j]
  simpa using hj
theorem MpW.push {w : World} {v v' : Value} {L : List (Int × Int)} {a b : Int} {V V' : World} (h : MpW w v L V) (hr : V'.ownsRow (w.heap.size + 1) 85 2 v' (L.length + 1) (mvC L ++ [.int .i64 a, .int .i64 b])) (hg : V.grownBy V' v.ownBlock) : MpW w v' (L ++ [(a, b)]) V' := by
  have hlo := fun b (hb : v.ownBlock = some b) => (h.own.lt b hb).1
  exact ⟨h.below.grown hg h.below.size (fun b hb => by have := hlo b hb; omega), (Chg.ofGrown hg).kept (vs := mapC fun _ => 0) h.res (fun e => by have := hlo _ e; omega), by rw [List.length_append, mvC_push]; exact hr⟩
set_option maxRecDepth 100000 in
set_option maxHeartbeats 3200000 in
theorem rcMap_any : RMapC := by
  intro v l w h h41
  obtain ⟨pt, cap, rfl, hm, hc⟩ := h
  obtain ⟨i0, hi, hx⟩ := Option.map_eq_some_iff.1 infoPr
  simp only [Prod.mk.injEq] at hx
  obtain ⟨hz0, hz1, hz2⟩ := hx
  have HI := Lib.hid (And.intro hi (And.intro hz0 (And.intro hz1 hz2)))
  have HC := Lib.hid hc
  have HR0 := Lib.hid (show MpW w (.slice none 0 0) [] (w.alloc (.cells (mapC fun _ => 0) 43)) from ⟨belowNew w _, Row.zero w, rfl, .inl ⟨rfl, rfl⟩⟩)
  clear hc hi hz0 hz1 hz2
  go_enter Tryd.func18, Tryd.ntmps18
  go_wp2_with fail
  go_loopw [3, 4] (fun s3 i wr => ∃ k : Nat, k ≤ l.length ∧ i = .int .i64 (k : Int) ∧ MpW w s3 (movesL (l.take k)) wr) (fun _ i _ => l.length - (intOf i).toNat)
  case atStart => exact ⟨0, by omega, rfl, HR0.out⟩
  case round =>
    obtain ⟨k, hk, rfl, hgg⟩ := hrel
    have HG := Lib.hid hgg
    clear hgg HR0
    by_cases hlt : k < l.length
    · obtain ⟨g, off, rfl, hg, hcs⟩ := HC.out (by intro e; rw [e] at hlt; simp at hlt)
      have hcc := (hcs k hlt).2
      have HN := Lib.hid (moves_take hlt)
      generalize l[k] = c at *
      have HC0 := Lib.hid (fun V (hV : Below w.heap.size w V) => (hV.cell (p := ⟨g, off + k * 5, none⟩) hg).trans (show _ = some (.int .i64 c.kind) from hcc 0 _ rfl))
      have HC1 := Lib.hid (fun V (hV : Below w.heap.size w V) => (hV.cell (p := ⟨g, off + k * 5 + 1, none⟩) hg).trans (show _ = some (.int .i64 c.a) from hcc 1 _ rfl))
      have HC2 := Lib.hid (fun V (hV : Below w.heap.size w V) => (hV.cell (p := ⟨g, off + k * 5 + 2, none⟩) hg).trans (show _ = some (.int .i64 c.b) from hcc 2 _ rfl))
      have dk : decide ((k : Int) < (l.length : Int)) = true := by simp; omega
      have hlt' : (k : Int) < (l.length : Int) := by omega
      have k0 := HC0.out _ HG.out.below
      clear hcs hcc
      have HLn := Lib.hid (show (movesL (l.take k)).length ≤ 41 from Nat.le_trans (moves_len _) (by rw [List.length_take]; omega))
      generalize movesL (l.take k) = L at *
      by_cases h6 : c.kind = 6
      · have HN2 := Lib.hid (show movesL (l.take (k + 1)) = L ++ [(c.a, c.b)] by rw [HN.out, if_pos h6])
        have d6 : (c.kind == 6) = true := by simpa using h6
        clear h6 HN
        go_upto_region 6 with fail
        refine wp_region_LI (C6 w u3 L c.a c.b) 2 [.val (u3), .val (.slice (some ⟨g, off, none⟩) l.length cap), .val (.int .i64 (k : Int)), .val (.pointer (some ⟨g, off + k * 5, none⟩)), .val (.pointer (some ⟨g, off + k * 5 + 1, none⟩)), .val (.int .i64 c.a), .val (.slice (some ⟨g, off, none⟩) l.length cap), .val (.int .i64 (k : Int)), .val (.pointer (some ⟨g, off + k * 5, none⟩)), .val (.pointer (some ⟨g, off + k * 5 + 2, none⟩)), .val (.int .i64 c.b), .val (.agg #[.int .i64 c.a, .int .i64 c.b]), .turn 0, .turn 1, .same 1]
          (fun x => { tmps := #[.slice (some ⟨g, off, none⟩) l.length cap, undef, .pointer (some ⟨w.heap.size, 0, none⟩), x 14, .int .i64 (k : Int), .int .i64 (k : Int), .slice (some ⟨g, off, none⟩) l.length cap, .int .i64 (l.length : Int), .bool true, u9, u10, .slice (some ⟨g, off, none⟩) l.length cap, .int .i64 (k : Int), .pointer (some ⟨g, off + k * 5, none⟩), .pointer (some ⟨g, off + k * 5, none⟩), .int .i64 c.kind, .bool true, x 0, x 1, x 2, x 3, x 4, x 5, x 6, x 7, x 8, x 9, x 10, x 11, x 12, x 13, undef, undef], defers := [] }) (fun i => ([u17, u18, u19, u20, u21, u22, u23, u24, u25, u26, u27, u28, u29, u30, u3] : List Value).getD i undef) (by kernel_rfl) rfl rfl (by kernel_rfl) (by kernel_rfl) (by kernel_rfl) (by kernel_rfl) (HG.out.step (Below.refl _ _).drew) ?_ ?_
        · refine ⟨ObLI.of_val rfl (fun x v => rfl) (fun x V vs hC hI hD => ?_), ?_⟩
          · have f14 : x 14 = u3 := hI 14 (by kernel_rfl)
            clear hD hI
            refine want_yes rfl ?_
            exact leads_value (v := u3) (by go_simp) ⟨rfl, hC⟩
          refine ⟨ObLI.of_val rfl (fun x v => rfl) (fun x V vs hC hI hD => ?_), ?_⟩
          · clear hD hI
            refine want_yes rfl ?_
            exact leads_value (v := .slice (some ⟨g, off, none⟩) l.length cap) (by go_simp) ⟨rfl, hC⟩
          refine ⟨ObLI.of_val rfl (fun x v => rfl) (fun x V vs hC hI hD => ?_), ?_⟩
          · clear hD hI
            refine want_yes rfl ?_
            exact leads_value (v := .int .i64 (k : Int)) (by go_simp) ⟨rfl, hC⟩
          refine ⟨ObLI.of_val rfl (fun x v => rfl) (fun x V vs hC hI hD => ?_), ?_⟩
          · have e1 : x 1 = .slice (some ⟨g, off, none⟩) l.length cap := (hD.1 rfl).1
            have e2 : x 2 = .int .i64 (k : Int) := (hD.2.1 rfl).1
            clear hD hI
            refine want_yes rfl ?_
            have q := hlt'
            exact leads_value (v := .pointer (some ⟨g, off + k * 5, none⟩)) (by go_simp) ⟨rfl, hC⟩
          refine ⟨ObLI.of_val rfl (fun x v => rfl) (fun x V vs hC hI hD => ?_), ?_⟩
          · have e3 : x 3 = .pointer (some ⟨g, off + k * 5, none⟩) := (hD.1 rfl).1
            clear hD hI
            refine want_yes rfl ?_
            exact leads_value (v := .pointer (some ⟨g, off + k * 5 + 1, none⟩)) (by go_simp) ⟨rfl, hC⟩
          refine ⟨ObLI.of_val rfl (fun x v => rfl) (fun x V vs hC hI hD => ?_), ?_⟩
          · have e4 : x 4 = .pointer (some ⟨g, off + k * 5 + 1, none⟩) := (hD.1 rfl).1
            clear hD hI
            refine want_yes rfl ?_
            have q := HC1.out V (C6_com vs V hC)
            exact leads_value (v := .int .i64 c.a) (by go_simp) ⟨rfl, hC⟩
          refine ⟨ObLI.of_val rfl (fun x v => rfl) (fun x V vs hC hI hD => ?_), ?_⟩
          · clear hD hI
            refine want_yes rfl ?_
            exact leads_value (v := .slice (some ⟨g, off, none⟩) l.length cap) (by go_simp) ⟨rfl, hC⟩
          refine ⟨ObLI.of_val rfl (fun x v => rfl) (fun x V vs hC hI hD => ?_), ?_⟩
          · clear hD hI
            refine want_yes rfl ?_
            exact leads_value (v := .int .i64 (k : Int)) (by go_simp) ⟨rfl, hC⟩
          refine ⟨ObLI.of_val rfl (fun x v => rfl) (fun x V vs hC hI hD => ?_), ?_⟩
          · have e6 : x 6 = .slice (some ⟨g, off, none⟩) l.length cap := (hD.1 rfl).1
            have e7 : x 7 = .int .i64 (k : Int) := (hD.2.1 rfl).1
            clear hD hI
            refine want_yes rfl ?_
            have q := hlt'
            exact leads_value (v := .pointer (some ⟨g, off + k * 5, none⟩)) (by go_simp) ⟨rfl, hC⟩
          refine ⟨ObLI.of_val rfl (fun x v => rfl) (fun x V vs hC hI hD => ?_), ?_⟩
          · have e8 : x 8 = .pointer (some ⟨g, off + k * 5, none⟩) := (hD.1 rfl).1
            clear hD hI
            refine want_yes rfl ?_
            exact leads_value (v := .pointer (some ⟨g, off + k * 5 + 2, none⟩)) (by go_simp) ⟨rfl, hC⟩
          refine ⟨ObLI.of_val rfl (fun x v => rfl) (fun x V vs hC hI hD => ?_), ?_⟩
          · have e9 : x 9 = .pointer (some ⟨g, off + k * 5 + 2, none⟩) := (hD.1 rfl).1
            clear hD hI
            refine want_yes rfl ?_
            have q := HC2.out V (C6_com vs V hC)
            exact leads_value (v := .int .i64 c.b) (by go_simp) ⟨rfl, hC⟩
          refine ⟨ObLI.of_val rfl (fun x v => rfl) (fun x V vs hC hI hD => ?_), ?_⟩
          · have e5 : x 5 = .int .i64 c.a := (hD.1 rfl).1
            have e10 : x 10 = .int .i64 c.b := (hD.2.1 rfl).1
            clear hD hI
            refine want_yes rfl ?_
            exact leads_value (v := .agg #[.int .i64 c.a, .int .i64 c.b]) (by go_simp) ⟨rfl, hC⟩
          refine ⟨ObLI.of_turn rfl (fun x v => rfl) (fun x V vs hl hC hI hD => ?_), ?_⟩
          · obtain rfl := len_zero hl
            have e11 : x 11 = .agg #[.int .i64 c.a, .int .i64 c.b] := (hD.1 rfl).1
            clear hD hI
            refine want_yes rfl ?_
            have hM : MpW w u3 L V := hC
            have hk := Blk.new V #[.int .i64 c.a, .int .i64 c.b] 85
            exact leads_value (v := .slice (some ⟨V.heap.size, 0, none⟩) 1 1) (w' := V.alloc (.cells #[.int .i64 c.a, .int .i64 c.b] 85)) (by go_simp) ⟨hM.step (belowNew V _), _, rfl, hk⟩
          refine ⟨ObLI.of_turn rfl (fun x v => rfl) (fun x V vs hl hC hI hD => ?_), ?_⟩
          · obtain ⟨a0, rfl⟩ := len_one hl
            have e0 : x 0 = u3 := (hD.1 rfl).1
            have e12 : x 12 = a0 := (hD.2.1 rfl).1
            clear hD hI
            refine want_yes rfl ?_
            obtain ⟨hM, g2, rfl, hbk⟩ := (show C6b w u3 L c.a c.b a0 V from hC)
            have h41' := HLn.out
            exact leads_append_own _ _ 84 rfl (w.heap.size + 1) 85 i0 _ 2 16 Tryd.underlying84 HI.out.1 HI.out.2.1 HI.out.2.2.1 HI.out.2.2.2 rfl (by decide) u3 L.length (mvC L) e0 hM.own ⟨g2, 0, none⟩ 1 1 [.int .i64 c.a, .int .i64 c.b] e12 rfl (two_at hbk) (by simp [Value.oneCell']) (by unfold maxLen; omega) (by omega) hM.res.lt (fun v' w' h1 h2 => hM.push h1 h2)
          refine ⟨ObLI.of_same rfl (fun x v => rfl) (fun x V vs hC hI hD => ?_), ?_⟩
          · have e13 : x 13 = vs.getD 1 undef := (hD.1 rfl).1
            have n13 : 1 < vs.length := (hD.1 rfl).2
            clear hD hI
            refine want_yes rfl ?_
            generalize hy : vs.getD 1 undef = y at *
            exact leads_value (v := y) (by go_simp) ⟨rfl, n13, hC⟩
          trivial
        · intro xa V vs hlv hC hx
          have HM3 := Lib.hid (C6_end hlv hC)
          have e14 : xa 14 = vs.getD 1 undef := hx 14 (by simp)
          clear hx hC
          rw [e14]
          clear e14 hlv
          generalize vs.getD 1 undef = v' at *
          go_wp2_with fail
          go_roundw
          case rel => exact ⟨k + 1, by omega, by go_num, by rw [HN2.out]; exact HM3.out⟩
          case measure => simp [intOf]; omega
      · have HN2 := Lib.hid (show movesL (l.take (k + 1)) = L by rw [HN.out, if_neg h6])
        have d6 : (c.kind == 6) = false := by simpa using h6
        clear h6 HN
        go_wp2_with fail
        go_roundw
        case rel => exact ⟨k + 1, by omega, by go_num, by rw [HN2.out]; exact HG.out⟩
        case measure => simp [intOf]; omega
    · have dk : decide ((k : Int) < (l.length : Int)) = false := by simp; omega
      have HK := Lib.hid (show l.take k = l from List.take_of_length_le (by omega))
      rw [HK.out] at HG
      have HP := Lib.hid (PairsAt.ofRow HG.out.own (Nat.le_trans (moves_len l) h41))
      have HM := Lib.hid (rrMade_any u3 (movesL l) (Nat.le_trans (moves_len l) h41) wr HP.out)
      have hr1 := HG.out.res
      go_wp2_with fail
      refine HM.out.mono ?_
      rintro e w2 ⟨rfl, hB2⟩
      have HG2 := Lib.hid (HG.out.step hB2)
      have hr1 := HG2.out.res
      clear hB2 HG HP HM
      go_wp2_with (refine wpList_store_map rfl rfl _ _ rfl rfl rfl hr1 ?_; intro w3 hw3)
      exact bodyPost_ret (v := .agg (mapC (madeF idF (movesL l)))) (results_map rfl rfl hw3.row) rfl ⟨rfl, HG2.out.below.trans (hw3.below _ (Nat.le_refl _))⟩
end Go.Proofs.YthpangacpihclaaDoor

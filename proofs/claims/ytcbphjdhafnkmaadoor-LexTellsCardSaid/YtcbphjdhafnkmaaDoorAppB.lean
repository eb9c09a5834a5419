/-
  Appending bytes to a slice that a call owns: what becomes of it, and that its block is the old one or a new one.
-/
import Derived.Test.YtcbphjdhafnkmaaDoorBlk
import Derived.Test.YtcbphjdhafnkmaaDoorWirM
import Derived.OwnWalk
import Derived.Laws.AppendOwnNone
namespace Go.Proofs.YtcbphjdhafnkmaaDoor
open Go.RowKit

/-- The block that v' owns is v's or new. -/
def OwnNew (w : World) (v v' : Value) : Prop := ∀ k, v'.ownBlock = some k → v.ownBlock = some k ∨ w.heap.size ≤ k
theorem OwnNew.refl (w : World) (v : Value) : OwnNew w v v := fun _ h => .inl h

theorem own_slice {w : World} {base e size n : Nat} {v : Value} {xs : List Value} (h : w.ownsRow base e size v n xs) : ∃ p m c, v = .slice p m c := by
  rcases h.2 with ⟨rfl, -⟩ | ⟨g, cap, cur, rfl, -⟩
  · exact ⟨_, _, _, rfl⟩
  · exact ⟨_, _, _, rfl⟩

section
variable {P : Program} {w : World}

theorem run_append_bytes (base : Nat) (t ty e : TypeId) (ht : P.underlying t = some (.slice e)) (hi : (P.info? e).map (fun i => (i.zero, i.size, i.bytes)) = some (some (.int .u8 0), 1, 1))
    (v : Value) (l m : List UInt8) (hown : w.ownsRow base e 1 v l.length (bvs l)) {p : Option Addr} {len cap : Nat} (hb : BsAt w p len cap m) (hsm : l.length + m.length ≤ 140737488355328) (hbase : base ≤ w.heap.size) :
    ∃ v' w', (Builtin.append_ #[t, t] ty #[v, .slice p len cap]).run P w = .ok v' w' ∧ w'.ownsRow base e 1 v' (l ++ m).length (bvs (l ++ m)) ∧ w.grownBy w' v.ownBlock ∧ OwnNew w v v' := by
  obtain ⟨i, hi', hz0, hz1, hz2⟩ := info_parts hi
  have hlen := hb.same
  subst hlen
  cases p with
  | none =>
    have hc : cap = 0 := by
      rcases hb.place with ⟨-, hc⟩ | ⟨-, hne⟩ | ⟨g, off, h1, -⟩
      · exact hc
      · exact absurd rfl hne
      · cases h1
    have h0 := hb.le
    have hm : m = [] := List.eq_nil_of_length_eq_zero (by omega)
    subst hm
    subst hc
    refine ⟨v, w, run_append_owned_none (P := P) (w := w) base t ty e i 1 ht hi' v _ _ hown, by simpa using hown, ⟨rfl, rfl, rfl, Nat.le_refl _, fun _ _ _ => rfl⟩, OwnNew.refl _ _⟩
  | some a =>
    have hnews := hb.news
    have hml : (bvs m).length = m.length * 1 := by rw [bvs_length, Nat.mul_one]
    have h63 : l.length + m.length ≤ maxLen := by simp only [maxLen]; omega
    obtain ⟨v', w', hr, h2, h3, h4⟩ := run_append_own (P := P) w base t ty e i (.int .u8 0) 1 1 ht hi' hz0 hz1 hz2 rfl (by decide) v _ _ hown a m.length cap (bvs m) hml hnews (bvs_one m) h63 (by omega) hbase
    refine ⟨v', w', hr, by rw [bvs_append, List.length_append]; exact h2, h3, ?_⟩
    rcases hown.2 with ⟨rfl, hn⟩ | ⟨r, rc, cur, rfl, hbg, hgr, hnc, hcm, hcs, htake⟩
    · by_cases hm0 : m.length = 0
      · have := h4.2 ⟨rfl, hm0⟩
        subst this
        exact OwnNew.refl _ _
      · have hr2 := run_append_nil (P := P) w t ty e i (.int .u8 0) ht hi' hz0 a m.length cap (bvs m) (by rw [hz1]; exact hml) hnews (by omega) (by omega) (by rw [hz2]; omega)
        rw [hr] at hr2
        cases hr2
        intro k hk
        right
        simp [Value.ownBlock] at hk
        omega
    · by_cases hroom : l.length + m.length ≤ rc
      · obtain ⟨w2, hr2, -, -⟩ := run_append_fits (P := P) w base t ty e i 1 ht hi' hz1 r l.length rc (bvs l) hown a m.length cap (bvs m) hml hnews (bvs_one m) hroom
        rw [hr] at hr2
        cases hr2
        intro k hk
        left
        exact hk
      · have holds : ∀ j u, (bvs l)[j]? = some u → w.cell? ((⟨r, 0, none⟩ : Addr).add j) = some u := hown.cells (g := r) rfl
        have hr2 := run_append_grow (P := P) w t ty e i (.int .u8 0) ht hi' hz0 ⟨r, 0, none⟩ l.length rc (bvs l) (by rw [hz1, bvs_length, Nat.mul_one]) holds a m.length cap (bvs m) (by rw [hz1]; exact hml) hnews (by omega) (by omega) (by rw [hz2]; exact growslice_fits (by omega) (by omega))
        rw [hr] at hr2
        cases hr2
        intro k hk
        right
        simp [Value.ownBlock] at hk
        omega

theorem strCells_bvs (s : ByteArray) : Lib.strCells s = bvs s.data.toList := by simp [Lib.strCells, bvs]

theorem run_append_text (base : Nat) (t u ty e : TypeId) (ht : P.underlying t = some (.slice e)) (hu : P.underlying u = some .string) (hi : (P.info? e).map (fun i => (i.zero, i.size, i.bytes)) = some (some (.int .u8 0), 1, 1))
    (v : Value) (l : List UInt8) (s : ByteArray) (hown : w.ownsRow base e 1 v l.length (bvs l)) (hsm : l.length + s.size ≤ 140737488355328) (hbase : base ≤ w.heap.size) :
    ∃ v' w', (Builtin.append_ #[t, u] ty #[v, .string s]).run P w = .ok v' w' ∧ w'.ownsRow base e 1 v' (l ++ s.data.toList).length (bvs (l ++ s.data.toList)) ∧ w.grownBy w' v.ownBlock ∧ OwnNew w v v' := by
  obtain ⟨i, hi', hz0, hz1, hz2⟩ := info_parts hi
  have h63 : l.length + s.size ≤ maxLen := by simp only [maxLen]; omega
  obtain ⟨v', w', hr, h2, h3, h4⟩ := Lib.run_append_own_string (P := P) (w := w) base t u ty e i ht hu hi' hz0 hz1 hz2 v _ _ hown s h63 hsm hbase
  refine ⟨v', w', hr, by rw [bvs_append, List.length_append, ← strCells_bvs]; exact h2, h3, ?_⟩
  rcases hown.2 with ⟨rfl, hn⟩ | ⟨r, rc, cur, rfl, hbg, hgr, hnc, hcm, hcs, htake⟩
  · by_cases hm0 : s.size = 0
    · have := h4.2 ⟨rfl, hm0⟩
      subst this
      exact OwnNew.refl _ _
    · have hr2 := run_append_nil_string (P := P) w t u ty e i (.int .u8 0) ht hu hi' hz0 s (by omega) (by omega) (by rw [hz2]; omega)
      rw [hr] at hr2
      cases hr2
      intro k hk
      right
      simp [Value.ownBlock] at hk
      omega
  · by_cases hroom : l.length + s.size ≤ rc
    · have hr2 := Lib.run_append_room_string (P := P) w t u ty e i ht hu hi' hz1 r l.length rc cur hgr s hroom (by omega)
      rw [hr] at hr2
      cases hr2
      intro k hk
      left
      exact hk
    · have holds : ∀ j u, (bvs l)[j]? = some u → w.cell? ((⟨r, 0, none⟩ : Addr).add j) = some u := hown.cells (g := r) rfl
      have hr2 := Lib.run_append_grow_string (P := P) w t u ty e i (.int .u8 0) ht hu hi' hz0 ⟨r, 0, none⟩ l.length rc (bvs l) (by rw [hz1, bvs_length, Nat.mul_one]) holds s (by omega) (by omega) (by rw [hz2]; exact growslice_fits (by omega) (by omega))
      rw [hr] at hr2
      cases hr2
      intro k hk
      right
      simp [Value.ownBlock] at hk
      omega

theorem wpList_append_bytes {ops : Array Oper} {rest : List Oper} {o : Oper} {a : Act} {Q : Exit → Act → World → Prop} (hgd : o.guard = none) (s x : Operand) (t : TypeId)
    (ho : o.op = .call { callee := .builtin .append, args := #[s, x], argTypes := #[t, t] })
    (base e : Nat) (ht : P.underlying t = some (.slice e)) (hi : (P.info? e).map (fun i => (i.zero, i.size, i.bytes)) = some (some (.int .u8 0), 1, 1))
    {v : Value} {l m : List UInt8} (hs : a.eval s = v) (hown : w.ownsRow base e 1 v l.length (bvs l)) {p : Option Addr} {len cap : Nat} (hx : a.eval x = .slice p len cap) (hb : BsAt w p len cap m) (hsm : l.length + m.length ≤ 140737488355328) (hbase : base ≤ w.heap.size)
    (h : ∀ p' n' c' w', w'.ownsRow base e 1 (.slice p' n' c') (l ++ m).length (bvs (l ++ m)) → w.grownBy w' v.ownBlock → OwnNew w v (.slice p' n' c') → wpList P ops Q rest (a.put o.dst (.slice p' n' c')) w') : wpList P ops Q (o :: rest) a w := by
  refine wpList_plain hgd fun K hK => ?_
  obtain ⟨v', w', hr, h2, h3, h4⟩ := run_append_bytes (P := P) (w := w) base t o.type e ht hi v l m hown hb hsm hbase
  obtain ⟨p', n', c', rfl⟩ := own_slice h2
  unfold Oper.wp execOp
  simp only [ho, resolve, invoke, builtin, Sem.run_bind, Sem.run_pure, Result.andThen_ok, List.map_toArray, List.map_cons, List.map_nil, hs, hx, hr]
  exact hK _ _ (h p' n' c' w' h2 h3 h4)
theorem wpList_append_text {ops : Array Oper} {rest : List Oper} {o : Oper} {a : Act} {Q : Exit → Act → World → Prop} (hgd : o.guard = none) (s x : Operand) (t u : TypeId)
    (ho : o.op = .call { callee := .builtin .append, args := #[s, x], argTypes := #[t, u] })
    (base e : Nat) (ht : P.underlying t = some (.slice e)) (hu : P.underlying u = some .string) (hi : (P.info? e).map (fun i => (i.zero, i.size, i.bytes)) = some (some (.int .u8 0), 1, 1))
    {v : Value} {l : List UInt8} {r : ByteArray} (hs : a.eval s = v) (hown : w.ownsRow base e 1 v l.length (bvs l)) (hx : a.eval x = .string r) (hsm : l.length + r.size ≤ 140737488355328) (hbase : base ≤ w.heap.size)
    (h : ∀ p' n' c' w', w'.ownsRow base e 1 (.slice p' n' c') (l ++ r.data.toList).length (bvs (l ++ r.data.toList)) → w.grownBy w' v.ownBlock → OwnNew w v (.slice p' n' c') → wpList P ops Q rest (a.put o.dst (.slice p' n' c')) w') : wpList P ops Q (o :: rest) a w := by
  refine wpList_plain hgd fun K hK => ?_
  obtain ⟨v', w', hr, h2, h3, h4⟩ := run_append_text (P := P) (w := w) base t u o.type e ht hu hi v l r hown hsm hbase
  obtain ⟨p', n', c', rfl⟩ := own_slice h2
  unfold Oper.wp execOp
  simp only [ho, resolve, invoke, builtin, Sem.run_bind, Sem.run_pure, Result.andThen_ok, List.map_toArray, List.map_cons, List.map_nil, hs, hx, hr]
  exact hK _ _ (h p' n' c' w' h2 h3 h4)

end

/-- A Writer's block, or the document's: its bytes, which the call owns, and its error. -/
structure WAt (e B : Nat) (w : World) (b : Nat) (t : TypeId) (v : Value) (s : List UInt8 × Int) : Prop where
  blk : Blk w b #[v, .int .i64 s.2] t
  row : w.ownsRow B e 1 v s.1.length (bvs s.1)
  apart : v.ownBlock ≠ some b
/-- What lies in b or is owned by v. -/
def foot (b : Nat) (v : Value) : Nat → Prop := fun k => k = b ∨ v.ownBlock = some k
/-- From w to w' the Writer at b came to hold s. -/
structure WTo (e B : Nat) (w : World) (b : Nat) (t : TypeId) (v : Value) (s : List UInt8 × Int) (v' : Value) (w' : World) : Prop where
  now : WAt e B w' b t v' s
  chg : Chg (foot b v) w w'
  own : OwnNew w v v'
theorem WTo.refl {e B : Nat} {w : World} {b : Nat} {t : TypeId} {v : Value} {s : List UInt8 × Int} (h : WAt e B w b t v s) : WTo e B w b t v s v w := ⟨h, Chg.refl _ _, OwnNew.refl _ _⟩
theorem WTo.trans {e B : Nat} {w w' w'' : World} {b : Nat} {t : TypeId} {v v' v'' : Value} {s s' : List UInt8 × Int} (h : WTo e B w b t v s v' w') (k : WTo e B w' b t v' s' v'' w'') : WTo e B w b t v s' v'' w'' :=
  ⟨k.now, h.chg.then k.chg fun i hi hf => by
    rcases hf with hf | hf
    · exact .inl hf
    · rcases h.own i hf with h1 | h1
      · exact .inr h1
      · omega, fun i hi => by
    rcases k.own i hi with h1 | h1
    · exact h.own i h1
    · right; have := h.chg.size; omega⟩
theorem WTo.drew {e B : Nat} {w w' : World} {b : Nat} {t : TypeId} {v v' : Value} {s : List UInt8 × Int} (h : WTo e B w b t v s v' w') : WTo e B w b t v s v' w'.drew := ⟨⟨h.now.blk, h.now.row, h.now.apart⟩, h.chg.drew, h.own⟩
/-- What else has changed but the Writer's does not matter to it. -/
theorem WAt.kept {S : Nat → Prop} {e B : Nat} {w w' : World} {b : Nat} {t : TypeId} {v : Value} {s : List UInt8 × Int} (h : WAt e B w b t v s) (hc : Chg S w w') (hb : ¬ S b) (hv : ∀ k, v.ownBlock = some k → ¬ S k) : WAt e B w' b t v s := by
  refine ⟨hc.kept h.blk hb, ?_, h.apart⟩
  obtain ⟨h1, h2⟩ := h.row
  refine ⟨h1, ?_⟩
  rcases h2 with h2 | ⟨g, cap, cur, rfl, hg, hgg, rest⟩
  · exact .inl h2
  · refine .inr ⟨g, cap, cur, rfl, hg, ?_, rest⟩
    rw [hc.block g (Array.getElem?_eq_some_iff.1 hgg).1 (hv g rfl)]; exact hgg
theorem WAt.below {B' e B : Nat} {w w' : World} {b : Nat} {t : TypeId} {v : Value} {s : List UInt8 × Int} (h : WAt e B w b t v s) (hB : Below B' w w') (hs : w.heap.size ≤ B') : WAt e B w' b t v s :=
  h.kept (S := fun _ => False) ⟨hB.os, hB.tape, hB.output, hB.size, fun k hk _ => hB.block k (by omega)⟩ (fun h => h) (fun _ _ h => h)
/-- The Writer's own blocks are not older than B. -/
theorem WAt.lt {e B : Nat} {w : World} {b : Nat} {t : TypeId} {v : Value} {s : List UInt8 × Int} (h : WAt e B w b t v s) {k : Nat} (hk : v.ownBlock = some k) : B ≤ k ∧ k < w.heap.size := h.row.lt k hk
theorem WTo.below {e B : Nat} {w w' : World} {b : Nat} {t : TypeId} {v v' : Value} {s0 s : List UInt8 × Int} (h : WTo e B w b t v s v' w') (h0 : WAt e B w b t v s0) (hB : B ≤ w.heap.size) (hb : B ≤ b) : Below B w w' :=
  h.chg.below hB fun k hk => by
    rcases hk with rfl | hk
    · exact hb
    · exact (h0.lt hk).1
theorem WTo.after {e B : Nat} {w w1 w' : World} {b : Nat} {t : TypeId} {v v' : Value} {s : List UInt8 × Int} (hB : Below w.heap.size w w1) (h : WTo e B w1 b t v s v' w') : WTo e B w b t v s v' w' :=
  ⟨h.now, (Chg.ofBelow hB).then h.chg (fun _ _ h => h), fun k hk => (h.own k hk).imp (fun x => x) fun x => Nat.le_trans hB.size x⟩
def failV (v : Value) (e e' : Int) : Value := if e = 0 ∧ e' ≠ 0 then .slice none 0 0 else v
def failE (e e' : Int) : Int := if e = 0 ∧ e' ≠ 0 then e' else e
theorem WAt.fail {e B : Nat} {w w' : World} {b : Nat} {t : TypeId} {v : Value} {s : List UInt8 × Int} {c : Int} (h : WAt e B w b t v s) (hp : Put w w' b #[failV v s.2 c, .int .i64 (failE s.2 c)] t) : WTo e B w b t v (failS s c) (failV v s.2 c) w' := by
  have hch : Chg (foot b v) w w' := hp.chg.mono fun i _ h => .inl h
  have hkept : WAt e B w b t v s → w'.ownsRow B e 1 v s.1.length (bvs s.1) := fun h => by
    obtain ⟨h1, h2⟩ := h.row
    refine ⟨h1, ?_⟩
    rcases h2 with h2 | ⟨g, cap, cur, rfl, hg, hgg, rest⟩
    · exact .inl h2
    · refine .inr ⟨g, cap, cur, rfl, hg, ?_, rest⟩
      rw [hp.chg.block g (Array.getElem?_eq_some_iff.1 hgg).1 (fun e => h.apart (by rw [Value.ownBlock, e]))]; exact hgg
  have hb := hp.blk
  unfold failS failV failE at *
  by_cases hc : s.2 = 0 ∧ c ≠ 0
  · simp only [if_pos hc] at *
    exact ⟨⟨hb, World.ownsRow_nil _ _ _ _, fun e => by cases e⟩, hch, fun k hk => by cases hk⟩
  · simp only [if_neg hc] at *
    exact ⟨⟨hb, hkept h, h.apart⟩, hch, OwnNew.refl _ _⟩
/-- A new block's end, read as bytes. -/
theorem bsAt_new (w : World) (cs : Array Value) (t : TypeId) (off : Nat) (l : List UInt8) (hl : l.length ≤ maxLen) (h : ∀ i, (hi : i < l.length) → cs[off + i]? = some (.int .u8 (l[i].toNat : Int))) : BsAt (w.alloc (.cells cs t)) (some ⟨w.heap.size, off, none⟩) l.length l.length l :=
  ⟨rfl, Nat.le_refl _, hl, .inr (.inr ⟨w.heap.size, off, rfl, by simp, fun i hi => by rw [(Blk.new w cs t).cell]; exact h i hi⟩)⟩
theorem BsAt.drew {w : World} {p : Option Addr} {len cap : Nat} {l : List UInt8} (h : BsAt w p len cap l) : BsAt w.drew p len cap l := h.kept (Nat.le_refl _) fun _ _ _ => rfl
theorem BsAt.below {B : Nat} {w w' : World} {p : Option Addr} {len cap : Nat} {l : List UInt8} (h : BsAt w p len cap l) (hB : Below B w w') (hs : w.heap.size ≤ B) : BsAt w' p len cap l :=
  h.chg (S := fun _ => False) ⟨hB.os, hB.tape, hB.output, hB.size, fun k hk _ => hB.block k (by omega)⟩ (fun _ _ h => h)

theorem text_below (w : World) (e : TypeId) (s : ByteArray) : Below w.heap.size w (Lib.bytesWorld w e s) :=
  ⟨rfl, rfl, rfl, by rw [Lib.bytesWorld_size]; omega, fun k hk => Lib.bytesWorld_at_old w e s k hk⟩
theorem text_bs (w : World) (e : TypeId) (s : ByteArray) (hs : s.size ≤ maxLen) : BsAt (Lib.bytesWorld w e s) (some ⟨w.heap.size, 0, none⟩) s.size (grownCap w s.size 0 e) s.data.toList :=
  ⟨by simp, grownCap_ge w s.size 0 e, grownCap_le_maxLen w s.size 0 e hs, .inr (.inr ⟨w.heap.size, 0, rfl, by rw [Lib.bytesWorld_size]; omega, fun i hi => by
    rw [Nat.zero_add, Lib.bytesWorld_cell w e s i (by simpa using hi)]
    rw [List.getD_eq_getElem?_getD, List.getElem?_eq_getElem hi]; rfl⟩)⟩
theorem WNowE.trans {e B : Nat} {w w1 w2 w' : World} {b : Nat} {t : TypeId} {v v1 v2 : Value} {s s1 : List UInt8 × Int} (h : WTo e B w b t v s v1 w1) (hB : Below w1.heap.size w1 w2) (k : WTo e B w2 b t v1 s1 v2 w') : WTo e B w b t v s1 v2 w' := h.trans (k.after hB)

/-- The blocks of two Writers have nothing in common. -/
def Apart (b : Nat) (v : Value) (c : Nat) (u : Value) : Prop := b ≠ c ∧ u.ownBlock ≠ some b ∧ v.ownBlock ≠ some c ∧ ∀ k, v.ownBlock = some k → u.ownBlock ≠ some k
theorem Apart.symm {b c : Nat} {v u : Value} (h : Apart b v c u) : Apart c u b v := ⟨fun e => h.1 e.symm, h.2.2.1, h.2.1, fun k h1 h2 => h.2.2.2 k h2 h1⟩
/-- While one is written the other stays, and they stay apart. -/
theorem WTo.other {e B e2 B2 : Nat} {w w' : World} {b c : Nat} {t t2 : TypeId} {v v' u : Value} {s r : List UInt8 × Int} (h : WTo e B w b t v s v' w') (k : WAt e2 B2 w c t2 u r) (ha : Apart b v c u) : WAt e2 B2 w' c t2 u r ∧ Apart b v' c u := by
  obtain ⟨h1, h2, h3, h4⟩ := ha
  refine ⟨k.kept h.chg (fun hf => ?_) (fun i hi hf => ?_), h1, h2, fun hi => ?_, fun i hi hu => ?_⟩
  · rcases hf with hf | hf
    · exact h1 hf.symm
    · exact h3 hf
  · rcases hf with hf | hf
    · exact h2 (hf ▸ hi)
    · exact h4 i hf hi
  · rcases h.own c hi with h5 | h5
    · exact h3 h5
    · have := k.blk.lt; omega
  · rcases h.own i hi with h5 | h5
    · exact h4 i h5 hu
    · have := (k.row.lt i hu).2; omega

end Go.Proofs.YtcbphjdhafnkmaaDoor

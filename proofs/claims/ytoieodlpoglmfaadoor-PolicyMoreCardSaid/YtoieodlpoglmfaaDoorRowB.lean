/-
  Arrays of bytes in the middle of a block of bytes (a slice of arrays, an array of one's own): loads, stores and copies of whole ones.
-/
import Derived.Test.YtoieodlpoglmfaaDoorArr
import Derived.Test.YtoieodlpoglmfaaDoorDskM
import Derived.Laws.CopyOwn
namespace Go.Proofs.YtoieodlpoglmfaaDoor
open Go.RowKit

/-- Bytes as a block's cells. -/
def bvA (l : List UInt8) : Array Value := (bvs l).toArray
theorem bvA_size (l : List UInt8) : (bvA l).size = l.length := by simp [bvA, bvs_length]
theorem bvA_get (l : List UInt8) (k : Nat) (h : k < l.length) : (bvA l)[k]? = some (.int .u8 (l[k].toNat : Int)) := by
  unfold bvA; rw [List.getElem?_toArray]; exact bvs_get l k h
theorem bvA_set (l : List UInt8) (k : Nat) (x : UInt8) : (bvA l).setIfInBounds k (.int .u8 (x.toNat : Int)) = bvA (l.set k x) := by
  unfold bvA
  apply Array.ext'
  simp [bvs, List.map_set]
theorem bvs_put_row (all l : List UInt8) (o : Nat) : (bvA all).toList.take o ++ bvs l ++ (bvA all).toList.drop (o + (bvs l).length) = bvs (putL all o l) := by
  simp [bvA, bvs, putL]
theorem Blk.bs {w : World} {g off n cap : Nat} {all : List UInt8} {t : TypeId} (h : Blk w g (bvA all) t) (hn : off + n ≤ all.length) (hc : n ≤ cap) (hm : cap ≤ maxLen) : BsAt w (some ⟨g, off, none⟩) n cap ((all.drop off).take n) :=
  ⟨by rw [List.length_take, List.length_drop]; omega, hc, hm, .inr (.inr ⟨g, off, rfl, h.lt, fun i hi => by
    rw [List.length_take, List.length_drop] at hi
    rw [h.cell, bvA_get _ _ (by omega)]
    simp⟩)⟩
section
variable {P : Program} {w : World}
theorem run_load_part {g off n : Nat} {all : List UInt8} {t ty e : TypeId} (h : Blk w g (bvA all) t) (hn : off + n ≤ all.length) (hu : P.underlying ty = some (.array n e)) (hi : (P.info? ty).map (·.size) = some n) :
    (loadVar ty ⟨g, off, none⟩).run P w = .ok (.agg (bvA ((all.drop off).take n))) w := by
  have hlen : (bvs ((all.drop off).take n)).length = n := by rw [bvs_length, List.length_take, List.length_drop]; omega
  have hl : (loadCells ⟨g, off, none⟩ (bvs ((all.drop off).take n)).length).run P w = .ok (bvs ((all.drop off).take n)).toArray w :=
    run_loadCells_list (P := P) w ⟨g, off, none⟩ _ (fun j v hv => by
      have hj : j < ((all.drop off).take n).length := by
        have := (List.getElem?_eq_some_iff.1 hv).1
        rwa [bvs_length] at this
      have hadd : (⟨g, off, none⟩ : Addr).add j = ⟨g, off + j, none⟩ := by unfold Addr.add; split <;> simp_all
      rw [bvs_get _ j hj] at hv
      cases hv
      rw [List.length_take, List.length_drop] at hj
      rw [hadd, h.cell, bvA_get _ _ (by omega)]
      simp)
  rw [hlen] at hl
  cases hq : P.info? ty with
  | none => simp [hq] at hi
  | some i =>
    have hs : i.size = n := by simpa [hq] using hi
    have hagg : (isAgg ty).run P w = .ok true w := by
      unfold isAgg
      rw [Sem.run_bind, run_underlying hu w]
      rfl
    simp [loadVar, Sem.run_bind, hagg, sizeOf, typeInfo, hq, hs, hl, bvA]
theorem wpList_load_part {ops : Array Oper} {rest : List Oper} {o : Oper} {a : Act} {Q : Exit → Act → World → Prop} (hgd : o.guard = none) (ty : TypeId) (x : Operand) (ho : o.op = .load ty x)
    {g off n : Nat} {all : List UInt8} {t e : TypeId} (hx : a.eval x = .pointer (some ⟨g, off, none⟩)) (h : Blk w g (bvA all) t) (hn : off + n ≤ all.length) (hu : P.underlying ty = some (.array n e)) (hi : (P.info? ty).map (·.size) = some n)
    (hK : wpList P ops Q rest (a.put o.dst (.agg (bvA ((all.drop off).take n)))) w) : wpList P ops Q (o :: rest) a w :=
  wpList_plain hgd fun K hK' => by
    unfold Oper.wp execOp
    simp only [ho, hx, Instr.loadAt, Instr.sureAddr, Sem.run_bind, Sem.run_pure, Result.andThen_ok, run_load_part (P := P) h hn hu hi]
    exact hK' _ _ hK
theorem put_row {g off : Nat} {all l : List UInt8} {t : TypeId} (h : Blk w g (bvA all) t) : Put w (w.setRow g (bvs (putL all off l)).toArray) g (bvA (putL all off l)) t :=
  ⟨⟨rfl, rfl, rfl, by simp, fun k _ hk => setRow_other w g k _ hk⟩, setRow_heap w g _ _ _ _ h⟩
theorem run_store_part {g off n : Nat} {all l : List UInt8} {t ty : TypeId} (h : Blk w g (bvA all) t) (hl : l.length = n) (hn : off + n ≤ all.length) (hi : (P.info? ty).map (·.size) = some n) :
    (storeVar ty ⟨g, off, none⟩ (.agg (bvA l))).run P w = .ok () (w.setRow g (bvs (putL all off l)).toArray) := by
  have hst := run_storeCells_at P g off t (bvs l) 0 (bvA all) w h (by rw [bvs_length, bvA_size]; omega) (bvs_one l)
  rw [Nat.add_zero, bvs_put_row] at hst
  cases hq : P.info? ty with
  | none => simp [hq] at hi
  | some i =>
    have hs : i.size = n := by simpa [hq] using hi
    simp only [storeVar, sizeOf, typeInfo, Sem.run_bind, Sem.run_pure]
    simp [hst, bvA, Value.cells, bvs_length, hl, hs, hq]
theorem wpList_store_part {ops : Array Oper} {rest : List Oper} {o : Oper} {a : Act} {Q : Exit → Act → World → Prop} (hgd : o.guard = none) (hd : o.dst = none) (ty : TypeId) (x y : Operand) (ho : o.op = .store ty x y)
    {g off n : Nat} {all l : List UInt8} {t : TypeId} (hx : a.eval x = .pointer (some ⟨g, off, none⟩)) (hy : a.eval y = .agg (bvA l)) (h : Blk w g (bvA all) t) (hl : l.length = n) (hn : off + n ≤ all.length) (hi : (P.info? ty).map (·.size) = some n)
    (hK : ∀ w', Put w w' g (bvA (putL all off l)) t → wpList P ops Q rest a w') : wpList P ops Q (o :: rest) a w :=
  wpList_plain hgd fun K hK' => by
    unfold Oper.wp execOp
    simp only [ho, hx, hy, Instr.storeAt, Instr.sureAddr, Sem.run_bind, Sem.run_pure, Result.andThen_ok, run_store_part (P := P) h hl hn hi]
    have e : a.put o.dst undef = a := by rw [hd]; rfl
    exact hK' _ _ (by rw [e]; exact hK _ (put_row h))
/-- copy(dst, src) into the middle of a block, as many bytes as there is room or there are. -/
theorem wpList_copy_part {ops : Array Oper} {rest : List Oper} {o : Oper} {a : Act} {Q : Exit → Act → World → Prop} (hgd : o.guard = none) (d s : Operand) (dT sT : TypeId)
    (ho : o.op = .call { callee := .builtin .copy, args := #[d, s], argTypes := #[dT, sT] }) (elem : TypeId) (hu : P.underlying dT = some (.slice elem)) (hsz : (P.info? elem).map (·.size) = some 1)
    {g off dLen dCap sLen sCap : Nat} {sp : Option Addr} {all l : List UInt8} {t : TypeId} (hd : a.eval d = .slice (some ⟨g, off, none⟩) dLen dCap) (hs : a.eval s = .slice sp sLen sCap) (h : Blk w g (bvA all) t) (hb : BsAt w sp sLen sCap l) (hfit : off + dLen ≤ all.length)
    (hK : ∀ w', Put w w' g (bvA (putL all off (l.take dLen))) t → wpList P ops Q rest (a.put o.dst (goInt (l.take dLen).length)) w') : wpList P ops Q (o :: rest) a w := by
  have hlen := hb.same
  by_cases h0 : Nat.min sLen dLen = 0
  · have hnil : l.take dLen = [] := by
      apply List.eq_nil_of_length_eq_zero
      rw [List.length_take, ← hlen, Nat.min_comm]; exact h0
    refine wpList_copy_nothing hgd d s dT sT ho elem hu hsz _ sp dLen dCap sLen sCap hd hs h0 ?_
    have he : putL all off [] = all := by simp [putL]
    have h1 := hK w (by rw [hnil, he]; exact Put.refl h)
    rw [hnil] at h1
    exact h1
  · have hlen2 : (bvs (l.take dLen)).length = Nat.min sLen dLen := by rw [bvs_length, List.length_take, ← hlen, Nat.min_comm]
    obtain ⟨ad, rfl⟩ : ∃ ad, sp = some ad := by
      cases sp with
      | some ad => exact ⟨ad, rfl⟩
      | none =>
        exfalso
        rcases hb.place with ⟨-, hc⟩ | ⟨-, hne⟩ | ⟨g', o', h1, -⟩
        · have h2 := hb.le
          have h3 : sLen = 0 := by omega
          rw [h3] at h0
          exact h0 (Nat.zero_min _)
        · exact hne rfl
        · cases h1
    have hmin : Nat.min sLen dLen ≤ dLen := Nat.min_le_right _ _
    refine wpList_copy_own hgd d s dT sT ho elem hu hsz g off dLen dCap ad sLen sCap hd hs (bvA all) t h (bvs (l.take dLen)) hlen2 (fun j u hu2 => ?_) (by rw [hlen2, bvA_size]; omega) (bvs_one _) ?_
    · refine hb.news j u ?_
      have hj : j < (l.take dLen).length := by
        have := (List.getElem?_eq_some_iff.1 hu2).1
        rwa [bvs_length] at this
      rw [bvs_get _ j hj] at hu2
      rw [List.length_take] at hj
      rw [bvs_get l j (by omega), ← hu2]
      simp
    · have e := bvs_put_row all (l.take dLen) off
      rw [List.append_assoc] at e
      have hn : (bvs (l.take dLen)).length = (l.take dLen).length := bvs_length _
      rw [e]
      rw [hn]
      exact hK _ (put_row h)
end
end Go.Proofs.YtoieodlpoglmfaaDoor

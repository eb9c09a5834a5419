/-
  The law CrcSums, from the program's contracts: sums of any parts are the document's.
-/
import Derived.Test.YtbmcajhknohhdaaCrcC
import Derived.Test.YtbmcajhknohhdaaStage
import Derived.Test.YtbmcajhknohhdaaWirN
namespace Go.Proofs.Ytbmcajhknohhdaa
open Go.RowKit

theorem crcSum_nil : crcSum [] = 0 := by decide
theorem infoState : (Try.prog.info? 108).map (·.size) = some 1 := by kernel_rfl
/-- What is known in a round: the state's block, and all bytes so far. -/
structure SumsIn (w : World) (b : Nat) (x : Nat) (v : Value) (S : List UInt8) (V : World) : Prop where
  below : Below w.heap.size w V
  blk : Blk V b #[.int .u32 (x : Int)] 108
  row : V.ownsRow w.heap.size 5 1 v S.length (bvs S)
  apart : v.ownBlock ≠ some b
theorem row_chg {S : Nat → Prop} {w w' : World} {base e n : Nat} {v : Value} {xs : List Value} (h : w.ownsRow base e 1 v n xs) (hc : Chg S w w') (hv : ∀ k, v.ownBlock = some k → ¬ S k) : w'.ownsRow base e 1 v n xs := by
  obtain ⟨h1, h2⟩ := h
  refine ⟨h1, ?_⟩
  rcases h2 with h2 | ⟨g, cap, cur, rfl, hg, hgg, rest⟩
  · exact .inl h2
  · refine .inr ⟨g, cap, cur, rfl, hg, ?_, rest⟩
    rw [hc.block g (Array.getElem?_eq_some_iff.1 hgg).1 (hv g rfl)]; exact hgg
theorem SumsIn.step {w : World} {b x : Nat} {v : Value} {S : List UInt8} {V V' : World} (h : SumsIn w b x v S V) (hB : Below V.heap.size V V') : SumsIn w b x v S V' :=
  ⟨h.below.trans (hB.mono h.below.size), (hB.block b h.blk.lt).trans h.blk, row_chg h.row (Chg.ofBelow (S := fun _ => False) hB) (fun _ _ h => h), h.apart⟩
theorem SumsIn.put {w : World} {b x y : Nat} {v : Value} {S : List UInt8} {V V' : World} (h : SumsIn w b x v S V) (hb : w.heap.size ≤ b) (hp : PutB V V' b (.cells #[.int .u32 (y : Int)] 108 (0, 0))) : SumsIn w b y v S V' :=
  ⟨h.below.trans (hp.below hb), hp.new, row_chg (S := fun k => k = b) h.row ⟨hp.os, hp.tape, hp.output, by rw [hp.size]; exact Nat.le_refl _, fun k _ hn => hp.other k hn⟩ (fun k hk e => h.apart (e ▸ hk)), h.apart⟩
/-- A store of a whole struct: no value, and the block holds it. -/
theorem leads_store_un {P : Program} {o : Oper} {a : Act} {w : World} {x y : Operand} {ty : TypeId} {b : Nat} {old new : Array Value} (ho : o.op = .store ty x y) (hx : a.eval x = .pointer (some ⟨b, 0, none⟩)) (hy : a.eval y = .agg new) (h : w.heap[b]? = some (.cells old ty (0, 0)))
    (hi : (P.info? ty).map (·.size) = some new.size) (hs : old.size = new.size) (h1 : new.all (·.oneCell') = true) : leads P o a w (fun u V' => u = undef ∧ PutB w V' b (.cells new ty (0, 0))) := by
  unfold leads execOp
  simp only [ho, hx, hy, Instr.storeAt, Instr.sureAddr, Sem.run_bind, Sem.run_pure, Result.andThen_ok, run_storeVar_row w b _ ty old new h hi hs h1]
  exact ⟨trivial, rfl, rfl, rfl, setRow_heap w b _ _ _ _ h, by simp, fun k hk => setRow_other w b k _ hk⟩
theorem leads_mono {P : Program} {o : Oper} {a : Act} {w : World} {R R' : Value → World → Prop} (h : leads P o a w R) (hR : ∀ v w', R v w' → R' v w') : leads P o a w R' := by
  unfold leads at *
  generalize (execOp a.eval o).run P w = r at *
  cases r with
  | ok n w' =>
    cases n <;> simp only at h ⊢ <;> first | exact hR _ _ h | exact h.mono (fun e w'' he => by obtain ⟨v, h1, h2⟩ := he; exact ⟨v, h1, hR _ _ h2⟩) | exact h.elim
  | halt x w' => exact h
theorem turn_id {α : Type} (a : α) : ∀ k, turnSt a a a k = a
  | 0 => rfl
  | 1 => rfl
  | _ + 2 => rfl
theorem flat_take {ls : List (List UInt8)} {k : Nat} (h : k < ls.length) : (ls.take (k + 1)).flatten = (ls.take k).flatten ++ ls[k] := by
  rw [List.take_succ_eq_append_getElem h, List.flatten_append]; simp
theorem flat_le (ls : List (List UInt8)) (k : Nat) (hk : k ≤ 30) (h : ∀ l ∈ ls.take k, l.length ≤ 300) : (ls.take k).flatten.length ≤ 9000 := by
  have h1 : ∀ (m : List (List UInt8)), (∀ l ∈ m, l.length ≤ 300) → m.flatten.length ≤ 300 * m.length := by
    intro m
    induction m with
    | nil => intro _; simp
    | cons a m ih =>
      intro hm
      have h2 := ih fun l hl => hm l (List.mem_cons_of_mem _ hl)
      have h3 := hm a List.mem_cons_self
      simp only [List.flatten_cons, List.length_append, List.length_cons]
      omega
  have h2 := h1 _ h
  have h3 : (ls.take k).length ≤ k := List.length_take_le _ _
  omega
theorem all_take {ls : List (List UInt8)} {k : Nat} (h : k < ls.length) (h1 : ∀ l ∈ ls.take k, l.length ≤ 300) (h2 : ls[k].length ≤ 300) : ∀ l ∈ ls.take (k + 1), l.length ≤ 300 := by
  intro l hl
  rw [List.take_succ_eq_append_getElem h] at hl
  rcases List.mem_append.1 hl with h3 | h3
  · exact h1 l h3
  · rw [List.mem_singleton.1 h3]; exact h2

end Go.Proofs.Ytbmcajhknohhdaa

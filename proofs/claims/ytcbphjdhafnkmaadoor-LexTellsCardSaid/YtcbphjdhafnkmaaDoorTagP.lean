/-
  strings.Cut at a comma, and the tag of a word.
-/
import Derived.Test.YtcbphjdhafnkmaaDoorTagA
import Derived.Test.YtcbphjdhafnkmaaDoorTexts
import Derived.Test.YtcbphjdhafnkmaaDoorShelf
import Derived.Lib.IndexBytes
import Derived.Lib.AtoiErrMem
namespace Go.Proofs.YtcbphjdhafnkmaaDoor
open Go.RowKit

/-- A string of these bytes. -/
def strB (l : List UInt8) : ByteArray := ⟨l.toArray⟩
theorem strB_list (l : List UInt8) : (strB l).data.toList = l := rfl
theorem strB_size (l : List UInt8) : (strB l).size = l.length := by simp [strB, ByteArray.size]
theorem strB_of {s : ByteArray} {l : List UInt8} (h : s.data.toList = l) : s = strB l := by
  obtain ⟨⟨x⟩⟩ := s; simp only at h; rw [h]; rfl
theorem str_eq {s : ByteArray} : s = strB s.data.toList := strB_of rfl

theorem indexByte_none {c : UInt8} : ∀ {l : List UInt8}, c ∉ l → Lib.indexByte l c = -1
  | [], _ => rfl
  | b :: l, h => by
    have h1 : ¬ b = c := fun e => h (by rw [e]; simp)
    have h2 : c ∉ l := fun e => h (List.mem_cons_of_mem _ e)
    unfold Lib.indexByte
    rw [indexByte_none h2]
    simp [h1]
theorem indexByte_some {c : UInt8} (b : List UInt8) : ∀ {a : List UInt8}, c ∉ a → Lib.indexByte (a ++ c :: b) c = a.length
  | [], _ => by simp [Lib.indexByte]
  | x :: a, h => by
    have h1 : ¬ x = c := fun e => h (by rw [e]; simp)
    have h2 : c ∉ a := fun e => h (List.mem_cons_of_mem _ e)
    rw [List.cons_append, Lib.indexByte, indexByte_some b h2]
    have : ¬ ((a.length : Int) = -1) := by omega
    simp [h1, this]

def Seen (w w' : World) : Prop := ∃ n, w' = w.drewN n

/-- What the library's variables hold. -/
structure Env (w : World) : Prop where
  tab : Tab32 w
  syn : ∃ te pe, w.cell? ⟨0, 0, none⟩ = some (.iface te pe)
  rng : ∃ te pe, w.cell? ⟨1, 0, none⟩ = some (.iface te pe)
def EnvLt (B : Nat) : Prop := 3 < B ∧ 0 < B ∧ 1 < B
theorem EnvLt.mono {A B : Nat} (h : EnvLt A) (hAB : A ≤ B) : EnvLt B := ⟨Nat.lt_of_lt_of_le h.1 hAB, Nat.lt_of_lt_of_le h.2.1 hAB, Nat.lt_of_lt_of_le h.2.2 hAB⟩
theorem lt_of_cell {w : World} {b o : Nat} {v : Value} (h : w.cell? ⟨b, o, none⟩ = some v) : b < w.heap.size := by
  simp only [World.cell?] at h
  cases hb : w.heap[b]? with
  | none => rw [hb] at h; simp at h
  | some x => exact (Array.getElem?_eq_some_iff.1 hb).1
theorem Env.lt {w : World} (h : Env w) : EnvLt w.heap.size :=
  ⟨lt_of_cell (h.tab 0 (by decide)), lt_of_cell h.syn.choose_spec.choose_spec, lt_of_cell h.rng.choose_spec.choose_spec⟩
theorem Env.below {B : Nat} {w w' : World} (h : Env w) (hb : Below B w w') (hl : EnvLt B) : Env w' :=
  ⟨fun j hj => (hb.cell (p := ⟨3, j, none⟩) hl.1).trans (h.tab j hj),
   h.syn.elim fun te h => h.elim fun pe h => ⟨te, pe, (hb.cell (p := ⟨0, 0, none⟩) hl.2.1).trans h⟩,
   h.rng.elim fun te h => h.elim fun pe h => ⟨te, pe, (hb.cell (p := ⟨1, 0, none⟩) hl.2.2).trans h⟩⟩

theorem Atoi_ok (s : ByteArray) (hmax : s.size ≤ 1000) (v : Int) (h : Lib.atoiAll s.data.toList = .ok v) (w : World) :
    Calls Tryd.prog 16 #[.string s] w fun e w' => e = .returned (.tuple #[.int .i64 v, .nilIface]) ∧ Below w.heap.size w w' := by
  refine (Tryd.strconv_Atoi_ok s (by omega) v h w).mono ?_
  rintro e w' ⟨he, hw⟩
  refine ⟨he, ?_⟩
  rcases hw with rfl | ⟨t, rfl⟩
  · exact Below.refl _ _
  · exact Lib.bytesWorld_below _ _ _
/-- It fails: an error that is not nil. -/
theorem Atoi_fails (s : ByteArray) (hmax : s.size ≤ 1000) (h : ∀ v, Lib.atoiAll s.data.toList ≠ .ok v) (w : World) (hE : Env w) :
    Calls Tryd.prog 16 #[.string s] w fun e w' => ∃ v te pe, e = .returned (.tuple #[.int .i64 v, .iface te pe]) ∧ Below w.heap.size w w' := by
  obtain ⟨t1, p1, h1⟩ := hE.syn
  obtain ⟨t2, p2, h2⟩ := hE.rng
  rcases hA : Lib.atoiAll s.data.toList with v | _ | _
  · exact absurd hA (h v)
  · refine (Any.strconv_Atoi_syntax Tryd.laysC172 s (by omega) hA _ w h1 (.inr ⟨_, _, rfl⟩)).mono ?_
    rintro e w' ⟨N, he, _, _, hB⟩
    exact ⟨_, _, _, he, hB⟩
  · refine (Any.strconv_Atoi_range Tryd.laysC172 s (by omega) hA _ w h2 (.inr ⟨_, _, rfl⟩)).mono ?_
    rintro e w' ⟨N, he, _, _, hB⟩
    exact ⟨_, _, _, he, hB⟩

end Go.Proofs.YtcbphjdhafnkmaaDoor

/-
  strings.Cut at a comma, and the tag of a word.
-/
import Derived.Test.YtpmolglmpgkcbaaDoorTagA
import Derived.Test.YtpmolglmpgkcbaaDoorTexts
import Derived.Test.YtpmolglmpgkcbaaDoorShelf
import Derived.Lib.IndexBytes
import Derived.Lib.AtoiErrMem
namespace Go.Proofs.YtpmolglmpgkcbaaDoor
open Go.RowKit

/-- A string of these bytes. -/
def strB (l : List UInt8) : ByteArray := ⟨l.toArray⟩
theorem strB_list (l : List UInt8) : (strB l).data.toList = l := rfl
theorem strB_size (l : List UInt8) : (strB l).size = l.length := by simp [strB, ByteArray.size]
theorem strB_of {s : ByteArray} {l : List UInt8} (h : s.data.toList = l) : s = strB l := by
  obtain ⟨⟨x⟩⟩ := s; simp only at h; rw [h]; rfl
theorem str_eq {s : ByteArray} : s = strB s.data.toList := strB_of rfl

theorem indexByte_none {c : UInt8} : ∀ {l : List UInt8}, c ∉ l → Lib.indexByte l c = -1
  | [], _ => rfl
  | b :: l, h => by
    have h1 : ¬ b = c := fun e => h (by rw [e]; simp)
    have h2 : c ∉ l := fun e => h (List.mem_cons_of_mem _ e)
    unfold Lib.indexByte
    rw [indexByte_none h2]
    simp [h1]
theorem indexByte_some {c : UInt8} (b : List UInt8) : ∀ {a : List UInt8}, c ∉ a → Lib.indexByte (a ++ c :: b) c = a.length
  | [], _ => by simp [Lib.indexByte]
  | x :: a, h => by
    have h1 : ¬ x = c := fun e => h (by rw [e]; simp)
    have h2 : c ∉ a := fun e => h (List.mem_cons_of_mem _ e)
    rw [List.cons_append, Lib.indexByte, indexByte_some b h2]
    have : ¬ ((a.length : Int) = -1) := by omega
    simp [h1, this]

def Seen (w w' : World) : Prop := ∃ n, w' = w.drewN n

set_option maxHeartbeats 400000 in
theorem iCut_no (s : ByteArray) (w : World) (h : (44 : UInt8) ∉ s.data.toList) :
    Calls Tryd.prog 37 #[.string s, .string ⟨#[44]⟩] w fun e w' => e = .returned (.tuple #[.string s, .string ⟨#[]⟩, .bool false]) ∧ w = w' := by
  have HI := Lib.hid (indexByte_none h)
  go_enter Tryd.func37, Tryd.ntmps37
  go_wp2_with (go_at_call 44; refine (Tryd.stringslite_Index_one _ _ _).mono ?_; rintro e w' ⟨rfl, rfl⟩; rw [HI.out])
  go_ret3
  exact ⟨rfl, rfl⟩

set_option maxHeartbeats 400000 in
theorem iCut_yes (s : ByteArray) (a b : List UInt8) (w : World) (hs : s.size ≤ 9223372036854775807) (h : s.data.toList = a ++ 44 :: b) (ha : (44 : UInt8) ∉ a) :
    Calls Tryd.prog 37 #[.string s, .string ⟨#[44]⟩] w fun e w' => e = .returned (.tuple #[.string (strB a), .string (strB b), .bool true]) ∧ Seen w w' := by
  have HI := Lib.hid (show Lib.indexByte s.data.toList 44 = (a.length : Int) by rw [h]; exact indexByte_some b ha)
  have hsz : s.size = s.data.toList.length := rfl
  have e1 : s.extract 0 a.length = strB a := by
    apply strB_of; rw [Lib.extract_data, h]; simp
  have e2 : s.extract (a.length + 1) s.size = strB b := by
    apply strB_of; rw [Lib.extract_to_end, h]; simp [List.drop_append]
  have hl : a.length + 1 ≤ s.size := by rw [hsz, h]; simp
  have E1 := Lib.hid e1
  have E2 := Lib.hid e2
  clear hsz h e1 e2 ha
  generalize hk : a.length = k at *
  have HK := Lib.hid hk
  clear hk
  have b0 : (0 : Int) ≤ k := by omega
  have b1 : (k : Int) ≤ s.size := by omega
  have b2 : (0 : Int) ≤ (k : Int) + 1 := by omega
  have b3 : (k : Int) + 1 ≤ s.size := by omega
  go_enter Tryd.func37, Tryd.ntmps37
  go_wp2_with (go_at_call 44; refine (Tryd.stringslite_Index_one _ _ _).mono ?_; rintro e w' ⟨rfl, rfl⟩; rw [HI.out])
  go_quiet (fail)
  go_wp2
  go_ret3
  exact ⟨by rw [E1.out, E2.out]; rfl, nq, rfl⟩

set_option maxHeartbeats 400000 in
theorem Cut_no (s : ByteArray) (w : World) (h : (44 : UInt8) ∉ s.data.toList) :
    Calls Tryd.prog 30 #[.string s, .string ⟨#[44]⟩] w fun e w' => e = .returned (.tuple #[.string s, .string ⟨#[]⟩, .bool false]) ∧ w = w' := by
  go_enter Tryd.func30, Tryd.ntmps30
  go_wp2_with (go_at_call 37; refine (iCut_no _ _ h).mono ?_; rintro e w' ⟨rfl, rfl⟩)
  go_ret3
  exact ⟨rfl, rfl⟩

set_option maxHeartbeats 400000 in
theorem Cut_yes (s : ByteArray) (a b : List UInt8) (w : World) (hs : s.size ≤ 9223372036854775807) (h : s.data.toList = a ++ 44 :: b) (ha : (44 : UInt8) ∉ a) :
    Calls Tryd.prog 30 #[.string s, .string ⟨#[44]⟩] w fun e w' => e = .returned (.tuple #[.string (strB a), .string (strB b), .bool true]) ∧ Seen w w' := by
  have H := Lib.hid h
  clear h
  go_enter Tryd.func30, Tryd.ntmps30
  go_wp2_with (go_at_call 37; refine (iCut_yes _ a b _ hs H.out ha).mono ?_; rintro e w' ⟨rfl, nq, rfl⟩)
  go_ret3
  exact ⟨rfl, nq, rfl⟩

/-- What the library's variables hold. -/
structure Env (w : World) : Prop where
  tab : Tab32 w
  syn : ∃ te pe, w.cell? ⟨2, 0, none⟩ = some (.iface te pe)
  rng : ∃ te pe, w.cell? ⟨3, 0, none⟩ = some (.iface te pe)
def EnvLt (B : Nat) : Prop := 1 < B ∧ 2 < B ∧ 3 < B
theorem EnvLt.mono {A B : Nat} (h : EnvLt A) (hAB : A ≤ B) : EnvLt B := ⟨Nat.lt_of_lt_of_le h.1 hAB, Nat.lt_of_lt_of_le h.2.1 hAB, Nat.lt_of_lt_of_le h.2.2 hAB⟩
theorem lt_of_cell {w : World} {b o : Nat} {v : Value} (h : w.cell? ⟨b, o, none⟩ = some v) : b < w.heap.size := by
  simp only [World.cell?] at h
  cases hb : w.heap[b]? with
  | none => rw [hb] at h; simp at h
  | some x => exact (Array.getElem?_eq_some_iff.1 hb).1
theorem Env.lt {w : World} (h : Env w) : EnvLt w.heap.size :=
  ⟨lt_of_cell (h.tab 0 (by decide)), lt_of_cell h.syn.choose_spec.choose_spec, lt_of_cell h.rng.choose_spec.choose_spec⟩
theorem Env.below {B : Nat} {w w' : World} (h : Env w) (hb : Below B w w') (hl : EnvLt B) : Env w' :=
  ⟨fun j hj => (hb.cell (p := ⟨1, j, none⟩) hl.1).trans (h.tab j hj),
   h.syn.elim fun te h => h.elim fun pe h => ⟨te, pe, (hb.cell (p := ⟨2, 0, none⟩) hl.2.1).trans h⟩,
   h.rng.elim fun te h => h.elim fun pe h => ⟨te, pe, (hb.cell (p := ⟨3, 0, none⟩) hl.2.2).trans h⟩⟩

theorem Atoi_ok (s : ByteArray) (hmax : s.size ≤ 1000) (v : Int) (h : Lib.atoiAll s.data.toList = .ok v) (w : World) :
    Calls Tryd.prog 45 #[.string s] w fun e w' => e = .returned (.tuple #[.int .i64 v, .nilIface]) ∧ Below w.heap.size w w' := by
  refine (Tryd.strconv_Atoi_ok s (by omega) v h w).mono ?_
  rintro e w' ⟨he, hw⟩
  refine ⟨he, ?_⟩
  rcases hw with rfl | ⟨t, rfl⟩
  · exact Below.refl _ _
  · exact Lib.bytesWorld_below _ _ _
/-- It fails: an error that is not nil. -/
theorem Atoi_fails (s : ByteArray) (hmax : s.size ≤ 1000) (h : ∀ v, Lib.atoiAll s.data.toList ≠ .ok v) (w : World) (hE : Env w) :
    Calls Tryd.prog 45 #[.string s] w fun e w' => ∃ v te pe, e = .returned (.tuple #[.int .i64 v, .iface te pe]) ∧ Below w.heap.size w w' := by
  obtain ⟨t1, p1, h1⟩ := hE.syn
  obtain ⟨t2, p2, h2⟩ := hE.rng
  rcases hA : Lib.atoiAll s.data.toList with v | _ | _
  · exact absurd hA (h v)
  · refine (Any.strconv_Atoi_syntax Tryd.laysC172 s (by omega) hA _ w h1 (.inr ⟨_, _, rfl⟩)).mono ?_
    rintro e w' ⟨N, he, _, _, hB⟩
    exact ⟨_, _, _, he, hB⟩
  · refine (Any.strconv_Atoi_range Tryd.laysC172 s (by omega) hA _ w h2 (.inr ⟨_, _, rfl⟩)).mono ?_
    rintro e w' ⟨N, he, _, _, hB⟩
    exact ⟨_, _, _, he, hB⟩

set_option maxHeartbeats 400000 in
theorem parseTag_yes (t : Nat) (ht : t < 16) (w : World) :
    Calls Tryd.prog 38 #[.string ⟨(dig t).toArray⟩] w fun e w' => e = .returned (.tuple #[.int .i64 (t : Int), .bool true]) ∧ Below w.heap.size w w' := by
  have hA := dig_atoi ⟨t, ht⟩
  simp only at hA
  have hl := (dig_len ⟨t, ht⟩).2
  simp only at hl
  have HAt := Atoi_ok ⟨(dig t).toArray⟩ (by rw [show (⟨(dig t).toArray⟩ : ByteArray).size = (dig t).length from strB_size _]; omega) (t : Int) hA w
  have HD := Lib.hid (dec_dig t ht)
  have HT := Lib.hid (isTagB_yes (t := (t : Int)) (by omega) (by omega))
  clear hA
  generalize dig t = d at *
  go_enter Tryd.func38, Tryd.ntmps38
  go_wp2_with (first | (go_at_call 45; refine HAt.mono ?_; clear HAt; rintro e w' ⟨rfl, hB⟩) | (go_at_call 46; refine (isTag_any _ _).mono ?_; rintro e w' ⟨rfl, rfl⟩; rw [HT.out]) | (go_at_call 41; refine (Tryd.strconv_Itoa_small t (by omega) _).mono ?_; rintro e w' ⟨rfl, rfl⟩; rw [HD.out]))
  go_ret2
  exact ⟨rfl, hB⟩

set_option maxHeartbeats 400000 in
theorem parseTag_no (s : ByteArray) (hs : s.size ≤ 1000) (h : ∀ t, t < 16 → s.data.toList ≠ dig t) (w : World) (hE : Env w) :
    Calls Tryd.prog 38 #[.string s] w fun e w' => e = .returned (.tuple #[.int .i64 0, .bool false]) ∧ Below w.heap.size w w' := by
  by_cases hok : ∃ v, Lib.atoiAll s.data.toList = .ok v
  · obtain ⟨v, hv⟩ := hok
    have HAt := Atoi_ok s hs v hv w
    by_cases ht : 0 ≤ v ∧ v < 16
    · obtain ⟨t, rfl⟩ := Int.eq_ofNat_of_zero_le ht.1
      have ht2 : t < 16 := by omega
      have HD := Lib.hid (dec_dig t ht2)
      have HT := Lib.hid (isTagB_yes ht.1 ht.2)
      have hne := h t ht2
      clear h hv hE
      generalize dig t = d at *
      have hne2 : (d == s.toList) = false := by rw [Lib.toList_data]; simp; exact fun e => hne e.symm
      go_enter Tryd.func38, Tryd.ntmps38
      go_wp2_with (first | (go_at_call 45; refine HAt.mono ?_; clear HAt; rintro e w' ⟨rfl, hB⟩) | (go_at_call 46; refine (isTag_any _ _).mono ?_; rintro e w' ⟨rfl, rfl⟩; rw [HT.out]) | (go_at_call 41; refine (Tryd.strconv_Itoa_small t (by omega) _).mono ?_; rintro e w' ⟨rfl, rfl⟩; rw [HD.out]))
      go_ret2
      exact ⟨rfl, hB⟩
    · have HT := Lib.hid (isTagB_no ht)
      clear h hv hE
      go_enter Tryd.func38, Tryd.ntmps38
      go_wp2_with (first | (go_at_call 45; refine HAt.mono ?_; clear HAt; rintro e w' ⟨rfl, hB⟩) | (go_at_call 46; refine (isTag_any _ _).mono ?_; rintro e w' ⟨rfl, rfl⟩; rw [HT.out]))
      go_ret2
      exact ⟨rfl, hB⟩
  · have HAt := Atoi_fails s hs (fun v hv => hok ⟨v, hv⟩) w hE
    clear h hok hE
    go_enter Tryd.func38, Tryd.ntmps38
    go_wp2_with (go_at_call 45; refine HAt.mono ?_; clear HAt; rintro e w' ⟨v, te, pe, rfl, hB⟩)
    go_ret2
    exact ⟨rfl, hB⟩

end Go.Proofs.YtpmolglmpgkcbaaDoor

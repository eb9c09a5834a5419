/-
  The program's differences: the text of a number, a line of words, the number of a word, the pieces of a string.
-/
import Derived.Test.YtmaachmidgfhdaaGreatDoorWDpM
import Derived.Test.YtmaachmidgfhdaaGreatDoorWDifA
import Derived.Test.YtmaachmidgfhdaaGreatDoorWDifE
import Derived.Test.YtmaachmidgfhdaaGreatDoorW1
/-! DpA -/
namespace Go.Proofs.YtmaachmidgfhdaaGreatDoor
open Go.RowKit

/-- The library's tables and errors, and its own longest length, whatever it is. -/
def EnvM (w : World) : Prop := Env w ∧ ∃ m, w.cell? ⟨1, 0, none⟩ = some (.int .i64 m)
theorem EnvM.below {w w' : World} (h : EnvM w) (hB : Below w.heap.size w w') : EnvM w' := by
  obtain ⟨h1, m, h2⟩ := h
  exact ⟨h1.below hB h1.lt, m, (hB.cell (p := ⟨1, 0, none⟩) (lt_of_cell h2)).trans h2⟩
theorem EnvM.tab {w : World} (h : EnvM w) : TabOk w := ⟨h.1.tab, h.1.lt.1⟩
theorem goodM : GoodC EnvM := ⟨fun hw hB => hw.below hB⟩

theorem dec_dig17 {n : Nat} (hn : n < 17) : Lib.decDigits n = dig n := by
  rcases Nat.lt_or_ge n 16 with h | h
  · exact dec_dig n h
  · obtain rfl : n = 16 := by omega
    decide +kernel
theorem dpText17_any (n : Nat) (hn : n < 17) (w : World) : Calls Tryz.prog 33 #[.int .i64 (n : Int)] w fun e w' => e = .returned (.string ⟨(dig n).toArray⟩) ∧ w = w' := by
  have hI := Tryz.strconv_Itoa_small n (by omega) w
  rw [dec_dig17 hn] at hI
  have HI := Lib.hid hI
  clear hI hn
  go_enter Tryz.func33, Tryz.ntmps33
  go_wp2_with fail
  refine HI.out.mono ?_
  rintro e w1 ⟨rfl, rfl⟩
  go_wp2_with fail
  go_ret
  exact ⟨rfl, rfl⟩
theorem dpText_any (n : Nat) (hn : n < 16) (w : World) : Calls Tryz.prog 33 #[.int .i64 (n : Int)] w fun e w' => e = .returned (.string ⟨(dig n).toArray⟩) ∧ w = w' := dpText17_any n (by omega) w
theorem strsAt_cells {w : World} {b off cap : Nat} {ls : List (List UInt8)} (h : StrsAt w (.slice (some ⟨b, off, none⟩) ls.length cap) ls) : ∀ (j : Nat) x, (ls.map fun l => (⟨l.toArray⟩ : ByteArray))[j]? = some x → w.cell? ⟨b, off + j, none⟩ = some (.string x) := fun j x hj => by
  rw [List.getElem?_map, Option.map_eq_some_iff] at hj
  obtain ⟨l, hl, rfl⟩ := hj
  obtain ⟨hlt, rfl⟩ := List.getElem?_eq_some_iff.1 hl
  have := (h.elem hlt).2 0 (.string ⟨(ls[j]).toArray⟩) rfl
  rw [Nat.add_zero, Nat.mul_one] at this
  exact this
theorem dpLine_any (v : Value) (ws : List (List UInt8)) (w : World) (h : StrsAt w v ws) (hne : ws ≠ []) (hlen : (Lib.join ws [32]).length ≤ 1000) (hw : ws.length ≤ 1000) : Calls Tryz.prog 32 #[v] w fun e w' => e = .returned (.string ⟨(Lib.join ws [32]).toArray⟩) ∧ Below w.heap.size w w' := by
  obtain ⟨b, off, cap, rfl, hcap, h63, hb⟩ := h.shape hne
  have hmap : (ws.map fun l => (⟨l.toArray⟩ : ByteArray)).map (·.data.toList) = ws := by
    rw [List.map_map]
    exact List.map_id _
  have hJ := Tryz.strings_Join b off cap (ws.map fun l => (⟨l.toArray⟩ : ByteArray)) ⟨#[32]⟩ w (strsAt_cells h) hb (by rw [List.length_map]; omega) (by rw [List.length_map]; exact hcap) (by rw [hmap]; show (Lib.join ws [32]).length ≤ _; omega)
  rw [hmap, List.length_map] at hJ
  have HJ := Lib.hid hJ
  clear hJ hmap h hne hlen hw hcap h63 hb
  go_enter Tryz.func32, Tryz.ntmps32
  go_wp2_with fail
  refine HJ.out.mono ?_
  rintro e w1 ⟨rfl, hB⟩
  have HB := Lib.hid hB
  clear hB
  go_wp2_with fail
  go_ret
  exact ⟨rfl, HB.out⟩
theorem join_two (a b : List UInt8) : Lib.join [a, b] [32] = a ++ 32 :: b := by simp [Lib.join, List.intercalate]
theorem join_three (a b c : List UInt8) : Lib.join [a, b, c] [32] = a ++ 32 :: (b ++ 32 :: c) := by simp [Lib.join, List.intercalate]

/-! The number of a word. -/
theorem one_tag : ∀ n : Fin 16, textN (2 ^ n.val) = dig n.val ∧ tagsN (2 ^ n.val) = [n.val] ∧ Lib.ctz 16 (2 ^ n.val) = n.val ∧ 2 ^ n.val < 65536 := by decide +kernel
theorem one_text {a : Nat} (h : (tagsN a).length = 1) : ∃ n, n < 16 ∧ textN a = dig n := by
  obtain ⟨n, hn⟩ := List.length_eq_one_iff.1 h
  have h1 : n ∈ tagsN a := by rw [hn]; simp
  have h2 : a ≠ 0 := fun e => by rw [e] at h; exact absurd h (by decide)
  refine ⟨n, ((mem_tagsTo a 16 n).1 h1).1, ?_⟩
  unfold textN
  rw [if_neg h2, hn]
  rfl
/-- What a word's number is, if it has one. -/
def NumIs (l : List UInt8) (e : Ending) : Prop := (∃ n, n < 16 ∧ l = dig n ∧ e = .returned (.tuple #[.int .i64 (n : Int), .bool true])) ∨ ((∀ n, n < 16 → l ≠ dig n) ∧ e = .returned (.tuple #[.int .i64 0, .bool false]))
set_option maxRecDepth 100000 in
theorem dpNum_any (l : List UInt8) (hl : l.length ≤ 1000) (w : World) (hE : Env w) : Calls Tryz.prog 49 #[.string ⟨l.toArray⟩] w fun e w' => NumIs l e ∧ Below w.heap.size w w' := by
  have hz : (⟨l.toArray⟩ : ByteArray).size ≤ 1000 := by rw [show (⟨l.toArray⟩ : ByteArray).size = l.length from strB_size l]; exact hl
  by_cases hn : ∃ n, n < 16 ∧ l = dig n
  · obtain ⟨n, hn, rfl⟩ := hn
    obtain ⟨h1, h2, h3, h4⟩ := one_tag ⟨n, hn⟩
    have HP := Lib.hid (Parse_is ⟨(dig n).toArray⟩ (2 ^ n) h4 h1 hz w hE)
    have HC := Lib.hid (fun V => Count_any (2 ^ n) V h4)
    have HL := Lib.hid (fun V (hT : Tab32 V) => Least_some (2 ^ n) V h4 (by have := Nat.two_pow_pos n; omega) hT)
    rw [show Lib.ctz 16 (2 ^ n) = n from h3] at HL
    rw [show tagsN (2 ^ n) = [n] from h2] at HC
    have HE := Lib.hid hE
    have HN := Lib.hid hn
    clear hE hz hl h1 h2 h3 h4 hn
    generalize 2 ^ n = a at *
    go_enter Tryz.func49, Tryz.ntmps49
    go_wp2_with fail
    refine HP.out.mono ?_
    rintro e w1 ⟨rfl, hB⟩
    have HB := Lib.hid hB
    clear hB HP
    go_wp2_with fail
    refine (HC.out _).mono ?_
    rintro e w2 ⟨rfl, m, rfl⟩
    have HB2 := Lib.hid (below_drewN HB.out m)
    clear HC
    go_wp2_with fail
    refine (HL.out _ (HE.out.below HB2.out HE.out.lt).tab).mono ?_
    rintro e w3 ⟨rfl, rfl⟩
    clear HL
    go_wp2_with fail
    go_ret2
    exact ⟨.inl ⟨n, HN.out, rfl, rfl⟩, HB2.out⟩
  · have hnot : ∀ n, n < 16 → l ≠ dig n := fun n h e => hn ⟨n, h, e⟩
    by_cases ht : ∃ a, a < 65536 ∧ textN a = l
    · obtain ⟨a, ha, rfl⟩ := ht
      have HP := Lib.hid (Parse_is ⟨(textN a).toArray⟩ a ha rfl hz w hE)
      have HC := Lib.hid (fun V => Count_any a V ha)
      have hc1 : (tagsN a).length ≠ 1 := fun e => by
        obtain ⟨n, h1, h2⟩ := one_text e
        exact hnot n h1 h2
      have HN := Lib.hid hnot
      clear hE hz hl hnot ha hn
      generalize textN a = l at *
      generalize (tagsN a).length = c at *
      have hc : (((c : Int)) != 1) = true := by simp; omega
      have hc2 : (c != 1) = true := by simpa using hc1
      go_enter Tryz.func49, Tryz.ntmps49
      go_wp2_with fail
      refine HP.out.mono ?_
      rintro e w1 ⟨rfl, hB⟩
      have HB := Lib.hid hB
      clear hB HP
      go_wp2_with fail
      refine (HC.out _).mono ?_
      rintro e w2 ⟨rfl, m, rfl⟩
      have HB2 := Lib.hid (below_drewN HB.out m)
      clear HC
      go_wp2_with fail
      go_ret2
      exact ⟨.inr ⟨HN.out, rfl⟩, HB2.out⟩
    · have HP := Lib.hid (Parse_not ⟨l.toArray⟩ (fun a ha e => ht ⟨a, ha, e⟩) hz w hE)
      have HN := Lib.hid hnot
      clear hE hz hl hnot hn ht
      go_enter Tryz.func49, Tryz.ntmps49
      go_wp2_with fail
      refine HP.out.mono ?_
      rintro e w1 ⟨rfl, hB⟩
      have HB := Lib.hid hB
      clear hB HP
      go_wp2_with fail
      go_ret2
      exact ⟨.inr ⟨HN.out, rfl⟩, HB.out⟩

/-! The pieces of a string. -/
theorem dpSplit_any (l : List UInt8) (hl : l.length ≤ 1000) (w : World) (hE : EnvM w) : Calls Tryz.prog 48 #[.string ⟨l.toArray⟩, .string ⟨#[32]⟩, .int .i64 3] w fun e w' => ∃ g cap, e = .returned (.slice (some ⟨g, 0, none⟩) (cutW l).length cap) ∧ (∀ (j : Nat) x, (cutW l)[j]? = some x → w'.cell? ⟨g, j, none⟩ = some (.string ⟨x.toArray⟩)) ∧ Below w.heap.size w w' := by
  obtain ⟨-, m, hm⟩ := hE
  have hz : (⟨l.toArray⟩ : ByteArray).size = l.length := strB_size l
  refine (Tryz.strings_SplitN ⟨l.toArray⟩ ⟨#[32]⟩ 3 m w (by omega) hm (by decide) (by decide) (by decide)).mono ?_
  rintro e w' ⟨rfl, rfl⟩
  have hd := Lib.splitB_data ⟨#[32]⟩ 0 (min 3 ((⟨l.toArray⟩ : ByteArray).size + 1) - 1) ⟨l.toArray⟩
  rw [hz] at hd ⊢
  rw [show Lib.splitK (⟨#[32]⟩ : ByteArray).data.toList 0 (min 3 (l.length + 1) - 1) (⟨l.toArray⟩ : ByteArray).data.toList = cutW l from rfl] at hd
  generalize hs : Lib.splitB ⟨#[32]⟩ 0 (min 3 (l.length + 1) - 1) ⟨l.toArray⟩ = ps at *
  refine ⟨w.heap.size, min 3 (l.length + 1), ?_, fun j x hj => ?_, belowNew w _⟩
  · rw [← hd, List.length_map]
  · rw [← hd, List.getElem?_map, Option.map_eq_some_iff] at hj
    obtain ⟨y, hy, rfl⟩ := hj
    have hlt := (List.getElem?_eq_some_iff.1 hy).1
    rw [(Blk.new w _ _).cell]
    unfold Lib.cellsOf
    rw [List.getElem?_toArray, List.getElem?_append_left (by rw [List.length_map]; exact hlt), List.getElem?_map, hy]
    rfl
end Go.Proofs.YtmaachmidgfhdaaGreatDoor

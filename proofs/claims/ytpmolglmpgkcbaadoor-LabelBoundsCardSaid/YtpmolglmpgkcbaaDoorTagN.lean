/-
  The reference's digits, text and parser.
-/
import Derived.Test.YtpmolglmpgkcbaaDoorTagR
import Derived.Test.YtpmolglmpgkcbaaDoorTagP
namespace Go.Proofs.YtpmolglmpgkcbaaDoor
open Go.RowKit

theorem dig_extract : ∀ k : Fin 10, (⟨#[48, 49, 50, 51, 52, 53, 54, 55, 56, 57]⟩ : ByteArray).extract k.val (k.val + 1) = ⟨(dig k.val).toArray⟩ := by
  intro k
  apply strB_of
  rw [Lib.extract_data]
  revert k
  decide

set_option maxHeartbeats 400000 in
theorem number_small (k : Nat) (hk : k < 10) (w : World) :
    Calls Tryd.prog 39 #[.int .i64 (k : Int)] w fun e w' => e = .returned (.string ⟨(dig k).toArray⟩) ∧ w = w' := by
  have HX := Lib.hid (dig_extract ⟨k, hk⟩)
  have h9 : (k : Int) ≤ 9 := by omega
  have h0 : (0 : Int) ≤ k := by omega
  have hd : ¬ (9 : Int) < k := by omega
  go_enter Tryd.func39, Tryd.ntmps39
  go_wp2_with fail
  go_ret
  exact ⟨by rw [← HX.out]; rfl, rfl⟩

set_option maxHeartbeats 400000 in
theorem number_any (k : Nat) (hk : k < 16) (w : World) :
    Calls Tryd.prog 39 #[.int .i64 (k : Int)] w fun e w' => e = .returned (.string ⟨(dig k).toArray⟩) ∧ w = w' := by
  by_cases h : k < 10
  · exact number_small k h w
  · have h9 : (9 : Int) < k := by omega
    have hN := number_small (k - 10) (by omega) w
    have hc : ((k - 10 : Nat) : Int) = (k : Int) - 10 := by omega
    have hdg : dig k = 49 :: dig (k - 10) := by
      have : 48 + (k - 10) = 38 + k := by omega
      unfold dig; rw [if_neg h, if_pos (by omega), this]
    have HD := Lib.hid hdg
    rw [hc] at hN
    clear hdg hc
    have hl := (dig_len ⟨k - 10, by omega⟩).2
    simp only at hl
    generalize dig (k - 10) = d at *
    have hs1 : (⟨#[49]⟩ : ByteArray).size = 1 := rfl
    have hs2 : (⟨d.toArray⟩ : ByteArray).size = d.length := strB_size d
    have hle : ¬ 9223372036854775807 < 1 + d.length := by omega
    go_enter Tryd.func39, Tryd.ntmps39
    go_wp2_with (go_at_call 39; refine hN.mono ?_; rintro e w' ⟨rfl, rfl⟩)
    go_ret
    exact ⟨by rw [HD.out]; exact congrArg (fun b => Ending.returned (.string b)) (ByteArray.mk_append_mk [49] d), rfl⟩

theorem getD_map_int (l : List Nat) (i : Nat) (h : i < l.length) : (l.map fun x : Nat => (x : Int)).getD i 0 = ((l.getD i 0 : Nat) : Int) := by
  simp [List.getD, h]
theorem take_one (l : List Nat) (h : 0 < l.length) : l.take 1 = [l.getD 0 0] := by
  cases l with
  | nil => simp at h
  | cons a r => simp
theorem take_succ_getN (zs : List Nat) (k : Nat) (h : k < zs.length) : zs.take (k + 1) = zs.take k ++ [zs.getD k 0] := by
  rw [List.take_succ_eq_append_getElem h]; simp [List.getD, h]

theorem ints_cells {w : World} {p : Option Addr} {n cap : Nat} {l : List Nat} (h : IntsAt w (.slice p n cap) (l.map fun x : Nat => (x : Int))) (hpos : 0 < l.length) :
    ∃ b off, p = some ⟨b, off, none⟩ ∧ ∀ i, i < l.length → w.cell? ⟨b, off + i, none⟩ = some (.int .i64 ((l.getD i 0 : Nat) : Int)) := by
  obtain ⟨p', cap', hv, _, hc⟩ := h
  cases hv
  obtain ⟨b, off, hp, hcells⟩ := hc (by intro e; have := congrArg List.length e; simp at this; rw [this] at hpos; simp at hpos)
  refine ⟨b, off, hp, fun i hi => ?_⟩
  rw [hcells i (by simpa using hi), getD_map_int l i hi]
theorem small_getD {l : List Nat} (h : Small l) (i : Nat) (hi : i < l.length) : l.getD i 0 < 16 := by
  apply h; simp [List.getD, hi]
theorem owned_ints {w : World} {base : Nat} {v : Value} {l : List Nat} (hlen : l.length ≤ 16) (hpos : 0 < l.length) (hs : Small l) (h : w.ownsRow base 3 1 v l.length (intsV l)) :
    ∃ (b off cap d : Nat), v = .slice (some ⟨b, off, none⟩) l.length cap ∧ w.cell? ⟨b, off, none⟩ = some (.int .i64 (d : Int)) ∧ d < 16 ∧ Hid (l.getD 0 0 = d) ∧ Hid (∀ i, i < l.length → w.cell? ⟨b, off + i, none⟩ = some (.int .i64 ((l.getD i 0 : Nat) : Int))) := by
  have hI := intsAt_of_owns hlen h
  obtain ⟨p, cap, hv⟩ := owns_shape h
  rw [hv] at hI
  obtain ⟨b, off, hp, hcs⟩ := ints_cells hI hpos
  exact ⟨b, off, cap, l.getD 0 0, by rw [hv, hp], hcs 0 hpos, small_getD hs 0 hpos, Lib.hid rfl, Lib.hid hcs⟩
theorem joinT_take_succ (l : List Nat) (k : Nat) (hk : 1 ≤ k) (h : k < l.length) : joinT (l.take (k + 1)) = joinT (l.take k) ++ ([44] ++ dig (l.getD k 0)) := by
  rw [take_succ_getN l k h, joinT_snoc _ (by intro e; have := congrArg List.length e; rw [List.length_take, List.length_nil] at this; omega)]; rfl

set_option maxRecDepth 100000 in
set_option maxHeartbeats 1000000 in
theorem rText_any (s : Nat) (hs : s < 65536) (w : World) :
    Calls Tryd.prog 34 #[.int .u16 s] w fun e w' => e = .returned (.string ⟨(textN s).toArray⟩) ∧ Below w.heap.size w w' := by
  have HL := Lib.hid (fun W => rList_any s hs W)
  by_cases hs0 : s = 0
  · subst hs0
    have ht0 : (tagsN 0).length = 0 := by rw [tagsN_zero]; rfl
    have htx : textN 0 = [45] := rfl
    have HX := Lib.hid htx
    clear htx
    go_enter Tryd.func34, Tryd.ntmps34
    go_wp2_with (go_at_call 43; refine (HL.out _).mono ?_; rintro e w' ⟨v, rfl, hrow, hB⟩; obtain ⟨p, cap, rfl⟩ := owns_shape hrow)
    go_ret
    exact ⟨by rw [HX.out]; rfl, hB⟩
  · have hlen := tagsN_length_le s
    have hpos : 0 < (tagsN s).length := by
      have := tagsN_ne_nil hs0 hs
      cases h : tagsN s with
      | nil => exact absurd h this
      | cons a r => simp
    have hne : (((tagsN s).length : Int) == 0) = false := by rw [beq_eq_false_iff_ne]; omega
    have htx : textN s = joinT (tagsN s) := by unfold textN; rw [if_neg hs0]
    have HX := Lib.hid htx
    have hsm := small_tagsN s
    have HSm := Lib.hid hsm
    clear htx hsm
    go_enter Tryd.func34, Tryd.ntmps34
    have hT1 : joinT ((tagsN s).take 1) = dig ((tagsN s).getD 0 0) := by rw [take_one _ hpos]; rfl
    have HT1 := Lib.hid hT1
    clear hT1
    go_wp2_with (first | (go_at_call 43; refine (HL.out _).mono ?_; rintro e w' ⟨v, rfl, hrow, hB⟩; obtain ⟨b, off, cap, d0, rfl, h0, hd0, HD0, HC⟩ := owned_ints hlen hpos HSm.out hrow; clear hrow) | (go_at_call 39; refine (number_any d0 hd0 _).mono ?_; rintro e w' ⟨rfl, rfl⟩))
    go_loop [4, 5] (fun o i => ∃ k : Nat, 1 ≤ k ∧ k ≤ (tagsN s).length ∧ i = .int .i64 k ∧ o = .string ⟨(joinT ((tagsN s).take k)).toArray⟩) (fun _ i => (tagsN s).length - (intOf i).toNat)
    case atStart => exact ⟨1, by omega, by omega, rfl, by rw [HT1.out, HD0.out]⟩
    case round =>
      obtain ⟨k, hk1, hk, rfl, rfl⟩ := hrel
      by_cases hlt : k < (tagsN s).length
      · have hck := HC.out k hlt
        have hdk := small_getD HSm.out k hlt
        have HJ := Lib.hid (joinT_take_succ (tagsN s) k hk1 hlt)
        have hl1 := joinT_len (l := (tagsN s).take k) (fun x hx => HSm.out x (List.mem_of_mem_take hx))
        have hl2 : ((tagsN s).take k).length ≤ 16 := by rw [List.length_take]; omega
        have hl3 := (dig_len ⟨(tagsN s).getD k 0, small_getD HSm.out k hlt⟩).2
        simp only at hl3
        generalize joinT ((tagsN s).take k) = x at *
        generalize (tagsN s).getD k 0 = d at *
        have HNd := Lib.hid (fun W => number_any d hdk W)
        generalize dig d = y at *
        have hs1 : (⟨x.toArray⟩ : ByteArray).size = x.length := strB_size x
        have hs2 : (⟨#[44]⟩ : ByteArray).size = 1 := rfl
        have hs3 : ((⟨x.toArray⟩ : ByteArray) ++ (⟨#[44]⟩ : ByteArray)).size = x.length + 1 := by rw [ByteArray.size_append, hs1, hs2]
        have hs4 : (⟨y.toArray⟩ : ByteArray).size = y.length := strB_size y
        have hb1 : ¬ 9223372036854775807 < x.length + 1 := by omega
        have hb2 : ¬ 9223372036854775807 < x.length + 1 + y.length := by omega
        have HZ := Lib.hid (show ((⟨x.toArray⟩ : ByteArray) ++ (⟨#[44]⟩ : ByteArray)) ++ (⟨y.toArray⟩ : ByteArray) = ⟨(x ++ ([44] ++ y)).toArray⟩ by rw [show (⟨#[44]⟩ : ByteArray) = ⟨[44].toArray⟩ from rfl, ByteArray.mk_append_mk, ByteArray.mk_append_mk, List.append_assoc])
        go_wp2_with (go_at_call 39; refine (HNd.out _).mono ?_; rintro e w' ⟨rfl, rfl⟩)
        go_round
        case rel => exact ⟨k + 1, by omega, by omega, by go_num, by rw [HJ.out, ← HZ.out]⟩
        case measure => simp [intOf]; omega
      · have HK := Lib.hid (show (tagsN s).take k = tagsN s from List.take_of_length_le (by omega))
        go_wp2_with fail
        go_ret
        exact ⟨by rw [HX.out, HK.out]; rfl, hB⟩

end Go.Proofs.YtpmolglmpgkcbaaDoor

/-
  The document's lines: what one of them does.
-/
import Derived.LoopTactic
import Derived.Deep.CutBlock
import Derived.Test.YtmaachmidgfhdaaGreatDoorWDifP
import Derived.Test.YtmaachmidgfhdaaGreatDoorW3
import Derived.Test.YtmaachmidgfhdaaGreatDoorW2
/-! DifO -/
namespace Go.Proofs.YtmaachmidgfhdaaGreatDoor
open Go.RowKit

/-- Which strings are labels' texts. -/
def TextD (l : List UInt8) : Prop := ∃ a b : Nat, a < 65536 ∧ b < 65536 ∧ textL a b = l
/-- What is asked of the document's reading of a label. -/
def RLabC : Prop := (∀ (a b : Nat) (w : World), a < 65536 → b < 65536 → Calls Tryz.prog 54 #[.string ⟨(textL a b).toArray⟩] w fun e w' => e = .returned (.tuple #[.agg #[.int .u16 (a : Int), .int .u16 (b : Int)], .bool true]) ∧ Below w.heap.size w w') ∧
  ∀ (l : List UInt8) (w : World), l.length ≤ 1000 → ¬ TextD l → Calls Tryz.prog 54 #[.string ⟨l.toArray⟩] w fun e w' => e = .returned (.tuple #[.agg #[.int .u16 0, .int .u16 0], .bool false]) ∧ Below w.heap.size w w'
theorem ba_of {s : ByteArray} {l : List UInt8} (h : s.data.toList = l) : s = ⟨l.toArray⟩ := by
  cases s; subst h; rfl
theorem str_upto (l : List UInt8) (k : Nat) : (⟨l.toArray⟩ : ByteArray).extract 0 k = ⟨(l.take k).toArray⟩ := by
  apply ba_of; rw [Lib.extract_data]; rfl
theorem str_from (l : List UInt8) (k : Nat) : (⟨l.toArray⟩ : ByteArray).extract k l.length = ⟨(l.drop k).toArray⟩ := by
  rw [show l.length = (⟨l.toArray⟩ : ByteArray).size by simp [ByteArray.size]]
  apply ba_of; rw [Lib.extract_data]; show List.take (l.length - k) (List.drop k l) = _; exact List.take_of_length_le (by rw [List.length_drop]; exact Nat.le_refl _)
def headD (n : Nat) : List UInt8 := 114 :: 111 :: 108 :: 101 :: 32 :: (dig n ++ [32])
theorem headD_line {n s i : Nat} : lineT ⟨3, n, 0, s, i⟩ = headD n ++ textL s i := by simp [lineT, restD, wordD, headD]
theorem textL_ne (a b : Nat) : textL a b ≠ [] := by unfold textL; simp
/-- A line with such a beginning is a role's. -/
theorem line_head {x : Ln} (hx : LnOk x) {n : Nat} (hn : n < 16) {r : List UInt8} (h : lineT x = headD n ++ r) : x.k = 3 ∧ x.n = n ∧ textL x.s x.i = r := by
  have e : headD n ++ r = wordD 3 ++ (dig n ++ 32 :: r) := by simp [headD, wordD]
  have hk : x.k = 3 := word_eq hx.k (by decide) (h.trans e)
  have h2 := h.trans e
  unfold lineT at h2
  rw [hk] at h2
  have h3 := List.append_cancel_left h2
  unfold restD at h3
  rw [if_pos hk] at h3
  obtain ⟨d1, d2⟩ := cut_unique 32 (dig_blank ⟨x.n, hx.n⟩) (dig_blank ⟨n, hn⟩) h3
  exact ⟨hk, dig_inj hx.n hn d1, d2⟩
theorem line_of_text {n : Nat} (hn : n < 16) {r l : List UInt8} (hl : l = headD n ++ r) (hr : ¬ TextD r) : lineOf l = none :=
  lineOf_none fun x hx e => by
    rw [hl] at e
    obtain ⟨-, -, h3⟩ := line_head hx hn e
    exact hr ⟨x.s, x.i, hx.s, hx.i, h3⟩
theorem oneD_ok {k n : Nat} (hk : k < 3 ∨ k = 7) (hn : n < 16) : LnOk ⟨k, n, 0, 0, 0⟩ :=
  ⟨by show k < 8; omega, hn, by show 0 < 16; decide, by show 0 < 65536; decide, by show 0 < 65536; decide, fun _ => rfl, fun _ => ⟨rfl, rfl⟩⟩
theorem two_ok {k n m : Nat} (hk : k = 4 ∨ k = 5 ∨ k = 6) (hn : n < 16) (hm : m < 16) : LnOk ⟨k, n, m, 0, 0⟩ :=
  ⟨by show k < 8; omega, hn, hm, by show 0 < 65536; decide, by show 0 < 65536; decide, fun h => by rcases hk with rfl | rfl | rfl <;> simp at h, fun _ => ⟨rfl, rfl⟩⟩
theorem role_ok {n s i : Nat} (hn : n < 16) (hs : s < 65536) (hi : i < 65536) : LnOk ⟨3, n, 0, s, i⟩ :=
  ⟨by show 3 < 8; decide, hn, by show 0 < 16; decide, hs, hi, fun _ => rfl, fun h => absurd rfl h⟩
/-- All lines that bear a number. -/
theorem line_kinds {x : Ln} (hx : LnOk x) {l : List UInt8} (hl : lineT x = l) (h : ¬ ∃ r, r ≠ [] ∧ l = headD x.n ++ r) (h0 : ∀ k, k < 3 ∨ k = 7 → l ≠ lineT ⟨k, x.n, 0, 0, 0⟩) (h2 : ∀ m, m < 16 → pairB l x.n m = false) : False := by
  obtain ⟨k, n, m, s, i⟩ := x
  have hk := hx.k
  have hm := hx.m
  have h1 := hx.one
  have h3 := hx.lab
  simp only at hk hm h1 h3 h h0 h2
  by_cases e3 : k = 3
  · subst e3
    have hm0 := h1 (.inl (by decide))
    subst hm0
    exact h ⟨textL s i, textL_ne s i, by rw [← hl, headD_line]⟩
  · obtain ⟨rfl, rfl⟩ := h3 e3
    by_cases e : k < 4 ∨ k = 7
    · have hm0 := h1 e
      subst hm0
      exact h0 k (by omega) hl.symm
    · have hb := h2 m hm
      unfold pairB at hb
      rw [decide_eq_false_iff_not] at hb
      rcases show k = 4 ∨ k = 5 ∨ k = 6 by omega with rfl | rfl | rfl
      · exact hb (.inl hl.symm)
      · exact hb (.inr (.inl hl.symm))
      · exact hb (.inr (.inr hl.symm))
theorem infoLbD : (Tryz.prog.info? 24).map (·.size) = some 2 := by kernel_rfl
theorem lineT_one {k n : Nat} (h3 : k ≠ 3) (h4 : k < 4 ∨ k = 7) : lineT ⟨k, n, 0, 0, 0⟩ = wordD k ++ dig n := by
  show wordD k ++ (dig n ++ (if k = 3 then _ else if k < 4 ∨ k = 7 then [] else _)) = _
  rw [if_neg h3, if_pos h4, List.append_nil]
/-- What is answered of a string. -/
def DoIs (p : Pol) (l : List UInt8) (w : World) (e : Ending) (w' : World) : Prop := ∃ r ok, e = .returned (.tuple #[.agg (polC r), .bool ok]) ∧ PolOk r ∧ (if ok = true then (∃ x, lineOf l = some x ∧ r = doD p x) else lineOf l = none) ∧ Below w.heap.size w w'
set_option maxRecDepth 100000 in
set_option maxHeartbeats 6400000 in
theorem rdDo_any (cL : RLabC) (p : Pol) (hp : PolOk p) (l : List UInt8) (hl : l.length ≤ 1000) (w : World) : Calls Tryz.prog 28 #[.agg (polC p), .string ⟨l.toArray⟩] w (DoIs p l w) := by
  have HG0 := Lib.hid (PaV.new w p)
  have HN := Lib.hid (fun n (h : n < 16) V => rdNum_any n h V)
  have HPa := Lib.hid (fun n m hn hm V => rdPair_any p hp l n m hn hm V)
  have HPk := Lib.hid hp
  have HLl := Lib.hid hl
  have HCl := Lib.hid cL
  clear hl cL hp
  go_enter Tryz.func28, Tryz.ntmps28
  go_upto_region 1 with fail
  generalize (w.alloc _).alloc _ = w1 at *
  go_wp2_with fail
  go_loopw [6, 11] (fun i _ wr => ∃ n : Nat, n ≤ 16 ∧ i = .int .i64 (n : Int) ∧ PaV w p zeroP wr ∧ ∀ x, LnOk x → x.n < n → lineT x ≠ l) (fun i _ _ => 16 - (intOf i).toNat)
  case atStart => exact ⟨0, by omega, rfl, HG0.out, fun x _ h => by omega⟩
  case round =>
    obtain ⟨n, hn, rfl, hg, hno⟩ := hrel
    have HG := Lib.hid hg
    have HNo := Lib.hid hno
    clear hg hno HG0
    by_cases hlt : n < 16
    · have dn : decide ((n : Int) < 16) = true := by simp; omega
      have dn2 : decide (n < 16) = true := by simpa using hlt
      have HNl := Lib.hid hlt
      have hwn : IntKind.i64.wrap ((n : Int) + 1) = (n : Int) + 1 := by rw [IntKind.wrap_i64]; omega
      have HWi := Lib.hid (fun V => rWith_yes 0 (n : Int) V (by decide) (by omega) (by omega))
      rw [Int.toNat_natCast] at HWi
      have HDl := Lib.hid (show (dig n).length ≤ 2 from (dig_len ⟨n, hlt⟩).2)
      have HHd := Lib.hid (show 114 :: 111 :: 108 :: 101 :: 32 :: (dig n ++ [32]) = headD n from rfl)
      clear hlt hn
      go_wp2_with fail
      refine (HWi.out _).mono ?_
      rintro e wx ⟨rfl, rfl⟩
      go_wp2_with fail
      refine (HN.out n HNl.out _).mono ?_
      rintro e wx ⟨rfl, rfl⟩
      go_upto_region 6 with (first
        | (refine wpList_of rfl (exec_cat (l := [114, 111, 108, 101, 32]) (m := dig n) rfl rfl rfl (by have := HDl.out; simp at this ⊢; omega)) ?_)
        | (refine wpList_of rfl (exec_cat (l := [114, 111, 108, 101, 32] ++ dig n) (m := [32]) rfl rfl rfl (by have := HDl.out; simp at this ⊢; omega)) ?_))
      rw [HHd.out]
      have HHl := Lib.hid (show (headD n).length ≤ 8 by have := HDl.out; simp [headD]; omega)
      generalize hhd : headD n = hd at *
      have HHe := Lib.hid hhd
      clear HHd hhd
      obtain ⟨c, hc⟩ : ∃ c : Bool, c = true ↔ ∃ r, r ≠ [] ∧ l = hd ++ r := by
        by_cases hx : ∃ r, r ≠ [] ∧ l = hd ++ r
        · exact ⟨true, ⟨(fun _ => hx), (fun _ => rfl)⟩⟩
        · exact ⟨false, ⟨(fun h => by cases h), (fun h => absurd h hx)⟩⟩
      have HC := Lib.hid hc
      clear hc
      go_cut [36] (fun s wx => s = .bool c ∧ wx = wr)
      case first =>
        have hx1 := str_upto l hd.length
        have z0 : (0 : Int) ≤ (hd.length : Int) := by omega
        by_cases hgl : hd.length < l.length
        · have d1 : decide ((hd.length : Int) < (l.length : Int)) = true := by simp; omega
          have d2 : decide (hd.length < l.length) = true := by simpa using hgl
          have z1 : (hd.length : Int) ≤ (l.length : Int) := by omega
          by_cases ht : l.take hd.length = hd
          · have HE := Lib.hid (show c = true from HC.out.2 ⟨l.drop hd.length, fun e => by
              have := congrArg List.length e
              rw [List.length_drop, List.length_nil] at this
              omega, by
              have := List.take_append_drop hd.length l
              rw [ht] at this
              exact this.symm⟩)
            rw [ht] at hx1
            clear hgl ht
            go_wp2_with fail
            go_meet
            exact ⟨by rw [HE.out], rfl⟩
          · have HE := Lib.hid (show c = false by
              cases hcc : c with
              | false => rfl
              | true =>
                obtain ⟨r, -, hr⟩ := HC.out.1 hcc
                exact absurd (by rw [hr]; exact List.take_left' rfl) ht)
            have q : (l.take hd.length == hd) = false := by simpa using ht
            clear hgl ht
            go_wp2_with fail
            go_meet
            exact ⟨by rw [HE.out], rfl⟩
        · have d1 : decide ((hd.length : Int) < (l.length : Int)) = false := by simp; omega
          have d2 : decide (hd.length < l.length) = false := by simpa using hgl
          have HE := Lib.hid (show c = false by
            cases hcc : c with
            | false => rfl
            | true =>
              obtain ⟨r, hne, hr⟩ := HC.out.1 hcc
              have := List.length_pos_iff.2 hne
              rw [hr, List.length_append] at hgl
              omega)
          clear hgl
          go_wp2_with fail
          go_meet
          exact ⟨by rw [HE.out], rfl⟩
      case rest =>
        obtain ⟨rfl, rfl⟩ := hcut
        go_upto_if 36 with fail
        cases c with
        | true =>
          obtain ⟨r, hne, hr⟩ := HC.out.1 rfl
          have hlen : l.length = hd.length + r.length := by rw [hr, List.length_append]
          have hx2 : (⟨l.toArray⟩ : ByteArray).extract hd.length l.length = ⟨r.toArray⟩ := by
            rw [str_from, hr, List.drop_left' rfl]
          have z0 : (0 : Int) ≤ (hd.length : Int) := by omega
          have z1 : (hd.length : Int) ≤ (l.length : Int) := by omega
          obtain ⟨a, b, ok, ha, hb, hok, hP⟩ : ∃ (a b : Nat) (ok : Bool), a < 65536 ∧ b < 65536 ∧ (if ok = true then textL a b = r else ¬ TextD r) ∧ ∀ V, Calls Tryz.prog 54 #[.string ⟨r.toArray⟩] V fun e w' => e = .returned (.tuple #[.agg #[.int .u16 (a : Int), .int .u16 (b : Int)], .bool ok]) ∧ Below V.heap.size V w' := by
            by_cases ht : TextD r
            · obtain ⟨a, b, ha, hb, hab⟩ := ht
              exact ⟨a, b, true, ha, hb, hab, fun V => hab ▸ HCl.out.1 a b V ha hb⟩
            · exact ⟨0, 0, false, by decide, by decide, ht, fun V => HCl.out.2 r V (by have := HLl.out; omega) ht⟩
          have HPr := Lib.hid hP
          have HE := Lib.hid (show (if ok = true then (∃ x, lineOf l = some x ∧ doD p ⟨3, n, 0, a, b⟩ = doD p x) else lineOf l = none) ∧ PolOk (doD p ⟨3, n, 0, a, b⟩) from by
            refine ⟨?_, doD_ok HPk.out (role_ok HNl.out ha hb)⟩
            cases ok with
            | true =>
              refine ⟨⟨3, n, 0, a, b⟩, ?_, rfl⟩
              have hab : textL a b = r := hok
              rw [show l = lineT ⟨3, n, 0, a, b⟩ by rw [headD_line, hab, HHe.out]; exact hr]
              exact lineOf_is (role_ok HNl.out ha hb)
            | false =>
              have hab : ¬ TextD r := hok
              exact line_of_text HNl.out (by rw [HHe.out]; exact hr) hab)
          have HQ := Lib.hid (show doD p ⟨3, n, 0, a, b⟩ = ((p.putL (withN p.live n)).putS n a).putI n b from rfl)
          generalize doD p ⟨3, n, 0, a, b⟩ = rP at *
          have HWl := Lib.hid (fun V => rWith_yes p.live (n : Int) V HPk.out.live (by omega) (by have := HNl.out; omega))
          rw [Int.toNat_natCast] at HWl
          clear hne hr hlen hok hP ha hb
          go_wp2_with fail
          refine (HPr.out _).mono ?_
          rintro e w5 ⟨rfl, hB5⟩
          have HG5 := Lib.hid (HG.out.step hB5)
          have hz := Blk.new w5 #[.int .u16 0, .int .u16 0] 24
          clear hB5 HG hx2 z0 z1 HPr
          go_upto_region 8 with (refine wpList_store_arr rfl rfl _ _ _ rfl rfl rfl hz infoLbD rfl (by simp [Value.oneCell']) ?_; intro w6 hw6)
          have HG6 := Lib.hid (HG5.out.step ((belowNew w5 _).trans (hw6.below (by simp) (Nat.le_refl _))))
          have HL6 := Lib.hid (And.intro hw6.blk (show w.heap.size ≠ w5.heap.size by have := HG5.out.res.lt; omega))
          clear hw6 hz HG5
          generalize w5.heap.size = bl at *
          have k0 := HG6.out.row.live
          have f0 := Blk.free HG6.out.row 0
          go_wp2_with fail
          refine (HWl.out _).mono ?_
          rintro e wx ⟨rfl, rfl⟩
          have HG7 := Lib.hid (HG6.out.cell (HG6.out.row.putL (withN p.live n)))
          have HL7 := Lib.hid (((Chg.refl (fun j => j = w.heap.size) w6).setCell (p := ⟨w.heap.size, 0, none⟩) (fun _ => rfl) (.int .u16 (withN p.live n : Nat))).kept HL6.out.1 (fun e => HL6.out.2 e.symm))
          go_upto_region 9 with fail
          generalize w6.setCell _ _ = w7 at *
          clear k0 f0 HG6 HWl
          have hlab := HL7.out
          have hrw := HG7.out.row
          have j0 : (0 : Int) ≤ (n : Int) := by omega
          have j1 : (n : Int) < 16 := by have := HNl.out; omega
          go_upto_region 10 with (first
            | (refine wpList_load_arr rfl _ _ rfl rfl hlab Tryz.underlying24 rfl infoLbD ?_)
            | (refine wpList_store_mid (new := #[.int .u16 (a : Int), .int .u16 (b : Int)]) (off := 1 + n * 2) rfl rfl _ _ _ rfl rfl rfl hrw (by show 1 + n * 2 + 2 ≤ (polC _).size; rw [polC_size]; have := HNl.out; omega) (by simp [Value.oneCell']) infoLbD ?_; intro w8 hw8))
          have HG8 := Lib.hid (HG7.out.put (hrw.putLab HNl.out hw8) (hrw.putLab HNl.out hw8).blk)
          clear hw8 hrw hlab HG7 HL7
          have hrow := HG8.out.row
          have hres := HG8.out.res
          go_wp2_with (first | (refine wpList_load_arr rfl _ _ rfl rfl hrow Tryz.underlying29 rfl (infoPol _) ?_) | (refine wpList_store_arr rfl rfl _ _ _ rfl rfl rfl hres (infoPol _) (by rw [polC_size, polC_size]) (polC_one _) ?_; intro w9 hw9))
          exact bodyPost_ret (v := .tuple #[.agg (polC (((p.putL (withN p.live n)).putS n a).putI n b)), .bool ok]) (results_pol2 rfl rfl rfl hw9.blk) rfl ⟨((p.putL (withN p.live n)).putS n a).putI n b, ok, rfl, by rw [← HQ.out]; exact HE.out.2, by rw [← HQ.out]; exact HE.out.1, HG8.out.out hw9⟩
        | false =>
          have HNh := Lib.hid (show ¬ ∃ r, r ≠ [] ∧ l = headD n ++ r from fun h => by rw [HHe.out] at h; cases HC.out.2 h)
          clear HC HCl
          go_wp2_with fail
          refine (HN.out n HNl.out _).mono ?_
          rintro e wx ⟨rfl, rfl⟩
          by_cases hk : l = [100, 101, 97, 100, 32] ++ dig n
          · have HK0 := Lib.hid hk
            have HX := Lib.hid (show lineOf l = some ⟨0, n, 0, 0, 0⟩ by rw [show l = lineT ⟨0, n, 0, 0, 0⟩ by rw [lineT_one (by decide) (by decide)]; exact hk]; exact lineOf_is (oneD_ok (by decide) HNl.out))
            have HO := Lib.hid (doD_ok (x := ⟨0, n, 0, 0, 0⟩) HPk.out (oneD_ok (by decide) HNl.out))
            clear hk
            have HLs := Lib.hid (fun V => rLess_any p.active (withN 0 n) V HPk.out.active (withN_lt (by decide) HNl.out))
            have k0 := HG.out.row.active
            have f0 := Blk.free HG.out.row 65
            go_wp2_with (first | (refine wpList_of rfl (exec_cat (l := [100, 101, 97, 100, 32]) (m := dig n) rfl rfl rfl (by have := HDl.out; simp; omega)) ?_) | (refine wpList_of rfl (exec_streq (l := l) (m := [100, 101, 97, 100, 32] ++ dig n) (b := true) rfl rfl rfl (by simpa using HK0.out)) ?_))
            refine (HLs.out _).mono ?_
            rintro e wy ⟨rfl, rfl⟩
            have HP := Lib.hid (HG.out.cell (HG.out.row.putAct (lessN p.active (withN 0 n))))
            go_upto_region 14 with fail
            generalize wc.setCell _ _ = w6 at *
            have hrow := HP.out.row
            have hres := HP.out.res
            go_wp2_with (first | (refine wpList_load_arr rfl _ _ rfl rfl hrow Tryz.underlying29 rfl (infoPol _) ?_) | (refine wpList_store_arr rfl rfl _ _ _ rfl rfl rfl hres (infoPol _) (by rw [polC_size, polC_size]) (polC_one _) ?_; intro w9 hw9))
            exact bodyPost_ret (v := .tuple #[.agg (polC (p.putAct (lessN p.active (withN 0 n)))), .bool true]) (results_pol2 rfl rfl rfl hw9.blk) rfl ⟨p.putAct (lessN p.active (withN 0 n)), true, rfl, HO.out, ⟨_, HX.out, rfl⟩, HP.out.out hw9⟩
          have HK0 := Lib.hid hk
          clear hk
          go_wp2_with (first | (refine wpList_of rfl (exec_cat (l := [100, 101, 97, 100, 32]) (m := dig n) rfl rfl rfl (by have := HDl.out; simp; omega)) ?_) | (refine wpList_of rfl (exec_streq (l := l) (m := [100, 101, 97, 100, 32] ++ dig n) (b := false) rfl rfl rfl (by simpa using HK0.out)) ?_))
          refine (HN.out n HNl.out _).mono ?_
          rintro e wx ⟨rfl, rfl⟩
          by_cases hk : l = [117, 115, 101, 100, 32] ++ dig n
          · have HK1 := Lib.hid hk
            have HX := Lib.hid (show lineOf l = some ⟨1, n, 0, 0, 0⟩ by rw [show l = lineT ⟨1, n, 0, 0, 0⟩ by rw [lineT_one (by decide) (by decide)]; exact hk]; exact lineOf_is (oneD_ok (by decide) HNl.out))
            have HO := Lib.hid (doD_ok (x := ⟨1, n, 0, 0, 0⟩) HPk.out (oneD_ok (by decide) HNl.out))
            clear hk
            have HLs := Lib.hid (fun V => rWith_yes p.active (n : Int) V HPk.out.active (by omega) (by have := HNl.out; omega))
            rw [Int.toNat_natCast] at HLs
            have k0 := HG.out.row.active
            have f0 := Blk.free HG.out.row 65
            go_wp2_with (first | (refine wpList_of rfl (exec_cat (l := [117, 115, 101, 100, 32]) (m := dig n) rfl rfl rfl (by have := HDl.out; simp; omega)) ?_) | (refine wpList_of rfl (exec_streq (l := l) (m := [117, 115, 101, 100, 32] ++ dig n) (b := true) rfl rfl rfl (by simpa using HK1.out)) ?_))
            refine (HLs.out _).mono ?_
            rintro e wy ⟨rfl, rfl⟩
            have HP := Lib.hid (HG.out.cell (HG.out.row.putAct (withN p.active n)))
            go_upto_region 17 with fail
            generalize wc.setCell _ _ = w6 at *
            have hrow := HP.out.row
            have hres := HP.out.res
            go_wp2_with (first | (refine wpList_load_arr rfl _ _ rfl rfl hrow Tryz.underlying29 rfl (infoPol _) ?_) | (refine wpList_store_arr rfl rfl _ _ _ rfl rfl rfl hres (infoPol _) (by rw [polC_size, polC_size]) (polC_one _) ?_; intro w9 hw9))
            exact bodyPost_ret (v := .tuple #[.agg (polC (p.putAct (withN p.active n))), .bool true]) (results_pol2 rfl rfl rfl hw9.blk) rfl ⟨p.putAct (withN p.active n), true, rfl, HO.out, ⟨_, HX.out, rfl⟩, HP.out.out hw9⟩
          have HK1 := Lib.hid hk
          clear hk
          go_wp2_with (first | (refine wpList_of rfl (exec_cat (l := [117, 115, 101, 100, 32]) (m := dig n) rfl rfl rfl (by have := HDl.out; simp; omega)) ?_) | (refine wpList_of rfl (exec_streq (l := l) (m := [117, 115, 101, 100, 32] ++ dig n) (b := false) rfl rfl rfl (by simpa using HK1.out)) ?_))
          refine (HN.out n HNl.out _).mono ?_
          rintro e wx ⟨rfl, rfl⟩
          by_cases hk : l = [103, 111, 110, 101, 32] ++ dig n
          · have HK2 := Lib.hid hk
            have HX := Lib.hid (show lineOf l = some ⟨2, n, 0, 0, 0⟩ by rw [show l = lineT ⟨2, n, 0, 0, 0⟩ by rw [lineT_one (by decide) (by decide)]; exact hk]; exact lineOf_is (oneD_ok (by decide) HNl.out))
            have HO := Lib.hid (doD_ok (x := ⟨2, n, 0, 0, 0⟩) HPk.out (oneD_ok (by decide) HNl.out))
            clear hk
            have HLs := Lib.hid (fun V => rLess_any p.live (withN 0 n) V HPk.out.live (withN_lt (by decide) HNl.out))
            have k0 := HG.out.row.live
            have f0 := Blk.free HG.out.row 0
            go_wp2_with (first | (refine wpList_of rfl (exec_cat (l := [103, 111, 110, 101, 32]) (m := dig n) rfl rfl rfl (by have := HDl.out; simp; omega)) ?_) | (refine wpList_of rfl (exec_streq (l := l) (m := [103, 111, 110, 101, 32] ++ dig n) (b := true) rfl rfl rfl (by simpa using HK2.out)) ?_))
            refine (HLs.out _).mono ?_
            rintro e wy ⟨rfl, rfl⟩
            have HG7 := Lib.hid (HG.out.cell (HG.out.row.putL (lessN p.live (withN 0 n))))
            go_upto_region 20 with fail
            generalize wc.setCell _ _ = w7 at *
            clear k0 f0
            have hrw := HG7.out.row
            have j0 : (0 : Int) ≤ (n : Int) := by omega
            have j1 : (n : Int) < 16 := by have := HNl.out; omega
            go_upto_region 21 with (refine wpList_store_mid (new := #[.int .u16 ((0 : Nat) : Int), .int .u16 ((0 : Nat) : Int)]) (off := 1 + n * 2) rfl rfl _ _ _ rfl rfl rfl hrw (by show 1 + n * 2 + 2 ≤ (polC _).size; rw [polC_size]; have := HNl.out; omega) (by simp [Value.oneCell']) infoLbD ?_; intro w8 hw8)
            have HG8 := Lib.hid (HG7.out.put (hrw.putLab HNl.out hw8) (hrw.putLab HNl.out hw8).blk)
            clear hw8 hrw HG7
            have hrow := HG8.out.row
            have hres := HG8.out.res
            go_wp2_with (first | (refine wpList_load_arr rfl _ _ rfl rfl hrow Tryz.underlying29 rfl (infoPol _) ?_) | (refine wpList_store_arr rfl rfl _ _ _ rfl rfl rfl hres (infoPol _) (by rw [polC_size, polC_size]) (polC_one _) ?_; intro w9 hw9))
            exact bodyPost_ret (v := .tuple #[.agg (polC (((p.putL (lessN p.live (withN 0 n))).putS n 0).putI n 0)), .bool true]) (results_pol2 rfl rfl rfl hw9.blk) rfl ⟨((p.putL (lessN p.live (withN 0 n))).putS n 0).putI n 0, true, rfl, HO.out, ⟨_, HX.out, rfl⟩, HG8.out.out hw9⟩
          have HK2 := Lib.hid hk
          clear hk
          go_wp2_with (first | (refine wpList_of rfl (exec_cat (l := [103, 111, 110, 101, 32]) (m := dig n) rfl rfl rfl (by have := HDl.out; simp; omega)) ?_) | (refine wpList_of rfl (exec_streq (l := l) (m := [103, 111, 110, 101, 32] ++ dig n) (b := false) rfl rfl rfl (by simpa using HK2.out)) ?_))
          refine (HN.out n HNl.out _).mono ?_
          rintro e wx ⟨rfl, rfl⟩
          by_cases hk : l = [102, 114, 101, 101, 32] ++ dig n
          · have HK7 := Lib.hid hk
            have HX := Lib.hid (show lineOf l = some ⟨7, n, 0, 0, 0⟩ by rw [show l = lineT ⟨7, n, 0, 0, 0⟩ by rw [lineT_one (by decide) (by decide)]; exact hk]; exact lineOf_is (oneD_ok (by decide) HNl.out))
            have HO := Lib.hid (doD_ok (x := ⟨7, n, 0, 0, 0⟩) HPk.out (oneD_ok (by decide) HNl.out))
            clear hk
            have k0 := HG.out.row.owner HNl.out
            have f0 := Blk.free HG.out.row (49 + n)
            have j0 : (0 : Int) ≤ (n : Int) := by omega
            have j1 : (n : Int) < 16 := by have := HNl.out; omega
            have HP := Lib.hid (HG.out.cell (HG.out.row.putO HNl.out 16))
            go_upto_region 24 with (first | (refine wpList_of rfl (exec_cat (l := [102, 114, 101, 101, 32]) (m := dig n) rfl rfl rfl (by have := HDl.out; simp; omega)) ?_) | (refine wpList_of rfl (exec_streq (l := l) (m := [102, 114, 101, 101, 32] ++ dig n) (b := true) rfl rfl rfl (by simpa using HK7.out)) ?_))
            generalize wc.setCell _ _ = w6 at *
            have hrow := HP.out.row
            have hres := HP.out.res
            go_wp2_with (first | (refine wpList_load_arr rfl _ _ rfl rfl hrow Tryz.underlying29 rfl (infoPol _) ?_) | (refine wpList_store_arr rfl rfl _ _ _ rfl rfl rfl hres (infoPol _) (by rw [polC_size, polC_size]) (polC_one _) ?_; intro w9 hw9))
            exact bodyPost_ret (v := .tuple #[.agg (polC (p.putO n 16)), .bool true]) (results_pol2 rfl rfl rfl hw9.blk) rfl ⟨p.putO n 16, true, rfl, HO.out, ⟨_, HX.out, rfl⟩, HP.out.out hw9⟩
          have HK7 := Lib.hid hk
          clear hk
          go_upto_region 25 with (first | (refine wpList_of rfl (exec_cat (l := [102, 114, 101, 101, 32]) (m := dig n) rfl rfl rfl (by have := HDl.out; simp; omega)) ?_) | (refine wpList_of rfl (exec_streq (l := l) (m := [102, 114, 101, 101, 32] ++ dig n) (b := false) rfl rfl rfl (by simpa using HK7.out)) ?_))
          have HZ := Lib.hid (show ∀ k, k < 3 ∨ k = 7 → l ≠ lineT ⟨k, n, 0, 0, 0⟩ from fun k hk e => by
            rw [lineT_one (by omega) (by omega)] at e
            rcases show k = 0 ∨ k = 1 ∨ k = 2 ∨ k = 7 by omega with rfl | rfl | rfl | rfl
            · exact HK0.out e
            · exact HK1.out e
            · exact HK2.out e
            · exact HK7.out e)
          clear HK0 HK1 HK2 HK7
          go_wp2_with fail
          go_loopw [11, 12] (fun i _ wr => ∃ m : Nat, m ≤ 16 ∧ i = .int .i64 (m : Int) ∧ PaV w p zeroP wr ∧ ∀ m', m' < m → pairB l n m' = false) (fun i _ _ => 16 - (intOf i).toNat)
          case atStart => exact ⟨0, by omega, rfl, HG.out, fun m' h => by omega⟩
          case round =>
            obtain ⟨m, hm, rfl, hg, hno⟩ := hrel
            have HG2 := Lib.hid hg
            have HNm := Lib.hid hno
            clear hg hno HG
            by_cases hlm : m < 16
            · have dm : decide ((m : Int) < 16) = true := by simp; omega
              have dm2 : decide (m < 16) = true := by simpa using hlm
              have HMl := Lib.hid hlm
              have hwm : IntKind.i64.wrap ((m : Int) + 1) = (m : Int) + 1 := by rw [IntKind.wrap_i64]; omega
              have hrow := HG2.out.row
              clear hlm hm
              go_wp2_with (refine wpList_load_arr rfl _ _ rfl rfl hrow Tryz.underlying29 rfl (infoPol _) ?_)
              refine (HPa.out n m HNl.out HMl.out _).mono ?_
              rintro e w5 ⟨rfl, hB5⟩
              have HG5 := Lib.hid (HG2.out.step hB5)
              have HPn := Lib.hid (show pairB l n m = true → PolOk (pairP p l n m) ∧ ∃ x, lineOf l = some x ∧ pairP p l n m = doD p x from fun h => by
                unfold pairB at h
                rw [decide_eq_true_iff] at h
                have key : ∀ k, k = 4 ∨ k = 5 ∨ k = 6 → l = lineT ⟨k, n, m, 0, 0⟩ → lineOf l = some ⟨k, n, m, 0, 0⟩ := fun k hk e => by rw [e]; exact lineOf_is (two_ok hk HNl.out HMl.out)
                unfold pairP
                split
                · rename_i e
                  exact ⟨doD_ok HPk.out (two_ok (.inl rfl) HNl.out HMl.out), _, key 4 (.inl rfl) e, rfl⟩
                split
                · rename_i e
                  exact ⟨doD_ok HPk.out (two_ok (.inr (.inl rfl)) HNl.out HMl.out), _, key 5 (.inr (.inl rfl)) e, rfl⟩
                split
                · rename_i e
                  exact ⟨doD_ok HPk.out (two_ok (.inr (.inr rfl)) HNl.out HMl.out), _, key 6 (.inr (.inr rfl)) e, rfl⟩
                · rename_i h1 h2 h3
                  exact absurd h (fun h => h.elim h1 (fun h => h.elim h2 h3)))
              have HNn := Lib.hid (show pairB l n m = false → ∀ m', m' < m + 1 → pairB l n m' = false from fun h m' hm' => by
                by_cases e : m' = m
                · rw [e]; exact h
                · exact HNm.out m' (by omega))
              clear hB5 HG2 hrow
              generalize pairP p l n m = rP at *
              generalize pairB l n m = rB at *
              have hz := PRow.new w5 zeroP
              go_upto_region 29 with (refine wpList_store_arr rfl rfl _ _ _ rfl rfl rfl hz (infoPol _) (by rw [polC_size, polC_size]) (polC_one _) ?_; intro w6 hw6)
              have HG6 := Lib.hid (HG5.out.step ((belowNew w5 _).trans (hw6.below (by simp) (Nat.le_refl _))))
              have HR6 := Lib.hid (show PRow w6 w5.heap.size rP from hw6.blk)
              clear hw6 hz HG5
              generalize w5.heap.size = bq at *
              cases rB with
              | true =>
                have HX := Lib.hid (HPn.out rfl)
                have hrow := HR6.out
                have hres := HG6.out.res
                go_wp2_with (first | (refine wpList_load_arr rfl _ _ rfl rfl hrow Tryz.underlying29 rfl (infoPol _) ?_) | (refine wpList_store_arr rfl rfl _ _ _ rfl rfl rfl hres (infoPol _) (by rw [polC_size, polC_size]) (polC_one _) ?_; intro w9 hw9))
                exact bodyPost_ret (v := .tuple #[.agg (polC rP), .bool true]) (results_pol2 rfl rfl rfl hw9.blk) rfl ⟨rP, true, rfl, HX.out.1, HX.out.2, HG6.out.out hw9⟩
              | false =>
                have HX := Lib.hid (HNn.out rfl)
                go_wp2_with fail
                go_roundw
                case rel => exact ⟨m + 1, by have := HMl.out; omega, by go_num, HG6.out, HX.out⟩
                case measure => have := HMl.out; simp [intOf]; omega
            · have dm : decide ((m : Int) < 16) = false := by simp; omega
              have dm2 : decide (m < 16) = false := by simpa using hlm
              obtain rfl : m = 16 := by omega
              have HX := Lib.hid (show ∀ x, LnOk x → x.n < n + 1 → lineT x ≠ l from fun x hx hxn e => by
                by_cases hxe : x.n = n
                · subst hxe
                  exact line_kinds hx e HNh.out HZ.out HNm.out
                · exact HNo.out x hx (by omega) e)
              clear hlm hm
              go_wp2_with fail
              go_roundw
              case rel => first | exact ⟨n + 1, by have := HNl.out; omega, by go_num, HG2.out, HX.out⟩ | ((repeat apply Exists.intro); exact ⟨⟨n + 1, by have := HNl.out; omega, by go_num, HG2.out, HX.out⟩, rfl⟩)
              case measure => have := HNl.out; simp [intOf]; omega
    · have dn : decide ((n : Int) < 16) = false := by simp; omega
      have dn2 : decide (n < 16) = false := by simpa using hlt
      obtain rfl : n = 16 := by omega
      have HX := Lib.hid (lineOf_none (l := l) fun x hx => HNo.out x hx hx.n)
      have hrow := HG.out.row
      have hres := HG.out.res
      clear hlt hn
      go_wp2_with (first | (refine wpList_load_arr rfl _ _ rfl rfl hrow Tryz.underlying29 rfl (infoPol _) ?_) | (refine wpList_store_arr rfl rfl _ _ _ rfl rfl rfl hres (infoPol _) (by rw [polC_size, polC_size]) (polC_one _) ?_; intro w9 hw9))
      exact bodyPost_ret (v := .tuple #[.agg (polC p), .bool false]) (results_pol2 rfl rfl rfl hw9.blk) rfl ⟨p, false, rfl, HPk.out, HX.out, HG.out.out hw9⟩
end Go.Proofs.YtmaachmidgfhdaaGreatDoor

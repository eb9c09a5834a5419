/-
  The law WireBack: what was written is read.
-/
import Derived.Test.YtnajbkijejlgiaaPartA
import Derived.Test.YtnajbkijejlgiaaStage
namespace Go.Proofs.Ytnajbkijejlgiaa
open Go.RowKit

set_option maxRecDepth 100000 in
set_option maxHeartbeats 8000000 in
theorem wback_near (v : Value) (l : List PartM) (w : World) (h : PartsAt w v l) (hf : farB l = false) : Calls Try.prog 5 #[v] w fun e w' => e = .returned (.bool true) ∧ Below w.heap.size w w' := by
  obtain ⟨h40, hlong⟩ := farB_not hf
  have HF := Lib.hid (far_any v l w h)
  rw [hf] at HF
  obtain ⟨p, cap, rfl, hm, hc⟩ := h
  have HC := Lib.hid hc
  have HG := Lib.hid hlong
  have H0 := Lib.hid (WAt.new w 30)
  clear hc hlong hf
  go_enter Try.func5, Try.ntmps5
  go_wp2_with fail
  refine HF.out.mono ?_
  rintro e w' ⟨rfl, rfl⟩
  clear HF
  go_wp2_with fail
  go_loopw [4] (fun i wr => ∃ (k : Nat) (v' : Value), k ≤ l.length ∧ i = .int .i64 k ∧ WAt 5 w.heap.size wr w.heap.size 30 v' (wAll (l.take k)) ∧ Below w.heap.size w wr) (fun i _ => l.length - (intOf i).toNat)
  case atStart => exact ⟨0, _, Nat.zero_le _, rfl, H0.out, belowNew w _⟩
  case round =>
    obtain ⟨k, v', hk, rfl, hW, hB⟩ := hrel
    have HW := Lib.hid hW
    have HB := Lib.hid hB
    have HZ := Lib.hid (wAll_le h40 k)
    clear hW
    by_cases hlt : k < l.length
    · obtain ⟨b, off, rfl, hb, hcs⟩ := HC.out (by intro e; rw [e] at hlt; simp at hlt)
      obtain ⟨hs, c0, c1, c2, c3, c4⟩ := hcs k hlt
      have hs3 := longB_at HG.out k hlt
      replace c0 := (hB.cell (p := ⟨b, off + k * 5, none⟩) hb).trans c0
      replace c1 := (hB.cell (p := ⟨b, off + k * 5 + 1, none⟩) hb).trans c1
      replace c2 := (hB.cell (p := ⟨b, off + k * 5 + 2, none⟩) hb).trans c2
      replace c4 := (hB.cell (p := ⟨b, off + k * 5 + 4, none⟩) hb).trans c4
      have HT := Lib.hid (wAll_take hlt)
      clear hcs hs c3 hB
      generalize wAll (l.take k) = s at *
      generalize l[k] = q at *
      obtain ⟨qt, qn, qz, qm, qs⟩ := q
      simp only at c0 c1 c2 c4 hs3
      cases qt with
      | true =>
        go_wp2_with fail
        refine (wtext_any w.heap.size w.heap.size _ _ _ qs _ HW.out HB.out.size (by have := HZ.out; omega) (by omega)).mono ?_
        rintro e w2 ⟨rfl, v2, hT2⟩
        have HT2 := Lib.hid hT2
        clear hT2
        go_wp2_with fail
        go_roundw
        case rel => exact ⟨k + 1, v2, by omega, by go_num, by rw [HT.out, wPart_t rfl]; exact HT2.out.now, HB.out.trans (HT2.out.below HW.out HB.out.size (Nat.le_refl _))⟩
        case measure => simp [intOf]; omega
      | false =>
        go_wp2_with fail
        go_still_tail 10, (by kernel_rfl)
        change wpList _ _ _ _ _ (World.drew _)
        go_wp2_with fail
        refine (wnum_any w.heap.size w.heap.size _ _ _ qn qz _ (HW.out.below (Below.refl wr.heap.size wr).drew (Nat.le_refl _)) HB.out.size (by have := HZ.out; omega)).mono ?_
        rintro e w2 ⟨rfl, v2, hT2⟩
        have HT2 := Lib.hid (hT2.after (Below.refl wr.heap.size wr).drew)
        clear hT2
        go_wp2_with fail
        go_roundw
        case rel => exact ⟨k + 1, v2, by omega, by go_num, by rw [HT.out, wPart_f rfl]; exact HT2.out.now, HB.out.trans (HT2.out.below HW.out HB.out.size (Nat.le_refl _))⟩
        case measure => simp [intOf]; omega
    · have hT : l.take k = l := List.take_of_length_le (by omega)
      have HE := Lib.hid (fit_all l)
      have HA := Lib.hid (@wAll_zero l)
      rw [hT] at HW HZ
      clear hT hB
      generalize wAll l = s at *
      go_wp2_with fail
      refine (done_any w.heap.size w.heap.size _ _ _ _ HW.out (by have := HZ.out; omega)).mono ?_
      rintro e w2 ⟨v2, rfl, hn2, hB2⟩
      obtain ⟨p2, n2, k2, rfl, hb2, hp2⟩ := hn2
      have HB2 := Lib.hid (HB.out.trans (hB2.mono HB.out.size))
      have HS2 := Lib.hid hb2
      have HLT := Lib.hid (Nat.lt_of_lt_of_le HW.out.blk.lt hB2.size)
      clear hB2 hb2 hp2 HW HB
      by_cases he : s.2 = 0
      · have hz := HA.out he
        have hb0 : (s.2 != 0) = false := by simpa using he
        have HZ2 := Lib.hid hz
        clear HA HE hz he
        go_wp2_with fail
        refine (newRd_any _ _ _ _ _ HS2.out (by have := HZ.out; omega) (by have := HLT.out; omega)).mono ?_
        rintro e w3 ⟨br, g, rfl, hb3, hg3, hg3', hr3, hB3⟩
        have HB3 := Lib.hid (HB2.out.trans (hB3.mono HB2.out.size))
        have HR3 := Lib.hid (show RAt w3 br 60 g ((l.drop 0).flatMap encP, 0) by
          have h1 : s = ((l.drop 0).flatMap encP, 0) := HZ2.out.2
          rw [h1] at hr3; exact hr3)
        have HG3 := Lib.hid hg3
        have HBL := Lib.hid (Nat.le_trans HB2.out.size hb3)
        clear hB3 hr3 hg3 hg3' hb3 HB2
        go_wp2_with fail
        go_loopw [8] (fun i wr => ∃ j : Nat, j ≤ l.length ∧ i = .int .i64 j ∧ RAt wr br 60 g ((l.drop j).flatMap encP, 0) ∧ Below w.heap.size w wr) (fun i _ => l.length - (intOf i).toNat)
        case atStart => exact ⟨0, Nat.zero_le _, rfl, HR3.out, HB3.out⟩
        case round =>
          obtain ⟨j, hj, rfl, hR, hB⟩ := hrel
          have HR := Lib.hid hR
          have HB := Lib.hid hB
          clear hR
          by_cases hlt2 : j < l.length
          · obtain ⟨b, off, rfl, hb, hcs⟩ := HC.out (by intro e; rw [e] at hlt2; simp at hlt2)
            obtain ⟨-, c0, c1, c2, -, c4⟩ := hcs j hlt2
            have HO := Lib.hid (HZ2.out.1 l[j] (List.getElem_mem hlt2))
            have HD := Lib.hid (rest_drop hlt2)
            have hL : ((l.drop j).flatMap encP).length ≤ 1000000 := by have := HZ.out; have h1 := congrArg (fun x : WSt => x.1.length) HZ2.out.2; simp only at h1; have := drop_len l j; omega
            have HL := Lib.hid hL
            clear hcs hB hL
            generalize (l.drop j).flatMap encP = cur at *
            generalize hrest : (l.drop (j + 1)).flatMap encP = rest at *
            have HRE := Lib.hid hrest
            clear hrest
            generalize l[j] = q at *
            obtain ⟨qt, qn, qz, qm, qs⟩ := q
            simp only at c0 c1 c2 c4
            have HC0 := Lib.hid (fun V (hV : Below w.heap.size w V) => (hV.cell (p := ⟨b, off + j * 5, none⟩) hb).trans c0)
            have HC1 := Lib.hid (fun V (hV : Below w.heap.size w V) => (hV.cell (p := ⟨b, off + j * 5 + 1, none⟩) hb).trans c1)
            have HC2 := Lib.hid (fun V (hV : Below w.heap.size w V) => (hV.cell (p := ⟨b, off + j * 5 + 2, none⟩) hb).trans c2)
            have HC4 := Lib.hid (fun V (hV : Below w.heap.size w V) => (hV.cell (p := ⟨b, off + j * 5 + 4, none⟩) hb).trans c4)
            clear c0 c1 c2 c4
            cases qt with
            | true =>
              have ho : qs.data.toList.length ≤ 255 := of_decide_eq_true HO.out
              have hcur : cur = (UInt8.ofNat qs.data.toList.length :: qs.data.toList) ++ rest := HD.out
              have HT := Lib.hid (fun V (hV : Below w.heap.size w V ∧ RAt V br 60 g (cur, 0)) => (show Calls Try.prog 15 #[.pointer (some ⟨br, 0, none⟩), .int .i64 255] V fun e w'' => ∃ u, e = .returned u ∧ u = .string qs ∧ (Below w.heap.size w w'' ∧ RAt w'' br 60 g (rest, 0)) from
                (rdtext_any br _ g (cur, 0) 255 V hV.2 HG3.out HL.out).mono fun e w'' ⟨he, hR⟩ => by
                  rw [hcur, read_text ho] at he hR
                  exact ⟨_, he, rfl, hV.1.trans (hR.2.below hV.1.size fun k hk => hk ▸ HBL.out), hR.1⟩))
              have T0 := Lib.hid (And.intro HB.out.drew (show RAt wr.drew br 60 g (cur, 0) from (RTo.refl HR.out).drew.1))
              clear HD HO ho hcur
              go_wp2_with fail
              refine wp_region_S (fun k V => Below w.heap.size w V ∧ RAt V br 60 g (turnSt (cur, 0) (rest, 0) (rest, 0) k)) 1 [.val (.slice (some ⟨b, off, none⟩) l.length cap), .val (.int .i64 (j : Int)), .val (.pointer (some ⟨b, off + j * 5, none⟩)), .val (.pointer (some ⟨b, off + j * 5, none⟩)), .val (.bool true), .val (.bool true), .val (.pointer (some ⟨br, 0, none⟩)), .turn 0 (.string qs), .val (.slice (some ⟨b, off, none⟩) l.length cap), .val (.int .i64 (j : Int)), .val (.pointer (some ⟨b, off + j * 5, none⟩)), .val (.pointer (some ⟨b, off + j * 5 + 4, none⟩)), .val (.string qs), .val (.bool false), .val (.bool false), .val (.bool false), .val (.slice (some ⟨b, off, none⟩) l.length cap), .val (.int .i64 (j : Int)), .val (.pointer (some ⟨b, off + j * 5, none⟩)), .val (.pointer (some ⟨b, off + j * 5, none⟩)), .val (.bool true), .val (.bool false), .val (.bool false), .val undef, .val undef, .val undef, .val undef, .val undef, .val undef, .val undef, .val undef, .val undef, .val undef, .val undef, .val undef, .val undef, .val (.bool false), .val (.bool false)]
                (fun x => { tmps := #[.slice (some ⟨b, off, none⟩) l.length cap, undef, u2, .pointer (some ⟨w.heap.size, 0, none⟩), .int .i64 (k : Int), .slice p2 n2 k2, .int .i64 s.snd, .pointer (some ⟨br, 0, none⟩), .int .i64 (j : Int), .slice (some ⟨b, off, none⟩) l.length cap, .bool false, undef, .int .i64 (k : Int), .slice (some ⟨b, off, none⟩) l.length cap, .int .i64 (l.length : Int), .bool false, u16, u17, u18, u19, u20, u21, u22, u23, u24, u25, u26, u27, u28, u29, u30, u31, u32, u33, u34, u35, u36, u37, u38, u39, .tuple #[.slice p2 n2 k2, .int .i64 s.snd], .tuple #[.slice p2 n2 k2, .int .i64 s.snd], .slice p2 n2 k2, .int .i64 s.snd, .int .i64 s.snd, .bool false, undef, undef, undef, undef, undef, undef, .slice p2 n2 k2, .pointer (some ⟨br, 0, none⟩), .int .i64 (j : Int), .slice (some ⟨b, off, none⟩) l.length cap, .int .i64 (l.length : Int), .bool true, u58, u59, x 0, x 1, x 2, x 3, x 4, x 5, x 6, x 7, x 8, x 9, x 10, x 11, x 12, x 13, x 14, x 15, x 16, x 17, x 18, x 19, x 20, x 21, x 22, x 23, x 24, x 25, x 26, x 27, x 28, x 29, x 30, x 31, x 32, x 33, x 34, x 35, x 36, x 37, undef, undef, undef, undef, undef, undef, undef, undef, undef, undef, undef], defers := [] }) (fun i => ([u60, u61, u62, u63, u64, u65, u66, u67, u68, u69, u70, u71, u72, u73, u74, u75, u76, u77, u78, u79, u80, u81, u82, u83, u84, u85, u86, u87, u88, u89, u90, u91, u92, u93, u94, u95, u96, u97] : List Value).getD i undef) (by kernel_rfl) rfl rfl (by kernel_rfl) (by kernel_rfl) (by kernel_rfl) (by kernel_rfl) (T0.out) ?_ ?_
              · refine ⟨ObS.of_val rfl (fun x v => rfl) (fun x V k hC hD => ?_), ?_⟩
                · clear hD
                  refine want_yes rfl ?_
                  exact leads_value (v := .slice (some ⟨b, off, none⟩) l.length cap) (by go_simp) ⟨rfl, hC⟩
                refine ⟨ObS.of_val rfl (fun x v => rfl) (fun x V k hC hD => ?_), ?_⟩
                · clear hD
                  refine want_yes rfl ?_
                  exact leads_value (v := .int .i64 (j : Int)) (by go_simp) ⟨rfl, hC⟩
                refine ⟨ObS.of_val rfl (fun x v => rfl) (fun x V k hC hD => ?_), ?_⟩
                · have e0 : x 0 = .slice (some ⟨b, off, none⟩) l.length cap := hD.1 rfl
                  have e1 : x 1 = .int .i64 (j : Int) := hD.2.1 rfl
                  clear hD
                  refine want_yes rfl ?_
                  exact leads_value (v := .pointer (some ⟨b, off + j * 5, none⟩)) (by go_simp) ⟨rfl, hC⟩
                refine ⟨ObS.of_val rfl (fun x v => rfl) (fun x V k hC hD => ?_), ?_⟩
                · have e2 : x 2 = .pointer (some ⟨b, off + j * 5, none⟩) := hD.1 rfl
                  clear hD
                  refine want_yes rfl ?_
                  exact leads_value (v := .pointer (some ⟨b, off + j * 5, none⟩)) (by go_simp) ⟨rfl, hC⟩
                refine ⟨ObS.of_val rfl (fun x v => rfl) (fun x V k hC hD => ?_), ?_⟩
                · have e3 : x 3 = .pointer (some ⟨b, off + j * 5, none⟩) := hD.1 rfl
                  clear hD
                  refine want_yes rfl ?_
                  have k0 := HC0.out V hC.1
                  exact leads_value (v := .bool true) (by go_simp) ⟨rfl, hC⟩
                refine ⟨ObS.of_val rfl (fun x v => rfl) (fun x V k hC hD => ?_), ?_⟩
                · have e4 : x 4 = .bool true := hD.1 rfl
                  clear hD
                  refine want_yes rfl ?_
                  exact leads_value (v := .bool true) (by go_simp) ⟨rfl, hC⟩
                refine ⟨ObS.of_val rfl (fun x v => rfl) (fun x V k hC hD => ?_), ?_⟩
                · have e5 : x 5 = .bool true := hD.1 rfl
                  clear hD
                  refine want_yes (by simp [Region.wanted, yielded, e5]) ?_
                  exact leads_value (v := .pointer (some ⟨br, 0, none⟩)) (by go_simp) ⟨rfl, hC⟩
                refine ⟨ObS.of_turn rfl (fun x v => rfl) (fun x V hC hD => ?_), ?_⟩
                · have e6 : x 6 = .pointer (some ⟨br, 0, none⟩) := hD.1 rfl
                  have e5 : x 5 = .bool true := hD.2.1 rfl
                  clear hD
                  refine want_yes (by simp [Region.wanted, yielded, e5]) ?_
                  exact leads_enter2 (by go_simp) (HT.out V hC)
                refine ⟨ObS.of_val rfl (fun x v => rfl) (fun x V k hC hD => ?_), ?_⟩
                · have e5 : x 5 = .bool true := hD.1 rfl
                  clear hD
                  refine want_yes (by simp [Region.wanted, yielded, e5]) ?_
                  exact leads_value (v := .slice (some ⟨b, off, none⟩) l.length cap) (by go_simp) ⟨rfl, hC⟩
                refine ⟨ObS.of_val rfl (fun x v => rfl) (fun x V k hC hD => ?_), ?_⟩
                · have e5 : x 5 = .bool true := hD.1 rfl
                  clear hD
                  refine want_yes (by simp [Region.wanted, yielded, e5]) ?_
                  exact leads_value (v := .int .i64 (j : Int)) (by go_simp) ⟨rfl, hC⟩
                refine ⟨ObS.of_val rfl (fun x v => rfl) (fun x V k hC hD => ?_), ?_⟩
                · have e8 : x 8 = .slice (some ⟨b, off, none⟩) l.length cap := hD.1 rfl
                  have e9 : x 9 = .int .i64 (j : Int) := hD.2.1 rfl
                  have e5 : x 5 = .bool true := hD.2.2.1 rfl
                  clear hD
                  refine want_yes (by simp [Region.wanted, yielded, e5]) ?_
                  exact leads_value (v := .pointer (some ⟨b, off + j * 5, none⟩)) (by go_simp) ⟨rfl, hC⟩
                refine ⟨ObS.of_val rfl (fun x v => rfl) (fun x V k hC hD => ?_), ?_⟩
                · have e10 : x 10 = .pointer (some ⟨b, off + j * 5, none⟩) := hD.1 rfl
                  have e5 : x 5 = .bool true := hD.2.1 rfl
                  clear hD
                  refine want_yes (by simp [Region.wanted, yielded, e5]) ?_
                  exact leads_value (v := .pointer (some ⟨b, off + j * 5 + 4, none⟩)) (by go_simp) ⟨rfl, hC⟩
                refine ⟨ObS.of_val rfl (fun x v => rfl) (fun x V k hC hD => ?_), ?_⟩
                · have e11 : x 11 = .pointer (some ⟨b, off + j * 5 + 4, none⟩) := hD.1 rfl
                  have e5 : x 5 = .bool true := hD.2.1 rfl
                  clear hD
                  refine want_yes (by simp [Region.wanted, yielded, e5]) ?_
                  have k0 := HC4.out V hC.1
                  exact leads_value (v := .string qs) (by go_simp) ⟨rfl, hC⟩
                refine ⟨ObS.of_val rfl (fun x v => rfl) (fun x V k hC hD => ?_), ?_⟩
                · have e7 : x 7 = .string qs := hD.1 rfl
                  have e12 : x 12 = .string qs := hD.2.1 rfl
                  have e5 : x 5 = .bool true := hD.2.2.1 rfl
                  clear hD
                  refine want_yes (by simp [Region.wanted, yielded, e5]) ?_
                  exact leads_value (v := .bool false) (by go_simp) ⟨rfl, hC⟩
                refine ⟨ObS.of_val rfl (fun x v => rfl) (fun x V k hC hD => ?_), ?_⟩
                · have e5 : x 5 = .bool true := hD.1 rfl
                  have e13 : x 13 = .bool false := hD.2.1 rfl
                  clear hD
                  refine want_yes rfl ?_
                  exact leads_value (v := .bool false) (by go_simp) ⟨rfl, hC⟩
                refine ⟨ObS.of_val rfl (fun x v => rfl) (fun x V k hC hD => ?_), ?_⟩
                · have e14 : x 14 = .bool false := hD.1 rfl
                  have e7 : x 7 = .string qs := hD.2.1 rfl
                  clear hD
                  refine want_yes rfl ?_
                  exact leads_value (v := .bool false) (by go_simp) ⟨rfl, hC⟩
                refine ⟨ObS.of_val rfl (fun x v => rfl) (fun x V k hC hD => ?_), ?_⟩
                · have e15 : x 15 = .bool false := hD.1 rfl
                  clear hD
                  refine want_yes (by simp [Region.wanted, yielded, e15]) ?_
                  exact leads_value (v := .slice (some ⟨b, off, none⟩) l.length cap) (by go_simp) ⟨rfl, hC⟩
                refine ⟨ObS.of_val rfl (fun x v => rfl) (fun x V k hC hD => ?_), ?_⟩
                · have e15 : x 15 = .bool false := hD.1 rfl
                  clear hD
                  refine want_yes (by simp [Region.wanted, yielded, e15]) ?_
                  exact leads_value (v := .int .i64 (j : Int)) (by go_simp) ⟨rfl, hC⟩
                refine ⟨ObS.of_val rfl (fun x v => rfl) (fun x V k hC hD => ?_), ?_⟩
                · have e16 : x 16 = .slice (some ⟨b, off, none⟩) l.length cap := hD.1 rfl
                  have e17 : x 17 = .int .i64 (j : Int) := hD.2.1 rfl
                  have e15 : x 15 = .bool false := hD.2.2.1 rfl
                  clear hD
                  refine want_yes (by simp [Region.wanted, yielded, e15]) ?_
                  exact leads_value (v := .pointer (some ⟨b, off + j * 5, none⟩)) (by go_simp) ⟨rfl, hC⟩
                refine ⟨ObS.of_val rfl (fun x v => rfl) (fun x V k hC hD => ?_), ?_⟩
                · have e18 : x 18 = .pointer (some ⟨b, off + j * 5, none⟩) := hD.1 rfl
                  have e15 : x 15 = .bool false := hD.2.1 rfl
                  clear hD
                  refine want_yes (by simp [Region.wanted, yielded, e15]) ?_
                  exact leads_value (v := .pointer (some ⟨b, off + j * 5, none⟩)) (by go_simp) ⟨rfl, hC⟩
                refine ⟨ObS.of_val rfl (fun x v => rfl) (fun x V k hC hD => ?_), ?_⟩
                · have e19 : x 19 = .pointer (some ⟨b, off + j * 5, none⟩) := hD.1 rfl
                  have e15 : x 15 = .bool false := hD.2.1 rfl
                  clear hD
                  refine want_yes (by simp [Region.wanted, yielded, e15]) ?_
                  have k0 := HC0.out V hC.1
                  exact leads_value (v := .bool true) (by go_simp) ⟨rfl, hC⟩
                refine ⟨ObS.of_val rfl (fun x v => rfl) (fun x V k hC hD => ?_), ?_⟩
                · have e20 : x 20 = .bool true := hD.1 rfl
                  have e15 : x 15 = .bool false := hD.2.1 rfl
                  clear hD
                  refine want_yes (by simp [Region.wanted, yielded, e15]) ?_
                  exact leads_value (v := .bool false) (by go_simp) ⟨rfl, hC⟩
                refine ⟨ObS.of_val rfl (fun x v => rfl) (fun x V k hC hD => ?_), ?_⟩
                · have e21 : x 21 = .bool false := hD.1 rfl
                  have e15 : x 15 = .bool false := hD.2.1 rfl
                  clear hD
                  refine want_yes (by simp [Region.wanted, yielded, e15]) ?_
                  exact leads_value (v := .bool false) (by go_simp) ⟨rfl, hC⟩
                refine ⟨ObS.of_val rfl (fun x v => rfl) (fun x V k hC hD => ?_), ?_⟩
                · have e22 : x 22 = .bool false := hD.1 rfl
                  clear hD
                  exact want_no (by simp [Region.wanted, yielded, e22]) rfl
                refine ⟨ObS.of_val rfl (fun x v => rfl) (fun x V k hC hD => ?_), ?_⟩
                · have e22 : x 22 = .bool false := hD.1 rfl
                  clear hD
                  exact want_no (by simp [Region.wanted, yielded, e22]) rfl
                refine ⟨ObS.of_val rfl (fun x v => rfl) (fun x V k hC hD => ?_), ?_⟩
                · have e22 : x 22 = .bool false := hD.1 rfl
                  clear hD
                  exact want_no (by simp [Region.wanted, yielded, e22]) rfl
                refine ⟨ObS.of_val rfl (fun x v => rfl) (fun x V k hC hD => ?_), ?_⟩
                · have e24 : x 24 = undef := hD.1 rfl
                  have e25 : x 25 = undef := hD.2.1 rfl
                  have e22 : x 22 = .bool false := hD.2.2.1 rfl
                  clear hD
                  exact want_no (by simp [Region.wanted, yielded, e22]) rfl
                refine ⟨ObS.of_val rfl (fun x v => rfl) (fun x V k hC hD => ?_), ?_⟩
                · have e26 : x 26 = undef := hD.1 rfl
                  have e22 : x 22 = .bool false := hD.2.1 rfl
                  clear hD
                  exact want_no (by simp [Region.wanted, yielded, e22]) rfl
                refine ⟨ObS.of_val rfl (fun x v => rfl) (fun x V k hC hD => ?_), ?_⟩
                · have e27 : x 27 = undef := hD.1 rfl
                  have e22 : x 22 = .bool false := hD.2.1 rfl
                  clear hD
                  exact want_no (by simp [Region.wanted, yielded, e22]) rfl
                refine ⟨ObS.of_val rfl (fun x v => rfl) (fun x V k hC hD => ?_), ?_⟩
                · have e23 : x 23 = undef := hD.1 rfl
                  have e28 : x 28 = undef := hD.2.1 rfl
                  have e22 : x 22 = .bool false := hD.2.2.1 rfl
                  clear hD
                  exact want_no (by simp [Region.wanted, yielded, e22]) rfl
                refine ⟨ObS.of_val rfl (fun x v => rfl) (fun x V k hC hD => ?_), ?_⟩
                · have e22 : x 22 = .bool false := hD.1 rfl
                  clear hD
                  exact want_no (by simp [Region.wanted, yielded, e22]) rfl
                refine ⟨ObS.of_val rfl (fun x v => rfl) (fun x V k hC hD => ?_), ?_⟩
                · have e22 : x 22 = .bool false := hD.1 rfl
                  clear hD
                  exact want_no (by simp [Region.wanted, yielded, e22]) rfl
                refine ⟨ObS.of_val rfl (fun x v => rfl) (fun x V k hC hD => ?_), ?_⟩
                · have e30 : x 30 = undef := hD.1 rfl
                  have e31 : x 31 = undef := hD.2.1 rfl
                  have e22 : x 22 = .bool false := hD.2.2.1 rfl
                  clear hD
                  exact want_no (by simp [Region.wanted, yielded, e22]) rfl
                refine ⟨ObS.of_val rfl (fun x v => rfl) (fun x V k hC hD => ?_), ?_⟩
                · have e32 : x 32 = undef := hD.1 rfl
                  have e22 : x 22 = .bool false := hD.2.1 rfl
                  clear hD
                  exact want_no (by simp [Region.wanted, yielded, e22]) rfl
                refine ⟨ObS.of_val rfl (fun x v => rfl) (fun x V k hC hD => ?_), ?_⟩
                · have e33 : x 33 = undef := hD.1 rfl
                  have e22 : x 22 = .bool false := hD.2.1 rfl
                  clear hD
                  exact want_no (by simp [Region.wanted, yielded, e22]) rfl
                refine ⟨ObS.of_val rfl (fun x v => rfl) (fun x V k hC hD => ?_), ?_⟩
                · have e29 : x 29 = undef := hD.1 rfl
                  have e34 : x 34 = undef := hD.2.1 rfl
                  have e22 : x 22 = .bool false := hD.2.2.1 rfl
                  clear hD
                  exact want_no (by simp [Region.wanted, yielded, e22]) rfl
                refine ⟨ObS.of_val rfl (fun x v => rfl) (fun x V k hC hD => ?_), ?_⟩
                · have e22 : x 22 = .bool false := hD.1 rfl
                  have e35 : x 35 = undef := hD.2.1 rfl
                  have e15 : x 15 = .bool false := hD.2.2.1 rfl
                  clear hD
                  refine want_yes (by simp [Region.wanted, yielded, e15]) ?_
                  exact leads_value (v := .bool false) (by go_simp) ⟨rfl, hC⟩
                refine ⟨ObS.of_val rfl (fun x v => rfl) (fun x V k hC hD => ?_), ?_⟩
                · have e15 : x 15 = .bool false := hD.1 rfl
                  have e36 : x 36 = .bool false := hD.2.1 rfl
                  clear hD
                  refine want_yes rfl ?_
                  exact leads_value (v := .bool false) (by go_simp) ⟨rfl, hC⟩
                trivial
              · intro x V hC hx
                have e37 : x 37 = .bool false := hx 37 (by simp)
                have HCC := Lib.hid hC
                clear hx hC
                rw [e37]
                clear e37
                go_wp2_with fail
                go_roundw
                case rel => exact ⟨j + 1, by omega, by go_num, by rw [HRE.out]; exact HCC.out.2, HCC.out.1⟩
                case measure => simp [intOf]; omega
            | false =>
              have ho : okN qn qz = true := by simpa [okP] using HO.out
              have hcur : cur = be qn.toNat qz.toNat ++ rest := HD.out
              have HT := Lib.hid (fun V (hV : Below w.heap.size w V ∧ RAt V br 60 g (cur, 0)) => (show Calls Try.prog 17 #[.pointer (some ⟨br, 0, none⟩), .int .i64 qz, .int .i64 4294967296] V fun e w'' => ∃ u, e = .returned u ∧ u = .int .i64 qn ∧ (Below w.heap.size w w'' ∧ RAt w'' br 60 g (rest, 0)) from
                (rdnum_any br _ g (cur, 0) qz 4294967296 V hV.2 HG3.out HL.out).mono fun e w'' ⟨he, hR⟩ => by
                  rw [hcur, read_num ho] at he hR
                  exact ⟨_, he, rfl, hV.1.trans (hR.2.below hV.1.size fun k hk => hk ▸ HBL.out), hR.1⟩))
              have T0 := Lib.hid (And.intro HB.out.drew (show RAt wr.drew br 60 g (cur, 0) from (RTo.refl HR.out).drew.1))
              clear HD HO ho hcur
              go_wp2_with fail
              refine wp_region_S (fun k V => Below w.heap.size w V ∧ RAt V br 60 g (turnSt (cur, 0) (rest, 0) (rest, 0) k)) 1 [.val (.slice (some ⟨b, off, none⟩) l.length cap), .val (.int .i64 (j : Int)), .val (.pointer (some ⟨b, off + j * 5, none⟩)), .val (.pointer (some ⟨b, off + j * 5, none⟩)), .val (.bool false), .val (.bool false), .val undef, .val undef, .val undef, .val undef, .val undef, .val undef, .val undef, .val undef, .val (.bool false), .val (.bool false), .val (.slice (some ⟨b, off, none⟩) l.length cap), .val (.int .i64 (j : Int)), .val (.pointer (some ⟨b, off + j * 5, none⟩)), .val (.pointer (some ⟨b, off + j * 5, none⟩)), .val (.bool false), .val (.bool true), .val (.bool true), .val (.pointer (some ⟨br, 0, none⟩)), .val (.slice (some ⟨b, off, none⟩) l.length cap), .val (.int .i64 (j : Int)), .val (.pointer (some ⟨b, off + j * 5, none⟩)), .val (.pointer (some ⟨b, off + j * 5 + 2, none⟩)), .val (.int .i64 qz), .turn 0 (.int .i64 qn), .val (.slice (some ⟨b, off, none⟩) l.length cap), .val (.int .i64 (j : Int)), .val (.pointer (some ⟨b, off + j * 5, none⟩)), .val (.pointer (some ⟨b, off + j * 5 + 1, none⟩)), .val (.int .i64 qn), .val (.bool false), .val (.bool false), .val (.bool false)]
                (fun x => { tmps := #[.slice (some ⟨b, off, none⟩) l.length cap, undef, u2, .pointer (some ⟨w.heap.size, 0, none⟩), .int .i64 (k : Int), .slice p2 n2 k2, .int .i64 s.snd, .pointer (some ⟨br, 0, none⟩), .int .i64 (j : Int), .slice (some ⟨b, off, none⟩) l.length cap, .bool false, undef, .int .i64 (k : Int), .slice (some ⟨b, off, none⟩) l.length cap, .int .i64 (l.length : Int), .bool false, u16, u17, u18, u19, u20, u21, u22, u23, u24, u25, u26, u27, u28, u29, u30, u31, u32, u33, u34, u35, u36, u37, u38, u39, .tuple #[.slice p2 n2 k2, .int .i64 s.snd], .tuple #[.slice p2 n2 k2, .int .i64 s.snd], .slice p2 n2 k2, .int .i64 s.snd, .int .i64 s.snd, .bool false, undef, undef, undef, undef, undef, undef, .slice p2 n2 k2, .pointer (some ⟨br, 0, none⟩), .int .i64 (j : Int), .slice (some ⟨b, off, none⟩) l.length cap, .int .i64 (l.length : Int), .bool true, u58, u59, x 0, x 1, x 2, x 3, x 4, x 5, x 6, x 7, x 8, x 9, x 10, x 11, x 12, x 13, x 14, x 15, x 16, x 17, x 18, x 19, x 20, x 21, x 22, x 23, x 24, x 25, x 26, x 27, x 28, x 29, x 30, x 31, x 32, x 33, x 34, x 35, x 36, x 37, undef, undef, undef, undef, undef, undef, undef, undef, undef, undef, undef], defers := [] }) (fun i => ([u60, u61, u62, u63, u64, u65, u66, u67, u68, u69, u70, u71, u72, u73, u74, u75, u76, u77, u78, u79, u80, u81, u82, u83, u84, u85, u86, u87, u88, u89, u90, u91, u92, u93, u94, u95, u96, u97] : List Value).getD i undef) (by kernel_rfl) rfl rfl (by kernel_rfl) (by kernel_rfl) (by kernel_rfl) (by kernel_rfl) (T0.out) ?_ ?_
              · refine ⟨ObS.of_val rfl (fun x v => rfl) (fun x V k hC hD => ?_), ?_⟩
                · clear hD
                  refine want_yes rfl ?_
                  exact leads_value (v := .slice (some ⟨b, off, none⟩) l.length cap) (by go_simp) ⟨rfl, hC⟩
                refine ⟨ObS.of_val rfl (fun x v => rfl) (fun x V k hC hD => ?_), ?_⟩
                · clear hD
                  refine want_yes rfl ?_
                  exact leads_value (v := .int .i64 (j : Int)) (by go_simp) ⟨rfl, hC⟩
                refine ⟨ObS.of_val rfl (fun x v => rfl) (fun x V k hC hD => ?_), ?_⟩
                · have e0 : x 0 = .slice (some ⟨b, off, none⟩) l.length cap := hD.1 rfl
                  have e1 : x 1 = .int .i64 (j : Int) := hD.2.1 rfl
                  clear hD
                  refine want_yes rfl ?_
                  exact leads_value (v := .pointer (some ⟨b, off + j * 5, none⟩)) (by go_simp) ⟨rfl, hC⟩
                refine ⟨ObS.of_val rfl (fun x v => rfl) (fun x V k hC hD => ?_), ?_⟩
                · have e2 : x 2 = .pointer (some ⟨b, off + j * 5, none⟩) := hD.1 rfl
                  clear hD
                  refine want_yes rfl ?_
                  exact leads_value (v := .pointer (some ⟨b, off + j * 5, none⟩)) (by go_simp) ⟨rfl, hC⟩
                refine ⟨ObS.of_val rfl (fun x v => rfl) (fun x V k hC hD => ?_), ?_⟩
                · have e3 : x 3 = .pointer (some ⟨b, off + j * 5, none⟩) := hD.1 rfl
                  clear hD
                  refine want_yes rfl ?_
                  have k0 := HC0.out V hC.1
                  exact leads_value (v := .bool false) (by go_simp) ⟨rfl, hC⟩
                refine ⟨ObS.of_val rfl (fun x v => rfl) (fun x V k hC hD => ?_), ?_⟩
                · have e4 : x 4 = .bool false := hD.1 rfl
                  clear hD
                  refine want_yes rfl ?_
                  exact leads_value (v := .bool false) (by go_simp) ⟨rfl, hC⟩
                refine ⟨ObS.of_val rfl (fun x v => rfl) (fun x V k hC hD => ?_), ?_⟩
                · have e5 : x 5 = .bool false := hD.1 rfl
                  clear hD
                  exact want_no (by simp [Region.wanted, yielded, e5]) rfl
                refine ⟨ObS.of_val rfl (fun x v => rfl) (fun x V k hC hD => ?_), ?_⟩
                · have e6 : x 6 = undef := hD.1 rfl
                  have e5 : x 5 = .bool false := hD.2.1 rfl
                  clear hD
                  exact want_no (by simp [Region.wanted, yielded, e5]) rfl
                refine ⟨ObS.of_val rfl (fun x v => rfl) (fun x V k hC hD => ?_), ?_⟩
                · have e5 : x 5 = .bool false := hD.1 rfl
                  clear hD
                  exact want_no (by simp [Region.wanted, yielded, e5]) rfl
                refine ⟨ObS.of_val rfl (fun x v => rfl) (fun x V k hC hD => ?_), ?_⟩
                · have e5 : x 5 = .bool false := hD.1 rfl
                  clear hD
                  exact want_no (by simp [Region.wanted, yielded, e5]) rfl
                refine ⟨ObS.of_val rfl (fun x v => rfl) (fun x V k hC hD => ?_), ?_⟩
                · have e8 : x 8 = undef := hD.1 rfl
                  have e9 : x 9 = undef := hD.2.1 rfl
                  have e5 : x 5 = .bool false := hD.2.2.1 rfl
                  clear hD
                  exact want_no (by simp [Region.wanted, yielded, e5]) rfl
                refine ⟨ObS.of_val rfl (fun x v => rfl) (fun x V k hC hD => ?_), ?_⟩
                · have e10 : x 10 = undef := hD.1 rfl
                  have e5 : x 5 = .bool false := hD.2.1 rfl
                  clear hD
                  exact want_no (by simp [Region.wanted, yielded, e5]) rfl
                refine ⟨ObS.of_val rfl (fun x v => rfl) (fun x V k hC hD => ?_), ?_⟩
                · have e11 : x 11 = undef := hD.1 rfl
                  have e5 : x 5 = .bool false := hD.2.1 rfl
                  clear hD
                  exact want_no (by simp [Region.wanted, yielded, e5]) rfl
                refine ⟨ObS.of_val rfl (fun x v => rfl) (fun x V k hC hD => ?_), ?_⟩
                · have e7 : x 7 = undef := hD.1 rfl
                  have e12 : x 12 = undef := hD.2.1 rfl
                  have e5 : x 5 = .bool false := hD.2.2.1 rfl
                  clear hD
                  exact want_no (by simp [Region.wanted, yielded, e5]) rfl
                refine ⟨ObS.of_val rfl (fun x v => rfl) (fun x V k hC hD => ?_), ?_⟩
                · have e5 : x 5 = .bool false := hD.1 rfl
                  have e13 : x 13 = undef := hD.2.1 rfl
                  clear hD
                  refine want_yes rfl ?_
                  exact leads_value (v := .bool false) (by go_simp) ⟨rfl, hC⟩
                refine ⟨ObS.of_val rfl (fun x v => rfl) (fun x V k hC hD => ?_), ?_⟩
                · have e14 : x 14 = .bool false := hD.1 rfl
                  have e7 : x 7 = undef := hD.2.1 rfl
                  clear hD
                  refine want_yes rfl ?_
                  exact leads_value (v := .bool false) (by go_simp) ⟨rfl, hC⟩
                refine ⟨ObS.of_val rfl (fun x v => rfl) (fun x V k hC hD => ?_), ?_⟩
                · have e15 : x 15 = .bool false := hD.1 rfl
                  clear hD
                  refine want_yes (by simp [Region.wanted, yielded, e15]) ?_
                  exact leads_value (v := .slice (some ⟨b, off, none⟩) l.length cap) (by go_simp) ⟨rfl, hC⟩
                refine ⟨ObS.of_val rfl (fun x v => rfl) (fun x V k hC hD => ?_), ?_⟩
                · have e15 : x 15 = .bool false := hD.1 rfl
                  clear hD
                  refine want_yes (by simp [Region.wanted, yielded, e15]) ?_
                  exact leads_value (v := .int .i64 (j : Int)) (by go_simp) ⟨rfl, hC⟩
                refine ⟨ObS.of_val rfl (fun x v => rfl) (fun x V k hC hD => ?_), ?_⟩
                · have e16 : x 16 = .slice (some ⟨b, off, none⟩) l.length cap := hD.1 rfl
                  have e17 : x 17 = .int .i64 (j : Int) := hD.2.1 rfl
                  have e15 : x 15 = .bool false := hD.2.2.1 rfl
                  clear hD
                  refine want_yes (by simp [Region.wanted, yielded, e15]) ?_
                  exact leads_value (v := .pointer (some ⟨b, off + j * 5, none⟩)) (by go_simp) ⟨rfl, hC⟩
                refine ⟨ObS.of_val rfl (fun x v => rfl) (fun x V k hC hD => ?_), ?_⟩
                · have e18 : x 18 = .pointer (some ⟨b, off + j * 5, none⟩) := hD.1 rfl
                  have e15 : x 15 = .bool false := hD.2.1 rfl
                  clear hD
                  refine want_yes (by simp [Region.wanted, yielded, e15]) ?_
                  exact leads_value (v := .pointer (some ⟨b, off + j * 5, none⟩)) (by go_simp) ⟨rfl, hC⟩
                refine ⟨ObS.of_val rfl (fun x v => rfl) (fun x V k hC hD => ?_), ?_⟩
                · have e19 : x 19 = .pointer (some ⟨b, off + j * 5, none⟩) := hD.1 rfl
                  have e15 : x 15 = .bool false := hD.2.1 rfl
                  clear hD
                  refine want_yes (by simp [Region.wanted, yielded, e15]) ?_
                  have k0 := HC0.out V hC.1
                  exact leads_value (v := .bool false) (by go_simp) ⟨rfl, hC⟩
                refine ⟨ObS.of_val rfl (fun x v => rfl) (fun x V k hC hD => ?_), ?_⟩
                · have e20 : x 20 = .bool false := hD.1 rfl
                  have e15 : x 15 = .bool false := hD.2.1 rfl
                  clear hD
                  refine want_yes (by simp [Region.wanted, yielded, e15]) ?_
                  exact leads_value (v := .bool true) (by go_simp) ⟨rfl, hC⟩
                refine ⟨ObS.of_val rfl (fun x v => rfl) (fun x V k hC hD => ?_), ?_⟩
                · have e21 : x 21 = .bool true := hD.1 rfl
                  have e15 : x 15 = .bool false := hD.2.1 rfl
                  clear hD
                  refine want_yes (by simp [Region.wanted, yielded, e15]) ?_
                  exact leads_value (v := .bool true) (by go_simp) ⟨rfl, hC⟩
                refine ⟨ObS.of_val rfl (fun x v => rfl) (fun x V k hC hD => ?_), ?_⟩
                · have e22 : x 22 = .bool true := hD.1 rfl
                  clear hD
                  refine want_yes (by simp [Region.wanted, yielded, e22]) ?_
                  exact leads_value (v := .pointer (some ⟨br, 0, none⟩)) (by go_simp) ⟨rfl, hC⟩
                refine ⟨ObS.of_val rfl (fun x v => rfl) (fun x V k hC hD => ?_), ?_⟩
                · have e22 : x 22 = .bool true := hD.1 rfl
                  clear hD
                  refine want_yes (by simp [Region.wanted, yielded, e22]) ?_
                  exact leads_value (v := .slice (some ⟨b, off, none⟩) l.length cap) (by go_simp) ⟨rfl, hC⟩
                refine ⟨ObS.of_val rfl (fun x v => rfl) (fun x V k hC hD => ?_), ?_⟩
                · have e22 : x 22 = .bool true := hD.1 rfl
                  clear hD
                  refine want_yes (by simp [Region.wanted, yielded, e22]) ?_
                  exact leads_value (v := .int .i64 (j : Int)) (by go_simp) ⟨rfl, hC⟩
                refine ⟨ObS.of_val rfl (fun x v => rfl) (fun x V k hC hD => ?_), ?_⟩
                · have e24 : x 24 = .slice (some ⟨b, off, none⟩) l.length cap := hD.1 rfl
                  have e25 : x 25 = .int .i64 (j : Int) := hD.2.1 rfl
                  have e22 : x 22 = .bool true := hD.2.2.1 rfl
                  clear hD
                  refine want_yes (by simp [Region.wanted, yielded, e22]) ?_
                  exact leads_value (v := .pointer (some ⟨b, off + j * 5, none⟩)) (by go_simp) ⟨rfl, hC⟩
                refine ⟨ObS.of_val rfl (fun x v => rfl) (fun x V k hC hD => ?_), ?_⟩
                · have e26 : x 26 = .pointer (some ⟨b, off + j * 5, none⟩) := hD.1 rfl
                  have e22 : x 22 = .bool true := hD.2.1 rfl
                  clear hD
                  refine want_yes (by simp [Region.wanted, yielded, e22]) ?_
                  exact leads_value (v := .pointer (some ⟨b, off + j * 5 + 2, none⟩)) (by go_simp) ⟨rfl, hC⟩
                refine ⟨ObS.of_val rfl (fun x v => rfl) (fun x V k hC hD => ?_), ?_⟩
                · have e27 : x 27 = .pointer (some ⟨b, off + j * 5 + 2, none⟩) := hD.1 rfl
                  have e22 : x 22 = .bool true := hD.2.1 rfl
                  clear hD
                  refine want_yes (by simp [Region.wanted, yielded, e22]) ?_
                  have k0 := HC2.out V hC.1
                  exact leads_value (v := .int .i64 qz) (by go_simp) ⟨rfl, hC⟩
                refine ⟨ObS.of_turn rfl (fun x v => rfl) (fun x V hC hD => ?_), ?_⟩
                · have e23 : x 23 = .pointer (some ⟨br, 0, none⟩) := hD.1 rfl
                  have e28 : x 28 = .int .i64 qz := hD.2.1 rfl
                  have e22 : x 22 = .bool true := hD.2.2.1 rfl
                  clear hD
                  refine want_yes (by simp [Region.wanted, yielded, e22]) ?_
                  exact leads_enter2 (by go_simp) (HT.out V hC)
                refine ⟨ObS.of_val rfl (fun x v => rfl) (fun x V k hC hD => ?_), ?_⟩
                · have e22 : x 22 = .bool true := hD.1 rfl
                  clear hD
                  refine want_yes (by simp [Region.wanted, yielded, e22]) ?_
                  exact leads_value (v := .slice (some ⟨b, off, none⟩) l.length cap) (by go_simp) ⟨rfl, hC⟩
                refine ⟨ObS.of_val rfl (fun x v => rfl) (fun x V k hC hD => ?_), ?_⟩
                · have e22 : x 22 = .bool true := hD.1 rfl
                  clear hD
                  refine want_yes (by simp [Region.wanted, yielded, e22]) ?_
                  exact leads_value (v := .int .i64 (j : Int)) (by go_simp) ⟨rfl, hC⟩
                refine ⟨ObS.of_val rfl (fun x v => rfl) (fun x V k hC hD => ?_), ?_⟩
                · have e30 : x 30 = .slice (some ⟨b, off, none⟩) l.length cap := hD.1 rfl
                  have e31 : x 31 = .int .i64 (j : Int) := hD.2.1 rfl
                  have e22 : x 22 = .bool true := hD.2.2.1 rfl
                  clear hD
                  refine want_yes (by simp [Region.wanted, yielded, e22]) ?_
                  exact leads_value (v := .pointer (some ⟨b, off + j * 5, none⟩)) (by go_simp) ⟨rfl, hC⟩
                refine ⟨ObS.of_val rfl (fun x v => rfl) (fun x V k hC hD => ?_), ?_⟩
                · have e32 : x 32 = .pointer (some ⟨b, off + j * 5, none⟩) := hD.1 rfl
                  have e22 : x 22 = .bool true := hD.2.1 rfl
                  clear hD
                  refine want_yes (by simp [Region.wanted, yielded, e22]) ?_
                  exact leads_value (v := .pointer (some ⟨b, off + j * 5 + 1, none⟩)) (by go_simp) ⟨rfl, hC⟩
                refine ⟨ObS.of_val rfl (fun x v => rfl) (fun x V k hC hD => ?_), ?_⟩
                · have e33 : x 33 = .pointer (some ⟨b, off + j * 5 + 1, none⟩) := hD.1 rfl
                  have e22 : x 22 = .bool true := hD.2.1 rfl
                  clear hD
                  refine want_yes (by simp [Region.wanted, yielded, e22]) ?_
                  have k0 := HC1.out V hC.1
                  exact leads_value (v := .int .i64 qn) (by go_simp) ⟨rfl, hC⟩
                refine ⟨ObS.of_val rfl (fun x v => rfl) (fun x V k hC hD => ?_), ?_⟩
                · have e29 : x 29 = .int .i64 qn := hD.1 rfl
                  have e34 : x 34 = .int .i64 qn := hD.2.1 rfl
                  have e22 : x 22 = .bool true := hD.2.2.1 rfl
                  clear hD
                  refine want_yes (by simp [Region.wanted, yielded, e22]) ?_
                  exact leads_value (v := .bool false) (by go_simp) ⟨rfl, hC⟩
                refine ⟨ObS.of_val rfl (fun x v => rfl) (fun x V k hC hD => ?_), ?_⟩
                · have e22 : x 22 = .bool true := hD.1 rfl
                  have e35 : x 35 = .bool false := hD.2.1 rfl
                  have e15 : x 15 = .bool false := hD.2.2.1 rfl
                  clear hD
                  refine want_yes (by simp [Region.wanted, yielded, e15]) ?_
                  exact leads_value (v := .bool false) (by go_simp) ⟨rfl, hC⟩
                refine ⟨ObS.of_val rfl (fun x v => rfl) (fun x V k hC hD => ?_), ?_⟩
                · have e15 : x 15 = .bool false := hD.1 rfl
                  have e36 : x 36 = .bool false := hD.2.1 rfl
                  clear hD
                  refine want_yes rfl ?_
                  exact leads_value (v := .bool false) (by go_simp) ⟨rfl, hC⟩
                trivial
              · intro x V hC hx
                have e37 : x 37 = .bool false := hx 37 (by simp)
                have HCC := Lib.hid hC
                clear hx hC
                rw [e37]
                clear e37
                go_wp2_with fail
                go_roundw
                case rel => exact ⟨j + 1, by omega, by go_num, by rw [HRE.out]; exact HCC.out.2, HCC.out.1⟩
                case measure => simp [intOf]; omega
          · have hT : (l.drop j).flatMap encP = [] := by rw [List.drop_eq_nil_of_le (by omega)]; rfl
            rw [hT] at HR
            clear hT hB
            go_wp2_with fail
            refine (rdleft_any br _ g _ _ HR.out).mono ?_
            rintro e w' ⟨rfl, rfl⟩
            go_wp2_with fail
            refine (rderr_any br _ g _ _ HR.out).mono ?_
            rintro e w' ⟨rfl, rfl⟩
            go_wp2_with fail
            refine (wireAlive_any _).mono ?_
            rintro e w' ⟨rfl, hB⟩
            have HB4 := Lib.hid (HB.out.trans (hB.mono HB.out.size))
            clear hB
            go_wp2_with fail
            go_ret
            exact ⟨rfl, HB4.out⟩
      · have hb0 : (s.2 != 0) = true := by simpa using he
        have hn : n2 = 0 := by rw [HS2.out.same, HE.out he]; rfl
        have HN := Lib.hid hn
        clear HA HE he
        subst hn
        clear HN
        go_wp2_with fail
        refine (wireAlive_any _).mono ?_
        rintro e w' ⟨rfl, hB⟩
        have HB4 := Lib.hid (HB2.out.trans (hB.mono HB2.out.size))
        clear hB
        go_wp2_with fail
        go_ret
        exact ⟨rfl, HB4.out⟩

set_option maxHeartbeats 800000 in
theorem wback_any (v : Value) (l : List PartM) (w : World) (h : PartsAt w v l) : Calls Try.prog 5 #[v] w fun e w' => e = .returned (.bool true) ∧ Below w.heap.size w w' := by
  cases hf : farB l with
  | false => exact wback_near v l w h hf
  | true =>
    have HF := Lib.hid (far_any v l w h)
    rw [hf] at HF
    clear h hf
    go_enter Try.func5, Try.ntmps5
    go_wp2_with fail
    refine HF.out.mono ?_
    rintro e w' ⟨rfl, rfl⟩
    go_wp2_with fail
    refine (wireAlive_any _).mono ?_
    rintro e w' ⟨rfl, hB⟩
    have HB := Lib.hid hB
    clear hB
    go_wp2_with fail
    go_ret
    exact ⟨rfl, HB.out⟩

end Go.Proofs.Ytnajbkijejlgiaa

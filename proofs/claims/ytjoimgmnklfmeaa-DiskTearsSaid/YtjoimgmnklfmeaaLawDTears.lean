/-
  The law DiskTears, from the kit: behind a torn write just that block may be another one than it was.
-/
import Derived.Test.YtjoimgmnklfmeaaDskS
namespace Go.Proofs.Ytjoimgmnklfmeaa
open Go.RowKit

theorem block_put {all l : List UInt8} {i n : Nat} (hl : l.length = 128) (h : 128 * i + 128 ≤ all.length) : ((putL all (128 * i) l).drop (128 * n)).take 128 = if n = i then l else (all.drop (128 * n)).take 128 := by
  apply List.ext_getElem?
  intro k
  by_cases hk : k < 128
  · rw [List.getElem?_take, if_pos hk, List.getElem?_drop, putL_get (by omega), hl]
    by_cases hn : n = i
    · subst hn
      rw [if_pos ⟨by omega, by omega⟩, if_pos rfl]
      congr 1; omega
    · rw [if_neg hn, List.getElem?_take, if_pos hk, List.getElem?_drop, if_neg (by
        rcases Nat.lt_or_ge n i with h1 | h1
        · omega
        · omega)]
  · rw [List.getElem?_take, if_neg hk]
    symm
    split
    · exact List.getElem?_eq_none (by omega)
    · rw [List.getElem?_take, if_neg hk]
/-- While the disk is written: nothing is torn yet. -/
structure TW (K : DiskKit) (w : World) (b k : Nat) (V : World) : Prop where
  ex : ∃ S F, K.At V b S F ∧ (∀ j, F j → w.heap.size ≤ j) ∧ DSOk S ∧ S.len = 8 ∧ S.off = false ∧ S.fuse = -1 ∧ S.wr ≤ k
  below : Below w.heap.size w V
/-- The disk and its copy. -/
structure TT (K : DiskKit) (w : World) (b o : Nat) (S So : DS) (F G : Nat → Prop) (V : World) : Prop where
  at_ : K.At V b S F
  old : K.At V o So G
  own : ∀ j, F j → w.heap.size ≤ j
  apart : ∀ j, F j → ¬ G j
  below : Below w.heap.size w V
theorem TT.step {K : DiskKit} {w : World} {b o : Nat} {S So : DS} {F G : Nat → Prop} {V V' : World} (h : TT K w b o S So F G V) (hB : Below V.heap.size V V') : TT K w b o S So F G V' :=
  ⟨DiskKit.below h.at_ hB, DiskKit.below h.old hB, h.own, h.apart, h.below.trans (hB.mono h.below.size)⟩
theorem TT.to {K : DiskKit} {w : World} {b o : Nat} {S S' So : DS} {F F' G : Nat → Prop} {V V' : World} (h : TT K w b o S So F G V) (hA : K.At V' b S' F') (hs : ∀ j, F' j → F j ∨ V.heap.size ≤ j) (hc : Chg F V V') : TT K w b o S' So F' G V' :=
  ⟨hA, K.kept h.old hc fun j hg hf => h.apart j hf hg, fun j hj => by
    rcases hs j hj with h1 | h1
    · exact h.own j h1
    · have := h.below.size; omega, fun j hj hg => by
    rcases hs j hj with h1 | h1
    · exact h.apart j h1 hg
    · have := (K.lt h.old).2 j hg; omega, h.below.trans (hc.below h.below.size h.own)⟩
theorem act_byte (b : Nat) : actL b 0 = risingL b 128 := rfl
theorem writeE_ok {S : DS} {i : Nat} {l : List UInt8} (hi : i < S.len) (hl : l.length = 128) (ho : S.off = false) (hf : S.fuse = -1) : writeE S i l = 0 := by
  have h1 : hasD S (i : Int) = true := hasD_iff.2 ⟨by omega, by omega⟩
  unfold writeE; simp [h1, hl, ho, hf]
theorem writeS_ok {S : DS} {i : Nat} {l : List UInt8} (hi : i < S.len) (hl : l.length = 128) (ho : S.off = false) (hf : S.fuse = -1) : writeS S i l = ⟨putL S.all (128 * i) l, false, -1, S.keep, S.wr + 1⟩ := by
  have h1 : hasD S (i : Int) = true := hasD_iff.2 ⟨by omega, by omega⟩
  unfold writeS
  rw [if_pos (by simp [writeOk, h1, hl, ho])]
  simp [writtenL, hf]
theorem write_n8 {S : DS} (h : DSOk S) (i : Int) (l : List UInt8) {n : Nat} (hn : S.len = n) : (writeS S i l).len = n := by
  unfold DS.len at *; rw [writeS_len S h]; exact hn
/-- Armed, and torn. -/
theorem torn_facts {S : DS} {i kk : Nat} {l : List UInt8} (hi : i < S.len) (hl : l.length = 128) (ho : S.off = false) (hk : kk ≤ 128) :
    armE 0 kk = 0 ∧ writeE (armS S 0 kk) i l = 19 ∧ (writeS (armS S 0 kk) i l).off = true ∧ (writeS (armS S 0 kk) i l).all = putL S.all (128 * i) (tornL kk l) := by
  have h0 : armE 0 kk = 0 := by unfold armE; rw [if_neg (by omega)]
  have hs : armS S 0 kk = ⟨S.all, false, 0, kk, S.wr⟩ := by unfold armS; rw [if_pos h0, ho]
  have h1 : hasD ⟨S.all, false, 0, kk, S.wr⟩ (i : Int) = true := hasD_iff.2 ⟨by omega, by show (i : Int) < (S.len : Int); omega⟩
  refine ⟨h0, ?_, ?_, ?_⟩
  · rw [hs]; unfold writeE; simp [h1, hl]
  · rw [hs]; unfold writeS; rw [if_pos (by simp [writeOk, h1, hl])]; rfl
  · rw [hs]; unfold writeS; rw [if_pos (by simp [writeOk, h1, hl])]; simp [writtenL]
theorem torn_down {S : DS} (hok : DSOk S) {i kk : Nat} {l : List UInt8} (hi : i < S.len) (hl : l.length = 128) (ho : S.off = false) (hk : kk ≤ 128) : readE (writeS (armS S 0 kk) i l) i = 19 := by
  obtain ⟨-, -, h1, ha⟩ := torn_facts (kk := kk) hi hl ho hk
  have hlen := hok.len
  have e : (writeS (armS S 0 kk) i l).len = S.len := by
    show (writeS (armS S 0 kk) i l).all.length / 128 = _
    rw [ha, putL_length (by rw [tornL_length (by omega), hl]; omega)]; rfl
  unfold readE
  rw [hasD_iff.2 ⟨by omega, by rw [e]; omega⟩, h1]; rfl
/-- What each block reads as behind it. -/
theorem torn_read {S : DS} (hok : DSOk S) {i kk n : Nat} {l : List UInt8} (hi : i < S.len) (hn : n < S.len) (hl : l.length = 128) (ho : S.off = false) (hk : kk ≤ 128) :
    readE (powerS (writeS (armS S 0 kk) i l)) n = 0 ∧ readL (powerS (writeS (armS S 0 kk) i l)) n = (if n = i then tornL kk l else blockL S n) ∧ readE S n = 0 ∧ readL S n = blockL S n ∧ (blockL S n).length = 128 := by
  obtain ⟨-, -, -, ha⟩ := torn_facts (kk := kk) hi hl ho hk
  have h2 : readE S n = 0 := by
    unfold readE; rw [hasD_iff.2 ⟨by omega, by omega⟩, ho]; rfl
  have h3 : readL S n = blockL S n := by unfold readL; rw [if_pos h2]; rfl
  have hlen := hok.len
  have e : (powerS (writeS (armS S 0 kk) i l)).len = S.len := by
    show (writeS (armS S 0 kk) i l).all.length / 128 = _
    rw [ha, putL_length (by rw [tornL_length (by omega), hl]; omega)]; rfl
  have h4 : readE (powerS (writeS (armS S 0 kk) i l)) n = 0 := by
    unfold readE; rw [hasD_iff.2 ⟨by omega, by rw [e]; omega⟩]; rfl
  refine ⟨h4, ?_, h2, h3, by rw [← h3]; exact readL_length hok h2⟩
  unfold readL
  rw [if_pos h4]
  show (((writeS (armS S 0 kk) i l).all).drop (128 * (n : Int).toNat)).take 128 = _
  rw [ha, Int.toNat_natCast, block_put (by rw [tornL_length (by omega), hl]) (by omega)]
  rfl
/-- A torn row, byte by byte. -/
theorem torn_byte {bb kk j : Nat} (hj : j < 128) : (tornL (kk : Int) (risingL bb 128))[j]? = some (if j < kk then UInt8.ofNat (bb + j) else 255) := by
  rw [tornL_get (by omega) (by rw [risingL_length]; exact hj)]
  by_cases h : j < kk
  · rw [if_neg (by omega), if_pos h, List.getElem?_eq_getElem (by rw [risingL_length]; exact hj), risingL_get _ _ _ hj]
  · rw [if_pos (by omega), if_neg h]

set_option maxRecDepth 100000 in
set_option maxHeartbeats 12800000 in
theorem dtears_any (K : DiskKit) (hAlive : DiskAliveC) (p : Option Addr) (len cap : Nat) (l : List UInt8) (bb aa ke : Nat) (w : World) (h : BsAt w p len cap l) (ha : aa < 256) (hke : ke < 256) :
    Calls Try.prog 4 #[.slice p len cap, .int .u8 (bb : Int), .int .u8 (aa : Int), .int .u8 (ke : Int)] w fun e w' => e = .returned (.bool true) ∧ Below w.heap.size w w' := by
  have hlen := h.same
  subst hlen
  have HAl := Lib.hid hAlive
  have HBs := Lib.hid h
  have hbm : l.length ≤ 9223372036854775807 := by have := h.le; have := h.small; unfold maxLen at this; omega
  clear hAlive h
  by_cases hl8 : 8 < l.length
  · go_enter Try.func4, Try.ntmps4
    go_wp2_with fail
    refine (HAl.out _).mono ?_
    rintro e w6 ⟨rfl, hB6⟩
    have HB6 := Lib.hid hB6
    clear hB6
    go_wp2_with fail
    go_ret
    exact ⟨rfl, HB6.out⟩
  · have HN := Lib.hid (K.newOk 8 w (by decide) (by decide))
    obtain ⟨ia, hia⟩ : ∃ ia, aa % 8 = ia := ⟨_, rfl⟩
    obtain ⟨kk, hkk⟩ : ∃ kk, ke % 129 = kk := ⟨_, rfl⟩
    have hia2 : (aa : Int) % 8 = (ia : Int) := by omega
    have hkk2 : (ke : Int) % 129 = (kk : Int) := by omega
    have hia8 : ia < 8 := by omega
    have hkk8 : kk ≤ 128 := by omega
    clear hia hkk
    go_enter Try.func4, Try.ntmps4
    go_wp2_with fail
    refine HN.out.mono ?_
    rintro e w1 ⟨b, F, rfl, hA1, hF1, hB1⟩
    have HI0 := Lib.hid (show TW K w b 0 w1 from ⟨⟨DS.new 8, F, hA1, hF1, DSOk.new (by decide), DS.new_len 8, rfl, rfl, by simp [DS.new]⟩, hB1⟩)
    clear hA1 hF1 hB1 HN
    unfold ptrV
    go_upto_region 7 with fail
    go_loopw [11] (fun i wr => ∃ k : Nat, k ≤ l.length ∧ i = .int .i64 k ∧ TW K w b k wr) (fun i _ => l.length - (intOf i).toNat)
    case atStart => exact ⟨0, Nat.zero_le _, rfl, HI0.out⟩
    case round =>
      obtain ⟨k, hk, rfl, hI⟩ := hrel
      have HI := Lib.hid hI
      clear hI HI0
      by_cases hlt : k < l.length
      · obtain ⟨g, off, rfl, hcell⟩ : ∃ g off, p = some ⟨g, off, none⟩ ∧ wr.cell? ⟨g, off + k, none⟩ = some (.int .u8 ((l[k].toNat : Nat) : Int)) := by
          have hb2 := HBs.out.below HI.out.below (Nat.le_refl _)
          rcases hb2.place with ⟨-, h2⟩ | ⟨h2, -⟩ | ⟨g', off, rfl, -, h3⟩
          · have := hb2.le; omega
          · rw [h2] at hlt; simp at hlt
          · exact ⟨g', off, rfl, h3 k hlt⟩
        generalize l[k].toNat = y at *
        have HBy := Lib.hid (rdBytes_any 0 0 0 y 0 wr (by decide) (by decide))
        go_upto_region 9 with fail
        go_wp2_with fail
        refine HBy.out.mono ?_
        rintro e w2 ⟨p2, c2, rfl, hR2, hB2⟩
        rw [act_byte] at hR2
        obtain ⟨S, F, hA, hFo, hok, hn8, hoff, hfu, hwr⟩ := HI.out.ex
        have hl2 : (risingL y 128).length = 128 := risingL_length _ _
        obtain ⟨q3, d3, e3, hb3⟩ := BsAt.ofRow hR2
        rw [Value.slice.injEq] at e3
        obtain ⟨rfl, -, rfl⟩ := e3
        have HW := Lib.hid (K.write (k : Int) (DiskKit.below hA hB2) hok (by omega) hb3 (fresh_apart hR2 (K.lt hA).2))
        have HE := Lib.hid (And.intro (writeE_ok (i := k) (by omega) hl2 hoff hfu) (writeS_ok (i := k) (by omega) hl2 hoff hfu))
        have HS := Lib.hid (show DSOk (writeS S k (risingL y 128)) ∧ (writeS S k (risingL y 128)).len = 8 from ⟨hok.write _ _, write_n8 hok _ _ hn8⟩)
        have HB2 := Lib.hid hB2
        have HFo := Lib.hid hFo
        have HA := Lib.hid hA
        have HWr := Lib.hid hwr
        rw [act_byte, hl2]
        rw [hl2] at HW
        clear hR2 hB2 hb3 hA hFo hok hn8 hoff hfu hwr HBy hl2
        generalize risingL y 128 = L at *
        go_wp2_with fail
        refine HW.out.mono ?_
        rintro e w3 ⟨F3, rfl, hA3, hs3, hc3⟩
        rw [HE.out.1]
        have HI3 := Lib.hid (show TW K w b (k + 1) w3 from by
          refine ⟨⟨_, F3, hA3, fun j hj => ?_, HS.out.1, HS.out.2, by rw [HE.out.2], by rw [HE.out.2], by rw [HE.out.2]; have := HWr.out; show S.wr + 1 ≤ _; omega⟩, ?_⟩
          · rcases hs3 j hj with h1 | h1
            · exact HFo.out j h1
            · have := HB2.out.size; have := HI.out.below.size; omega
          · exact (HI.out.below.trans (HB2.out.mono HI.out.below.size)).trans (hc3.below (by have := HB2.out.size; have := HI.out.below.size; omega) HFo.out))
        clear hA3 hs3 hc3
        go_wp2_with fail
        go_roundw
        case rel => exact ⟨k + 1, by omega, by go_num, HI3.out⟩
        case measure => simp [intOf]; omega
      · go_upto_region 11 with fail
        obtain ⟨S, F, hA, hFo, hok, hn8, hoff, hfu, hwr⟩ := HI.out.ex
        have HOk := Lib.hid hok
        have HFacts := Lib.hid (torn_facts (S := S) (i := ia) (kk := kk) (l := risingL bb 128) (by omega) (risingL_length _ _) hoff hkk8)
        have HRead := Lib.hid (fun (n : Nat) (hn : n < 8) => torn_read hok (i := ia) (kk := kk) (n := n) (l := risingL bb 128) (by omega) (by omega) (risingL_length bb 128) hoff hkk8)
        have HWr := Lib.hid hwr
        have HOff := Lib.hid hoff
        have HDown := Lib.hid (torn_down hok (i := ia) (kk := kk) (l := risingL bb 128) (by omega) (risingL_length _ _) hoff hkk8)
        go_wp2_with fail
        refine (K.copy hA hok).mono ?_
        rintro e w2 ⟨o, G, rfl, hO, hG, hB2⟩
        have HT2 := Lib.hid (show TT K w b o S S F G w2 from ⟨DiskKit.below hA hB2, hO, hFo, fun j hj hg => by have := (K.lt hA).2 j hj; have := hG j hg; omega, HI.out.below.trans (hB2.mono HI.out.below.size)⟩)
        clear hO hG hB2 hA hFo hok hn8 hoff hfu hwr HI
        unfold ptrV
        go_upto_region 13 with fail
        go_wp2_with fail
        try rw [hkk2]
        refine (K.arm 0 kk HT2.out.at_ HOk.out (by decide)).mono ?_
        rintro e w3 ⟨F3, rfl, hA3, hs3, hc3⟩
        rw [HFacts.out.1]
        have HT3 := Lib.hid (HT2.out.to hA3 hs3 hc3)
        have HOk3 := Lib.hid (HOk.out.arm 0 kk (by decide))
        have HWr3 := Lib.hid (show (armS S 0 kk).wr ≤ 1000000 from by
          have h1 : (armS S 0 kk).wr = S.wr := by unfold armS; split <;> rfl
          rw [h1]; have := HWr.out; omega)
        clear hA3 hs3 hc3 HT2
        go_wp2_with fail
        refine (rdBytes_any 0 0 0 bb 0 w3 (by decide) (by decide)).mono ?_
        rintro e w4 ⟨p4, c4, rfl, hR4, hB4⟩
        rw [act_byte] at hR4
        rw [act_byte]
        have hl2 : (risingL bb 128).length = 128 := risingL_length _ _
        obtain ⟨q5, d5, e5, hb5⟩ := BsAt.ofRow hR4
        rw [Value.slice.injEq] at e5
        obtain ⟨rfl, -, rfl⟩ := e5
        have HT4 := Lib.hid (HT3.out.step hB4)
        have HW := Lib.hid (K.write (ia : Int) HT4.out.at_ HOk3.out HWr3.out hb5 (fresh_apart hR4 (K.lt HT3.out.at_).2))
        rw [hl2] at HW
        rw [hl2]
        clear hR4 hB4 hb5 hl2 HT3
        go_wp2_with fail
        refine HW.out.mono ?_
        rintro e w5 ⟨F5, rfl, hA5, hs5, hc5⟩
        rw [HFacts.out.2.1]
        have HT5 := Lib.hid (HT4.out.to hA5 hs5 hc5)
        have HOk5 := Lib.hid (HOk3.out.write (ia : Int) (risingL bb 128))
        clear hA5 hs5 hc5 HT4 HW
        go_wp2_with fail
        refine (K.on HT5.out.at_ HOk5.out).mono ?_
        rintro e w6 ⟨rfl, hB6⟩
        rw [HFacts.out.2.2.1]
        have HT6 := Lib.hid (HT5.out.step hB6)
        clear hB6 HT5
        go_wp2_with fail
        refine (K.on HT6.out.old HOk.out).mono ?_
        rintro e w7 ⟨rfl, hB7⟩
        rw [HOff.out]
        have HT7 := Lib.hid (HT6.out.step hB7)
        clear hB7 HT6
        go_upto_region 15 with fail
        go_wp2_with fail
        refine (K.read (ia : Int) HT7.out.at_ HOk5.out).mono ?_
        rintro e w8 ⟨p8, c8, rfl, -, hB8⟩
        rw [HDown.out]
        have HT8 := Lib.hid (HT7.out.step hB8)
        clear hB8 HT7
        go_upto_region 16 with fail
        go_wp2_with fail
        refine (K.power HT8.out.at_ HOk5.out).mono ?_
        rintro e w9 ⟨F9, rfl, hA9, hs9, hc9⟩
        have HT9 := Lib.hid (HT8.out.to hA9 hs9 hc9)
        have HOk9 := Lib.hid HOk5.out.power
        have HOn := Lib.hid (show (!(powerS (writeS (armS S 0 kk) ia (risingL bb 128))).off) = true from rfl)
        clear hA9 hs9 hc9 HT8 HDown HFacts HOk5 HOk3 HWr3 HWr
        generalize powerS (writeS (armS S 0 kk) ia (risingL bb 128)) = S3 at *
        go_upto_region 18 with fail
        go_loopw [17] (fun i wr => ∃ n : Nat, n ≤ 8 ∧ i = .int .i64 n ∧ TT K w b o S3 S F9 G wr) (fun i _ => 8 - (intOf i).toNat)
        case atStart => exact ⟨0, Nat.zero_le _, rfl, HT9.out⟩
        case round =>
          obtain ⟨n, hn, rfl, hT⟩ := hrel
          have HT := Lib.hid hT
          clear hT HT9
          by_cases hn8 : n < 8
          · obtain ⟨r1, r2, r3, r4, r5⟩ := HRead.out n hn8
            have HR1 := Lib.hid r1
            have HR2 := Lib.hid r2
            have HR34 := Lib.hid (And.intro r3 (And.intro r4 r5))
            clear r1 r2 r3 r4 r5
            go_upto_region 20 with fail
            go_wp2_with fail
            refine (K.read (n : Int) HT.out.at_ HOk9.out).mono ?_
            rintro e v1 ⟨px, cx, rfl, ⟨tx, hRx⟩, hBx⟩
            have HT1 := Lib.hid (HT.out.step hBx)
            have HRx := Lib.hid hRx
            clear hBx hRx HT
            go_upto_region 21 with fail
            go_wp2_with fail
            refine (K.read (n : Int) HT1.out.old HOk.out).mono ?_
            rintro e v2 ⟨py, cy, rfl, ⟨ty, hRy⟩, hBy⟩
            have HT2 := Lib.hid (HT1.out.step hBy)
            have hRx2 := own_below HRx.out hBy (Nat.le_refl _)
            rw [HR34.out.2.1] at hRy
            rw [HR34.out.2.1, HR34.out.1, HR34.out.2.2, HR1.out]
            rw [HR2.out] at hRx2
            rw [HR2.out]
            clear hBy HT1 HRx HR1
            by_cases hni : n = ia
            · rw [if_pos hni] at hRx2
              rw [if_pos hni]
              have hxl : (tornL (kk : Int) (risingL bb 128)).length = 128 := by rw [tornL_length (by rw [risingL_length]; omega), risingL_length]
              obtain ⟨gx, rfl, hby⟩ := row_byte hRx2 (by rw [hxl]; decide)
              rw [hxl]
              have HBy := Lib.hid (fun j (hj : j < 128) => hby j _ (torn_byte (bb := bb) (kk := kk) hj))
              clear hRx2 hby hxl hRy
              obtain rfl : n = ia := hni
              go_upto_region 25 with fail
              go_loop [22] (fun pj => ∃ j : Nat, j ≤ 128 ∧ pj = .int .i64 j) (fun pj => 128 - (intOf pj).toNat)
              case atStart => exact ⟨0, Nat.zero_le _, rfl⟩
              case round =>
                obtain ⟨j, hj, rfl⟩ := hrel
                by_cases hj8 : j < 128
                · have cj := HBy.out j hj8
                  by_cases hjk : j < kk
                  · rw [if_pos hjk] at cj
                    rw [show ((UInt8.ofNat (bb + j)).toNat : Int) = ((bb : Int) + (j : Int)) % 256 by simp] at cj
                    go_wp2_with fail
                    go_round
                    case rel => exact ⟨j + 1, by omega, by go_num⟩
                    case measure => simp [intOf]; omega
                  · rw [if_neg hjk] at cj
                    rw [show (((255 : UInt8).toNat : Nat) : Int) = 255 from rfl] at cj
                    go_wp2_with fail
                    go_round
                    case rel => exact ⟨j + 1, by omega, by go_num⟩
                    case measure => simp [intOf]; omega
                · go_wp2_with fail
                  go_roundw
                  case rel => exact ⟨n + 1, by omega, by go_num, HT2.out⟩
                  case measure => simp [intOf]; omega
            · rw [if_neg hni] at hRx2
              rw [if_neg hni, HR34.out.2.2]
              obtain ⟨q5, d5, e5, hbx⟩ := BsAt.ofRow hRx2
              rw [Value.slice.injEq] at e5
              obtain ⟨rfl, -, rfl⟩ := e5
              obtain ⟨q6, d6, e6, hby⟩ := BsAt.ofRow hRy
              rw [Value.slice.injEq] at e6
              obtain ⟨rfl, -, rfl⟩ := e6
              rw [HR34.out.2.2] at hbx hby
              have qx := run_string_bs (P := Try.prog) v2 29 5 9 Try.underlying29 Try.underlying5 Try.underlying9 hbx
              have qy := run_string_bs (P := Try.prog) v2 29 5 9 Try.underlying29 Try.underlying5 Try.underlying9 hby
              have dn : ¬ ((n : Int) = (ia : Int)) := by omega
              clear hbx hby hRx2 hRy hni
              generalize blockL S n = R at *
              go_upto_region 25 with fail
              go_loop [22] (fun pj => pj = .int .i64 0) (fun _ => 0)
              case atStart => exact rfl
              case round =>
                obtain rfl := hrel
                go_wp2_with fail
                go_roundw
                case rel => exact ⟨n + 1, by omega, by go_num, HT2.out⟩
                case measure => simp [intOf]; omega
          · have HOnC := Lib.hid (K.on HT.out.at_ HOk9.out)
            rw [HOn.out] at HOnC
            go_upto_region 29 with fail
            go_wp2_with fail
            refine HOnC.out.mono ?_
            rintro e v3 ⟨rfl, hB3⟩
            have HB3 := Lib.hid (HT.out.below.trans (hB3.mono HT.out.below.size))
            clear hB3
            go_wp2_with fail
            refine (HAl.out _).mono ?_
            rintro e v4 ⟨rfl, hB4⟩
            have HB4 := Lib.hid (HB3.out.trans (hB4.mono HB3.out.size))
            clear hB4
            go_wp2_with fail
            go_ret
            exact ⟨rfl, HB4.out⟩

end Go.Proofs.Ytjoimgmnklfmeaa

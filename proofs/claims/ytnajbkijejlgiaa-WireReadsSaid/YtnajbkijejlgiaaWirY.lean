/-
  The document's Reader: Text.
-/
import Derived.Test.YtnajbkijejlgiaaWirX
namespace Go.Proofs.Ytnajbkijejlgiaa
open Go.RowKit

theorem dText_err {s : WSt} (he : (byteS s).2 ≠ 0) (hf : Fit s) (most : Int) : dText s most = ([], byteS s) := by
  have h1 : dNum s 1 255 = (0, byteS s) ∧ Fit (byteS s) := by
    by_cases h0 : s.2 = 0
    · obtain ⟨l, e⟩ := s
      simp only at h0
      subst h0
      cases l with
      | nil => exact ⟨rfl, fun _ => rfl⟩
      | cons c r => exact absurd rfl he
    · have : byteS s = s := by unfold byteS; rw [if_neg h0]
      rw [this]
      exact ⟨dNum_err h0 hf 1 255, hf⟩
  obtain ⟨h2, h3⟩ := h1
  have hl := h3 he
  have hn : ∀ c, failS (byteS s) c = byteS s := fun c => by unfold failS; rw [if_neg (fun x => he x.1)]
  have ht : takeS (byteS s) 0 = byteS s := by unfold takeS; rw [if_neg (by omega)]; exact Prod.ext (by rw [hl]; rfl) rfl
  have hk : tookS (byteS s) 0 = [] := by unfold tookS; rw [if_neg (by omega)]; simp
  unfold dText
  rw [h2]
  simp only [Int.toNat_zero]
  rw [hn, ht, hk]
  split <;> rfl
theorem dNum_one (c : UInt8) (r : List UInt8) : dNum (c :: r, 0) 1 255 = (((c.toNat : Nat) : Int), (r, 0)) := by
  have h := dNum_long (l := c :: r) (z := 1) rfl (by simp) 255
  have hv : valB ((c :: r).take 1) = c.toNat := by simp [valB]
  have hc := c.toNat_lt
  rw [hv, if_neg (by omega)] at h
  exact h
theorem dText_cons {c : UInt8} {r : List UInt8} (most : Int) : dText (c :: r, 0) most = if most < ((c.toNat : Nat) : Int) then ([], ([], 5)) else if r.length < c.toNat then ([], ([], 4)) else (r.take c.toNat, (r.drop c.toNat, 0)) := by
  unfold dText
  rw [dNum_one]
  simp only [Int.toNat_natCast]
  unfold takeS tookS
  by_cases h : r.length < c.toNat
  · simp only [if_pos h]; rfl
  · simp only [if_neg h]; rfl

def XTextIs (w : World) (b : Nat) (t : TypeId) (g : Nat) (L : List UInt8) (r : List UInt8 × (List UInt8 × Int)) (e : Ending) (w' : World) : Prop := e = .returned (.string ⟨r.1.toArray⟩) ∧ XTo w b t g L r.2 w'

set_option maxHeartbeats 1600000 in
theorem xtext_err (b : Nat) (t : TypeId) (g : Nat) (L : List UInt8) (s : List UInt8 × Int) (most : Int) (w : World) (h : XRd w b t g L s) (hg : g ≠ b) (hL : L.length ≤ 1000000) (he : (byteS s).2 ≠ 0) (hv : byteV s = 0) :
    Calls Try.prog 16 #[.pointer (some ⟨b, 0, none⟩), .int .i64 most] w (XTextIs w b t g L (dText s most)) := by
  have hf : Fit s := by obtain ⟨p, c, k, -, -, -, -, hf⟩ := h; exact hf
  have hC := xbyte_any b t g L s w h hg hL
  rw [dText_err he hf]
  unfold XByteIs at hC
  rw [hv] at hC
  generalize byteS s = S at *
  have HC := Lib.hid hC
  have b1 : (S.2 == 0) = false := by simpa using he
  have b2 : (S.2 != 0) = true := by simpa using he
  clear h hf he hv hC
  go_enter Try.func16, Try.ntmps16
  go_wp2_with fail
  refine HC.out.mono ?_
  rintro e w1 ⟨rfl, hX⟩
  have HX := Lib.hid hX
  obtain ⟨⟨p, c, k, hk, -⟩, -⟩ := hX
  have c2 : w1.cell? ⟨b, 2, none⟩ = some (.int .i64 S.2) := hk.cell 2
  clear hk HC
  go_wp2_with fail
  go_loop [6, 7] (fun v i => v = .slice none 0 0 ∧ i = .int .i64 0) (fun _ _ => 0)
  case atStart => exact ⟨rfl, rfl⟩
  case round =>
    obtain ⟨rfl, rfl⟩ := hrel
    go_wp2_with fail
    go_ret
    exact ⟨rfl, HX.out⟩

set_option maxHeartbeats 1600000 in
theorem xtext_many (b : Nat) (t : TypeId) (g : Nat) (L : List UInt8) (c : UInt8) (r : List UInt8) (most : Int) (w : World) (h : XRd w b t g L (c :: r, 0)) (hg : g ≠ b) (hL : L.length ≤ 1000000) (hm : most < ((c.toNat : Nat) : Int)) :
    Calls Try.prog 16 #[.pointer (some ⟨b, 0, none⟩), .int .i64 most] w (XTextIs w b t g L ([], ([], 5))) := by
  have HC := Lib.hid (show Calls Try.prog 30 #[.pointer (some ⟨b, 0, none⟩)] w fun e w' => e = .returned (.int .i64 (c.toNat : Nat)) ∧ XTo w b t g L (r, 0) w' from xbyte_any b t g L (c :: r, 0) w h hg hL)
  have hx : c.toNat < 256 := c.toNat_lt
  generalize c.toNat = x at *
  have HG := Lib.hid hg
  clear h hg
  go_enter Try.func16, Try.ntmps16
  go_wp2_with fail
  refine HC.out.mono ?_
  rintro e w1 ⟨rfl, hX⟩
  have HX := Lib.hid hX
  have HS := Lib.hid (hX.1.set HG.out (c := 5) (by decide))
  obtain ⟨⟨p, c, k, hk, -⟩, -⟩ := hX
  have c2 : w1.cell? ⟨b, 2, none⟩ = some (.int .i64 0) := hk.cell 2
  have f2 := hk.free 2
  clear hk HC
  go_wp2_with fail
  go_loop [6, 7] (fun v i => v = .slice none 0 0 ∧ i = .int .i64 0) (fun _ _ => 0)
  case atStart => exact ⟨rfl, rfl⟩
  case round =>
    obtain ⟨rfl, rfl⟩ := hrel
    by_cases h0 : 0 < x
    · go_wp2_with fail
      go_ret
      exact ⟨rfl, HX.out.trans HS.out⟩
    · go_wp2_with fail
      go_ret
      exact ⟨rfl, HX.out.trans HS.out⟩

/-- What holds at the head of a round. -/
def TextAt (w : World) (b : Nat) (t : TypeId) (g : Nat) (L r : List UInt8) (x j : Nat) (v : Value) (wr : World) : Prop :=
  (j ≤ r.length ∧ wr.ownsRow w.heap.size 5 1 v (r.take j).length (bvs (r.take j)) ∧ XTo w b t g L (r.drop j, 0) wr) ∨ (r.length < x ∧ (∃ p n c, v = .slice p n c) ∧ XTo w b t g L ([], 4) wr)
theorem own_chg {S : Nat → Prop} {w w' : World} {base e n : Nat} {v : Value} {xs : List Value} (h : w.ownsRow base e 1 v n xs) (hc : Chg S w w') (hv : ∀ k, v.ownBlock = some k → ¬ S k) : w'.ownsRow base e 1 v n xs := by
  obtain ⟨h1, h2⟩ := h
  refine ⟨h1, ?_⟩
  rcases h2 with h2 | ⟨g, cap, cur, rfl, hg, hgg, rest⟩
  · exact .inl h2
  · refine .inr ⟨g, cap, cur, rfl, hg, ?_, rest⟩
    rw [hc.block g (Array.getElem?_eq_some_iff.1 hgg).1 (hv g rfl)]; exact hgg
/-- A block that was not there does not matter to the Reader. -/
theorem XTo.grown {w w1 w2 : World} {b : Nat} {t : TypeId} {g : Nat} {L : List UInt8} {s : List UInt8 × Int} {S : Nat → Prop} (h : XTo w b t g L s w1) (hb : b < w.heap.size) (hg : L ≠ [] → g < w.heap.size) (hc : Chg S w1 w2) (hS : ∀ k, S k → w.heap.size ≤ k) : XTo w b t g L s w2 := by
  obtain ⟨⟨p, c, k, h1, h2, h3, h4⟩, h5⟩ := h
  refine ⟨⟨p, c, k, hc.kept h1 (fun x => by have := hS b x; omega), ?_, h3, h4⟩, h5.then hc (fun i hi x => by have := hS i x; omega)⟩
  exact bs_in h2 h3 hc (fun hL x => by have := hS _ x; have := hg hL; omega)
theorem XRd.inside {w : World} {b : Nat} {t : TypeId} {g : Nat} {L : List UInt8} {s : List UInt8 × Int} (h : XRd w b t g L s) : L ≠ [] → g < w.heap.size := by
  intro hL
  obtain ⟨p, c, k, h1, h2, h3, h4⟩ := h
  rcases h2.place with ⟨-, hc⟩ | ⟨h5, -⟩ | ⟨g', off, rfl, h6, -⟩
  · have := h2.le
    exact absurd (List.eq_nil_of_length_eq_zero (by omega)) hL
  · exact absurd h5 hL
  · rw [← h3 _ rfl hL]; exact h6

set_option maxRecDepth 100000 in
set_option maxHeartbeats 3200000 in
theorem xtext_in (b : Nat) (t : TypeId) (g : Nat) (L : List UInt8) (c : UInt8) (r : List UInt8) (most : Int) (w : World) (h : XRd w b t g L (c :: r, 0)) (hg : g ≠ b) (hL : L.length ≤ 1000000) (hm : ¬ most < ((c.toNat : Nat) : Int)) :
    Calls Try.prog 16 #[.pointer (some ⟨b, 0, none⟩), .int .i64 most] w (XTextIs w b t g L (if r.length < c.toNat then ([], ([], 4)) else (r.take c.toNat, (r.drop c.toNat, 0)))) := by
  have HC := Lib.hid (show Calls Try.prog 30 #[.pointer (some ⟨b, 0, none⟩)] w fun e w' => e = .returned (.int .i64 (c.toNat : Nat)) ∧ XTo w b t g L (r, 0) w' from xbyte_any b t g L (c :: r, 0) w h hg hL)
  have hx : c.toNat < 256 := c.toNat_lt
  generalize c.toNat = x at *
  have HG := Lib.hid hg
  have HI := Lib.hid h.inside
  have HBL := Lib.hid (show b < w.heap.size by obtain ⟨p, c', k, hk, -⟩ := h; exact hk.lt)
  have HSh := Lib.hid (fun (h : r.length < x) => show (if r.length < x then (([] : List UInt8), (([] : List UInt8), (4 : Int))) else (r.take x, (r.drop x, 0))) = ([], ([], 4)) from if_pos h)
  have HLo := Lib.hid (fun (h : x ≤ r.length) => show (if r.length < x then (([] : List UInt8), (([] : List UInt8), (4 : Int))) else (r.take x, (r.drop x, 0))) = (r.take x, (r.drop x, 0)) from if_neg (by omega))
  generalize (if r.length < x then (([] : List UInt8), (([] : List UInt8), (4 : Int))) else (r.take x, (r.drop x, 0))) = D at *
  clear h hg
  go_enter Try.func16, Try.ntmps16
  go_wp2_with fail
  refine HC.out.mono ?_
  rintro e w1 ⟨rfl, hX⟩
  have HX := Lib.hid hX
  obtain ⟨⟨p, c', k, hk, -⟩, -⟩ := hX
  have c2 : w1.cell? ⟨b, 2, none⟩ = some (.int .i64 0) := hk.cell 2
  clear hk HC
  go_wp2_with fail
  clear c2
  go_loopw [6, 7] (fun v i wr => ∃ j : Nat, j ≤ x ∧ i = .int .i64 j ∧ TextAt w b t g L r x j v wr) (fun _ i _ => x - (intOf i).toNat)
  case atStart => exact ⟨0, Nat.zero_le _, rfl, .inl ⟨Nat.zero_le _, World.ownsRow_nil _ _ _ _, HX.out⟩⟩
  case round =>
    obtain ⟨j, hj, rfl, hN⟩ := hrel
    rcases hN with ⟨hjl, hR, hX⟩ | ⟨hlz, ⟨p1, n1, c1', rfl⟩, hX⟩
    · have HXX := Lib.hid hX
      obtain ⟨⟨p, c', k, hk, -⟩, -⟩ := hX
      have d2 : wr.cell? ⟨b, 2, none⟩ = some (.int .i64 0) := hk.cell 2
      have HR := Lib.hid hR
      clear hk hR
      by_cases hjz : j < x
      · obtain ⟨y, S, hv, hs, hyS⟩ : ∃ (y : UInt8) (S : WSt), byteV (r.drop j, 0) = y.toNat ∧ byteS (r.drop j, 0) = S ∧ ((j < r.length ∧ S = (r.drop (j + 1), 0) ∧ r.take (j + 1) = r.take j ++ [y]) ∨ (r.length < x ∧ S = ([], 4))) := by
          by_cases hjl2 : j < r.length
          · obtain ⟨h1, h2⟩ := byte_cons hjl2
            exact ⟨r[j], _, h1, h2, .inl ⟨hjl2, rfl, List.take_succ_eq_append_getElem hjl2⟩⟩
          · obtain ⟨h1, h2⟩ := byte_nil (l := r) (j := j) (by omega)
            exact ⟨0, _, h1, h2, .inr ⟨by omega, rfl⟩⟩
        have hC := xbyte_any b t g L (r.drop j, 0) wr HXX.out.1 HG.out hL
        unfold XByteIs at hC
        rw [hv, hs] at hC
        have HC := Lib.hid hC
        have HY := Lib.hid hyS
        have hy : y.toNat < 256 := y.toNat_lt
        have htl : (r.take j).length ≤ 255 := by simp; omega
        clear hC hv hs hyS
        generalize r.take j = T at *
        obtain ⟨pv, nv, cv, rfl⟩ := own_slice HR.out
        go_wp2_with fail
        refine HC.out.mono ?_
        rintro e w2 ⟨rfl, hX2⟩
        have hown2 : w2.ownsRow w.heap.size 5 1 (.slice pv nv cv) T.length (bvs T) := own_chg HR.out hX2.2 (fun k hk e => by have := (HR.out.lt k hk).1; have := HBL.out; omega)
        have hown := hown2.alloc (.cells #[.int .u8 (y.toNat : Int)] 5)
        have HX2 := Lib.hid (HXX.out.trans hX2)
        have HS := Lib.hid (bsAt_new w2 #[.int .u8 (y.toNat : Int)] 5 0 [y] (by simp [maxLen]) (fun i hi => by
          obtain rfl : i = 0 := by simp at hi; omega
          rfl))
        have HZ2 := Lib.hid (show w.heap.size ≤ (w2.alloc (.cells #[.int .u8 (y.toNat : Int)] 5)).heap.size by have := HX2.out.2.size; simp; omega)
        have hq : T.length + [y].length ≤ 140737488355328 := by simp; omega
        clear hX2 d2 hown2 HC
        go_wp2_with (at_builtin; refine wpList_append_bytes rfl _ _ 25 rfl w.heap.size 5 Try.underlying25 infoU8 rfl hown rfl HS.out hq HZ2.out ?_; intro p3 n3 c3 w3 hrow3 hg3 hn3; have HR3 := Lib.hid hrow3; have HG3 := Lib.hid hg3; clear hrow3 hg3 hn3 hown)
        have HX3 := Lib.hid (show XTo w b t g L S w3 from (HX2.out.grown (w2 := w2.alloc (.cells #[.int .u8 (y.toNat : Int)] 5)) (S := fun _ => False) HBL.out HI.out (Chg.ofBelow (belowNew w2 _)) (fun _ h => h.elim)).grown HBL.out HI.out (Chg.ofGrown HG3.out) (fun k hk => (HR.out.lt k hk).1))
        go_roundw
        case rel =>
          refine ⟨j + 1, by omega, by go_num, ?_⟩
          rcases HY.out with ⟨h1, h2, h3⟩ | ⟨h1, h2⟩
          · subst h2
            exact .inl ⟨by omega, by rw [h3]; exact HR3.out, HX3.out⟩
          · subst h2
            exact .inr ⟨h1, ⟨_, _, _, rfl⟩, HX3.out⟩
        case measure => simp [intOf]; omega
      · obtain rfl : j = x := by omega
        have HD := Lib.hid (HLo.out hjl)
        obtain ⟨pv, cv, rfl, hb⟩ := BsAt.ofRow HR.out
        have kc := run_string_bs (P := Try.prog) wr 25 5 9 Try.underlying25 Try.underlying5 Try.underlying9 hb
        clear hb HSh HLo
        generalize (r.take j).length = m at *
        go_wp2_with fail
        go_ret
        refine ⟨by rw [HD.out]; rfl, ?_⟩
        rw [HD.out]
        exact HXX.out
    · have HXX := Lib.hid hX
      obtain ⟨⟨p, c', k, hk, -⟩, -⟩ := hX
      have d2 : wr.cell? ⟨b, 2, none⟩ = some (.int .i64 4) := hk.cell 2
      have HD := Lib.hid (HSh.out hlz)
      clear hk HSh HLo
      by_cases hjz : j < x
      · go_wp2_with fail
        go_ret
        refine ⟨by rw [HD.out]; rfl, ?_⟩
        rw [HD.out]
        exact HXX.out
      · go_wp2_with fail
        go_ret
        refine ⟨by rw [HD.out]; rfl, ?_⟩
        rw [HD.out]
        exact HXX.out

theorem xtext_any (b : Nat) (t : TypeId) (g : Nat) (L : List UInt8) (s : List UInt8 × Int) (most : Int) (w : World) (h : XRd w b t g L s) (hg : g ≠ b) (hL : L.length ≤ 1000000) :
    Calls Try.prog 16 #[.pointer (some ⟨b, 0, none⟩), .int .i64 most] w (XTextIs w b t g L (dText s most)) := by
  by_cases he : s.2 = 0
  · obtain ⟨l, e⟩ := s
    simp only at he
    subst he
    cases l with
    | nil => exact xtext_err b t g L ([], 0) most w h hg hL (by decide) rfl
    | cons c r =>
      rw [dText_cons]
      by_cases hm : most < ((c.toNat : Nat) : Int)
      · rw [if_pos hm]; exact xtext_many b t g L c r most w h hg hL hm
      · rw [if_neg hm]; exact xtext_in b t g L c r most w h hg hL hm
  · refine xtext_err b t g L s most w h hg hL ?_ ?_
    · unfold byteS; rw [if_neg he]; exact he
    · unfold byteV; rw [if_neg he]

end Go.Proofs.Ytnajbkijejlgiaa

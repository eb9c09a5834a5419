/-
  The law JournalKeeps, from the program's contracts.
-/
import Derived.Test.YtlbdpoolhmbgaaaLawJGens
import Derived.Lib.QuietBelow
namespace Go.Proofs.Ytlbdpoolhmbgaaa
open Go.RowKit

theorem CI.on {W : Int} {S : DS} {a : List (List UInt8)} (h : CI W S a) : CI W (powerS S) a := ⟨h.ok.power, h.wr, h.len, h.few, h.step, h.no⟩

set_option maxRecDepth 100000 in
set_option maxHeartbeats 12800000 in
theorem jkeeps_any (K : DiskRel) (R : JrnRel) (dN : DNewC K) (dA : DArmC K) (dP : DPowerC K) (dO : DOnC K) (jN : JNewC K R) (jA : JAddC K R) (jO : JOpenC K R) (jC : JCleanC K R) (hA : JAliveC) (v : Value) (l : List (List UInt8)) (xn xk yn yk : Nat) (w : World) (hl : RowsAt w v l)
    (h1 : xn < 256) (h2 : xk < 256) (h3 : yn < 256) (h4 : yk < 256) :
    Calls Try.prog 3 #[v, .agg #[.int .u8 (xn : Int), .int .u8 (xk : Int)], .agg #[.int .u8 (yn : Int), .int .u8 (yk : Int)]] w fun e w' => e = .returned (.bool true) ∧ Below w.heap.size w w' := by
  have HLr := Lib.hid hl
  obtain ⟨lp, lc, rfl, ll, lb, lo, lx, ly⟩ := hl.each
  have HA := Lib.hid hA
  have HLx := Lib.hid lx
  have HLy := Lib.hid ly
  have HBx := Lib.hid (belowNew w (.cells #[.int .u8 (xn : Int), .int .u8 (xk : Int)] 24))
  have HBy := Lib.hid (HBx.out.alloc HBx.out.size (.cells #[.int .u8 (yn : Int), .int .u8 (yk : Int)] 24))
  clear hl hA lx ly
  by_cases hfar : 10 < l.length
  · clear HLr HLx HLy
    generalize l.length = a at *
    go_enter Try.func3, Try.ntmps3
    go_wp2_with fail
    refine (HA.out _).mono ?_
    rintro e w1 ⟨rfl, hB⟩
    have HB := Lib.hid (HBy.out.trans (hB.mono HBy.out.size))
    clear hB
    go_wp2_with fail
    go_ret
    exact ⟨rfl, HB.out⟩
  have X0 := Lib.hid ((Blk.new w #[.int .u8 (xn : Int), .int .u8 (xk : Int)] 24).alloc (.cells #[.int .u8 (yn : Int), .int .u8 (yk : Int)] 24))
  have Y0 := Lib.hid (Blk.new (w.alloc (.cells #[.int .u8 (xn : Int), .int .u8 (xk : Int)] 24)) #[.int .u8 (yn : Int), .int .u8 (yk : Int)] 24)
  have H10 := Lib.hid hfar
  have HLs : Hid (RowsAt ((w.alloc (.cells #[.int .u8 (xn : Int), .int .u8 (xk : Int)] 24)).alloc (.cells #[.int .u8 (yn : Int), .int .u8 (yk : Int)] 24)) (.slice lp l.length lc) l) := Lib.hid (HLr.out.below HBy.out (Nat.le_refl _))
  have hsz : (w.alloc (.cells #[.int .u8 (xn : Int), .int .u8 (xk : Int)] 24)).heap.size = w.heap.size + 1 := by simp
  rw [hsz] at Y0
  have HLv := Lib.hid (fun V hV => HBy.out.trans ((show Below ((w.alloc (.cells #[.int .u8 (xn : Int), .int .u8 (xk : Int)] 24)).alloc (.cells #[.int .u8 (yn : Int), .int .u8 (yk : Int)] 24)).heap.size _ V from hV).mono HBy.out.size))
  have hw : w.heap.size + 1 < ((w.alloc (.cells #[.int .u8 (xn : Int), .int .u8 (xk : Int)] 24)).alloc (.cells #[.int .u8 (yn : Int), .int .u8 (yk : Int)] 24)).heap.size := by simp
  obtain ⟨a, ha⟩ : ∃ a, a = l.length := ⟨_, rfl⟩
  have HLa := Lib.hid ha
  have d1 : decide ((10 : Int) < (l.length : Int)) = false := by simp; omega
  rw [← ha] at ll d1 ⊢
  clear hfar ha HLr hsz HBx
  go_enter Try.func3, Try.ntmps3
  go_upto_region 1 with fail
  generalize (w.alloc (.cells #[.int .u8 (xn : Int), .int .u8 (xk : Int)] 24)).alloc (.cells #[.int .u8 (yn : Int), .int .u8 (yk : Int)] 24) = w0 at *
  generalize hbx : w.heap.size = bx at *
  have HBX := Lib.hid hbx
  clear hbx
  have HN : Hid (Calls Try.prog 7 #[.int .i64 30] w0 fun e w' => ∃ b F, e = .returned (.tuple #[ptrV b, .int .i64 0]) ∧ K.At w' b (DS.new 30) F ∧ (∀ k, F k → w0.heap.size ≤ k) ∧ Below w0.heap.size w0 w') := Lib.hid (dN 30 w0 (by omega) (by omega))
  go_wp2_with fail
  refine HN.out.mono ?_
  rintro e V1 ⟨db, D, rfl, hD, hown, hB1⟩
  have HJ : Hid (Calls Try.prog 8 #[ptrV db, .int .i64 3, .int .i64 12] V1 fun e w' => ∃ jb, e = .returned (.tuple #[ptrV jb, .int .i64 0]) ∧ JW K R w0 jb db (DS.new 30) ⟨3, 12, 0, 0⟩ [] w') := Lib.hid (JW.made jN hD hown hB1 3 12 (by omega) (by omega) (by omega) (by omega))
  clear hD hown hB1 HN
  unfold ptrV at *
  go_wp2_with fail
  refine HJ.out.mono ?_
  rintro e V2 ⟨jb, rfl, hW⟩
  have HW := Lib.hid hW
  clear hW HJ
  unfold ptrV at *
  go_upto_region 7 with fail
  have k0 := cell_regrown (show V2.cell? ⟨bx, 0, none⟩ = some (.int .u8 (xn : Int)) from (HW.out.below.cell (p := ⟨bx, 0, none⟩) (by show bx < _; omega)).trans (X0.out.cell 0))
  have k1 := cell_regrown (show V2.cell? ⟨bx, 1, none⟩ = some (.int .u8 (xk : Int)) from (HW.out.below.cell (p := ⟨bx, 1, none⟩) (by show bx < _; omega)).trans (X0.out.cell 1))
  have hxn : IntKind.i64.wrap (xn : Int) = (xn : Int) := IntWalk.i64_in _ (by omega)
  have hxk : IntKind.i64.wrap (xk : Int) = (xk : Int) := IntWalk.i64_in _ (by omega)
  have q1 : ((xn : Nat) : Int).tmod 24 = ((xn % 24 : Nat) : Int) := by rw [Int.tmod_eq_emod_of_nonneg (by omega)]; omega
  have q2 : ((xk : Nat) : Int).tmod 129 = ((xk % 129 : Nat) : Int) := by rw [Int.tmod_eq_emod_of_nonneg (by omega)]; omega
  refine wp_region_quiet_below (by kernel_rfl) (by kernel_rfl) ?_
  repeat (quiet_step (fail))
  refine wpQuiet_nil ?_
  intro _ hw'
  obtain ⟨⟨dq, osq⟩, hw''⟩ := hw'
  subst hw''
  have HW2 := Lib.hid (HW.out.step (below_regrown V2 dq osq))
  clear k0 k1 HW q1 q2 hxn hxk
  rw [show ((xn : Int) % 24) = ((xn % 24 : Nat) : Int) by omega, show ((xk : Int) % 129) = ((xk % 129 : Nat) : Int) by omega]
  have hN : xn % 24 < 24 := by omega
  have hK : xk % 129 ≤ 128 := by omega
  generalize xn % 24 = N at *
  generalize xk % 129 = Kp at *
  have HKI := Lib.hid (KI.start (l := l) hK hN)
  generalize DS.new 30 = S0 at *
  have he : armE (N : Int) (Kp : Int) = 0 := by unfold armE; rw [if_neg (by omega)]
  have HAr := Lib.hid (HW2.out.arm dA (N : Int) (Kp : Int) (by omega))
  rw [he] at HAr
  clear he
  go_wp2_with fail
  refine HAr.out.mono ?_
  rintro e V3 ⟨rfl, hW3⟩
  have HW3 := Lib.hid hW3
  clear hW3 HAr HW2
  go_wp2_with fail
  go_loopw [13, 14] (fun d i wr => ∃ (k : Nat) (S : DS) (J : JS), k ≤ a ∧ i = .int .i64 k ∧ d = .int .i64 ((min k (N / 2) : Nat) : Int) ∧ KI N Kp l k S J ∧ (∀ e, e < k → ∀ h : e < l.length, l[e].length ≤ 112) ∧ JW K R w0 jb db S J [] wr) (fun _ i _ => a - (intOf i).toNat)
  case atStart => exact ⟨0, _, _, Nat.zero_le _, rfl, by simp, HKI.out, fun e he => by omega, HW3.out⟩
  case round =>
    obtain ⟨k, S, J, hk, rfl, rfl, hG, hsh, hW⟩ := hrel
    have HW := Lib.hid hW
    have HSh := Lib.hid hsh
    have HG := Lib.hid hG
    clear hW HW3 hsh hG
    by_cases hlt : k < a
    · have hk2 : k < l.length := by rw [← HLa.out]; exact hlt
      have hne : l ≠ [] := by intro e; rw [e] at hk2; simp at hk2
      have hp := HLx.out hne
      obtain ⟨q, c, hx⟩ := HLy.out k hk2
      have HX := Lib.hid hx
      have hsm := (hx w (Below.refl _ _)).2.small
      have hle := (hx w (Below.refl _ _)).2.le
      have hn9 : l[k].length ≤ 9223372036854775807 := by unfold maxLen at hsm; omega
      have k0 := (hx wr (HLv.out wr HW.out.below)).1
      have HS0 := Lib.hid (hx wr (HLv.out wr HW.out.below)).2
      obtain ⟨n, hn⟩ : ∃ n, n = l[k].length := ⟨_, rfl⟩
      have HNn := Lib.hid hn
      rw [← hn] at k0 hn9
      subst hp
      clear hx hsm hle hn hne
      by_cases h112 : 112 < n
      · have d112 : decide ((112 : Int) < (n : Int)) = true := by simp; omega
        clear h112
        go_wp2_with fail
        refine (HA.out _).mono ?_
        rintro e w1 ⟨rfl, hB⟩
        have HB := Lib.hid (HLv.out _ (HW.out.below.trans (hB.mono HW.out.below.size)))
        clear hB
        go_wp2_with fail
        go_ret
        exact ⟨rfl, by rw [HBX.out]; exact HB.out⟩
      · have d112 : decide ((112 : Int) < (n : Int)) = false := by simp; omega
        have hadd := HG.out.add (by have := H10.out; omega) hk2 (by have := HNn.out; omega)
        have HAd := Lib.hid hadd
        have hwr := HG.out.wr
        have HC := Lib.hid (HW.out.add2 jA (by have := H10.out; omega) HS0.out (by have := HNn.out; omega))
        rw [← HNn.out, HAd.out.2] at HC
        have hsh2 : ∀ e, e < k + 1 → ∀ h : e < l.length, l[e].length ≤ 112 := by
          intro e he hel
          by_cases hek : e = k
          · subst hek; have := HNn.out; omega
          · exact HSh.out e (by omega) hel
        have HSh2 := Lib.hid hsh2
        clear hadd h112 hsh2
        by_cases hf : 2 * (k + 1) ≤ N
        · rw [if_pos hf] at HC
          have HM := Lib.hid (show ((min k (N / 2) : Nat) : Int) + 1 = ((min (k + 1) (N / 2) : Nat) : Int) by omega)
          have hmw : IntKind.i64.wrap (((min k (N / 2) : Nat) : Int) + 1) = ((min k (N / 2) : Nat) : Int) + 1 := IntWalk.i64_in _ (by omega)
          generalize min k (N / 2) = mk at *
          clear hf
          go_wp2_with fail
          refine HC.out.mono ?_
          rintro e w1 ⟨rfl, hW1⟩
          have HW1 := Lib.hid hW1
          clear hW1
          go_wp2_with fail
          go_roundw
          case rel => exact ⟨k + 1, _, _, by omega, by go_num, by rw [← HM.out], HAd.out.1, HSh2.out, HW1.out⟩
          case measure => simp [intOf]; omega
        · rw [if_neg hf] at HC
          have HM := Lib.hid (show min k (N / 2) = min (k + 1) (N / 2) by omega)
          generalize min k (N / 2) = mk at *
          clear hf
          go_wp2_with fail
          refine HC.out.mono ?_
          rintro e w1 ⟨rfl, hW1⟩
          have HW1 := Lib.hid hW1
          clear hW1
          go_wp2_with fail
          go_roundw
          case rel => exact ⟨k + 1, _, _, by omega, by go_num, by rw [← HM.out], HAd.out.1, HSh2.out, HW1.out⟩
          case measure => simp [intOf]; omega
    · obtain rfl : k = a := by omega
      have hci : wantN N Kp l.length ≤ l.length ∧ CI 20 (powerS S) (l.take (wantN N Kp l.length)) := by
        have hG := HG.out
        rw [HLa.out] at hG
        refine hG.ci hK (by have := H10.out; omega) (fun b hb => ?_)
        obtain ⟨e, he, rfl⟩ := List.getElem_of_mem hb
        exact HSh.out e (by rw [HLa.out]; exact he) he
      have hof := HG.out.off
      rw [← HLa.out] at hci
      obtain ⟨hWa, hci⟩ := hci
      have HCI := Lib.hid hci
      obtain ⟨o, ho⟩ : ∃ o, o = S.off := ⟨_, rfl⟩
      rw [← ho] at hof
      have HOn := Lib.hid (HW.out.on dO)
      rw [← ho] at HOn
      have HOf := Lib.hid hof
      clear hlt hci HSh ho hof
      have hJ := Lib.hid (show J = ⟨3, 12, 0, J.n⟩ by rw [HG.out.j])
      have hk10 : k ≤ 10 := by have := H10.out; have := HLa.out; omega
      clear HG
      go_wp2_with fail
      refine HOn.out.mono ?_
      rintro e V4 ⟨rfl, hW4⟩
      have HW4 := Lib.hid hW4
      have HPw := Lib.hid (HW4.out.power dP)
      clear hW4 HOn HW
      go_wp2_with fail
      refine HPw.out.mono ?_
      rintro e V5 ⟨rfl, hW5⟩
      have HW5 := Lib.hid hW5
      clear hW5 HW4 HPw
      obtain ⟨W, hW⟩ : ∃ W, W = wantN N Kp k := ⟨_, rfl⟩
      rw [← hW] at hWa HCI
      have HWn := Lib.hid hW
      clear hW
      go_upto_region 20 with fail
      have HWv := HWn.out
      unfold wantN at HWv
      obtain ⟨c, hc⟩ : ∃ c : Bool, c = decide (N < 2 * k ∧ N % 2 = 1 ∧ Kp = 128) := ⟨_, rfl⟩
      go_cut [91] (fun s wx => s = .bool c ∧ wx = V5)
      case first =>
        have qn : (N : Int) % 2 = if N % 2 = 1 then 1 else 0 := by split <;> omega
        have hof := HOf.out
        clear HWv HOf
        cases o with
        | false =>
          have h1 : ¬ N < 2 * k := by simpa using hof
          have hf : c = false := by rw [hc]; simp; intro h; exact absurd h h1
          clear qn hc hof h1
          subst hf
          go_wp2_with fail
          go_meet
          exact ⟨rfl, rfl⟩
        | true =>
          have h1 : N < 2 * k := by simpa using hof
          by_cases h2 : N % 2 = 1
          · rw [if_pos h2] at qn
            by_cases h128 : Kp = 128
            · have d2 : ((Kp : Int) == 128) = true := by simp; omega
              have hf : c = true := by rw [hc]; simp; omega
              clear hc hof h1 h2 h128
              subst hf
              go_wp2_with fail
              go_meet
              exact ⟨rfl, rfl⟩
            · have d2 : ((Kp : Int) == 128) = false := by simp; omega
              have hf : c = false := by rw [hc]; simp; omega
              clear hc hof h1 h2 h128
              subst hf
              go_wp2_with fail
              go_meet
              exact ⟨rfl, rfl⟩
          · rw [if_neg h2] at qn
            have hf : c = false := by rw [hc]; simp; omega
            clear hc hof h1 h2
            subst hf
            go_wp2_with fail
            go_meet
            exact ⟨rfl, rfl⟩
      case rest =>
      obtain ⟨rfl, rfl⟩ := hcut
      go_upto_if 91 with fail
      go_cut [16] (fun s wx => s = .int .i64 (W : Int) ∧ wx = wc)
      case first =>
        cases c with
        | false =>
          have h1 : ¬ (N < 2 * k ∧ N % 2 = 1 ∧ Kp = 128) := by simpa using hc
          rw [if_neg h1] at HWv
          have e : min k (N / 2) = W := by omega
          have E := Lib.hid e
          clear HWv hc h1 e
          go_wp2_with fail
          go_meet
          exact ⟨by rw [E.out], rfl⟩
        | true =>
          have h1 : N < 2 * k ∧ N % 2 = 1 ∧ Kp = 128 := by simpa using hc
          rw [if_pos h1] at HWv
          have HM := Lib.hid (show ((min k (N / 2) : Nat) : Int) + 1 = (W : Int) by omega)
          have hmw : IntKind.i64.wrap (((min k (N / 2) : Nat) : Int) + 1) = ((min k (N / 2) : Nat) : Int) + 1 := IntWalk.i64_in _ (by omega)
          clear HWv hc h1
          generalize min k (N / 2) = mk at *
          go_wp2_with fail
          go_meet
          exact ⟨by rw [← HM.out], rfl⟩
      case rest =>
      obtain ⟨rfl, rfl⟩ := hcut
      clear HWv hc
      go_upto_region 22 with fail
      have HY0 := Lib.hid (fun V (hV : Below w0.heap.size w0 V) => (show V.cell? ⟨bx + 1, 0, none⟩ = some (.int .u8 (yn : Int)) from (hV.cell (p := ⟨bx + 1, 0, none⟩) hw).trans (Y0.out.cell 0)))
      have HY1 := Lib.hid (fun V (hV : Below w0.heap.size w0 V) => (show V.cell? ⟨bx + 1, 1, none⟩ = some (.int .u8 (yk : Int)) from (hV.cell (p := ⟨bx + 1, 1, none⟩) hw).trans (Y0.out.cell 1)))
      have hyn : IntKind.i64.wrap (yn : Int) = (yn : Int) := IntWalk.i64_in _ (by omega)
      have hyk : IntKind.i64.wrap (yk : Int) = (yk : Int) := IntWalk.i64_in _ (by omega)
      have hlen : (l.take W).length = W := by rw [List.length_take]; have := HLa.out; omega
      have HLn := Lib.hid hlen
      have HT := Lib.hid (fun V (hV : Below w0.heap.size w0 V) => RowsAt.first (n := W) (HLs.out.below hV (Nat.le_refl _)) (by have := HLa.out; omega))
      have HJn := hJ
      have HW6 := HW5
      rw [HJn.out] at HW6
      have HO1 : Hid (Calls Try.prog 13 #[ptrV jb, .int .i64 0] wc fun e w' => ∃ v, e = .returned (.tuple #[v, .int .i64 0]) ∧ JW K R w0 jb db (powerS S) ⟨3, 12, 0, (l.take W).length⟩ ((v, l.take W) :: []) w') := Lib.hid (HW6.out.openOn jO 0 (by omega) rfl HCI.out.steps)
      generalize l.take W = A at *
      clear hJ HJn HW5 HW6 HKI X0 Y0 hlen HWn HLx HLy
      unfold ptrV at *
      go_wp2_with fail
      refine HO1.out.mono ?_
      rintro e V6 ⟨v6, rfl, hW6⟩
      have HS6 := Lib.hid (rows_same v6 _ A A V6 (hW6.row (v := v6) (l := A) (by simp)) (HT.out V6 hW6.below))
      rw [show decide (A = A) = true by simp] at HS6
      have HW6 := Lib.hid hW6
      clear hW6 HO1
      have dw : decide ((k : Int) < (W : Int)) = false := by simp; omega
      have dw2 : decide (k < W) = false := by simp; omega
      have mw : min (W : Int) (k : Int) = (W : Int) := by omega
      have hWlc : W ≤ lc := by
        obtain ⟨q, c, h1, h2, -⟩ := HT.out w0 (Below.refl _ _)
        rw [Value.slice.injEq] at h1
        have := HLn.out
        omega
      have u1 := fun V => run_upto V lp k lc W hWlc
      go_wp2_with fail
      refine HS6.out.mono ?_
      rintro e V7 ⟨rfl, hB7⟩
      have HW7 := Lib.hid (HW6.out.step hB7)
      have k2 := HY0.out V7 HW7.out.below
      have k3 := HY1.out V7 HW7.out.below
      have HAr := Lib.hid (HW7.out.arm dA ((yn : Int) % 3) ((yk : Int) % 129) (by omega))
      have HCl := Lib.hid (HCI.out.clean ((yn : Int) % 3) ((yk : Int) % 129) (by omega) 0)
      clear hB7 HS6 HW6 u1
      go_wp2_with fail
      refine HAr.out.mono ?_
      rintro e V8 ⟨rfl, hW8⟩
      have HC1 := Lib.hid (hW8.clean jC (by have := HCl.out.1; omega))
      have HB8 := Lib.hid hW8.below
      clear hW8 HAr HW7 k2 k3
      go_wp2_with fail
      refine HC1.out.mono ?_
      rintro e V9 ⟨rfl, hW9⟩
      have HPw := Lib.hid (hW9.power dP)
      have HC2 := Lib.hid HCl.out.2
      have HCd := Lib.hid (HC2.out.cleaned rfl rfl 0)
      have HOf := Lib.hid (show (powerS (cleanD (armS (powerS S) ((yn : Int) % 3) ((yk : Int) % 129)) ⟨3, 12, 0, A.length⟩)).off = false from rfl)
      clear hW9 HC1 HB8 HCl
      generalize armE ((yn : Int) % 3) ((yk : Int) % 129) = ea at *
      generalize cleanE (armS (powerS S) ((yn : Int) % 3) ((yk : Int) % 129)) ⟨3, 12, 0, A.length⟩ = ec at *
      generalize powerS (cleanD (armS (powerS S) ((yn : Int) % 3) ((yk : Int) % 129)) ⟨3, 12, 0, A.length⟩) = S2 at *
      go_wp2_with fail
      refine HPw.out.mono ?_
      rintro e V10 ⟨rfl, hW10⟩
      have HO2 : Hid (Calls Try.prog 13 #[ptrV jb, .int .i64 0] V10 fun e w' => ∃ v, e = .returned (.tuple #[v, .int .i64 0]) ∧ JW K R w0 jb db S2 ⟨3, 12, 0, A.length⟩ ((v, A) :: (v6, A) :: []) w') := Lib.hid (hW10.openOn jO 0 (by omega) HOf.out HC2.out.steps)
      clear hW10 HPw
      unfold ptrV at *
      go_wp2_with fail
      refine HO2.out.mono ?_
      rintro e V11 ⟨v11, rfl, hW11⟩
      have HS11 := Lib.hid (rows_same v6 v11 A A V11 (hW11.row (v := v6) (l := A) (by simp)) (hW11.row (v := v11) (l := A) (by simp)))
      rw [show decide (A = A) = true by simp] at HS11
      have HW11 := Lib.hid hW11
      clear hW11 HO2
      go_wp2_with fail
      refine HS11.out.mono ?_
      rintro e V12 ⟨rfl, hB12⟩
      have HC3 := Lib.hid ((HW11.out.step hB12).clean jC (by have := HC2.out.wr; omega))
      rw [HCd.out.1] at HC3
      clear hB12 HS11 HW11
      go_wp2_with fail
      refine HC3.out.mono ?_
      rintro e V13 ⟨rfl, hW13⟩
      have HO3 : Hid (Calls Try.prog 13 #[ptrV jb, .int .i64 0] V13 fun e w' => ∃ v, e = .returned (.tuple #[v, .int .i64 0]) ∧ JW K R w0 jb db (cleanD S2 ⟨3, 12, 0, A.length⟩) ⟨3, 12, 0, A.length⟩ ((v, A) :: (v11, A) :: (v6, A) :: []) w') := Lib.hid (hW13.openOn jO 0 (by omega) HCd.out.2.2 HCd.out.2.1.steps)
      clear hW13 HC3
      unfold ptrV at *
      go_wp2_with fail
      refine HO3.out.mono ?_
      rintro e V14 ⟨v14, rfl, hW14⟩
      have HS14 := Lib.hid (rows_same v6 v14 A A V14 (hW14.row (v := v6) (l := A) (by simp)) (hW14.row (v := v14) (l := A) (by simp)))
      rw [show decide (A = A) = true by simp] at HS14
      have HB14 := Lib.hid (HLv.out _ hW14.below)
      have HB14s := Lib.hid hW14.below
      clear hW14 HO3
      go_wp2_with fail
      refine HS14.out.mono ?_
      rintro e V15 ⟨rfl, hB15⟩
      have HB15 := Lib.hid (HB14s.out.trans (hB15.mono HB14s.out.size))
      clear hB15 HS14 HB14 HB14s
      go_wp2_with fail
      refine (HA.out _).mono ?_
      rintro e V16 ⟨rfl, hB16⟩
      have HB16 := Lib.hid (HLv.out _ (HB15.out.trans (hB16.mono HB15.out.size)))
      clear hB16
      go_wp2_with fail
      go_ret
      exact ⟨rfl, by rw [HBX.out]; exact HB16.out⟩
end Go.Proofs.Ytlbdpoolhmbgaaa

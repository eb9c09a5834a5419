/-
  A region that draws its order, by any invariant of what was met so far: I L x V, L the operations met, x their values, V the world. Each operation is met once, in whatever order the edges allow.
-/
import Derived.Shelf.Strconv.Atoi
import Derived.Shelf.Strconv.Itoa0
import Derived.Shelf.Strconv.Itoa1
import Derived.Shelf.LaysM
import Derived.Shelf.Strconv.Itoa2
import Derived.Shelf.Strconv.Itoa3
import Derived.Shelf.Strconv.AtoiErrFast
import Derived.Shelf.Strconv.ParseIntEmpty
import Derived.Shelf.Strconv.AtoiFail
import Derived.Shelf.Strconv.Clone
import Derived.Shelf.Strconv.SyntaxError
import Derived.Shelf.LaysC
import Derived.Shelf.Strconv.ToError
import Derived.Shelf.Strconv.AtoiErr
import Derived.Shelf.Strconv.ErrVar
import Derived.Shelf.Strconv.Lower
import Derived.Shelf.Strconv.ParseUint10
import Derived.Shelf.Strconv.ParseUint10Empty
import Derived.Shelf.Strconv.ParseUint10Any
import Derived.Shelf.Strconv.ParseInt10
import Derived.Shelf.Strconv.AtoiLong
import Derived.Shelf.Strconv.AtoiInnerAll
import Derived.Shelf.Strconv.RangeError
import Derived.Shelf.Strconv.ToErrorRange
import Derived.Shelf.Strconv.AtoiAll
import Derived.Shelf.Strconv.ErrVarAll
import Derived.Test.YtfhjmhmgkdadhaaDoorProg
import Derived.Lib.ItoaNum
import Derived.Lib.Join
import Derived.Lib.AtoiAll
import Derived.Lib.Bytealg
import Derived.Laws.BitsAllLaws
import Derived.Laws.ShiftsVarLaws
import Derived.WalkKit
import Derived.Lib.TrailingZeros
import Derived.Test.YtfhjmhmgkdadhaaDoorRows
import Derived.WalkSpells
import Derived.WalkLawsBesides
import Derived.Lib.Hide
import Derived.Deep.QuietTactic
import Derived.BigQuiet
import Derived.LoopTactic
import Derived.Outline
import Derived.Lib.IndexBytes
import Derived.Lib.AtoiErrMem
import Derived.Orders
import Derived.Below
import Derived.Tactics
import Derived.StillTail
import Derived.Laws.Rows
import Derived.Laws.Tables
/-! Shelf -/
namespace Go.Proofs
open Go.Shelf
def Tryd.lays171_ren : Go.Shelf.Ren := ⟨fun | 171 => 42 | 243 => 48 | 246 => 55 | 283 => 61 | 284 => 62 | 285 => 63 | 286 => 64 | 129 => 68 | 317 => 67 | 318 => 69 | 319 => 70 | 320 => 71 | 337 => 72 | 338 => 73 | n => n, fun | 3 => 3 | 9 => 9 | 2 => 2 | 4 => 4 | 171 => 94 | 0 => 0 | 53 => 86 | 37 => 78 | 5 => 5 | 173 => 97 | 212 => 105 | 51 => 106 | 20 => 20 | 213 => 107 | 46 => 89 | 232 => 111 | 233 => 112 | n => n, fun | 17 => 2 | 18 => 3 | 19 => 4 | n => n⟩
theorem Tryd.lays171 : Go.Proofs.Lays.n171 Tryd.prog Tryd.lays171_ren := {
  mixed := by kernel_rfl
  f129 := Tryd.func68.trans (congrArg some (by kernel_rfl))
  f171 := Tryd.func42.trans (congrArg some (by kernel_rfl))
  f243 := Tryd.func48.trans (congrArg some (by kernel_rfl))
  f246 := Tryd.func55.trans (congrArg some (by kernel_rfl))
  f283 := Tryd.func61.trans (congrArg some (by kernel_rfl))
  f284 := Tryd.func62.trans (congrArg some (by kernel_rfl))
  f285 := Tryd.func63.trans (congrArg some (by kernel_rfl))
  f286 := Tryd.func64.trans (congrArg some (by kernel_rfl))
  f317 := Tryd.func67.trans (congrArg some (by kernel_rfl))
  f318 := Tryd.func69.trans (congrArg some (by kernel_rfl))
  f319 := Tryd.func70.trans (congrArg some (by kernel_rfl))
  f320 := Tryd.func71.trans (congrArg some (by kernel_rfl))
  f337 := Tryd.func72.trans (congrArg some (by kernel_rfl))
  f338 := Tryd.func73.trans (congrArg some (by kernel_rfl))
  t0 := Tryd.underlying0
  a0 := Tryd.isAgg0
  z0 := Tryd.sizeOf0
  v0 := Tryd.zeroValue0
  t2 := Tryd.underlying2
  a2 := Tryd.isAgg2
  z2 := Tryd.sizeOf2
  v2 := Tryd.zeroValue2
  t3 := Tryd.underlying3
  a3 := Tryd.isAgg3
  z3 := Tryd.sizeOf3
  v3 := Tryd.zeroValue3
  t4 := Tryd.underlying4
  a4 := Tryd.isAgg4
  z4 := Tryd.sizeOf4
  v4 := Tryd.zeroValue4
  t5 := Tryd.underlying5
  a5 := Tryd.isAgg5
  z5 := Tryd.sizeOf5
  v5 := Tryd.zeroValue5
  t9 := Tryd.underlying9
  a9 := Tryd.isAgg9
  z9 := Tryd.sizeOf9
  v9 := Tryd.zeroValue9
  t20 := Tryd.underlying20
  a20 := Tryd.isAgg20
  z20 := Tryd.sizeOf20
  v20 := Tryd.zeroValue20
  t37 := Tryd.underlying78
  a37 := Tryd.isAgg78
  z37 := Tryd.sizeOf78
  v37 := Tryd.zeroValue78
  t46 := Tryd.underlying89
  a46 := Tryd.isAgg89
  z46 := Tryd.sizeOf89
  v46 := Tryd.zeroValue89
  t51 := Tryd.underlying106
  a51 := Tryd.isAgg106
  z51 := Tryd.sizeOf106
  v51 := Tryd.zeroValue106
  t53 := Tryd.underlying86
  a53 := Tryd.isAgg86
  z53 := Tryd.sizeOf86
  v53 := Tryd.zeroValue86
  t171 := Tryd.underlying94
  a171 := Tryd.isAgg94
  z171 := Tryd.sizeOf94
  v171 := Tryd.zeroValue94
  t173 := Tryd.underlying97
  a173 := Tryd.isAgg97
  z173 := Tryd.sizeOf97
  v173 := Tryd.zeroValue97
  t212 := Tryd.underlying105
  a212 := Tryd.isAgg105
  z212 := Tryd.sizeOf105
  v212 := Tryd.zeroValue105
  t213 := Tryd.underlying107
  a213 := Tryd.isAgg107
  z213 := Tryd.sizeOf107
  t232 := Tryd.underlying111
  a232 := Tryd.isAgg111
  z232 := Tryd.sizeOf111
  v232 := Tryd.zeroValue111
  t233 := Tryd.underlying112
  a233 := Tryd.isAgg112
  z233 := Tryd.sizeOf112
  v233 := Tryd.zeroValue112
  g17 := by kernel_rfl
  g18 := by kernel_rfl
  g19 := by kernel_rfl }
open Go.RowKit Go.Sort Go.Lib in
theorem Tryd.strconv_Itoa_small (i : Nat) (hi : i < 100) (w : World) :
    Calls Tryd.prog 42 #[.int .i64 i] w fun e w' => e = .returned (.string ⟨(Lib.decDigits i).toArray⟩) ∧ w' = w := Any.strconv_Itoa_small Tryd.lays171 i hi w
def Tryd.laysC172_ren : Go.Shelf.Ren := ⟨fun | 172 => 41 | 244 => 46 | 245 => 47 | 247 => 50 | 279 => 51 | 280 => 52 | 281 => 53 | 282 => 54 | 287 => 58 | 316 => 59 | 171 => 42 | 205 => 60 | 321 => 65 | 322 => 66 | 243 => 48 | 246 => 55 | 283 => 61 | 284 => 62 | 285 => 63 | 286 => 64 | 129 => 68 | 317 => 67 | 318 => 69 | 319 => 70 | 320 => 71 | 337 => 72 | 338 => 73 | n => n, fun | 9 => 9 | 3 => 3 | 75 => 73 | 76 => 74 | 4 => 4 | 5 => 5 | 167 => 77 | 37 => 78 | 0 => 0 | 85 => 79 | 2 => 2 | 168 => 81 | 53 => 86 | 175 => 87 | 46 => 89 | 210 => 92 | 127 => 100 | 145 => 103 | 143 => 101 | 21 => 21 | 171 => 94 | 173 => 97 | 212 => 105 | 51 => 106 | 20 => 20 | 213 => 107 | 232 => 111 | 233 => 112 | 80 => 113 | n => n, fun | 15 => 0 | 16 => 1 | 17 => 2 | 18 => 3 | 19 => 4 | n => n⟩
theorem Tryd.laysC172 : Go.Proofs.LaysC.n172 Tryd.prog Tryd.laysC172_ren := {
  mixed := by kernel_rfl
  f129 := Tryd.func68.trans (congrArg some (by kernel_rfl))
  f171 := Tryd.func42.trans (congrArg some (by kernel_rfl))
  f172 := Tryd.func41.trans (congrArg some (by kernel_rfl))
  f205 := Tryd.func60.trans (congrArg some (by kernel_rfl))
  f243 := Tryd.func48.trans (congrArg some (by kernel_rfl))
  f244 := Tryd.func46.trans (congrArg some (by kernel_rfl))
  f245 := Tryd.func47.trans (congrArg some (by kernel_rfl))
  f246 := Tryd.func55.trans (congrArg some (by kernel_rfl))
  f247 := Tryd.func50.trans (congrArg some (by kernel_rfl))
  f279 := Tryd.func51.trans (congrArg some (by kernel_rfl))
  f280 := Tryd.func52.trans (congrArg some (by kernel_rfl))
  f281 := Tryd.func53.trans (congrArg some (by kernel_rfl))
  f282 := Tryd.func54.trans (congrArg some (by kernel_rfl))
  f283 := Tryd.func61.trans (congrArg some (by kernel_rfl))
  f284 := Tryd.func62.trans (congrArg some (by kernel_rfl))
  f285 := Tryd.func63.trans (congrArg some (by kernel_rfl))
  f286 := Tryd.func64.trans (congrArg some (by kernel_rfl))
  f287 := Tryd.func58.trans (congrArg some (by kernel_rfl))
  f316 := Tryd.func59.trans (congrArg some (by kernel_rfl))
  f317 := Tryd.func67.trans (congrArg some (by kernel_rfl))
  f318 := Tryd.func69.trans (congrArg some (by kernel_rfl))
  f319 := Tryd.func70.trans (congrArg some (by kernel_rfl))
  f320 := Tryd.func71.trans (congrArg some (by kernel_rfl))
  f321 := Tryd.func65.trans (congrArg some (by kernel_rfl))
  f322 := Tryd.func66.trans (congrArg some (by kernel_rfl))
  f337 := Tryd.func72.trans (congrArg some (by kernel_rfl))
  f338 := Tryd.func73.trans (congrArg some (by kernel_rfl))
  t0 := Tryd.underlying0
  a0 := Tryd.isAgg0
  z0 := Tryd.sizeOf0
  v0 := Tryd.zeroValue0
  t2 := Tryd.underlying2
  a2 := Tryd.isAgg2
  z2 := Tryd.sizeOf2
  v2 := Tryd.zeroValue2
  t3 := Tryd.underlying3
  a3 := Tryd.isAgg3
  z3 := Tryd.sizeOf3
  v3 := Tryd.zeroValue3
  t4 := Tryd.underlying4
  a4 := Tryd.isAgg4
  z4 := Tryd.sizeOf4
  v4 := Tryd.zeroValue4
  t5 := Tryd.underlying5
  a5 := Tryd.isAgg5
  z5 := Tryd.sizeOf5
  v5 := Tryd.zeroValue5
  t9 := Tryd.underlying9
  a9 := Tryd.isAgg9
  z9 := Tryd.sizeOf9
  v9 := Tryd.zeroValue9
  t20 := Tryd.underlying20
  a20 := Tryd.isAgg20
  z20 := Tryd.sizeOf20
  v20 := Tryd.zeroValue20
  t21 := Tryd.underlying21
  a21 := Tryd.isAgg21
  z21 := Tryd.sizeOf21
  v21 := Tryd.zeroValue21
  t37 := Tryd.underlying78
  a37 := Tryd.isAgg78
  z37 := Tryd.sizeOf78
  v37 := Tryd.zeroValue78
  t46 := Tryd.underlying89
  a46 := Tryd.isAgg89
  z46 := Tryd.sizeOf89
  v46 := Tryd.zeroValue89
  t51 := Tryd.underlying106
  a51 := Tryd.isAgg106
  z51 := Tryd.sizeOf106
  v51 := Tryd.zeroValue106
  t53 := Tryd.underlying86
  a53 := Tryd.isAgg86
  z53 := Tryd.sizeOf86
  v53 := Tryd.zeroValue86
  t75 := Tryd.underlying73
  a75 := Tryd.isAgg73
  z75 := Tryd.sizeOf73
  v75 := Tryd.zeroValue73
  t76 := Tryd.underlying74
  a76 := Tryd.isAgg74
  z76 := Tryd.sizeOf74
  v76 := Tryd.zeroValue74
  t85 := Tryd.underlying79
  a85 := Tryd.isAgg79
  z85 := Tryd.sizeOf79
  v85 := Tryd.zeroValue79
  t127 := Tryd.underlying100
  a127 := Tryd.isAgg100
  z127 := Tryd.sizeOf100
  v127 := Tryd.zeroValue100
  t143 := Tryd.underlying101
  a143 := Tryd.isAgg101
  z143 := Tryd.sizeOf101
  v143 := Tryd.zeroValue101
  t145 := Tryd.underlying103
  a145 := Tryd.isAgg103
  z145 := Tryd.sizeOf103
  v145 := Tryd.zeroValue103
  t167 := Tryd.underlying77
  a167 := Tryd.isAgg77
  z167 := Tryd.sizeOf77
  v167 := Tryd.zeroValue77
  t168 := Tryd.underlying81
  a168 := Tryd.isAgg81
  z168 := Tryd.sizeOf81
  v168 := Tryd.zeroValue81
  t171 := Tryd.underlying94
  a171 := Tryd.isAgg94
  z171 := Tryd.sizeOf94
  v171 := Tryd.zeroValue94
  t173 := Tryd.underlying97
  a173 := Tryd.isAgg97
  z173 := Tryd.sizeOf97
  v173 := Tryd.zeroValue97
  t175 := Tryd.underlying87
  a175 := Tryd.isAgg87
  z175 := Tryd.sizeOf87
  v175 := Tryd.zeroValue87
  t210 := Tryd.underlying92
  a210 := Tryd.isAgg92
  z210 := Tryd.sizeOf92
  v210 := Tryd.zeroValue92
  t212 := Tryd.underlying105
  a212 := Tryd.isAgg105
  z212 := Tryd.sizeOf105
  v212 := Tryd.zeroValue105
  t213 := Tryd.underlying107
  a213 := Tryd.isAgg107
  z213 := Tryd.sizeOf107
  t232 := Tryd.underlying111
  a232 := Tryd.isAgg111
  z232 := Tryd.sizeOf111
  v232 := Tryd.zeroValue111
  t233 := Tryd.underlying112
  a233 := Tryd.isAgg112
  z233 := Tryd.sizeOf112
  v233 := Tryd.zeroValue112
  g15 := by kernel_rfl
  g16 := by kernel_rfl
  g17 := by kernel_rfl
  g18 := by kernel_rfl
  g19 := by kernel_rfl
  t80 := Tryd.underlying113
  a80 := Tryd.isAgg113
  z80 := Tryd.sizeOf113
  v80 := Tryd.zeroValue113
  i0 := by kernel_rfl
  i2 := by kernel_rfl
  i3 := by kernel_rfl
  i4 := by kernel_rfl
  i5 := by kernel_rfl
  i9 := by kernel_rfl
  i20 := by kernel_rfl
  i21 := by kernel_rfl
  i37 := by kernel_rfl
  i46 := by kernel_rfl
  i51 := by kernel_rfl
  i53 := by kernel_rfl
  i75 := by kernel_rfl
  i76 := by kernel_rfl
  i80 := by kernel_rfl
  i85 := by kernel_rfl
  i127 := by kernel_rfl
  i143 := by kernel_rfl
  i145 := by kernel_rfl
  i167 := by kernel_rfl
  i168 := by kernel_rfl
  i171 := by kernel_rfl
  i173 := by kernel_rfl
  i175 := by kernel_rfl
  i210 := by kernel_rfl
  i212 := by kernel_rfl
  i232 := by kernel_rfl
  i233 := by kernel_rfl
  m15 := by kernel_rfl
  m16 := by kernel_rfl
  m17 := by kernel_rfl
  m18 := by kernel_rfl
  m19 := by kernel_rfl
  c0 := by kernel_rfl
  c2 := by kernel_rfl
  c3 := by kernel_rfl
  c4 := by kernel_rfl
  c5 := by kernel_rfl
  c9 := by kernel_rfl
  c20 := by kernel_rfl
  c21 := by kernel_rfl
  c37 := by kernel_rfl
  c46 := by kernel_rfl
  c51 := by kernel_rfl
  c53 := by kernel_rfl
  c75 := by kernel_rfl
  c76 := by kernel_rfl
  c80 := by kernel_rfl
  c85 := by kernel_rfl
  c127 := by kernel_rfl
  c143 := by kernel_rfl
  c145 := by kernel_rfl
  c167 := by kernel_rfl
  c168 := by kernel_rfl
  c171 := by kernel_rfl
  c173 := by kernel_rfl
  c175 := by kernel_rfl
  c210 := by kernel_rfl
  c212 := by kernel_rfl
  c213 := by kernel_rfl
  c232 := by kernel_rfl
  c233 := by kernel_rfl }
open Go.RowKit in
theorem Tryd.strconv_Atoi_ok (s : ByteArray) (hmax : s.size ≤ 9223372036854775806) (v : Int) (h : Lib.atoiAll s.data.toList = .ok v) (w : World) :
    Calls Tryd.prog 41 #[.string s] w fun e w' => e = .returned (.tuple #[.int .i64 v, .nilIface]) ∧ (w' = w ∨ ∃ t, w' = Lib.bytesWorld w 5 t) := Any.strconv_Atoi_ok Tryd.laysC172 s hmax v h w
end Go.Proofs

/-! Texts -/
namespace Go.Proofs.YtfhjmhmgkdadhaaDoor

/-- The digits of a tag. -/
def dig (t : Nat) : List UInt8 := if t < 10 then [UInt8.ofNat (48 + t)] else [49, UInt8.ofNat (38 + t)]
theorem dec_dig : ∀ t, t < 16 → Lib.decDigits t = dig t := by
  intro t ht
  by_cases h : t < 10
  · rw [Lib.decDigits, dif_pos h, dig, if_pos h]
  · rw [Lib.decDigits, dif_neg h, Lib.decDigits, dif_pos (by omega), dig, if_neg h]
    have h1 : t / 10 = 1 := by omega
    have h2 : 48 + t % 10 = 38 + t := by omega
    rw [h1, h2]; rfl
theorem dig_atoi : ∀ t : Fin 16, Lib.atoiAll (dig t.val) = .ok (t.val : Int) := by decide +kernel
theorem dig_len : ∀ t : Fin 16, 1 ≤ (dig t.val).length ∧ (dig t.val).length ≤ 2 := by decide +kernel
theorem dig_inj {t u : Nat} (ht : t < 16) (hu : u < 16) (h : dig t = dig u) : t = u := by
  have h1 := dig_atoi ⟨t, ht⟩
  have h2 := dig_atoi ⟨u, hu⟩
  simp only at h1 h2
  rw [h, h2] at h1
  injection h1 with h1
  omega

/-! Rising lists. -/
/-! What a parser of such a text knows while it goes. -/
end Go.Proofs.YtfhjmhmgkdadhaaDoor

/-! TagA -/
namespace Go.Proofs.YtfhjmhmgkdadhaaDoor
open Go.RowKit

/-- The table of the library in its variable. -/
def Tab32 (w : World) : Prop := ∀ j, j < 32 → w.cell? ⟨3, j, none⟩ = some (.int .u8 (Lib.deBruijn32tab.getD j 0))

end Go.Proofs.YtfhjmhmgkdadhaaDoor

/-! NumA -/
namespace Go.Proofs.YtfhjmhmgkdadhaaDoor
open Go.RowKit

theorem cat_run (x y : List UInt8) (h : x.length + y.length ≤ 1000) : ∀ V : World, (Op.stringOp .add ⟨x.toArray⟩ ⟨y.toArray⟩).run Tryd.prog V = .ok (.string ⟨(x ++ y).toArray⟩) V :=
  fun V => run_string_add_lists V x y (by omega) (by omega)
theorem exec_cat {o : Oper} {a : Act} {w : World} {t t2 : TypeId} {x y : Operand} (ho : o.op = .binOp .add t x y t2) {l m : List UInt8} (hx : a.eval x = .string ⟨l.toArray⟩) (hy : a.eval y = .string ⟨m.toArray⟩) (h : l.length + m.length ≤ 1000) : (execOp a.eval o).run Tryd.prog w = .ok (.value (.string ⟨(l ++ m).toArray⟩)) w := by
  unfold execOp
  simp only [ho, hx, hy, binOp_string_add, Sem.run_bind, cat_run l m h, eqGuard]
  simp
theorem num_ten : ∀ n : Fin 10, (⟨#[48, 49, 50, 51, 52, 53, 54, 55, 56, 57]⟩ : ByteArray).extract n.val (n.val + 1) = ⟨(dig n.val).toArray⟩ := by decide +kernel
theorem dig_big : ∀ n : Fin 16, 9 < n.val → [49] ++ dig (n.val - 10) = dig n.val := by decide +kernel
theorem rdNum_small (n : Nat) (hn : n < 10) (w : World) : Calls Tryd.prog 37 #[.int .i64 (n : Int)] w fun e w' => e = .returned (.string ⟨(dig n).toArray⟩) ∧ w = w' := by
  have HX := Lib.hid (show (⟨#[48, 49, 50, 51, 52, 53, 54, 55, 56, 57]⟩ : ByteArray).extract n (n + 1) = ⟨(dig n).toArray⟩ from num_ten ⟨n, hn⟩)
  have d : decide ((9 : Int) < (n : Int)) = false := by simp; omega
  have q : IntKind.i64.wrap ((n : Int) + 1) = (n : Int) + 1 := by rw [IntKind.wrap_i64]; omega
  have a0 : (0 : Int) ≤ (n : Int) := by omega
  have a1 : (n : Int) ≤ (n : Int) + 1 := by omega
  have a2 : (n : Int) + 1 ≤ 10 := by omega
  clear hn
  go_enter Tryd.func37, Tryd.ntmps37
  go_wp2_with fail
  go_ret
  exact ⟨congrArg (fun b => Ending.returned (Value.string b)) HX.out, rfl⟩
theorem rdNum_any (n : Nat) (hn : n < 16) (w : World) : Calls Tryd.prog 37 #[.int .i64 (n : Int)] w fun e w' => e = .returned (.string ⟨(dig n).toArray⟩) ∧ w = w' := by
  by_cases h10 : n < 10
  · exact rdNum_small n h10 w
  have HX := Lib.hid (show [49] ++ dig (n - 10) = dig n from dig_big ⟨n, hn⟩ (by show 9 < n; omega))
  have H0 := Lib.hid (rdNum_small (n - 10) (by omega) w)
  have d : decide ((9 : Int) < (n : Int)) = true := by simp; omega
  have q : IntKind.i64.wrap ((n : Int) - 10) = ((n - 10 : Nat) : Int) := by rw [IntKind.wrap_i64]; omega
  have hlen : (dig (n - 10)).length ≤ 2 := (dig_len ⟨n - 10, by omega⟩).2
  have hc : ∀ V : World, (Op.stringOp .add ⟨#[49]⟩ ⟨(dig (n - 10)).toArray⟩).run Tryd.prog V = .ok (.string ⟨([49] ++ dig (n - 10)).toArray⟩) V := cat_run [49] (dig (n - 10)) (by simp; omega)
  generalize n - 10 = m at *
  clear hn h10 hlen
  go_enter Tryd.func37, Tryd.ntmps37
  go_wp2_with fail
  refine H0.out.mono ?_
  rintro e w1 ⟨rfl, rfl⟩
  go_wp2_with fail
  go_ret
  exact ⟨by rw [← HX.out]; rfl, rfl⟩
theorem exec_streq {o : Oper} {a : Act} {w : World} {t t2 : TypeId} {x y : Operand} (ho : o.op = .binOp .eql t x y t2) {l m : List UInt8} (hx : a.eval x = .string ⟨l.toArray⟩) (hy : a.eval y = .string ⟨m.toArray⟩) {b : Bool} (hb : b = true ↔ l = m) : (execOp a.eval o).run Tryd.prog w = .ok (.value (.bool b)) w := by
  have e : (l == m) = b := by
    rw [Bool.eq_iff_iff, beq_iff_eq, hb]
  unfold execOp
  simp only [ho, hx, hy, binOp_string_eql, Sem.run_bind, eqGuard, ByteArray.toList_mk, e]
  simp
end Go.Proofs.YtfhjmhmgkdadhaaDoor

/-! TagP -/
namespace Go.Proofs.YtfhjmhmgkdadhaaDoor
open Go.RowKit

/-- A string of these bytes. -/
def strB (l : List UInt8) : ByteArray := ⟨l.toArray⟩
theorem strB_size (l : List UInt8) : (strB l).size = l.length := by simp [strB, ByteArray.size]
/-- What the library's variables hold. -/
structure Env (w : World) : Prop where
  tab : Tab32 w
  syn : ∃ te pe, w.cell? ⟨0, 0, none⟩ = some (.iface te pe)
  rng : ∃ te pe, w.cell? ⟨1, 0, none⟩ = some (.iface te pe)
def EnvLt (B : Nat) : Prop := 3 < B ∧ 0 < B ∧ 1 < B
theorem lt_of_cell {w : World} {b o : Nat} {v : Value} (h : w.cell? ⟨b, o, none⟩ = some v) : b < w.heap.size := by
  simp only [World.cell?] at h
  cases hb : w.heap[b]? with
  | none => rw [hb] at h; simp at h
  | some x => exact (Array.getElem?_eq_some_iff.1 hb).1
theorem Env.lt {w : World} (h : Env w) : EnvLt w.heap.size :=
  ⟨lt_of_cell (h.tab 0 (by decide)), lt_of_cell h.syn.choose_spec.choose_spec, lt_of_cell h.rng.choose_spec.choose_spec⟩
theorem Env.below {B : Nat} {w w' : World} (h : Env w) (hb : Below B w w') (hl : EnvLt B) : Env w' :=
  ⟨fun j hj => (hb.cell (p := ⟨3, j, none⟩) hl.1).trans (h.tab j hj),
   h.syn.elim fun te h => h.elim fun pe h => ⟨te, pe, (hb.cell (p := ⟨0, 0, none⟩) hl.2.1).trans h⟩,
   h.rng.elim fun te h => h.elim fun pe h => ⟨te, pe, (hb.cell (p := ⟨1, 0, none⟩) hl.2.2).trans h⟩⟩

theorem Atoi_ok (s : ByteArray) (hmax : s.size ≤ 1000) (v : Int) (h : Lib.atoiAll s.data.toList = .ok v) (w : World) :
    Calls Tryd.prog 41 #[.string s] w fun e w' => e = .returned (.tuple #[.int .i64 v, .nilIface]) ∧ Below w.heap.size w w' := by
  refine (Tryd.strconv_Atoi_ok s (by omega) v h w).mono ?_
  rintro e w' ⟨he, hw⟩
  refine ⟨he, ?_⟩
  rcases hw with rfl | ⟨t, rfl⟩
  · exact Below.refl _ _
  · exact Lib.bytesWorld_below _ _ _
/-- It fails: an error that is not nil. -/
theorem Atoi_fails (s : ByteArray) (hmax : s.size ≤ 1000) (h : ∀ v, Lib.atoiAll s.data.toList ≠ .ok v) (w : World) (hE : Env w) :
    Calls Tryd.prog 41 #[.string s] w fun e w' => ∃ v te pe, e = .returned (.tuple #[.int .i64 v, .iface te pe]) ∧ Below w.heap.size w w' := by
  obtain ⟨t1, p1, h1⟩ := hE.syn
  obtain ⟨t2, p2, h2⟩ := hE.rng
  rcases hA : Lib.atoiAll s.data.toList with v | _ | _
  · exact absurd hA (h v)
  · refine (Any.strconv_Atoi_syntax Tryd.laysC172 s (by omega) hA _ w h1 (.inr ⟨_, _, rfl⟩)).mono ?_
    rintro e w' ⟨N, he, _, _, hB⟩
    exact ⟨_, _, _, he, hB⟩
  · refine (Any.strconv_Atoi_range Tryd.laysC172 s (by omega) hA _ w h2 (.inr ⟨_, _, rfl⟩)).mono ?_
    rintro e w' ⟨N, he, _, _, hB⟩
    exact ⟨_, _, _, he, hB⟩

end Go.Proofs.YtfhjmhmgkdadhaaDoor

/-! Facts -/
namespace Go.Proofs.YtfhjmhmgkdadhaaDoor
open Go.RowKit

/-- What may be known of a value, and stays true while memory is only made. -/
structure Fact where
  holds : Value → World → Prop
  keep : ∀ v u u', holds v u → Below u.heap.size u u' → holds v u'
/-- What an operation yields, with no way out but onward. -/
def leads (P : Program) (o : Oper) (a : Act) (w : World) (R : Value → World → Prop) : Prop :=
  match (execOp a.eval o).run P w with
  | .ok (.value v) w' => R v w'
  | .ok .skip w' => R undef w'
  | .ok (.enter f args) w' => Calls P f args w' fun e w'' => ∃ v, e = .returned v ∧ R v w''
  | _ => False

theorem wp_of_leads {P : Program} {o : Oper} {a : Act} {w : World} {R : Value → World → Prop} {K : Act → World → Prop} {Q : Exit → Act → World → Prop} (h : leads P o a w R) (hK : ∀ v w', R v w' → K (a.put o.dst v) w') : o.wp P a w K Q := by
  unfold leads at h
  unfold Oper.wp
  generalize (execOp a.eval o).run P w = r at *
  cases r with
  | ok n w' =>
    cases n <;> simp only [Oper.upon] at h ⊢ <;>
      first
        | exact hK _ _ h
        | exact Calls.mono h (fun e w'' he => by obtain ⟨v, rfl, hR⟩ := he; exact hK _ _ hR)
        | exact h.elim
  | halt x w' => exact h.elim

def setX (x : Nat → Value) (i : Nat) (v : Value) : Nat → Value := fun j => if j = i then v else x j

section
variable {P : Program} {ops : Array Oper} {fr : (Nat → Value) → Act} {C : World → Prop} {fs : List Fact}

def leftN (n : Nat) (listed : Array Bool) : Nat := ((List.range n).filter fun i => !listed.getD i true).length

theorem getD_set {b : Bool} {listed : Array Bool} {i j : Nat} (hi : i < listed.size) : (listed.setIfInBounds i true).getD j b = if j = i then true else listed.getD j b := by
  by_cases e : j = i
  · subst e; simp [hi]
  · have : ¬ i = j := fun h => e h.symm
    simp [this, e]

end
end Go.Proofs.YtfhjmhmgkdadhaaDoor

/-! FactsT -/
namespace Go.Proofs.YtfhjmhmgkdadhaaDoor
open Go.RowKit

theorem filter_one {p q : Nat → Bool} {i : Nat} (hq : ∀ j, q j = (p j && decide (j ≠ i))) (hp : p i = true) : ∀ {L : List Nat}, L.Nodup → i ∈ L → (L.filter q).length + 1 = (L.filter p).length
  | j :: r, hn, h => by
    rw [List.nodup_cons] at hn
    by_cases e : j = i
    · subst e
      have hqj : q j = false := by rw [hq]; simp
      have hr : r.filter q = r.filter p := List.filter_congr fun k hk => by
        have : k ≠ j := fun e => hn.1 (e ▸ hk)
        rw [hq]; simp [this]
      rw [List.filter_cons, List.filter_cons, hp, hqj, hr]
      simp
    · have h2 : i ∈ r := by
        rcases List.mem_cons.1 h with h | h
        · exact absurd h.symm e
        · exact h
      have ih := filter_one hq hp hn.2 h2
      have hqj : q j = p j := by rw [hq]; simp [e]
      rw [List.filter_cons, List.filter_cons, hqj]
      cases p j <;> simp <;> omega

section
variable {P : Program} {ops : Array Oper} {fr : (Nat → Value) → Act} {C : World → Prop} {fs : List Fact} {new : List Nat}

end

/-! How an operation's share is paid. -/

theorem want_yes {b : Bool} {A B : Prop} (h : b = true) (hA : A) : if b = true then A else B := by rw [if_pos h]; exact hA
theorem leads_value {P : Program} {o : Oper} {a : Act} {w w' : World} {v : Value} {R : Value → World → Prop} (h : (execOp a.eval o).run P w = .ok (.value v) w') (hR : R v w') : leads P o a w R := by
  unfold leads; rw [h]; exact hR
end Go.Proofs.YtfhjmhmgkdadhaaDoor

/-! InvM -/
namespace Go.Proofs.YtfhjmhmgkdadhaaDoor
open Go.RowKit

/-- V' is V, but that block g is o now. -/
structure PutB (V V' : World) (g : Nat) (o : Obj) : Prop where
  os : V'.os = V.os
  tape : V'.tape = V.tape
  output : V'.output = V.output
  new : V'.heap[g]? = some o
  size : V'.heap.size = V.heap.size
  other : ∀ k, k ≠ g → V'.heap[k]? = V.heap[k]?
/-- What an operation does: it has this value; it makes a block that holds o, into which operation s stores, so that it holds o'; it stores into the block that operation a made. -/
inductive Kind where
  | val (v : Value)
  | mk (o : Obj) (s : Nat) (o' : Obj)
  | st (a : Nat)
/-- Each waits only for earlier ones, as far as it must. -/
def low2B : Nat → List Oper → Bool
  | _, [] => true
  | k, o :: r => o.after.all (fun e => !Region.binds .any e || decide (e.on < k)) && low2B (k + 1) r
theorem low2B_at : ∀ {l : List Oper} {k : Nat}, low2B k l = true → ∀ i o, l[i]? = some o → ∀ e ∈ o.after, Region.binds .any e = true → e.on < k + i
  | [], _, _, i, o, h => by simp at h
  | o' :: r, k, h, 0, o, hi => by
    simp at hi; subst hi
    simp only [low2B, Bool.and_eq_true] at h
    intro e he hb
    have := Array.all_eq_true'.1 h.1 e he
    simpa [hb] using this
  | o' :: r, k, h, i + 1, o, hi => by
    simp only [low2B, Bool.and_eq_true] at h
    intro e he hb
    have := low2B_at (l := r) h.2 i o (by simpa using hi) e he hb
    omega
section
variable {P : Program} {ops : Array Oper} {fr : (Nat → Value) → Act} {ks : List Kind} {W0 : World}

theorem setX_same (x : Nat → Value) (i : Nat) (v : Value) : setX x i v i = v := by unfold setX; rw [if_pos rfl]
theorem setX_other {x : Nat → Value} {i j : Nat} (v : Value) (h : j ≠ i) : setX x i v j = x j := by unfold setX; rw [if_neg h]

/-! How an operation's share is paid. -/

theorem leads_store_row {o : Oper} {a : Act} {w : World} {x y : Operand} {ty : TypeId} {b : Nat} {old new : Array Value} (ho : o.op = .store ty x y) (hx : a.eval x = .pointer (some ⟨b, 0, none⟩)) (hy : a.eval y = .agg new) (h : w.heap[b]? = some (.cells old ty (0, 0)))
    (hi : (P.info? ty).map (·.size) = some new.size) (hs : old.size = new.size) (h1 : new.all (·.oneCell') = true) : leads P o a w (fun _ V' => PutB w V' b (.cells new ty (0, 0))) := by
  unfold leads execOp
  simp only [ho, hx, hy, Instr.storeAt, Instr.sureAddr, Sem.run_bind, Sem.run_pure, Result.andThen_ok, run_storeVar_row w b _ ty old new h hi hs h1]
  exact ⟨rfl, rfl, rfl, setRow_heap w b _ _ _ _ h, by simp, fun k hk => setRow_other w b k _ hk⟩

end
end Go.Proofs.YtfhjmhmgkdadhaaDoor

/-! RegI -/
namespace Go.Proofs.YtfhjmhmgkdadhaaDoor
open Go.RowKit

def setL (L : Nat → Bool) (i : Nat) : Nat → Bool := fun j => if j = i then true else L j
theorem setL_same (L : Nat → Bool) (i : Nat) : setL L i i = true := by unfold setL; rw [if_pos rfl]
theorem setL_other {L : Nat → Bool} {i j : Nat} (h : j ≠ i) : setL L i j = L j := by unfold setL; rw [if_neg h]
/-- What an operation waits for has been met. -/
def DepsI (L : Nat → Bool) : List Edge → Prop
  | [] => True
  | e :: r => (Region.binds .any e = true → L e.on = true) ∧ DepsI L r
theorem depsI_of {L : Nat → Bool} : ∀ {es : List Edge}, (∀ e ∈ es, Region.binds .any e = true → L e.on = true) → DepsI L es
  | [], _ => trivial
  | e :: r, h => ⟨h e (by simp), depsI_of (es := r) fun e' he => h e' (List.mem_cons_of_mem _ he)⟩
def ObI (P : Program) (ops : Array Oper) (fr : (Nat → Value) → Act) (I : (Nat → Bool) → (Nat → Value) → World → Prop) (i : Nat) (o : Oper) : Prop :=
  (∀ x v, (fr x).put o.dst v = fr (setX x i v)) ∧
  ∀ L x V, I L x V → L i = false → DepsI L o.after.toList → if Region.wanted o (yielded ops (fr x).tmps) = true then leads P o (fr x) V (fun u V' => I (setL L i) (setX x i u) V') else I (setL L i) (setX x i undef) V
def ObsI (P : Program) (ops : Array Oper) (fr : (Nat → Value) → Act) (I : (Nat → Bool) → (Nat → Value) → World → Prop) : Nat → List Oper → Prop
  | _, [] => True
  | k, o :: r => ObI P ops fr I k o ∧ ObsI P ops fr I (k + 1) r

section
variable {P : Program} {ops : Array Oper} {fr : (Nat → Value) → Act} {I : (Nat → Bool) → (Nat → Value) → World → Prop}

theorem ObsI.at : ∀ {l : List Oper} {k : Nat}, ObsI P ops fr I k l → ∀ i o, l[i]? = some o → ObI P ops fr I (k + i) o
  | [], _, _, i, o, h => by simp at h
  | o' :: r, k, h, 0, o, hi => by simp at hi; subst hi; exact h.1
  | o' :: r, k, h, i + 1, o, hi => by
    have := ObsI.at (l := r) h.2 i o (by simpa using hi)
    rw [show k + (i + 1) = k + 1 + i by omega]; exact this

theorem wpAny_of_I {Q : Exit → Act → World → Prop} {l : List Oper} (hl : ops = l.toArray) (hlow : low2B 0 l = true) (hob : ObsI P ops fr I 0 l)
    (hK : ∀ L x V, (∀ i, i < l.length → L i = true) → I L x V → Q .normal (fr x) V) :
    ∀ (f : Nat) (listed : Array Bool) (x : Nat → Value) (V : World), listed.size = l.length → leftN l.length listed = f → I (fun i => listed.getD i false) x V → wpAny P .any ops Q f listed (fr x) V := by
  have hsz : ops.size = l.length := by rw [hl]; simp
  have hat : ∀ i : Nat, ops[i]? = l[i]? := fun i => by rw [hl]; simp
  have hboth : ∀ (listed : Array Bool) i, listed.size = l.length → i < l.length → listed.getD i true = listed.getD i false := by
    intro listed i hs hi
    have hb : i < listed.size := by omega
    simp [Array.getD, hb]
  intro f
  induction f with
  | zero =>
    intro listed x V hs hle hF
    have h1 : ∀ i, i < l.length → listed.getD i true = true := by
      intro i hi
      have h0 : ((List.range l.length).filter fun i => !listed.getD i true) = [] := List.eq_nil_of_length_eq_zero hle
      have := (List.filter_eq_nil_iff.1 h0) i (List.mem_range.2 hi)
      simpa using this
    refine ⟨?_, hK _ x V (fun i hi => by rw [← hboth listed i hs hi]; exact h1 i hi) hF⟩
    unfold Region.ready
    rw [List.filter_eq_nil_iff]
    intro i hi
    rw [hsz] at hi
    rw [h1 i (List.mem_range.1 hi)]; simp
  | succ f ih =>
    intro listed x V hs hle hF
    have hne : Region.ready .any ops listed ≠ [] := by
      intro hr
      have hempty : ∀ i, i < l.length → listed.getD i true = true := by
        intro i
        induction i using Nat.strongRecOn with
        | _ i ihh =>
          intro hi
          cases hc : listed.getD i true with
          | true => rfl
          | false =>
            exfalso
            have hmem : i ∈ Region.ready .any ops listed := by
              rw [mem_ready]
              refine ⟨hc, l[i], by rw [hat]; exact List.getElem?_eq_getElem hi, ?_⟩
              intro e he hb
              have h1 := low2B_at hlow i l[i] (List.getElem?_eq_getElem hi) e he hb
              have h2 := ihh e.on (by omega) (by omega)
              rw [← hboth listed e.on hs (by omega)]; exact h2
            rw [hr] at hmem
            cases hmem
      have h0 : leftN l.length listed = 0 := by
        unfold leftN
        rw [List.length_eq_zero_iff, List.filter_eq_nil_iff]
        intro i hi
        rw [hempty i (List.mem_range.1 hi)]; simp
      omega
    refine ⟨fun hr => absurd hr hne, fun i hi => ?_⟩
    obtain ⟨hun, o, ho, hdeps⟩ := mem_ready.1 hi
    have hol : l[i]? = some o := by rw [← hat]; exact ho
    have him : i < l.length := (List.getElem?_eq_some_iff.1 hol).1
    have hob1 := hob.at i o hol
    rw [Nat.zero_add] at hob1
    have hib : i < listed.size := by omega
    have hunf : listed.getD i false = false := by rw [← hboth listed i hs him]; exact hun
    have hset : (fun j => (listed.setIfInBounds i true).getD j false) = setL (fun j => listed.getD j false) i := funext fun j => getD_set hib
    have hleft : leftN l.length (listed.setIfInBounds i true) = f := by
      have := filter_one (p := fun j => !listed.getD j true) (q := fun j => !(listed.setIfInBounds i true).getD j true) (i := i) (fun j => by
        rw [getD_set hib]
        by_cases e : j = i
        · simp [e]
        · simp [e]) (by rw [hun]; rfl) List.nodup_range (List.mem_range.2 him)
      unfold leftN at hle ⊢
      omega
    have hgo : ∀ v V', I (setL (fun j => listed.getD j false) i) (setX x i v) V' → wpAny P .any ops Q f (listed.setIfInBounds i true) (fr (setX x i v)) V' := fun v V' h =>
      ih _ _ _ (by simp [hs]) hleft (by rw [hset]; exact h)
    have hd : DepsI (fun j => listed.getD j false) o.after.toList := depsI_of fun e he hb => hdeps e (by simpa using he) hb
    obtain ⟨hput, hob2⟩ := hob1
    have h2 := hob2 _ x V hF hunf hd
    unfold wpOp
    rw [ho]
    simp only
    split
    · rename_i hw
      rw [if_pos hw] at h2
      exact .inl (wp_of_leads h2 fun u V' hu => by
        rw [hput]
        exact hgo _ _ hu)
    · rename_i hw
      rw [if_neg hw] at h2
      rw [hput]
      exact hgo _ _ h2

theorem wp_region_I {id : Nat} {Q : Exit → Act → World → Prop} {l : List Oper} {a : Act} {w : World} (I : (Nat → Bool) → (Nat → Value) → World → Prop) (fr : (Nat → Value) → Act) (x : Nat → Value) (hm : P.follows .mixedOrders = true) (ha : a = fr x)
    (hlow : low2B 0 l = true) (h0 : I (fun _ => false) x w.drew) (hob : ObsI P l.toArray fr I 0 l)
    (hK : ∀ L x V, (∀ i, i < l.length → L i = true) → I L x V → wpList P l.toArray Q [] (fr x) V) : (Code.region id l.toArray true).wp P Q a w := by
  subst ha
  refine wp_region_any hm ?_
  have hle : leftN l.length (Array.replicate l.toArray.size false) = l.length := by
    unfold leftN
    have : ((List.range l.length).filter fun i => !(Array.replicate l.toArray.size false).getD i true) = List.range l.length := by
      rw [List.filter_eq_self]
      intro i hi
      have h1 := List.mem_range.1 hi
      simp [Array.getD, h1]
    rw [this]; simp
  have h := wpAny_of_I (Q := Q) (ops := l.toArray) (fr := fr) (I := I) rfl hlow hob hK l.length (Array.replicate l.toArray.size false) x w.drew (by simp) hle
    (by rw [show (fun i => (Array.replicate l.toArray.size false).getD i false) = fun _ => false from funext fun i => getD_replicate_false ..]; exact h0)
  rw [show l.toArray.size = l.length by simp] at h ⊢
  exact h
end
end Go.Proofs.YtfhjmhmgkdadhaaDoor

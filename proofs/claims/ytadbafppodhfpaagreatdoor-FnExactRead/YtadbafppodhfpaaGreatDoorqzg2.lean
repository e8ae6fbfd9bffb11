/-
 From a row's condition on the listed package variables, and from the world's shape, to what the walks of chapter 16 ask: the powers of ten, the kinds' names, the library's errors; how the named variable reads; and a row's wrap that hands both on.
-/
import Derived.Shelf.Strconv.Itoa0
import Derived.Shelf.Strconv.Itoa1
import Derived.Shelf.LaysM
import Derived.Shelf.Strconv.Itoa2
import Derived.Shelf.Strconv.Itoa3
import Derived.Shelf.Strconv.Itoa4
import Derived.Shelf.Strconv.ParseIntEmpty
import Derived.Shelf.Strconv.Clone
import Derived.Shelf.Strconv.SyntaxError
import Derived.Shelf.LaysC
import Derived.Shelf.Strconv.ToError
import Derived.Shelf.Strconv.Lower
import Derived.Shelf.Strconv.ParseUint10
import Derived.Shelf.Strconv.ParseUint10Empty
import Derived.Shelf.Strconv.ParseUint10Any
import Derived.Shelf.Strconv.ParseInt10
import Derived.Shelf.Strconv.RangeError
import Derived.Shelf.Strconv.ToErrorRange
import Derived.Shelf.Strconv.ParseUintEmpty
import Derived.Shelf.Strconv.ParseUint10b64
import Derived.Shelf.Strconv.ParseUint10b32
import Derived.Shelf.Strconv.ParseUint10b16
import Derived.Shelf.Strconv.ParseUint10b8
import Derived.Shelf.Strconv.ParseUint10At
import Derived.Shelf.Strconv.ParseInt10At64
import Derived.Shelf.Strconv.ParseInt10At32
import Derived.Shelf.Strconv.ParseInt10At16
import Derived.Shelf.Strconv.ParseInt10At8
import Derived.Shelf.Strconv.ParseInt10All
import Derived.Shelf.Strconv.ParseIntPublic10
import Derived.Shelf.Strconv.ErrVarParseInt
import Derived.Shelf.Strings.Search1
import Derived.Shelf.Strings.Search2
import Derived.Shelf.Strings.Search3
import Derived.Shelf.Strings.Count
import Derived.Shelf.Strings.Prefix
import Derived.Shelf.Strings.Split
import Derived.Shelf.Strings.SplitShaped
import Derived.Shelf.Unicode.DecodeSlow
import Derived.Test.YtadbafppodhfpaaGreatDoorProg
import Derived.Lib.ItoaNum
import Derived.Lib.ParseIntB
import Derived.Lib.Strings
import Derived.Lib.ParseIntBTie
import Derived.Lib.AtoiErrMem
import Derived.Lib.AppendIntMem
import Derived.Test.YtadbafppodhfpaaGreatDoorqzg1
import Derived.Lib.SplitLaws
import Derived.Test.YtadbafppodhfpaaGreatDoorRows
import Derived.Lib.LaidU8
import Derived.LaidMore
import Derived.HandedShaped
import Derived.ProofKit
set_option linter.unusedVariables false
namespace Go.Proofs
open Go.Shelf
def Tryz.laysM173_ren : Go.Shelf.Ren := ⟨fun | 173 => 69 | 246 => 80 | 283 => 95 | 284 => 96 | 285 => 97 | 286 => 98 | 129 => 111 | 317 => 110 | 318 => 112 | 319 => 113 | 320 => 114 | 337 => 119 | 338 => 120 | n => n, fun | 2 => 2 | 3 => 3 | 9 => 9 | 4 => 4 | 171 => 115 | 0 => 0 | 53 => 109 | 37 => 22 | 5 => 5 | 173 => 118 | 212 => 127 | 51 => 128 | 20 => 20 | 213 => 129 | 46 => 80 | 232 => 144 | 233 => 145 | n => n, fun | 17 => 4 | 18 => 7 | 19 => 8 | n => n⟩
theorem Tryz.laysM173 : Go.Proofs.LaysM.n173 Tryz.prog Tryz.laysM173_ren := {
 mixed := by kernel_rfl
 f129 := Tryz.func111.trans (congrArg some (by kernel_rfl))
 f173 := Tryz.func69.trans (congrArg some (by kernel_rfl))
 f246 := Tryz.func80.trans (congrArg some (by kernel_rfl))
 f283 := Tryz.func95.trans (congrArg some (by kernel_rfl))
 f284 := Tryz.func96.trans (congrArg some (by kernel_rfl))
 f285 := Tryz.func97.trans (congrArg some (by kernel_rfl))
 f286 := Tryz.func98.trans (congrArg some (by kernel_rfl))
 f317 := Tryz.func110.trans (congrArg some (by kernel_rfl))
 f318 := Tryz.func112.trans (congrArg some (by kernel_rfl))
 f319 := Tryz.func113.trans (congrArg some (by kernel_rfl))
 f320 := Tryz.func114.trans (congrArg some (by kernel_rfl))
 f337 := Tryz.func119.trans (congrArg some (by kernel_rfl))
 f338 := Tryz.func120.trans (congrArg some (by kernel_rfl))
 t0 := Tryz.underlying0
 a0 := Tryz.isAgg0
 z0 := Tryz.sizeOf0
 v0 := Tryz.zeroValue0
 t2 := Tryz.underlying2
 a2 := Tryz.isAgg2
 z2 := Tryz.sizeOf2
 v2 := Tryz.zeroValue2
 t3 := Tryz.underlying3
 a3 := Tryz.isAgg3
 z3 := Tryz.sizeOf3
 v3 := Tryz.zeroValue3
 t4 := Tryz.underlying4
 a4 := Tryz.isAgg4
 z4 := Tryz.sizeOf4
 v4 := Tryz.zeroValue4
 t5 := Tryz.underlying5
 a5 := Tryz.isAgg5
 z5 := Tryz.sizeOf5
 v5 := Tryz.zeroValue5
 t9 := Tryz.underlying9
 a9 := Tryz.isAgg9
 z9 := Tryz.sizeOf9
 v9 := Tryz.zeroValue9
 t20 := Tryz.underlying20
 a20 := Tryz.isAgg20
 z20 := Tryz.sizeOf20
 v20 := Tryz.zeroValue20
 t37 := Tryz.underlying22
 a37 := Tryz.isAgg22
 z37 := Tryz.sizeOf22
 v37 := Tryz.zeroValue22
 t46 := Tryz.underlying80
 a46 := Tryz.isAgg80
 z46 := Tryz.sizeOf80
 v46 := Tryz.zeroValue80
 t51 := Tryz.underlying128
 a51 := Tryz.isAgg128
 z51 := Tryz.sizeOf128
 v51 := Tryz.zeroValue128
 t53 := Tryz.underlying109
 a53 := Tryz.isAgg109
 z53 := Tryz.sizeOf109
 v53 := Tryz.zeroValue109
 t171 := Tryz.underlying115
 a171 := Tryz.isAgg115
 z171 := Tryz.sizeOf115
 v171 := Tryz.zeroValue115
 t173 := Tryz.underlying118
 a173 := Tryz.isAgg118
 z173 := Tryz.sizeOf118
 v173 := Tryz.zeroValue118
 t212 := Tryz.underlying127
 a212 := Tryz.isAgg127
 z212 := Tryz.sizeOf127
 v212 := Tryz.zeroValue127
 t213 := Tryz.underlying129
 a213 := Tryz.isAgg129
 z213 := Tryz.sizeOf129
 t232 := Tryz.underlying144
 a232 := Tryz.isAgg144
 z232 := Tryz.sizeOf144
 v232 := Tryz.zeroValue144
 t233 := Tryz.underlying145
 a233 := Tryz.isAgg145
 z233 := Tryz.sizeOf145
 v233 := Tryz.zeroValue145
 g17 := by kernel_rfl
 g18 := by kernel_rfl
 g19 := by kernel_rfl
 i0 := by kernel_rfl
 i2 := by kernel_rfl
 i3 := by kernel_rfl
 i4 := by kernel_rfl
 i5 := by kernel_rfl
 i9 := by kernel_rfl
 i20 := by kernel_rfl
 i37 := by kernel_rfl
 i46 := by kernel_rfl
 i51 := by kernel_rfl
 i53 := by kernel_rfl
 i171 := by kernel_rfl
 i173 := by kernel_rfl
 i212 := by kernel_rfl
 i232 := by kernel_rfl
 i233 := by kernel_rfl
 m17 := by kernel_rfl
 m18 := by kernel_rfl
 m19 := by kernel_rfl }
open Go.RowKit Go.Sort Go.Lib in
theorem Tryz.strconv_FormatInt_10 (n : Int) (h0 : -9223372036854775808 ≤ n) (h1 : n ≤ 9223372036854775807) (w : World) (htab : Lib.TabIs Tryz.prog w "internal/strconv.uint64pow10" .u64 Lib.pow10Tab) :
   Calls Tryz.prog 69 #[.int .i64 n, .int .i64 10] w fun e w' => e = .returned (.string ⟨(Lib.itoa n).toArray⟩) ∧ ∃ k os, w' = grow (w.drewN k) os := Any.strconv_FormatInt_10 Tryz.laysM173 n h0 h1 w htab
def Tryz.lays173_ren : Go.Shelf.Ren := ⟨fun | 173 => 69 | 246 => 80 | 283 => 95 | 284 => 96 | 285 => 97 | 286 => 98 | 129 => 111 | 317 => 110 | 318 => 112 | 319 => 113 | 320 => 114 | 337 => 119 | 338 => 120 | n => n, fun | 2 => 2 | 3 => 3 | 9 => 9 | 4 => 4 | 171 => 115 | 0 => 0 | 53 => 109 | 37 => 22 | 5 => 5 | 173 => 118 | 212 => 127 | 51 => 128 | 20 => 20 | 213 => 129 | 46 => 80 | 232 => 144 | 233 => 145 | n => n, fun | 17 => 4 | 18 => 7 | 19 => 8 | n => n⟩
theorem Tryz.lays173 : Go.Proofs.Lays.n173 Tryz.prog Tryz.lays173_ren := {
 mixed := by kernel_rfl
 f129 := Tryz.func111.trans (congrArg some (by kernel_rfl))
 f173 := Tryz.func69.trans (congrArg some (by kernel_rfl))
 f246 := Tryz.func80.trans (congrArg some (by kernel_rfl))
 f283 := Tryz.func95.trans (congrArg some (by kernel_rfl))
 f284 := Tryz.func96.trans (congrArg some (by kernel_rfl))
 f285 := Tryz.func97.trans (congrArg some (by kernel_rfl))
 f286 := Tryz.func98.trans (congrArg some (by kernel_rfl))
 f317 := Tryz.func110.trans (congrArg some (by kernel_rfl))
 f318 := Tryz.func112.trans (congrArg some (by kernel_rfl))
 f319 := Tryz.func113.trans (congrArg some (by kernel_rfl))
 f320 := Tryz.func114.trans (congrArg some (by kernel_rfl))
 f337 := Tryz.func119.trans (congrArg some (by kernel_rfl))
 f338 := Tryz.func120.trans (congrArg some (by kernel_rfl))
 t0 := Tryz.underlying0
 a0 := Tryz.isAgg0
 z0 := Tryz.sizeOf0
 v0 := Tryz.zeroValue0
 t2 := Tryz.underlying2
 a2 := Tryz.isAgg2
 z2 := Tryz.sizeOf2
 v2 := Tryz.zeroValue2
 t3 := Tryz.underlying3
 a3 := Tryz.isAgg3
 z3 := Tryz.sizeOf3
 v3 := Tryz.zeroValue3
 t4 := Tryz.underlying4
 a4 := Tryz.isAgg4
 z4 := Tryz.sizeOf4
 v4 := Tryz.zeroValue4
 t5 := Tryz.underlying5
 a5 := Tryz.isAgg5
 z5 := Tryz.sizeOf5
 v5 := Tryz.zeroValue5
 t9 := Tryz.underlying9
 a9 := Tryz.isAgg9
 z9 := Tryz.sizeOf9
 v9 := Tryz.zeroValue9
 t20 := Tryz.underlying20
 a20 := Tryz.isAgg20
 z20 := Tryz.sizeOf20
 v20 := Tryz.zeroValue20
 t37 := Tryz.underlying22
 a37 := Tryz.isAgg22
 z37 := Tryz.sizeOf22
 v37 := Tryz.zeroValue22
 t46 := Tryz.underlying80
 a46 := Tryz.isAgg80
 z46 := Tryz.sizeOf80
 v46 := Tryz.zeroValue80
 t51 := Tryz.underlying128
 a51 := Tryz.isAgg128
 z51 := Tryz.sizeOf128
 v51 := Tryz.zeroValue128
 t53 := Tryz.underlying109
 a53 := Tryz.isAgg109
 z53 := Tryz.sizeOf109
 v53 := Tryz.zeroValue109
 t171 := Tryz.underlying115
 a171 := Tryz.isAgg115
 z171 := Tryz.sizeOf115
 v171 := Tryz.zeroValue115
 t173 := Tryz.underlying118
 a173 := Tryz.isAgg118
 z173 := Tryz.sizeOf118
 v173 := Tryz.zeroValue118
 t212 := Tryz.underlying127
 a212 := Tryz.isAgg127
 z212 := Tryz.sizeOf127
 v212 := Tryz.zeroValue127
 t213 := Tryz.underlying129
 a213 := Tryz.isAgg129
 z213 := Tryz.sizeOf129
 t232 := Tryz.underlying144
 a232 := Tryz.isAgg144
 z232 := Tryz.sizeOf144
 v232 := Tryz.zeroValue144
 t233 := Tryz.underlying145
 a233 := Tryz.isAgg145
 z233 := Tryz.sizeOf145
 v233 := Tryz.zeroValue145
 g17 := by kernel_rfl
 g18 := by kernel_rfl
 g19 := by kernel_rfl }
open Go.RowKit Go.Sort Go.Lib in
theorem Tryz.strconv_FormatInt_10_small (i : Nat) (hi : i < 100) (w : World) :
   Calls Tryz.prog 69 #[.int .i64 i, .int .i64 10] w fun e w' => e = .returned (.string ⟨(Lib.decDigits i).toArray⟩) ∧ w' = w := Any.strconv_FormatInt_10_small Tryz.lays173 i hi w
def Tryz.laysC174_ren : Go.Shelf.Ren := ⟨fun | 174 => 68 | 247 => 78 | 245 => 79 | 287 => 90 | 279 => 91 | 280 => 92 | 281 => 93 | 282 => 94 | 321 => 105 | 322 => 106 | 316 => 107 | 171 => 109 | 205 => 108 | 243 => 118 | 246 => 80 | 283 => 95 | 284 => 96 | 285 => 97 | 286 => 98 | 129 => 111 | 317 => 110 | 318 => 112 | 319 => 113 | 320 => 114 | 337 => 119 | 338 => 120 | n => n, fun | 9 => 9 | 3 => 3 | 2 => 2 | 75 => 93 | 85 => 94 | 4 => 4 | 167 => 108 | 5 => 5 | 53 => 109 | 175 => 110 | 46 => 80 | 168 => 112 | 37 => 22 | 0 => 0 | 210 => 124 | 21 => 21 | 127 => 139 | 145 => 142 | 143 => 140 | 171 => 115 | 173 => 118 | 212 => 127 | 51 => 128 | 20 => 20 | 213 => 129 | 232 => 144 | 233 => 145 | 80 => 146 | n => n, fun | 15 => 2 | 16 => 3 | 17 => 4 | 18 => 7 | 19 => 8 | n => n⟩
theorem Tryz.laysC174 : Go.Proofs.LaysC.n174 Tryz.prog Tryz.laysC174_ren := {
 mixed := by kernel_rfl
 f129 := Tryz.func111.trans (congrArg some (by kernel_rfl))
 f171 := Tryz.func109.trans (congrArg some (by kernel_rfl))
 f174 := Tryz.func68.trans (congrArg some (by kernel_rfl))
 f205 := Tryz.func108.trans (congrArg some (by kernel_rfl))
 f243 := Tryz.func118.trans (congrArg some (by kernel_rfl))
 f245 := Tryz.func79.trans (congrArg some (by kernel_rfl))
 f246 := Tryz.func80.trans (congrArg some (by kernel_rfl))
 f247 := Tryz.func78.trans (congrArg some (by kernel_rfl))
 f279 := Tryz.func91.trans (congrArg some (by kernel_rfl))
 f280 := Tryz.func92.trans (congrArg some (by kernel_rfl))
 f281 := Tryz.func93.trans (congrArg some (by kernel_rfl))
 f282 := Tryz.func94.trans (congrArg some (by kernel_rfl))
 f283 := Tryz.func95.trans (congrArg some (by kernel_rfl))
 f284 := Tryz.func96.trans (congrArg some (by kernel_rfl))
 f285 := Tryz.func97.trans (congrArg some (by kernel_rfl))
 f286 := Tryz.func98.trans (congrArg some (by kernel_rfl))
 f287 := Tryz.func90.trans (congrArg some (by kernel_rfl))
 f316 := Tryz.func107.trans (congrArg some (by kernel_rfl))
 f317 := Tryz.func110.trans (congrArg some (by kernel_rfl))
 f318 := Tryz.func112.trans (congrArg some (by kernel_rfl))
 f319 := Tryz.func113.trans (congrArg some (by kernel_rfl))
 f320 := Tryz.func114.trans (congrArg some (by kernel_rfl))
 f321 := Tryz.func105.trans (congrArg some (by kernel_rfl))
 f322 := Tryz.func106.trans (congrArg some (by kernel_rfl))
 f337 := Tryz.func119.trans (congrArg some (by kernel_rfl))
 f338 := Tryz.func120.trans (congrArg some (by kernel_rfl))
 t0 := Tryz.underlying0
 a0 := Tryz.isAgg0
 z0 := Tryz.sizeOf0
 v0 := Tryz.zeroValue0
 t2 := Tryz.underlying2
 a2 := Tryz.isAgg2
 z2 := Tryz.sizeOf2
 v2 := Tryz.zeroValue2
 t3 := Tryz.underlying3
 a3 := Tryz.isAgg3
 z3 := Tryz.sizeOf3
 v3 := Tryz.zeroValue3
 t4 := Tryz.underlying4
 a4 := Tryz.isAgg4
 z4 := Tryz.sizeOf4
 v4 := Tryz.zeroValue4
 t5 := Tryz.underlying5
 a5 := Tryz.isAgg5
 z5 := Tryz.sizeOf5
 v5 := Tryz.zeroValue5
 t9 := Tryz.underlying9
 a9 := Tryz.isAgg9
 z9 := Tryz.sizeOf9
 v9 := Tryz.zeroValue9
 t20 := Tryz.underlying20
 a20 := Tryz.isAgg20
 z20 := Tryz.sizeOf20
 v20 := Tryz.zeroValue20
 t21 := Tryz.underlying21
 a21 := Tryz.isAgg21
 z21 := Tryz.sizeOf21
 v21 := Tryz.zeroValue21
 t37 := Tryz.underlying22
 a37 := Tryz.isAgg22
 z37 := Tryz.sizeOf22
 v37 := Tryz.zeroValue22
 t46 := Tryz.underlying80
 a46 := Tryz.isAgg80
 z46 := Tryz.sizeOf80
 v46 := Tryz.zeroValue80
 t51 := Tryz.underlying128
 a51 := Tryz.isAgg128
 z51 := Tryz.sizeOf128
 v51 := Tryz.zeroValue128
 t53 := Tryz.underlying109
 a53 := Tryz.isAgg109
 z53 := Tryz.sizeOf109
 v53 := Tryz.zeroValue109
 t75 := Tryz.underlying93
 a75 := Tryz.isAgg93
 z75 := Tryz.sizeOf93
 v75 := Tryz.zeroValue93
 t85 := Tryz.underlying94
 a85 := Tryz.isAgg94
 z85 := Tryz.sizeOf94
 v85 := Tryz.zeroValue94
 t127 := Tryz.underlying139
 a127 := Tryz.isAgg139
 z127 := Tryz.sizeOf139
 v127 := Tryz.zeroValue139
 t143 := Tryz.underlying140
 a143 := Tryz.isAgg140
 z143 := Tryz.sizeOf140
 v143 := Tryz.zeroValue140
 t145 := Tryz.underlying142
 a145 := Tryz.isAgg142
 z145 := Tryz.sizeOf142
 v145 := Tryz.zeroValue142
 t167 := Tryz.underlying108
 a167 := Tryz.isAgg108
 z167 := Tryz.sizeOf108
 v167 := Tryz.zeroValue108
 t168 := Tryz.underlying112
 a168 := Tryz.isAgg112
 z168 := Tryz.sizeOf112
 v168 := Tryz.zeroValue112
 t171 := Tryz.underlying115
 a171 := Tryz.isAgg115
 z171 := Tryz.sizeOf115
 v171 := Tryz.zeroValue115
 t173 := Tryz.underlying118
 a173 := Tryz.isAgg118
 z173 := Tryz.sizeOf118
 v173 := Tryz.zeroValue118
 t175 := Tryz.underlying110
 a175 := Tryz.isAgg110
 z175 := Tryz.sizeOf110
 v175 := Tryz.zeroValue110
 t210 := Tryz.underlying124
 a210 := Tryz.isAgg124
 z210 := Tryz.sizeOf124
 v210 := Tryz.zeroValue124
 t212 := Tryz.underlying127
 a212 := Tryz.isAgg127
 z212 := Tryz.sizeOf127
 v212 := Tryz.zeroValue127
 t213 := Tryz.underlying129
 a213 := Tryz.isAgg129
 z213 := Tryz.sizeOf129
 t232 := Tryz.underlying144
 a232 := Tryz.isAgg144
 z232 := Tryz.sizeOf144
 v232 := Tryz.zeroValue144
 t233 := Tryz.underlying145
 a233 := Tryz.isAgg145
 z233 := Tryz.sizeOf145
 v233 := Tryz.zeroValue145
 g15 := by kernel_rfl
 g16 := by kernel_rfl
 g17 := by kernel_rfl
 g18 := by kernel_rfl
 g19 := by kernel_rfl
 t80 := Tryz.underlying146
 a80 := Tryz.isAgg146
 z80 := Tryz.sizeOf146
 v80 := Tryz.zeroValue146
 i0 := by kernel_rfl
 i2 := by kernel_rfl
 i3 := by kernel_rfl
 i4 := by kernel_rfl
 i5 := by kernel_rfl
 i9 := by kernel_rfl
 i20 := by kernel_rfl
 i21 := by kernel_rfl
 i37 := by kernel_rfl
 i46 := by kernel_rfl
 i51 := by kernel_rfl
 i53 := by kernel_rfl
 i75 := by kernel_rfl
 i80 := by kernel_rfl
 i85 := by kernel_rfl
 i127 := by kernel_rfl
 i143 := by kernel_rfl
 i145 := by kernel_rfl
 i167 := by kernel_rfl
 i168 := by kernel_rfl
 i171 := by kernel_rfl
 i173 := by kernel_rfl
 i175 := by kernel_rfl
 i210 := by kernel_rfl
 i212 := by kernel_rfl
 i232 := by kernel_rfl
 i233 := by kernel_rfl
 m15 := by kernel_rfl
 m16 := by kernel_rfl
 m17 := by kernel_rfl
 m18 := by kernel_rfl
 m19 := by kernel_rfl
 c0 := by kernel_rfl
 c2 := by kernel_rfl
 c3 := by kernel_rfl
 c4 := by kernel_rfl
 c5 := by kernel_rfl
 c9 := by kernel_rfl
 c20 := by kernel_rfl
 c21 := by kernel_rfl
 c37 := by kernel_rfl
 c46 := by kernel_rfl
 c51 := by kernel_rfl
 c53 := by kernel_rfl
 c75 := by kernel_rfl
 c80 := by kernel_rfl
 c85 := by kernel_rfl
 c127 := by kernel_rfl
 c143 := by kernel_rfl
 c145 := by kernel_rfl
 c167 := by kernel_rfl
 c168 := by kernel_rfl
 c171 := by kernel_rfl
 c173 := by kernel_rfl
 c175 := by kernel_rfl
 c210 := by kernel_rfl
 c212 := by kernel_rfl
 c213 := by kernel_rfl
 c232 := by kernel_rfl
 c233 := by kernel_rfl }
open Go.RowKit in
theorem Tryz.strconv_ParseInt_10_at64_ok (s : ByteArray) (hmax : s.size ≤ 9223372036854775806) (v : Int) (h : Lib.parseIntB 64 s.data.toList = .ok v) (w : World) :
   Calls Tryz.prog 68 #[.string s, .int .i64 10, .int .i64 64] w fun e w' => e = .returned (.tuple #[.int .i64 v, .nilIface]) ∧ (w' = w ∨ ∃ t, w' = Lib.bytesWorld w 5 t) := Any.strconv_ParseInt_10_at64_ok Tryz.laysC174 s hmax v h w
open Go.RowKit in
theorem Tryz.strconv_ParseInt_10_at64_syntax (s : ByteArray) (hlim : s.size ≤ 281474976710656) (h : Lib.parseIntB 64 s.data.toList = .«syntax») (ev : Value) (w : World) (hv : w.cell? ⟨2, 0, none⟩ = some ev) (hev : ev = .nilIface ∨ ∃ te pe, ev = .iface te pe) :
   Calls Tryz.prog 68 #[.string s, .int .i64 10, .int .i64 64] w fun e w' => ∃ N, e = .returned (.tuple #[.int .i64 (0), .iface 112 (.pointer (some ⟨N, 0, none⟩))]) ∧ w.heap.size ≤ N ∧ w'.heap[N]? = some (.cells #[.string ⟨#[80, 97, 114, 115, 101, 73, 110, 116]⟩, .string s, ev] 124 (0, 0)) ∧ Below w.heap.size w w' := Any.strconv_ParseInt_10_at64_syntax Tryz.laysC174 s hlim h ev w hv hev
open Go.RowKit in
theorem Tryz.strconv_ParseInt_10_at64_range (s : ByteArray) (hlim : s.size ≤ 281474976710656) (h : Lib.parseIntB 64 s.data.toList = .range) (ev : Value) (w : World) (hv : w.cell? ⟨3, 0, none⟩ = some ev) (hev : ev = .nilIface ∨ ∃ te pe, ev = .iface te pe) :
   Calls Tryz.prog 68 #[.string s, .int .i64 10, .int .i64 64] w fun e w' => ∃ N, e = .returned (.tuple #[.int .i64 (Lib.intSat 64 s.data.toList), .iface 112 (.pointer (some ⟨N, 0, none⟩))]) ∧ w.heap.size ≤ N ∧ w'.heap[N]? = some (.cells #[.string ⟨#[80, 97, 114, 115, 101, 73, 110, 116]⟩, .string s, ev] 124 (0, 0)) ∧ Below w.heap.size w w' := Any.strconv_ParseInt_10_at64_range Tryz.laysC174 s hlim h ev w hv hev
def Tryz.lays101_ren : Go.Shelf.Ren := ⟨fun | 101 => 67 | 208 => 77 | 206 => 89 | n => n, fun | 9 => 9 | 4 => 4 | 3 => 3 | n => n, fun | n => n⟩
theorem Tryz.lays101 : Go.Proofs.Lays.n101 Tryz.prog Tryz.lays101_ren := {
 mixed := by kernel_rfl
 f101 := Tryz.func67.trans (congrArg some (by kernel_rfl))
 f206 := Tryz.func89.trans (congrArg some (by kernel_rfl))
 f208 := Tryz.func77.trans (congrArg some (by kernel_rfl))
 t3 := Tryz.underlying3
 a3 := Tryz.isAgg3
 z3 := Tryz.sizeOf3
 v3 := Tryz.zeroValue3
 t4 := Tryz.underlying4
 a4 := Tryz.isAgg4
 z4 := Tryz.sizeOf4
 v4 := Tryz.zeroValue4
 t9 := Tryz.underlying9
 a9 := Tryz.isAgg9
 z9 := Tryz.sizeOf9
 v9 := Tryz.zeroValue9 }
open Go.RowKit Go.Lib in
theorem Tryz.strings_TrimPrefix (s p : ByteArray) (w : World) :
   Calls Tryz.prog 67 #[.string s, .string p] w fun e w' => e = .returned (.string ⟨(Lib.trimPrefix s.data.toList p.data.toList).toArray⟩) ∧ w' = w := Any.strings_TrimPrefix Tryz.lays101 s p w
def Tryz.lays146_ren : Go.Shelf.Ren := ⟨fun | 146 => 51 | 221 => 66 | 268 => 74 | 138 => 75 | 143 => 76 | 195 => 85 | 197 => 86 | 218 => 87 | 219 => 88 | 260 => 100 | 217 => 101 | 225 => 102 | 224 => 103 | 267 => 104 | 266 => 116 | 314 => 117 | n => n, fun | 9 => 9 | 31 => 24 | 3 => 3 | 4 => 4 | 0 => 0 | 105 => 104 | 21 => 21 | 5 => 5 | 46 => 80 | 119 => 133 | 139 => 136 | 138 => 135 | 146 => 137 | 51 => 128 | n => n, fun | 1 => 1 | 3 => 5 | 4 => 6 | n => n⟩
theorem Tryz.lays146 : Go.Proofs.Lays.n146 Tryz.prog Tryz.lays146_ren := {
 mixed := by kernel_rfl
 f138 := Tryz.func75.trans (congrArg some (by kernel_rfl))
 f143 := Tryz.func76.trans (congrArg some (by kernel_rfl))
 f146 := Tryz.func51.trans (congrArg some (by kernel_rfl))
 f195 := Tryz.func85.trans (congrArg some (by kernel_rfl))
 f197 := Tryz.func86.trans (congrArg some (by kernel_rfl))
 f217 := Tryz.func101.trans (congrArg some (by kernel_rfl))
 f218 := Tryz.func87.trans (congrArg some (by kernel_rfl))
 f219 := Tryz.func88.trans (congrArg some (by kernel_rfl))
 f221 := Tryz.func66.trans (congrArg some (by kernel_rfl))
 f224 := Tryz.func103.trans (congrArg some (by kernel_rfl))
 f225 := Tryz.func102.trans (congrArg some (by kernel_rfl))
 f260 := Tryz.func100.trans (congrArg some (by kernel_rfl))
 f266 := Tryz.func116.trans (congrArg some (by kernel_rfl))
 f267 := Tryz.func104.trans (congrArg some (by kernel_rfl))
 f268 := Tryz.func74.trans (congrArg some (by kernel_rfl))
 f314 := Tryz.func117.trans (congrArg some (by kernel_rfl))
 t0 := Tryz.underlying0
 a0 := Tryz.isAgg0
 z0 := Tryz.sizeOf0
 v0 := Tryz.zeroValue0
 t3 := Tryz.underlying3
 a3 := Tryz.isAgg3
 z3 := Tryz.sizeOf3
 v3 := Tryz.zeroValue3
 t4 := Tryz.underlying4
 a4 := Tryz.isAgg4
 z4 := Tryz.sizeOf4
 v4 := Tryz.zeroValue4
 t5 := Tryz.underlying5
 a5 := Tryz.isAgg5
 z5 := Tryz.sizeOf5
 v5 := Tryz.zeroValue5
 t9 := Tryz.underlying9
 a9 := Tryz.isAgg9
 z9 := Tryz.sizeOf9
 v9 := Tryz.zeroValue9
 t21 := Tryz.underlying21
 a21 := Tryz.isAgg21
 z21 := Tryz.sizeOf21
 v21 := Tryz.zeroValue21
 t31 := Tryz.underlying24
 a31 := Tryz.isAgg24
 z31 := Tryz.sizeOf24
 v31 := Tryz.zeroValue24
 t46 := Tryz.underlying80
 a46 := Tryz.isAgg80
 z46 := Tryz.sizeOf80
 v46 := Tryz.zeroValue80
 t51 := Tryz.underlying128
 a51 := Tryz.isAgg128
 z51 := Tryz.sizeOf128
 v51 := Tryz.zeroValue128
 t105 := Tryz.underlying104
 a105 := Tryz.isAgg104
 z105 := Tryz.sizeOf104
 v105 := Tryz.zeroValue104
 t119 := Tryz.underlying133
 a119 := Tryz.isAgg133
 z119 := Tryz.sizeOf133
 t138 := Tryz.underlying135
 a138 := Tryz.isAgg135
 z138 := Tryz.sizeOf135
 v138 := Tryz.zeroValue135
 t139 := Tryz.underlying136
 a139 := Tryz.isAgg136
 z139 := Tryz.sizeOf136
 v139 := Tryz.zeroValue136
 t146 := Tryz.underlying137
 a146 := Tryz.isAgg137
 z146 := Tryz.sizeOf137
 v146 := Tryz.zeroValue137
 g1 := by kernel_rfl
 g3 := by kernel_rfl
 g4 := by kernel_rfl }
open Go.RowKit Go.Lib in
theorem Tryz.strings_Split (s sep : ByteArray) (m : Int) (w : World) (hs : s.size < 4294967281) (hm : w.cell? ⟨1, 0, none⟩ = some (.int .i64 m)) (h1 : 1 ≤ sep.size) :
   Calls Tryz.prog 51 #[.string s, .string sep] w fun e w' =>
     e = .returned (.slice (some ⟨w.heap.size, 0, none⟩) (Lib.countB s sep + 1) (Lib.countB s sep + 1)) ∧ w' = w.alloc (.cells ((Lib.splitB sep 0 (Lib.countB s sep) s).map Value.string).toArray 9) := Any.strings_Split Tryz.lays146 (by kernel_rfl) s sep m w hs hm h1
def Tryz.laysM146_ren : Go.Shelf.Ren := ⟨fun | 146 => 51 | 221 => 66 | 268 => 74 | 138 => 75 | 143 => 76 | 195 => 85 | 197 => 86 | 218 => 87 | 219 => 88 | 260 => 100 | 217 => 101 | 225 => 102 | 224 => 103 | 267 => 104 | 266 => 116 | 314 => 117 | n => n, fun | 9 => 9 | 31 => 24 | 3 => 3 | 4 => 4 | 0 => 0 | 105 => 104 | 21 => 21 | 5 => 5 | 46 => 80 | 119 => 133 | 139 => 136 | 138 => 135 | 146 => 137 | 51 => 128 | n => n, fun | 1 => 1 | 3 => 5 | 4 => 6 | n => n⟩
theorem Tryz.laysM146 : Go.Proofs.LaysM.n146 Tryz.prog Tryz.laysM146_ren := {
 mixed := by kernel_rfl
 f138 := Tryz.func75.trans (congrArg some (by kernel_rfl))
 f143 := Tryz.func76.trans (congrArg some (by kernel_rfl))
 f146 := Tryz.func51.trans (congrArg some (by kernel_rfl))
 f195 := Tryz.func85.trans (congrArg some (by kernel_rfl))
 f197 := Tryz.func86.trans (congrArg some (by kernel_rfl))
 f217 := Tryz.func101.trans (congrArg some (by kernel_rfl))
 f218 := Tryz.func87.trans (congrArg some (by kernel_rfl))
 f219 := Tryz.func88.trans (congrArg some (by kernel_rfl))
 f221 := Tryz.func66.trans (congrArg some (by kernel_rfl))
 f224 := Tryz.func103.trans (congrArg some (by kernel_rfl))
 f225 := Tryz.func102.trans (congrArg some (by kernel_rfl))
 f260 := Tryz.func100.trans (congrArg some (by kernel_rfl))
 f266 := Tryz.func116.trans (congrArg some (by kernel_rfl))
 f267 := Tryz.func104.trans (congrArg some (by kernel_rfl))
 f268 := Tryz.func74.trans (congrArg some (by kernel_rfl))
 f314 := Tryz.func117.trans (congrArg some (by kernel_rfl))
 t0 := Tryz.underlying0
 a0 := Tryz.isAgg0
 z0 := Tryz.sizeOf0
 v0 := Tryz.zeroValue0
 t3 := Tryz.underlying3
 a3 := Tryz.isAgg3
 z3 := Tryz.sizeOf3
 v3 := Tryz.zeroValue3
 t4 := Tryz.underlying4
 a4 := Tryz.isAgg4
 z4 := Tryz.sizeOf4
 v4 := Tryz.zeroValue4
 t5 := Tryz.underlying5
 a5 := Tryz.isAgg5
 z5 := Tryz.sizeOf5
 v5 := Tryz.zeroValue5
 t9 := Tryz.underlying9
 a9 := Tryz.isAgg9
 z9 := Tryz.sizeOf9
 v9 := Tryz.zeroValue9
 t21 := Tryz.underlying21
 a21 := Tryz.isAgg21
 z21 := Tryz.sizeOf21
 v21 := Tryz.zeroValue21
 t31 := Tryz.underlying24
 a31 := Tryz.isAgg24
 z31 := Tryz.sizeOf24
 v31 := Tryz.zeroValue24
 t46 := Tryz.underlying80
 a46 := Tryz.isAgg80
 z46 := Tryz.sizeOf80
 v46 := Tryz.zeroValue80
 t51 := Tryz.underlying128
 a51 := Tryz.isAgg128
 z51 := Tryz.sizeOf128
 v51 := Tryz.zeroValue128
 t105 := Tryz.underlying104
 a105 := Tryz.isAgg104
 z105 := Tryz.sizeOf104
 v105 := Tryz.zeroValue104
 t119 := Tryz.underlying133
 a119 := Tryz.isAgg133
 z119 := Tryz.sizeOf133
 t138 := Tryz.underlying135
 a138 := Tryz.isAgg135
 z138 := Tryz.sizeOf135
 v138 := Tryz.zeroValue135
 t139 := Tryz.underlying136
 a139 := Tryz.isAgg136
 z139 := Tryz.sizeOf136
 v139 := Tryz.zeroValue136
 t146 := Tryz.underlying137
 a146 := Tryz.isAgg137
 z146 := Tryz.sizeOf137
 v146 := Tryz.zeroValue137
 g1 := by kernel_rfl
 g3 := by kernel_rfl
 g4 := by kernel_rfl
 i0 := by kernel_rfl
 i3 := by kernel_rfl
 i4 := by kernel_rfl
 i5 := by kernel_rfl
 i9 := by kernel_rfl
 i21 := by kernel_rfl
 i31 := by kernel_rfl
 i46 := by kernel_rfl
 i51 := by kernel_rfl
 i105 := by kernel_rfl
 i138 := by kernel_rfl
 i139 := by kernel_rfl
 i146 := by kernel_rfl
 m1 := by kernel_rfl
 s1_3 := fun w h => Go.Proofs.cell_of_shapedOpen_int (zero := #[.int .i64 0]) (t := 3) h (of_decide_eq_true (by kernel_rfl)) (by kernel_rfl) rfl (by kernel_rfl) (by kernel_rfl) Tryz.underlying3
 m3 := by kernel_rfl
 m4 := by kernel_rfl }
end Go.Proofs
namespace Go.Proofs.YtadbafppodhfpaaGreatDoor
open Go.RowKit
set_option maxRecDepth 100000
set_option linter.unusedVariables false
namespace De
open Kn (dec B val dig dec_ind dec_small dec_big dec_digits dec_length dec_ne val_dec B_of B_list)
theorem gPow : Tryz.prog.globalNamed "internal/strconv.uint64pow10" = some 4 := by kernel_rfl
theorem gKind : Tryz.prog.globalNamed "loop.example/g00418/impl.kindNames" = some 0 := by kernel_rfl
def kindV : Array Value := #[.string ⟨#[]⟩, .string ⟨#[112, 117, 116]⟩, .string ⟨#[99, 117, 116]⟩, .string ⟨#[97, 100, 100]⟩, .string ⟨#[105, 102]⟩]
theorem var_keep {w w' : World} {n : String} {g : Nat} {cs : Array Value} (hg : Tryz.prog.globalNamed n = some g) (hb : Below w.heap.size w w') (h : w.var? Tryz.prog n = some cs) : w'.var? Tryz.prog n = some cs := by
 have hlt : g < w.heap.size := by
   unfold World.var? at h
   rw [hg] at h
   cases hh : w.heap[g]? with
   | none => simp [hh] at h
   | some o => exact (Array.getElem?_eq_some_iff.1 hh).1
 exact var?_below hb hg hlt h
theorem cell_keep {w w' : World} {a : Addr} {v : Value} (hb : Below w.heap.size w w') (h : w.cell? a = some v) : w'.cell? a = some v :=
 (hb.cell (block_lt_of_cell h)).trans h
structure TabP (w : World) : Prop where
 pow : Lib.TabIs Tryz.prog w "internal/strconv.uint64pow10" .u64 Lib.pow10Tab
 knd : w.var? Tryz.prog "loop.example/g00418/impl.kindNames" = some kindV
theorem TabP.below {w w' : World} (t : TabP w) (hb : Below w.heap.size w w') : TabP w' := ⟨var_keep gPow hb t.pow, var_keep gKind hb t.knd⟩
structure TabQ (w : World) : Prop where
 p : TabP w
 syn : ∃ tp p, w.cell? ⟨2, 0, none⟩ = some (.iface tp p)
 rng : ∃ tp p, w.cell? ⟨3, 0, none⟩ = some (.iface tp p)
 maxl : ∃ m, w.cell? ⟨1, 0, none⟩ = some (.int .i64 m)
theorem TabQ.below {w w' : World} (t : TabQ w) (hb : Below w.heap.size w w') : TabQ w' where
 p := t.p.below hb
 syn := by obtain ⟨tp, p, h⟩ := t.syn; exact ⟨tp, p, cell_keep hb h⟩
 rng := by obtain ⟨tp, p, h⟩ := t.rng; exact ⟨tp, p, cell_keep hb h⟩
 maxl := by obtain ⟨m, h⟩ := t.maxl; exact ⟨m, cell_keep hb h⟩
theorem TabP.at {w : World} (t : TabP w) (i : Nat) (v : Value) (h : kindV[i]? = some v) : w.cell? ⟨0, i, none⟩ = some v := (World.var?_cell gKind t.knd i).trans h
theorem decDigits_dec : ∀ n, n < 100000000000 → Lib.decDigits n = dec n := by
 apply dec_ind
 · intro n h
   rw [dec_small n h, Lib.decDigits]
   simp only [h, dif_pos, dig]
   rw [Nat.mod_eq_of_lt h]
 · intro n h10 hn ih
   rw [dec_big n h10 hn, Lib.decDigits, dif_neg (by omega), ih]
   rfl
theorem itoa_dec (n : Nat) (h : n < 100000000000) : Lib.itoa (n : Int) = dec n := by
 unfold Lib.itoa
 rw [if_neg (by omega), Int.toNat_natCast, decDigits_dec n h]
theorem parse_ok (M : Nat) (hM : 1000000000000000000 ≤ M) (l : List UInt8) : ∀ (acc a : Nat), (∀ c ∈ l, 48 ≤ c.toNat ∧ c.toNat ≤ 57) → acc < 10 ^ a → a + l.length ≤ 18 →
   Lib.parseUintM M acc l = .ok (l.foldl (fun a c => a * 10 + (c.toNat - 48)) acc) := by
 induction l with
 | nil => intro acc a _ _ _; rfl
 | cons c r ih =>
   intro acc a hd hacc hlen
   have hc := hd c (by simp)
   have h17 : 10 ^ a ≤ 10 ^ 17 := Nat.pow_le_pow_right (by decide) (by simp at hlen; omega)
   have hp : acc * 10 + (c.toNat - 48) < 10 ^ (a + 1) := by rw [Nat.pow_succ]; omega
   have e17 : (10 : Nat) ^ 17 = 100000000000000000 := by decide
   rw [Lib.parseUintM, if_pos hc, if_neg (by omega), if_neg (by omega)]
   rw [ih (acc * 10 + (c.toNat - 48)) (a + 1) (fun c' h' => hd c' (by simp [h'])) hp (by simp at hlen; omega)]
   rfl
theorem parse_dec (m : Nat) (hm : m < 1000000000) : Lib.parseIntB 64 (dec m) = .ok (m : Int) := by
 have hd := dec_digits m (by omega)
 have hl := dec_length 8 m (by simpa using hm) (by omega)
 have hv := val_dec m (by omega)
 have hne := dec_ne m (by omega)
 have hu : Lib.parseUintB 64 (dec m) = .ok m := by
   unfold Lib.parseUintB
   rw [if_neg hne, parse_ok (2 ^ 64 - 1) (by decide) (dec m) 0 0 hd (by decide) (by omega)]
   rw [← hv]; simp only [val]
   rw [show (dec (List.foldl (fun a c => a * 10 + (c.toNat - 48)) 0 (dec m))) = dec m from by
     have := hv; unfold val at this; rw [this]]
 cases hc : dec m with
 | nil => exact absurd hc hne
 | cons c r =>
   have hcd := hd c (by rw [hc]; simp)
   rw [hc] at hu
   unfold Lib.parseIntB
   simp only [show ¬ (c.toNat = 43 ∨ c.toNat = 45) from by omega, if_false, hu]
   rw [if_neg (by intro ⟨_, h⟩; have e : (2 : Nat) ^ (64 - 1) = 9223372036854775808 := by decide
                  omega), if_neg (by intro ⟨h, _⟩; omega), if_neg (by omega)]
theorem showSmall (i : Nat) (hi : i < 100) (w : World) : Calls Tryz.prog 56 #[.int .i64 (i : Int)] w fun e w' => e = .returned (.string (B (dec i))) ∧ w = w' := by
 have HD : Hid ((⟨(Lib.decDigits i).toArray⟩ : ByteArray) = B (dec i)) := by
   show _ = _
   rw [decDigits_dec i (by omega)]; rfl
 go_enter Tryz.func56, Tryz.ntmps56
 go_wp2_with fail
 refine (Tryz.strconv_FormatInt_10_small i hi _).mono ?_
 rintro e w' ⟨rfl, rfl⟩
 rw [HD.out]
 go_wp2
 go_ret
 exact ⟨rfl, rfl⟩
theorem showNumber (n : Int) (h0 : -9223372036854775808 ≤ n) (h1 : n ≤ 9223372036854775807) (w : World) (t : TabP w) : Calls Tryz.prog 56 #[.int .i64 n] w fun e w' => e = .returned (.string (B (Lib.itoa n))) ∧ Below w.heap.size w w' := by
 go_enter Tryz.func56, Tryz.ntmps56
 go_wp2_with fail
 refine (Tryz.strconv_FormatInt_10 n h0 h1 _ t.pow).mono ?_
 rintro e w' ⟨rfl, k, os, rfl⟩
 have hb := Lib.below_grow w.heap.size w (Nat.le_refl _) k os
 generalize «Sort».grow (w.drewN k) os = w1 at hb ⊢
 go_wp2
 go_ret
 exact ⟨rfl, hb⟩
def Reads2 (s : ByteArray) (n : Int) (b : Bool) : Prop := ∀ m : Nat, m < 1000000000 → s = B (dec m) → n = (m : Int) ∧ b = true
def ReadPost2 (s : ByteArray) (w : World) (e : Ending) (w' : World) : Prop := ∃ n b, e = .returned (.tuple #[.int .i64 n, .bool b]) ∧ Reads2 s n b ∧ Below w.heap.size w w'
theorem readPost2_mk {s : ByteArray} {w w' : World} {e : Ending} (n : Int) (b : Bool) (he : e = .returned (.tuple #[.int .i64 n, .bool b])) (h : Reads2 s n b) (hb : Below w.heap.size w w') : ReadPost2 s w e w' := ⟨n, b, he, h, hb⟩
theorem trim_dec (m : Nat) (hm : m < 1000000000) : Lib.trimPrefix (dec m) [45] = dec m := by
 unfold Lib.trimPrefix
 have : Lib.hasPrefix (dec m) [45] = false := by
   cases hc : dec m with
   | nil => exact absurd hc (dec_ne m (by omega))
   | cons c r =>
     have hd := dec_digits m (by omega) c (by rw [hc]; simp)
     have : ((45 : UInt8) == c) = false := by
       rw [beq_eq_false_iff_ne]; intro e; rw [← e] at hd; exact absurd hd.1 (by decide)
     simp [Lib.hasPrefix, List.isPrefixOf, this]
 rw [this]; rfl
theorem no_trim (s : ByteArray) (h : 9 < (Lib.trimPrefix s.data.toList [45]).length) (m : Nat) (hm : m < 1000000000) : s ≠ B (dec m) := by
 intro e
 have hd := B_of s _ e
 rw [hd, trim_dec m hm] at h
 have hl := dec_length 8 m (by simpa using hm) (by omega)
 omega
set_option maxHeartbeats 1600000 in
theorem readNumber (s : ByteArray) (w : World) (t : TabQ w) (hs : s.size ≤ 1099511627776) : Calls Tryz.prog 53 #[.string s] w (ReadPost2 s w) := by
 go_enter Tryz.func53, Tryz.ntmps53
 go_wp2_with fail
 refine (Tryz.strings_TrimPrefix s _ _).mono ?_
 rintro e w' ⟨rfl, hw⟩
 subst w'
 have es : (⟨#[45]⟩ : ByteArray).data.toList = [45] := rfl
 rw [es]
 clear es
 have hsz : (⟨(Lib.trimPrefix s.data.toList [45]).toArray⟩ : ByteArray).size = (Lib.trimPrefix s.data.toList [45]).length := by simp [ByteArray.size]
 have hle := Lib.trimPrefix_le s.data.toList [45]
 have hle2 : s.data.toList.length = s.size := by simp
 rw [hle2] at hle
 clear hle2
 have HNT : Hid (9 < (Lib.trimPrefix s.data.toList [45]).length → ∀ m : Nat, m < 1000000000 → s ≠ B (dec m)) := no_trim s
 generalize (⟨(Lib.trimPrefix s.data.toList [45]).toArray⟩ : ByteArray) = tb at hsz ⊢
 rw [← hsz] at hle HNT
 clear hsz
 by_cases h9 : 9 < tb.size
 · have h9' : (9 : Int) < (tb.size : Int) := by omega
   have HN : Hid (∀ m : Nat, m < 1000000000 → s ≠ B (dec m)) := HNT.out h9
   go_wp2
   go_ret2
   exact readPost2_mk 0 false rfl (fun m hm e => absurd e (HN.out m hm)) (Below.refl _ _)
 · have h9' : ¬ (9 : Int) < (tb.size : Int) := by omega
   clear HNT
   cases hp : Lib.parseIntB 64 s.data.toList with
   | ok v =>
     have hbd := Lib.parseIntB_bounds hp
     have e63 : ((2 ^ (64 - 1) : Nat) : Int) = 9223372036854775808 := by decide
     rw [e63] at hbd
     have HR : Hid (∀ m : Nat, m < 1000000000 → s = B (dec m) → v = (m : Int) ∧ Lib.itoa v = s.data.toList) := by
       intro m hm e
       have hd := B_of s _ e
       rw [hd, parse_dec m hm] at hp
       injection hp with hp
       subst hp
       exact ⟨rfl, by rw [hd, itoa_dec m (by omega)]⟩
     go_wp2_with fail
     refine (Tryz.strconv_ParseInt_10_at64_ok s (by omega) v hp _).mono ?_
     rintro e w1 ⟨rfl, hw⟩
     have hb1 : Below w.heap.size w w1 := by
       rcases hw with rfl | ⟨tt, rfl⟩
       · exact Below.refl _ _
       · exact Lib.bytesWorld_below _ _ _
     clear hw hp e63
     have T1 := (t.below hb1).p
     go_wp2_with fail
     refine (showNumber v (by omega) (by omega) _ T1).mono ?_
     rintro e w2 ⟨rfl, hb2⟩
     have hb12 := hb1.trans (hb2.mono hb1.size)
     clear hb2 hb1 T1
     by_cases heq : Lib.itoa v = s.data.toList
     · have hsb : ((B (Lib.itoa v)).toList == s.toList) = true := by
         rw [B_list, heq, ByteArray.toList_eq, beq_iff_eq]
       clear heq
       go_wp2
       go_ret2
       exact readPost2_mk v true rfl (fun m hm e => ⟨(HR.out m hm e).1, rfl⟩) hb12
     · have hsb : ((B (Lib.itoa v)).toList == s.toList) = false := by
         rw [B_list, ByteArray.toList_eq, beq_eq_false_iff_ne]; exact heq
       have HH : Hid (Lib.itoa v ≠ s.data.toList) := heq
       clear heq
       go_wp2
       go_ret2
       exact readPost2_mk 0 false rfl (fun m hm e => absurd (HR.out m hm e).2 HH.out) hb12
   | «syntax» =>
     have HR : Hid (∀ m : Nat, m < 1000000000 → s ≠ B (dec m)) := by
       intro m hm e
       have hd := B_of s _ e
       rw [hd, parse_dec m hm] at hp
       cases hp
     obtain ⟨tp, p, hv⟩ := t.syn
     go_wp2_with fail
     refine (Tryz.strconv_ParseInt_10_at64_syntax s (by omega) hp _ _ hv (.inr ⟨_, _, rfl⟩)).mono ?_
     rintro e w1 ⟨N, rfl, _, _, hb1⟩
     clear hp hv
     go_wp2
     go_ret2
     exact readPost2_mk 0 false rfl (fun m hm e => absurd e (HR.out m hm)) hb1
   | range =>
     have HR : Hid (∀ m : Nat, m < 1000000000 → s ≠ B (dec m)) := by
       intro m hm e
       have hd := B_of s _ e
       rw [hd, parse_dec m hm] at hp
       cases hp
     obtain ⟨tp, p, hv⟩ := t.rng
     go_wp2_with fail
     refine (Tryz.strconv_ParseInt_10_at64_range s (by omega) hp _ _ hv (.inr ⟨_, _, rfl⟩)).mono ?_
     rintro e w1 ⟨N, rfl, _, _, hb1⟩
     clear hp hv
     go_wp2
     go_ret2
     exact readPost2_mk 0 false rfl (fun m hm e => absurd e (HR.out m hm)) hb1
end De
end Go.Proofs.YtadbafppodhfpaaGreatDoor
namespace Go.Proofs.YtadbafppodhfpaaGreatDoor
open Go.RowKit
set_option maxRecDepth 100000
set_option linter.unusedVariables false
namespace De
open Kn (dec B B_list)
def nm : Nat → List UInt8
 | 0 => []
 | 1 => [112, 117, 116]
 | 2 => [99, 117, 116]
 | 3 => [97, 100, 100]
 | _ => [105, 102]
theorem kind_hit {x : List UInt8} {k : Nat} (hk : k < 5) (h : nm k = x) : kindTo x 4 = (k : Int) := by
 subst h
 rcases (show k = 0 ∨ k = 1 ∨ k = 2 ∨ k = 3 ∨ k = 4 by omega) with rfl | rfl | rfl | rfl | rfl <;> rfl
theorem kind_miss {x : List UInt8} (h : ∀ j, j < 5 → nm j ≠ x) : kindTo x 4 = 0 := by
 have h1 : x ≠ kindW (((0 : Nat) : Int) + 1) := fun e => h 1 (by omega) e.symm
 have h2 : x ≠ kindW (((1 : Nat) : Int) + 1) := fun e => h 2 (by omega) e.symm
 have h3 : x ≠ kindW (((2 : Nat) : Int) + 1) := fun e => h 3 (by omega) e.symm
 have h4 : x ≠ kindW (((3 : Nat) : Int) + 1) := fun e => h 4 (by omega) e.symm
 unfold kindTo
 rw [if_neg h4]
 unfold kindTo
 rw [if_neg h3]
 unfold kindTo
 rw [if_neg h2]
 unfold kindTo
 rw [if_neg h1]
 rfl
theorem ret_int {a b : Int} (h : a = b) : Ending.returned (.int .i64 a) = .returned (.int .i64 b) := by rw [h]
set_option maxHeartbeats 3200000 in
theorem kindCalled (s : ByteArray) (w : World) (t : TabP w) : Calls Tryz.prog 52 #[.string s] w fun e w' => e = .returned (.int .i64 (kindTo s.data.toList 4)) ∧ w = w' := by
 have c0 := t.at 0 (.string ⟨#[]⟩) rfl
 have c1 := t.at 1 (.string ⟨#[112, 117, 116]⟩) rfl
 have c2 := t.at 2 (.string ⟨#[99, 117, 116]⟩) rfl
 have c3 := t.at 3 (.string ⟨#[97, 100, 100]⟩) rfl
 have c4 := t.at 4 (.string ⟨#[105, 102]⟩) rfl
 have i0 : ∀ W, (Instr.index 84 (.agg #[.string ⟨#[]⟩, .string ⟨#[112, 117, 116]⟩, .string ⟨#[99, 117, 116]⟩, .string ⟨#[97, 100, 100]⟩, .string ⟨#[105, 102]⟩]) (.int .i64 0)).run Tryz.prog W = .ok (.string ⟨#[]⟩) W := fun _ => by kernel_rfl
 have i1 : ∀ W, (Instr.index 84 (.agg #[.string ⟨#[]⟩, .string ⟨#[112, 117, 116]⟩, .string ⟨#[99, 117, 116]⟩, .string ⟨#[97, 100, 100]⟩, .string ⟨#[105, 102]⟩]) (.int .i64 1)).run Tryz.prog W = .ok (.string ⟨#[112, 117, 116]⟩) W := fun _ => by kernel_rfl
 have i2 : ∀ W, (Instr.index 84 (.agg #[.string ⟨#[]⟩, .string ⟨#[112, 117, 116]⟩, .string ⟨#[99, 117, 116]⟩, .string ⟨#[97, 100, 100]⟩, .string ⟨#[105, 102]⟩]) (.int .i64 2)).run Tryz.prog W = .ok (.string ⟨#[99, 117, 116]⟩) W := fun _ => by kernel_rfl
 have i3 : ∀ W, (Instr.index 84 (.agg #[.string ⟨#[]⟩, .string ⟨#[112, 117, 116]⟩, .string ⟨#[99, 117, 116]⟩, .string ⟨#[97, 100, 100]⟩, .string ⟨#[105, 102]⟩]) (.int .i64 3)).run Tryz.prog W = .ok (.string ⟨#[97, 100, 100]⟩) W := fun _ => by kernel_rfl
 have i4 : ∀ W, (Instr.index 84 (.agg #[.string ⟨#[]⟩, .string ⟨#[112, 117, 116]⟩, .string ⟨#[99, 117, 116]⟩, .string ⟨#[97, 100, 100]⟩, .string ⟨#[105, 102]⟩]) (.int .i64 4)).run Tryz.prog W = .ok (.string ⟨#[105, 102]⟩) W := fun _ => by kernel_rfl
 go_enter Tryz.func52, Tryz.ntmps52
 go_wp2
 clear c0 c1 c2 c3 c4
 go_loop [6] (fun i => ∃ k : Nat, k ≤ 5 ∧ i = .int .i64 k ∧ Hid (∀ j, j < k → nm j ≠ s.data.toList)) (fun i => 5 - (intOf i).toNat)
 case atStart => exact ⟨0, Nat.zero_le _, rfl, fun j hj => absurd hj (Nat.not_lt_zero j)⟩
 case round =>
   obtain ⟨k, hk, rfl, HA⟩ := hrel
   by_cases h5 : k = 5
   · subst h5
     have HM : Hid (kindTo s.data.toList 4 = 0) := kind_miss HA.out
     go_wp2
     go_ret
     exact ⟨ret_int HM.out.symm, rfl⟩
   · have hlt : k < 5 := by omega
     have HH : Hid (nm k = s.data.toList → kindTo s.data.toList 4 = (k : Int)) := fun h => kind_hit hlt h
     have HS : Hid (nm k ≠ s.data.toList → ∀ j, j < k + 1 → nm j ≠ s.data.toList) := fun h j hj => by
       by_cases e : j = k
       · subst e; exact h
       · exact HA.out j (by omega)
     clear HA
     have es : s.toList = s.data.toList := ByteArray.toList_eq s
     by_cases hq : nm k = s.data.toList
     · have hb : (nm k == s.toList) = true := by rw [es, beq_iff_eq]; exact hq
       have HK : Hid (_ = _) := (HH.out hq).symm
       clear hq HS HH es h5
       rcases (show k = 0 ∨ k = 1 ∨ k = 2 ∨ k = 3 ∨ k = 4 by omega) with rfl | rfl | rfl | rfl | rfl
       case inl =>
         have he : s.toList.isEmpty = true := by cases h : s.toList; rfl; rw [h] at hb; exact absurd hb (by simp [nm])
         clear hb
         go_wp2
         go_ret
         exact ⟨ret_int HK.out, rfl⟩
       all_goals
         simp only [nm] at hb
         go_wp2
         go_ret
         exact ⟨ret_int HK.out, rfl⟩
     · have hb : (nm k == s.toList) = false := by rw [es, beq_eq_false_iff_ne]; exact hq
       have HA : Hid _ := HS.out hq
       clear hq HS HH es h5
       rcases (show k = 0 ∨ k = 1 ∨ k = 2 ∨ k = 3 ∨ k = 4 by omega) with rfl | rfl | rfl | rfl | rfl
       case inl =>
         have he : s.toList.isEmpty = false := by cases h : s.toList; rw [h] at hb; exact absurd hb (by simp [nm]); rfl
         clear hb
         go_wp2
         go_round
         case rel => exact ⟨0 + 1, by omega, rfl, HA.out⟩
         case measure => simp [intOf]
       all_goals
         simp only [nm] at hb
         go_wp2
         go_round
         case rel => exact ⟨_ + 1, by omega, rfl, HA.out⟩
         case measure => simp [intOf]
theorem ret_str {a b : ByteArray} (h : a = b) : Ending.returned (.string a) = .returned (.string b) := by rw [h]
theorem tx1 (key bv : ByteArray) (v n : Nat) (h : B (dec v) = bv) : ((⟨#[112, 117, 116]⟩ : ByteArray) ++ ⟨#[32]⟩ ++ key ++ (⟨#[32]⟩ ++ bv ++ ⟨#[]⟩)) = B (showD ⟨1, key, (v : Int), (n : Int)⟩) := by
 subst h
 apply ByteArray.ext
 apply Array.toList_inj.1
 simp [showD, wordsD, joinW, kindW, B]
theorem tx2 (key : ByteArray) (v n : Nat) : ((⟨#[99, 117, 116]⟩ : ByteArray) ++ ⟨#[32]⟩ ++ key ++ ⟨#[]⟩) = B (showD ⟨2, key, (v : Int), (n : Int)⟩) := by
 apply ByteArray.ext
 apply Array.toList_inj.1
 simp [showD, wordsD, joinW, kindW, B]
theorem tx3 (key bv : ByteArray) (v n : Nat) (h : B (dec v) = bv) : ((⟨#[97, 100, 100]⟩ : ByteArray) ++ ⟨#[32]⟩ ++ key ++ (⟨#[32]⟩ ++ bv ++ ⟨#[]⟩)) = B (showD ⟨3, key, (v : Int), (n : Int)⟩) := by
 subst h
 apply ByteArray.ext
 apply Array.toList_inj.1
 simp [showD, wordsD, joinW, kindW, B]
theorem tx4 (key bv bn : ByteArray) (v n : Nat) (h : B (dec v) = bv) (h' : B (dec n) = bn) : ((⟨#[105, 102]⟩ : ByteArray) ++ ⟨#[32]⟩ ++ key ++ (⟨#[32]⟩ ++ bv ++ (⟨#[32]⟩ ++ bn))) = B (showD ⟨4, key, (v : Int), (n : Int)⟩) := by
 subst h h'
 apply ByteArray.ext
 apply Array.toList_inj.1
 simp [showD, wordsD, joinW, kindW, B]
set_option maxHeartbeats 6400000 in
theorem implShowDeed (d : D) (w : World) (t : TabP w) (hs : d.key.size ≤ 1099511627776) : Calls Tryz.prog 45 #[.agg #[.int .i64 d.kind, .string d.key, .int .i64 d.val, .int .i64 d.new]] w fun e w' => e = .returned (.string (textD d)) ∧ Below w.heap.size w w' := by
 have P0 : Hid (_) := box4 w (.int .i64 d.kind) (.string d.key) (.int .i64 d.val) (.int .i64 d.new) 34
 have HOK : Hid (∀ W : World, Calls Tryz.prog 44 #[.agg #[.int .i64 d.kind, .string d.key, .int .i64 d.val, .int .i64 d.new]] W fun e w' => e = .returned (.bool (okD d)) ∧ Below W.heap.size W w') := fun W => implDeedOk d.kind d.key d.val d.new W hs
 have HT : Hid (textD d = if okD d then B (showD d) else ⟨#[]⟩) := rfl
 have HTP : Hid (TabP w) := t
 clear hs t
 generalize textD d = tx at HT ⊢
 go_enter Tryz.func45, Tryz.ntmps45
 go_upto_region 1 with fail
 generalize w.alloc (.cells #[.int .i64 d.kind, .string d.key, .int .i64 d.val, .int .i64 d.new] 34) = W0 at P0 ⊢
 obtain ⟨B0, x0, x1, x2, x3, hl⟩ := P0
 go_wp2_with fail
 refine (HOK.out W0).mono ?_
 rintro e W1 ⟨rfl, hb⟩
 have B1 := B0.trans (hb.mono B0.size)
 have y0 := (hb.cell (p := ⟨w.heap.size, 0, none⟩) hl).trans x0
 have y1 := (hb.cell (p := ⟨w.heap.size, 1, none⟩) hl).trans x1
 have y2 := (hb.cell (p := ⟨w.heap.size, 2, none⟩) hl).trans x2
 have y3 := (hb.cell (p := ⟨w.heap.size, 3, none⟩) hl).trans x3
 have HB1 : Hid (Below w.heap.size w W1) := B1
 clear hb B0 B1 x0 x1 x2 x3
 cases hok : okD d
 · have ht : tx = ⟨#[]⟩ := by rw [HT.out, hok]; rfl
   subst ht
   clear HT hok HOK
   go_wp2
   go_ret
   exact ⟨rfl, HB1.out⟩
 · have ht : tx = B (showD d) := by rw [HT.out, hok]; rfl
   subst ht
   have T1 := HTP.out.below HB1.out
   have c1 := T1.at 1 (.string ⟨#[112, 117, 116]⟩) rfl
   have c2 := T1.at 2 (.string ⟨#[99, 117, 116]⟩) rfl
   have c3 := T1.at 3 (.string ⟨#[97, 100, 100]⟩) rfl
   have c4 := T1.at 4 (.string ⟨#[105, 102]⟩) rfl
   have o := (okD_iff d).1 hok
   obtain ⟨kind, key, val, new⟩ := d
   obtain ⟨k1, k4, kb, v0, v1, n0, n1, cut, ifs⟩ := o
   dsimp only at k1 k4 kb v0 v1 n0 n1 cut ifs y0 y1 y2 y3 ⊢
   obtain ⟨v, rfl⟩ := Int.eq_ofNat_of_zero_le v0
   obtain ⟨n, rfl⟩ := Int.eq_ofNat_of_zero_le n0
   have hks : key.size ≤ 3 := by unfold keyB at kb; simp at kb; omega
   obtain ⟨bv, HV, sv⟩ : ∃ bv, Hid (B (dec v) = bv) ∧ bv.size ≤ 20 := ⟨_, rfl, by rw [Kn.B_size]; exact Nat.le_trans (Kn.dec_length 1 v (by omega) (by omega)) (by omega)⟩
   obtain ⟨bn, HN, sn⟩ : ∃ bn, Hid (B (dec n) = bn) ∧ bn.size ≤ 20 := ⟨_, rfl, by rw [Kn.B_size]; exact Nat.le_trans (Kn.dec_length 1 n (by omega) (by omega)) (by omega)⟩
   have HSV : Hid (∀ W : World, Calls Tryz.prog 56 #[.int .i64 (v : Int)] W fun e w' => e = .returned (.string bv) ∧ W = w') := fun W => by rw [← HV.out]; exact showSmall v (by omega) W
   have HSN : Hid (∀ W : World, Calls Tryz.prog 56 #[.int .i64 (n : Int)] W fun e w' => e = .returned (.string bn) ∧ W = w') := fun W => by rw [← HN.out]; exact showSmall n (by omega) W
   clear HT hok T1 HTP kb v0 v1 n0 n1 HOK
   rcases (show kind = 1 ∨ kind = 2 ∨ kind = 3 ∨ kind = 4 by omega) with rfl | rfl | rfl | rfl
   · clear c2 c3 c4
     go_wp2_with (go_at_call 56; refine (HSV.out _).mono ?_; rintro e w' ⟨rfl, rfl⟩)
     go_region
     go_wp2
     go_ret
     exact ⟨ret_str (tx1 key bv v n HV.out), HB1.out.drew⟩
   · clear c1 c3 c4
     go_wp2
     go_region
     go_wp2
     go_ret
     exact ⟨ret_str (tx2 key v n), HB1.out.drew⟩
   · clear c1 c2 c4
     go_wp2_with (go_at_call 56; refine (HSV.out _).mono ?_; rintro e w' ⟨rfl, rfl⟩)
     go_region
     go_wp2
     go_ret
     exact ⟨ret_str (tx3 key bv v n HV.out), HB1.out.drew⟩
   · clear c1 c2 c3
     go_wp2_with (go_at_call 56; first | (refine (HSN.out _).mono ?_; rintro e w' ⟨rfl, rfl⟩) | (refine (HSV.out _).mono ?_; rintro e w' ⟨rfl, rfl⟩))
     go_region
     go_wp2
     go_ret
     exact ⟨ret_str (tx4 key bv bn v n HV.out HN.out), HB1.out.drew⟩
end De
end Go.Proofs.YtadbafppodhfpaaGreatDoor
namespace Go.Proofs.YtadbafppodhfpaaGreatDoor
open Go.RowKit
set_option maxRecDepth 100000
set_option linter.unusedVariables false
namespace De
open Kn (dec B split splitGo)
theorem splitK_go (c : UInt8) : ∀ l : List UInt8, ∃ h t, Lib.splitK [c] 0 (Lib.count l [c]) l = h :: t ∧ ∀ cur, splitGo c cur l = (cur ++ h) :: t := by
 intro l
 induction l with
 | nil =>
   refine ⟨[], [], ?_, fun cur => by simp [splitGo]⟩
   rw [Lib.count_miss (by simp [Lib.index])]; rfl
 | cons b l ih =>
   obtain ⟨h, t, e, f⟩ := ih
   by_cases hb : b = c
   · subst hb
     have hi : Lib.index (b :: l) [b] = 0 := by rw [Lib.index]; simp [List.isPrefixOf]
     refine ⟨[], h :: t, ?_, fun cur => ?_⟩
     · rw [Lib.count_cons_eq, Nat.add_comm, Lib.splitK, hi]
       simpa using e
     · rw [splitGo, if_pos rfl, f []]; simp
   · have hc := Lib.count_cons_ne b c l hb
     have hp : ([c] : List UInt8).isPrefixOf (b :: l) = false := by simp [List.isPrefixOf, Ne.symm hb]
     have hx : Lib.index (b :: l) [c] = if Lib.index l [c] == -1 then -1 else Lib.index l [c] + 1 := by rw [Lib.index, hp]; simp
     refine ⟨b :: h, t, ?_, fun cur => ?_⟩
     · rw [hc]
       cases hk : Lib.count l [c] with
       | zero =>
         rw [hk] at e
         simp only [Lib.splitK, List.cons.injEq] at e ⊢
         obtain ⟨e1, e2⟩ := e
         exact ⟨by rw [e1]; simp, e2⟩
       | succ k =>
         have hm : ¬ Lib.index l [c] = -1 := fun q => by rw [Lib.count_miss q] at hk; omega
         have hge := Lib.index_ge l [c]
         obtain ⟨j, hj⟩ : ∃ j : Nat, Lib.index l [c] = j := ⟨(Lib.index l [c]).toNat, by omega⟩
         rw [hk, Lib.splitK, hj, if_neg (by simp)] at e
         rw [Lib.splitK, hx, hj, if_neg (by simp; omega), if_neg (by simp)]
         simp only [List.cons.injEq] at e ⊢
         obtain ⟨e1, e2⟩ := e
         have en : ((j : Int) + 1).toNat = j + 1 := by omega
         rw [en]
         refine ⟨?_, ?_⟩
         · rw [← e1]; simp
         · rw [← e2]; simp
     · rw [splitGo, if_neg hb, f (cur ++ [b])]; simp
theorem splitB_split (s : ByteArray) : (Lib.splitB ⟨#[32]⟩ 0 (Lib.countB s ⟨#[32]⟩) s).map (·.data.toList) = split 32 s.data.toList := by
 rw [Lib.splitB_data]
 obtain ⟨h, t, e, f⟩ := splitK_go 32 s.data.toList
 show Lib.splitK [32] 0 (Lib.count s.data.toList [32]) s.data.toList = _
 rw [e]; unfold Kn.split; rw [f []]; simp
theorem splitW (s : ByteArray) (w : World) (t : TabQ w) (hs : s.size ≤ 1073741824) (P : List (List UInt8)) (hP : split 32 s.data.toList = P) : Calls Tryz.prog 51 #[.string s, .string ⟨#[32]⟩] w fun e w' =>
   e = .returned (.slice (some ⟨w.heap.size, 0, none⟩) P.length P.length) ∧ Below w.heap.size w w' ∧ w.heap.size < w'.heap.size ∧ ∀ j, j < P.length → w'.cell? ⟨w.heap.size, j, none⟩ = some (.string (B (P.getD j []))) := by
 obtain ⟨m, hm⟩ := t.maxl
 have hl : (Lib.splitB ⟨#[32]⟩ 0 (Lib.countB s ⟨#[32]⟩) s).length = Lib.countB s ⟨#[32]⟩ + 1 := Lib.splitB_all _ (by decide) 0 _ s rfl
 have he := splitB_split s
 rw [hP] at he
 generalize hQ : Lib.splitB ⟨#[32]⟩ 0 (Lib.countB s ⟨#[32]⟩) s = Q at hl he
 have hPl : P.length = Lib.countB s ⟨#[32]⟩ + 1 := by rw [← he, List.length_map, hl]
 have h := Tryz.strings_Split s ⟨#[32]⟩ m w (by omega) hm (by decide)
 rw [hQ, ← hPl] at h
 refine h.mono ?_
 rintro e w' ⟨rfl, rfl⟩
 refine ⟨rfl, (Below.refl _ _).alloc (Nat.le_refl _) _, by simp, fun j hj => ?_⟩
 have hjq : j < Q.length := by omega
 rw [World.cell?_alloc_new]
 have e1 : P.getD j [] = Q[j].data.toList := by
   subst he
   simp [List.getD, hjq]
 rw [e1, Kn.B_data]
 simp [hjq]
theorem the_deed2 {s : ByteArray} {P : List (List UInt8)} {k v n : Int} {key : ByteArray} (hP : split 32 s.data.toList = P) (hk : kindTo (P.getD 0 []) 4 = k) (hkey : key = B (P.getD 1 [])) (hv : 2 < P.length → ∀ m : Nat, m < 1000000000 → B (P.getD 2 []) = B (dec m) → v = (m : Int)) (hv0 : ¬ 2 < P.length → v = 0) (hn : 3 < P.length → ∀ m : Nat, m < 1000000000 → B (P.getD 3 []) = B (dec m) → n = (m : Int)) (hn0 : ¬ 3 < P.length → n = 0) {d' : D} (o : okD d' = true) (q : showD d' = s.data.toList) : d' = ⟨k, key, v, n⟩ := by
 have e := pieces_of o q
 rw [hP] at e
 have o' := (okD_iff d').1 o
 have ek : k = d'.kind := by rw [← hk, e]; exact kindTo_kind ⟨o'.k1, o'.k4⟩
 have em := words_many o'
 rw [← e] at em
 have a1 := o'.k1; have a2 := o'.k4
 have b1 := o'.v0; have b2 := o'.v1; have b3 := o'.n0; have b4 := o'.n1
 have c1 := o'.cut; have c2 := o'.ifs
 obtain ⟨k', key', v', n'⟩ := d'
 dsimp only at *
 subst ek
 have e1 : key = key' := by rw [hkey, e]; exact Kn.B_data key'
 subst e1
 have ev : v' = v := by
   by_cases h2 : k = 2
   · rw [hv0 (by rw [em, h2]; decide), c1 h2]
   · have hl : 2 < P.length := by rw [em]; unfold many; rw [if_neg (by omega), if_neg h2]; split <;> omega
     have e2 : P.getD 2 [] = dec v'.toNat := by rw [e]; unfold wordsD; simp [h2]
     have := hv hl v'.toNat (by omega) (by rw [e2])
     omega
 have en : n' = n := by
   by_cases h4 : k = 4
   · have hl : 3 < P.length := by rw [em, h4]; decide
     have e2 : P.getD 3 [] = dec n'.toNat := by rw [e]; unfold wordsD; simp [h4]
     have := hn hl n'.toNat (by omega) (by rw [e2])
     omega
   · have hl : ¬ 3 < P.length := by rw [em]; unfold many; rw [if_neg (by omega)]; split <;> (try split) <;> omega
     rw [hn0 hl, c2 h4]
 rw [ev, en]
theorem many_of (k : Int) : many k = 0 ∨ many k = 2 ∨ many k = 3 ∨ many k = 4 := by
 unfold many; split; exact .inl rfl; split; exact .inr (.inl rfl); split; exact .inr (.inr (.inr rfl)); exact .inr (.inr (.inl rfl))
def RoughD (s : ByteArray) (w : World) (e : Ending) (w' : World) : Prop := ∃ d : D, e = .returned (.agg #[.int .i64 d.kind, .string d.key, .int .i64 d.val, .int .i64 d.new]) ∧ d.key.size ≤ 1073741824 ∧ (∀ d', okD d' = true → showD d' = s.data.toList → d' = d) ∧ Below w.heap.size w w'
set_option maxHeartbeats 6400000 in
theorem roughDeed (s : ByteArray) (w : World) (t : TabQ w) (hs : s.size ≤ 1073741824) : Calls Tryz.prog 43 #[.string s] w (RoughD s w) := by
 have HZ : Hid (_) := zd_new w 34
 have HB0 : Hid (Below w.heap.size w (w.alloc (.cells #[.int .i64 0, .string ⟨#[]⟩, .int .i64 0, .int .i64 0] 34))) := (Below.refl _ _).alloc (Nat.le_refl _) _
 have HT : Hid (TabQ w) := t
 obtain ⟨P, hP⟩ : ∃ P, split 32 s.data.toList = P := ⟨_, rfl⟩
 have hp0 : 0 < P.length := by rw [← hP]; exact Kn.split_pos 32 [] _
 have hpl : P.length ≤ 1073741825 := by rw [← hP]; have := Kn.split_len 32 [] s.data.toList; unfold Kn.split; simp at this ⊢; omega
 have HE : Hid (∀ j, (B (P.getD j [])).size ≤ 1073741824) := fun j => by
   rw [Kn.B_size]
   by_cases hj : j < P.length
   · have := Kn.piece_len 32 [] s.data.toList (P.getD j []) (by
       have e : P.getD j [] = P[j] := by simp [List.getD, List.getElem?_eq_getElem hj]
       rw [e]
       have : P[j] ∈ P := List.getElem_mem hj
       rw [show Kn.splitGo 32 [] s.data.toList = P from hP]; exact this)
     have h2 : s.data.toList.length = s.size := by simp
     simp only [List.length_nil] at this; omega
   · simp [List.getD, List.getElem?_eq_none (Nat.le_of_not_lt hj)]
 have HSP : Hid (∀ W : World, TabQ W → Calls Tryz.prog 51 #[.string s, .string ⟨#[32]⟩] W fun e w' => e = .returned (.slice (some ⟨W.heap.size, 0, none⟩) P.length P.length) ∧ Below W.heap.size W w' ∧ W.heap.size < w'.heap.size ∧ ∀ j, j < P.length → w'.cell? ⟨W.heap.size, j, none⟩ = some (.string (B (P.getD j [])))) := fun W tq => splitW s W tq hs P hP
 have HP : Hid (split 32 s.data.toList = P) := hP
 obtain ⟨pc, HPC⟩ : ∃ pc : Nat → ByteArray, Hid (∀ j, B (P.getD j []) = pc j) := ⟨_, fun _ => rfl⟩
 have HE : Hid (∀ j, (pc j).size ≤ 1073741824) := fun j => by rw [← HPC.out j]; exact HE.out j
 clear hP t
 go_enter Tryz.func43, Tryz.ntmps43
 go_upto_region 1 with fail
 generalize w.alloc (.cells #[.int .i64 0, .string ⟨#[]⟩, .int .i64 0, .int .i64 0] 34) = W0 at HZ HB0 ⊢
 go_wp2_with fail
 refine (HSP.out W0 (HT.out.below HB0.out)).mono ?_
 rintro e W1 ⟨rfl, hb1, hlt, hcs⟩
 have c0 : W1.cell? ⟨W0.heap.size, 0, none⟩ = some (.string (pc 0)) := (hcs 0 hp0).trans (by rw [HPC.out 0])
 have HB1 : Hid (Below w.heap.size w W1) := HB0.out.trans (hb1.mono HB0.out.size)
 have HC : Hid (_) := hcs
 have HL : Hid (W0.heap.size < W1.heap.size) := hlt
 have HBB : Hid (Below W0.heap.size W0 W1) := hb1
 have HKC : Hid (∀ W : World, TabQ W → Calls Tryz.prog 52 #[.string (pc 0)] W fun e w' => e = .returned (.int .i64 (kindTo (P.getD 0 []) 4)) ∧ W = w') := fun W tq => by
   have := kindCalled (B (P.getD 0 [])) W tq.p
   rwa [show (B (P.getD 0 [])).data.toList = P.getD 0 [] from by simp [B], HPC.out 0] at this
 have hpi : (0 : Int) < (P.length : Int) := by omega
 clear hcs hlt hb1 HSP
 go_wp2_with fail
 refine (HKC.out _ (HT.out.below HB1.out)).mono ?_
 rintro e w' ⟨rfl, rfl⟩
 obtain ⟨k, hk⟩ : ∃ k, kindTo (P.getD 0 []) 4 = k := ⟨_, rfl⟩
 rw [hk]
 have HK : Hid (kindTo (P.getD 0 []) 4 = k) := hk
 clear HKC hk c0
 have HR : Hid (RSt w (W1.alloc (.cells #[.int .i64 k, .string ⟨#[]⟩, .int .i64 0, .int .i64 0] 34)) W0.heap.size W1.heap.size P k ⟨#[]⟩ 0 0) := by
   obtain ⟨z0, z1, z2, z3, z4, z5⟩ := HZ.out
   have hb2 : Below W0.heap.size W0 (W1.alloc (.cells #[.int .i64 k, .string ⟨#[]⟩, .int .i64 0, .int .i64 0] 34)) := HBB.out.alloc HBB.out.size _
   have hlt := HL.out
   exact ⟨HB0.out.trans (hb2.mono HB0.out.size), ⟨by omega, by simp, (hb2.cell (p := ⟨w.heap.size, 0, none⟩) z0).trans z1, (hb2.cell (p := ⟨w.heap.size, 1, none⟩) z0).trans z2, (hb2.cell (p := ⟨w.heap.size, 2, none⟩) z0).trans z3, (hb2.cell (p := ⟨w.heap.size, 3, none⟩) z0).trans z4, fun j => (hb2.frozen (p := ⟨w.heap.size, j, none⟩) z0).trans (z5 j), by simp, by simp, by simp, by simp, fun j => by simp⟩, hlt, by have := HZ.out.1; omega, fun j hj => (World.cell?_alloc_lt _ _ ⟨W0.heap.size, j, none⟩ hlt).trans (HC.out j hj)⟩
 clear HZ HB0 HB1 HC HL HBB
 go_upto_region 4 with fail
 generalize W1.alloc (.cells #[.int .i64 k, .string ⟨#[]⟩, .int .i64 0, .int .i64 0] 34) = V at HR ⊢
 generalize W0.heap.size = g at HR ⊢
 generalize W1.heap.size = x at HR ⊢
 rcases (show P.length = 4 ∨ P.length = 3 ∨ P.length = 2 ∨ (P.length ≠ 4 ∧ P.length ≠ 3 ∧ P.length ≠ 2) by omega) with hq | hq | hq | ⟨hq4, hq3, hq2⟩
 · have e4 : ((P.length : Int) == 4) = true := by simp; omega
   have e3 : ((P.length : Int) == 3) = false := by simp; omega
   have e2 : ((P.length : Int) == 2) = false := by simp; omega
   have hi3 : (3 : Int) < (P.length : Int) := by omega
   have c3 : World.cell? _ ⟨g, 3, none⟩ = some (.string (pc 3)) := (HR.out.cells 3 (by omega)).trans (by rw [HPC.out 3])
   have hsz := HE.out 3
   go_wp2_with fail
   refine (readNumber _ _ (HT.out.below HR.out.bel) (by omega)).mono ?_
   rintro e V23 ⟨x3, b3, rfl, hr1, hb1⟩
   have HR1 : Hid (RSt w V23 g x P k ⟨#[]⟩ 0 0) := HR.out.below hb1
   have HN3 : Hid (∀ m : Nat, m < 1000000000 → B (P.getD 3 []) = B (dec m) → x3 = (m : Int)) := fun m hm e => (hr1 m hm ((HPC.out 3).symm.trans e)).1
   have kk := HR1.out.two.k3
   have ff := HR1.out.two.kf 3
   have HR2 : Hid (RSt w (V23.setCell ⟨x, 3, none⟩ (.int .i64 x3)) g x P k ⟨#[]⟩ 0 x3) := HR1.out.put 3 _ (HR1.out.two.set3 x3)
   clear hr1 hb1 c3 hsz HR HR1
   go_upto_region 8 with fail
   generalize V23.setCell ⟨x, 3, none⟩ (.int .i64 x3) = V233 at HR2 ⊢
   clear kk ff hi3
   have HR := HR2
   clear HR2
   have hi2 : (2 : Int) < (P.length : Int) := by omega
   have c2 : World.cell? _ ⟨g, 2, none⟩ = some (.string (pc 2)) := (HR.out.cells 2 (by omega)).trans (by rw [HPC.out 2])
   have hsz := HE.out 2
   go_wp2_with fail
   refine (readNumber _ _ (HT.out.below HR.out.bel) (by omega)).mono ?_
   rintro e V22 ⟨x2, b2, rfl, hr1, hb1⟩
   have HR1 : Hid (RSt w V22 g x P k ⟨#[]⟩ 0 x3) := HR.out.below hb1
   have HN2 : Hid (∀ m : Nat, m < 1000000000 → B (P.getD 2 []) = B (dec m) → x2 = (m : Int)) := fun m hm e => (hr1 m hm ((HPC.out 2).symm.trans e)).1
   have kk := HR1.out.two.k2
   have ff := HR1.out.two.kf 2
   have HR2 : Hid (RSt w (V22.setCell ⟨x, 2, none⟩ (.int .i64 x2)) g x P k ⟨#[]⟩ x2 x3) := HR1.out.put 2 _ (HR1.out.two.set2 x2)
   clear hr1 hb1 c2 hsz HR HR1
   go_upto_region 9 with fail
   generalize V22.setCell ⟨x, 2, none⟩ (.int .i64 x2) = V222 at HR2 ⊢
   clear kk ff hi2
   have HR := HR2
   clear HR2
   have hi1 : (1 : Int) < (P.length : Int) := by omega
   have c1 : World.cell? _ ⟨g, 1, none⟩ = some (.string (pc 1)) := (HR.out.cells 1 (by omega)).trans (by rw [HPC.out 1])
   have kk := HR.out.two.k1
   have ff := HR.out.two.kf 1
   have HR2 : Hid (RSt w (_) g x P k (pc 1) x2 x3) := HR.out.put 1 _ (HR.out.two.set1 (pc 1))
   clear HR
   go_upto_region 10 with fail
   generalize World.setCell _ _ _ = V30 at HR2 ⊢
   clear kk ff hi1 c1
   have HR := HR2
   clear HR2
   obtain ⟨_, _, r0, r1, r2, r3, rf, k0, k1, k2, k3, _⟩ := HR.out.two
   have rf0 := rf 0
   have rf1 := rf 1
   have rf2 := rf 2
   have rf3 := rf 3
   clear rf
   have HQ : Hid (_) := put4D r0 r1 r2 r3 (.int .i64 k) (.string (pc 1)) (.int .i64 (x2)) (.int .i64 (x3))
   have HBE : Hid (_) := put4B HR.out.bel (.int .i64 k) (.string (pc 1)) (.int .i64 (x2)) (.int .i64 (x3))
   go_wp2
   obtain ⟨q0, q1, q2, q3⟩ := HQ.out
   refine bodyPost_ret (v := .agg #[.int .i64 k, .string (pc 1), .int .i64 (x2), .int .i64 (x3)]) (by simp [results, Tryz.f43, go_sem, q0, q1, q2, q3]) rfl ?_
   exact ⟨⟨k, pc 1, x2, x3⟩, rfl, HE.out 1, fun d' o q => the_deed2 HP.out HK.out (HPC.out 1).symm (fun _ => HN2.out) (fun h => absurd (by omega) h) (fun _ => HN3.out) (fun h => absurd (by omega) h) o q, HBE.out⟩
 · have e4 : ((P.length : Int) == 4) = false := by simp; omega
   have e3 : ((P.length : Int) == 3) = true := by simp; omega
   have e2 : ((P.length : Int) == 2) = false := by simp; omega
   have hi2 : (2 : Int) < (P.length : Int) := by omega
   have c2 : World.cell? _ ⟨g, 2, none⟩ = some (.string (pc 2)) := (HR.out.cells 2 (by omega)).trans (by rw [HPC.out 2])
   have hsz := HE.out 2
   go_wp2_with fail
   refine (readNumber _ _ (HT.out.below HR.out.bel) (by omega)).mono ?_
   rintro e V22 ⟨x2, b2, rfl, hr1, hb1⟩
   have HR1 : Hid (RSt w V22 g x P k ⟨#[]⟩ 0 0) := HR.out.below hb1
   have HN2 : Hid (∀ m : Nat, m < 1000000000 → B (P.getD 2 []) = B (dec m) → x2 = (m : Int)) := fun m hm e => (hr1 m hm ((HPC.out 2).symm.trans e)).1
   have kk := HR1.out.two.k2
   have ff := HR1.out.two.kf 2
   have HR2 : Hid (RSt w (V22.setCell ⟨x, 2, none⟩ (.int .i64 x2)) g x P k ⟨#[]⟩ x2 0) := HR1.out.put 2 _ (HR1.out.two.set2 x2)
   clear hr1 hb1 c2 hsz HR HR1
   go_upto_region 9 with fail
   generalize V22.setCell ⟨x, 2, none⟩ (.int .i64 x2) = V222 at HR2 ⊢
   clear kk ff hi2
   have HR := HR2
   clear HR2
   have hi1 : (1 : Int) < (P.length : Int) := by omega
   have c1 : World.cell? _ ⟨g, 1, none⟩ = some (.string (pc 1)) := (HR.out.cells 1 (by omega)).trans (by rw [HPC.out 1])
   have kk := HR.out.two.k1
   have ff := HR.out.two.kf 1
   have HR2 : Hid (RSt w (_) g x P k (pc 1) x2 0) := HR.out.put 1 _ (HR.out.two.set1 (pc 1))
   clear HR
   go_upto_region 10 with fail
   generalize World.setCell _ _ _ = V30 at HR2 ⊢
   clear kk ff hi1 c1
   have HR := HR2
   clear HR2
   obtain ⟨_, _, r0, r1, r2, r3, rf, k0, k1, k2, k3, _⟩ := HR.out.two
   have rf0 := rf 0
   have rf1 := rf 1
   have rf2 := rf 2
   have rf3 := rf 3
   clear rf
   have HQ : Hid (_) := put4D r0 r1 r2 r3 (.int .i64 k) (.string (pc 1)) (.int .i64 (x2)) (.int .i64 (0))
   have HBE : Hid (_) := put4B HR.out.bel (.int .i64 k) (.string (pc 1)) (.int .i64 (x2)) (.int .i64 (0))
   go_wp2
   obtain ⟨q0, q1, q2, q3⟩ := HQ.out
   refine bodyPost_ret (v := .agg #[.int .i64 k, .string (pc 1), .int .i64 (x2), .int .i64 (0)]) (by simp [results, Tryz.f43, go_sem, q0, q1, q2, q3]) rfl ?_
   exact ⟨⟨k, pc 1, x2, 0⟩, rfl, HE.out 1, fun d' o q => the_deed2 HP.out HK.out (HPC.out 1).symm (fun _ => HN2.out) (fun h => absurd (by omega) h) (fun h => absurd h (by omega)) (fun _ => rfl) o q, HBE.out⟩
 · have e4 : ((P.length : Int) == 4) = false := by simp; omega
   have e3 : ((P.length : Int) == 3) = false := by simp; omega
   have e2 : ((P.length : Int) == 2) = true := by simp; omega
   have hi1 : (1 : Int) < (P.length : Int) := by omega
   have c1 : World.cell? _ ⟨g, 1, none⟩ = some (.string (pc 1)) := (HR.out.cells 1 (by omega)).trans (by rw [HPC.out 1])
   have kk := HR.out.two.k1
   have ff := HR.out.two.kf 1
   have HR2 : Hid (RSt w (_) g x P k (pc 1) 0 0) := HR.out.put 1 _ (HR.out.two.set1 (pc 1))
   clear HR
   go_upto_region 10 with fail
   generalize World.setCell _ _ _ = V30 at HR2 ⊢
   clear kk ff hi1 c1
   have HR := HR2
   clear HR2
   obtain ⟨_, _, r0, r1, r2, r3, rf, k0, k1, k2, k3, _⟩ := HR.out.two
   have rf0 := rf 0
   have rf1 := rf 1
   have rf2 := rf 2
   have rf3 := rf 3
   clear rf
   have HQ : Hid (_) := put4D r0 r1 r2 r3 (.int .i64 k) (.string (pc 1)) (.int .i64 (0)) (.int .i64 (0))
   have HBE : Hid (_) := put4B HR.out.bel (.int .i64 k) (.string (pc 1)) (.int .i64 (0)) (.int .i64 (0))
   go_wp2
   obtain ⟨q0, q1, q2, q3⟩ := HQ.out
   refine bodyPost_ret (v := .agg #[.int .i64 k, .string (pc 1), .int .i64 (0), .int .i64 (0)]) (by simp [results, Tryz.f43, go_sem, q0, q1, q2, q3]) rfl ?_
   exact ⟨⟨k, pc 1, 0, 0⟩, rfl, HE.out 1, fun d' o q => the_deed2 HP.out HK.out (HPC.out 1).symm (fun h => absurd h (by omega)) (fun _ => rfl) (fun h => absurd h (by omega)) (fun _ => rfl) o q, HBE.out⟩
 · have e4 : ((P.length : Int) == 4) = false := by simp; omega
   have e3 : ((P.length : Int) == 3) = false := by simp; omega
   have e2 : ((P.length : Int) == 2) = false := by simp; omega
   have HNO : Hid (∀ d', okD d' = true → showD d' = s.data.toList → d' = ⟨k, ⟨#[]⟩, 0, 0⟩) := fun d' o q => absurd q (no_deed HP.out (by
     have b := kindTo_bd (P.getD 0 []) 4
     rcases many_of (kindTo (P.getD 0 []) 4) with h | h | h | h
     · exact .inr (by omega)
     · exact .inr (by omega)
     · exact .inr (by omega)
     · exact .inr (by omega)) d' o)
   obtain ⟨_, _, r0, r1, r2, r3, rf, k0, k1, k2, k3, _⟩ := HR.out.two
   have rf0 := rf 0
   have rf1 := rf 1
   have rf2 := rf 2
   have rf3 := rf 3
   clear rf
   have HQ : Hid (_) := put4D r0 r1 r2 r3 (.int .i64 k) (.string (⟨#[]⟩)) (.int .i64 (0)) (.int .i64 (0))
   have HBE : Hid (_) := put4B HR.out.bel (.int .i64 k) (.string (⟨#[]⟩)) (.int .i64 (0)) (.int .i64 (0))
   go_wp2
   obtain ⟨q0, q1, q2, q3⟩ := HQ.out
   refine bodyPost_ret (v := .agg #[.int .i64 k, .string (⟨#[]⟩), .int .i64 (0), .int .i64 (0)]) (by simp [results, Tryz.f43, go_sem, q0, q1, q2, q3]) rfl ?_
   exact ⟨⟨k, ⟨#[]⟩, 0, 0⟩, rfl, Nat.zero_le _, HNO.out, HBE.out⟩
set_option maxHeartbeats 6400000 in
theorem implReadDeed (s : ByteArray) (w : World) (t : TabQ w) (hs : s.size ≤ 1073741824) : Calls Tryz.prog 30 #[.string s] w (ReadPostD s w) := by
 have HZ : Hid (_) := zd_new w 34
 have HB0 : Hid (Below w.heap.size w (w.alloc (.cells #[.int .i64 0, .string ⟨#[]⟩, .int .i64 0, .int .i64 0] 34))) := (Below.refl _ _).alloc (Nat.le_refl _) _
 have HT : Hid (TabQ w) := t
 clear t
 go_enter Tryz.func30, Tryz.ntmps30
 go_upto_region 1 with fail
 generalize w.alloc (.cells #[.int .i64 0, .string ⟨#[]⟩, .int .i64 0, .int .i64 0] 34) = W0 at HZ HB0 ⊢
 go_wp2_with fail
 refine (roughDeed s W0 (HT.out.below HB0.out) hs).mono ?_
 rintro e W1 ⟨⟨k, key, v, n⟩, rfl, hks, hu, hb1⟩
 dsimp only at hks hu ⊢
 have HU : Hid (∀ d', okD d' = true → showD d' = s.data.toList → d' = ⟨k, key, v, n⟩) := hu
 have HR : Hid (Below w.heap.size w (W1.alloc (.cells #[.int .i64 k, .string key, .int .i64 v, .int .i64 n] 34)) ∧ TwoD w.heap.size W1.heap.size (W1.alloc (.cells #[.int .i64 k, .string key, .int .i64 v, .int .i64 n] 34)) k key v n) := by
   obtain ⟨z0, z1, z2, z3, z4, z5⟩ := HZ.out
   have hb2 : Below W0.heap.size W0 (W1.alloc (.cells #[.int .i64 k, .string key, .int .i64 v, .int .i64 n] 34)) := hb1.alloc hb1.size _
   have hlt := hb1.size
   exact ⟨HB0.out.trans (hb2.mono HB0.out.size), by omega, by simp, (hb2.cell (p := ⟨w.heap.size, 0, none⟩) z0).trans z1, (hb2.cell (p := ⟨w.heap.size, 1, none⟩) z0).trans z2, (hb2.cell (p := ⟨w.heap.size, 2, none⟩) z0).trans z3, (hb2.cell (p := ⟨w.heap.size, 3, none⟩) z0).trans z4, fun j => (hb2.frozen (p := ⟨w.heap.size, j, none⟩) z0).trans (z5 j), by simp, by simp, by simp, by simp, fun j => by simp⟩
 clear hu hb1 HZ HB0
 go_upto_region 2 with fail
 generalize W1.alloc (.cells #[.int .i64 k, .string key, .int .i64 v, .int .i64 n] 34) = V at HR ⊢
 generalize W1.heap.size = x at HR ⊢
 have k0 := HR.out.2.k0
 have k1 := HR.out.2.k1
 have k2 := HR.out.2.k2
 have k3 := HR.out.2.k3
 have HOK : Hid (∀ W : World, Calls Tryz.prog 44 #[.agg #[.int .i64 k, .string key, .int .i64 v, .int .i64 n]] W fun e w' => e = .returned (.bool (okD ⟨k, key, v, n⟩)) ∧ Below W.heap.size W w') := fun W => implDeedOk k key v n W (by omega)
 have HSH : Hid (∀ W : World, TabP W → Calls Tryz.prog 45 #[.agg #[.int .i64 k, .string key, .int .i64 v, .int .i64 n]] W fun e w' => e = .returned (.string (textD ⟨k, key, v, n⟩)) ∧ Below W.heap.size W w') := fun W tp => implShowDeed ⟨k, key, v, n⟩ W tp (by show key.size ≤ _; omega)
 have HTX : Hid (okD ⟨k, key, v, n⟩ = true → textD ⟨k, key, v, n⟩ = B (showD ⟨k, key, v, n⟩)) := fun h => if_pos h
 clear hks hs
 generalize textD ⟨k, key, v, n⟩ = tx at HSH HTX
 go_wp2_with fail
 refine (HOK.out V).mono ?_
 rintro e V1 ⟨rfl, hb⟩
 have HR1 : Hid (Below w.heap.size w V1 ∧ TwoD w.heap.size x V1 k key v n) := ⟨HR.out.1.trans (hb.mono HR.out.1.size), HR.out.2.below hb⟩
 clear hb k0 k1 k2 k3 HR HOK
 cases hok : okD ⟨k, key, v, n⟩
 · have HN : Hid (∀ d', okD d' = true → showD d' ≠ s.data.toList) := fun d' o q => by
     rw [HU.out d' o q, hok] at o; exact Bool.noConfusion o
   have HR := HR1
   clear hok HR1 HU HTX HSH
   obtain ⟨_, _, r0, r1, r2, r3, rf, k0, k1, k2, k3, _⟩ := HR.out.2
   have rf0 := rf 0
   have rf1 := rf 1
   have rf2 := rf 2
   have rf3 := rf 3
   clear rf
   have HQ : Hid (_) := put4D r0 r1 r2 r3 (.int .i64 0) (.string ⟨#[]⟩) (.int .i64 0) (.int .i64 0)
   have HBE : Hid (_) := put4B HR.out.1 (.int .i64 0) (.string ⟨#[]⟩) (.int .i64 0) (.int .i64 0)
   go_wp2
   obtain ⟨q0, q1, q2, q3⟩ := HQ.out
   refine bodyPost_ret (v := .tuple #[.agg #[.int .i64 0, .string ⟨#[]⟩, .int .i64 0, .int .i64 0], .bool false]) (by simp [results, Tryz.f30, go_sem, q0, q1, q2, q3]) rfl ?_
   exact ⟨⟨0, ⟨#[]⟩, 0, 0⟩, false, rfl, .inr ⟨rfl, rfl, HN.out⟩, HBE.out⟩
 · have HOKT : Hid (okD ⟨k, key, v, n⟩ = true) := hok
   obtain rfl := HTX.out hok
   have k0 := HR1.out.2.k0
   have k1 := HR1.out.2.k1
   have k2 := HR1.out.2.k2
   have k3 := HR1.out.2.k3
   clear hok HTX
   go_wp2_with fail
   refine (HSH.out V1 (HT.out.below HR1.out.1).p).mono ?_
   rintro e V2 ⟨rfl, hb⟩
   have HR : Hid (Below w.heap.size w V2 ∧ TwoD w.heap.size x V2 k key v n) := ⟨HR1.out.1.trans (hb.mono HR1.out.1.size), HR1.out.2.below hb⟩
   clear hb k0 k1 k2 k3 HR1 HSH
   by_cases heq : showD ⟨k, key, v, n⟩ = s.data.toList
   · have hsb : ((B (showD ⟨k, key, v, n⟩)).toList != s.toList) = false := by
       rw [Kn.B_list, heq, ByteArray.toList_eq]; simp
     have hsb2 : ((B (showD ⟨k, key, v, n⟩)).toList == s.toList) = true := by
       rw [Kn.B_list, heq, ByteArray.toList_eq]; simp
     have HE : Hid (showD ⟨k, key, v, n⟩ = s.data.toList) := heq
     clear heq
     generalize B (showD ⟨k, key, v, n⟩) = sd at hsb hsb2
     obtain ⟨_, _, r0, r1, r2, r3, rf, k0, k1, k2, k3, _⟩ := HR.out.2
     have rf0 := rf 0
     have rf1 := rf 1
     have rf2 := rf 2
     have rf3 := rf 3
     clear rf
     have HQ : Hid (_) := put4D r0 r1 r2 r3 (.int .i64 k) (.string key) (.int .i64 v) (.int .i64 n)
     have HBE : Hid (_) := put4B HR.out.1 (.int .i64 k) (.string key) (.int .i64 v) (.int .i64 n)
     go_wp2
     obtain ⟨q0, q1, q2, q3⟩ := HQ.out
     refine bodyPost_ret (v := .tuple #[.agg #[.int .i64 k, .string key, .int .i64 v, .int .i64 n], .bool true]) (by simp [results, Tryz.f30, go_sem, q0, q1, q2, q3]) rfl ?_
     exact ⟨⟨k, key, v, n⟩, true, rfl, .inl ⟨rfl, HOKT.out, HE.out⟩, HBE.out⟩
   · have hsb : ((B (showD ⟨k, key, v, n⟩)).toList != s.toList) = true := by
       rw [bne_iff_ne, Kn.B_list, ByteArray.toList_eq]; exact heq
     have hsb2 : ((B (showD ⟨k, key, v, n⟩)).toList == s.toList) = false := by
       rw [beq_eq_false_iff_ne, Kn.B_list, ByteArray.toList_eq]; exact heq
     have HN : Hid (∀ d', okD d' = true → showD d' ≠ s.data.toList) := fun d' o q => by
       have := HU.out d' o q
       rw [this] at q; exact heq q
     clear heq
     generalize B (showD ⟨k, key, v, n⟩) = sd at hsb hsb2
     obtain ⟨_, _, r0, r1, r2, r3, rf, k0, k1, k2, k3, _⟩ := HR.out.2
     have rf0 := rf 0
     have rf1 := rf 1
     have rf2 := rf 2
     have rf3 := rf 3
     clear rf
     have HQ : Hid (_) := put4D r0 r1 r2 r3 (.int .i64 0) (.string ⟨#[]⟩) (.int .i64 0) (.int .i64 0)
     have HBE : Hid (_) := put4B HR.out.1 (.int .i64 0) (.string ⟨#[]⟩) (.int .i64 0) (.int .i64 0)
     go_wp2
     obtain ⟨q0, q1, q2, q3⟩ := HQ.out
     refine bodyPost_ret (v := .tuple #[.agg #[.int .i64 0, .string ⟨#[]⟩, .int .i64 0, .int .i64 0], .bool false]) (by simp [results, Tryz.f30, go_sem, q0, q1, q2, q3]) rfl ?_
     exact ⟨⟨0, ⟨#[]⟩, 0, 0⟩, false, rfl, .inr ⟨rfl, rfl, HN.out⟩, HBE.out⟩
end De
end Go.Proofs.YtadbafppodhfpaaGreatDoor
namespace Go.Proofs.YtadbafppodhfpaaGreatDoor
open Go.RowKit Go.ChangeShapes Go.WideShapes Go.ChangeAt
set_option maxRecDepth 100000
namespace De
theorem tab_of_reads {W : World} {name : String} {k : IntKind} {zs : List Int} {g : Nat} {t e : TypeId} {n : Nat} {d : DataW Unit}
   (hg : Tryz.prog.globalNamed name = some g) (hty : (Tryz.prog.globals[g]?).map (·.type) = some t) (ht : Tryz.prog.underlying t = some (.array n e)) (he : Tryz.prog.underlying e = some (.int k)) (hce : Tryz.prog.cellsOf e = 1) (hct : Tryz.prog.cellsOf t = n)
   (hd : d = Lib.tabData k zs) (h : Lib.VarReads Tryz.prog W name d) : Lib.TabIs Tryz.prog W name k zs := by
 subst hd
 obtain ⟨g', t', cs, fuel, p, hg', ht', hvar, hd⟩ := h
 obtain rfl := Option.some.inj (hg.symm.trans hg')
 obtain rfl := Option.some.inj (hty.symm.trans ht')
 unfold Lib.TabIs
 rw [hvar, ← Lib.cells_of_tab ht he hce hct hd]
theorem iface_of_reads {W : World} {name nm : String} {d : DataW Unit} {g : Nat} {t : TypeId} {ms : Array (String × TypeId)}
   (hg : Tryz.prog.globalNamed name = some g) (hty : (Tryz.prog.globals[g]?).map (·.type) = some t) (ht : Tryz.prog.underlying t = some (.interface ms))
   (h : Lib.VarReads Tryz.prog W name (.iface nm d)) : ∃ tp p, W.cell? ⟨g, 0, none⟩ = some (.iface tp p) := by
 obtain ⟨g', t', cs, fuel, p, hg', ht', hvar, hd⟩ := h
 obtain rfl := Option.some.inj (hg.symm.trans hg')
 obtain rfl := Option.some.inj (hty.symm.trans ht')
 obtain ⟨_, u, v, hcs, _⟩ := iface_of_trod ht hd
 refine ⟨u, v, ?_⟩
 have h0 := World.var?_cell hg hvar 0
 rw [h0, ← Array.getElem?_toList, hcs]; rfl
theorem cells_of_txt {H : Type} {enc : TypeId × Value → H} {P : Program} {w : World} {base : Nat} {sp : Nat → Bool} {held : Bool} {fuel : Nat} {t e : TypeId} {n : Nat} {cs : List Value} {zs : List (List UInt8)} {p : List MemPlace}
   (ht : P.underlying t = some (.array n e)) (he : P.underlying e = some .string) (hce : P.cellsOf e = 1) (hct : P.cellsOf t = n)
   (h : DataW.trod enc P w base sp held fuel t cs = some (.agg (zs.map fun z => .lit (.string z)), p)) : cs = zs.map fun z => Value.string ⟨z.toArray⟩ := by
 cases fuel with
 | zero => simp [DataW.trod] at h
 | succ fuel =>
   simp only [DataW.trod, ht, hce, hct, Nat.mul_one] at h
   split at h
   · rename_i hl
     obtain ⟨xs, hm, hx⟩ := Option.map_eq_some_iff.1 h
     have hxs : xs.map (·.1) = zs.map fun z => (DataW.lit (.string z) : DataW H) := by
       have := congrArg Prod.fst hx
       simpa using this
     have hxl : xs.length = n := by simpa using Lib.mapM_length hm
     have hzl : zs.length = n := by
       have := congrArg List.length hxs
       simp at this
       omega
     apply List.ext_getElem?
     intro i
     by_cases hi : i < n
     · obtain ⟨b, hb, hf⟩ := Lib.mapM_at hm i i (by simp [hi])
       obtain ⟨s, hc, rfl, _⟩ := DataW.trod_string he hf
       have h1 : cs[i]? = some (.string s) := by
         have := congrArg (·[0]?) hc
         simpa [List.getElem?_take, List.getElem?_drop] using this
       have h2 : (xs.map (·.1))[i]? = some (DataW.lit (.string s.data.toList) : DataW H) := by simp [hb]
       rw [hxs] at h2
       simp only [List.getElem?_map, Option.map_eq_some_iff, DataW.lit.injEq, Lit.string.injEq] at h2
       obtain ⟨z', hz', rfl⟩ := h2
       simp [h1, hz']
     · rw [List.getElem?_eq_none (by omega), List.getElem?_eq_none (by simp; omega)]
   · cases h
theorem tKind : (Tryz.prog.globals[0]?).map (·.type) = some 84 := by kernel_rfl
theorem kind_of_reads {W : World} (h : Lib.VarReads Tryz.prog W "loop.example/g00418/impl.kindNames" Rows.laid_loop_example_g00418_impl_kindNames) : W.var? Tryz.prog "loop.example/g00418/impl.kindNames" = some kindV := by
 obtain ⟨g', t', cs, fuel, p, hg', ht', hvar, hd⟩ := h
 obtain rfl := Option.some.inj (gKind.symm.trans hg')
 obtain rfl := Option.some.inj (tKind.symm.trans ht')
 have e := cells_of_txt (zs := [[], [112, 117, 116], [99, 117, 116], [97, 100, 100], [105, 102]]) Tryz.underlying84 Tryz.underlying9 (by kernel_rfl) (by kernel_rfl) hd
 rw [hvar]
 exact congrArg some (Array.toList_inj.1 e)
def kindP : List MemPlace := MemPlace.row ⟨0, 0, none⟩ kindV.size ++ [] ++ []
theorem kind_read {H : Type} (enc : TypeId × Value → H) {X : World} (h : X.var? Tryz.prog "loop.example/g00418/impl.kindNames" = some kindV) (sp : Nat → Bool) : DataW.TrodVars enc Tryz.prog X sp ["loop.example/g00418/impl.kindNames"] [Rows.laid_loop_example_g00418_impl_kindNames] kindP :=
 ⟨_, _, kindV, 2, [], [], gKind, tKind, h, by
   have c1 : Tryz.prog.cellsOf 9 = 1 := by kernel_rfl
   have c5 : Tryz.prog.cellsOf 84 = 5 := by kernel_rfl
   have key : ∀ m : Nat, (∀ s : ByteArray, s.size ≤ maxLen → DataW.trod enc Tryz.prog X 0 sp true m 9 [.string s] = some (.lit (.string s.data.toList), [])) →
       DataW.trod enc Tryz.prog X 0 sp true (m + 1) 84 kindV.toList = some (Rows.laid_loop_example_g00418_impl_kindNames, []) := fun m hs => by
     simp only [DataW.trod, Tryz.underlying84, c1, c5, kindV, Rows.laid_loop_example_g00418_impl_kindNames]
     rw [if_pos (by rfl)]
     rw [show List.range 5 = [0, 1, 2, 3, 4] from rfl]
     simp only [List.mapM_cons, List.mapM_nil, Nat.mul_one, List.drop_succ_cons, List.drop_zero, List.take_succ_cons, List.take_zero]
     rw [hs _ (by decide), hs _ (by decide), hs _ (by decide), hs _ (by decide), hs _ (by decide)]
     rfl
   exact key 1 (fun s h => by simp [DataW.trod, Tryz.underlying9, h]), rfl, rfl⟩
theorem tabP_of {W : World} {l : List (String × DataW Unit)} (h : laidMet Tryz.prog l W) (m1 : ("internal/strconv.uint64pow10", (Rows.laid_internal_strconv_uint64pow10 : DataW Unit)) ∈ l) (m2 : ("loop.example/g00418/impl.kindNames", (Rows.laid_loop_example_g00418_impl_kindNames : DataW Unit)) ∈ l) : TabP W where
 pow := tab_of_reads gPow (by kernel_rfl) Tryz.underlying127 Tryz.underlying109 (by kernel_rfl) (by kernel_rfl) (by kernel_rfl) (Lib.laidMet.reads h m1)
 knd := kind_of_reads (Lib.laidMet.reads h m2)
theorem tabQ_of {W : World} {l : List (String × DataW Unit)} (h : laidMet Tryz.prog l W) (hsh : W.ShapedOpen Tryz.prog) (m1 : ("internal/strconv.uint64pow10", (Rows.laid_internal_strconv_uint64pow10 : DataW Unit)) ∈ l) (m2 : ("loop.example/g00418/impl.kindNames", (Rows.laid_loop_example_g00418_impl_kindNames : DataW Unit)) ∈ l)
   (m3 : ("strconv.ErrSyntax", (Rows.laid_strconv_ErrSyntax : DataW Unit)) ∈ l) (m4 : ("strconv.ErrRange", (Rows.laid_strconv_ErrRange : DataW Unit)) ∈ l) : TabQ W where
 p := tabP_of h m1 m2
 syn := iface_of_reads (by kernel_rfl) (by kernel_rfl) Tryz.underlying93 (Lib.laidMet.reads h m3)
 rng := iface_of_reads (by kernel_rfl) (by kernel_rfl) Tryz.underlying93 (Lib.laidMet.reads h m4)
 maxl := Tryz.laysM146.s1_3 W hsh
theorem wrap {H : Type} {enc : TypeId × Value → H} {a : Assume} {C : Checked} {os : Os} {f : FuncId} {fn : Func} {s : ChangeSpec} {apart fresh handsOn again : Bool} {X : World → Prop}
   (hX : ∀ w w' : World, w.heap = w'.heap → X w → X w') (own : ownKnob C.prog.godebug = none) (started : os.Started) (noInit : C.prog.inits.idxOf? f = none) (hfn : C.prog.funcs[f]? = some fn)
   (witness : ∃ (w : World) (tape : Tape) (i : Input), w.os = os ∧ (w.forCall tape i).Shaped C.prog ∧ i.vars = [] ∧ Input.okWide C.prog (w.forCall tape i) .any w.heap.size f i ∧
     ((s.pre enc C.prog fn [] apart (w.forCall tape i).memory i.args ∧ X (w.forCall tape i).memory) ∧ sizedMet enc C.prog fn (OpenSpec.ofChange s) apart (w.forCall tape i).memory i.args) ∧ a.holds C.prog (lone (Frame.enter C.prog f i.args .normal) [] (w.forCall tape i)))
   (contract : ∀ (W : World) (base : Nat) (args : Array Value) (ds gs : List (DataW H)) (before : List MemPlace),
     (∀ (j : Nat) t v, fn.params[j]? = some t → args[j]? = some v → Value.okWide C.prog W .any base t v) → DataW.Whole enc C.prog fn.params.toList s.vars apart W args.toList ds gs before →
     X W → W.ShapedOpen C.prog → Calls C.prog f args W fun e W' => ∃ v, e = .returned v ∧ s.post enc C.prog fn apart fresh handsOn again W args v W') :
   ReturnsInHanded a C os f .any (fun w args => (s.pre enc C.prog fn [] apart w args ∧ X w) ∧ sizedMet enc C.prog fn (OpenSpec.ofChange s) apart w args) (s.post enc C.prog fn apart fresh handsOn again) := by
 refine returnsInHanded_of_calls own started noInit witness ?_
 intro w tape i _ hsh _ hok hpre _
 obtain ⟨_, _, _, fn', hfn', _, _, _, _, hval⟩ := hok
 obtain rfl : fn' = fn := Option.some.inj (hfn'.symm.trans hfn)
 obtain ⟨⟨⟨ds, gs, before, hw, _⟩, hx⟩, _⟩ := hpre
 refine (contract (w.forCall tape i) w.heap.size i.args ds gs before hval (DataW.Whole.of_heap (w' := w.forCall tape i) (by rfl) hw) (hX _ _ (by rfl) hx) hsh).mono fun e W' ⟨v, he, hp⟩ => ?_
 subst he
 exact ChangeSpec.post_blind hp
end De
end Go.Proofs.YtadbafppodhfpaaGreatDoor

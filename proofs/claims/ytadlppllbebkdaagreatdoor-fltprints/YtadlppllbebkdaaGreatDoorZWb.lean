/- The library by its contracts: the plain text of the kit's layings, those that are used. -/
import Derived.Shelf.Small.Wraps
import Derived.Shelf.Strconv.Atoi
import Derived.Shelf.Strconv.Itoa0
import Derived.Shelf.Strconv.Itoa1
import Derived.Shelf.LaysM
import Derived.Shelf.Strconv.Itoa2
import Derived.Shelf.Strconv.Itoa3
import Derived.Shelf.Strconv.AtoiErrFast
import Derived.Shelf.Strconv.ParseIntEmpty
import Derived.Shelf.Strconv.AtoiFail
import Derived.Shelf.Strconv.Clone
import Derived.Shelf.Strconv.SyntaxError
import Derived.Shelf.LaysC
import Derived.Shelf.Strconv.ToError
import Derived.Shelf.Strconv.Lower
import Derived.Shelf.Strconv.ParseUint10
import Derived.Shelf.Strconv.ParseUint10Empty
import Derived.Shelf.Strconv.ParseUint10Any
import Derived.Shelf.Strconv.ParseInt10
import Derived.Shelf.Strconv.AtoiLong
import Derived.Shelf.Strconv.AtoiInnerAll
import Derived.Shelf.Strconv.RangeError
import Derived.Shelf.Strconv.ToErrorRange
import Derived.Shelf.Strconv.AtoiAll
import Derived.Shelf.Strings.Search1
import Derived.Shelf.Strings.Search2
import Derived.Shelf.Strings.Cut
import Derived.Shelf.Strings.Shaped
import Derived.Shelf.Strings.Prefix
import Derived.Shelf.Bits.Mul64
import Derived.Test.YtadlppllbebkdaaGreatDoorProg
import Derived.Test.YtadlppllbebkdaaGreatDoorZWa
import Derived.BigQuiet
import Derived.WalkSmall
import Derived.Lib.OwnBridge
import Derived.Laws.IdiomStrings
import Derived.Laws.BytesArg
import Derived.Lib.AppendStr
import Derived.OwnWalk
namespace Go.Proofs.YtadlppllbebkdaaGreatDoor
open Go.Shelf
def Tryz.lays103_ren : Go.Shelf.Ren := ⟨fun | 103 => 58 | 210 => 78 | 206 => 97 | n => n, fun | 9 => 9 | 4 => 4 | 24 => 80 | 3 => 3 | n => n, fun | n => n⟩
theorem Tryz.lays103 : Go.Proofs.Lays.n103 Tryz.prog Tryz.lays103_ren := {
  mixed := by kernel_rfl
  f103 := Tryz.func58.trans (congrArg some (by kernel_rfl))
  f206 := Tryz.func97.trans (congrArg some (by kernel_rfl))
  f210 := Tryz.func78.trans (congrArg some (by kernel_rfl))
  t3 := Tryz.underlying3
  a3 := Tryz.isAgg3
  z3 := Tryz.sizeOf3
  v3 := Tryz.zeroValue3
  t4 := Tryz.underlying4
  a4 := Tryz.isAgg4
  z4 := Tryz.sizeOf4
  v4 := Tryz.zeroValue4
  t9 := Tryz.underlying9
  a9 := Tryz.isAgg9
  z9 := Tryz.sizeOf9
  v9 := Tryz.zeroValue9
  t24 := Tryz.underlying80
  a24 := Tryz.isAgg80
  z24 := Tryz.sizeOf80
  v24 := Tryz.zeroValue80 }
open Go.RowKit in
theorem Tryz.strings_CutPrefix (s p : ByteArray) (w : World) :
    Calls Tryz.prog 58 #[.string s, .string p] w fun e w' => e = .returned (.tuple #[.string ⟨(Lib.trimPrefix s.data.toList p.data.toList).toArray⟩, .bool (Lib.hasPrefix s.data.toList p.data.toList)]) ∧ w' = w := Any.strings_CutPrefix Tryz.lays103 s p w
def Tryz.lays172_ren : Go.Shelf.Ren := ⟨fun | 172 => 54 | 244 => 73 | 245 => 74 | 247 => 90 | 279 => 91 | 280 => 92 | 281 => 93 | 282 => 94 | 287 => 79 | 316 => 119 | 171 => 55 | 205 => 120 | 321 => 98 | 322 => 99 | 243 => 75 | 246 => 95 | 283 => 67 | 284 => 68 | 285 => 69 | 286 => 70 | 129 => 83 | 317 => 82 | 318 => 84 | 319 => 85 | 320 => 86 | 337 => 101 | 338 => 102 | n => n, fun | 9 => 9 | 3 => 3 | 75 => 76 | 76 => 77 | 4 => 4 | 5 => 5 | 167 => 113 | 37 => 96 | 0 => 0 | 85 => 114 | 2 => 2 | 168 => 116 | 53 => 36 | 175 => 82 | 46 => 53 | 210 => 143 | 127 => 165 | 145 => 168 | 143 => 166 | 21 => 21 | 171 => 93 | 173 => 97 | 212 => 105 | 51 => 70 | 20 => 20 | 213 => 106 | 232 => 131 | 233 => 148 | 80 => 206 | n => n, fun | 15 => 4 | 16 => 5 | 17 => 1 | 18 => 6 | 19 => 7 | n => n⟩
theorem Tryz.lays172 : Go.Proofs.Lays.n172 Tryz.prog Tryz.lays172_ren := {
  mixed := by kernel_rfl
  f129 := Tryz.func83.trans (congrArg some (by kernel_rfl))
  f171 := Tryz.func55.trans (congrArg some (by kernel_rfl))
  f172 := Tryz.func54.trans (congrArg some (by kernel_rfl))
  f205 := Tryz.func120.trans (congrArg some (by kernel_rfl))
  f243 := Tryz.func75.trans (congrArg some (by kernel_rfl))
  f244 := Tryz.func73.trans (congrArg some (by kernel_rfl))
  f245 := Tryz.func74.trans (congrArg some (by kernel_rfl))
  f246 := Tryz.func95.trans (congrArg some (by kernel_rfl))
  f247 := Tryz.func90.trans (congrArg some (by kernel_rfl))
  f279 := Tryz.func91.trans (congrArg some (by kernel_rfl))
  f280 := Tryz.func92.trans (congrArg some (by kernel_rfl))
  f281 := Tryz.func93.trans (congrArg some (by kernel_rfl))
  f282 := Tryz.func94.trans (congrArg some (by kernel_rfl))
  f283 := Tryz.func67.trans (congrArg some (by kernel_rfl))
  f284 := Tryz.func68.trans (congrArg some (by kernel_rfl))
  f285 := Tryz.func69.trans (congrArg some (by kernel_rfl))
  f286 := Tryz.func70.trans (congrArg some (by kernel_rfl))
  f287 := Tryz.func79.trans (congrArg some (by kernel_rfl))
  f316 := Tryz.func119.trans (congrArg some (by kernel_rfl))
  f317 := Tryz.func82.trans (congrArg some (by kernel_rfl))
  f318 := Tryz.func84.trans (congrArg some (by kernel_rfl))
  f319 := Tryz.func85.trans (congrArg some (by kernel_rfl))
  f320 := Tryz.func86.trans (congrArg some (by kernel_rfl))
  f321 := Tryz.func98.trans (congrArg some (by kernel_rfl))
  f322 := Tryz.func99.trans (congrArg some (by kernel_rfl))
  f337 := Tryz.func101.trans (congrArg some (by kernel_rfl))
  f338 := Tryz.func102.trans (congrArg some (by kernel_rfl))
  t0 := Tryz.underlying0
  a0 := Tryz.isAgg0
  z0 := Tryz.sizeOf0
  v0 := Tryz.zeroValue0
  t2 := Tryz.underlying2
  a2 := Tryz.isAgg2
  z2 := Tryz.sizeOf2
  v2 := Tryz.zeroValue2
  t3 := Tryz.underlying3
  a3 := Tryz.isAgg3
  z3 := Tryz.sizeOf3
  v3 := Tryz.zeroValue3
  t4 := Tryz.underlying4
  a4 := Tryz.isAgg4
  z4 := Tryz.sizeOf4
  v4 := Tryz.zeroValue4
  t5 := Tryz.underlying5
  a5 := Tryz.isAgg5
  z5 := Tryz.sizeOf5
  v5 := Tryz.zeroValue5
  t9 := Tryz.underlying9
  a9 := Tryz.isAgg9
  z9 := Tryz.sizeOf9
  v9 := Tryz.zeroValue9
  t20 := Tryz.underlying20
  a20 := Tryz.isAgg20
  z20 := Tryz.sizeOf20
  v20 := Tryz.zeroValue20
  t21 := Tryz.underlying21
  a21 := Tryz.isAgg21
  z21 := Tryz.sizeOf21
  v21 := Tryz.zeroValue21
  t37 := Tryz.underlying96
  a37 := Tryz.isAgg96
  z37 := Tryz.sizeOf96
  v37 := Tryz.zeroValue96
  t46 := Tryz.underlying53
  a46 := Tryz.isAgg53
  z46 := Tryz.sizeOf53
  v46 := Tryz.zeroValue53
  t51 := Tryz.underlying70
  a51 := Tryz.isAgg70
  z51 := Tryz.sizeOf70
  v51 := Tryz.zeroValue70
  t53 := Tryz.underlying36
  a53 := Tryz.isAgg36
  z53 := Tryz.sizeOf36
  v53 := Tryz.zeroValue36
  t75 := Tryz.underlying76
  a75 := Tryz.isAgg76
  z75 := Tryz.sizeOf76
  v75 := Tryz.zeroValue76
  t76 := Tryz.underlying77
  a76 := Tryz.isAgg77
  z76 := Tryz.sizeOf77
  v76 := Tryz.zeroValue77
  t85 := Tryz.underlying114
  a85 := Tryz.isAgg114
  z85 := Tryz.sizeOf114
  v85 := Tryz.zeroValue114
  t127 := Tryz.underlying165
  a127 := Tryz.isAgg165
  z127 := Tryz.sizeOf165
  v127 := Tryz.zeroValue165
  t143 := Tryz.underlying166
  a143 := Tryz.isAgg166
  z143 := Tryz.sizeOf166
  v143 := Tryz.zeroValue166
  t145 := Tryz.underlying168
  a145 := Tryz.isAgg168
  z145 := Tryz.sizeOf168
  v145 := Tryz.zeroValue168
  t167 := Tryz.underlying113
  a167 := Tryz.isAgg113
  z167 := Tryz.sizeOf113
  v167 := Tryz.zeroValue113
  t168 := Tryz.underlying116
  a168 := Tryz.isAgg116
  z168 := Tryz.sizeOf116
  v168 := Tryz.zeroValue116
  t171 := Tryz.underlying93
  a171 := Tryz.isAgg93
  z171 := Tryz.sizeOf93
  v171 := Tryz.zeroValue93
  t173 := Tryz.underlying97
  a173 := Tryz.isAgg97
  z173 := Tryz.sizeOf97
  v173 := Tryz.zeroValue97
  t175 := Tryz.underlying82
  a175 := Tryz.isAgg82
  z175 := Tryz.sizeOf82
  v175 := Tryz.zeroValue82
  t210 := Tryz.underlying143
  a210 := Tryz.isAgg143
  z210 := Tryz.sizeOf143
  v210 := Tryz.zeroValue143
  t212 := Tryz.underlying105
  a212 := Tryz.isAgg105
  z212 := Tryz.sizeOf105
  v212 := Tryz.zeroValue105
  t213 := Tryz.underlying106
  a213 := Tryz.isAgg106
  z213 := Tryz.sizeOf106
  t232 := Tryz.underlying131
  a232 := Tryz.isAgg131
  z232 := Tryz.sizeOf131
  v232 := Tryz.zeroValue131
  t233 := Tryz.underlying148
  a233 := Tryz.isAgg148
  z233 := Tryz.sizeOf148
  v233 := Tryz.zeroValue148
  g15 := by kernel_rfl
  g16 := by kernel_rfl
  g17 := by kernel_rfl
  g18 := by kernel_rfl
  g19 := by kernel_rfl }
open Go.RowKit in
theorem Tryz.strconv_Atoi (s : ByteArray) (n : Int) (hl : s.size ≤ 18) (h : Lib.atoi s.data.toList = some n) (w : World) :
    Calls Tryz.prog 54 #[.string s] w fun e w' => e = .returned (.tuple #[.int .i64 n, .nilIface]) ∧ ∃ t, w' = Lib.bytesWorld w 5 t := Any.strconv_Atoi Tryz.lays172 s n hl h w
def Tryz.lays129_ren : Go.Shelf.Ren := ⟨fun | 129 => 83 | n => n, fun | 53 => 36 | 3 => 3 | 4 => 4 | 46 => 53 | 5 => 5 | 9 => 9 | n => n, fun | n => n⟩
theorem Tryz.lays129 : Go.Proofs.Lays.n129 Tryz.prog Tryz.lays129_ren := {
  mixed := by kernel_rfl
  f129 := Tryz.func83.trans (congrArg some (by kernel_rfl))
  t3 := Tryz.underlying3
  a3 := Tryz.isAgg3
  z3 := Tryz.sizeOf3
  v3 := Tryz.zeroValue3
  t4 := Tryz.underlying4
  a4 := Tryz.isAgg4
  z4 := Tryz.sizeOf4
  v4 := Tryz.zeroValue4
  t5 := Tryz.underlying5
  a5 := Tryz.isAgg5
  z5 := Tryz.sizeOf5
  v5 := Tryz.zeroValue5
  t9 := Tryz.underlying9
  a9 := Tryz.isAgg9
  z9 := Tryz.sizeOf9
  v9 := Tryz.zeroValue9
  t46 := Tryz.underlying53
  a46 := Tryz.isAgg53
  z46 := Tryz.sizeOf53
  v46 := Tryz.zeroValue53
  t53 := Tryz.underlying36
  a53 := Tryz.isAgg36
  z53 := Tryz.sizeOf36
  v53 := Tryz.zeroValue36 }
theorem Tryz.bits_Len64 (x : Int) (w : World) (h0 : 0 ≤ x) (h1 : x ≤ 18446744073709551615) :
    Calls Tryz.prog 83 #[.int .u64 x] w fun e w' => e = .returned (.int .i64 (Lib.bitLen x.toNat)) ∧ w' = w := Any.bits_Len64 Tryz.lays129 x w h0 h1
def Tryz.lays317_ren : Go.Shelf.Ren := ⟨fun | 317 => 82 | n => n, fun | 3 => 3 | 46 => 53 | n => n, fun | n => n⟩
theorem Tryz.lays317 : Go.Proofs.Lays.n317 Tryz.prog Tryz.lays317_ren := {
  mixed := by kernel_rfl
  f317 := Tryz.func82.trans (congrArg some (by kernel_rfl))
  t3 := Tryz.underlying3
  a3 := Tryz.isAgg3
  z3 := Tryz.sizeOf3
  v3 := Tryz.zeroValue3
  t46 := Tryz.underlying53
  a46 := Tryz.isAgg53
  z46 := Tryz.sizeOf53
  v46 := Tryz.zeroValue53 }
open Go.Lib in
theorem Tryz.internal_strconv_log10Pow2 (x : Nat) (h : x ≤ 64) (w : World) :
    Calls Tryz.prog 82 #[.int .i64 x] w fun e w' => e = .returned (.int .i64 (Lib.l10 x)) ∧ w' = w := Any.internal_strconv_log10Pow2 Tryz.lays317 x h w
def Tryz.lays318_ren : Go.Shelf.Ren := ⟨fun | 318 => 84 | n => n, fun | 3 => 3 | 4 => 4 | n => n, fun | n => n⟩
theorem Tryz.lays318 : Go.Proofs.Lays.n318 Tryz.prog Tryz.lays318_ren := {
  mixed := by kernel_rfl
  f318 := Tryz.func84.trans (congrArg some (by kernel_rfl))
  t3 := Tryz.underlying3
  a3 := Tryz.isAgg3
  z3 := Tryz.sizeOf3
  v3 := Tryz.zeroValue3
  t4 := Tryz.underlying4
  a4 := Tryz.isAgg4
  z4 := Tryz.sizeOf4
  v4 := Tryz.zeroValue4 }
open Go.Lib in
theorem Tryz.internal_strconv_bool2_int (b : Bool) (w : World) :
    Calls Tryz.prog 84 #[.bool b] w fun e w' => e = .returned (.int .i64 (if b then 1 else 0)) ∧ w' = w := Any.internal_strconv_bool2_int Tryz.lays318 b w
def Tryz.laysM284_ren : Go.Shelf.Ren := ⟨fun | 284 => 68 | 129 => 83 | 317 => 82 | 318 => 84 | n => n, fun | 53 => 36 | 3 => 3 | 212 => 105 | 0 => 0 | 4 => 4 | 46 => 53 | 5 => 5 | 9 => 9 | n => n, fun | 17 => 1 | n => n⟩
theorem Tryz.laysM284 : Go.Proofs.LaysM.n284 Tryz.prog Tryz.laysM284_ren := {
  mixed := by kernel_rfl
  f129 := Tryz.func83.trans (congrArg some (by kernel_rfl))
  f284 := Tryz.func68.trans (congrArg some (by kernel_rfl))
  f317 := Tryz.func82.trans (congrArg some (by kernel_rfl))
  f318 := Tryz.func84.trans (congrArg some (by kernel_rfl))
  t0 := Tryz.underlying0
  a0 := Tryz.isAgg0
  z0 := Tryz.sizeOf0
  v0 := Tryz.zeroValue0
  t3 := Tryz.underlying3
  a3 := Tryz.isAgg3
  z3 := Tryz.sizeOf3
  v3 := Tryz.zeroValue3
  t4 := Tryz.underlying4
  a4 := Tryz.isAgg4
  z4 := Tryz.sizeOf4
  v4 := Tryz.zeroValue4
  t5 := Tryz.underlying5
  a5 := Tryz.isAgg5
  z5 := Tryz.sizeOf5
  v5 := Tryz.zeroValue5
  t9 := Tryz.underlying9
  a9 := Tryz.isAgg9
  z9 := Tryz.sizeOf9
  v9 := Tryz.zeroValue9
  t46 := Tryz.underlying53
  a46 := Tryz.isAgg53
  z46 := Tryz.sizeOf53
  v46 := Tryz.zeroValue53
  t53 := Tryz.underlying36
  a53 := Tryz.isAgg36
  z53 := Tryz.sizeOf36
  v53 := Tryz.zeroValue36
  t212 := Tryz.underlying105
  a212 := Tryz.isAgg105
  z212 := Tryz.sizeOf105
  v212 := Tryz.zeroValue105
  g17 := by kernel_rfl
  i0 := by kernel_rfl
  i3 := by kernel_rfl
  i4 := by kernel_rfl
  i5 := by kernel_rfl
  i9 := by kernel_rfl
  i46 := by kernel_rfl
  i53 := by kernel_rfl
  i212 := by kernel_rfl
  m17 := by kernel_rfl }
open Go.Lib in
theorem Tryz.internal_strconv_numDigits (u : Nat) (h1 : 1 ≤ u) (h2 : u < 18446744073709551616) (w : World) (htab : Lib.TabIs Tryz.prog w "internal/strconv.uint64pow10" .u64 Lib.pow10Tab) :
    Calls Tryz.prog 68 #[.int .u64 u] w fun e w' => e = .returned (.int .i64 (Lib.nDigits u)) ∧ w' = w := Any.internal_strconv_numDigits Tryz.laysM284 u h1 h2 w htab
def Tryz.lays285_ren : Go.Shelf.Ren := ⟨fun | 285 => 69 | n => n, fun | 37 => 96 | 53 => 36 | 3 => 3 | 4 => 4 | 51 => 70 | 9 => 9 | 5 => 5 | 0 => 0 | n => n, fun | n => n⟩
theorem Tryz.lays285 : Go.Proofs.Lays.n285 Tryz.prog Tryz.lays285_ren := {
  mixed := by kernel_rfl
  f285 := Tryz.func69.trans (congrArg some (by kernel_rfl))
  t0 := Tryz.underlying0
  a0 := Tryz.isAgg0
  z0 := Tryz.sizeOf0
  v0 := Tryz.zeroValue0
  t3 := Tryz.underlying3
  a3 := Tryz.isAgg3
  z3 := Tryz.sizeOf3
  v3 := Tryz.zeroValue3
  t4 := Tryz.underlying4
  a4 := Tryz.isAgg4
  z4 := Tryz.sizeOf4
  v4 := Tryz.zeroValue4
  t5 := Tryz.underlying5
  a5 := Tryz.isAgg5
  z5 := Tryz.sizeOf5
  v5 := Tryz.zeroValue5
  t9 := Tryz.underlying9
  a9 := Tryz.isAgg9
  z9 := Tryz.sizeOf9
  v9 := Tryz.zeroValue9
  t37 := Tryz.underlying96
  a37 := Tryz.isAgg96
  z37 := Tryz.sizeOf96
  v37 := Tryz.zeroValue96
  t51 := Tryz.underlying70
  a51 := Tryz.isAgg70
  z51 := Tryz.sizeOf70
  v51 := Tryz.zeroValue70
  t53 := Tryz.underlying36
  a53 := Tryz.isAgg36
  z53 := Tryz.sizeOf36
  v53 := Tryz.zeroValue36 }
open Go.RowKit Go.Sort Go.Lib in
theorem Tryz.internal_strconv_formatBase10 (blk off cap : Nat) (u : Nat) (d : Array UInt8) (w : World) (hH : Holds (fun (b : UInt8) => Value.int .u8 (b.toNat : Int)) w blk off d) (hu : u < 10 ^ d.size) (hu64 : u < 18446744073709551616) (hsz : d.size < 4611686018427387904) :
    Calls Tryz.prog 69 #[.slice (some ⟨blk, off, none⟩) d.size cap, .int .u64 u] w fun e w' =>
      e = .returned (.tuple #[]) ∧ ∃ (n v' : Nat) (dk : Array UInt8), w' = (putRow (fun (b : UInt8) => Value.int .u8 (b.toNat : Int)) w blk off dk).drewN n ∧ FmtInv d.size u 0 v' dk := Any.internal_strconv_formatBase10 Tryz.lays285 blk off cap u d w hH hu hu64 hsz
def Tryz.laysM171_ren : Go.Shelf.Ren := ⟨fun | 171 => 55 | 243 => 75 | 246 => 95 | 283 => 67 | 284 => 68 | 285 => 69 | 286 => 70 | 129 => 83 | 317 => 82 | 318 => 84 | 319 => 85 | 320 => 86 | 337 => 101 | 338 => 102 | n => n, fun | 3 => 3 | 9 => 9 | 2 => 2 | 4 => 4 | 171 => 93 | 0 => 0 | 53 => 36 | 37 => 96 | 5 => 5 | 173 => 97 | 212 => 105 | 51 => 70 | 20 => 20 | 213 => 106 | 46 => 53 | 232 => 131 | 233 => 148 | n => n, fun | 17 => 1 | 18 => 6 | 19 => 7 | n => n⟩
theorem Tryz.laysM171 : Go.Proofs.LaysM.n171 Tryz.prog Tryz.laysM171_ren := {
  mixed := by kernel_rfl
  f129 := Tryz.func83.trans (congrArg some (by kernel_rfl))
  f171 := Tryz.func55.trans (congrArg some (by kernel_rfl))
  f243 := Tryz.func75.trans (congrArg some (by kernel_rfl))
  f246 := Tryz.func95.trans (congrArg some (by kernel_rfl))
  f283 := Tryz.func67.trans (congrArg some (by kernel_rfl))
  f284 := Tryz.func68.trans (congrArg some (by kernel_rfl))
  f285 := Tryz.func69.trans (congrArg some (by kernel_rfl))
  f286 := Tryz.func70.trans (congrArg some (by kernel_rfl))
  f317 := Tryz.func82.trans (congrArg some (by kernel_rfl))
  f318 := Tryz.func84.trans (congrArg some (by kernel_rfl))
  f319 := Tryz.func85.trans (congrArg some (by kernel_rfl))
  f320 := Tryz.func86.trans (congrArg some (by kernel_rfl))
  f337 := Tryz.func101.trans (congrArg some (by kernel_rfl))
  f338 := Tryz.func102.trans (congrArg some (by kernel_rfl))
  t0 := Tryz.underlying0
  a0 := Tryz.isAgg0
  z0 := Tryz.sizeOf0
  v0 := Tryz.zeroValue0
  t2 := Tryz.underlying2
  a2 := Tryz.isAgg2
  z2 := Tryz.sizeOf2
  v2 := Tryz.zeroValue2
  t3 := Tryz.underlying3
  a3 := Tryz.isAgg3
  z3 := Tryz.sizeOf3
  v3 := Tryz.zeroValue3
  t4 := Tryz.underlying4
  a4 := Tryz.isAgg4
  z4 := Tryz.sizeOf4
  v4 := Tryz.zeroValue4
  t5 := Tryz.underlying5
  a5 := Tryz.isAgg5
  z5 := Tryz.sizeOf5
  v5 := Tryz.zeroValue5
  t9 := Tryz.underlying9
  a9 := Tryz.isAgg9
  z9 := Tryz.sizeOf9
  v9 := Tryz.zeroValue9
  t20 := Tryz.underlying20
  a20 := Tryz.isAgg20
  z20 := Tryz.sizeOf20
  v20 := Tryz.zeroValue20
  t37 := Tryz.underlying96
  a37 := Tryz.isAgg96
  z37 := Tryz.sizeOf96
  v37 := Tryz.zeroValue96
  t46 := Tryz.underlying53
  a46 := Tryz.isAgg53
  z46 := Tryz.sizeOf53
  v46 := Tryz.zeroValue53
  t51 := Tryz.underlying70
  a51 := Tryz.isAgg70
  z51 := Tryz.sizeOf70
  v51 := Tryz.zeroValue70
  t53 := Tryz.underlying36
  a53 := Tryz.isAgg36
  z53 := Tryz.sizeOf36
  v53 := Tryz.zeroValue36
  t171 := Tryz.underlying93
  a171 := Tryz.isAgg93
  z171 := Tryz.sizeOf93
  v171 := Tryz.zeroValue93
  t173 := Tryz.underlying97
  a173 := Tryz.isAgg97
  z173 := Tryz.sizeOf97
  v173 := Tryz.zeroValue97
  t212 := Tryz.underlying105
  a212 := Tryz.isAgg105
  z212 := Tryz.sizeOf105
  v212 := Tryz.zeroValue105
  t213 := Tryz.underlying106
  a213 := Tryz.isAgg106
  z213 := Tryz.sizeOf106
  t232 := Tryz.underlying131
  a232 := Tryz.isAgg131
  z232 := Tryz.sizeOf131
  v232 := Tryz.zeroValue131
  t233 := Tryz.underlying148
  a233 := Tryz.isAgg148
  z233 := Tryz.sizeOf148
  v233 := Tryz.zeroValue148
  g17 := by kernel_rfl
  g18 := by kernel_rfl
  g19 := by kernel_rfl
  i0 := by kernel_rfl
  i2 := by kernel_rfl
  i3 := by kernel_rfl
  i4 := by kernel_rfl
  i5 := by kernel_rfl
  i9 := by kernel_rfl
  i20 := by kernel_rfl
  i37 := by kernel_rfl
  i46 := by kernel_rfl
  i51 := by kernel_rfl
  i53 := by kernel_rfl
  i171 := by kernel_rfl
  i173 := by kernel_rfl
  i212 := by kernel_rfl
  i232 := by kernel_rfl
  i233 := by kernel_rfl
  m17 := by kernel_rfl
  m18 := by kernel_rfl
  m19 := by kernel_rfl }
open Go.RowKit Go.Sort Go.Lib in
theorem Tryz.strconv_Itoa (n : Int) (h0 : -9223372036854775808 ≤ n) (h1 : n ≤ 9223372036854775807) (w : World) (htab : Lib.TabIs Tryz.prog w "internal/strconv.uint64pow10" .u64 Lib.pow10Tab) :
    Calls Tryz.prog 55 #[.int .i64 n] w fun e w' => e = .returned (.string ⟨(Lib.itoa n).toArray⟩) ∧ ∃ k os, w' = grow (w.drewN k) os := Any.strconv_Itoa Tryz.laysM171 n h0 h1 w htab
def Tryz.lays171_ren : Go.Shelf.Ren := ⟨fun | 171 => 55 | 243 => 75 | 246 => 95 | 283 => 67 | 284 => 68 | 285 => 69 | 286 => 70 | 129 => 83 | 317 => 82 | 318 => 84 | 319 => 85 | 320 => 86 | 337 => 101 | 338 => 102 | n => n, fun | 3 => 3 | 9 => 9 | 2 => 2 | 4 => 4 | 171 => 93 | 0 => 0 | 53 => 36 | 37 => 96 | 5 => 5 | 173 => 97 | 212 => 105 | 51 => 70 | 20 => 20 | 213 => 106 | 46 => 53 | 232 => 131 | 233 => 148 | n => n, fun | 17 => 1 | 18 => 6 | 19 => 7 | n => n⟩
theorem Tryz.lays171 : Go.Proofs.Lays.n171 Tryz.prog Tryz.lays171_ren := {
  mixed := by kernel_rfl
  f129 := Tryz.func83.trans (congrArg some (by kernel_rfl))
  f171 := Tryz.func55.trans (congrArg some (by kernel_rfl))
  f243 := Tryz.func75.trans (congrArg some (by kernel_rfl))
  f246 := Tryz.func95.trans (congrArg some (by kernel_rfl))
  f283 := Tryz.func67.trans (congrArg some (by kernel_rfl))
  f284 := Tryz.func68.trans (congrArg some (by kernel_rfl))
  f285 := Tryz.func69.trans (congrArg some (by kernel_rfl))
  f286 := Tryz.func70.trans (congrArg some (by kernel_rfl))
  f317 := Tryz.func82.trans (congrArg some (by kernel_rfl))
  f318 := Tryz.func84.trans (congrArg some (by kernel_rfl))
  f319 := Tryz.func85.trans (congrArg some (by kernel_rfl))
  f320 := Tryz.func86.trans (congrArg some (by kernel_rfl))
  f337 := Tryz.func101.trans (congrArg some (by kernel_rfl))
  f338 := Tryz.func102.trans (congrArg some (by kernel_rfl))
  t0 := Tryz.underlying0
  a0 := Tryz.isAgg0
  z0 := Tryz.sizeOf0
  v0 := Tryz.zeroValue0
  t2 := Tryz.underlying2
  a2 := Tryz.isAgg2
  z2 := Tryz.sizeOf2
  v2 := Tryz.zeroValue2
  t3 := Tryz.underlying3
  a3 := Tryz.isAgg3
  z3 := Tryz.sizeOf3
  v3 := Tryz.zeroValue3
  t4 := Tryz.underlying4
  a4 := Tryz.isAgg4
  z4 := Tryz.sizeOf4
  v4 := Tryz.zeroValue4
  t5 := Tryz.underlying5
  a5 := Tryz.isAgg5
  z5 := Tryz.sizeOf5
  v5 := Tryz.zeroValue5
  t9 := Tryz.underlying9
  a9 := Tryz.isAgg9
  z9 := Tryz.sizeOf9
  v9 := Tryz.zeroValue9
  t20 := Tryz.underlying20
  a20 := Tryz.isAgg20
  z20 := Tryz.sizeOf20
  v20 := Tryz.zeroValue20
  t37 := Tryz.underlying96
  a37 := Tryz.isAgg96
  z37 := Tryz.sizeOf96
  v37 := Tryz.zeroValue96
  t46 := Tryz.underlying53
  a46 := Tryz.isAgg53
  z46 := Tryz.sizeOf53
  v46 := Tryz.zeroValue53
  t51 := Tryz.underlying70
  a51 := Tryz.isAgg70
  z51 := Tryz.sizeOf70
  v51 := Tryz.zeroValue70
  t53 := Tryz.underlying36
  a53 := Tryz.isAgg36
  z53 := Tryz.sizeOf36
  v53 := Tryz.zeroValue36
  t171 := Tryz.underlying93
  a171 := Tryz.isAgg93
  z171 := Tryz.sizeOf93
  v171 := Tryz.zeroValue93
  t173 := Tryz.underlying97
  a173 := Tryz.isAgg97
  z173 := Tryz.sizeOf97
  v173 := Tryz.zeroValue97
  t212 := Tryz.underlying105
  a212 := Tryz.isAgg105
  z212 := Tryz.sizeOf105
  v212 := Tryz.zeroValue105
  t213 := Tryz.underlying106
  a213 := Tryz.isAgg106
  z213 := Tryz.sizeOf106
  t232 := Tryz.underlying131
  a232 := Tryz.isAgg131
  z232 := Tryz.sizeOf131
  v232 := Tryz.zeroValue131
  t233 := Tryz.underlying148
  a233 := Tryz.isAgg148
  z233 := Tryz.sizeOf148
  v233 := Tryz.zeroValue148
  g17 := by kernel_rfl
  g18 := by kernel_rfl
  g19 := by kernel_rfl }
open Go.RowKit Go.Sort Go.Lib in
theorem Tryz.strconv_Itoa_small (i : Nat) (hi : i < 100) (w : World) :
    Calls Tryz.prog 55 #[.int .i64 i] w fun e w' => e = .returned (.string ⟨(Lib.decDigits i).toArray⟩) ∧ w' = w := Any.strconv_Itoa_small Tryz.lays171 i hi w
def Tryz.lays219_ren : Go.Shelf.Ren := ⟨fun | 219 => 87 | 217 => 103 | 225 => 104 | 224 => 105 | 267 => 106 | 266 => 123 | 314 => 124 | n => n, fun | 9 => 9 | 3 => 3 | 4 => 4 | 5 => 5 | 46 => 53 | 146 => 149 | 51 => 70 | n => n, fun | 1 => 2 | n => n⟩
theorem Tryz.lays219 : Go.Proofs.Lays.n219 Tryz.prog Tryz.lays219_ren := {
  mixed := by kernel_rfl
  f217 := Tryz.func103.trans (congrArg some (by kernel_rfl))
  f219 := Tryz.func87.trans (congrArg some (by kernel_rfl))
  f224 := Tryz.func105.trans (congrArg some (by kernel_rfl))
  f225 := Tryz.func104.trans (congrArg some (by kernel_rfl))
  f266 := Tryz.func123.trans (congrArg some (by kernel_rfl))
  f267 := Tryz.func106.trans (congrArg some (by kernel_rfl))
  f314 := Tryz.func124.trans (congrArg some (by kernel_rfl))
  t3 := Tryz.underlying3
  a3 := Tryz.isAgg3
  z3 := Tryz.sizeOf3
  v3 := Tryz.zeroValue3
  t4 := Tryz.underlying4
  a4 := Tryz.isAgg4
  z4 := Tryz.sizeOf4
  v4 := Tryz.zeroValue4
  t5 := Tryz.underlying5
  a5 := Tryz.isAgg5
  z5 := Tryz.sizeOf5
  v5 := Tryz.zeroValue5
  t9 := Tryz.underlying9
  a9 := Tryz.isAgg9
  z9 := Tryz.sizeOf9
  v9 := Tryz.zeroValue9
  t46 := Tryz.underlying53
  a46 := Tryz.isAgg53
  z46 := Tryz.sizeOf53
  v46 := Tryz.zeroValue53
  t51 := Tryz.underlying70
  a51 := Tryz.isAgg70
  z51 := Tryz.sizeOf70
  v51 := Tryz.zeroValue70
  t146 := Tryz.underlying149
  a146 := Tryz.isAgg149
  z146 := Tryz.sizeOf149
  v146 := Tryz.zeroValue149
  g1 := by kernel_rfl }
open Go.RowKit Go.Lib in
theorem Tryz.stringslite_Index_one (s : ByteArray) (c : UInt8) (w : World) :
    Calls Tryz.prog 87 #[.string s, .string ⟨#[c]⟩] w fun e w' => e = .returned (.int .i64 (Lib.indexByte s.data.toList c)) ∧ w' = w := Any.stringslite_Index_one Tryz.lays219 s c w
def Tryz.lays264_ren : Go.Shelf.Ren := ⟨fun | 264 => 156 | n => n, fun | 53 => 36 | 46 => 53 | n => n, fun | n => n⟩
theorem Tryz.lays264 : Go.Proofs.Lays.n264 Tryz.prog Tryz.lays264_ren := {
  mixed := by kernel_rfl
  f264 := Tryz.func156.trans (congrArg some (by kernel_rfl))
  t46 := Tryz.underlying53
  a46 := Tryz.isAgg53
  z46 := Tryz.sizeOf53
  v46 := Tryz.zeroValue53
  t53 := Tryz.underlying36
  a53 := Tryz.isAgg36
  z53 := Tryz.sizeOf36
  v53 := Tryz.zeroValue36 }
open Go.RowKit Go.Lib in
theorem Tryz.bits_Mul64 (x y : Nat) (hx : x < 18446744073709551616) (hy : y < 18446744073709551616) (w : World) :
    Calls Tryz.prog 156 #[.int .u64 x, .int .u64 y] w fun e w' => e = .returned (.tuple #[.int .u64 ((x * y / 18446744073709551616 : Nat) : Int), .int .u64 ((x * y % 18446744073709551616 : Nat) : Int)]) ∧ w' = w := Any.bits_Mul64 Tryz.lays264 x y hx hy w
end Go.Proofs.YtadlppllbebkdaaGreatDoor

/- Two texts, read by the library: down to flt.guess. -/
namespace Go.Proofs.YtadlppllbebkdaaGreatDoor
open Go.RowKit

/-- The library's variables that the road reads, at the places that matter here. -/
structure Tabs (w : World) : Prop where
  opt : w.cell? ⟨3, 0, none⟩ = some (.bool true)
  mant : w.cell? ⟨9, 0, none⟩ = some (.int .u64 52)
  pow : ∃ b o, w.cell? ⟨14, 0, none⟩ = some (.slice (some ⟨b, o, none⟩) 23 23) ∧ w.cell? ⟨b, o + 1, none⟩ = some (.float .f64 4621819117588971520) ∧ w.cell? ⟨b, o + 2, none⟩ = some (.float .f64 4636737291354636288)
  ten : Lib.TabIs Tryz.prog w "internal/strconv.uint64pow10" .u64 Lib.pow10Tab
  hi : w.cell? ⟨10, 728, none⟩ = some (.int .u64 10240000000000000000)
  lo : w.cell? ⟨10, 729, none⟩ = some (.int .u64 0)

theorem Tabs.kept {w w' : World} (h : Tabs w) (hb : Below w.heap.size w w') : Tabs w' := by
  have k : ∀ {a : Addr} {v : Value}, w.cell? a = some v → w'.cell? a = some v := fun hc => (hb.cell (World.block_lt_of_cell? w _ hc)).trans hc
  obtain ⟨b, o, p1, p2, p3⟩ := h.pow
  have h1 : 1 < w.heap.size := by
    have h3 : 3 < w.heap.size := World.block_lt_of_cell? w _ h.opt
    omega
  exact ⟨k h.opt, k h.mant, ⟨b, o, k p1, k p2, k p3⟩, (var?_below hb (show Tryz.prog.globalNamed "internal/strconv.uint64pow10" = some 1 by kernel_rfl) h1 h.ten), k h.hi, k h.lo⟩

theorem bool2u_false (w : World) : Calls Tryz.prog 152 #[.bool false] w fun e w' => e = .returned (.int .u64 0) ∧ w' = w := by
  go_enter Tryz.func152, Tryz.ntmps152
  go_wp2
  go_ret
  exact ⟨rfl, rfl⟩
theorem bool2u_true (w : World) : Calls Tryz.prog 152 #[.bool true] w fun e w' => e = .returned (.int .u64 1) ∧ w' = w := by
  go_enter Tryz.func152, Tryz.ntmps152
  go_wp2
  go_ret
  exact ⟨rfl, rfl⟩

set_option maxRecDepth 100000 in
theorem exact_a (w : World) (T : Tabs w) : Calls Tryz.prog 154 #[.int .u64 15, .int .i64 (-1), .bool false] w fun e w' => e = .returned (.tuple #[.float .f64 4609434218613702656, .bool true]) ∧ w' = w := by
  have hm := T.mant
  obtain ⟨b, o, h1, h2, h3⟩ := T.pow
  have hc : ∀ W : World, (convert 36 37 (.int .u64 15)).run Tryz.prog W = .ok (.float .f64 4624633867356078080) W := fun W => by
    rw [run_convert_int_float W 36 37 .u64 .f64 15 (by kernel_rfl) (by kernel_rfl)]
    rfl
  have hd := run_fdiv_some 4624633867356078080 4621819117588971520 4609434218613702656 (by decide +kernel)
  go_enter Tryz.func154, Tryz.ntmps154
  go_wp2
  go_ret2
  exact ⟨rfl, rfl⟩

set_option maxRecDepth 100000 in
theorem exact_b (w : World) (T : Tabs w) : Calls Tryz.prog 154 #[.int .u64 150, .int .i64 (-2), .bool false] w fun e w' => e = .returned (.tuple #[.float .f64 4609434218613702656, .bool true]) ∧ w' = w := by
  have hm := T.mant
  obtain ⟨b, o, h1, h2, h3⟩ := T.pow
  have hc : ∀ W : World, (convert 36 37 (.int .u64 150)).run Tryz.prog W = .ok (.float .f64 4639481672377565184) W := fun W => by
    rw [run_convert_int_float W 36 37 .u64 .f64 150 (by kernel_rfl) (by kernel_rfl)]
    rfl
  have hd := run_fdiv_some 4639481672377565184 4636737291354636288 4609434218613702656 (by decide +kernel)
  go_enter Tryz.func154, Tryz.ntmps154
  go_wp2
  go_ret2
  exact ⟨rfl, rfl⟩

set_option maxRecDepth 100000 in
set_option maxHeartbeats 1000000 in
theorem atof_a (w : World) (T : Tabs w) : Calls Tryz.prog 122 #[.string ⟨#[49, 46, 53, 101, 48]⟩] w fun e w' => e = .returned (.tuple #[.float .f64 4609434218613702656, .int .i64 5, .nilIface]) ∧ w' = w := by
  have ho := T.opt
  have hs := special_a
  have hr := read_a
  have hb := bool2u_false
  have he := exact_a w T
  clear T
  go_enter Tryz.func122, Tryz.ntmps122
  go_wp2_with (first | (go_at_call 143; refine (hs _).mono ?_; rintro e w' ⟨rfl, rfl⟩) | (go_at_call 144; refine (hr _).mono ?_; rintro e w' ⟨rfl, rfl⟩) | (go_at_call 152; refine (hb _).mono ?_; rintro e w' ⟨rfl, rfl⟩) | (go_at_call 154; refine he.mono ?_; rintro e w' ⟨rfl, rfl⟩))
  go_ret3
  exact ⟨rfl, rfl⟩

set_option maxRecDepth 100000 in
theorem pfloat_a (w : World) (T : Tabs w) : Calls Tryz.prog 60 #[.string ⟨#[49, 46, 53, 101, 48]⟩, .int .i64 64] w fun e w' => e = .returned (.tuple #[.float .f64 4609434218613702656, .nilIface]) ∧ w' = w := by
  have h1 : Calls Tryz.prog 100 #[.string ⟨#[49, 46, 53, 101, 48]⟩, .int .i64 64] w fun e w' => e = .returned (.tuple #[.float .f64 4609434218613702656, .int .i64 5, .nilIface]) ∧ w' = w := by
    have ha := atof_a w T
    go_enter Tryz.func100, Tryz.ntmps100
    go_wp2_with (go_at_call 122; refine ha.mono ?_; rintro e w' ⟨rfl, rfl⟩)
    go_ret3
    exact ⟨rfl, rfl⟩
  have h2 : Calls Tryz.prog 80 #[.string ⟨#[49, 46, 53, 101, 48]⟩, .int .i64 64] w fun e w' => e = .returned (.tuple #[.float .f64 4609434218613702656, .nilIface]) ∧ w' = w := by
    go_enter Tryz.func80, Tryz.ntmps80
    go_wp2_with (go_at_call 100; refine h1.mono ?_; rintro e w' ⟨rfl, rfl⟩)
    go_ret2
    exact ⟨rfl, rfl⟩
  clear h1
  go_enter Tryz.func60, Tryz.ntmps60
  go_wp2_with (go_at_call 80; refine h2.mono ?_; rintro e w' ⟨rfl, rfl⟩)
  go_ret2
  exact ⟨rfl, rfl⟩

set_option maxRecDepth 100000 in
theorem cutp_a (w : World) : Calls Tryz.prog 58 #[.string ⟨#[49, 46, 53, 101, 48]⟩, .string ⟨#[110, 97, 110, 58]⟩] w fun e w' => e = .returned (.tuple #[.string ⟨#[49, 46, 53, 101, 48]⟩, .bool false]) ∧ w' = w := by
  have hx : (((⟨#[49, 46, 53, 101, 48]⟩ : ByteArray).extract 0 4).toList == [110, 97, 110, 58]) = false := by kernel_rfl
  have h1 : ∀ w, Calls Tryz.prog 97 #[.string ⟨#[49, 46, 53, 101, 48]⟩, .string ⟨#[110, 97, 110, 58]⟩] w fun e w' => e = .returned (.bool false) ∧ w' = w := fun w => by
    go_enter Tryz.func97, Tryz.ntmps97
    go_wp2
    go_ret
    exact ⟨rfl, rfl⟩
  have h2 : ∀ w, Calls Tryz.prog 78 #[.string ⟨#[49, 46, 53, 101, 48]⟩, .string ⟨#[110, 97, 110, 58]⟩] w fun e w' => e = .returned (.tuple #[.string ⟨#[49, 46, 53, 101, 48]⟩, .bool false]) ∧ w' = w := fun w => by
    go_enter Tryz.func78, Tryz.ntmps78
    go_wp2_with (go_at_call 97; refine (h1 _).mono ?_; rintro e w' ⟨rfl, rfl⟩)
    go_ret2
    exact ⟨rfl, rfl⟩
  go_enter Tryz.func58, Tryz.ntmps58
  go_wp2_with (go_at_call 78; refine (h2 _).mono ?_; rintro e w' ⟨rfl, rfl⟩)
  go_ret2
  exact ⟨rfl, rfl⟩

set_option maxRecDepth 100000 in
theorem guess_a (w : World) (T : Tabs w) : Calls Tryz.prog 35 #[.string ⟨#[49, 46, 53, 101, 48]⟩] w fun e w' => e = .returned (.tuple #[.int .i64 4609434218613702656, .bool true]) ∧ Below w.heap.size w w' := by
  have h1 := cutp_a
  have h2 := pfloat_a w T
  have h3 := bitsOf_any 4609434218613702656
  have hw : wrap64 ((4609434218613702656 : Nat) : Int) = 4609434218613702656 := by kernel_rfl
  rw [hw] at h3
  go_enter Tryz.func35, Tryz.ntmps35
  go_wp2_with (first | (go_at_call 58; refine (h1 _).mono ?_; rintro e w' ⟨rfl, rfl⟩) | (go_at_call 60; refine h2.mono ?_; rintro e w' ⟨rfl, rfl⟩) | (go_at_call 40; refine (h3 _).mono ?_; rintro e w' ⟨rfl, rfl⟩))
  go_quiet (with_reducible exact Calls.quiet_of_same (h3 _))
  go_wp2
  go_ret2
  exact ⟨rfl, below_drewN (Below.refl _ _) _⟩

set_option maxRecDepth 100000 in
set_option maxHeartbeats 1000000 in
theorem atof_b (w : World) (T : Tabs w) : Calls Tryz.prog 122 #[.string ⟨#[49, 46, 53, 48, 101, 48]⟩] w fun e w' => e = .returned (.tuple #[.float .f64 4609434218613702656, .int .i64 6, .nilIface]) ∧ w' = w := by
  have ho := T.opt
  have hs := special_b
  have hr := read_b
  have hb := bool2u_false
  have he := exact_b w T
  clear T
  go_enter Tryz.func122, Tryz.ntmps122
  go_wp2_with (first | (go_at_call 143; refine (hs _).mono ?_; rintro e w' ⟨rfl, rfl⟩) | (go_at_call 144; refine (hr _).mono ?_; rintro e w' ⟨rfl, rfl⟩) | (go_at_call 152; refine (hb _).mono ?_; rintro e w' ⟨rfl, rfl⟩) | (go_at_call 154; refine he.mono ?_; rintro e w' ⟨rfl, rfl⟩))
  go_ret3
  exact ⟨rfl, rfl⟩

set_option maxRecDepth 100000 in
theorem pfloat_b (w : World) (T : Tabs w) : Calls Tryz.prog 60 #[.string ⟨#[49, 46, 53, 48, 101, 48]⟩, .int .i64 64] w fun e w' => e = .returned (.tuple #[.float .f64 4609434218613702656, .nilIface]) ∧ w' = w := by
  have h1 : Calls Tryz.prog 100 #[.string ⟨#[49, 46, 53, 48, 101, 48]⟩, .int .i64 64] w fun e w' => e = .returned (.tuple #[.float .f64 4609434218613702656, .int .i64 6, .nilIface]) ∧ w' = w := by
    have ha := atof_b w T
    go_enter Tryz.func100, Tryz.ntmps100
    go_wp2_with (go_at_call 122; refine ha.mono ?_; rintro e w' ⟨rfl, rfl⟩)
    go_ret3
    exact ⟨rfl, rfl⟩
  have h2 : Calls Tryz.prog 80 #[.string ⟨#[49, 46, 53, 48, 101, 48]⟩, .int .i64 64] w fun e w' => e = .returned (.tuple #[.float .f64 4609434218613702656, .nilIface]) ∧ w' = w := by
    go_enter Tryz.func80, Tryz.ntmps80
    go_wp2_with (go_at_call 100; refine h1.mono ?_; rintro e w' ⟨rfl, rfl⟩)
    go_ret2
    exact ⟨rfl, rfl⟩
  clear h1
  go_enter Tryz.func60, Tryz.ntmps60
  go_wp2_with (go_at_call 80; refine h2.mono ?_; rintro e w' ⟨rfl, rfl⟩)
  go_ret2
  exact ⟨rfl, rfl⟩

set_option maxRecDepth 100000 in
theorem cutp_b (w : World) : Calls Tryz.prog 58 #[.string ⟨#[49, 46, 53, 48, 101, 48]⟩, .string ⟨#[110, 97, 110, 58]⟩] w fun e w' => e = .returned (.tuple #[.string ⟨#[49, 46, 53, 48, 101, 48]⟩, .bool false]) ∧ w' = w := by
  have hx : (((⟨#[49, 46, 53, 48, 101, 48]⟩ : ByteArray).extract 0 4).toList == [110, 97, 110, 58]) = false := by kernel_rfl
  have h1 : ∀ w, Calls Tryz.prog 97 #[.string ⟨#[49, 46, 53, 48, 101, 48]⟩, .string ⟨#[110, 97, 110, 58]⟩] w fun e w' => e = .returned (.bool false) ∧ w' = w := fun w => by
    go_enter Tryz.func97, Tryz.ntmps97
    go_wp2
    go_ret
    exact ⟨rfl, rfl⟩
  have h2 : ∀ w, Calls Tryz.prog 78 #[.string ⟨#[49, 46, 53, 48, 101, 48]⟩, .string ⟨#[110, 97, 110, 58]⟩] w fun e w' => e = .returned (.tuple #[.string ⟨#[49, 46, 53, 48, 101, 48]⟩, .bool false]) ∧ w' = w := fun w => by
    go_enter Tryz.func78, Tryz.ntmps78
    go_wp2_with (go_at_call 97; refine (h1 _).mono ?_; rintro e w' ⟨rfl, rfl⟩)
    go_ret2
    exact ⟨rfl, rfl⟩
  go_enter Tryz.func58, Tryz.ntmps58
  go_wp2_with (go_at_call 78; refine (h2 _).mono ?_; rintro e w' ⟨rfl, rfl⟩)
  go_ret2
  exact ⟨rfl, rfl⟩

set_option maxRecDepth 100000 in
theorem guess_b (w : World) (T : Tabs w) : Calls Tryz.prog 35 #[.string ⟨#[49, 46, 53, 48, 101, 48]⟩] w fun e w' => e = .returned (.tuple #[.int .i64 4609434218613702656, .bool true]) ∧ Below w.heap.size w w' := by
  have h1 := cutp_b
  have h2 := pfloat_b w T
  have h3 := bitsOf_any 4609434218613702656
  have hw : wrap64 ((4609434218613702656 : Nat) : Int) = 4609434218613702656 := by kernel_rfl
  rw [hw] at h3
  go_enter Tryz.func35, Tryz.ntmps35
  go_wp2_with (first | (go_at_call 58; refine (h1 _).mono ?_; rintro e w' ⟨rfl, rfl⟩) | (go_at_call 60; refine h2.mono ?_; rintro e w' ⟨rfl, rfl⟩) | (go_at_call 40; refine (h3 _).mono ?_; rintro e w' ⟨rfl, rfl⟩))
  go_quiet (with_reducible exact Calls.quiet_of_same (h3 _))
  go_wp2
  go_ret2
  exact ⟨rfl, below_drewN (Below.refl _ _) _⟩
end Go.Proofs.YtadlppllbebkdaaGreatDoor

/- 1.5 printed: the shortest digits. -/
namespace Go.Proofs.YtadlppllbebkdaaGreatDoor
open Go.RowKit

set_option maxRecDepth 100000 in
theorem mul_min (w : World) : Calls Tryz.prog 156 #[.int .u64 13835058055282162688, .int .u64 10240000000000000000] w fun e w' => e = .returned (.tuple #[.int .u64 7679999999999999431, .int .u64 10437377940734869504]) ∧ w' = w := by
  go_enter Tryz.func156, Tryz.ntmps156
  go_wp2
  go_ret2
  exact ⟨rfl, rfl⟩

set_option maxRecDepth 100000 in
theorem uscale_min (p : Nat) (w : World) (h0 : w.cell? ⟨p, 0, none⟩ = some (.int .u64 10240000000000000000)) (h2 : w.cell? ⟨p, 2, none⟩ = some (.int .i64 7)) :
    Calls Tryz.prog 130 #[.int .u64 13835058055282162688, .pointer (some ⟨p, 0, none⟩)] w fun e w' => e = .returned (.int .u64 59999999999999995) ∧ w' = w := by
  have hm := mul_min
  have hb : bits .and .i64 7 63 = 7 := by kernel_rfl
  go_enter Tryz.func130, Tryz.ntmps130
  go_wp2_with (go_at_call 156; refine (hm _).mono ?_; rintro e w' ⟨rfl, rfl⟩)
  go_ret
  exact ⟨rfl, rfl⟩

set_option maxRecDepth 100000 in
theorem mul_max (w : World) : Calls Tryz.prog 156 #[.int .u64 13835058055282164736, .int .u64 10240000000000000000] w fun e w' => e = .returned (.tuple #[.int .u64 7680000000000000568, .int .u64 8009366132974682112]) ∧ w' = w := by
  go_enter Tryz.func156, Tryz.ntmps156
  go_wp2
  go_ret2
  exact ⟨rfl, rfl⟩

set_option maxRecDepth 100000 in
theorem uscale_max (p : Nat) (w : World) (h0 : w.cell? ⟨p, 0, none⟩ = some (.int .u64 10240000000000000000)) (h2 : w.cell? ⟨p, 2, none⟩ = some (.int .i64 7)) :
    Calls Tryz.prog 130 #[.int .u64 13835058055282164736, .pointer (some ⟨p, 0, none⟩)] w fun e w' => e = .returned (.int .u64 60000000000000005) ∧ w' = w := by
  have hm := mul_max
  have hb : bits .and .i64 7 63 = 7 := by kernel_rfl
  go_enter Tryz.func130, Tryz.ntmps130
  go_wp2_with (go_at_call 156; refine (hm _).mono ?_; rintro e w' ⟨rfl, rfl⟩)
  go_ret
  exact ⟨rfl, rfl⟩

theorem log10_a (w : World) : Calls Tryz.prog 82 #[.int .i64 (-52)] w fun e w' => e = .returned (.int .i64 (-16)) ∧ w' = w := by
  go_enter Tryz.func82, Tryz.ntmps82
  go_wp2
  go_ret
  exact ⟨rfl, rfl⟩
theorem log2_a (w : World) : Calls Tryz.prog 129 #[.int .i64 16] w fun e w' => e = .returned (.int .i64 53) ∧ w' = w := by
  go_enter Tryz.func129, Tryz.ntmps129
  go_wp2
  go_ret
  exact ⟨rfl, rfl⟩

set_option maxRecDepth 100000 in
theorem prescale_a (p : Nat) (w : World) (T : Tabs w) (c0 : w.cell? ⟨p, 0, none⟩ = some (.int .u64 0)) (c1 : w.cell? ⟨p, 1, none⟩ = some (.int .u64 0)) (c2 : w.cell? ⟨p, 2, none⟩ = some (.int .i64 0))
    (f0 : w.frozen? ⟨p, 0, none⟩ = false) (f1 : w.frozen? ⟨p, 1, none⟩ = false) (f2 : w.frozen? ⟨p, 2, none⟩ = false) :
    Calls Tryz.prog 128 #[.pointer (some ⟨p, 0, none⟩), .int .i64 (-63), .int .i64 16, .int .i64 53] w fun e w' => e = .returned (.tuple #[]) ∧ w' = ((w.setCell ⟨p, 0, none⟩ (.int .u64 10240000000000000000)).setCell ⟨p, 1, none⟩ (.int .u64 0)).setCell ⟨p, 2, none⟩ (.int .i64 7) := by
  have h1 := T.hi
  have h2 := T.lo
  go_enter Tryz.func128, Tryz.ntmps128
  go_wp2
  refine bodyPost_end (results_none rfl _ _ _) rfl ?_
  exact ⟨rfl, rfl⟩

theorem nudge_any (u : Nat) (w : World) (h : u < 9223372036854775808) : Calls Tryz.prog 131 #[.int .u64 u, .int .i64 0] w fun e w' => e = .returned (.int .u64 u) ∧ w' = w := by
  go_enter Tryz.func131, Tryz.ntmps131
  go_wp2
  go_ret
  exact ⟨rfl, rfl⟩
theorem ceil_a (w : World) : Calls Tryz.prog 132 #[.int .u64 59999999999999995] w fun e w' => e = .returned (.int .u64 14999999999999999) ∧ w' = w := by
  go_enter Tryz.func132, Tryz.ntmps132
  go_wp2
  go_ret
  exact ⟨rfl, rfl⟩
theorem floor_a (w : World) : Calls Tryz.prog 133 #[.int .u64 60000000000000005] w fun e w' => e = .returned (.int .u64 15000000000000001) ∧ w' = w := by
  go_enter Tryz.func133, Tryz.ntmps133
  go_wp2
  go_ret
  exact ⟨rfl, rfl⟩

/-- The scaler, laid and filled. -/
theorem scaler_a (w : World) (T : Tabs w) : ∃ W : World, Below w.heap.size w W ∧ W.cell? ⟨w.heap.size, 0, none⟩ = some (.int .u64 10240000000000000000) ∧ W.cell? ⟨w.heap.size, 2, none⟩ = some (.int .i64 7) ∧
    Calls Tryz.prog 128 #[.pointer (some ⟨w.heap.size, 0, none⟩), .int .i64 (-63), .int .i64 16, .int .i64 53] (w.alloc (.cells #[.int .u64 0, .int .u64 0, .int .i64 0] 154)) fun e w' => e = .returned (.tuple #[]) ∧ w' = W := by
  have hb : Below w.heap.size w (w.alloc (.cells #[.int .u64 0, .int .u64 0, .int .i64 0] 154)) := (Below.refl _ w).alloc (Nat.le_refl _) _
  refine ⟨_, ?_, ?_, ?_, prescale_a w.heap.size _ (T.kept hb) (by simp [go_sem]) (by simp [go_sem]) (by simp [go_sem]) (by simp [go_sem]) (by simp [go_sem]) (by simp [go_sem])⟩
  · exact ((hb.setCell (Nat.le_refl _) _).setCell (Nat.le_refl _) _).setCell (Nat.le_refl _) _
  · simp [go_sem]
  · simp [go_sem]

set_option maxRecDepth 100000 in
set_option maxHeartbeats 1000000 in
theorem short_a (w : World) (T : Tabs w) : Calls Tryz.prog 118 #[.int .u64 13835058055282163712, .int .i64 (-63)] w fun e w' => e = .returned (.tuple #[.int .u64 1500000000000000, .int .i64 (-15)]) ∧ Below w.heap.size w w' := by
  have hA := log10_a
  have hB := log2_a
  have hb : bits .and .i64 6755399441055744 1 = 0 := by kernel_rfl
  go_enter Tryz.func118, Tryz.ntmps118
  go_wp2_with (first | (go_at_call 82; refine (hA _).mono ?_; rintro e w' ⟨rfl, rfl⟩) | (go_at_call 129; refine (hB _).mono ?_; rintro e w' ⟨rfl, rfl⟩))
  obtain ⟨W, hb, c0, c2, hP⟩ := scaler_a w' T
  refine hP.mono ?_
  rintro e W ⟨rfl, rfl⟩
  clear hP
  have u1 := uscale_min _ W c0 c2
  have u2 := uscale_max _ W c0 c2
  have n1 := nudge_any 59999999999999995 W (by omega)
  have n2 := nudge_any 60000000000000005 W (by omega)
  have d1 := ceil_a W
  have d2 := floor_a W
  go_wp2_with fail
  refine u1.mono ?_
  rintro e w1 ⟨rfl, rfl⟩
  go_wp2_with (first | (go_at_call 131; refine n1.mono ?_; rintro e w1 ⟨rfl, rfl⟩) | (go_at_call 132; refine d1.mono ?_; rintro e w1 ⟨rfl, rfl⟩))
  refine u2.mono ?_
  rintro e w1 ⟨rfl, rfl⟩
  go_wp2_with (first | (go_at_call 131; refine n2.mono ?_; rintro e w1 ⟨rfl, rfl⟩) | (go_at_call 133; refine d2.mono ?_; rintro e w1 ⟨rfl, rfl⟩))
  go_ret2
  exact ⟨rfl, hb⟩
end Go.Proofs.YtadlppllbebkdaaGreatDoor

/- Digits laid into a row, and how many are left without zeros behind. -/
namespace Go.Proofs.YtadlppllbebkdaaGreatDoor
open Go.RowKit Go.Lib Go.Sort

/-- The digit k, as a letter. -/
def dgt (d k : Nat) : Nat := 48 + d / 10 ^ k % 10
/-- Of n digits those that are left without zeros behind. -/
def nzd : Nat → Nat → Nat
  | _, 0 => 0
  | d, n + 1 => if d % 10 = 0 then nzd (d / 10) n else n + 1

theorem nzd_step (d nd k : Nat) (hk : k + 1 ≤ nd) (h : d / 10 ^ (nd - (k + 1)) % 10 = 0) : nzd (d / 10 ^ (nd - (k + 1))) (k + 1) = nzd (d / 10 ^ (nd - k)) k := by
  rw [nzd, if_pos h, Nat.div_div_eq_div_mul, ← Nat.pow_succ]
  have : (nd - (k + 1)).succ = nd - k := by omega
  rw [this]
theorem nzd_stop (d nd k : Nat) (h : ¬ d / 10 ^ (nd - (k + 1)) % 10 = 0) : nzd (d / 10 ^ (nd - (k + 1))) (k + 1) = k + 1 := by
  rw [nzd, if_neg h]

abbrev enc8 : UInt8 → Value := fun b => Value.int .u8 (b.toNat : Int)

theorem dg_toNat (d k : Nat) : (dg d k).toNat = dgt d k := by
  unfold dg dgt
  have : d / 10 ^ k % 10 < 10 := Nat.mod_lt _ (by decide)
  simp [UInt8.toNat_ofNat]
  omega

/-- What formatBase10 leaves. -/
theorem digits_laid (b d nd n v : Nat) (w : World) (dk : Array UInt8) (h0 : ∀ t, t < nd → w.cell? ⟨b, t, none⟩ = some (.int .u8 0) ∧ w.frozen? ⟨b, t, none⟩ = false) (hi : FmtInv nd d 0 v dk) :
    (∀ t, t < nd → ((putRow enc8 w b 0 dk).drewN n).cell? ⟨b, t, none⟩ = some (.int .u8 (dgt d (nd - 1 - t) : Nat))) ∧ Below b w ((putRow enc8 w b 0 dk).drewN n) := by
  have hH : Holds enc8 w b 0 (Array.replicate nd (0 : UInt8)) := fun j hj => by
    have hj' : j < nd := by simpa using hj
    obtain ⟨a1, a2⟩ := h0 j hj'
    rw [Nat.zero_add]
    refine ⟨?_, a2⟩
    rw [a1, getElem!_pos _ j hj]
    simp
  have hs : dk.size = (Array.replicate nd (0 : UInt8)).size := by rw [hi.size]; simp
  have hp := holds_putRow enc8 w b 0 _ dk hH hs
  constructor
  · intro t ht
    have h1 := (hp t (by rw [hi.size]; exact ht)).1
    rw [Nat.zero_add] at h1
    rw [World.cell?_drewN, h1, hi.done t (Nat.zero_le _) ht]
    show some (Value.int .u8 ((dg d (nd - 1 - t)).toNat : Int)) = _
    rw [dg_toNat]
  · have := below_putRow (enc := enc8) (q := 0) (g := b) (d := dk) (Below.refl b w) (Nat.le_refl _)
    exact below_drewN this n

set_option maxRecDepth 100000 in
theorem setDigits_any (b d nd : Nat) (p : Int) (w : World) (h1 : 1 ≤ nd) (h2 : nd ≤ 20) (hd : d < 10 ^ nd) (hd64 : d < 18446744073709551616) (hp1 : -400 ≤ p) (hp2 : p ≤ 400)
    (h0 : ∀ t, t < 32 → w.cell? ⟨b, t, none⟩ = some (.int .u8 0) ∧ w.frozen? ⟨b, t, none⟩ = false) :
    Calls Tryz.prog 113 #[.slice (some ⟨b, 0, none⟩) 32 32, .int .u64 d, .int .i64 p, .int .i64 nd] w fun e w' =>
      e = .returned (.tuple #[.int .i64 (nd + p), .int .i64 (nzd d nd)]) ∧ (∀ t, t < nd → w'.cell? ⟨b, t, none⟩ = some (.int .u8 (dgt d (nd - 1 - t) : Nat))) ∧ Below b w w' := by
  have hF := Tryz.internal_strconv_formatBase10 b 0 32 d (Array.replicate nd (0 : UInt8)) w (fun j hj => by
    have hj' : j < nd := by simpa using hj
    obtain ⟨a1, a2⟩ := h0 j (by omega)
    rw [Nat.zero_add]
    refine ⟨?_, a2⟩
    rw [a1, getElem!_pos _ j hj]
    simp) (by simpa using hd) hd64 (by simp; omega)
  have hsz : (Array.replicate nd (0 : UInt8)).size = nd := by simp
  rw [hsz] at hF
  have h0' := fun t ht => h0 t (show t < 32 by have : t < nd := ht; omega)
  clear h0 hsz
  have hle : (nd : Int) ≤ 32 := by omega
  obtain ⟨R, hR⟩ : ∃ R, Hid (nzd d nd = R) := ⟨_, rfl⟩
  rw [hR.out]
  go_enter Tryz.func113, Tryz.ntmps113
  go_wp2_with fail
  refine hF.mono ?_
  rintro e w1 ⟨rfl, n, v, dk, hw1, hi⟩
  obtain ⟨hc, hb⟩ := digits_laid b d nd n v w dk h0' hi
  rw [← hw1] at hc hb
  clear hw1 hi hF h0'
  have hc' := Lib.hid hc
  have hb' := Lib.hid hb
  clear hc hb
  go_wp2_with fail
  go_loopw [3] (fun x wr => ∃ k : Nat, k ≤ nd ∧ x = .int .i64 k ∧ wr = w1 ∧ Hid (R = nzd (d / 10 ^ (nd - k)) k)) (fun x _ => (RowKit.intOf x).toNat)
  case atStart => exact ⟨nd, by omega, rfl, rfl, Lib.hid (by rw [← hR.out]; simp)⟩
  case round =>
    obtain ⟨k, hk, rfl, rfl, HI⟩ := hrel
    rename World => W1
    cases k with
    | zero =>
      have hz : R = 0 := by rw [HI.out]; rfl
      go_wp2
      go_ret2
      exact ⟨by rw [hz]; rfl, hc'.out, hb'.out⟩
    | succ j =>
      have hcj := hc'.out j (by omega)
      have e1 : nd - 1 - j = nd - (j + 1) := by omega
      rw [e1] at hcj
      have hjn : (j : Int) < 32 := by omega
      by_cases hz : d / 10 ^ (nd - (j + 1)) % 10 = 0
      · have hst := nzd_step d nd j hk hz
        have hcell : W1.cell? ⟨b, j, none⟩ = some (.int .u8 48) := by rw [hcj]; unfold dgt; rw [hz]; rfl
        clear hcj hz
        go_wp2
        go_roundw
        case rel => exact ⟨j, by omega, by go_num, trivial, Lib.hid (by rw [HI.out, hst])⟩
        case measure => simp [RowKit.intOf]
      · have hst := nzd_stop d nd j hz
        have hr : R = j + 1 := by rw [HI.out, hst]
        obtain ⟨c, hcc⟩ : ∃ c : Nat, c = dgt d (nd - (j + 1)) := ⟨_, rfl⟩
        have hne : ((c : Int) == 48) = false := by
          have : c ≠ 48 := by rw [hcc]; unfold dgt; omega
          simp; omega
        have hcell : W1.cell? ⟨b, j, none⟩ = some (.int .u8 (c : Int)) := by rw [hcj, hcc]
        clear hcj hz hcc hst
        go_wp2
        go_ret2
        exact ⟨by rw [hr]; rfl, hc'.out, hb'.out⟩
end Go.Proofs.YtadlppllbebkdaaGreatDoor

/- Letters appended onto a row of 24 that has room. -/
namespace Go.Proofs.YtadlppllbebkdaaGreatDoor
open Go.RowKit

theorem info5 : (Tryz.prog.info? 5).map (fun i => (i.zero, i.size, i.bytes)) = some (some (.int .u8 0), 1, 1) := by kernel_rfl

theorem info_size : ∃ i0, Tryz.prog.info? 5 = some i0 ∧ i0.zero = some (.int .u8 0) ∧ i0.size = 1 ∧ i0.bytes = 1 := by
  cases hi : Tryz.prog.info? 5 with
  | none => have h := info5; rw [hi] at h; cases h
  | some i =>
    have h := info5
    rw [hi] at h
    simp only [Option.map_some, Option.some.injEq, Prod.mk.injEq] at h
    exact ⟨i, rfl, h⟩

/-- A row of 24 letters of the call's own, the first n of them these. -/
def Buf (B : Nat) (w : World) (q n : Nat) (l : List UInt8) : Prop := l.length = n ∧ w.ownsRow B 5 1 (.slice (some ⟨q, 0, none⟩) n 24) n (Lib.byteCells l)

theorem byteCells_one (l : List UInt8) : ∀ u ∈ Lib.byteCells l, u.oneCell' = true := by
  intro u hu
  simp only [Lib.byteCells, List.mem_map] at hu
  obtain ⟨b, -, rfl⟩ := hu
  rfl

theorem byteCells_append (l m : List UInt8) : Lib.byteCells (l ++ m) = Lib.byteCells l ++ Lib.byteCells m := by simp [Lib.byteCells]

theorem wp_app (w : World) {ops : Array Oper} {rest : List Oper} {o : Oper} {a : Act} {Q : Exit → Act → World → Prop}
    (hg : o.guard = none) (s x : Operand) (hop : o.op = Op.call { callee := Callee.builtin Builtin.append, args := #[s, x], argTypes := #[96, 96] })
    (B q n : Nat) (l m : List UInt8) (k c : Nat) (hs : a.eval s = .slice (some ⟨q, 0, none⟩) n 24) (hB : Buf B w q n l) (ad : Addr) (hk : m.length = k) (hx : a.eval x = .slice (some ad) k c)
    (hm : ∀ j u, (Lib.byteCells m)[j]? = some u → w.cell? (ad.add j) = some u) (hfit : n + k ≤ 24)
    (hK : ∀ w' N, Hid (N = n + k) → Buf B w' q N (l ++ m) → w.grownBy w' (some q) → wpList Tryz.prog ops Q rest (a.put o.dst (.slice (some ⟨q, 0, none⟩) N 24)) w') :
    wpList Tryz.prog ops Q (o :: rest) a w := by
  obtain ⟨i0, hi, hz0, hz1, hz2⟩ := info_size
  obtain ⟨hl, hown⟩ := hB
  have hml : (Lib.byteCells m).length = k * 1 := by simp [Lib.byteCells, hk]
  refine wpList_append_fits w hg s x 96 hop B 5 i0 1 Tryz.underlying96 hi hz1 q n 24 (Lib.byteCells l) hs hown ad k c (Lib.byteCells m) hx hml hm (byteCells_one m) hfit ?_
  intro w' ho hgw
  refine hK w' (n + k) (Lib.hid rfl) ⟨by rw [List.length_append, hl, hk], ?_⟩ hgw
  rw [byteCells_append]; exact ho

/-- One new letter, two, three. -/
theorem one_new (w : World) (x : UInt8) : ∀ j u, (Lib.byteCells [x])[j]? = some u → (w.alloc (.cells #[.int .u8 (x.toNat : Int)] 5)).cell? ((⟨w.heap.size, 0, none⟩ : Addr).add j) = some u := by
  intro j u hu
  match j with
  | 0 => simp [Lib.byteCells] at hu; subst hu; simp [go_sem]
  | j + 1 => simp [Lib.byteCells] at hu
theorem two_new (w : World) (x y : UInt8) : ∀ j u, (Lib.byteCells [x, y])[j]? = some u → (w.alloc (.cells #[.int .u8 (x.toNat : Int), .int .u8 (y.toNat : Int)] 5)).cell? ((⟨w.heap.size, 0, none⟩ : Addr).add j) = some u := by
  intro j u hu
  match j with
  | 0 => simp [Lib.byteCells] at hu; subst hu; simp [go_sem]
  | 1 => simp [Lib.byteCells] at hu; subst hu; simp [go_sem]
  | j + 2 => simp [Lib.byteCells] at hu
theorem three_new (w : World) (x y z : UInt8) : ∀ j u, (Lib.byteCells [x, y, z])[j]? = some u → (w.alloc (.cells #[.int .u8 (x.toNat : Int), .int .u8 (y.toNat : Int), .int .u8 (z.toNat : Int)] 5)).cell? ((⟨w.heap.size, 0, none⟩ : Addr).add j) = some u := by
  intro j u hu
  match j with
  | 0 => simp [Lib.byteCells] at hu; subst hu; simp [go_sem]
  | 1 => simp [Lib.byteCells] at hu; subst hu; simp [go_sem]
  | 2 => simp [Lib.byteCells] at hu; subst hu; simp [go_sem]
  | j + 3 => simp [Lib.byteCells] at hu

theorem Buf.alloc {B : Nat} {w : World} {q n : Nat} {l : List UInt8} (h : Buf B w q n l) (o : Obj) : Buf B (w.alloc o) q n l := ⟨h.1, h.2.alloc o⟩
theorem Buf.base {B : Nat} {w : World} {q n : Nat} {l : List UInt8} (h : Buf B w q n l) : B ≤ q ∧ q < w.heap.size := h.2.lt q rfl
theorem Buf.made (w : World) : Buf w.heap.size (w.alloc (.cells (Array.replicate 24 (.int .u8 0)) 5)) w.heap.size 0 [] :=
  ⟨rfl, by simp [Lib.byteCells], .inr ⟨w.heap.size, 24, Array.replicate 24 (.int .u8 0), rfl, Nat.le_refl _, heap_alloc_new w _, by omega, by unfold maxLen; omega, by simp, by simp [Lib.byteCells]⟩⟩
end Go.Proofs.YtadlppllbebkdaaGreatDoor

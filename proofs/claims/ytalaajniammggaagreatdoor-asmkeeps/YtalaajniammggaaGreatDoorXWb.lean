/- The library by its contracts: the plain text of the kit's layings, those that are used. -/
import Derived.Shelf.Small.Wraps
import Derived.Shelf.Strconv.Atoi
import Derived.Shelf.Strconv.Itoa0
import Derived.Shelf.Strconv.Itoa1
import Derived.Shelf.LaysM
import Derived.Shelf.Strconv.Itoa2
import Derived.Shelf.Strconv.Itoa3
import Derived.Shelf.Strconv.AtoiErrFast
import Derived.Shelf.Strconv.ParseIntEmpty
import Derived.Shelf.Strconv.AtoiFail
import Derived.Shelf.Strconv.Clone
import Derived.Shelf.Strconv.SyntaxError
import Derived.Shelf.LaysC
import Derived.Shelf.Strconv.ToError
import Derived.Shelf.Strconv.Lower
import Derived.Shelf.Strconv.ParseUint10
import Derived.Shelf.Strconv.ParseUint10Empty
import Derived.Shelf.Strconv.ParseUint10Any
import Derived.Shelf.Strconv.ParseInt10
import Derived.Shelf.Strconv.AtoiLong
import Derived.Shelf.Strconv.AtoiInnerAll
import Derived.Shelf.Strconv.RangeError
import Derived.Shelf.Strconv.ToErrorRange
import Derived.Shelf.Strconv.AtoiAll
import Derived.Shelf.Strings.Search1
import Derived.Shelf.Strings.Search2
import Derived.Shelf.Strings.Search3
import Derived.Shelf.Strings.Cut
import Derived.Shelf.Strings.Count
import Derived.Shelf.Strings.Shaped
import Derived.Shelf.Strings.Prefix
import Derived.Shelf.Bits.Mul64
import Derived.Test.YtalaajniammggaaGreatDoorProg
import Derived.Test.YtalaajniammggaaGreatDoorXWa
import Derived.BigQuiet
import Derived.WalkSmall
import Derived.Lib.OwnBridge
import Derived.Laws.IdiomStrings
import Derived.Laws.BytesArg
import Derived.Lib.AppendStr
import Derived.OwnWalk
namespace Go.Proofs.YtalaajniammggaaGreatDoor
open Go.Shelf
def Tryz.lays103_ren : Go.Shelf.Ren := ⟨fun | 103 => 89 | 210 => 105 | 206 => 122 | n => n,fun | 9 => 9 | 4 => 4 | 24 => 123 | 3 => 3 | n => n,fun | n => n⟩
theorem Tryz.lays103 : Go.Proofs.Lays.n103 Tryz.prog Tryz.lays103_ren := {
 mixed := by kernel_rfl
 f103 := Tryz.func89.trans (congrArg some (by kernel_rfl))
 f206 := Tryz.func122.trans (congrArg some (by kernel_rfl))
 f210 := Tryz.func105.trans (congrArg some (by kernel_rfl))
 t3 := Tryz.underlying3
 a3 := Tryz.isAgg3
 z3 := Tryz.sizeOf3
 v3 := Tryz.zeroValue3
 t4 := Tryz.underlying4
 a4 := Tryz.isAgg4
 z4 := Tryz.sizeOf4
 v4 := Tryz.zeroValue4
 t9 := Tryz.underlying9
 a9 := Tryz.isAgg9
 z9 := Tryz.sizeOf9
 v9 := Tryz.zeroValue9
 t24 := Tryz.underlying123
 a24 := Tryz.isAgg123
 z24 := Tryz.sizeOf123
 v24 := Tryz.zeroValue123 }
open Go.RowKit in
theorem Tryz.strings_CutPrefix (s p : ByteArray) (w : World) :
  Calls Tryz.prog 89 #[.string s,.string p] w fun e w' => e = .returned (.tuple #[.string ⟨(Lib.trimPrefix s.data.toList p.data.toList).toArray⟩,.bool (Lib.hasPrefix s.data.toList p.data.toList)]) ∧ w' = w := Any.strings_CutPrefix Tryz.lays103 s p w
def Tryz.lays172_ren : Go.Shelf.Ren := ⟨fun | 172 => 97 | 244 => 113 | 245 => 108 | 247 => 107 | 279 => 127 | 280 => 128 | 281 => 129 | 282 => 130 | 287 => 126 | 316 => 137 | 171 => 36 | 205 => 138 | 321 => 135 | 322 => 136 | 243 => 54 | 246 => 65 | 283 => 81 | 284 => 82 | 285 => 83 | 286 => 84 | 129 => 99 | 317 => 98 | 318 => 100 | 319 => 101 | 320 => 102 | 337 => 114 | 338 => 115 | n => n,fun | 9 => 9 | 3 => 3 | 75 => 47 | 76 => 48 | 4 => 4 | 5 => 5 | 167 => 153 | 37 => 43 | 0 => 0 | 85 => 125 | 2 => 2 | 168 => 154 | 53 => 99 | 175 => 148 | 46 => 102 | 210 => 166 | 127 => 65 | 145 => 185 | 143 => 183 | 21 => 21 | 171 => 113 | 173 => 116 | 212 => 132 | 51 => 120 | 20 => 20 | 213 => 133 | 232 => 160 | 233 => 161 | 80 => 53 | n => n,fun | 15 => 7 | 16 => 8 | 17 => 4 | 18 => 5 | 19 => 6 | n => n⟩
theorem Tryz.lays172 : Go.Proofs.Lays.n172 Tryz.prog Tryz.lays172_ren := {
 mixed := by kernel_rfl
 f129 := Tryz.func99.trans (congrArg some (by kernel_rfl))
 f171 := Tryz.func36.trans (congrArg some (by kernel_rfl))
 f172 := Tryz.func97.trans (congrArg some (by kernel_rfl))
 f205 := Tryz.func138.trans (congrArg some (by kernel_rfl))
 f243 := Tryz.func54.trans (congrArg some (by kernel_rfl))
 f244 := Tryz.func113.trans (congrArg some (by kernel_rfl))
 f245 := Tryz.func108.trans (congrArg some (by kernel_rfl))
 f246 := Tryz.func65.trans (congrArg some (by kernel_rfl))
 f247 := Tryz.func107.trans (congrArg some (by kernel_rfl))
 f279 := Tryz.func127.trans (congrArg some (by kernel_rfl))
 f280 := Tryz.func128.trans (congrArg some (by kernel_rfl))
 f281 := Tryz.func129.trans (congrArg some (by kernel_rfl))
 f282 := Tryz.func130.trans (congrArg some (by kernel_rfl))
 f283 := Tryz.func81.trans (congrArg some (by kernel_rfl))
 f284 := Tryz.func82.trans (congrArg some (by kernel_rfl))
 f285 := Tryz.func83.trans (congrArg some (by kernel_rfl))
 f286 := Tryz.func84.trans (congrArg some (by kernel_rfl))
 f287 := Tryz.func126.trans (congrArg some (by kernel_rfl))
 f316 := Tryz.func137.trans (congrArg some (by kernel_rfl))
 f317 := Tryz.func98.trans (congrArg some (by kernel_rfl))
 f318 := Tryz.func100.trans (congrArg some (by kernel_rfl))
 f319 := Tryz.func101.trans (congrArg some (by kernel_rfl))
 f320 := Tryz.func102.trans (congrArg some (by kernel_rfl))
 f321 := Tryz.func135.trans (congrArg some (by kernel_rfl))
 f322 := Tryz.func136.trans (congrArg some (by kernel_rfl))
 f337 := Tryz.func114.trans (congrArg some (by kernel_rfl))
 f338 := Tryz.func115.trans (congrArg some (by kernel_rfl))
 t0 := Tryz.underlying0
 a0 := Tryz.isAgg0
 z0 := Tryz.sizeOf0
 v0 := Tryz.zeroValue0
 t2 := Tryz.underlying2
 a2 := Tryz.isAgg2
 z2 := Tryz.sizeOf2
 v2 := Tryz.zeroValue2
 t3 := Tryz.underlying3
 a3 := Tryz.isAgg3
 z3 := Tryz.sizeOf3
 v3 := Tryz.zeroValue3
 t4 := Tryz.underlying4
 a4 := Tryz.isAgg4
 z4 := Tryz.sizeOf4
 v4 := Tryz.zeroValue4
 t5 := Tryz.underlying5
 a5 := Tryz.isAgg5
 z5 := Tryz.sizeOf5
 v5 := Tryz.zeroValue5
 t9 := Tryz.underlying9
 a9 := Tryz.isAgg9
 z9 := Tryz.sizeOf9
 v9 := Tryz.zeroValue9
 t20 := Tryz.underlying20
 a20 := Tryz.isAgg20
 z20 := Tryz.sizeOf20
 v20 := Tryz.zeroValue20
 t21 := Tryz.underlying21
 a21 := Tryz.isAgg21
 z21 := Tryz.sizeOf21
 v21 := Tryz.zeroValue21
 t37 := Tryz.underlying43
 a37 := Tryz.isAgg43
 z37 := Tryz.sizeOf43
 v37 := Tryz.zeroValue43
 t46 := Tryz.underlying102
 a46 := Tryz.isAgg102
 z46 := Tryz.sizeOf102
 v46 := Tryz.zeroValue102
 t51 := Tryz.underlying120
 a51 := Tryz.isAgg120
 z51 := Tryz.sizeOf120
 v51 := Tryz.zeroValue120
 t53 := Tryz.underlying99
 a53 := Tryz.isAgg99
 z53 := Tryz.sizeOf99
 v53 := Tryz.zeroValue99
 t75 := Tryz.underlying47
 a75 := Tryz.isAgg47
 z75 := Tryz.sizeOf47
 v75 := Tryz.zeroValue47
 t76 := Tryz.underlying48
 a76 := Tryz.isAgg48
 z76 := Tryz.sizeOf48
 v76 := Tryz.zeroValue48
 t85 := Tryz.underlying125
 a85 := Tryz.isAgg125
 z85 := Tryz.sizeOf125
 v85 := Tryz.zeroValue125
 t127 := Tryz.underlying65
 a127 := Tryz.isAgg65
 z127 := Tryz.sizeOf65
 v127 := Tryz.zeroValue65
 t143 := Tryz.underlying183
 a143 := Tryz.isAgg183
 z143 := Tryz.sizeOf183
 v143 := Tryz.zeroValue183
 t145 := Tryz.underlying185
 a145 := Tryz.isAgg185
 z145 := Tryz.sizeOf185
 v145 := Tryz.zeroValue185
 t167 := Tryz.underlying153
 a167 := Tryz.isAgg153
 z167 := Tryz.sizeOf153
 v167 := Tryz.zeroValue153
 t168 := Tryz.underlying154
 a168 := Tryz.isAgg154
 z168 := Tryz.sizeOf154
 v168 := Tryz.zeroValue154
 t171 := Tryz.underlying113
 a171 := Tryz.isAgg113
 z171 := Tryz.sizeOf113
 v171 := Tryz.zeroValue113
 t173 := Tryz.underlying116
 a173 := Tryz.isAgg116
 z173 := Tryz.sizeOf116
 v173 := Tryz.zeroValue116
 t175 := Tryz.underlying148
 a175 := Tryz.isAgg148
 z175 := Tryz.sizeOf148
 v175 := Tryz.zeroValue148
 t210 := Tryz.underlying166
 a210 := Tryz.isAgg166
 z210 := Tryz.sizeOf166
 v210 := Tryz.zeroValue166
 t212 := Tryz.underlying132
 a212 := Tryz.isAgg132
 z212 := Tryz.sizeOf132
 v212 := Tryz.zeroValue132
 t213 := Tryz.underlying133
 a213 := Tryz.isAgg133
 z213 := Tryz.sizeOf133
 t232 := Tryz.underlying160
 a232 := Tryz.isAgg160
 z232 := Tryz.sizeOf160
 v232 := Tryz.zeroValue160
 t233 := Tryz.underlying161
 a233 := Tryz.isAgg161
 z233 := Tryz.sizeOf161
 v233 := Tryz.zeroValue161
 g15 := by kernel_rfl
 g16 := by kernel_rfl
 g17 := by kernel_rfl
 g18 := by kernel_rfl
 g19 := by kernel_rfl }
open Go.RowKit in
theorem Tryz.strconv_Atoi (s : ByteArray) (n : Int) (hl : s.size ≤ 18) (h : Lib.atoi s.data.toList = some n) (w : World) :
  Calls Tryz.prog 97 #[.string s] w fun e w' => e = .returned (.tuple #[.int .i64 n,.nilIface]) ∧ ∃ t,w' = Lib.bytesWorld w 5 t := Any.strconv_Atoi Tryz.lays172 s n hl h w
def Tryz.lays129_ren : Go.Shelf.Ren := ⟨fun | 129 => 99 | n => n,fun | 53 => 99 | 3 => 3 | 4 => 4 | 46 => 102 | 5 => 5 | 9 => 9 | n => n,fun | n => n⟩
theorem Tryz.lays129 : Go.Proofs.Lays.n129 Tryz.prog Tryz.lays129_ren := {
 mixed := by kernel_rfl
 f129 := Tryz.func99.trans (congrArg some (by kernel_rfl))
 t3 := Tryz.underlying3
 a3 := Tryz.isAgg3
 z3 := Tryz.sizeOf3
 v3 := Tryz.zeroValue3
 t4 := Tryz.underlying4
 a4 := Tryz.isAgg4
 z4 := Tryz.sizeOf4
 v4 := Tryz.zeroValue4
 t5 := Tryz.underlying5
 a5 := Tryz.isAgg5
 z5 := Tryz.sizeOf5
 v5 := Tryz.zeroValue5
 t9 := Tryz.underlying9
 a9 := Tryz.isAgg9
 z9 := Tryz.sizeOf9
 v9 := Tryz.zeroValue9
 t46 := Tryz.underlying102
 a46 := Tryz.isAgg102
 z46 := Tryz.sizeOf102
 v46 := Tryz.zeroValue102
 t53 := Tryz.underlying99
 a53 := Tryz.isAgg99
 z53 := Tryz.sizeOf99
 v53 := Tryz.zeroValue99 }
theorem Tryz.bits_Len64 (x : Int) (w : World) (h0 : 0 ≤ x) (h1 : x ≤ 18446744073709551615) :
  Calls Tryz.prog 99 #[.int .u64 x] w fun e w' => e = .returned (.int .i64 (Lib.bitLen x.toNat)) ∧ w' = w := Any.bits_Len64 Tryz.lays129 x w h0 h1
def Tryz.lays318_ren : Go.Shelf.Ren := ⟨fun | 318 => 100 | n => n,fun | 3 => 3 | 4 => 4 | n => n,fun | n => n⟩
theorem Tryz.lays318 : Go.Proofs.Lays.n318 Tryz.prog Tryz.lays318_ren := {
 mixed := by kernel_rfl
 f318 := Tryz.func100.trans (congrArg some (by kernel_rfl))
 t3 := Tryz.underlying3
 a3 := Tryz.isAgg3
 z3 := Tryz.sizeOf3
 v3 := Tryz.zeroValue3
 t4 := Tryz.underlying4
 a4 := Tryz.isAgg4
 z4 := Tryz.sizeOf4
 v4 := Tryz.zeroValue4 }
open Go.Lib in
theorem Tryz.internal_strconv_bool2_int (b : Bool) (w : World) :
  Calls Tryz.prog 100 #[.bool b] w fun e w' => e = .returned (.int .i64 (if b then 1 else 0)) ∧ w' = w := Any.internal_strconv_bool2_int Tryz.lays318 b w
def Tryz.laysM284_ren : Go.Shelf.Ren := ⟨fun | 284 => 82 | 129 => 99 | 317 => 98 | 318 => 100 | n => n,fun | 53 => 99 | 3 => 3 | 212 => 132 | 0 => 0 | 4 => 4 | 46 => 102 | 5 => 5 | 9 => 9 | n => n,fun | 17 => 4 | n => n⟩
theorem Tryz.laysM284 : Go.Proofs.LaysM.n284 Tryz.prog Tryz.laysM284_ren := {
 mixed := by kernel_rfl
 f129 := Tryz.func99.trans (congrArg some (by kernel_rfl))
 f284 := Tryz.func82.trans (congrArg some (by kernel_rfl))
 f317 := Tryz.func98.trans (congrArg some (by kernel_rfl))
 f318 := Tryz.func100.trans (congrArg some (by kernel_rfl))
 t0 := Tryz.underlying0
 a0 := Tryz.isAgg0
 z0 := Tryz.sizeOf0
 v0 := Tryz.zeroValue0
 t3 := Tryz.underlying3
 a3 := Tryz.isAgg3
 z3 := Tryz.sizeOf3
 v3 := Tryz.zeroValue3
 t4 := Tryz.underlying4
 a4 := Tryz.isAgg4
 z4 := Tryz.sizeOf4
 v4 := Tryz.zeroValue4
 t5 := Tryz.underlying5
 a5 := Tryz.isAgg5
 z5 := Tryz.sizeOf5
 v5 := Tryz.zeroValue5
 t9 := Tryz.underlying9
 a9 := Tryz.isAgg9
 z9 := Tryz.sizeOf9
 v9 := Tryz.zeroValue9
 t46 := Tryz.underlying102
 a46 := Tryz.isAgg102
 z46 := Tryz.sizeOf102
 v46 := Tryz.zeroValue102
 t53 := Tryz.underlying99
 a53 := Tryz.isAgg99
 z53 := Tryz.sizeOf99
 v53 := Tryz.zeroValue99
 t212 := Tryz.underlying132
 a212 := Tryz.isAgg132
 z212 := Tryz.sizeOf132
 v212 := Tryz.zeroValue132
 g17 := by kernel_rfl
 i0 := by kernel_rfl
 i3 := by kernel_rfl
 i4 := by kernel_rfl
 i5 := by kernel_rfl
 i9 := by kernel_rfl
 i46 := by kernel_rfl
 i53 := by kernel_rfl
 i212 := by kernel_rfl
 m17 := by kernel_rfl }
open Go.Lib in
theorem Tryz.internal_strconv_numDigits (u : Nat) (h1 : 1 ≤ u) (h2 : u < 18446744073709551616) (w : World) (htab : Lib.TabIs Tryz.prog w "internal/strconv.uint64pow10" .u64 Lib.pow10Tab) :
  Calls Tryz.prog 82 #[.int .u64 u] w fun e w' => e = .returned (.int .i64 (Lib.nDigits u)) ∧ w' = w := Any.internal_strconv_numDigits Tryz.laysM284 u h1 h2 w htab
def Tryz.lays285_ren : Go.Shelf.Ren := ⟨fun | 285 => 83 | n => n,fun | 37 => 43 | 53 => 99 | 3 => 3 | 4 => 4 | 51 => 120 | 9 => 9 | 5 => 5 | 0 => 0 | n => n,fun | n => n⟩
theorem Tryz.lays285 : Go.Proofs.Lays.n285 Tryz.prog Tryz.lays285_ren := {
 mixed := by kernel_rfl
 f285 := Tryz.func83.trans (congrArg some (by kernel_rfl))
 t0 := Tryz.underlying0
 a0 := Tryz.isAgg0
 z0 := Tryz.sizeOf0
 v0 := Tryz.zeroValue0
 t3 := Tryz.underlying3
 a3 := Tryz.isAgg3
 z3 := Tryz.sizeOf3
 v3 := Tryz.zeroValue3
 t4 := Tryz.underlying4
 a4 := Tryz.isAgg4
 z4 := Tryz.sizeOf4
 v4 := Tryz.zeroValue4
 t5 := Tryz.underlying5
 a5 := Tryz.isAgg5
 z5 := Tryz.sizeOf5
 v5 := Tryz.zeroValue5
 t9 := Tryz.underlying9
 a9 := Tryz.isAgg9
 z9 := Tryz.sizeOf9
 v9 := Tryz.zeroValue9
 t37 := Tryz.underlying43
 a37 := Tryz.isAgg43
 z37 := Tryz.sizeOf43
 v37 := Tryz.zeroValue43
 t51 := Tryz.underlying120
 a51 := Tryz.isAgg120
 z51 := Tryz.sizeOf120
 v51 := Tryz.zeroValue120
 t53 := Tryz.underlying99
 a53 := Tryz.isAgg99
 z53 := Tryz.sizeOf99
 v53 := Tryz.zeroValue99 }
open Go.RowKit Go.Sort Go.Lib in
theorem Tryz.internal_strconv_formatBase10 (blk off cap : Nat) (u : Nat) (d : Array UInt8) (w : World) (hH : Holds (fun (b : UInt8) => Value.int .u8 (b.toNat : Int)) w blk off d) (hu : u < 10 ^ d.size) (hu64 : u < 18446744073709551616) (hsz : d.size < 4611686018427387904) :
  Calls Tryz.prog 83 #[.slice (some ⟨blk,off,none⟩) d.size cap,.int .u64 u] w fun e w' =>
   e = .returned (.tuple #[]) ∧ ∃ (n v' : Nat) (dk : Array UInt8),w' = (putRow (fun (b : UInt8) => Value.int .u8 (b.toNat : Int)) w blk off dk).drewN n ∧ FmtInv d.size u 0 v' dk := Any.internal_strconv_formatBase10 Tryz.lays285 blk off cap u d w hH hu hu64 hsz
def Tryz.laysM171_ren : Go.Shelf.Ren := ⟨fun | 171 => 36 | 243 => 54 | 246 => 65 | 283 => 81 | 284 => 82 | 285 => 83 | 286 => 84 | 129 => 99 | 317 => 98 | 318 => 100 | 319 => 101 | 320 => 102 | 337 => 114 | 338 => 115 | n => n,fun | 3 => 3 | 9 => 9 | 2 => 2 | 4 => 4 | 171 => 113 | 0 => 0 | 53 => 99 | 37 => 43 | 5 => 5 | 173 => 116 | 212 => 132 | 51 => 120 | 20 => 20 | 213 => 133 | 46 => 102 | 232 => 160 | 233 => 161 | n => n,fun | 17 => 4 | 18 => 5 | 19 => 6 | n => n⟩
theorem Tryz.laysM171 : Go.Proofs.LaysM.n171 Tryz.prog Tryz.laysM171_ren := {
 mixed := by kernel_rfl
 f129 := Tryz.func99.trans (congrArg some (by kernel_rfl))
 f171 := Tryz.func36.trans (congrArg some (by kernel_rfl))
 f243 := Tryz.func54.trans (congrArg some (by kernel_rfl))
 f246 := Tryz.func65.trans (congrArg some (by kernel_rfl))
 f283 := Tryz.func81.trans (congrArg some (by kernel_rfl))
 f284 := Tryz.func82.trans (congrArg some (by kernel_rfl))
 f285 := Tryz.func83.trans (congrArg some (by kernel_rfl))
 f286 := Tryz.func84.trans (congrArg some (by kernel_rfl))
 f317 := Tryz.func98.trans (congrArg some (by kernel_rfl))
 f318 := Tryz.func100.trans (congrArg some (by kernel_rfl))
 f319 := Tryz.func101.trans (congrArg some (by kernel_rfl))
 f320 := Tryz.func102.trans (congrArg some (by kernel_rfl))
 f337 := Tryz.func114.trans (congrArg some (by kernel_rfl))
 f338 := Tryz.func115.trans (congrArg some (by kernel_rfl))
 t0 := Tryz.underlying0
 a0 := Tryz.isAgg0
 z0 := Tryz.sizeOf0
 v0 := Tryz.zeroValue0
 t2 := Tryz.underlying2
 a2 := Tryz.isAgg2
 z2 := Tryz.sizeOf2
 v2 := Tryz.zeroValue2
 t3 := Tryz.underlying3
 a3 := Tryz.isAgg3
 z3 := Tryz.sizeOf3
 v3 := Tryz.zeroValue3
 t4 := Tryz.underlying4
 a4 := Tryz.isAgg4
 z4 := Tryz.sizeOf4
 v4 := Tryz.zeroValue4
 t5 := Tryz.underlying5
 a5 := Tryz.isAgg5
 z5 := Tryz.sizeOf5
 v5 := Tryz.zeroValue5
 t9 := Tryz.underlying9
 a9 := Tryz.isAgg9
 z9 := Tryz.sizeOf9
 v9 := Tryz.zeroValue9
 t20 := Tryz.underlying20
 a20 := Tryz.isAgg20
 z20 := Tryz.sizeOf20
 v20 := Tryz.zeroValue20
 t37 := Tryz.underlying43
 a37 := Tryz.isAgg43
 z37 := Tryz.sizeOf43
 v37 := Tryz.zeroValue43
 t46 := Tryz.underlying102
 a46 := Tryz.isAgg102
 z46 := Tryz.sizeOf102
 v46 := Tryz.zeroValue102
 t51 := Tryz.underlying120
 a51 := Tryz.isAgg120
 z51 := Tryz.sizeOf120
 v51 := Tryz.zeroValue120
 t53 := Tryz.underlying99
 a53 := Tryz.isAgg99
 z53 := Tryz.sizeOf99
 v53 := Tryz.zeroValue99
 t171 := Tryz.underlying113
 a171 := Tryz.isAgg113
 z171 := Tryz.sizeOf113
 v171 := Tryz.zeroValue113
 t173 := Tryz.underlying116
 a173 := Tryz.isAgg116
 z173 := Tryz.sizeOf116
 v173 := Tryz.zeroValue116
 t212 := Tryz.underlying132
 a212 := Tryz.isAgg132
 z212 := Tryz.sizeOf132
 v212 := Tryz.zeroValue132
 t213 := Tryz.underlying133
 a213 := Tryz.isAgg133
 z213 := Tryz.sizeOf133
 t232 := Tryz.underlying160
 a232 := Tryz.isAgg160
 z232 := Tryz.sizeOf160
 v232 := Tryz.zeroValue160
 t233 := Tryz.underlying161
 a233 := Tryz.isAgg161
 z233 := Tryz.sizeOf161
 v233 := Tryz.zeroValue161
 g17 := by kernel_rfl
 g18 := by kernel_rfl
 g19 := by kernel_rfl
 i0 := by kernel_rfl
 i2 := by kernel_rfl
 i3 := by kernel_rfl
 i4 := by kernel_rfl
 i5 := by kernel_rfl
 i9 := by kernel_rfl
 i20 := by kernel_rfl
 i37 := by kernel_rfl
 i46 := by kernel_rfl
 i51 := by kernel_rfl
 i53 := by kernel_rfl
 i171 := by kernel_rfl
 i173 := by kernel_rfl
 i212 := by kernel_rfl
 i232 := by kernel_rfl
 i233 := by kernel_rfl
 m17 := by kernel_rfl
 m18 := by kernel_rfl
 m19 := by kernel_rfl }
open Go.RowKit Go.Sort Go.Lib in
theorem Tryz.strconv_Itoa (n : Int) (h0 : -9223372036854775808 ≤ n) (h1 : n ≤ 9223372036854775807) (w : World) (htab : Lib.TabIs Tryz.prog w "internal/strconv.uint64pow10" .u64 Lib.pow10Tab) :
  Calls Tryz.prog 36 #[.int .i64 n] w fun e w' => e = .returned (.string ⟨(Lib.itoa n).toArray⟩) ∧ ∃ k os,w' = grow (w.drewN k) os := Any.strconv_Itoa Tryz.laysM171 n h0 h1 w htab
def Tryz.lays171_ren : Go.Shelf.Ren := ⟨fun | 171 => 36 | 243 => 54 | 246 => 65 | 283 => 81 | 284 => 82 | 285 => 83 | 286 => 84 | 129 => 99 | 317 => 98 | 318 => 100 | 319 => 101 | 320 => 102 | 337 => 114 | 338 => 115 | n => n,fun | 3 => 3 | 9 => 9 | 2 => 2 | 4 => 4 | 171 => 113 | 0 => 0 | 53 => 99 | 37 => 43 | 5 => 5 | 173 => 116 | 212 => 132 | 51 => 120 | 20 => 20 | 213 => 133 | 46 => 102 | 232 => 160 | 233 => 161 | n => n,fun | 17 => 4 | 18 => 5 | 19 => 6 | n => n⟩
theorem Tryz.lays171 : Go.Proofs.Lays.n171 Tryz.prog Tryz.lays171_ren := {
 mixed := by kernel_rfl
 f129 := Tryz.func99.trans (congrArg some (by kernel_rfl))
 f171 := Tryz.func36.trans (congrArg some (by kernel_rfl))
 f243 := Tryz.func54.trans (congrArg some (by kernel_rfl))
 f246 := Tryz.func65.trans (congrArg some (by kernel_rfl))
 f283 := Tryz.func81.trans (congrArg some (by kernel_rfl))
 f284 := Tryz.func82.trans (congrArg some (by kernel_rfl))
 f285 := Tryz.func83.trans (congrArg some (by kernel_rfl))
 f286 := Tryz.func84.trans (congrArg some (by kernel_rfl))
 f317 := Tryz.func98.trans (congrArg some (by kernel_rfl))
 f318 := Tryz.func100.trans (congrArg some (by kernel_rfl))
 f319 := Tryz.func101.trans (congrArg some (by kernel_rfl))
 f320 := Tryz.func102.trans (congrArg some (by kernel_rfl))
 f337 := Tryz.func114.trans (congrArg some (by kernel_rfl))
 f338 := Tryz.func115.trans (congrArg some (by kernel_rfl))
 t0 := Tryz.underlying0
 a0 := Tryz.isAgg0
 z0 := Tryz.sizeOf0
 v0 := Tryz.zeroValue0
 t2 := Tryz.underlying2
 a2 := Tryz.isAgg2
 z2 := Tryz.sizeOf2
 v2 := Tryz.zeroValue2
 t3 := Tryz.underlying3
 a3 := Tryz.isAgg3
 z3 := Tryz.sizeOf3
 v3 := Tryz.zeroValue3
 t4 := Tryz.underlying4
 a4 := Tryz.isAgg4
 z4 := Tryz.sizeOf4
 v4 := Tryz.zeroValue4
 t5 := Tryz.underlying5
 a5 := Tryz.isAgg5
 z5 := Tryz.sizeOf5
 v5 := Tryz.zeroValue5
 t9 := Tryz.underlying9
 a9 := Tryz.isAgg9
 z9 := Tryz.sizeOf9
 v9 := Tryz.zeroValue9
 t20 := Tryz.underlying20
 a20 := Tryz.isAgg20
 z20 := Tryz.sizeOf20
 v20 := Tryz.zeroValue20
 t37 := Tryz.underlying43
 a37 := Tryz.isAgg43
 z37 := Tryz.sizeOf43
 v37 := Tryz.zeroValue43
 t46 := Tryz.underlying102
 a46 := Tryz.isAgg102
 z46 := Tryz.sizeOf102
 v46 := Tryz.zeroValue102
 t51 := Tryz.underlying120
 a51 := Tryz.isAgg120
 z51 := Tryz.sizeOf120
 v51 := Tryz.zeroValue120
 t53 := Tryz.underlying99
 a53 := Tryz.isAgg99
 z53 := Tryz.sizeOf99
 v53 := Tryz.zeroValue99
 t171 := Tryz.underlying113
 a171 := Tryz.isAgg113
 z171 := Tryz.sizeOf113
 v171 := Tryz.zeroValue113
 t173 := Tryz.underlying116
 a173 := Tryz.isAgg116
 z173 := Tryz.sizeOf116
 v173 := Tryz.zeroValue116
 t212 := Tryz.underlying132
 a212 := Tryz.isAgg132
 z212 := Tryz.sizeOf132
 v212 := Tryz.zeroValue132
 t213 := Tryz.underlying133
 a213 := Tryz.isAgg133
 z213 := Tryz.sizeOf133
 t232 := Tryz.underlying160
 a232 := Tryz.isAgg160
 z232 := Tryz.sizeOf160
 v232 := Tryz.zeroValue160
 t233 := Tryz.underlying161
 a233 := Tryz.isAgg161
 z233 := Tryz.sizeOf161
 v233 := Tryz.zeroValue161
 g17 := by kernel_rfl
 g18 := by kernel_rfl
 g19 := by kernel_rfl }
open Go.RowKit Go.Sort Go.Lib in
theorem Tryz.strconv_Itoa_small (i : Nat) (hi : i < 100) (w : World) :
  Calls Tryz.prog 36 #[.int .i64 i] w fun e w' => e = .returned (.string ⟨(Lib.decDigits i).toArray⟩) ∧ w' = w := Any.strconv_Itoa_small Tryz.lays171 i hi w
def Tryz.lays219_ren : Go.Shelf.Ren := ⟨fun | 219 => 57 | 217 => 68 | 225 => 69 | 224 => 70 | 267 => 71 | 266 => 87 | 314 => 88 | n => n,fun | 9 => 9 | 3 => 3 | 4 => 4 | 5 => 5 | 46 => 102 | 146 => 121 | 51 => 120 | n => n,fun | 1 => 1 | n => n⟩
theorem Tryz.lays219 : Go.Proofs.Lays.n219 Tryz.prog Tryz.lays219_ren := {
 mixed := by kernel_rfl
 f217 := Tryz.func68.trans (congrArg some (by kernel_rfl))
 f219 := Tryz.func57.trans (congrArg some (by kernel_rfl))
 f224 := Tryz.func70.trans (congrArg some (by kernel_rfl))
 f225 := Tryz.func69.trans (congrArg some (by kernel_rfl))
 f266 := Tryz.func87.trans (congrArg some (by kernel_rfl))
 f267 := Tryz.func71.trans (congrArg some (by kernel_rfl))
 f314 := Tryz.func88.trans (congrArg some (by kernel_rfl))
 t3 := Tryz.underlying3
 a3 := Tryz.isAgg3
 z3 := Tryz.sizeOf3
 v3 := Tryz.zeroValue3
 t4 := Tryz.underlying4
 a4 := Tryz.isAgg4
 z4 := Tryz.sizeOf4
 v4 := Tryz.zeroValue4
 t5 := Tryz.underlying5
 a5 := Tryz.isAgg5
 z5 := Tryz.sizeOf5
 v5 := Tryz.zeroValue5
 t9 := Tryz.underlying9
 a9 := Tryz.isAgg9
 z9 := Tryz.sizeOf9
 v9 := Tryz.zeroValue9
 t46 := Tryz.underlying102
 a46 := Tryz.isAgg102
 z46 := Tryz.sizeOf102
 v46 := Tryz.zeroValue102
 t51 := Tryz.underlying120
 a51 := Tryz.isAgg120
 z51 := Tryz.sizeOf120
 v51 := Tryz.zeroValue120
 t146 := Tryz.underlying121
 a146 := Tryz.isAgg121
 z146 := Tryz.sizeOf121
 v146 := Tryz.zeroValue121
 g1 := by kernel_rfl }
open Go.RowKit Go.Lib in
theorem Tryz.stringslite_Index_one (s : ByteArray) (c : UInt8) (w : World) :
  Calls Tryz.prog 57 #[.string s,.string ⟨#[c]⟩] w fun e w' => e = .returned (.int .i64 (Lib.indexByte s.data.toList c)) ∧ w' = w := Any.stringslite_Index_one Tryz.lays219 s c w
def Tryz.lays264_ren : Go.Shelf.Ren := ⟨fun | 264 => 172 | n => n,fun | 53 => 99 | 46 => 102 | n => n,fun | n => n⟩
theorem Tryz.lays264 : Go.Proofs.Lays.n264 Tryz.prog Tryz.lays264_ren := {
 mixed := by kernel_rfl
 f264 := Tryz.func172.trans (congrArg some (by kernel_rfl))
 t46 := Tryz.underlying102
 a46 := Tryz.isAgg102
 z46 := Tryz.sizeOf102
 v46 := Tryz.zeroValue102
 t53 := Tryz.underlying99
 a53 := Tryz.isAgg99
 z53 := Tryz.sizeOf99
 v53 := Tryz.zeroValue99 }
open Go.RowKit Go.Lib in
theorem Tryz.bits_Mul64 (x y : Nat) (hx : x < 18446744073709551616) (hy : y < 18446744073709551616) (w : World) :
  Calls Tryz.prog 172 #[.int .u64 x,.int .u64 y] w fun e w' => e = .returned (.tuple #[.int .u64 ((x * y / 18446744073709551616 : Nat) : Int),.int .u64 ((x * y % 18446744073709551616 : Nat) : Int)]) ∧ w' = w := Any.bits_Mul64 Tryz.lays264 x y hx hy w
end Go.Proofs.YtalaajniammggaaGreatDoor

/- Two texts, read by the library: down to flt.guess. -/
namespace Go.Proofs.YtalaajniammggaaGreatDoor
open Go.RowKit
structure Tabs (w : World) : Prop where
 opt : w.cell? ⟨9,0,none⟩ = some (.bool true)
 mant : w.cell? ⟨13,0,none⟩ = some (.int .u64 52)
 pow : ∃ b o,w.cell? ⟨16,0,none⟩ = some (.slice (some ⟨b,o,none⟩) 23 23) ∧ w.cell? ⟨b,o + 1,none⟩ = some (.float .f64 4621819117588971520) ∧ w.cell? ⟨b,o + 2,none⟩ = some (.float .f64 4636737291354636288)
 ten : Lib.TabIs Tryz.prog w "internal/strconv.uint64pow10" .u64 Lib.pow10Tab
 hi : w.cell? ⟨10,728,none⟩ = some (.int .u64 10240000000000000000)
 lo : w.cell? ⟨10,729,none⟩ = some (.int .u64 0)
theorem Tabs.kept {w w' : World} (h : Tabs w) (hb : Below w.heap.size w w') : Tabs w' := by
 have k : ∀ {a : Addr} {v : Value},w.cell? a = some v → w'.cell? a = some v := fun hc => (hb.cell (World.block_lt_of_cell? w _ hc)).trans hc
 obtain ⟨b,o,p1,p2,p3⟩ := h.pow
 have h1 : 4 < w.heap.size := by
  have h3 : 9 < w.heap.size := World.block_lt_of_cell? w _ h.opt
  omega
 exact ⟨k h.opt, k h.mant, ⟨b, o, k p1, k p2, k p3⟩, (var?_below hb (show Tryz.prog.globalNamed "internal/strconv.uint64pow10" = some 4 by kernel_rfl) h1 h.ten), k h.hi, k h.lo⟩
theorem bool2u_false (w : World) : Calls Tryz.prog 173 #[.bool false] w fun e w' => e = .returned (.int .u64 0) ∧ w' = w := by
 go_enter Tryz.func173,Tryz.ntmps173
 go_wp2
 go_ret
 exact ⟨rfl,rfl⟩
theorem bool2u_true (w : World) : Calls Tryz.prog 173 #[.bool true] w fun e w' => e = .returned (.int .u64 1) ∧ w' = w := by
 go_enter Tryz.func173,Tryz.ntmps173
 go_wp2
 go_ret
 exact ⟨rfl,rfl⟩
end Go.Proofs.YtalaajniammggaaGreatDoor

/- 1.5 printed: the shortest digits. -/
namespace Go.Proofs.YtalaajniammggaaGreatDoor
open Go.RowKit
end Go.Proofs.YtalaajniammggaaGreatDoor

/- Digits laid into a row, and how many are left without zeros behind. -/
namespace Go.Proofs.YtalaajniammggaaGreatDoor
open Go.RowKit Go.Lib Go.Sort
def dgt (d k : Nat) : Nat := 48 + d / 10 ^ k % 10
def nzd : Nat → Nat → Nat
 | _,0 => 0
 | d,n + 1 => if d % 10 = 0 then nzd (d / 10) n else n + 1
theorem nzd_step (d nd k : Nat) (hk : k + 1 ≤ nd) (h : d / 10 ^ (nd - (k + 1)) % 10 = 0) : nzd (d / 10 ^ (nd - (k + 1))) (k + 1) = nzd (d / 10 ^ (nd - k)) k := by
 rw [nzd,if_pos h,Nat.div_div_eq_div_mul,← Nat.pow_succ]
 have : (nd - (k + 1)).succ = nd - k := by omega
 rw [this]
theorem nzd_stop (d nd k : Nat) (h : ¬ d / 10 ^ (nd - (k + 1)) % 10 = 0) : nzd (d / 10 ^ (nd - (k + 1))) (k + 1) = k + 1 := by
 rw [nzd,if_neg h]
abbrev enc8 : UInt8 → Value := fun b => Value.int .u8 (b.toNat : Int)
theorem dg_toNat (d k : Nat) : (dg d k).toNat = dgt d k := by
 unfold dg dgt
 have : d / 10 ^ k % 10 < 10 := Nat.mod_lt _ (by decide)
 simp [UInt8.toNat_ofNat]
 omega
theorem digits_laid (b d nd n v : Nat) (w : World) (dk : Array UInt8) (h0 : ∀ t,t < nd → w.cell? ⟨b,t,none⟩ = some (.int .u8 0) ∧ w.frozen? ⟨b,t,none⟩ = false) (hi : FmtInv nd d 0 v dk) :
  (∀ t,t < nd → ((putRow enc8 w b 0 dk).drewN n).cell? ⟨b,t,none⟩ = some (.int .u8 (dgt d (nd - 1 - t) : Nat))) ∧ Below b w ((putRow enc8 w b 0 dk).drewN n) := by
 have hH : Holds enc8 w b 0 (Array.replicate nd (0 : UInt8)) := fun j hj => by
  have hj' : j < nd := by simpa using hj
  obtain ⟨a1,a2⟩ := h0 j hj'
  rw [Nat.zero_add]
  refine ⟨?_,a2⟩
  rw [a1,getElem!_pos _ j hj]
  simp
 have hs : dk.size = (Array.replicate nd (0 : UInt8)).size := by rw [hi.size]; simp
 have hp := holds_putRow enc8 w b 0 _ dk hH hs
 constructor
 ·intro t ht
  have h1 := (hp t (by rw [hi.size]; exact ht)).1
  rw [Nat.zero_add] at h1
  rw [World.cell?_drewN,h1,hi.done t (Nat.zero_le _) ht]
  show some (Value.int .u8 ((dg d (nd - 1 - t)).toNat : Int)) = _
  rw [dg_toNat]
 ·have := below_putRow (enc := enc8) (q := 0) (g := b) (d := dk) (Below.refl b w) (Nat.le_refl _)
  exact below_drewN this n
set_option maxRecDepth 100000 in
theorem setDigits_any (b d nd : Nat) (p : Int) (w : World) (h1 : 1 ≤ nd) (h2 : nd ≤ 20) (hd : d < 10 ^ nd) (hd64 : d < 18446744073709551616) (hp1 : -400 ≤ p) (hp2 : p ≤ 400)
  (h0 : ∀ t,t < 32 → w.cell? ⟨b,t,none⟩ = some (.int .u8 0) ∧ w.frozen? ⟨b,t,none⟩ = false) :
  Calls Tryz.prog 145 #[.slice (some ⟨b,0,none⟩) 32 32,.int .u64 d,.int .i64 p,.int .i64 nd] w fun e w' =>
   e = .returned (.tuple #[.int .i64 (nd + p),.int .i64 (nzd d nd)]) ∧ (∀ t,t < nd → w'.cell? ⟨b,t,none⟩ = some (.int .u8 (dgt d (nd - 1 - t) : Nat))) ∧ Below b w w' := by
 have hF := Tryz.internal_strconv_formatBase10 b 0 32 d (Array.replicate nd (0 : UInt8)) w (fun j hj => by
  have hj' : j < nd := by simpa using hj
  obtain ⟨a1,a2⟩ := h0 j (by omega)
  rw [Nat.zero_add]
  refine ⟨?_,a2⟩
  rw [a1,getElem!_pos _ j hj]
  simp) (by simpa using hd) hd64 (by simp; omega)
 have hsz : (Array.replicate nd (0 : UInt8)).size = nd := by simp
 rw [hsz] at hF
 have h0' := fun t ht => h0 t (show t < 32 by have : t < nd := ht; omega)
 clear h0 hsz
 have hle : (nd : Int) ≤ 32 := by omega
 obtain ⟨R,hR⟩ : ∃ R,Hid (nzd d nd = R) := ⟨_,rfl⟩
 rw [hR.out]
 go_enter Tryz.func145,Tryz.ntmps145
 go_wp2_with fail
 refine hF.mono ?_
 rintro e w1 ⟨rfl,n,v,dk,hw1,hi⟩
 obtain ⟨hc,hb⟩ := digits_laid b d nd n v w dk h0' hi
 rw [← hw1] at hc hb
 clear hw1 hi hF h0'
 have hc' := Lib.hid hc
 have hb' := Lib.hid hb
 clear hc hb
 go_wp2_with fail
 go_loopw [3] (fun x wr => ∃ k : Nat,k ≤ nd ∧ x = .int .i64 k ∧ wr = w1 ∧ Hid (R = nzd (d / 10 ^ (nd - k)) k)) (fun x _ => (RowKit.intOf x).toNat)
 case atStart => exact ⟨nd,by omega,rfl,rfl,Lib.hid (by rw [← hR.out]; simp)⟩
 case round =>
  obtain ⟨k,hk,rfl,rfl,HI⟩ := hrel
  rename World => W1
  cases k with
  | zero =>
   have hz : R = 0 := by rw [HI.out]; rfl
   go_wp2
   go_ret2
   exact ⟨by rw [hz]; rfl,hc'.out,hb'.out⟩
  | succ j =>
   have hcj := hc'.out j (by omega)
   have e1 : nd - 1 - j = nd - (j + 1) := by omega
   rw [e1] at hcj
   have hjn : (j : Int) < 32 := by omega
   by_cases hz : d / 10 ^ (nd - (j + 1)) % 10 = 0
   ·have hst := nzd_step d nd j hk hz
    have hcell : W1.cell? ⟨b,j,none⟩ = some (.int .u8 48) := by rw [hcj]; unfold dgt; rw [hz]; rfl
    clear hcj hz
    go_wp2
    go_roundw
    case rel => exact ⟨j,by omega,by go_num,trivial,Lib.hid (by rw [HI.out,hst])⟩
    case measure => simp [RowKit.intOf]
   ·have hst := nzd_stop d nd j hz
    have hr : R = j + 1 := by rw [HI.out,hst]
    obtain ⟨c,hcc⟩ : ∃ c : Nat,c = dgt d (nd - (j + 1)) := ⟨_,rfl⟩
    have hne : ((c : Int) == 48) = false := by
     have : c ≠ 48 := by rw [hcc]; unfold dgt; omega
     simp; omega
    have hcell : W1.cell? ⟨b,j,none⟩ = some (.int .u8 (c : Int)) := by rw [hcj,hcc]
    clear hcj hz hcc hst
    go_wp2
    go_ret2
    exact ⟨by rw [hr]; rfl,hc'.out,hb'.out⟩
end Go.Proofs.YtalaajniammggaaGreatDoor

/- Letters appended onto a row of 24 that has room. -/
namespace Go.Proofs.YtalaajniammggaaGreatDoor
open Go.RowKit
theorem info5 : (Tryz.prog.info? 5).map (fun i => (i.zero,i.size,i.bytes)) = some (some (.int .u8 0),1,1) := by kernel_rfl
theorem info_size : ∃ i0,Tryz.prog.info? 5 = some i0 ∧ i0.zero = some (.int .u8 0) ∧ i0.size = 1 ∧ i0.bytes = 1 := by
 cases hi : Tryz.prog.info? 5 with
 | none => have h := info5; rw [hi] at h; cases h
 | some i =>
  have h := info5
  rw [hi] at h
  simp only [Option.map_some,Option.some.injEq,Prod.mk.injEq] at h
  exact ⟨i,rfl,h⟩
def Buf (B : Nat) (w : World) (q n : Nat) (l : List UInt8) : Prop := l.length = n ∧ w.ownsRow B 5 1 (.slice (some ⟨q,0,none⟩) n 24) n (Lib.byteCells l)
theorem byteCells_one (l : List UInt8) : ∀ u ∈ Lib.byteCells l,u.oneCell' = true := by
 intro u hu
 simp only [Lib.byteCells,List.mem_map] at hu
 obtain ⟨b,-,rfl⟩ := hu
 rfl
theorem byteCells_append (l m : List UInt8) : Lib.byteCells (l ++ m) = Lib.byteCells l ++ Lib.byteCells m := by simp [Lib.byteCells]
theorem wp_app (w : World) {ops : Array Oper} {rest : List Oper} {o : Oper} {a : Act} {Q : Exit → Act → World → Prop}
  (hg : o.guard = none) (s x : Operand) (hop : o.op = Op.call { callee := Callee.builtin Builtin.append,args := #[s,x],argTypes := #[43,43] })
  (B q n : Nat) (l m : List UInt8) (k c : Nat) (hs : a.eval s = .slice (some ⟨q,0,none⟩) n 24) (hB : Buf B w q n l) (ad : Addr) (hk : m.length = k) (hx : a.eval x = .slice (some ad) k c)
  (hm : ∀ j u,(Lib.byteCells m)[j]? = some u → w.cell? (ad.add j) = some u) (hfit : n + k ≤ 24)
  (hK : ∀ w' N,Hid (N = n + k) → Buf B w' q N (l ++ m) → w.grownBy w' (some q) → wpList Tryz.prog ops Q rest (a.put o.dst (.slice (some ⟨q,0,none⟩) N 24)) w') :
  wpList Tryz.prog ops Q (o :: rest) a w := by
 obtain ⟨i0,hi,hz0,hz1,hz2⟩ := info_size
 obtain ⟨hl,hown⟩ := hB
 have hml : (Lib.byteCells m).length = k * 1 := by simp [Lib.byteCells,hk]
 refine wpList_append_fits w hg s x 43 hop B 5 i0 1 Tryz.underlying43 hi hz1 q n 24 (Lib.byteCells l) hs hown ad k c (Lib.byteCells m) hx hml hm (byteCells_one m) hfit ?_
 intro w' ho hgw
 refine hK w' (n + k) (Lib.hid rfl) ⟨by rw [List.length_append,hl,hk],?_⟩ hgw
 rw [byteCells_append]; exact ho
theorem Buf.alloc {B : Nat} {w : World} {q n : Nat} {l : List UInt8} (h : Buf B w q n l) (o : Obj) : Buf B (w.alloc o) q n l := ⟨h.1,h.2.alloc o⟩
theorem Buf.base {B : Nat} {w : World} {q n : Nat} {l : List UInt8} (h : Buf B w q n l) : B ≤ q ∧ q < w.heap.size := h.2.lt q rfl
theorem Buf.made (w : World) : Buf w.heap.size (w.alloc (.cells (Array.replicate 24 (.int .u8 0)) 5)) w.heap.size 0 [] :=
 ⟨rfl,by simp [Lib.byteCells],.inr ⟨w.heap.size,24,Array.replicate 24 (.int .u8 0),rfl,Nat.le_refl _,heap_alloc_new w _,by omega,by unfold maxLen; omega,by simp,by simp [Lib.byteCells]⟩⟩
end Go.Proofs.YtalaajniammggaaGreatDoor

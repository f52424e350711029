/- The library by its contracts: the plain text of the kit's layings, those that are used. -/
import Derived.Shelf.Strings.Builder1
import Derived.Shelf.Small.Wraps
import Derived.Shelf.Strconv.Atoi
import Derived.Shelf.Strconv.Itoa0
import Derived.Shelf.Strconv.Itoa1
import Derived.Shelf.LaysM
import Derived.Shelf.Strconv.Itoa2
import Derived.Shelf.Strconv.Itoa3
import Derived.Shelf.Strconv.Itoa4
import Derived.Shelf.Strconv.AtoiErrFast
import Derived.Shelf.Strconv.ParseIntEmpty
import Derived.Shelf.Strconv.AtoiFail
import Derived.Shelf.Strconv.Clone
import Derived.Shelf.Strconv.SyntaxError
import Derived.Shelf.LaysC
import Derived.Shelf.Strconv.ToError
import Derived.Shelf.Strconv.Lower
import Derived.Shelf.Strconv.ParseUint10
import Derived.Shelf.Strconv.ParseUint10Empty
import Derived.Shelf.Strconv.ParseUint10Any
import Derived.Shelf.Strconv.ParseInt10
import Derived.Shelf.Strconv.AtoiLong
import Derived.Shelf.Strconv.AtoiInnerAll
import Derived.Shelf.Strconv.RangeError
import Derived.Shelf.Strconv.ToErrorRange
import Derived.Shelf.Strconv.AtoiAll
import Derived.Shelf.Strconv.ParseUintEmpty
import Derived.Shelf.Strconv.ParseUint10b64
import Derived.Shelf.Strconv.ParseUint10b32
import Derived.Shelf.Strconv.ParseUint10b16
import Derived.Shelf.Strconv.ParseUint10b8
import Derived.Shelf.Strconv.ParseUint10At
import Derived.Shelf.Strconv.ParseInt10At64
import Derived.Shelf.Strconv.ParseInt10At32
import Derived.Shelf.Strconv.ParseInt10At16
import Derived.Shelf.Strconv.ParseInt10At8
import Derived.Shelf.Strconv.ParseInt10All
import Derived.Shelf.Strconv.ParseIntPublic10
import Derived.Shelf.Strings.Search1
import Derived.Shelf.Strings.Search2
import Derived.Shelf.Strings.Search3
import Derived.Shelf.Strings.Cut
import Derived.Shelf.Strings.Count
import Derived.Shelf.Strings.Shaped
import Derived.Shelf.Strings.Prefix
import Derived.Shelf.Bits.Mul64
import Derived.Test.YtalaajniammggaaGreatDoorProg
import Derived.Test.YtalaajniammggaaGreatDoorXAa
import Derived.Test.YtalaajniammggaaGreatDoorXCa
import Derived.Test.YtalaajniammggaaGreatDoorXWb
import Derived.Lib.AppendIntMem
import Derived.Lib.ParseIntBTie
import Derived.Maps.AppendAt
import Derived.Test.YtalaajniammggaaGreatDoorXCb
namespace Go.Proofs.YtalaajniammggaaGreatDoor
open Go.Shelf
def Tryz.lays169_ren : Go.Shelf.Ren := ⟨fun | 169 => 22 | n => n,fun | 70 => 42 | 9 => 9 | 0 => 0 | 72 => 45 | 37 => 43 | 127 => 65 | 3 => 3 | 5 => 5 | n => n,fun | n => n⟩
theorem Tryz.lays169 : Go.Proofs.Lays.n169 Tryz.prog Tryz.lays169_ren := {
 mixed := by kernel_rfl
 f169 := Tryz.func22.trans (congrArg some (by kernel_rfl))
 t0 := Tryz.underlying0
 a0 := Tryz.isAgg0
 z0 := Tryz.sizeOf0
 v0 := Tryz.zeroValue0
 t3 := Tryz.underlying3
 a3 := Tryz.isAgg3
 z3 := Tryz.sizeOf3
 v3 := Tryz.zeroValue3
 t9 := Tryz.underlying9
 a9 := Tryz.isAgg9
 z9 := Tryz.sizeOf9
 v9 := Tryz.zeroValue9
 t37 := Tryz.underlying43
 a37 := Tryz.isAgg43
 z37 := Tryz.sizeOf43
 v37 := Tryz.zeroValue43
 t70 := Tryz.underlying42
 a70 := Tryz.isAgg42
 z70 := Tryz.sizeOf42
 v70 := Tryz.zeroValue42
 t72 := Tryz.underlying45
 a72 := Tryz.isAgg45
 z72 := Tryz.sizeOf45
 v72 := Tryz.zeroValue45
 t127 := Tryz.underlying65
 a127 := Tryz.isAgg65
 z127 := Tryz.sizeOf65
 v127 := Tryz.zeroValue65 }
theorem Tryz.Builder_Extra_169 : Builder.Extra Tryz.prog Tryz.lays169_ren := {
 sizeBuilder := by kernel_rfl
 liesBuilder := by kernel_rfl
 t5 := Tryz.underlying5
 a5 := Tryz.isAgg5
 z5 := Tryz.sizeOf5
 v5 := Tryz.zeroValue5
 infoByte := by kernel_rfl
 cellsByte := by kernel_rfl
 sizeByte := by kernel_rfl
 neB5 := by decide }
open Go.RowKit in
theorem Tryz.Builder_String_any (B b : Nat) (l : List UInt8) (w : World) (h : Lib.IsBuilder 45 5 B b (Lib.byteCells l) w) (hBw : B ≤ w.heap.size) :
  Calls Tryz.prog 22 #[.pointer (some ⟨b,0,none⟩)] w fun e w' => e = .returned (.string ⟨l.toArray⟩) ∧ Below B w w' := Any.Builder_String_any Tryz.lays169 Tryz.Builder_Extra_169 B b l w h hBw
def Tryz.laysM173_ren : Go.Shelf.Ren := ⟨fun | 173 => 56 | 246 => 65 | 283 => 81 | 284 => 82 | 285 => 83 | 286 => 84 | 129 => 99 | 317 => 98 | 318 => 100 | 319 => 101 | 320 => 102 | 337 => 114 | 338 => 115 | n => n,fun | 2 => 2 | 3 => 3 | 9 => 9 | 4 => 4 | 171 => 113 | 0 => 0 | 53 => 99 | 37 => 43 | 5 => 5 | 173 => 116 | 212 => 132 | 51 => 120 | 20 => 20 | 213 => 133 | 46 => 102 | 232 => 160 | 233 => 161 | n => n,fun | 17 => 4 | 18 => 5 | 19 => 6 | n => n⟩
theorem Tryz.laysM173 : Go.Proofs.LaysM.n173 Tryz.prog Tryz.laysM173_ren := {
 mixed := by kernel_rfl
 f129 := Tryz.func99.trans (congrArg some (by kernel_rfl))
 f173 := Tryz.func56.trans (congrArg some (by kernel_rfl))
 f246 := Tryz.func65.trans (congrArg some (by kernel_rfl))
 f283 := Tryz.func81.trans (congrArg some (by kernel_rfl))
 f284 := Tryz.func82.trans (congrArg some (by kernel_rfl))
 f285 := Tryz.func83.trans (congrArg some (by kernel_rfl))
 f286 := Tryz.func84.trans (congrArg some (by kernel_rfl))
 f317 := Tryz.func98.trans (congrArg some (by kernel_rfl))
 f318 := Tryz.func100.trans (congrArg some (by kernel_rfl))
 f319 := Tryz.func101.trans (congrArg some (by kernel_rfl))
 f320 := Tryz.func102.trans (congrArg some (by kernel_rfl))
 f337 := Tryz.func114.trans (congrArg some (by kernel_rfl))
 f338 := Tryz.func115.trans (congrArg some (by kernel_rfl))
 t0 := Tryz.underlying0
 a0 := Tryz.isAgg0
 z0 := Tryz.sizeOf0
 v0 := Tryz.zeroValue0
 t2 := Tryz.underlying2
 a2 := Tryz.isAgg2
 z2 := Tryz.sizeOf2
 v2 := Tryz.zeroValue2
 t3 := Tryz.underlying3
 a3 := Tryz.isAgg3
 z3 := Tryz.sizeOf3
 v3 := Tryz.zeroValue3
 t4 := Tryz.underlying4
 a4 := Tryz.isAgg4
 z4 := Tryz.sizeOf4
 v4 := Tryz.zeroValue4
 t5 := Tryz.underlying5
 a5 := Tryz.isAgg5
 z5 := Tryz.sizeOf5
 v5 := Tryz.zeroValue5
 t9 := Tryz.underlying9
 a9 := Tryz.isAgg9
 z9 := Tryz.sizeOf9
 v9 := Tryz.zeroValue9
 t20 := Tryz.underlying20
 a20 := Tryz.isAgg20
 z20 := Tryz.sizeOf20
 v20 := Tryz.zeroValue20
 t37 := Tryz.underlying43
 a37 := Tryz.isAgg43
 z37 := Tryz.sizeOf43
 v37 := Tryz.zeroValue43
 t46 := Tryz.underlying102
 a46 := Tryz.isAgg102
 z46 := Tryz.sizeOf102
 v46 := Tryz.zeroValue102
 t51 := Tryz.underlying120
 a51 := Tryz.isAgg120
 z51 := Tryz.sizeOf120
 v51 := Tryz.zeroValue120
 t53 := Tryz.underlying99
 a53 := Tryz.isAgg99
 z53 := Tryz.sizeOf99
 v53 := Tryz.zeroValue99
 t171 := Tryz.underlying113
 a171 := Tryz.isAgg113
 z171 := Tryz.sizeOf113
 v171 := Tryz.zeroValue113
 t173 := Tryz.underlying116
 a173 := Tryz.isAgg116
 z173 := Tryz.sizeOf116
 v173 := Tryz.zeroValue116
 t212 := Tryz.underlying132
 a212 := Tryz.isAgg132
 z212 := Tryz.sizeOf132
 v212 := Tryz.zeroValue132
 t213 := Tryz.underlying133
 a213 := Tryz.isAgg133
 z213 := Tryz.sizeOf133
 t232 := Tryz.underlying160
 a232 := Tryz.isAgg160
 z232 := Tryz.sizeOf160
 v232 := Tryz.zeroValue160
 t233 := Tryz.underlying161
 a233 := Tryz.isAgg161
 z233 := Tryz.sizeOf161
 v233 := Tryz.zeroValue161
 g17 := by kernel_rfl
 g18 := by kernel_rfl
 g19 := by kernel_rfl
 i0 := by kernel_rfl
 i2 := by kernel_rfl
 i3 := by kernel_rfl
 i4 := by kernel_rfl
 i5 := by kernel_rfl
 i9 := by kernel_rfl
 i20 := by kernel_rfl
 i37 := by kernel_rfl
 i46 := by kernel_rfl
 i51 := by kernel_rfl
 i53 := by kernel_rfl
 i171 := by kernel_rfl
 i173 := by kernel_rfl
 i212 := by kernel_rfl
 i232 := by kernel_rfl
 i233 := by kernel_rfl
 m17 := by kernel_rfl
 m18 := by kernel_rfl
 m19 := by kernel_rfl }
open Go.RowKit Go.Sort Go.Lib in
theorem Tryz.strconv_FormatInt_10 (n : Int) (h0 : -9223372036854775808 ≤ n) (h1 : n ≤ 9223372036854775807) (w : World) (htab : Lib.TabIs Tryz.prog w "internal/strconv.uint64pow10" .u64 Lib.pow10Tab) :
  Calls Tryz.prog 56 #[.int .i64 n,.int .i64 10] w fun e w' => e = .returned (.string ⟨(Lib.itoa n).toArray⟩) ∧ ∃ k os,w' = grow (w.drewN k) os := Any.strconv_FormatInt_10 Tryz.laysM173 n h0 h1 w htab
def Tryz.laysC174_ren : Go.Shelf.Ren := ⟨fun | 174 => 91 | 247 => 107 | 245 => 108 | 287 => 126 | 279 => 127 | 280 => 128 | 281 => 129 | 282 => 130 | 321 => 135 | 322 => 136 | 316 => 137 | 171 => 36 | 205 => 138 | 243 => 54 | 246 => 65 | 283 => 81 | 284 => 82 | 285 => 83 | 286 => 84 | 129 => 99 | 317 => 98 | 318 => 100 | 319 => 101 | 320 => 102 | 337 => 114 | 338 => 115 | n => n,fun | 9 => 9 | 3 => 3 | 2 => 2 | 75 => 47 | 85 => 125 | 4 => 4 | 167 => 153 | 5 => 5 | 53 => 99 | 175 => 148 | 46 => 102 | 168 => 154 | 37 => 43 | 0 => 0 | 210 => 166 | 21 => 21 | 127 => 65 | 145 => 185 | 143 => 183 | 171 => 113 | 173 => 116 | 212 => 132 | 51 => 120 | 20 => 20 | 213 => 133 | 232 => 160 | 233 => 161 | 80 => 53 | n => n,fun | 15 => 7 | 16 => 8 | 17 => 4 | 18 => 5 | 19 => 6 | n => n⟩
theorem Tryz.laysC174 : Go.Proofs.LaysC.n174 Tryz.prog Tryz.laysC174_ren := {
 mixed := by kernel_rfl
 f129 := Tryz.func99.trans (congrArg some (by kernel_rfl))
 f171 := Tryz.func36.trans (congrArg some (by kernel_rfl))
 f174 := Tryz.func91.trans (congrArg some (by kernel_rfl))
 f205 := Tryz.func138.trans (congrArg some (by kernel_rfl))
 f243 := Tryz.func54.trans (congrArg some (by kernel_rfl))
 f245 := Tryz.func108.trans (congrArg some (by kernel_rfl))
 f246 := Tryz.func65.trans (congrArg some (by kernel_rfl))
 f247 := Tryz.func107.trans (congrArg some (by kernel_rfl))
 f279 := Tryz.func127.trans (congrArg some (by kernel_rfl))
 f280 := Tryz.func128.trans (congrArg some (by kernel_rfl))
 f281 := Tryz.func129.trans (congrArg some (by kernel_rfl))
 f282 := Tryz.func130.trans (congrArg some (by kernel_rfl))
 f283 := Tryz.func81.trans (congrArg some (by kernel_rfl))
 f284 := Tryz.func82.trans (congrArg some (by kernel_rfl))
 f285 := Tryz.func83.trans (congrArg some (by kernel_rfl))
 f286 := Tryz.func84.trans (congrArg some (by kernel_rfl))
 f287 := Tryz.func126.trans (congrArg some (by kernel_rfl))
 f316 := Tryz.func137.trans (congrArg some (by kernel_rfl))
 f317 := Tryz.func98.trans (congrArg some (by kernel_rfl))
 f318 := Tryz.func100.trans (congrArg some (by kernel_rfl))
 f319 := Tryz.func101.trans (congrArg some (by kernel_rfl))
 f320 := Tryz.func102.trans (congrArg some (by kernel_rfl))
 f321 := Tryz.func135.trans (congrArg some (by kernel_rfl))
 f322 := Tryz.func136.trans (congrArg some (by kernel_rfl))
 f337 := Tryz.func114.trans (congrArg some (by kernel_rfl))
 f338 := Tryz.func115.trans (congrArg some (by kernel_rfl))
 t0 := Tryz.underlying0
 a0 := Tryz.isAgg0
 z0 := Tryz.sizeOf0
 v0 := Tryz.zeroValue0
 t2 := Tryz.underlying2
 a2 := Tryz.isAgg2
 z2 := Tryz.sizeOf2
 v2 := Tryz.zeroValue2
 t3 := Tryz.underlying3
 a3 := Tryz.isAgg3
 z3 := Tryz.sizeOf3
 v3 := Tryz.zeroValue3
 t4 := Tryz.underlying4
 a4 := Tryz.isAgg4
 z4 := Tryz.sizeOf4
 v4 := Tryz.zeroValue4
 t5 := Tryz.underlying5
 a5 := Tryz.isAgg5
 z5 := Tryz.sizeOf5
 v5 := Tryz.zeroValue5
 t9 := Tryz.underlying9
 a9 := Tryz.isAgg9
 z9 := Tryz.sizeOf9
 v9 := Tryz.zeroValue9
 t20 := Tryz.underlying20
 a20 := Tryz.isAgg20
 z20 := Tryz.sizeOf20
 v20 := Tryz.zeroValue20
 t21 := Tryz.underlying21
 a21 := Tryz.isAgg21
 z21 := Tryz.sizeOf21
 v21 := Tryz.zeroValue21
 t37 := Tryz.underlying43
 a37 := Tryz.isAgg43
 z37 := Tryz.sizeOf43
 v37 := Tryz.zeroValue43
 t46 := Tryz.underlying102
 a46 := Tryz.isAgg102
 z46 := Tryz.sizeOf102
 v46 := Tryz.zeroValue102
 t51 := Tryz.underlying120
 a51 := Tryz.isAgg120
 z51 := Tryz.sizeOf120
 v51 := Tryz.zeroValue120
 t53 := Tryz.underlying99
 a53 := Tryz.isAgg99
 z53 := Tryz.sizeOf99
 v53 := Tryz.zeroValue99
 t75 := Tryz.underlying47
 a75 := Tryz.isAgg47
 z75 := Tryz.sizeOf47
 v75 := Tryz.zeroValue47
 t85 := Tryz.underlying125
 a85 := Tryz.isAgg125
 z85 := Tryz.sizeOf125
 v85 := Tryz.zeroValue125
 t127 := Tryz.underlying65
 a127 := Tryz.isAgg65
 z127 := Tryz.sizeOf65
 v127 := Tryz.zeroValue65
 t143 := Tryz.underlying183
 a143 := Tryz.isAgg183
 z143 := Tryz.sizeOf183
 v143 := Tryz.zeroValue183
 t145 := Tryz.underlying185
 a145 := Tryz.isAgg185
 z145 := Tryz.sizeOf185
 v145 := Tryz.zeroValue185
 t167 := Tryz.underlying153
 a167 := Tryz.isAgg153
 z167 := Tryz.sizeOf153
 v167 := Tryz.zeroValue153
 t168 := Tryz.underlying154
 a168 := Tryz.isAgg154
 z168 := Tryz.sizeOf154
 v168 := Tryz.zeroValue154
 t171 := Tryz.underlying113
 a171 := Tryz.isAgg113
 z171 := Tryz.sizeOf113
 v171 := Tryz.zeroValue113
 t173 := Tryz.underlying116
 a173 := Tryz.isAgg116
 z173 := Tryz.sizeOf116
 v173 := Tryz.zeroValue116
 t175 := Tryz.underlying148
 a175 := Tryz.isAgg148
 z175 := Tryz.sizeOf148
 v175 := Tryz.zeroValue148
 t210 := Tryz.underlying166
 a210 := Tryz.isAgg166
 z210 := Tryz.sizeOf166
 v210 := Tryz.zeroValue166
 t212 := Tryz.underlying132
 a212 := Tryz.isAgg132
 z212 := Tryz.sizeOf132
 v212 := Tryz.zeroValue132
 t213 := Tryz.underlying133
 a213 := Tryz.isAgg133
 z213 := Tryz.sizeOf133
 t232 := Tryz.underlying160
 a232 := Tryz.isAgg160
 z232 := Tryz.sizeOf160
 v232 := Tryz.zeroValue160
 t233 := Tryz.underlying161
 a233 := Tryz.isAgg161
 z233 := Tryz.sizeOf161
 v233 := Tryz.zeroValue161
 g15 := by kernel_rfl
 g16 := by kernel_rfl
 g17 := by kernel_rfl
 g18 := by kernel_rfl
 g19 := by kernel_rfl
 t80 := Tryz.underlying53
 a80 := Tryz.isAgg53
 z80 := Tryz.sizeOf53
 v80 := Tryz.zeroValue53
 i0 := by kernel_rfl
 i2 := by kernel_rfl
 i3 := by kernel_rfl
 i4 := by kernel_rfl
 i5 := by kernel_rfl
 i9 := by kernel_rfl
 i20 := by kernel_rfl
 i21 := by kernel_rfl
 i37 := by kernel_rfl
 i46 := by kernel_rfl
 i51 := by kernel_rfl
 i53 := by kernel_rfl
 i75 := by kernel_rfl
 i80 := by kernel_rfl
 i85 := by kernel_rfl
 i127 := by kernel_rfl
 i143 := by kernel_rfl
 i145 := by kernel_rfl
 i167 := by kernel_rfl
 i168 := by kernel_rfl
 i171 := by kernel_rfl
 i173 := by kernel_rfl
 i175 := by kernel_rfl
 i210 := by kernel_rfl
 i212 := by kernel_rfl
 i232 := by kernel_rfl
 i233 := by kernel_rfl
 m15 := by kernel_rfl
 m16 := by kernel_rfl
 m17 := by kernel_rfl
 m18 := by kernel_rfl
 m19 := by kernel_rfl
 c0 := by kernel_rfl
 c2 := by kernel_rfl
 c3 := by kernel_rfl
 c4 := by kernel_rfl
 c5 := by kernel_rfl
 c9 := by kernel_rfl
 c20 := by kernel_rfl
 c21 := by kernel_rfl
 c37 := by kernel_rfl
 c46 := by kernel_rfl
 c51 := by kernel_rfl
 c53 := by kernel_rfl
 c75 := by kernel_rfl
 c80 := by kernel_rfl
 c85 := by kernel_rfl
 c127 := by kernel_rfl
 c143 := by kernel_rfl
 c145 := by kernel_rfl
 c167 := by kernel_rfl
 c168 := by kernel_rfl
 c171 := by kernel_rfl
 c173 := by kernel_rfl
 c175 := by kernel_rfl
 c210 := by kernel_rfl
 c212 := by kernel_rfl
 c213 := by kernel_rfl
 c232 := by kernel_rfl
 c233 := by kernel_rfl }
open Go.RowKit in
theorem Tryz.strconv_ParseInt_10_at64_ok (s : ByteArray) (hmax : s.size ≤ 9223372036854775806) (v : Int) (h : Lib.parseIntB 64 s.data.toList = .ok v) (w : World) :
  Calls Tryz.prog 91 #[.string s,.int .i64 10,.int .i64 64] w fun e w' => e = .returned (.tuple #[.int .i64 v,.nilIface]) ∧ (w' = w ∨ ∃ t,w' = Lib.bytesWorld w 5 t) := Any.strconv_ParseInt_10_at64_ok Tryz.laysC174 s hmax v h w
open Go.RowKit in
theorem Tryz.strconv_ParseInt_10_at64_syntax (s : ByteArray) (hlim : s.size ≤ 281474976710656) (h : Lib.parseIntB 64 s.data.toList = .«syntax») (ev : Value) (w : World) (hv : w.cell? ⟨7,0,none⟩ = some ev) (hev : ev = .nilIface ∨ ∃ te pe,ev = .iface te pe) :
  Calls Tryz.prog 91 #[.string s,.int .i64 10,.int .i64 64] w fun e w' => ∃ N,e = .returned (.tuple #[.int .i64 (0),.iface 154 (.pointer (some ⟨N,0,none⟩))]) ∧ w.heap.size ≤ N ∧ w'.heap[N]? = some (.cells #[.string ⟨#[80,97,114,115,101,73,110,116]⟩,.string s,ev] 166 (0,0)) ∧ Below w.heap.size w w' := Any.strconv_ParseInt_10_at64_syntax Tryz.laysC174 s hlim h ev w hv hev
open Go.RowKit in
theorem Tryz.strconv_ParseInt_10_at64_range (s : ByteArray) (hlim : s.size ≤ 281474976710656) (h : Lib.parseIntB 64 s.data.toList = .range) (ev : Value) (w : World) (hv : w.cell? ⟨8,0,none⟩ = some ev) (hev : ev = .nilIface ∨ ∃ te pe,ev = .iface te pe) :
  Calls Tryz.prog 91 #[.string s,.int .i64 10,.int .i64 64] w fun e w' => ∃ N,e = .returned (.tuple #[.int .i64 (Lib.intSat 64 s.data.toList),.iface 154 (.pointer (some ⟨N,0,none⟩))]) ∧ w.heap.size ≤ N ∧ w'.heap[N]? = some (.cells #[.string ⟨#[80,97,114,115,101,73,110,116]⟩,.string s,ev] 166 (0,0)) ∧ Below w.heap.size w w' := Any.strconv_ParseInt_10_at64_range Tryz.laysC174 s hlim h ev w hv hev
def Tryz.lays138_ren : Go.Shelf.Ren := ⟨fun | 138 => 25 | 195 => 38 | 218 => 39 | 143 => 40 | 219 => 57 | 217 => 68 | 225 => 69 | 224 => 70 | 267 => 71 | 266 => 87 | 314 => 88 | n => n,fun | 9 => 9 | 3 => 3 | 4 => 4 | 5 => 5 | 0 => 0 | 46 => 102 | 146 => 121 | 51 => 120 | n => n,fun | 1 => 1 | n => n⟩
theorem Tryz.lays138 : Go.Proofs.Lays.n138 Tryz.prog Tryz.lays138_ren := {
 mixed := by kernel_rfl
 f138 := Tryz.func25.trans (congrArg some (by kernel_rfl))
 f143 := Tryz.func40.trans (congrArg some (by kernel_rfl))
 f195 := Tryz.func38.trans (congrArg some (by kernel_rfl))
 f217 := Tryz.func68.trans (congrArg some (by kernel_rfl))
 f218 := Tryz.func39.trans (congrArg some (by kernel_rfl))
 f219 := Tryz.func57.trans (congrArg some (by kernel_rfl))
 f224 := Tryz.func70.trans (congrArg some (by kernel_rfl))
 f225 := Tryz.func69.trans (congrArg some (by kernel_rfl))
 f266 := Tryz.func87.trans (congrArg some (by kernel_rfl))
 f267 := Tryz.func71.trans (congrArg some (by kernel_rfl))
 f314 := Tryz.func88.trans (congrArg some (by kernel_rfl))
 t0 := Tryz.underlying0
 a0 := Tryz.isAgg0
 z0 := Tryz.sizeOf0
 v0 := Tryz.zeroValue0
 t3 := Tryz.underlying3
 a3 := Tryz.isAgg3
 z3 := Tryz.sizeOf3
 v3 := Tryz.zeroValue3
 t4 := Tryz.underlying4
 a4 := Tryz.isAgg4
 z4 := Tryz.sizeOf4
 v4 := Tryz.zeroValue4
 t5 := Tryz.underlying5
 a5 := Tryz.isAgg5
 z5 := Tryz.sizeOf5
 v5 := Tryz.zeroValue5
 t9 := Tryz.underlying9
 a9 := Tryz.isAgg9
 z9 := Tryz.sizeOf9
 v9 := Tryz.zeroValue9
 t46 := Tryz.underlying102
 a46 := Tryz.isAgg102
 z46 := Tryz.sizeOf102
 v46 := Tryz.zeroValue102
 t51 := Tryz.underlying120
 a51 := Tryz.isAgg120
 z51 := Tryz.sizeOf120
 v51 := Tryz.zeroValue120
 t146 := Tryz.underlying121
 a146 := Tryz.isAgg121
 z146 := Tryz.sizeOf121
 v146 := Tryz.zeroValue121
 g1 := by kernel_rfl }
open Go.RowKit Go.Lib in
theorem Tryz.strings_Count_one (s : ByteArray) (c : UInt8) (w : World) :
  Calls Tryz.prog 25 #[.string s,.string ⟨#[c]⟩] w fun e w' => e = .returned (.int .i64 (Lib.countByte s.data.toList c)) ∧ w' = w := Any.strings_Count_one Tryz.lays138 s c w
def Tryz.lays166_ren : Go.Shelf.Ren := ⟨fun | 166 => 19 | 240 => 30 | 276 => 51 | n => n,fun | 0 => 0 | 3 => 3 | 4 => 4 | 9 => 9 | 20 => 20 | 37 => 43 | 70 => 42 | 72 => 45 | 75 => 47 | 164 => 85 | 80 => 53 | 5 => 5 | n => n,fun | n => n⟩
theorem Tryz.lays166 : Go.Proofs.Lays.n166 Tryz.prog Tryz.lays166_ren := {
 mixed := by kernel_rfl
 f166 := Tryz.func19.trans (congrArg some (by kernel_rfl))
 f240 := Tryz.func30.trans (congrArg some (by kernel_rfl))
 f276 := Tryz.func51.trans (congrArg some (by kernel_rfl))
 t0 := Tryz.underlying0
 a0 := Tryz.isAgg0
 z0 := Tryz.sizeOf0
 v0 := Tryz.zeroValue0
 t3 := Tryz.underlying3
 a3 := Tryz.isAgg3
 z3 := Tryz.sizeOf3
 v3 := Tryz.zeroValue3
 t4 := Tryz.underlying4
 a4 := Tryz.isAgg4
 z4 := Tryz.sizeOf4
 v4 := Tryz.zeroValue4
 t9 := Tryz.underlying9
 a9 := Tryz.isAgg9
 z9 := Tryz.sizeOf9
 v9 := Tryz.zeroValue9
 t20 := Tryz.underlying20
 a20 := Tryz.isAgg20
 z20 := Tryz.sizeOf20
 v20 := Tryz.zeroValue20
 t37 := Tryz.underlying43
 a37 := Tryz.isAgg43
 z37 := Tryz.sizeOf43
 v37 := Tryz.zeroValue43
 t70 := Tryz.underlying42
 a70 := Tryz.isAgg42
 z70 := Tryz.sizeOf42
 v70 := Tryz.zeroValue42
 t72 := Tryz.underlying45
 a72 := Tryz.isAgg45
 z72 := Tryz.sizeOf45
 v72 := Tryz.zeroValue45
 t75 := Tryz.underlying47
 a75 := Tryz.isAgg47
 z75 := Tryz.sizeOf47
 v75 := Tryz.zeroValue47
 t164 := Tryz.underlying85
 a164 := Tryz.isAgg85
 z164 := Tryz.sizeOf85
 v164 := Tryz.zeroValue85 }
theorem Tryz.Builder_Extra_166 : Builder.Extra Tryz.prog Tryz.lays166_ren := {
 sizeBuilder := by kernel_rfl
 liesBuilder := by kernel_rfl
 t5 := Tryz.underlying5
 a5 := Tryz.isAgg5
 z5 := Tryz.sizeOf5
 v5 := Tryz.zeroValue5
 infoByte := by kernel_rfl
 cellsByte := by kernel_rfl
 sizeByte := by kernel_rfl
 neB5 := by decide }
end Go.Proofs.YtalaajniammggaaGreatDoor

/- What asm's walks stand on; the texts of numbers. -/
namespace Go.Proofs.YtalaajniammggaaGreatDoor
open Go.RowKit
def wordsA : Array Value := (wordsL.map fun l => Value.string ⟨l.toArray⟩).toArray
theorem wordsA_size : wordsA.size = 34 := by decide
theorem wordsA_at (i : Nat) (hi : i < 34) : wordsA[i]? = some (.string ⟨(wordsL.getD i []).toArray⟩) := by
 have h : i < wordsL.length := by rw [words_len]; exact hi
 unfold wordsA
 rw [List.getElem?_toArray,List.getElem?_map,List.getElem?_eq_getElem h,List.getD_eq_getElem?_getD,List.getElem?_eq_getElem h]
 rfl
def Wds (w : World) : Prop := ∃ t fr,w.heap[0]? = some (.cells wordsA t fr)
theorem wds_cell {w : World} (h : Wds w) (i : Nat) (hi : i < 34) : w.cell? ⟨0,i,none⟩ = some (.string ⟨(wordsL.getD i []).toArray⟩) := by
 obtain ⟨t,fr,h⟩ := h
 simp [World.cell?,h,wordsA_at i hi]
theorem Wds.kept {w w' : World} (h : Wds w) (hb : Below w.heap.size w w') : Wds w' := by
 have hlt := World.block_lt_of_cell? w _ (wds_cell h 0 (by omega))
 obtain ⟨t,fr,h⟩ := h
 exact ⟨t,fr,(hb.block _ hlt).trans h⟩
structure Env where
 fp : Int → List UInt8
 F : FP fp
 A : World → Prop
 kept : ∀ {w w' : World},A w → Below w.heap.size w w' → A w'
 fld : ∀ {w : World},A w → Fld w
 wds : ∀ {w : World},A w → Wds w
 tab : ∀ {w : World}, A w → Lib.TabIs Tryz.prog w "internal/strconv.uint64pow10" .u64 Lib.pow10Tab
 syn : ∀ {w : World},A w → ∃ te pe,w.cell? ⟨7,0,none⟩ = some (.iface te pe)
 rng : ∀ {w : World},A w → ∃ te pe,w.cell? ⟨8,0,none⟩ = some (.iface te pe)
 pr : ∀ (v : Int) (w : World),A w → Calls Tryz.prog 63 #[.int .i64 v] w fun e w' => e = .returned (.string ⟨(fp v).toArray⟩) ∧ Below w.heap.size w w'
 pa : ∀ (s : ByteArray),s.size ≤ 140737488355328 → ∀ (w : World),A w → Calls Tryz.prog 90 #[.string s] w fun e w' => ∃ y k : Int,((y = 0 ∧ k = 4 ∧ ∀ v,InR v → fp v ≠ s.data.toList) ∨ (InR y ∧ k = 0 ∧ fp y = s.data.toList)) ∧ e = .returned (.tuple #[.int .i64 y,.int .i64 k]) ∧ Below w.heap.size w w'
theorem ba_list (l : List UInt8) : (⟨l.toArray⟩ : ByteArray).data.toList = l := by simp
theorem ba_app (a b : List UInt8) : (⟨a.toArray⟩ : ByteArray) ++ ⟨b.toArray⟩ = ⟨(a ++ b).toArray⟩ := by
 apply ByteArray.ext
 simp
theorem ba_sz (l : List UInt8) : (⟨l.toArray⟩ : ByteArray).size = l.length := by
 show l.toArray.size = _
 simp
theorem finds (V : Env) (n : Int) (h0 : -9223372036854775808 ≤ n) (h1 : n ≤ 9223372036854775807) (w : World) (A : V.A w) :
  Calls Tryz.prog 56 #[.int .i64 n,.int .i64 10] w fun e w' => e = .returned (.string ⟨(Lib.itoa n).toArray⟩) ∧ Below w.heap.size w w' :=
 (Tryz.strconv_FormatInt_10 n h0 h1 w (V.tab A)).mono fun _ _ ⟨h,k,os,e⟩ => ⟨h,e ▸ Lib.below_grow _ w (Nat.le_refl _) k os⟩
theorem itoa_reg (r : Nat) (h : r < 8) (w : World) :
  Calls Tryz.prog 36 #[.int .i64 r] w fun e w' => e = .returned (.string ⟨(Lib.decDigits r).toArray⟩) ∧ w' = w := Tryz.strconv_Itoa_small r (by omega) w
theorem itoa_any (V : Env) (n : Int) (h0 : -9223372036854775808 ≤ n) (h1 : n ≤ 9223372036854775807) (w : World) (A : V.A w) :
  Calls Tryz.prog 36 #[.int .i64 n] w fun e w' => e = .returned (.string ⟨(Lib.itoa n).toArray⟩) ∧ Below w.heap.size w w' :=
 (Tryz.strconv_Itoa n h0 h1 w (V.tab A)).mono fun _ _ ⟨h,k,os,e⟩ => ⟨h,e ▸ Lib.below_grow _ w (Nat.le_refl _) k os⟩
theorem add_ok (a b : ByteArray) (h : a.size + b.size ≤ 9223372036854775807) (W : World) : (Op.stringOp .add a b).run Tryz.prog W = .ok (.string (a ++ b)) W := run_string_add_sum W a b h
theorem ret_str {a b : ByteArray} (h : a = b) : Ending.returned (.string a) = .returned (.string b) := by rw [h]
set_option maxRecDepth 100000 in
theorem numText_any (V : Env) (o v : Int) (h : InR v) (w : World) (A : V.A w) :
  Calls Tryz.prog 52 #[.int .i64 o,.int .i64 v] w fun e w' => e = .returned (.string ⟨(immL V.fp o v).toArray⟩) ∧ Below w.heap.size w w' := by
 have hp := V.pr v w A
 have hl := V.F.len v
 obtain ⟨P,hP⟩ : ∃ P : ByteArray,Hid (⟨(V.fp v).toArray⟩ = P) := ⟨_,rfl⟩
 have hs : P.size ≤ 25 := by rw [← hP.out,ba_sz]; exact hl
 have ad := add_ok ⟨#[102]⟩ P (by show 1 + P.size ≤ _; omega)
 rw [hP.out] at hp
 have hf := finds V v h.1 h.2 w A
 obtain ⟨T,hT⟩ : ∃ T : ByteArray,Hid (⟨(immL V.fp o v).toArray⟩ = T) := ⟨_,rfl⟩
 rw [hT.out]
 have key : (o == 1) = true → (v < -4503599627370496 ∨ 4503599627370496 < v) → Hid (T = (⟨#[102]⟩ : ByteArray) ++ P) := fun h1 h2 => hd (by
  rw [← hT.out]
  unfold immL
  rw [if_pos ⟨by simpa using h1,h2⟩]
  rw [← hP.out]
  exact (ba_app [102] (V.fp v)).symm)
 have key2 : ¬ Far o v → Hid (T = ⟨(Lib.itoa v).toArray⟩) := fun h1 => hd (by
  rw [← hT.out]
  unfold immL
  rw [if_neg h1])
 clear hT hP hl hs
 by_cases h1 : o = 1
 ·by_cases h2 : v < -4503599627370496
  ·have e := key (by simpa using h1) (.inl h2)
   subst h1
   clear key key2 h hf
   go_enter Tryz.func52,Tryz.ntmps52
   go_wp2_with fail
   refine hp.mono ?_
   rintro e1 w1 ⟨rfl,b1⟩
   go_wp2_with fail
   go_ret
   exact ⟨ret_str e.out.symm,b1⟩
  ·have d2 : decide (v < -4503599627370496) = false := by simpa using h2
   by_cases h3 : 4503599627370496 < v
   ·have e := key (by simpa using h1) (.inr h3)
    subst h1
    clear key key2 h hf h2
    go_enter Tryz.func52,Tryz.ntmps52
    go_wp2_with fail
    refine hp.mono ?_
    rintro e1 w1 ⟨rfl,b1⟩
    go_wp2_with fail
    go_ret
    exact ⟨ret_str e.out.symm,b1⟩
   ·have d3 : decide (4503599627370496 < v) = false := by simpa using h3
    have e := key2 (fun f => by rcases f.2 with f | f <;> omega)
    subst h1
    clear key key2 h hp h2 h3
    go_enter Tryz.func52,Tryz.ntmps52
    go_wp2_with fail
    refine hf.mono ?_
    rintro e1 w1 ⟨rfl,b1⟩
    go_wp2_with fail
    go_ret
    exact ⟨ret_str e.out.symm,b1⟩
 ·have d1 : (o == 1) = false := by simpa using h1
  have e := key2 (fun f => h1 f.1)
  clear key key2 h hp h1
  go_enter Tryz.func52,Tryz.ntmps52
  go_wp2_with fail
  refine hf.mono ?_
  rintro e1 w1 ⟨rfl,b1⟩
  go_wp2_with fail
  go_ret
  exact ⟨ret_str e.out.symm,b1⟩
end Go.Proofs.YtalaajniammggaaGreatDoor

/- The fields of an instruction, as a list; the text of one field. -/
namespace Go.Proofs.YtalaajniammggaaGreatDoor
open Go.RowKit
def intsV (l : List Nat) : List Value := l.map fun (x : Nat) => Value.int .i64 (x : Int)
theorem intsV_snoc (l : List Nat) (x : Nat) : intsV l ++ [.int .i64 (x : Int)] = intsV (l ++ [x]) := by simp [intsV]
def fu (a b c d : Bool) : Nat → List Nat
 | 0 => []
 | 1 => if a then [0] else []
 | 2 => (if a then [0] else []) ++ (if b then [1] else [])
 | 3 => (if a then [0] else []) ++ ((if b then [1] else []) ++ (if c then [2] else []))
 | _ => (if a then [0] else []) ++ ((if b then [1] else []) ++ ((if c then [2] else []) ++ (if d then [3] else [])))
theorem fu_fields (o : Int) : fieldsN o = fu (hA o) (hB o) (hC o) (hI o) 4 := rfl
theorem info3 : (Tryz.prog.info? 3).map (fun i => (i.zero,i.size,i.bytes)) = some (some (.int .i64 0),1,8) := by kernel_rfl
theorem own_nil (w : World) (B e : Nat) : w.ownsRow B e 1 (.slice none 0 0) 0 [] := ⟨by simp,.inl ⟨rfl,rfl⟩⟩
def flagN (a b c d : Bool) (k : Nat) : Bool := if k = 0 then a else if k = 1 then b else if k = 2 then c else d
theorem fu_no {a b c d : Bool} {k : Nat} (h : k < 4) (hf : flagN a b c d k = false) : fu a b c d (k + 1) = fu a b c d k := by
 have : k = 0 ∨ k = 1 ∨ k = 2 ∨ k = 3 := by omega
 rcases this with rfl | rfl | rfl | rfl <;> simp [flagN] at hf <;> subst hf <;> simp [fu]
theorem fu_yes {a b c d : Bool} {k : Nat} (h : k < 4) (hf : flagN a b c d k = true) : fu a b c d (k + 1) = fu a b c d k ++ [k] := by
 have : k = 0 ∨ k = 1 ∨ k = 2 ∨ k = 3 := by omega
 rcases this with rfl | rfl | rfl | rfl <;> simp [flagN] at hf <;> subst hf <;> simp [fu]
set_option maxRecDepth 100000 in
set_option maxHeartbeats 2000000 in
theorem fieldsOf_any (o : Int) (w : World) (hF : Fld w) :
    Calls Tryz.prog 31 #[.int .i64 o] w fun e w' => ∃ v n,e = .returned v ∧ w'.ownsRow w.heap.size 3 1 v n (intsV (fieldsN o)) ∧ (fieldsN o).length = n ∧ Below w.heap.size w w' := by
  obtain ⟨i0,hi,hz0,hz1,hz2⟩ := info_parts info3
  have hf := fields_any o w hF
  rw [fu_fields]
  generalize hA o = a at *
  generalize hB o = b at *
  generalize hC o = c at *
  generalize hI o = d at *
  have x0 : ∀ W,(Instr.index 87 (.agg #[.bool a,.bool b,.bool c,.bool d]) (.int .i64 0)).run Tryz.prog W = .ok (.bool a) W := fun W => by kernel_rfl
  have x1 : ∀ W,(Instr.index 87 (.agg #[.bool a,.bool b,.bool c,.bool d]) (.int .i64 1)).run Tryz.prog W = .ok (.bool b) W := fun W => by kernel_rfl
  have x2 : ∀ W,(Instr.index 87 (.agg #[.bool a,.bool b,.bool c,.bool d]) (.int .i64 2)).run Tryz.prog W = .ok (.bool c) W := fun W => by kernel_rfl
  have x3 : ∀ W,(Instr.index 87 (.agg #[.bool a,.bool b,.bool c,.bool d]) (.int .i64 3)).run Tryz.prog W = .ok (.bool d) W := fun W => by kernel_rfl
  go_enter Tryz.func31,Tryz.ntmps31
  go_wp2_with fail
  refine hf.mono ?_
  rintro e w1 ⟨rfl,rfl⟩
  clear hf
  go_wp2_with fail
  go_loopw [7,8,9,22] (fun s7 _ _ s22 wr => ∃ (z : Int) (k n : Nat) (L : List Nat),s22 = .int .i64 z ∧ z = k ∧ k ≤ 4 ∧ n ≤ k ∧ wr.ownsRow w1.heap.size 3 1 s7 n (intsV L) ∧ Hid (L = fu a b c d k ∧ L.length = n) ∧ Below w1.heap.size w1 wr) (fun _ _ _ s22 _ => 4 - (intOf s22).toNat)
  case atStart => exact ⟨0,0,0,[],rfl,rfl,by omega,by omega,own_nil _ _ _,Lib.hid ⟨rfl,rfl⟩,Below.refl _ _⟩
  case round =>
    obtain ⟨z,k,n,L,rfl,hz,hk,hn,hown,HL,hb⟩ := hrel
    have hsz := hb.size
    by_cases hlt : k < 4
    · rcases (show (k = 0 ∧ z = 0) ∨ (k = 1 ∧ z = 1) ∨ (k = 2 ∧ z = 2) ∨ (k = 3 ∧ z = 3) by omega) with ⟨rfl,rfl⟩ | ⟨rfl,rfl⟩ | ⟨rfl,rfl⟩ | ⟨rfl,rfl⟩
      · cases a
        · have HL' := Lib.hid (p := L = fu false b c d 1 ∧ L.length = n) ⟨HL.out.1.trans (fu_no (by omega) rfl).symm,HL.out.2⟩
          clear HL hz
          go_wp2_with fail
          first
            | exact ⟨⟨1,1,n,L,rfl,rfl,by omega,by omega,hown,HL',hb⟩,by simp [intOf]⟩
            | (go_roundw
               case rel => exact ⟨1,1,n,L,rfl,rfl,by omega,by omega,hown,HL',hb⟩
               case measure => simp [intOf])
        · have HL' := Lib.hid (p := L ++ [0] = fu true b c d 1 ∧ (L ++ [0]).length = n + 1) ⟨by rw [HL.out.1]; exact (fu_yes (by omega) rfl).symm,by simp [HL.out.2]⟩
          clear HL hz
          go_wp2_with (at_builtin; refine wpList_append_own _ rfl _ _ 62 rfl w1.heap.size 3 i0 (.int .i64 0) 1 8 Tryz.underlying62 hi hz0 hz1 hz2 rfl (by decide) _ _ _ rfl (hown.alloc _) ⟨_,0,none⟩ 1 1 [.int .i64 0] rfl rfl (cell_one_new _ _ _) (by simp [Value.oneCell']) (by unfold maxLen; omega) (by omega) (by simp; omega) ?_; intro v1 w2 hown1 hgrow1 hx1)
          have hown2 : w2.ownsRow w1.heap.size 3 1 v1 (n + 1) (intsV (L ++ [0])) := by rw [← intsV_snoc]; exact hown1
          have hb1 : Below w1.heap.size w1 w2 := (hb.alloc hsz _).grown hgrow1 (by simp; omega) (fun j hj => (hown.lt j hj).1)
          first
            | exact ⟨⟨1,1,n + 1,L ++ [0],rfl,rfl,by omega,by omega,hown2,HL',hb1⟩,by simp [intOf]⟩
            | (go_roundw
               case rel => exact ⟨1,1,n + 1,L ++ [0],rfl,rfl,by omega,by omega,hown2,HL',hb1⟩
               case measure => simp [intOf])
      · cases b
        · have HL' := Lib.hid (p := L = fu a false c d 2 ∧ L.length = n) ⟨HL.out.1.trans (fu_no (by omega) rfl).symm,HL.out.2⟩
          clear HL hz
          go_wp2_with fail
          first
            | exact ⟨⟨2,2,n,L,rfl,rfl,by omega,by omega,hown,HL',hb⟩,by simp [intOf]⟩
            | (go_roundw
               case rel => exact ⟨2,2,n,L,rfl,rfl,by omega,by omega,hown,HL',hb⟩
               case measure => simp [intOf])
        · have HL' := Lib.hid (p := L ++ [1] = fu a true c d 2 ∧ (L ++ [1]).length = n + 1) ⟨by rw [HL.out.1]; exact (fu_yes (by omega) rfl).symm,by simp [HL.out.2]⟩
          clear HL hz
          go_wp2_with (at_builtin; refine wpList_append_own _ rfl _ _ 62 rfl w1.heap.size 3 i0 (.int .i64 0) 1 8 Tryz.underlying62 hi hz0 hz1 hz2 rfl (by decide) _ _ _ rfl (hown.alloc _) ⟨_,0,none⟩ 1 1 [.int .i64 1] rfl rfl (cell_one_new _ _ _) (by simp [Value.oneCell']) (by unfold maxLen; omega) (by omega) (by simp; omega) ?_; intro v1 w2 hown1 hgrow1 hx1)
          have hown2 : w2.ownsRow w1.heap.size 3 1 v1 (n + 1) (intsV (L ++ [1])) := by rw [← intsV_snoc]; exact hown1
          have hb1 : Below w1.heap.size w1 w2 := (hb.alloc hsz _).grown hgrow1 (by simp; omega) (fun j hj => (hown.lt j hj).1)
          first
            | exact ⟨⟨2,2,n + 1,L ++ [1],rfl,rfl,by omega,by omega,hown2,HL',hb1⟩,by simp [intOf]⟩
            | (go_roundw
               case rel => exact ⟨2,2,n + 1,L ++ [1],rfl,rfl,by omega,by omega,hown2,HL',hb1⟩
               case measure => simp [intOf])
      · cases c
        · have HL' := Lib.hid (p := L = fu a b false d 3 ∧ L.length = n) ⟨HL.out.1.trans (fu_no (by omega) rfl).symm,HL.out.2⟩
          clear HL hz
          go_wp2_with fail
          first
            | exact ⟨⟨3,3,n,L,rfl,rfl,by omega,by omega,hown,HL',hb⟩,by simp [intOf]⟩
            | (go_roundw
               case rel => exact ⟨3,3,n,L,rfl,rfl,by omega,by omega,hown,HL',hb⟩
               case measure => simp [intOf])
        · have HL' := Lib.hid (p := L ++ [2] = fu a b true d 3 ∧ (L ++ [2]).length = n + 1) ⟨by rw [HL.out.1]; exact (fu_yes (by omega) rfl).symm,by simp [HL.out.2]⟩
          clear HL hz
          go_wp2_with (at_builtin; refine wpList_append_own _ rfl _ _ 62 rfl w1.heap.size 3 i0 (.int .i64 0) 1 8 Tryz.underlying62 hi hz0 hz1 hz2 rfl (by decide) _ _ _ rfl (hown.alloc _) ⟨_,0,none⟩ 1 1 [.int .i64 2] rfl rfl (cell_one_new _ _ _) (by simp [Value.oneCell']) (by unfold maxLen; omega) (by omega) (by simp; omega) ?_; intro v1 w2 hown1 hgrow1 hx1)
          have hown2 : w2.ownsRow w1.heap.size 3 1 v1 (n + 1) (intsV (L ++ [2])) := by rw [← intsV_snoc]; exact hown1
          have hb1 : Below w1.heap.size w1 w2 := (hb.alloc hsz _).grown hgrow1 (by simp; omega) (fun j hj => (hown.lt j hj).1)
          first
            | exact ⟨⟨3,3,n + 1,L ++ [2],rfl,rfl,by omega,by omega,hown2,HL',hb1⟩,by simp [intOf]⟩
            | (go_roundw
               case rel => exact ⟨3,3,n + 1,L ++ [2],rfl,rfl,by omega,by omega,hown2,HL',hb1⟩
               case measure => simp [intOf])
      · cases d
        · have HL' := Lib.hid (p := L = fu a b c false 4 ∧ L.length = n) ⟨HL.out.1.trans (fu_no (by omega) rfl).symm,HL.out.2⟩
          clear HL hz
          go_wp2_with fail
          first
            | exact ⟨⟨4,4,n,L,rfl,rfl,by omega,by omega,hown,HL',hb⟩,by simp [intOf]⟩
            | (go_roundw
               case rel => exact ⟨4,4,n,L,rfl,rfl,by omega,by omega,hown,HL',hb⟩
               case measure => simp [intOf])
        · have HL' := Lib.hid (p := L ++ [3] = fu a b c true 4 ∧ (L ++ [3]).length = n + 1) ⟨by rw [HL.out.1]; exact (fu_yes (by omega) rfl).symm,by simp [HL.out.2]⟩
          clear HL hz
          go_wp2_with (at_builtin; refine wpList_append_own _ rfl _ _ 62 rfl w1.heap.size 3 i0 (.int .i64 0) 1 8 Tryz.underlying62 hi hz0 hz1 hz2 rfl (by decide) _ _ _ rfl (hown.alloc _) ⟨_,0,none⟩ 1 1 [.int .i64 3] rfl rfl (cell_one_new _ _ _) (by simp [Value.oneCell']) (by unfold maxLen; omega) (by omega) (by simp; omega) ?_; intro v1 w2 hown1 hgrow1 hx1)
          have hown2 : w2.ownsRow w1.heap.size 3 1 v1 (n + 1) (intsV (L ++ [3])) := by rw [← intsV_snoc]; exact hown1
          have hb1 : Below w1.heap.size w1 w2 := (hb.alloc hsz _).grown hgrow1 (by simp; omega) (fun j hj => (hown.lt j hj).1)
          first
            | exact ⟨⟨4,4,n + 1,L ++ [3],rfl,rfl,by omega,by omega,hown2,HL',hb1⟩,by simp [intOf]⟩
            | (go_roundw
               case rel => exact ⟨4,4,n + 1,L ++ [3],rfl,rfl,by omega,by omega,hown2,HL',hb1⟩
               case measure => simp [intOf])
    · have e4 : k = 4 := by omega
      subst e4
      obtain rfl : z = 4 := by omega
      clear hz
      go_wp2_with fail
      go_ret
      exact ⟨_,n,rfl,by rw [← HL.out.1]; exact hown,by rw [← HL.out.1]; exact HL.out.2,hb⟩
end Go.Proofs.YtalaajniammggaaGreatDoor

/- The text of a field, the texts of all fields, a line of them. -/
namespace Go.Proofs.YtalaajniammggaaGreatDoor
open Go.RowKit
structure InsR (x : Ins) : Prop where
 a : InR x.a
 b : InR x.b
 c : InR x.c
 imm : InR x.imm
theorem reg_add (r : Int) (h : InR r) : ∃ P : ByteArray,Hid (⟨(Lib.itoa r).toArray⟩ = P) ∧ (∀ W,(Op.stringOp .add ⟨#[114]⟩ P).run Tryz.prog W = .ok (.string (⟨#[114]⟩ ++ P)) W) ∧ Hid ((⟨#[114]⟩ : ByteArray) ++ P = ⟨(regL r).toArray⟩) := by
 refine ⟨_,rfl,fun W => add_ok _ _ ?_ W,hd ?_⟩
 ·have := Lib.itoa_length_le r h.1 h.2
  have e := ba_sz (Lib.itoa r)
  show 1 + (⟨(Lib.itoa r).toArray⟩ : ByteArray).size ≤ _
  omega
 ·exact ba_app [114] (Lib.itoa r)
set_option maxRecDepth 100000 in
set_option maxHeartbeats 1000000 in
theorem fieldText_any (V : Env) (x : Ins) (hx : InsR x) (f : Nat) (hf : f ≤ 3) (w : World) (A : V.A w) :
  Calls Tryz.prog 32 #[insV x,.int .i64 f] w fun e w' => e = .returned (.string ⟨(fldL V.fp x f).toArray⟩) ∧ Below w.heap.size w w' := by
 have kb : ∀ o,Below w.heap.size w (w.alloc o) := fun o => (Below.refl _ w).alloc (Nat.le_refl _) o
 have hI : ∀ (r : Int),InR r → ∀ o,_ := fun r hr o => itoa_any V r hr.1 hr.2 (w.alloc o) (V.kept A (kb o))
 have hN : ∀ o,_ := fun o => numText_any V x.op x.imm hx.imm (w.alloc o) (V.kept A (kb o))
 obtain ⟨xo,xa,xb,xc,xi⟩ := x
 obtain ⟨ha,hb,hc,hi⟩ := hx
 simp only at ha hb hc hi hN
 unfold insV
 simp only
 rcases (show f = 0 ∨ f = 1 ∨ f = 2 ∨ f = 3 by omega) with rfl | rfl | rfl | rfl
 ·have hI := hI xa ha
  obtain ⟨P,hP,ad,hR⟩ := reg_add xa ha
  rw [hP.out] at hI
  have e0 : fldL V.fp ⟨xo,xa,xb,xc,xi⟩ 0 = regL xa := rfl
  rw [e0,← hR.out]
  clear hP hR hN ha hb hc hi e0
  go_enter Tryz.func32,Tryz.ntmps32
  go_wp2_with fail
  refine (hI _).mono ?_
  rintro e w1 ⟨rfl,b1⟩
  go_wp2_with fail
  go_ret
  exact ⟨rfl,(kb _).trans (b1.mono (kb _).size)⟩
 ·have hI := hI xb hb
  obtain ⟨P,hP,ad,hR⟩ := reg_add xb hb
  rw [hP.out] at hI
  have e0 : fldL V.fp ⟨xo,xa,xb,xc,xi⟩ 1 = regL xb := rfl
  rw [e0,← hR.out]
  clear hP hR hN ha hb hc hi e0
  go_enter Tryz.func32,Tryz.ntmps32
  go_wp2_with fail
  refine (hI _).mono ?_
  rintro e w1 ⟨rfl,b1⟩
  go_wp2_with fail
  go_ret
  exact ⟨rfl,(kb _).trans (b1.mono (kb _).size)⟩
 ·have hI := hI xc hc
  obtain ⟨P,hP,ad,hR⟩ := reg_add xc hc
  rw [hP.out] at hI
  have e0 : fldL V.fp ⟨xo,xa,xb,xc,xi⟩ 2 = regL xc := rfl
  rw [e0,← hR.out]
  clear hP hR hN ha hb hc hi e0
  go_enter Tryz.func32,Tryz.ntmps32
  go_wp2_with fail
  refine (hI _).mono ?_
  rintro e w1 ⟨rfl,b1⟩
  go_wp2_with fail
  go_ret
  exact ⟨rfl,(kb _).trans (b1.mono (kb _).size)⟩
 ·have e0 : fldL V.fp ⟨xo,xa,xb,xc,xi⟩ 3 = immL V.fp xo xi := rfl
  rw [e0]
  clear hI ha hb hc hi e0
  go_enter Tryz.func32,Tryz.ntmps32
  go_wp2_with fail
  refine (hN _).mono ?_
  rintro e w1 ⟨rfl,b1⟩
  go_wp2_with fail
  go_ret
  exact ⟨rfl,(kb _).trans (b1.mono (kb _).size)⟩
end Go.Proofs.YtalaajniammggaaGreatDoor

/- The texts of all fields; a line of them. -/
namespace Go.Proofs.YtalaajniammggaaGreatDoor
open Go.RowKit
def strsV (l : List (List UInt8)) : List Value := l.map fun s => Value.string ⟨s.toArray⟩
theorem strsV_snoc (l : List (List UInt8)) (x : List UInt8) : strsV l ++ [.string ⟨x.toArray⟩] = strsV (l ++ [x]) := by simp [strsV]
theorem info9 : (Tryz.prog.info? 9).map (fun i => (i.zero,i.size,i.bytes)) = some (some (.string ⟨#[]⟩),1,16) := by kernel_rfl
theorem own_cell {w : World} {B e n : Nat} {v : Value} {xs : List Value} (h : w.ownsRow B e 1 v n xs) (hn : xs.length = n) {i : Nat} {u : Value} (hu : xs[i]? = some u) : ∃ g cap,v = .slice (some ⟨g,0,none⟩) n cap ∧ w.cell? ⟨g,i,none⟩ = some u := by
 have hc := h
 have hi : i < xs.length := (List.getElem?_eq_some_iff.1 hu).1
 rcases h.2 with ⟨rfl,h0⟩ | ⟨g,cap,cur,rfl,_⟩
 ·omega
 ·refine ⟨g,cap,rfl,?_⟩
  have := hc.cells (g := g) rfl i u hu
  rwa [Addr.add_lit,Nat.zero_add] at this
theorem own_mono {w : World} {B B' e z n : Nat} {v : Value} {xs : List Value} (h : w.ownsRow B e z v n xs) (hB : B' ≤ B) : w.ownsRow B' e z v n xs := by
 obtain ⟨h1,h2⟩ := h
 refine ⟨h1,?_⟩
 rcases h2 with h2 | ⟨g,cap,cur,rfl,h3,h4⟩
 ·exact .inl h2
 ·exact .inr ⟨g,cap,cur,rfl,by omega,h4⟩
theorem own_slice {w : World} {B e n : Nat} {v : Value} {xs : List Value} (h : w.ownsRow B e 1 v n xs) : ∃ a cap,v = .slice a n cap := by
 rcases h.2 with ⟨rfl,rfl⟩ | ⟨g,cap,cur,rfl,_⟩
 ·exact ⟨_,_,rfl⟩
 ·exact ⟨_,_,rfl⟩
set_option maxRecDepth 100000 in
set_option maxHeartbeats 2000000 in
theorem fieldTexts_any (V : Env) (x : Ins) (hx : InsR x) (w : World) (A : V.A w) :
    Calls Tryz.prog 21 #[insV x] w fun e w' => ∃ v n,e = .returned v ∧ w'.ownsRow w.heap.size 9 1 v n (strsV ((fieldsN x.op).map (fldL V.fp x))) ∧ (fieldsN x.op).length = n ∧ Below w.heap.size w w' := by
  obtain ⟨i0,hi,hz0,hz1,hz2⟩ := info_parts info9
  have HA := Lib.hid A
  have HX := Lib.hid hx
  have hle : ∀ i f,(fieldsN x.op)[i]? = some f → f ≤ 3 := fun i f h => (fields_ord x.op).2 f (List.mem_of_getElem? h)
  have hl4 : (fieldsN x.op).length ≤ 4 := by
    unfold fieldsN
    cases hA x.op <;> cases hB x.op <;> cases hC x.op <;> cases hI x.op <;> simp
  obtain ⟨cx,hcx⟩ : ∃ c,Hid (c = Obj.cells #[.int .i64 x.op,.int .i64 x.a,.int .i64 x.b,.int .i64 x.c,.int .i64 x.imm] 37) := ⟨_,rfl⟩
  have kb : Below w.heap.size w (w.alloc cx) := (Below.refl _ w).alloc (Nat.le_refl _) cx
  have hf := fieldsOf_any x.op (w.alloc cx) (V.fld (V.kept A kb))
  have hin : InsAt (w.alloc cx) w.heap.size 0 x := by rw [hcx.out]; constructor <;> simp [go_sem]
  have hfx : ∀ f W,f ≤ 3 → V.A W → _ := fun f W h1 h2 => fieldText_any V x hx f h1 W h2
  unfold insV at hfx ⊢
  obtain ⟨E,hE⟩ : ∃ E : List Value,Hid (strsV ((fieldsN x.op).map (fldL V.fp x)) = E) := ⟨_,rfl⟩
  rw [hE.out]
  generalize hfs : fieldsN x.op = fs at *
  have hsz1 : (w.alloc cx).heap.size = w.heap.size + 1 := World.size_alloc w cx
  clear A hx
  go_enter Tryz.func21,Tryz.ntmps21
  go_wp2_with fail
  rw [← hcx.out]
  refine hf.mono ?_
  rintro e w2 ⟨v8,n,rfl,hrow,hn,b2⟩
  obtain ⟨a8,c8,rfl⟩ := own_slice hrow
  have B2 : Below w.heap.size w w2 := kb.trans (b2.mono kb.size)
  have hin2 := hin.kept b2
  have hrow' := Lib.hid hrow
  have hn' := Lib.hid hn
  have hn4 : n ≤ 4 := by omega
  clear hf hrow hn hin b2 kb hcx
  go_wp2_with fail
  go_loopw [3,5,10] (fun s3 _ s10 wr => ∃ (k : Nat) (L : List (List UInt8)),s10 = .int .i64 k ∧ k ≤ n ∧ wr.ownsRow w2.heap.size 9 1 s3 k (strsV L) ∧ Hid (L = (fs.take k).map (fldL V.fp x)) ∧ Below w2.heap.size w2 wr) (fun _ _ s10 _ => n - (intOf s10).toNat)
  case atStart => exact ⟨0,[],rfl,by omega,own_nil _ _ _,Lib.hid (by simp),Below.refl _ _⟩
  case round =>
    obtain ⟨k,L,rfl,hk,hown,HL,hb⟩ := hrel
    have hsz := hb.size
    by_cases hlt : k < n
    · have hlt' : (k : Int) < (n : Int) := by omega
      have hkf : k < fs.length := by rw [hn'.out]; exact hlt
      obtain ⟨f,hf⟩ : ∃ f,Hid (fs[k]? = some f) := ⟨_,Lib.hid (List.getElem?_eq_getElem hkf)⟩
      have hf3 := hle k f hf.out
      obtain ⟨g,cap,hv,hc⟩ := own_cell hrow'.out (by simp [intsV,hn'.out]) (i := k) (u := .int .i64 f) (by simp [intsV,hf.out])
      simp only [Value.slice.injEq,true_and] at hv
      obtain ⟨rfl,rfl⟩ := hv
      have hcw := (hb.cell (World.block_lt_of_cell? w2 _ hc)).trans hc
      obtain ⟨k0,k1,k2,k3,k4⟩ := hin2.kept hb
      have Awr : V.A wr := V.kept HA.out (B2.trans (hb.mono B2.size))
      have ht := hfx f wr hf3 Awr
      obtain ⟨S,hS⟩ : ∃ S : ByteArray,Hid (⟨(fldL V.fp x f).toArray⟩ = S) := ⟨_,rfl⟩
      rw [hS.out] at ht
      have HL' : Hid (L ++ [fldL V.fp x f] = (fs.take (k + 1)).map (fldL V.fp x)) := Lib.hid (by
        rw [HL.out,List.take_add_one,hf.out]
        simp)
      clear hc HL hle hfx hin2
      go_wp2_with fail
      refine ht.mono ?_
      rintro e w3 ⟨rfl,b3⟩
      have hown3 := owns_below hown b3
      have hb3 : Below w2.heap.size w2 w3 := hb.trans (b3.mono hsz)
      have hsz3 := hb3.size
      go_wp2_with (at_builtin; refine wpList_append_own _ rfl _ _ 39 rfl w2.heap.size 9 i0 (.string ⟨#[]⟩) 1 16 Tryz.underlying39 hi hz0 hz1 hz2 rfl (by decide) _ _ _ rfl (hown3.alloc _) ⟨_,0,none⟩ 1 1 [.string S] rfl rfl (cell_one_new _ _ _) (by simp [Value.oneCell']) (by unfold maxLen; omega) (by omega) (by simp; omega) ?_; intro v1 w4 hown1 hgrow1 hx1)
      have hown4 : w4.ownsRow w2.heap.size 9 1 v1 (k + 1) (strsV (L ++ [fldL V.fp x f])) := by rw [← strsV_snoc,hS.out]; exact hown1
      have hb4 : Below w2.heap.size w2 w4 := (hb3.alloc hsz3 _).grown hgrow1 (by simp; omega) (fun j hj => (hown3.lt j hj).1)
      first
        | exact ⟨⟨k + 1,_,by go_num,by omega,hown4,HL',hb4⟩,by simp [intOf]; omega⟩
        | (go_roundw
           case rel => exact ⟨k + 1,_,by go_num,by omega,hown4,HL',hb4⟩
           case measure => simp [intOf]; omega)
    · have hltd : decide ((k : Int) < (n : Int)) = false := by simp; omega
      have hge : (n : Int) ≤ (k : Int) := by omega
      have ek : k = n := by omega
      have HLE : Hid (strsV L = E) := Lib.hid (by rw [HL.out,ek,← hn'.out,List.take_length]; exact hE.out)
      have hown' : wr.ownsRow w.heap.size 9 1 _ n E := own_mono (by rw [← HLE.out,← ek]; exact hown) B2.size
      have hbE : Below w.heap.size w wr := B2.trans (hb.mono B2.size)
      have HN := Lib.hid hn'.out
      clear HL HLE hE ek hin2 hle hfx
      go_wp2_with fail
      go_ret
      exact ⟨_,n,rfl,hown',HN.out,hbE⟩
end Go.Proofs.YtalaajniammggaaGreatDoor

/- A line, put together of its word and its fields. -/
namespace Go.Proofs.YtalaajniammggaaGreatDoor
open Go.RowKit
def StrAt (w : World) (a : Option Addr) (L : List (List UInt8)) : Prop := ∀ i s,L[i]? = some s → ∃ g o,a = some ⟨g,o,none⟩ ∧ w.cell? ⟨g,o + i,none⟩ = some (.string ⟨s.toArray⟩)
theorem str_of_own {w : World} {B n cap : Nat} {a : Option Addr} {L : List (List UInt8)} (h : w.ownsRow B 9 1 (.slice a n cap) n (strsV L)) (hn : L.length = n) : StrAt w a L := fun i s hs => by
 obtain ⟨g,c,hv,hc⟩ := own_cell h (by simp [strsV,hn]) (i := i) (u := .string ⟨s.toArray⟩) (by simp [strsV,hs])
 simp only [Value.slice.injEq,true_and] at hv
 exact ⟨g,0,hv.1,by rw [Nat.zero_add]; exact hc⟩
def lineB (wd : List UInt8) (L : List (List UInt8)) : List UInt8 := wd ++ (L.flatMap fun s => 32 :: s) ++ [10]
def joinL (L : List (List UInt8)) : List UInt8 := L.flatMap fun s => 32 :: s
set_option maxRecDepth 100000 in
set_option maxHeartbeats 1000000 in
theorem lineOf_any (wd : List UInt8) (hwd : wd.length ≤ 10) (L : List (List UInt8)) (h30 : ∀ s ∈ L,s.length ≤ 30) (h4 : L.length ≤ 4) (a : Option Addr) (cap : Nat) (w : World) (hL : StrAt w a L) :
    Calls Tryz.prog 20 #[.string ⟨wd.toArray⟩,.slice a L.length cap] w fun e w' => e = .returned (.string ⟨(lineB wd L).toArray⟩) ∧ w' = w := by
  obtain ⟨W0,hW0⟩ : ∃ S : ByteArray,Hid (S = ⟨wd.toArray⟩) := ⟨_,rfl⟩
  have z0 : W0.size ≤ 10 := by rw [hW0.out,ba_sz]; exact hwd
  rw [← hW0.out]
  obtain ⟨n,hn⟩ : ∃ n,Hid (L.length = n) := ⟨_,rfl⟩
  rw [hn.out] at h4 ⊢
  obtain ⟨R,hR⟩ : ∃ S : ByteArray,Hid (S = ⟨(lineB wd L).toArray⟩) := ⟨_,rfl⟩
  rw [← hR.out]
  have HL := Lib.hid hL
  have H30 := Lib.hid h30
  clear hL h30
  go_enter Tryz.func20,Tryz.ntmps20
  go_wp2_with fail
  go_loopw [5,7,11] (fun s5 _ s11 wr => ∃ (k : Nat) (S : ByteArray),s11 = .int .i64 k ∧ k ≤ n ∧ s5 = .string S ∧ S.size ≤ 10 + 31 * k ∧ Hid (S = ⟨(wd ++ joinL (L.take k)).toArray⟩) ∧ wr = w) (fun _ _ s11 _ => n - (intOf s11).toNat)
  case atStart => exact ⟨0,W0,rfl,by omega,rfl,by omega,Lib.hid (by rw [hW0.out]; simp [joinL]),rfl⟩
  case round =>
    obtain ⟨k,S,rfl,hk,rfl,hS,HS,rfl⟩ := hrel
    by_cases hlt : k < n
    · have hlt' : (k : Int) < (n : Int) := by omega
      have hkL : k < L.length := by rw [hn.out]; exact hlt
      obtain ⟨s,hs⟩ : ∃ s,Hid (L[k]? = some s) := ⟨_,Lib.hid (List.getElem?_eq_getElem hkL)⟩
      have hs30 := H30.out s (List.mem_of_getElem? hs.out)
      obtain ⟨g,o,ea,hc⟩ := HL.out k s hs.out
      obtain ⟨P,hP⟩ : ∃ P : ByteArray,Hid (P = ⟨s.toArray⟩) := ⟨_,rfl⟩
      have zP : P.size ≤ 30 := by rw [hP.out,ba_sz]; exact hs30
      rw [← hP.out] at hc
      have z1 : ((⟨#[32]⟩ : ByteArray) ++ P).size = 1 + P.size := by rw [ByteArray.size_append]; rfl
      have ad1 := add_ok ⟨#[32]⟩ P (by show 1 + P.size ≤ _; omega)
      have ad2 := add_ok S (⟨#[32]⟩ ++ P) (by omega)
      have z2 : (S ++ (⟨#[32]⟩ ++ P)).size ≤ 10 + 31 * (k + 1) := by rw [ByteArray.size_append,z1]; omega
      have HS' : Hid (S ++ (⟨#[32]⟩ ++ P) = ⟨(wd ++ joinL (L.take (k + 1))).toArray⟩) := Lib.hid (by
        have e1 : (⟨#[32]⟩ : ByteArray) ++ P = ⟨(32 :: s).toArray⟩ := by rw [hP.out]; exact ba_app [32] s
        rw [e1,HS.out,ba_app,List.take_add_one,hs.out]
        simp [joinL])
      subst ea
      clear HS hs hs30 hP z1 hS
      go_wp2_with fail
      first
        | exact ⟨⟨k + 1,_,by go_num,by omega,rfl,z2,HS',by trivial⟩,by simp [intOf]; omega⟩
        | (go_roundw
           case rel => exact ⟨k + 1,_,by go_num,by omega,rfl,z2,HS',by trivial⟩
           case measure => simp [intOf]; omega)
    · have hltd : decide ((k : Int) < (n : Int)) = false := by simp; omega
      have ek : k = n := by omega
      have ad := add_ok S ⟨#[10]⟩ (by show S.size + 1 ≤ _; omega)
      have HR : Hid (S ++ ⟨#[10]⟩ = R) := Lib.hid (by
        rw [HS.out,ek,← hn.out,List.take_length,hR.out]
        exact ba_app (wd ++ joinL L) [10])
      clear HS ek hS
      go_wp2_with fail
      go_ret
      exact ⟨ret_str HR.out,rfl⟩
theorem line_parts (fp : Int → List UInt8) (x : Ins) : wordL x.op ++ joinL ((fieldsN x.op).map (fldL fp x)) = lineL fp x := by
 simp [lineL,joinL,restL,List.flatMap_map]
theorem word_len (o : Int) : (wordL o).length ≤ 10 := by
 unfold wordL
 by_cases h : o.toNat < 34
 ·have key : ∀ k : Fin 34,(wordsL.getD k.val []).length ≤ 10 := by decide +kernel
  exact key ⟨_,h⟩
 ·rw [List.getD_eq_getElem?_getD,List.getElem?_eq_none (by simp [wordsL]; omega)]
  simp
theorem fld_len {fp : Int → List UInt8} (F : FP fp) {x : Ins} (hx : InsR x) (f : Nat) : (fldL fp x f).length ≤ 30 := by
 have kr : ∀ r,InR r → (regL r).length ≤ 30 := fun r h => by
  have := Lib.itoa_length_le r h.1 h.2
  unfold regL
  simp
  omega
 unfold fldL
 split
 ·exact kr _ hx.a
 ·exact kr _ hx.b
 ·exact kr _ hx.c
 ·unfold immL
  split
  ·have := F.len x.imm; simp; omega
  ·have := Lib.itoa_length_le x.imm hx.imm.1 hx.imm.2; omega
end Go.Proofs.YtalaajniammggaaGreatDoor

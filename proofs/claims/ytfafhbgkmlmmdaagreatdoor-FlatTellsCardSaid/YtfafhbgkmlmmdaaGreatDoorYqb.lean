/-
  What the rows of flat lean on, part b.
-/
import Derived.Shelf.Strings.Builder1
import Derived.Shelf.Strings.Builder2
import Derived.Shelf.Strings.OnBuilder
import Derived.Shelf.Small.Utf8
import Derived.Shelf.Small.Strs
import Derived.Shelf.Strings.BuilderF
import Derived.Shelf.Strings.BuilderK
import Derived.Shelf.Utf8.AppendRunePlain
import Derived.Shelf.Strconv.Itoa0
import Derived.Shelf.Strconv.Itoa1
import Derived.Shelf.LaysM
import Derived.Shelf.Strconv.Itoa2
import Derived.Shelf.Strconv.Itoa3
import Derived.Shelf.Strconv.ParseIntEmpty
import Derived.Shelf.Strconv.Clone
import Derived.Shelf.Strconv.SyntaxError
import Derived.Shelf.LaysC
import Derived.Shelf.Strconv.ToError
import Derived.Shelf.Strconv.Lower
import Derived.Shelf.Strconv.ParseUint10
import Derived.Shelf.Strconv.ParseUint10Empty
import Derived.Shelf.Strconv.ParseUint10Any
import Derived.Shelf.Strconv.ParseInt10
import Derived.Shelf.Strconv.RangeError
import Derived.Shelf.Strconv.ToErrorRange
import Derived.Shelf.Strconv.ParseUintEmpty
import Derived.Shelf.Strconv.ParseUint10b64
import Derived.Shelf.Strconv.ParseUint10b32
import Derived.Shelf.Strconv.ParseUint10b16
import Derived.Shelf.Strconv.ParseUint10b8
import Derived.Shelf.Strconv.ParseUint10At
import Derived.Shelf.Strconv.ParseInt10At64
import Derived.Shelf.Strconv.ParseInt10At32
import Derived.Shelf.Strconv.ParseInt10At16
import Derived.Shelf.Strconv.ParseInt10At8
import Derived.Shelf.Strconv.ParseInt10All
import Derived.Shelf.Strconv.ParseIntPublic10
import Derived.Shelf.Strings.Search1
import Derived.Shelf.Strings.Search2
import Derived.Shelf.Strings.Search3
import Derived.Shelf.Strings.Shaped
import Derived.Shelf.Strings.Prefix
import Derived.Shelf.Unicode.Latin
import Derived.Shelf.Bits.Mul64
import Derived.Shelf.Strings.Repeat
import Derived.Shelf.Unicode.DecodeSlow
import Derived.Shelf.Unicode.DecodeAny
import Derived.Shelf.Unicode.CaseLookup
import Derived.Shelf.Unicode.CaseConvert
import Derived.Shelf.Unicode.CaseTo
import Derived.Shelf.Unicode.CaseLaid
import Derived.Ground.Names2Prog
import Derived.Shelf.Slices.SearchI
import Derived.Shelf.Bytes.SlIndexSmall
import Derived.Shelf.Bytes.SlIndexAt
import Derived.Shelf.Bytes.SlSearch0
import Derived.Shelf.Bytes.SlSearch1
import Derived.Shelf.Bytes.SlSearch2
import Derived.Shelf.Bytes.SlIndexWhole
import Derived.Shelf.Bytes.SlSmallAll
import Derived.Shelf.Bytes.SlEqualAll
import Derived.Shelf.Bytes.Small
import Derived.Shelf.Bytes.IndexByte
import Derived.Test.YtfafhbgkmlmmdaaGreatDoorProg
import Derived.Test.YtfafhbgkmlmmdaaGreatDoorYqa
import Derived.BigQuiet
import Derived.BigRegion
import Derived.StillTailTactics
import Derived.Lib.QuietBelow
set_option maxRecDepth 100000
set_option maxHeartbeats 40000000
namespace Go.Proofs
open Go.Shelf
open Go.RowKit in
open Go.RowKit in
open Go.RowKit in
open Go.RowKit in
open Go.RowKit in
open Go.RowKit in
open Go.RowKit in
def Tryz.lays137_ren : Go.Shelf.Ren := ⟨fun | 137 => 168 | 217 => 195 | 266 => 211 | n => n, fun | 9 => 9 | 5 => 5 | 3 => 3 | n => n, fun | n => n⟩
theorem Tryz.lays137 : Go.Proofs.Lays.n137 Tryz.prog Tryz.lays137_ren := {
 mixed := by kernel_rfl
 f137 := Tryz.func168.trans (congrArg some (by kernel_rfl))
 f217 := Tryz.func195.trans (congrArg some (by kernel_rfl))
 f266 := Tryz.func211.trans (congrArg some (by kernel_rfl))
 t3 := Tryz.underlying3
 a3 := Tryz.isAgg3
 z3 := Tryz.sizeOf3
 v3 := Tryz.zeroValue3
 t5 := Tryz.underlying5
 a5 := Tryz.isAgg5
 z5 := Tryz.sizeOf5
 v5 := Tryz.zeroValue5
 t9 := Tryz.underlying9
 a9 := Tryz.isAgg9
 z9 := Tryz.sizeOf9
 v9 := Tryz.zeroValue9 }
open Go.RowKit in
theorem Tryz.strings_IndexByte (s : ByteArray) (c : Int) (w : World) :
  Calls Tryz.prog 168 #[.string s, .int .u8 c] w fun e w' => e = .returned (.int .i64 (Lib.indexByte s.data.toList c.toNat.toUInt8)) ∧ w' = w := Any.strings_IndexByte Tryz.lays137 s c w
open Go.RowKit in
open Go.RowKit in
open Go.RowKit in
open Go.RowKit in
open Go.RowKit in
open Go.RowKit in
open Go.RowKit in
open Go.RowKit in
def Tryz.lays242_ren : Go.Shelf.Ren := ⟨fun | 242 => 110 | 278 => 144 | n => n, fun | 37 => 22 | 21 => 21 | 51 => 195 | 4 => 4 | 5 => 5 | 46 => 123 | n => n, fun | n => n⟩
theorem Tryz.lays242 : Go.Proofs.Lays.n242 Tryz.prog Tryz.lays242_ren := {
 mixed := by kernel_rfl
 f242 := Tryz.func110.trans (congrArg some (by kernel_rfl))
 f278 := Tryz.func144.trans (congrArg some (by kernel_rfl))
 t4 := Tryz.underlying4
 a4 := Tryz.isAgg4
 z4 := Tryz.sizeOf4
 v4 := Tryz.zeroValue4
 t5 := Tryz.underlying5
 a5 := Tryz.isAgg5
 z5 := Tryz.sizeOf5
 v5 := Tryz.zeroValue5
 t21 := Tryz.underlying21
 a21 := Tryz.isAgg21
 z21 := Tryz.sizeOf21
 v21 := Tryz.zeroValue21
 t37 := Tryz.underlying22
 a37 := Tryz.isAgg22
 z37 := Tryz.sizeOf22
 v37 := Tryz.zeroValue22
 t46 := Tryz.underlying123
 a46 := Tryz.isAgg123
 z46 := Tryz.sizeOf123
 v46 := Tryz.zeroValue123
 t51 := Tryz.underlying195
 a51 := Tryz.isAgg195
 z51 := Tryz.sizeOf195
 v51 := Tryz.zeroValue195 }
open Go.RowKit in
theorem Tryz.utf8_AppendRune_plain (B : Nat) (v : Value) (n : Nat) (xs : List Value) (r : Int) (hr0 : -2147483648 ≤ r) (hr1 : r ≤ 2147483647) (w : World) (hown : w.ownsRow B 5 1 v n xs) (hlen : n + 4 ≤ 140737488355328) (hBw : B ≤ w.heap.size) :
  Calls Tryz.prog 110 #[v, .int .i32 r] w fun e w' => ∃ v', e = .returned v' ∧ w'.ownsRow B 5 1 v' (n + (Lib.runeCells r).length) (xs ++ Lib.runeCells r) ∧ ∃ o, (w.alloc o).grownBy w' v.ownBlock := Any.utf8_AppendRune_plain Tryz.lays242 (by kernel_rfl) B v n xs r hr0 hr1 w hown hlen hBw
open Go.Lib in
open Go.Lib in
open Go.Lib in
open Go.Lib in
open Go.RowKit Go.Sort Go.Lib in
open Go.RowKit Go.Sort Go.Lib in
open Go.RowKit Go.Sort Go.Lib in
open Go.RowKit Go.Sort Go.Lib in
open Go.RowKit Go.Sort Go.Lib in
open Go.RowKit Go.Sort Go.Lib in
open Go.RowKit Go.Sort Go.Lib in
open Go.RowKit in
open Go.RowKit in
open Go.RowKit in
open Go.RowKit in
open Go.RowKit in
open Go.RowKit in
open Go.RowKit in
open Go.RowKit in
open Go.RowKit in
open Go.RowKit in
open Go.RowKit in
open Go.RowKit in
open Go.RowKit in
open Go.RowKit in
open Go.RowKit in
open Go.RowKit in
open Go.RowKit in
open Go.RowKit in
open Go.RowKit in
open Go.RowKit in
open Go.RowKit in
open Go.RowKit in
open Go.RowKit in
open Go.RowKit in
open Go.RowKit in
open Go.RowKit in
open Go.RowKit in
open Go.RowKit in
open Go.RowKit in
open Go.RowKit in
def Tryz.laysC174_ren : Go.Shelf.Ren := ⟨fun | 174 => 225 | 247 => 229 | 245 => 230 | 287 => 232 | 279 => 233 | 280 => 234 | 281 => 235 | 282 => 236 | 321 => 237 | 322 => 238 | 316 => 239 | 171 => 62 | 205 => 240 | 243 => 89 | 246 => 111 | 283 => 145 | 284 => 146 | 285 => 147 | 286 => 148 | 129 => 176 | 317 => 175 | 318 => 177 | 319 => 178 | 320 => 179 | 337 => 202 | 338 => 203 | n => n, fun | 9 => 9 | 3 => 3 | 2 => 2 | 75 => 168 | 85 => 279 | 4 => 4 | 167 => 283 | 5 => 5 | 53 => 197 | 175 => 284 | 46 => 123 | 168 => 286 | 37 => 22 | 0 => 0 | 210 => 292 | 21 => 21 | 127 => 202 | 145 => 296 | 143 => 294 | 171 => 196 | 173 => 200 | 212 => 237 | 51 => 195 | 20 => 20 | 213 => 238 | 232 => 269 | 233 => 270 | 80 => 58 | n => n, fun | 15 => 7 | 16 => 8 | 17 => 0 | 18 => 5 | 19 => 6 | n => n⟩
theorem Tryz.laysC174 : Go.Proofs.LaysC.n174 Tryz.prog Tryz.laysC174_ren := {
 mixed := by kernel_rfl
 f129 := Tryz.func176.trans (congrArg some (by kernel_rfl))
 f171 := Tryz.func62.trans (congrArg some (by kernel_rfl))
 f174 := Tryz.func225.trans (congrArg some (by kernel_rfl))
 f205 := Tryz.func240.trans (congrArg some (by kernel_rfl))
 f243 := Tryz.func89.trans (congrArg some (by kernel_rfl))
 f245 := Tryz.func230.trans (congrArg some (by kernel_rfl))
 f246 := Tryz.func111.trans (congrArg some (by kernel_rfl))
 f247 := Tryz.func229.trans (congrArg some (by kernel_rfl))
 f279 := Tryz.func233.trans (congrArg some (by kernel_rfl))
 f280 := Tryz.func234.trans (congrArg some (by kernel_rfl))
 f281 := Tryz.func235.trans (congrArg some (by kernel_rfl))
 f282 := Tryz.func236.trans (congrArg some (by kernel_rfl))
 f283 := Tryz.func145.trans (congrArg some (by kernel_rfl))
 f284 := Tryz.func146.trans (congrArg some (by kernel_rfl))
 f285 := Tryz.func147.trans (congrArg some (by kernel_rfl))
 f286 := Tryz.func148.trans (congrArg some (by kernel_rfl))
 f287 := Tryz.func232.trans (congrArg some (by kernel_rfl))
 f316 := Tryz.func239.trans (congrArg some (by kernel_rfl))
 f317 := Tryz.func175.trans (congrArg some (by kernel_rfl))
 f318 := Tryz.func177.trans (congrArg some (by kernel_rfl))
 f319 := Tryz.func178.trans (congrArg some (by kernel_rfl))
 f320 := Tryz.func179.trans (congrArg some (by kernel_rfl))
 f321 := Tryz.func237.trans (congrArg some (by kernel_rfl))
 f322 := Tryz.func238.trans (congrArg some (by kernel_rfl))
 f337 := Tryz.func202.trans (congrArg some (by kernel_rfl))
 f338 := Tryz.func203.trans (congrArg some (by kernel_rfl))
 t0 := Tryz.underlying0
 a0 := Tryz.isAgg0
 z0 := Tryz.sizeOf0
 v0 := Tryz.zeroValue0
 t2 := Tryz.underlying2
 a2 := Tryz.isAgg2
 z2 := Tryz.sizeOf2
 v2 := Tryz.zeroValue2
 t3 := Tryz.underlying3
 a3 := Tryz.isAgg3
 z3 := Tryz.sizeOf3
 v3 := Tryz.zeroValue3
 t4 := Tryz.underlying4
 a4 := Tryz.isAgg4
 z4 := Tryz.sizeOf4
 v4 := Tryz.zeroValue4
 t5 := Tryz.underlying5
 a5 := Tryz.isAgg5
 z5 := Tryz.sizeOf5
 v5 := Tryz.zeroValue5
 t9 := Tryz.underlying9
 a9 := Tryz.isAgg9
 z9 := Tryz.sizeOf9
 v9 := Tryz.zeroValue9
 t20 := Tryz.underlying20
 a20 := Tryz.isAgg20
 z20 := Tryz.sizeOf20
 v20 := Tryz.zeroValue20
 t21 := Tryz.underlying21
 a21 := Tryz.isAgg21
 z21 := Tryz.sizeOf21
 v21 := Tryz.zeroValue21
 t37 := Tryz.underlying22
 a37 := Tryz.isAgg22
 z37 := Tryz.sizeOf22
 v37 := Tryz.zeroValue22
 t46 := Tryz.underlying123
 a46 := Tryz.isAgg123
 z46 := Tryz.sizeOf123
 v46 := Tryz.zeroValue123
 t51 := Tryz.underlying195
 a51 := Tryz.isAgg195
 z51 := Tryz.sizeOf195
 v51 := Tryz.zeroValue195
 t53 := Tryz.underlying197
 a53 := Tryz.isAgg197
 z53 := Tryz.sizeOf197
 v53 := Tryz.zeroValue197
 t75 := Tryz.underlying168
 a75 := Tryz.isAgg168
 z75 := Tryz.sizeOf168
 v75 := Tryz.zeroValue168
 t85 := Tryz.underlying279
 a85 := Tryz.isAgg279
 z85 := Tryz.sizeOf279
 v85 := Tryz.zeroValue279
 t127 := Tryz.underlying202
 a127 := Tryz.isAgg202
 z127 := Tryz.sizeOf202
 v127 := Tryz.zeroValue202
 t143 := Tryz.underlying294
 a143 := Tryz.isAgg294
 z143 := Tryz.sizeOf294
 v143 := Tryz.zeroValue294
 t145 := Tryz.underlying296
 a145 := Tryz.isAgg296
 z145 := Tryz.sizeOf296
 v145 := Tryz.zeroValue296
 t167 := Tryz.underlying283
 a167 := Tryz.isAgg283
 z167 := Tryz.sizeOf283
 v167 := Tryz.zeroValue283
 t168 := Tryz.underlying286
 a168 := Tryz.isAgg286
 z168 := Tryz.sizeOf286
 v168 := Tryz.zeroValue286
 t171 := Tryz.underlying196
 a171 := Tryz.isAgg196
 z171 := Tryz.sizeOf196
 v171 := Tryz.zeroValue196
 t173 := Tryz.underlying200
 a173 := Tryz.isAgg200
 z173 := Tryz.sizeOf200
 v173 := Tryz.zeroValue200
 t175 := Tryz.underlying284
 a175 := Tryz.isAgg284
 z175 := Tryz.sizeOf284
 v175 := Tryz.zeroValue284
 t210 := Tryz.underlying292
 a210 := Tryz.isAgg292
 z210 := Tryz.sizeOf292
 v210 := Tryz.zeroValue292
 t212 := Tryz.underlying237
 a212 := Tryz.isAgg237
 z212 := Tryz.sizeOf237
 v212 := Tryz.zeroValue237
 t213 := Tryz.underlying238
 a213 := Tryz.isAgg238
 z213 := Tryz.sizeOf238
 t232 := Tryz.underlying269
 a232 := Tryz.isAgg269
 z232 := Tryz.sizeOf269
 v232 := Tryz.zeroValue269
 t233 := Tryz.underlying270
 a233 := Tryz.isAgg270
 z233 := Tryz.sizeOf270
 v233 := Tryz.zeroValue270
 g15 := by kernel_rfl
 g16 := by kernel_rfl
 g17 := by kernel_rfl
 g18 := by kernel_rfl
 g19 := by kernel_rfl
 t80 := Tryz.underlying58
 a80 := Tryz.isAgg58
 z80 := Tryz.sizeOf58
 v80 := Tryz.zeroValue58
 i0 := by kernel_rfl
 i2 := by kernel_rfl
 i3 := by kernel_rfl
 i4 := by kernel_rfl
 i5 := by kernel_rfl
 i9 := by kernel_rfl
 i20 := by kernel_rfl
 i21 := by kernel_rfl
 i37 := by kernel_rfl
 i46 := by kernel_rfl
 i51 := by kernel_rfl
 i53 := by kernel_rfl
 i75 := by kernel_rfl
 i80 := by kernel_rfl
 i85 := by kernel_rfl
 i127 := by kernel_rfl
 i143 := by kernel_rfl
 i145 := by kernel_rfl
 i167 := by kernel_rfl
 i168 := by kernel_rfl
 i171 := by kernel_rfl
 i173 := by kernel_rfl
 i175 := by kernel_rfl
 i210 := by kernel_rfl
 i212 := by kernel_rfl
 i232 := by kernel_rfl
 i233 := by kernel_rfl
 m15 := by kernel_rfl
 m16 := by kernel_rfl
 m17 := by kernel_rfl
 m18 := by kernel_rfl
 m19 := by kernel_rfl
 c0 := by kernel_rfl
 c2 := by kernel_rfl
 c3 := by kernel_rfl
 c4 := by kernel_rfl
 c5 := by kernel_rfl
 c9 := by kernel_rfl
 c20 := by kernel_rfl
 c21 := by kernel_rfl
 c37 := by kernel_rfl
 c46 := by kernel_rfl
 c51 := by kernel_rfl
 c53 := by kernel_rfl
 c75 := by kernel_rfl
 c80 := by kernel_rfl
 c85 := by kernel_rfl
 c127 := by kernel_rfl
 c143 := by kernel_rfl
 c145 := by kernel_rfl
 c167 := by kernel_rfl
 c168 := by kernel_rfl
 c171 := by kernel_rfl
 c173 := by kernel_rfl
 c175 := by kernel_rfl
 c210 := by kernel_rfl
 c212 := by kernel_rfl
 c213 := by kernel_rfl
 c232 := by kernel_rfl
 c233 := by kernel_rfl }
open Go.RowKit in
open Go.RowKit in
open Go.RowKit in
open Go.RowKit in
open Go.RowKit in
open Go.RowKit in
open Go.RowKit in
theorem Tryz.strconv_ParseInt_10_at32_ok (s : ByteArray) (hmax : s.size ≤ 9223372036854775806) (v : Int) (h : Lib.parseIntB 32 s.data.toList = .ok v) (w : World) :
  Calls Tryz.prog 225 #[.string s, .int .i64 10, .int .i64 32] w fun e w' => e = .returned (.tuple #[.int .i64 v, .nilIface]) ∧ (w' = w ∨ ∃ t, w' = Lib.bytesWorld w 5 t) := Any.strconv_ParseInt_10_at32_ok Tryz.laysC174 s hmax v h w
open Go.RowKit in
open Go.RowKit in
open Go.RowKit in
open Go.RowKit in
open Go.RowKit in
open Go.RowKit in
open Go.RowKit in
open Go.RowKit in
open Go.RowKit Go.Lib in
open Go.RowKit Go.Lib in
open Go.RowKit Go.Lib in
open Go.RowKit Go.Lib in
open Go.RowKit Go.Lib in
open Go.RowKit Go.Lib in
open Go.RowKit Go.Lib in
open Go.RowKit Go.Lib in
def Tryz.lays144_ren : Go.Shelf.Ren := ⟨fun | 144 => 172 | 143 => 199 | 219 => 219 | 217 => 195 | 225 => 227 | 224 => 193 | 267 => 228 | 266 => 211 | 314 => 231 | n => n, fun | 9 => 9 | 4 => 4 | 3 => 3 | 5 => 5 | 46 => 123 | 146 => 207 | 51 => 195 | n => n, fun | 1 => 2 | n => n⟩
theorem Tryz.lays144 : Go.Proofs.Lays.n144 Tryz.prog Tryz.lays144_ren := {
 mixed := by kernel_rfl
 f143 := Tryz.func199.trans (congrArg some (by kernel_rfl))
 f144 := Tryz.func172.trans (congrArg some (by kernel_rfl))
 f217 := Tryz.func195.trans (congrArg some (by kernel_rfl))
 f219 := Tryz.func219.trans (congrArg some (by kernel_rfl))
 f224 := Tryz.func193.trans (congrArg some (by kernel_rfl))
 f225 := Tryz.func227.trans (congrArg some (by kernel_rfl))
 f266 := Tryz.func211.trans (congrArg some (by kernel_rfl))
 f267 := Tryz.func228.trans (congrArg some (by kernel_rfl))
 f314 := Tryz.func231.trans (congrArg some (by kernel_rfl))
 t3 := Tryz.underlying3
 a3 := Tryz.isAgg3
 z3 := Tryz.sizeOf3
 v3 := Tryz.zeroValue3
 t4 := Tryz.underlying4
 a4 := Tryz.isAgg4
 z4 := Tryz.sizeOf4
 v4 := Tryz.zeroValue4
 t5 := Tryz.underlying5
 a5 := Tryz.isAgg5
 z5 := Tryz.sizeOf5
 v5 := Tryz.zeroValue5
 t9 := Tryz.underlying9
 a9 := Tryz.isAgg9
 z9 := Tryz.sizeOf9
 v9 := Tryz.zeroValue9
 t46 := Tryz.underlying123
 a46 := Tryz.isAgg123
 z46 := Tryz.sizeOf123
 v46 := Tryz.zeroValue123
 t51 := Tryz.underlying195
 a51 := Tryz.isAgg195
 z51 := Tryz.sizeOf195
 v51 := Tryz.zeroValue195
 t146 := Tryz.underlying207
 a146 := Tryz.isAgg207
 z146 := Tryz.sizeOf207
 v146 := Tryz.zeroValue207
 g1 := by kernel_rfl }
open Go.RowKit Go.Lib in
open Go.RowKit Go.Lib in
theorem Tryz.strings_Contains (s sub : ByteArray) (m : Int) (w : World) (hs : s.size < 4294967281) (hm : w.cell? ⟨2, 0, none⟩ = some (.int .i64 m)) :
  Calls Tryz.prog 172 #[.string s, .string sub] w fun e w' => e = .returned (.bool (Lib.contains s.data.toList sub.data.toList)) ∧ w' = w := Any.strings_Contains Tryz.lays144 s sub m w hs hm
open Go.RowKit Go.Lib in
open Go.RowKit Go.Lib in
open Go.RowKit Go.Lib in
open Go.RowKit Go.Lib in
open Go.RowKit Go.Lib in
open Go.RowKit Go.Lib in
open Go.RowKit Go.Lib in
open Go.RowKit Go.Lib in
open Go.RowKit Go.Lib in
open Go.RowKit Go.Lib in
open Go.RowKit Go.Lib in
open Go.RowKit Go.Lib in
open Go.RowKit Go.Lib in
open Go.RowKit Go.Lib in
open Go.RowKit Go.Lib in
open Go.RowKit Go.Lib in
open Go.RowKit Go.Lib in
open Go.RowKit Go.Lib in
open Go.RowKit Go.Lib in
open Go.RowKit Go.Lib in
open Go.RowKit Go.Lib in
open Go.RowKit Go.Lib in
open Go.RowKit Go.Lib in
open Go.RowKit Go.Lib in
def Tryz.lays185_ren : Go.Shelf.Ren := ⟨fun | 185 => 166 | 187 => 191 | 115 => 165 | 253 => 192 | 224 => 193 | 254 => 194 | 255 => 209 | 291 => 210 | n => n, fun | 37 => 22 | 3 => 3 | 4 => 4 | 0 => 0 | 5 => 5 | 46 => 123 | 9 => 9 | 146 => 207 | 51 => 195 | n => n, fun | 1 => 2 | n => n⟩
theorem Tryz.lays185 : Go.Proofs.Lays.n185 Tryz.prog Tryz.lays185_ren := {
 mixed := by kernel_rfl
 f115 := Tryz.func165.trans (congrArg some (by kernel_rfl))
 f185 := Tryz.func166.trans (congrArg some (by kernel_rfl))
 f187 := Tryz.func191.trans (congrArg some (by kernel_rfl))
 f224 := Tryz.func193.trans (congrArg some (by kernel_rfl))
 f253 := Tryz.func192.trans (congrArg some (by kernel_rfl))
 f254 := Tryz.func194.trans (congrArg some (by kernel_rfl))
 f255 := Tryz.func209.trans (congrArg some (by kernel_rfl))
 f291 := Tryz.func210.trans (congrArg some (by kernel_rfl))
 t0 := Tryz.underlying0
 a0 := Tryz.isAgg0
 z0 := Tryz.sizeOf0
 v0 := Tryz.zeroValue0
 t3 := Tryz.underlying3
 a3 := Tryz.isAgg3
 z3 := Tryz.sizeOf3
 v3 := Tryz.zeroValue3
 t4 := Tryz.underlying4
 a4 := Tryz.isAgg4
 z4 := Tryz.sizeOf4
 v4 := Tryz.zeroValue4
 t5 := Tryz.underlying5
 a5 := Tryz.isAgg5
 z5 := Tryz.sizeOf5
 v5 := Tryz.zeroValue5
 t9 := Tryz.underlying9
 a9 := Tryz.isAgg9
 z9 := Tryz.sizeOf9
 v9 := Tryz.zeroValue9
 t37 := Tryz.underlying22
 a37 := Tryz.isAgg22
 z37 := Tryz.sizeOf22
 v37 := Tryz.zeroValue22
 t46 := Tryz.underlying123
 a46 := Tryz.isAgg123
 z46 := Tryz.sizeOf123
 v46 := Tryz.zeroValue123
 t51 := Tryz.underlying195
 a51 := Tryz.isAgg195
 z51 := Tryz.sizeOf195
 v51 := Tryz.zeroValue195
 t146 := Tryz.underlying207
 a146 := Tryz.isAgg207
 z146 := Tryz.sizeOf207
 v146 := Tryz.zeroValue207
 g1 := by kernel_rfl }
open Go.RowKit Go.Lib in
open Go.RowKit Go.Lib in
open Go.RowKit Go.Lib in
open Go.RowKit Go.Lib in
open Go.RowKit Go.Lib in
open Go.RowKit Go.Lib in
open Go.RowKit Go.Lib in
open Go.Proofs Go.RowKit Go.Lib in
open Go.Proofs Go.RowKit Go.Lib in
open Go.RowKit Go.Lib in
open Go.RowKit Go.Lib in
open Go.RowKit Go.Lib in
open Go.Proofs Go.RowKit Go.Lib in
theorem Tryz.bytes_Index_at (a1 a2 : Addr) (n c1 k c2 : Nat) (xs ys : List Int) (m : Int) (w : World) (hx : xs.length = n) (hy : ys.length = k) (hr1 : ∀ x ∈ xs, 0 ≤ x ∧ x < 256) (hr2 : ∀ y ∈ ys, 0 ≤ y ∧ y < 256) (hc1 : ∀ i, i < n → w.cell? (a1.add i) = some (.int .u8 (xs.getD i 0))) (hc2 : ∀ i, i < k → w.cell? (a2.add i) = some (.int .u8 (ys.getD i 0))) (hcap : n ≤ c1) (hs : n < 4294967281) (hk : k ≤ 9223372036854775807) (hm : w.cell? ⟨2, 0, none⟩ = some (.int .i64 m)) :
  Calls Tryz.prog 166 #[.slice (some a1) n c1, .slice (some a2) k c2] w fun e w' => e = .returned (.int .i64 (Lib.index (Lib.bytesOf xs) (Lib.bytesOf ys))) ∧ ∃ q, w' = w.drewN q := Any.bytes_Index_at Tryz.lays185 a1 a2 n c1 k c2 xs ys m w hx hy hr1 hr2 hc1 hc2 hcap hs hk hm
open Go.Proofs Go.RowKit Go.Lib in
open Go.Proofs Go.RowKit Go.Lib in
def Tryz.laysnb116_ren : Go.Shelf.Ren := ⟨fun | 116 => 127 | 115 => 165 | n => n, fun | 37 => 22 | 4 => 4 | 3 => 3 | 9 => 9 | 5 => 5 | n => n, fun | n => n⟩
theorem Tryz.laysnb116 : Go.Proofs.Lays.nb116 Tryz.prog Tryz.laysnb116_ren := {
 mixed := by kernel_rfl
 f115 := Tryz.func165.trans (congrArg some (by kernel_rfl))
 f116 := Tryz.func127.trans (congrArg some (by kernel_rfl))
 t3 := Tryz.underlying3
 a3 := Tryz.isAgg3
 z3 := Tryz.sizeOf3
 v3 := Tryz.zeroValue3
 t4 := Tryz.underlying4
 a4 := Tryz.isAgg4
 z4 := Tryz.sizeOf4
 v4 := Tryz.zeroValue4
 t9 := Tryz.underlying9
 a9 := Tryz.isAgg9
 z9 := Tryz.sizeOf9
 v9 := Tryz.zeroValue9
 t37 := Tryz.underlying22
 a37 := Tryz.isAgg22
 z37 := Tryz.sizeOf22
 v37 := Tryz.zeroValue22
 t5 := Tryz.underlying5
 a5 := Tryz.isAgg5
 z5 := Tryz.sizeOf5
 v5 := Tryz.zeroValue5 }
def Tryz.laysnb117_ren : Go.Shelf.Ren := ⟨fun | 117 => 188 | 115 => 165 | n => n, fun | 37 => 22 | 4 => 4 | 3 => 3 | 9 => 9 | 5 => 5 | n => n, fun | n => n⟩
theorem Tryz.laysnb117 : Go.Proofs.Lays.nb117 Tryz.prog Tryz.laysnb117_ren := {
 mixed := by kernel_rfl
 f115 := Tryz.func165.trans (congrArg some (by kernel_rfl))
 f117 := Tryz.func188.trans (congrArg some (by kernel_rfl))
 t3 := Tryz.underlying3
 a3 := Tryz.isAgg3
 z3 := Tryz.sizeOf3
 v3 := Tryz.zeroValue3
 t4 := Tryz.underlying4
 a4 := Tryz.isAgg4
 z4 := Tryz.sizeOf4
 v4 := Tryz.zeroValue4
 t9 := Tryz.underlying9
 a9 := Tryz.isAgg9
 z9 := Tryz.sizeOf9
 v9 := Tryz.zeroValue9
 t37 := Tryz.underlying22
 a37 := Tryz.isAgg22
 z37 := Tryz.sizeOf22
 v37 := Tryz.zeroValue22
 t5 := Tryz.underlying5
 a5 := Tryz.isAgg5
 z5 := Tryz.sizeOf5
 v5 := Tryz.zeroValue5 }
theorem Tryz.bytes_HasPrefix_all (p1 p2 : Option Addr) (n c m d : Nat) (xs ys : List Int) (w : World) (hx : xs.length = n) (hy : ys.length = m) (hnc : n ≤ c) (h1 : Lib.BytesIn w p1 n xs) (h2 : Lib.BytesIn w p2 m ys) :
  Calls Tryz.prog 127 #[.slice p1 n c, .slice p2 m d] w fun e w' => e = .returned (.bool (Lib.hasPrefix (Lib.bytesOf xs) (Lib.bytesOf ys))) ∧ w' = w := Any.bytes_HasPrefix_all Tryz.laysnb116 p1 p2 n c m d xs ys w hx hy hnc h1 h2
theorem Tryz.bytes_HasSuffix_all (p1 p2 : Option Addr) (n c m d : Nat) (xs ys : List Int) (w : World) (hx : xs.length = n) (hy : ys.length = m) (hnc : n ≤ c) (hbig : n ≤ 9223372036854775807) (h1 : Lib.BytesIn w p1 n xs) (h2 : Lib.BytesIn w p2 m ys) :
  Calls Tryz.prog 188 #[.slice p1 n c, .slice p2 m d] w fun e w' => e = .returned (.bool (Lib.hasSuffix (Lib.bytesOf xs) (Lib.bytesOf ys))) ∧ w' = w := Any.bytes_HasSuffix_all Tryz.laysnb117 p1 p2 n c m d xs ys w hx hy hnc hbig h1 h2
theorem Tryz.bytes_HasPrefix (b1 o1 n c b2 o2 m d : Nat) (xs ys : List Int) (w : World) (hx : xs.length = n) (hy : ys.length = m) (hnc : n ≤ c) (hc1 : ∀ i, i < n → w.cell? ⟨b1, o1 + i, none⟩ = some (.int .u8 (xs.getD i 0))) (hc2 : ∀ i, i < m → w.cell? ⟨b2, o2 + i, none⟩ = some (.int .u8 (ys.getD i 0))) :
  Calls Tryz.prog 127 #[.slice (some ⟨b1, o1, none⟩) n c, .slice (some ⟨b2, o2, none⟩) m d] w fun e w' => e = .returned (.bool (Lib.hasPrefix (Lib.bytesOf xs) (Lib.bytesOf ys))) ∧ w' = w := Any.bytes_HasPrefix Tryz.laysnb116 b1 o1 n c b2 o2 m d xs ys w hx hy hnc hc1 hc2
end Go.Proofs
namespace Go.Proofs.YtfafhbgkmlmmdaaGreatDoor.K
open Go.RowKit Go.Shelf Go.Lib Go.Maps
attribute [local irreducible] nmL ofN
def MX (w : World) : Prop := ∃ m : Int, w.cell? ⟨2, 0, none⟩ = some (.int .i64 m)
theorem MX.on {w w' : World} {B : Nat} (h : MX w) (hB : 2 < B) (hb : Below B w w') : MX w' := by
 obtain ⟨m, hm⟩ := h
 exact ⟨m, (hb.cell (p := ⟨2, 0, none⟩) hB).trans hm⟩
theorem MX.pos {w : World} (h : MX w) : 2 < w.heap.size := by
 obtain ⟨m, hm⟩ := h
 exact block_lt_of_cell hm
theorem or0 : ∀ a : Nat, a < 1 → bits BinOp.or IntKind.i64 (a : Int) 1 = ((a + 1 : Nat) : Int) := by decide +kernel
theorem or1 : ∀ a : Nat, a < 2 → bits BinOp.or IntKind.i64 (a : Int) 2 = ((a + 2 : Nat) : Int) := by decide +kernel
theorem or2 : ∀ a : Nat, a < 4 → bits BinOp.or IntKind.i64 (a : Int) 4 = ((a + 4 : Nat) : Int) := by decide +kernel
theorem or3 : ∀ a : Nat, a < 8 → bits BinOp.or IntKind.i64 (a : Int) 8 = ((a + 8 : Nat) : Int) := by decide +kernel
theorem or4 : ∀ a : Nat, a < 16 → bits BinOp.or IntKind.i64 (a : Int) 16 = ((a + 16 : Nat) : Int) := by decide +kernel
theorem or5 : ∀ a : Nat, a < 32 → bits BinOp.or IntKind.i64 (a : Int) 32 = ((a + 32 : Nat) : Int) := by decide +kernel
theorem or6 : ∀ a : Nat, a < 64 → bits BinOp.or IntKind.i64 (a : Int) 64 = ((a + 64 : Nat) : Int) := by decide +kernel
theorem nameS_small (j : Nat) (hj : j < 7) : (nameS j).size < 4294967281 := by
 obtain rfl | rfl | rfl | rfl | rfl | rfl | rfl : j = 0 ∨ j = 1 ∨ j = 2 ∨ j = 3 ∨ j = 4 ∨ j = 5 ∨ j = 6 := by omega
 all_goals with_unfolding_all decide +kernel
theorem of_any (s : ByteArray) (hl : s.size ≤ 1000000) (w : World) (hM : MX w) : Calls Tryz.prog 135 #[.string s] w fun e w' => e = .returned (.int .i64 ((ofN s.data.toList 7 : Nat) : Int)) ∧ w' = w := by
 obtain ⟨m, hm⟩ := hM
 have CB := fun (a b : ByteArray) (h : a.size < 4294967281) => Tryz.strings_Contains a b m w h hm
 have C0 := CB s ⟨#[32]⟩ (by omega)
 obtain ⟨n, hn⟩ : ∃ n, s.data.toList = n := ⟨_, rfl⟩
 rw [hn, show (⟨#[32]⟩ : ByteArray).data.toList = [32] from rfl, contains_blank] at C0
 rw [hn]
 by_cases hb : 32 ∈ n
 case pos =>
  rw [decide_eq_true hb] at C0
  rw [ofN_blank hb]
  clear CB hm
  go_enter Tryz.func135, Tryz.ntmps135
  go_wp2_with fail
  refine C0.mono ?_
  rintro e w' ⟨rfl, rfl⟩
  go_wp2_with fail
  go_ret
  exact ⟨rfl, rfl⟩
 case neg =>
  rw [decide_eq_false hb] at C0
  obtain ⟨WS, hWS⟩ : ∃ S : ByteArray, (⟨#[32]⟩ ++ s : ByteArray) ++ ⟨#[32]⟩ = S := ⟨_, rfl⟩
  have hWd : WS.data.toList = wordB n := by
   rw [← hWS, ← hn]
   simp [wordB]
  have CR : ∀ k, k < 7 → Calls Tryz.prog 172 #[.string (nameS k), .string WS] w fun e w' => e = .returned (.bool (decide (n ∈ nmL k))) ∧ w' = w := fun k hk => by
   have := CB (nameS k) WS (nameS_small k hk)
   rw [hWd, show (nameS k).data.toList = joinB (nmL k) from rfl, contains_nm hb] at this
   exact this
  have HC := Lib.hid CR
  clear CB CR hm hWd hb hn
  go_enter Tryz.func135, Tryz.ntmps135
  go_wp2_with fail
  refine C0.mono ?_
  rintro e w' ⟨rfl, rfl⟩
  go_wp2_with fail
  clear C0 hWS
  go_loopw [3, 5] (fun o b wr => ∃ k : Nat, k ≤ 7 ∧ o = .int .i64 ((ofN n k : Nat) : Int) ∧ b = .int .i64 ((2 ^ k : Nat) : Int) ∧ wr = w') (fun _ b _ => 128 - (RowKit.intOf b).toNat)
  case atStart => exact ⟨0, by omega, by rw [ofN_zero]; rfl, rfl, rfl⟩
  case round =>
   obtain ⟨k, hk, rfl, rfl, rfl⟩ := hrel
   obtain rfl | rfl | rfl | rfl | rfl | rfl | rfl | rfl : k = 0 ∨ k = 1 ∨ k = 2 ∨ k = 3 ∨ k = 4 ∨ k = 5 ∨ k = 6 ∨ k = 7 := by omega
   ·have C1 := names_any 0 (by omega) wr
    have C2 := HC.out 0 (by omega)
    have hs := ofN_succ n 0
    have hlt : ofN n 0 < 2 ^ 0 := ofN_lt n 0
    simp only [Nat.reducePow] at C1 hlt hs ⊢
    obtain ⟨a, ha⟩ : ∃ a, ofN n 0 = a := ⟨_, rfl⟩
    rw [ha] at hs hlt ⊢
    have HO := Lib.hid (or0 a hlt)
    clear ha hlt
    go_wp2_with fail
    refine C1.mono ?_
    rintro e _ ⟨rfl, rfl⟩
    go_wp2_with fail
    refine C2.mono ?_
    rintro e _ ⟨rfl, rfl⟩
    by_cases hi : n ∈ nmL 0
    ·rw [decide_eq_true hi]
     rw [if_pos hi] at hs
     have HR := Lib.hid hs
     clear hs hi C1 C2
     go_wp2_with fail
     exact ⟨⟨1, by omega, by rw [HO.out, HR.out], rfl, trivial⟩, by simp [RowKit.intOf]⟩
    ·rw [decide_eq_false hi]
     rw [if_neg hi] at hs
     have HR := Lib.hid hs
     clear hs hi C1 C2
     go_wp2_with fail
     exact ⟨⟨1, by omega, by rw [HR.out]; rfl, rfl, trivial⟩, by simp [RowKit.intOf]⟩
   ·have C1 := names_any 1 (by omega) wr
    have C2 := HC.out 1 (by omega)
    have hs := ofN_succ n 1
    have hlt : ofN n 1 < 2 ^ 1 := ofN_lt n 1
    simp only [Nat.reducePow] at C1 hlt hs ⊢
    obtain ⟨a, ha⟩ : ∃ a, ofN n 1 = a := ⟨_, rfl⟩
    rw [ha] at hs hlt ⊢
    have HO := Lib.hid (or1 a hlt)
    clear ha hlt
    go_wp2_with fail
    refine C1.mono ?_
    rintro e _ ⟨rfl, rfl⟩
    go_wp2_with fail
    refine C2.mono ?_
    rintro e _ ⟨rfl, rfl⟩
    by_cases hi : n ∈ nmL 1
    ·rw [decide_eq_true hi]
     rw [if_pos hi] at hs
     have HR := Lib.hid hs
     clear hs hi C1 C2
     go_wp2_with fail
     exact ⟨⟨2, by omega, by rw [HO.out, HR.out], rfl, trivial⟩, by simp [RowKit.intOf]⟩
    ·rw [decide_eq_false hi]
     rw [if_neg hi] at hs
     have HR := Lib.hid hs
     clear hs hi C1 C2
     go_wp2_with fail
     exact ⟨⟨2, by omega, by rw [HR.out]; rfl, rfl, trivial⟩, by simp [RowKit.intOf]⟩
   ·have C1 := names_any 2 (by omega) wr
    have C2 := HC.out 2 (by omega)
    have hs := ofN_succ n 2
    have hlt : ofN n 2 < 2 ^ 2 := ofN_lt n 2
    simp only [Nat.reducePow] at C1 hlt hs ⊢
    obtain ⟨a, ha⟩ : ∃ a, ofN n 2 = a := ⟨_, rfl⟩
    rw [ha] at hs hlt ⊢
    have HO := Lib.hid (or2 a hlt)
    clear ha hlt
    go_wp2_with fail
    refine C1.mono ?_
    rintro e _ ⟨rfl, rfl⟩
    go_wp2_with fail
    refine C2.mono ?_
    rintro e _ ⟨rfl, rfl⟩
    by_cases hi : n ∈ nmL 2
    ·rw [decide_eq_true hi]
     rw [if_pos hi] at hs
     have HR := Lib.hid hs
     clear hs hi C1 C2
     go_wp2_with fail
     exact ⟨⟨3, by omega, by rw [HO.out, HR.out], rfl, trivial⟩, by simp [RowKit.intOf]⟩
    ·rw [decide_eq_false hi]
     rw [if_neg hi] at hs
     have HR := Lib.hid hs
     clear hs hi C1 C2
     go_wp2_with fail
     exact ⟨⟨3, by omega, by rw [HR.out]; rfl, rfl, trivial⟩, by simp [RowKit.intOf]⟩
   ·have C1 := names_any 3 (by omega) wr
    have C2 := HC.out 3 (by omega)
    have hs := ofN_succ n 3
    have hlt : ofN n 3 < 2 ^ 3 := ofN_lt n 3
    simp only [Nat.reducePow] at C1 hlt hs ⊢
    obtain ⟨a, ha⟩ : ∃ a, ofN n 3 = a := ⟨_, rfl⟩
    rw [ha] at hs hlt ⊢
    have HO := Lib.hid (or3 a hlt)
    clear ha hlt
    go_wp2_with fail
    refine C1.mono ?_
    rintro e _ ⟨rfl, rfl⟩
    go_wp2_with fail
    refine C2.mono ?_
    rintro e _ ⟨rfl, rfl⟩
    by_cases hi : n ∈ nmL 3
    ·rw [decide_eq_true hi]
     rw [if_pos hi] at hs
     have HR := Lib.hid hs
     clear hs hi C1 C2
     go_wp2_with fail
     exact ⟨⟨4, by omega, by rw [HO.out, HR.out], rfl, trivial⟩, by simp [RowKit.intOf]⟩
    ·rw [decide_eq_false hi]
     rw [if_neg hi] at hs
     have HR := Lib.hid hs
     clear hs hi C1 C2
     go_wp2_with fail
     exact ⟨⟨4, by omega, by rw [HR.out]; rfl, rfl, trivial⟩, by simp [RowKit.intOf]⟩
   ·have C1 := names_any 4 (by omega) wr
    have C2 := HC.out 4 (by omega)
    have hs := ofN_succ n 4
    have hlt : ofN n 4 < 2 ^ 4 := ofN_lt n 4
    simp only [Nat.reducePow] at C1 hlt hs ⊢
    obtain ⟨a, ha⟩ : ∃ a, ofN n 4 = a := ⟨_, rfl⟩
    rw [ha] at hs hlt ⊢
    have HO := Lib.hid (or4 a hlt)
    clear ha hlt
    go_wp2_with fail
    refine C1.mono ?_
    rintro e _ ⟨rfl, rfl⟩
    go_wp2_with fail
    refine C2.mono ?_
    rintro e _ ⟨rfl, rfl⟩
    by_cases hi : n ∈ nmL 4
    ·rw [decide_eq_true hi]
     rw [if_pos hi] at hs
     have HR := Lib.hid hs
     clear hs hi C1 C2
     go_wp2_with fail
     exact ⟨⟨5, by omega, by rw [HO.out, HR.out], rfl, trivial⟩, by simp [RowKit.intOf]⟩
    ·rw [decide_eq_false hi]
     rw [if_neg hi] at hs
     have HR := Lib.hid hs
     clear hs hi C1 C2
     go_wp2_with fail
     exact ⟨⟨5, by omega, by rw [HR.out]; rfl, rfl, trivial⟩, by simp [RowKit.intOf]⟩
   ·have C1 := names_any 5 (by omega) wr
    have C2 := HC.out 5 (by omega)
    have hs := ofN_succ n 5
    have hlt : ofN n 5 < 2 ^ 5 := ofN_lt n 5
    simp only [Nat.reducePow] at C1 hlt hs ⊢
    obtain ⟨a, ha⟩ : ∃ a, ofN n 5 = a := ⟨_, rfl⟩
    rw [ha] at hs hlt ⊢
    have HO := Lib.hid (or5 a hlt)
    clear ha hlt
    go_wp2_with fail
    refine C1.mono ?_
    rintro e _ ⟨rfl, rfl⟩
    go_wp2_with fail
    refine C2.mono ?_
    rintro e _ ⟨rfl, rfl⟩
    by_cases hi : n ∈ nmL 5
    ·rw [decide_eq_true hi]
     rw [if_pos hi] at hs
     have HR := Lib.hid hs
     clear hs hi C1 C2
     go_wp2_with fail
     exact ⟨⟨6, by omega, by rw [HO.out, HR.out], rfl, trivial⟩, by simp [RowKit.intOf]⟩
    ·rw [decide_eq_false hi]
     rw [if_neg hi] at hs
     have HR := Lib.hid hs
     clear hs hi C1 C2
     go_wp2_with fail
     exact ⟨⟨6, by omega, by rw [HR.out]; rfl, rfl, trivial⟩, by simp [RowKit.intOf]⟩
   ·have C1 := names_any 6 (by omega) wr
    have C2 := HC.out 6 (by omega)
    have hs := ofN_succ n 6
    have hlt : ofN n 6 < 2 ^ 6 := ofN_lt n 6
    simp only [Nat.reducePow] at C1 hlt hs ⊢
    obtain ⟨a, ha⟩ : ∃ a, ofN n 6 = a := ⟨_, rfl⟩
    rw [ha] at hs hlt ⊢
    have HO := Lib.hid (or6 a hlt)
    clear ha hlt
    go_wp2_with fail
    refine C1.mono ?_
    rintro e _ ⟨rfl, rfl⟩
    go_wp2_with fail
    refine C2.mono ?_
    rintro e _ ⟨rfl, rfl⟩
    by_cases hi : n ∈ nmL 6
    ·rw [decide_eq_true hi]
     rw [if_pos hi] at hs
     have HR := Lib.hid hs
     clear hs hi C1 C2
     go_wp2_with fail
     exact ⟨⟨7, by omega, by rw [HO.out, HR.out], rfl, trivial⟩, by simp [RowKit.intOf]⟩
    ·rw [decide_eq_false hi]
     rw [if_neg hi] at hs
     have HR := Lib.hid hs
     clear hs hi C1 C2
     go_wp2_with fail
     exact ⟨⟨7, by omega, by rw [HR.out]; rfl, rfl, trivial⟩, by simp [RowKit.intOf]⟩
   ·go_wp2_with fail
    go_ret
    exact ⟨rfl, rfl⟩
end Go.Proofs.YtfafhbgkmlmmdaaGreatDoor.K
namespace Go.Proofs.YtfafhbgkmlmmdaaGreatDoor.K
open Go.RowKit Go.Shelf Go.Lib
def ctA (c : Ct) : Array Value := #[.int .i64 (c.h : Int), .int .i64 (c.p : Int), .int .i64 (c.n : Int)]
def NeAt (w : World) (g : Nat) (c : Ct) : Prop := Cells w g 192 (ctA c)
def Ct.get (c : Ct) : Nat → Nat
 | 0 => c.h
 | 1 => c.p
 | _ => c.n
def tkA (kd fr tt : Int) (nm : ByteArray) (r : Int) (sg : Bool) : Array Value := #[.int .i64 kd, .int .i64 fr, .int .i64 tt, .string nm, .int .i32 r, .bool sg]
theorem shows_any (g : Nat) (c : Ct) (w : World) (h : NeAt w g c) : Calls Tryz.prog 136 #[.pointer (some ⟨g, 0, none⟩)] w fun e w' => e = .returned (.bool (decide (c.h = 0))) ∧ w' = w := by
 have x0 : w.cell? ⟨g, 0, none⟩ = some (.int .i64 (c.h : Int)) := h.cell 0
 clear h
 obtain ⟨a, ha⟩ : ∃ a, c.h = a := ⟨_, rfl⟩
 rw [ha] at x0 ⊢
 clear ha
 have e0 : (((a : Nat) : Int) == 0) = decide (a = 0) := by
  by_cases q : a = 0
  ·subst q; rfl
  ·rw [decide_eq_false q]; simpa using q
 go_enter Tryz.func136, Tryz.ntmps136
 go_wp2_with fail
 go_ret
 exact ⟨by simp, rfl⟩
theorem count_any (g k : Nat) (hk : k < 3) (c : Ct) (w : World) (h : NeAt w g c) : Calls Tryz.prog 140 #[.pointer (some ⟨g, 0, none⟩), .int .i64 (k : Int)] w fun e w' => e = .returned (.int .i64 (c.get k : Int)) ∧ w' = w := by
 have x0 : w.cell? ⟨g, k, none⟩ = some (.int .i64 (c.get k : Int)) := by
  refine (h.cell k).trans ?_
  obtain rfl | rfl | rfl : k = 0 ∨ k = 1 ∨ k = 2 := by omega
  all_goals rfl
 clear h
 obtain ⟨a, ha⟩ : ∃ a, c.get k = a := ⟨_, rfl⟩
 rw [ha] at x0 ⊢
 clear ha
 go_enter Tryz.func140, Tryz.ntmps140
 go_wp2_with fail
 go_ret
 exact ⟨rfl, rfl⟩
theorem hid_any (g : Nat) (c : Ct) (w : World) (h : NeAt w g c) : Calls Tryz.prog 105 #[.pointer (some ⟨g, 0, none⟩)] w fun e w' => e = .returned (.int .i64 (c.h : Int)) ∧ w' = w := by
 have C := count_any g 0 (by omega) c w h
 go_enter Tryz.func105, Tryz.ntmps105
 go_wp2_with fail
 refine C.mono ?_
 rintro e _ ⟨rfl, rfl⟩
 go_wp2_with fail
 go_ret
 exact ⟨rfl, rfl⟩
theorem pre_any (g : Nat) (c : Ct) (w : World) (h : NeAt w g c) : Calls Tryz.prog 143 #[.pointer (some ⟨g, 0, none⟩)] w fun e w' => e = .returned (.int .i64 (c.p : Int)) ∧ w' = w := by
 have C := count_any g 1 (by omega) c w h
 go_enter Tryz.func143, Tryz.ntmps143
 go_wp2_with fail
 refine C.mono ?_
 rintro e _ ⟨rfl, rfl⟩
 go_wp2_with fail
 go_ret
 exact ⟨rfl, rfl⟩
theorem nob_any (g : Nat) (c : Ct) (w : World) (h : NeAt w g c) : Calls Tryz.prog 142 #[.pointer (some ⟨g, 0, none⟩)] w fun e w' => e = .returned (.int .i64 (c.n : Int)) ∧ w' = w := by
 have C := count_any g 2 (by omega) c w h
 go_enter Tryz.func142, Tryz.ntmps142
 go_wp2_with fail
 refine C.mono ?_
 rintro e _ ⟨rfl, rfl⟩
 go_wp2_with fail
 go_ret
 exact ⟨rfl, rfl⟩
theorem step_any (N : Nat) (hN : N < 128) (kd fr tt : Int) (nm : ByteArray) (r : Int) (sg : Bool) (w : World) :
  Calls Tryz.prog 138 #[.agg (tkA kd fr tt nm r sg), .int .i64 (N : Int)] w fun e w' => e = .returned (.int .i64 (byN N kd sg)) ∧ Below w.heap.size w w' := by
 have a2 := and2 N hN
 unfold byN tkA
 obtain ⟨W1, hW1⟩ : ∃ V, w.alloc (.cells #[.int .i64 kd, .int .i64 fr, .int .i64 tt, .string nm, .int .i32 r, .bool sg] 35) = V := ⟨_, rfl⟩
 have b1 : Below w.heap.size w W1 := by rw [← hW1]; exact below_new w _
 have o1 : Cells W1 w.heap.size 35 #[.int .i64 kd, .int .i64 fr, .int .i64 tt, .string nm, .int .i32 r, .bool sg] := by rw [← hW1]; exact cells_new _ _ _
 have q0 := o1.cell 0
 have q5 := o1.cell 5
 simp at q0 q5
 have HW := Lib.hid (And.intro hW1 b1)
 clear hW1 b1 o1
 cases hb : isB N 1 with
 | true =>
  rw [hb] at a2
  simp only [if_true] at a2 ⊢
  clear hb
  go_enter Tryz.func138, Tryz.ntmps138
  go_wp2_with fail
  rw [HW.out.1]
  go_wp2_with fail
  go_ret
  exact ⟨rfl, HW.out.2⟩
 | false =>
  rw [hb] at a2
  simp only [Bool.false_eq_true, if_false] at a2 ⊢
  clear hb
  by_cases k3 : kd = 3
  ·subst k3
   simp only [if_true]
   go_enter Tryz.func138, Tryz.ntmps138
   go_wp2_with fail
   rw [HW.out.1]
   go_wp2_with fail
   go_ret
   exact ⟨rfl, HW.out.2⟩
  ·rw [if_neg k3]
   have k3' : (kd == 3) = false := by simpa using k3
   clear k3
   cases sg
   ·go_enter Tryz.func138, Tryz.ntmps138
    go_wp2_with fail
    rw [HW.out.1]
    go_wp2_with fail
    go_ret
    exact ⟨rfl, HW.out.2⟩
   ·go_enter Tryz.func138, Tryz.ntmps138
    go_wp2_with fail
    rw [HW.out.1]
    go_wp2_with fail
    go_ret
    exact ⟨rfl, HW.out.2⟩
theorem forces_any (N : Nat) (hN : N < 128) (kd : Int) (w : World) :
  Calls Tryz.prog 139 #[.int .i64 kd, .int .i64 (N : Int)] w fun e w' => e = .returned (.bool (forcesN N kd)) ∧ w' = w := by
 have a1 := and1 N hN
 have a2 := and2 N hN
 have a33 := and33 N hN
 unfold forcesN
 by_cases k3 : kd = 3
 ·subst k3
  simp only [if_true]
  clear a33
  cases h0 : isB N 0 <;> cases h1 : isB N 1 <;> rw [h0] at a1 <;> rw [h1] at a2 <;> simp only [Bool.false_eq_true, if_false, if_true] at a1 a2 ⊢ <;> clear h0 h1
  all_goals
   go_enter Tryz.func139, Tryz.ntmps139
   go_wp2_with fail
   go_ret
   exact ⟨rfl, rfl⟩
 ·rw [if_neg k3]
  have k3' : (kd == 3) = false := by simpa using k3
  clear k3 a1 a2
  generalize (isB N 0 || isB N 5) = b at *
  cases b
  all_goals
   simp only [Bool.not_true, Bool.not_false] at a33
   go_enter Tryz.func139, Tryz.ntmps139
   go_wp2_with fail
   go_ret
   exact ⟨by simp [bne, a33], rfl⟩
def addK (M : Nat) (b : Int) (c : Ct) (k : Nat) : Ct :=
 ⟨if 0 < k ∧ isB M 2 then clampN c.h b else c.h, if 1 < k ∧ isB M 3 then clampN c.p b else c.p, if 2 < k ∧ isB M 4 then clampN c.n b else c.n⟩
theorem addK_zero (M : Nat) (b : Int) (c : Ct) : addK M b c 0 = c := by simp [addK]
def seenN (N : Nat) (c : Ct) : Nat := if c.h = 0 then N else if isB N 2 then 4 else 0
theorem addK_all (N : Nat) (b : Int) (c : Ct) : addK (seenN N c) b c 3 = addN N b c := by
 unfold addK addN seenN
 by_cases h : c.h = 0
 ·simp [h]
 ·simp only [h, if_false]
  cases e : isB N 2
  ·simp [show isB 0 2 = false from rfl, show isB 0 3 = false from rfl, show isB 0 4 = false from rfl]
  ·simp [show isB 4 2 = true from rfl, show isB 4 3 = false from rfl, show isB 4 4 = false from rfl]
theorem and4s (N : Nat) (hN : N < 128) : bits BinOp.and IntKind.i64 (N : Int) 4 = ((if isB N 2 then 4 else 0 : Nat) : Int) := by
 rw [and4 N hN]
 cases isB N 2 <;> rfl
theorem seenN_lt (N : Nat) (hN : N < 128) (c : Ct) : seenN N c < 128 := by
 unfold seenN
 split
 ·exact hN
 ·split <;> omega
def Ct.put (c : Ct) (k x : Nat) : Ct := match k with
 | 0 => ⟨x, c.p, c.n⟩
 | 1 => ⟨c.h, x, c.n⟩
 | _ => ⟨c.h, c.p, x⟩
theorem NeAt.set {w : World} {g : Nat} {c : Ct} (h : NeAt w g c) (k x : Nat) (hk : k < 3) : NeAt (w.setCell ⟨g, k, none⟩ (.int .i64 (x : Int))) g (c.put k x) := by
 have := Cells.set h k (.int .i64 (x : Int))
 obtain rfl | rfl | rfl : k = 0 ∨ k = 1 ∨ k = 2 := by omega
 all_goals exact this
theorem addK_hit (M : Nat) (b : Int) (c : Ct) (k : Nat) (hk : k < 3) (h : isB M (k + 2) = true) : addK M b c (k + 1) = (addK M b c k).put k (clampN (c.get k) b) := by
 obtain rfl | rfl | rfl : k = 0 ∨ k = 1 ∨ k = 2 := by omega
 all_goals
  simp only [Nat.reduceAdd] at h
  simp [addK, Ct.put, Ct.get, h]
theorem addK_miss (M : Nat) (b : Int) (c : Ct) (k : Nat) (hk : k < 3) (h : isB M (k + 2) = false) : addK M b c (k + 1) = addK M b c k := by
 obtain rfl | rfl | rfl : k = 0 ∨ k = 1 ∨ k = 2 := by omega
 all_goals
  simp only [Nat.reduceAdd] at h
  simp [addK, h]
theorem addK_get (M : Nat) (b : Int) (c : Ct) (k : Nat) (hk : k < 3) : (addK M b c k).get k = c.get k := by
 obtain rfl | rfl | rfl : k = 0 ∨ k = 1 ∨ k = 2 := by omega
 all_goals simp [addK, Ct.get]
theorem get_ok {c : Ct} (h : c.ok) (k : Nat) : c.get k ≤ 255 := by
 obtain ⟨h1, h2, h3⟩ := h
 match k with
 | 0 => exact h1
 | 1 => exact h2
 | k + 2 => exact h3
theorem bitK (M : Nat) (hM : M < 128) (k : Nat) (hk : k < 3) : bits BinOp.and IntKind.i64 (M : Int) ((2 ^ (k + 2) : Nat) : Int) = if isB M (k + 2) then ((2 ^ (k + 2) : Nat) : Int) else 0 := by
 obtain rfl | rfl | rfl : k = 0 ∨ k = 1 ∨ k = 2 := by omega
 ·exact and4 M hM
 ·exact and8 M hM
 ·exact and16 M hM
theorem index_iv (W : World) : (Instr.index 189 (.agg #[.int .i64 4, .int .i64 8, .int .i64 16]) (.int .i64 0)).run Tryz.prog W = .ok (.int .i64 4) W ∧ (Instr.index 189 (.agg #[.int .i64 4, .int .i64 8, .int .i64 16]) (.int .i64 1)).run Tryz.prog W = .ok (.int .i64 8) W ∧
  (Instr.index 189 (.agg #[.int .i64 4, .int .i64 8, .int .i64 16]) (.int .i64 2)).run Tryz.prog W = .ok (.int .i64 16) W := ⟨by kernel_rfl, by kernel_rfl, by kernel_rfl⟩
theorem index_ivk (k : Nat) (hk : k < 3) (W : World) : (Instr.index 189 (.agg #[.int .i64 4, .int .i64 8, .int .i64 16]) (.int .i64 (k : Int))).run Tryz.prog W = .ok (.int .i64 ((2 ^ (k + 2) : Nat) : Int)) W := by
 obtain rfl | rfl | rfl : k = 0 ∨ k = 1 ∨ k = 2 := by omega
 ·exact (index_iv W).1
 ·exact (index_iv W).2.1
 ·exact (index_iv W).2.2
theorem add_any (N : Nat) (hN : N < 128) (b : Int) (hb : b = 0 ∨ b = 1 ∨ b = -1) (g : Nat) (c : Ct) (hc : c.ok) (w : World) (h : NeAt w g c) :
  Calls Tryz.prog 137 #[.pointer (some ⟨g, 0, none⟩), .int .i64 (N : Int), .int .i64 b] w fun e w' => e = .returned (.tuple #[]) ∧ NeAt w' g (addN N b c) ∧ Fz (fun k => k = g) w w' := by
 have CS := shows_any g c w h
 have hM := seenN_lt N hN c
 have ha4 := and4s N hN
 rw [← addK_all N b c]
 have hb1 : -1 ≤ b ∧ b ≤ 1 := by omega
 have hs1 : c.h = 0 → seenN N c = N := fun q => by simp [seenN, q]
 have hs2 : ¬ c.h = 0 → seenN N c = (if isB N 2 then 4 else 0) := fun q => by simp [seenN, q]
 obtain ⟨M, hMe⟩ : ∃ M, seenN N c = M := ⟨_, rfl⟩
 rw [hMe] at hM hs1 hs2 ⊢
 clear hMe hN
 have HC := Lib.hid hc
 have HH := Lib.hid h
 have HB := Lib.hid hM
 clear hc h hb hM
 by_cases h0 : c.h = 0
 ·obtain rfl : M = N := hs1 h0
  rw [decide_eq_true h0] at CS
  clear hs1 hs2 h0 ha4
  go_enter Tryz.func137, Tryz.ntmps137
  go_wp2_with fail
  refine CS.mono ?_
  rintro e w0 ⟨rfl, hw⟩
  obtain rfl := hw.symm
  clear CS
  go_wp2_with fail
  go_loopw [6, 7, 14] (fun _ _ i wr => ∃ k : Nat, k ≤ 3 ∧ i = .int .i64 (k : Int) ∧ NeAt wr g (addK M b c k) ∧ Fz (fun k => k = g) w wr) (fun _ _ i _ => 3 - (RowKit.intOf i).toNat)
  case atStart => exact ⟨0, by omega, rfl, by rw [addK_zero]; exact HH.out, Fz.refl _ _⟩
  case round =>
   obtain ⟨k, hk, rfl, hne, hfz⟩ := hrel
   by_cases hk3 : k < 3
   case neg =>
    obtain rfl : k = 3 := by omega
    have HE := Lib.hid (And.intro hne hfz)
    clear hne hfz
    go_wp2_with fail
    go_end0
    exact ⟨rfl, HE.out⟩
   case pos =>
    have x0 : wr.cell? ⟨g, k, none⟩ = some (.int .i64 (c.get k : Int)) := by
     refine (Cells.cell hne k).trans ?_
     rw [← addK_get M b c k hk3]
     obtain rfl | rfl | rfl : k = 0 ∨ k = 1 ∨ k = 2 := by omega
     all_goals rfl
    have f0 := Cells.froz hne k
    have hbk := bitK M HB.out k hk3
    have hg := get_ok HC.out k
    have hit := addK_hit M b c k hk3
    have miss := addK_miss M b c k hk3
    have hq := clampN_eq (c.get k) b
    have hne2 := fun x => NeAt.set hne k x hk3
    have hfz2 := fun x : Nat => hfz.trans (Fz.set (X := fun k => k = g) wr g k (.int .i64 (x : Int)) rfl)
    obtain ⟨cg, hcg⟩ : ∃ q, c.get k = q := ⟨_, rfl⟩
    rw [hcg] at x0 hg hit hq
    obtain ⟨q, hqe⟩ : ∃ q, clampN cg b = q := ⟨_, rfl⟩
    rw [hqe] at hit hq
    have HQ := Lib.hid hq
    have hix := fun W => index_ivk k hk3 W
    have ht1 : (((2 ^ (k + 2) : Nat) : Int) == 0) = false := by
     have : 0 < 2 ^ (k + 2) := Nat.two_pow_pos _
     simp only [beq_eq_false_iff_ne]
     omega
    obtain ⟨t, hte⟩ : ∃ t : Nat, 2 ^ (k + 2) = t := ⟨_, rfl⟩
    rw [hte] at ht1 hbk
    simp only [hte] at hix
    clear hte
    have i3 : (k : Int) < 3 := by omega
    cases hbit : isB M (k + 2)
    ·rw [hbit] at hbk
     have hend : ∃ j : Nat, j ≤ 3 ∧ Value.int .i64 ((k : Int) + 1) = .int .i64 (j : Int) ∧ NeAt wr g (addK M b c j) ∧ Fz (fun k => k = g) w wr :=
      ⟨k + 1, by omega, by simp, by rw [miss hbit]; exact hne, hfz⟩
     have HEND := Lib.hid hend
     clear hit miss hbit hne hfz hne2 hfz2 hq HQ hcg hqe hend
     simp only [Bool.false_eq_true, if_false] at hbk
     go_wp2_with fail
     go_roundw
     case rel => exact HEND.out
     case measure => simp [RowKit.intOf]; omega
    ·rw [hbit] at hbk
     have hend : ∃ j : Nat, j ≤ 3 ∧ Value.int .i64 ((k : Int) + 1) = .int .i64 (j : Int) ∧ NeAt (wr.setCell ⟨g, k, none⟩ (.int .i64 (min (max ((cg : Int) + b) 0) 255))).drew g (addK M b c j) ∧ Fz (fun k => k = g) w (wr.setCell ⟨g, k, none⟩ (.int .i64 (min (max ((cg : Int) + b) 0) 255))).drew := by
      rw [← hq]
      exact ⟨k + 1, by omega, by simp, by rw [hit hbit]; exact hne2 q, (hfz2 q).trans ⟨rfl, rfl, rfl, Nat.le_refl _, fun _ _ _ => rfl⟩⟩
     have HEND := Lib.hid hend
     clear hit miss hbit hne hfz hne2 hfz2 hq HQ hcg hqe hend
     simp only [if_true] at hbk
     go_wp2_with fail
     go_still_tail 13, (by kernel_rfl)
     go_wp2_with fail
     exact ⟨HEND.out, by simp [RowKit.intOf]; omega⟩
 ·have hs3 := hs2 h0
  rw [← hs3] at ha4
  rw [decide_eq_false h0] at CS
  clear hs1 hs2 hs3 h0
  go_enter Tryz.func137, Tryz.ntmps137
  go_wp2_with fail
  refine CS.mono ?_
  rintro e w0 ⟨rfl, hw⟩
  obtain rfl := hw.symm
  clear CS
  go_wp2_with fail
  go_loopw [6, 7, 14] (fun _ _ i wr => ∃ k : Nat, k ≤ 3 ∧ i = .int .i64 (k : Int) ∧ NeAt wr g (addK M b c k) ∧ Fz (fun k => k = g) w wr) (fun _ _ i _ => 3 - (RowKit.intOf i).toNat)
  case atStart => exact ⟨0, by omega, rfl, by rw [addK_zero]; exact HH.out, Fz.refl _ _⟩
  case round =>
   obtain ⟨k, hk, rfl, hne, hfz⟩ := hrel
   by_cases hk3 : k < 3
   case neg =>
    obtain rfl : k = 3 := by omega
    have HE := Lib.hid (And.intro hne hfz)
    clear hne hfz
    go_wp2_with fail
    go_end0
    exact ⟨rfl, HE.out⟩
   case pos =>
    have x0 : wr.cell? ⟨g, k, none⟩ = some (.int .i64 (c.get k : Int)) := by
     refine (Cells.cell hne k).trans ?_
     rw [← addK_get M b c k hk3]
     obtain rfl | rfl | rfl : k = 0 ∨ k = 1 ∨ k = 2 := by omega
     all_goals rfl
    have f0 := Cells.froz hne k
    have hbk := bitK M HB.out k hk3
    have hg := get_ok HC.out k
    have hit := addK_hit M b c k hk3
    have miss := addK_miss M b c k hk3
    have hq := clampN_eq (c.get k) b
    have hne2 := fun x => NeAt.set hne k x hk3
    have hfz2 := fun x : Nat => hfz.trans (Fz.set (X := fun k => k = g) wr g k (.int .i64 (x : Int)) rfl)
    obtain ⟨cg, hcg⟩ : ∃ q, c.get k = q := ⟨_, rfl⟩
    rw [hcg] at x0 hg hit hq
    obtain ⟨q, hqe⟩ : ∃ q, clampN cg b = q := ⟨_, rfl⟩
    rw [hqe] at hit hq
    have HQ := Lib.hid hq
    have hix := fun W => index_ivk k hk3 W
    have ht1 : (((2 ^ (k + 2) : Nat) : Int) == 0) = false := by
     have : 0 < 2 ^ (k + 2) := Nat.two_pow_pos _
     simp only [beq_eq_false_iff_ne]
     omega
    obtain ⟨t, hte⟩ : ∃ t : Nat, 2 ^ (k + 2) = t := ⟨_, rfl⟩
    rw [hte] at ht1 hbk
    simp only [hte] at hix
    clear hte
    have i3 : (k : Int) < 3 := by omega
    cases hbit : isB M (k + 2)
    ·rw [hbit] at hbk
     have hend : ∃ j : Nat, j ≤ 3 ∧ Value.int .i64 ((k : Int) + 1) = .int .i64 (j : Int) ∧ NeAt wr g (addK M b c j) ∧ Fz (fun k => k = g) w wr :=
      ⟨k + 1, by omega, by simp, by rw [miss hbit]; exact hne, hfz⟩
     have HEND := Lib.hid hend
     clear hit miss hbit hne hfz hne2 hfz2 hq HQ hcg hqe hend
     simp only [Bool.false_eq_true, if_false] at hbk
     go_wp2_with fail
     go_roundw
     case rel => exact HEND.out
     case measure => simp [RowKit.intOf]; omega
    ·rw [hbit] at hbk
     have hend : ∃ j : Nat, j ≤ 3 ∧ Value.int .i64 ((k : Int) + 1) = .int .i64 (j : Int) ∧ NeAt (wr.setCell ⟨g, k, none⟩ (.int .i64 (min (max ((cg : Int) + b) 0) 255))).drew g (addK M b c j) ∧ Fz (fun k => k = g) w (wr.setCell ⟨g, k, none⟩ (.int .i64 (min (max ((cg : Int) + b) 0) 255))).drew := by
      rw [← hq]
      exact ⟨k + 1, by omega, by simp, by rw [hit hbit]; exact hne2 q, (hfz2 q).trans ⟨rfl, rfl, rfl, Nat.le_refl _, fun _ _ _ => rfl⟩⟩
     have HEND := Lib.hid hend
     clear hit miss hbit hne hfz hne2 hfz2 hq HQ hcg hqe hend
     simp only [if_true] at hbk
     go_wp2_with fail
     go_still_tail 13, (by kernel_rfl)
     go_wp2_with fail
     exact ⟨HEND.out, by simp [RowKit.intOf]; omega⟩
end Go.Proofs.YtfafhbgkmlmmdaaGreatDoor.K
namespace Go.Proofs.YtfafhbgkmlmmdaaGreatDoor.K
open Go.RowKit Go.Shelf Go.Lib Go.Maps Go.Sort
attribute [local irreducible] nmL ofN
theorem take_other (kd fr tt : Int) (nm : ByteArray) (r : Int) (sg : Bool) (h2 : kd ≠ 2) (h3 : kd ≠ 3) (p : Value) (hp : p = .pointer none ∨ ∃ g, p = .pointer (some ⟨g, 0, none⟩)) (w : World) :
  Calls Tryz.prog 104 #[p, .agg (tkA kd fr tt nm r sg)] w fun e w' => e = .returned (.tuple #[.bool false, .bool false]) ∧ Below w.heap.size w w' := by
 have k2 : (kd != 2) = true := by simpa using h2
 have k3 : (kd != 3) = true := by simpa using h3
 unfold tkA
 obtain ⟨W1, hW1⟩ : ∃ V, w.alloc (.cells #[.int .i64 kd, .int .i64 fr, .int .i64 tt, .string nm, .int .i32 r, .bool sg] 35) = V := ⟨_, rfl⟩
 have b1 : Below w.heap.size w W1 := by rw [← hW1]; exact below_new w _
 have o1 : Cells W1 w.heap.size 35 #[.int .i64 kd, .int .i64 fr, .int .i64 tt, .string nm, .int .i32 r, .bool sg] := by rw [← hW1]; exact cells_new _ _ _
 have q0 := o1.cell 0
 simp at q0
 have HW := Lib.hid (And.intro hW1 b1)
 clear hW1 b1 o1 h2 h3
 rcases hp with rfl | ⟨g, rfl⟩
 ·go_enter Tryz.func104, Tryz.ntmps104
  go_wp2_with fail
  rw [HW.out.1]
  go_wp2_with fail
  go_ret2
  exact ⟨rfl, HW.out.2⟩
 ·go_enter Tryz.func104, Tryz.ntmps104
  go_wp2_with fail
  rw [HW.out.1]
  go_wp2_with fail
  go_ret2
  exact ⟨rfl, HW.out.2⟩
theorem take_tag (kd fr tt : Int) (nm : ByteArray) (r : Int) (sg : Bool) (hk : kd = 2 ∨ kd = 3) (hl : nm.size ≤ 1000000) (g : Nat) (c : Ct) (hc : c.ok) (w : World) (h : NeAt w g c) (hM : MX w) :
  Calls Tryz.prog 104 #[.pointer (some ⟨g, 0, none⟩), .agg (tkA kd fr tt nm r sg)] w fun e w' =>
   e = .returned (.tuple #[.bool (decide (c.h = 0) && forcesN (ofN nm.data.toList 7) kd), .bool (decide (kd = 2) && (decide (c.h = 0) && isB (ofN nm.data.toList 7) 6))]) ∧
   NeAt w' g (addN (ofN nm.data.toList 7) (byN (ofN nm.data.toList 7) kd sg) c) ∧ Fz (fun k => k = g) w w' := by
 obtain ⟨W1, hW1⟩ : ∃ V, w.alloc (.cells #[.int .i64 kd, .int .i64 fr, .int .i64 tt, .string nm, .int .i32 r, .bool sg] 35) = V := ⟨_, rfl⟩
 have b1 : Below w.heap.size w W1 := by rw [← hW1]; exact below_new w _
 have o1 : Cells W1 w.heap.size 35 #[.int .i64 kd, .int .i64 fr, .int .i64 tt, .string nm, .int .i32 r, .bool sg] := by rw [← hW1]; exact cells_new _ _ _
 have h1 : NeAt W1 g c := h.on b1
 have hM1 : MX W1 := hM.on hM.pos b1
 have COF := fun n => of_any nm hl (W1.drewN n) (hM1.on hM1.pos (below_drewN (Below.refl _ _) n))
 have CSH := fun n => shows_any g c (W1.drewN n) (Cells.on h1 (below_drewN (Below.refl _ _) n))
 have hN : ofN nm.data.toList 7 < 128 := ofN_lt _ 7
 obtain ⟨N, hNe⟩ : ∃ N, ofN nm.data.toList 7 = N := ⟨_, rfl⟩
 rw [hNe] at hN ⊢
 simp only [hNe] at COF
 have CST := fun W => step_any N hN kd fr tt nm r sg W
 have hby := byN_cases N kd sg
 obtain ⟨by_, hbye⟩ : ∃ b, byN N kd sg = b := ⟨_, rfl⟩
 rw [hbye] at hby ⊢
 simp only [hbye] at CST
 have CAD := fun W (hW : NeAt W g c) => add_any N hN by_ (by omega) g c hc W hW
 have CFO := fun W => forces_any N hN kd W
 have ha64 := and64 N hN
 obtain ⟨H0, hH0⟩ : ∃ d, decide (c.h = 0) = d := ⟨_, rfl⟩
 simp only [hH0] at CSH ⊢
 obtain ⟨FO, hFO⟩ : ∃ d, forcesN N kd = d := ⟨_, rfl⟩
 simp only [hFO] at CFO ⊢
 obtain ⟨C2, hC2⟩ : ∃ d, addN N by_ c = d := ⟨_, rfl⟩
 simp only [hC2] at CAD ⊢
 have q0 := o1.cell 0
 have q1 := o1.cell 1
 have q2 := o1.cell 2
 have q3 := o1.cell 3
 have q4 := o1.cell 4
 have q5 := o1.cell 5
 simp at q0 q1 q2 q3 q4 q5
 unfold tkA at CST ⊢
 have hg : g < w.heap.size := Cells.lt h
 have HW := Lib.hid (And.intro hW1 (And.intro b1 (And.intro h1 (And.intro o1 hg))))
 clear hW1 b1 o1 h1 h hM hM1 hNe hbye hby hH0 hFO hC2 hc hg
 have k23 : (kd == 2) = decide (kd = 2) := by
  by_cases q : kd = 2
  ·subst q; rfl
  ·rw [decide_eq_false q]; simpa using q
 have CU : ∀ d os, Calls Tryz.prog 138 #[.agg #[.int .i64 kd, .int .i64 fr, .int .i64 tt, .string nm, .int .i32 r, .bool sg], .int .i64 (N : Int)] (grow (redrawn W1 d) os) fun e w'' => e = .returned (.int .i64 by_) ∧ ∃ p : Regrown, w'' = grow (redrawn W1 p.d) p.os :=
  fun d os => Calls.regrown_of (CST _)
 have G0 : ∀ d os, (grow (redrawn W1 d) os).cell? ⟨w.heap.size, 0, none⟩ = some (.int .i64 kd) := fun d os => cell_regrown q0 d os
 have G1 : ∀ d os, (grow (redrawn W1 d) os).cell? ⟨w.heap.size, 1, none⟩ = some (.int .i64 fr) := fun d os => cell_regrown q1 d os
 have G2 : ∀ d os, (grow (redrawn W1 d) os).cell? ⟨w.heap.size, 2, none⟩ = some (.int .i64 tt) := fun d os => cell_regrown q2 d os
 have G3 : ∀ d os, (grow (redrawn W1 d) os).cell? ⟨w.heap.size, 3, none⟩ = some (.string nm) := fun d os => cell_regrown q3 d os
 have G4 : ∀ d os, (grow (redrawn W1 d) os).cell? ⟨w.heap.size, 4, none⟩ = some (.int .i32 r) := fun d os => cell_regrown q4 d os
 have G5 : ∀ d os, (grow (redrawn W1 d) os).cell? ⟨w.heap.size, 5, none⟩ = some (.bool sg) := fun d os => cell_regrown q5 d os
 have HU := Lib.hid CU
 clear CU CST
 rcases hk with rfl | rfl
 ·have kk : ((2 : Int) = 2) = True := by simp
  simp only [decide_true, Bool.true_and]
  clear kk k23
  go_enter Tryz.func104, Tryz.ntmps104
  go_wp2_with fail
  rw [HW.out.1]
  go_wp2_with go_quiet (first | exact Calls.quiet_of_same (COF _) | exact Calls.quiet_of_same (CSH _))
  refine wp_region_mix (fun i => if i = 6 then 1 else if i = 7 then 3 else 0) [0, 1, 2, 3, 4, 5, 6] [7] (fun w' => ∃ p : Regrown, w' = grow (redrawn W1 p.d) p.os) (by kernel_rfl) (by kernel_rfl) ⟨⟨_, #[]⟩, by rw [grow_empty]; rfl⟩ ?_
  simp only [opsAt, List.filterMap_cons, List.filterMap_nil, List.getElem?_toArray, List.getElem?_cons_zero, List.getElem?_cons_succ]
  change wpQuiet _ _ _ _ [_, _, _, _, _, _, _] _
  repeat (go_big_quiet_step (exact HU.out _ _))
  refine wpQuiet_nil ?_
  intro _ hw'
  obtain ⟨⟨dq, osq⟩, hw''⟩ := hw'
  subst hw''
  have b2 := below_regrown W1 dq osq
  have n2 : NeAt (grow (redrawn W1 dq) osq) g c := Cells.on HW.out.2.2.1 b2
  have x2 : Cells (grow (redrawn W1 dq) osq) w.heap.size 35 #[.int .i64 2, .int .i64 fr, .int .i64 tt, .string nm, .int .i32 r, .bool sg] := HW.out.2.2.2.1.on b2
  have b12 : Below w.heap.size w (grow (redrawn W1 dq) osq) := HW.out.2.1.trans (b2.mono HW.out.2.1.size)
  clear G0 G1 G2 G3 G4 G5 COF CSH
  have CA := CAD _ n2
  have HX := Lib.hid (And.intro b12 x2)
  clear b2 n2 x2 b12 CAD
  generalize grow (redrawn W1 dq) osq = w2 at *
  clear q0 q1 q2 q3 q4 q5
  refine wpSeqM_step rfl ?_
  go_wp2_with fail
  refine CA.mono ?_
  rintro e w3 ⟨rfl, hn3, hf3⟩
  have hg := HW.out.2.2.2.2
  have x3 : Cells w3 w.heap.size 35 #[.int .i64 2, .int .i64 fr, .int .i64 tt, .string nm, .int .i32 r, .bool sg] := (hf3.block _ HX.out.2.lt (by omega)).trans HX.out.2
  have y0 : w3.cell? ⟨w.heap.size, 0, none⟩ = some (.int .i64 2) := x3.cell 0
  have hz : NeAt w3 g C2 ∧ Fz (fun k => k = g) w w3 := ⟨hn3, (Fz.of_below HX.out.1).trans hf3⟩
  have HZ := Lib.hid hz
  clear CA hn3 hf3 hg x3 hz
  go_wp2_with fail
  unfold wpSeqM
  have CF := fun n => CFO (w3.drewN n)
  clear CFO
  cases H0
  ·go_wp2_with fail
   go_ret2
   exact ⟨by simp, HZ.out⟩
  ·cases h6 : isB N 6
   all_goals
    rw [h6] at ha64
    simp only [Bool.false_eq_true, if_false, if_true] at ha64
    go_wp2_with go_quiet (exact Calls.quiet_of_same (CF _))
    go_ret2
    exact ⟨by simp [h6], HZ.out.1, HZ.out.2.trans ⟨rfl, rfl, rfl, Nat.le_refl _, fun _ _ _ => rfl⟩⟩
 ·have kk : ((3 : Int) = 2) = False := by simp
  simp only [kk, decide_false, Bool.false_and]
  clear kk k23
  go_enter Tryz.func104, Tryz.ntmps104
  go_wp2_with fail
  rw [HW.out.1]
  go_wp2_with go_quiet (first | exact Calls.quiet_of_same (COF _) | exact Calls.quiet_of_same (CSH _))
  refine wp_region_mix (fun i => if i = 6 then 1 else if i = 7 then 3 else 0) [0, 1, 2, 3, 4, 5, 6] [7] (fun w' => ∃ p : Regrown, w' = grow (redrawn W1 p.d) p.os) (by kernel_rfl) (by kernel_rfl) ⟨⟨_, #[]⟩, by rw [grow_empty]; rfl⟩ ?_
  simp only [opsAt, List.filterMap_cons, List.filterMap_nil, List.getElem?_toArray, List.getElem?_cons_zero, List.getElem?_cons_succ]
  change wpQuiet _ _ _ _ [_, _, _, _, _, _, _] _
  repeat (go_big_quiet_step (exact HU.out _ _))
  refine wpQuiet_nil ?_
  intro _ hw'
  obtain ⟨⟨dq, osq⟩, hw''⟩ := hw'
  subst hw''
  have b2 := below_regrown W1 dq osq
  have n2 : NeAt (grow (redrawn W1 dq) osq) g c := Cells.on HW.out.2.2.1 b2
  have x2 : Cells (grow (redrawn W1 dq) osq) w.heap.size 35 #[.int .i64 3, .int .i64 fr, .int .i64 tt, .string nm, .int .i32 r, .bool sg] := HW.out.2.2.2.1.on b2
  have b12 : Below w.heap.size w (grow (redrawn W1 dq) osq) := HW.out.2.1.trans (b2.mono HW.out.2.1.size)
  clear G0 G1 G2 G3 G4 G5 COF CSH
  have CA := CAD _ n2
  have HX := Lib.hid (And.intro b12 x2)
  clear b2 n2 x2 b12 CAD
  generalize grow (redrawn W1 dq) osq = w2 at *
  clear q0 q1 q2 q3 q4 q5
  refine wpSeqM_step rfl ?_
  go_wp2_with fail
  refine CA.mono ?_
  rintro e w3 ⟨rfl, hn3, hf3⟩
  have hg := HW.out.2.2.2.2
  have x3 : Cells w3 w.heap.size 35 #[.int .i64 3, .int .i64 fr, .int .i64 tt, .string nm, .int .i32 r, .bool sg] := (hf3.block _ HX.out.2.lt (by omega)).trans HX.out.2
  have y0 : w3.cell? ⟨w.heap.size, 0, none⟩ = some (.int .i64 3) := x3.cell 0
  have hz : NeAt w3 g C2 ∧ Fz (fun k => k = g) w w3 := ⟨hn3, (Fz.of_below HX.out.1).trans hf3⟩
  have HZ := Lib.hid hz
  clear CA hn3 hf3 hg x3 hz
  go_wp2_with fail
  unfold wpSeqM
  have CF := fun n => CFO (w3.drewN n)
  clear CFO
  cases H0
  ·go_wp2_with fail
   go_ret2
   exact ⟨by simp, HZ.out⟩
  ·cases h6 : isB N 6
   all_goals
    rw [h6] at ha64
    simp only [Bool.false_eq_true, if_false, if_true] at ha64
    go_wp2_with go_quiet (exact Calls.quiet_of_same (CF _))
    go_ret2
    exact ⟨by simp, HZ.out.1, HZ.out.2.trans ⟨rfl, rfl, rfl, Nat.le_refl _, fun _ _ _ => rfl⟩⟩
end Go.Proofs.YtfafhbgkmlmmdaaGreatDoor.K
namespace Go.Proofs.YtfafhbgkmlmmdaaGreatDoor.K
open Go.RowKit Go.Shelf Go.Lib Go.Maps
attribute [local irreducible] nmL ofN
theorem MX.fz {g : Nat} {w w' : World} (h : MX w) (hf : Fz (fun k => k = g) w w') (hg : 2 < g) : MX w' := by
 obtain ⟨m, hm⟩ := h
 refine ⟨m, ?_⟩
 have h0 : 2 < w.heap.size := MX.pos ⟨m, hm⟩
 have := hf.block 2 h0 (by omega)
 unfold World.cell? at hm ⊢
 rw [this]
 exact hm
def nameN (nm : ByteArray) : Nat := ofN nm.data.toList 7
theorem take_any (kd fr tt : Int) (nm : ByteArray) (r : Int) (sg : Bool) (hl : nm.size ≤ 1000000) (g : Nat) (c : Ct) (hc : c.ok) (w : World) (h : NeAt w g c) (hM : MX w) :
  Calls Tryz.prog 104 #[.pointer (some ⟨g, 0, none⟩), .agg (tkA kd fr tt nm r sg)] w fun e w' =>
   e = .returned (.tuple #[.bool (takeF (nameN nm) kd c), .bool (takeX (nameN nm) kd c)]) ∧ NeAt w' g (takeC (nameN nm) kd sg c) ∧ Fz (fun k => k = g) w w' := by
 by_cases hk : kd = 2 ∨ kd = 3
 ·unfold takeF takeX takeC nameN
  rw [decide_eq_true hk, if_pos hk, Bool.true_and]
  exact take_tag kd fr tt nm r sg hk hl g c hc w h hM
 ·have h2 : kd ≠ 2 := fun e => hk (.inl e)
  have h3 : kd ≠ 3 := fun e => hk (.inr e)
  unfold takeF takeX takeC
  rw [decide_eq_false hk, if_neg hk, decide_eq_false h2, Bool.false_and, Bool.false_and]
  refine (take_other kd fr tt nm r sg h2 h3 (.pointer (some ⟨g, 0, none⟩)) (.inr ⟨g, rfl⟩) w).mono ?_
  rintro e w' ⟨rfl, hb⟩
  exact ⟨rfl, Cells.on h hb, Fz.of_below hb⟩
theorem new_any (w : World) : Calls Tryz.prog 103 #[] w fun e w' => e = .returned (.pointer (some ⟨w.heap.size, 0, none⟩)) ∧ w' = w.alloc (.cells (ctA ⟨0, 0, 0⟩) 192) := by
 unfold ctA
 go_enter Tryz.func103, Tryz.ntmps103
 go_wp2_with fail
 go_ret
 exact ⟨rfl, rfl⟩
theorem ok0 : (⟨0, 0, 0⟩ : Ct).ok := ⟨by decide, by decide, by decide⟩
end Go.Proofs.YtfafhbgkmlmmdaaGreatDoor.K
namespace Go.Proofs.YtfafhbgkmlmmdaaGreatDoor.K
open Go.RowKit Go.Shelf Go.Lib
theorem Fz.drew {X : Nat → Prop} (w : World) : Fz X w { w with drawn := w.drawn + 1 } := ⟨rfl, rfl, rfl, Nat.le_refl _, fun _ _ _ => rfl⟩
structure Later (X : Nat → Prop) (w : World) where
 W : World
 h : Fz X w W
instance later_nonempty (X : Nat → Prop) (w : World) : Nonempty (Later X w) := ⟨⟨w, Fz.refl _ _⟩⟩
theorem cell_later {X : Nat → Prop} {w : World} {b o : Nat} {v : Value} (h : w.cell? ⟨b, o, none⟩ = some v) (hX : ¬ X b) (p : Later X w) : p.W.cell? ⟨b, o, none⟩ = some v :=
 (World.cell?_of_block (a := ⟨b, o, none⟩) (p.h.block b (block_lt_of_cell h) hX)).trans h
end Go.Proofs.YtfafhbgkmlmmdaaGreatDoor.K
namespace Go.Proofs.YtfafhbgkmlmmdaaGreatDoor.K
open Go.RowKit Go.Shelf Go.Lib Go.Maps
theorem cell7 {W : World} {g T : Nat} {a0 a1 a2 a3 a4 a5 a6 : Value} (h : Cells W g T #[a0, a1, a2, a3, a4, a5, a6]) : W.cell? ⟨g, 0, none⟩ = some a0 ∧ W.cell? ⟨g, 1, none⟩ = some a1 ∧ W.cell? ⟨g, 2, none⟩ = some a2 ∧ W.cell? ⟨g, 3, none⟩ = some a3 ∧ W.cell? ⟨g, 4, none⟩ = some a4 ∧ W.cell? ⟨g, 5, none⟩ = some a5 ∧ W.cell? ⟨g, 6, none⟩ = some a6 :=
 ⟨h.cell 0, h.cell 1, h.cell 2, h.cell 3, h.cell 4, h.cell 5, h.cell 6⟩
theorem froz7 {W : World} {g T : Nat} {cs : Array Value} (h : Cells W g T cs) : W.frozen? ⟨g, 0, none⟩ = false ∧ W.frozen? ⟨g, 1, none⟩ = false ∧ W.frozen? ⟨g, 2, none⟩ = false ∧ W.frozen? ⟨g, 3, none⟩ = false ∧ W.frozen? ⟨g, 4, none⟩ = false ∧ W.frozen? ⟨g, 5, none⟩ = false ∧ W.frozen? ⟨g, 6, none⟩ = false :=
 ⟨h.froz 0, h.froz 1, h.froz 2, h.froz 3, h.froz 4, h.froz 5, h.froz 6⟩
theorem set7 {W : World} {g T : Nat} {a0 a1 a2 a3 a4 a5 a6 : Value} (h : Cells W g T #[a0, a1, a2, a3, a4, a5, a6]) (v0 v1 v2 v3 v4 v5 v6 : Value) :
  ∃ W', (((((((W.setCell ⟨g, 0, none⟩ v0).setCell ⟨g, 1, none⟩ v1).setCell ⟨g, 2, none⟩ v2).setCell ⟨g, 3, none⟩ v3).setCell ⟨g, 4, none⟩ v4).setCell ⟨g, 5, none⟩ v5).setCell ⟨g, 6, none⟩ v6) = W' ∧ Cells W' g T #[v0, v1, v2, v3, v4, v5, v6] ∧ Fz (fun z => z = g) W W' := by
 have z1 : Cells _ g T #[v0, a1, a2, a3, a4, a5, a6] := h.set 0 v0
 have z2 : Cells _ g T #[v0, v1, a2, a3, a4, a5, a6] := z1.set 1 v1
 have z3 : Cells _ g T #[v0, v1, v2, a3, a4, a5, a6] := z2.set 2 v2
 have z4 : Cells _ g T #[v0, v1, v2, v3, a4, a5, a6] := z3.set 3 v3
 have z5 : Cells _ g T #[v0, v1, v2, v3, v4, a5, a6] := z4.set 4 v4
 have z6 : Cells _ g T #[v0, v1, v2, v3, v4, v5, a6] := z5.set 5 v5
 have z7 : Cells _ g T #[v0, v1, v2, v3, v4, v5, v6] := z6.set 6 v6
 have s := fun (V : World) (i : Nat) (v : Value) => Fz.set (X := fun z => z = g) V g i v rfl
 exact ⟨_, rfl, z7, ((((((s _ 0 _).trans (s _ 1 _)).trans (s _ 2 _)).trans (s _ 3 _)).trans (s _ 4 _)).trans (s _ 5 _)).trans (s _ 6 _)⟩
end Go.Proofs.YtfafhbgkmlmmdaaGreatDoor.K

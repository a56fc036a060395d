/- Parts of the proof of what the last text says. -/
import Derived.Shelf.Small.Utf8
import Derived.Shelf.Small.Bits
import Derived.Shelf.Small.Strs
import Derived.Shelf.Strconv.Itoa0
import Derived.Shelf.LaysM
import Derived.Shelf.Strconv.Clone
import Derived.Shelf.LaysC
import Derived.Shelf.Strconv.AtoiAll
import Derived.Shelf.Strings.Cut
import Derived.Shelf.Strings.Count
import Derived.Shelf.Strings.Prefix
import Derived.Shelf.Strings.FieldsFuncAny
import Derived.Shelf.Strings.SlTrimAscii
import Derived.Test.YthhepebkfokddaaGreatDoorProg
import Derived.Test.YthhepebkfokddaaGreatDoorGx1
namespace Go.Proofs
open Go.Shelf
def Tryz.lays119_ren : Go.Shelf.Ren := ⟨fun | 119 => 108 | n => n, fun | 21 => 21 | 4 => 4 | n => n, fun | n => n⟩
theorem Tryz.lays119 : Go.Proofs.Lays.n119 Tryz.prog Tryz.lays119_ren := {
 mixed := by kernel_rfl
 f119 := Tryz.func108.trans (congrArg some (by kernel_rfl))
 t4 := Tryz.underlying4
 a4 := Tryz.isAgg4
 z4 := Tryz.sizeOf4
 v4 := Tryz.zeroValue4
 t21 := Tryz.underlying21
 a21 := Tryz.isAgg21
 z21 := Tryz.sizeOf21
 v21 := Tryz.zeroValue21 }
theorem Tryz.utf8_ValidRune (r : Int) (w : World) :
 Calls Tryz.prog 108 #[.int .i32 r] w fun e w' => e = .returned (.bool (Lib.validRune r)) ∧ w' = w := Any.utf8_ValidRune Tryz.lays119 r w
def Tryz.lays125_ren : Go.Shelf.Ren := ⟨fun | 125 => 115 | 128 => 146 | 129 => 147 | n => n, fun | 46 => 169 | 3 => 3 | 51 => 193 | 53 => 182 | 4 => 4 | 5 => 5 | 9 => 9 | n => n, fun | n => n⟩
theorem Tryz.lays125 : Go.Proofs.Lays.n125 Tryz.prog Tryz.lays125_ren := {
 mixed := by kernel_rfl
 f125 := Tryz.func115.trans (congrArg some (by kernel_rfl))
 f128 := Tryz.func146.trans (congrArg some (by kernel_rfl))
 f129 := Tryz.func147.trans (congrArg some (by kernel_rfl))
 t3 := Tryz.underlying3
 a3 := Tryz.isAgg3
 z3 := Tryz.sizeOf3
 v3 := Tryz.zeroValue3
 t4 := Tryz.underlying4
 a4 := Tryz.isAgg4
 z4 := Tryz.sizeOf4
 v4 := Tryz.zeroValue4
 t5 := Tryz.underlying5
 a5 := Tryz.isAgg5
 z5 := Tryz.sizeOf5
 v5 := Tryz.zeroValue5
 t9 := Tryz.underlying9
 a9 := Tryz.isAgg9
 z9 := Tryz.sizeOf9
 v9 := Tryz.zeroValue9
 t46 := Tryz.underlying169
 a46 := Tryz.isAgg169
 z46 := Tryz.sizeOf169
 v46 := Tryz.zeroValue169
 t51 := Tryz.underlying193
 a51 := Tryz.isAgg193
 z51 := Tryz.sizeOf193
 v51 := Tryz.zeroValue193
 t53 := Tryz.underlying182
 a53 := Tryz.isAgg182
 z53 := Tryz.sizeOf182
 v53 := Tryz.zeroValue182 }
theorem Tryz.bits_Len (x : Int) (w : World) (h0 : 0 ≤ x) (h1 : x ≤ 18446744073709551615) :
 Calls Tryz.prog 115 #[.int .u64 x] w fun e w' => e = .returned (.int .i64 (Lib.bitLen x.toNat)) ∧ w' = w := Any.bits_Len Tryz.lays125 x w h0 h1
def Tryz.lays137_ren : Go.Shelf.Ren := ⟨fun | 137 => 41 | 217 => 78 | 266 => 112 | n => n, fun | 9 => 9 | 5 => 5 | 3 => 3 | n => n, fun | n => n⟩
theorem Tryz.lays137 : Go.Proofs.Lays.n137 Tryz.prog Tryz.lays137_ren := {
 mixed := by kernel_rfl
 f137 := Tryz.func41.trans (congrArg some (by kernel_rfl))
 f217 := Tryz.func78.trans (congrArg some (by kernel_rfl))
 f266 := Tryz.func112.trans (congrArg some (by kernel_rfl))
 t3 := Tryz.underlying3
 a3 := Tryz.isAgg3
 z3 := Tryz.sizeOf3
 v3 := Tryz.zeroValue3
 t5 := Tryz.underlying5
 a5 := Tryz.isAgg5
 z5 := Tryz.sizeOf5
 v5 := Tryz.zeroValue5
 t9 := Tryz.underlying9
 a9 := Tryz.isAgg9
 z9 := Tryz.sizeOf9
 v9 := Tryz.zeroValue9 }
open Go.RowKit in
theorem Tryz.strings_IndexByte (s : ByteArray) (c : Int) (w : World) :
 Calls Tryz.prog 41 #[.string s, .int .u8 c] w fun e w' => e = .returned (.int .i64 (Lib.indexByte s.data.toList c.toNat.toUInt8)) ∧ w' = w := Any.strings_IndexByte Tryz.lays137 s c w
def Tryz.laysM316_ren : Go.Shelf.Ren := ⟨fun | 316 => 164 | n => n, fun | 9 => 9 | 3 => 3 | 4 => 4 | 37 => 203 | 0 => 0 | 127 => 224 | 5 => 5 | n => n, fun | n => n⟩
def Tryz.laysC172_ren : Go.Shelf.Ren := ⟨fun | 172 => 106 | 244 => 135 | 245 => 136 | 247 => 152 | 279 => 153 | 280 => 154 | 281 => 155 | 282 => 156 | 287 => 157 | 316 => 164 | 171 => 166 | 205 => 165 | 321 => 167 | 322 => 168 | 243 => 170 | 246 => 171 | 283 => 172 | 284 => 173 | 285 => 174 | 286 => 175 | 129 => 147 | 317 => 176 | 318 => 177 | 319 => 178 | 320 => 179 | 337 => 180 | 338 => 181 | n => n, fun | 9 => 9 | 3 => 3 | 75 => 24 | 76 => 163 | 4 => 4 | 5 => 5 | 167 => 202 | 37 => 203 | 0 => 0 | 85 => 204 | 2 => 2 | 168 => 206 | 53 => 182 | 175 => 183 | 46 => 169 | 210 => 218 | 127 => 224 | 145 => 227 | 143 => 225 | 21 => 21 | 171 => 229 | 173 => 231 | 212 => 234 | 51 => 193 | 20 => 20 | 213 => 235 | 232 => 236 | 233 => 237 | 80 => 238 | n => n, fun | 15 => 5 | 16 => 6 | 17 => 7 | 18 => 8 | 19 => 9 | n => n⟩
theorem Tryz.laysC172 : Go.Proofs.LaysC.n172 Tryz.prog Tryz.laysC172_ren := {
 mixed := by kernel_rfl
 f129 := Tryz.func147.trans (congrArg some (by kernel_rfl))
 f171 := Tryz.func166.trans (congrArg some (by kernel_rfl))
 f172 := Tryz.func106.trans (congrArg some (by kernel_rfl))
 f205 := Tryz.func165.trans (congrArg some (by kernel_rfl))
 f243 := Tryz.func170.trans (congrArg some (by kernel_rfl))
 f244 := Tryz.func135.trans (congrArg some (by kernel_rfl))
 f245 := Tryz.func136.trans (congrArg some (by kernel_rfl))
 f246 := Tryz.func171.trans (congrArg some (by kernel_rfl))
 f247 := Tryz.func152.trans (congrArg some (by kernel_rfl))
 f279 := Tryz.func153.trans (congrArg some (by kernel_rfl))
 f280 := Tryz.func154.trans (congrArg some (by kernel_rfl))
 f281 := Tryz.func155.trans (congrArg some (by kernel_rfl))
 f282 := Tryz.func156.trans (congrArg some (by kernel_rfl))
 f283 := Tryz.func172.trans (congrArg some (by kernel_rfl))
 f284 := Tryz.func173.trans (congrArg some (by kernel_rfl))
 f285 := Tryz.func174.trans (congrArg some (by kernel_rfl))
 f286 := Tryz.func175.trans (congrArg some (by kernel_rfl))
 f287 := Tryz.func157.trans (congrArg some (by kernel_rfl))
 f316 := Tryz.func164.trans (congrArg some (by kernel_rfl))
 f317 := Tryz.func176.trans (congrArg some (by kernel_rfl))
 f318 := Tryz.func177.trans (congrArg some (by kernel_rfl))
 f319 := Tryz.func178.trans (congrArg some (by kernel_rfl))
 f320 := Tryz.func179.trans (congrArg some (by kernel_rfl))
 f321 := Tryz.func167.trans (congrArg some (by kernel_rfl))
 f322 := Tryz.func168.trans (congrArg some (by kernel_rfl))
 f337 := Tryz.func180.trans (congrArg some (by kernel_rfl))
 f338 := Tryz.func181.trans (congrArg some (by kernel_rfl))
 t0 := Tryz.underlying0
 a0 := Tryz.isAgg0
 z0 := Tryz.sizeOf0
 v0 := Tryz.zeroValue0
 t2 := Tryz.underlying2
 a2 := Tryz.isAgg2
 z2 := Tryz.sizeOf2
 v2 := Tryz.zeroValue2
 t3 := Tryz.underlying3
 a3 := Tryz.isAgg3
 z3 := Tryz.sizeOf3
 v3 := Tryz.zeroValue3
 t4 := Tryz.underlying4
 a4 := Tryz.isAgg4
 z4 := Tryz.sizeOf4
 v4 := Tryz.zeroValue4
 t5 := Tryz.underlying5
 a5 := Tryz.isAgg5
 z5 := Tryz.sizeOf5
 v5 := Tryz.zeroValue5
 t9 := Tryz.underlying9
 a9 := Tryz.isAgg9
 z9 := Tryz.sizeOf9
 v9 := Tryz.zeroValue9
 t20 := Tryz.underlying20
 a20 := Tryz.isAgg20
 z20 := Tryz.sizeOf20
 v20 := Tryz.zeroValue20
 t21 := Tryz.underlying21
 a21 := Tryz.isAgg21
 z21 := Tryz.sizeOf21
 v21 := Tryz.zeroValue21
 t37 := Tryz.underlying203
 a37 := Tryz.isAgg203
 z37 := Tryz.sizeOf203
 v37 := Tryz.zeroValue203
 t46 := Tryz.underlying169
 a46 := Tryz.isAgg169
 z46 := Tryz.sizeOf169
 v46 := Tryz.zeroValue169
 t51 := Tryz.underlying193
 a51 := Tryz.isAgg193
 z51 := Tryz.sizeOf193
 v51 := Tryz.zeroValue193
 t53 := Tryz.underlying182
 a53 := Tryz.isAgg182
 z53 := Tryz.sizeOf182
 v53 := Tryz.zeroValue182
 t75 := Tryz.underlying24
 a75 := Tryz.isAgg24
 z75 := Tryz.sizeOf24
 v75 := Tryz.zeroValue24
 t76 := Tryz.underlying163
 a76 := Tryz.isAgg163
 z76 := Tryz.sizeOf163
 v76 := Tryz.zeroValue163
 t85 := Tryz.underlying204
 a85 := Tryz.isAgg204
 z85 := Tryz.sizeOf204
 v85 := Tryz.zeroValue204
 t127 := Tryz.underlying224
 a127 := Tryz.isAgg224
 z127 := Tryz.sizeOf224
 v127 := Tryz.zeroValue224
 t143 := Tryz.underlying225
 a143 := Tryz.isAgg225
 z143 := Tryz.sizeOf225
 v143 := Tryz.zeroValue225
 t145 := Tryz.underlying227
 a145 := Tryz.isAgg227
 z145 := Tryz.sizeOf227
 v145 := Tryz.zeroValue227
 t167 := Tryz.underlying202
 a167 := Tryz.isAgg202
 z167 := Tryz.sizeOf202
 v167 := Tryz.zeroValue202
 t168 := Tryz.underlying206
 a168 := Tryz.isAgg206
 z168 := Tryz.sizeOf206
 v168 := Tryz.zeroValue206
 t171 := Tryz.underlying229
 a171 := Tryz.isAgg229
 z171 := Tryz.sizeOf229
 v171 := Tryz.zeroValue229
 t173 := Tryz.underlying231
 a173 := Tryz.isAgg231
 z173 := Tryz.sizeOf231
 v173 := Tryz.zeroValue231
 t175 := Tryz.underlying183
 a175 := Tryz.isAgg183
 z175 := Tryz.sizeOf183
 v175 := Tryz.zeroValue183
 t210 := Tryz.underlying218
 a210 := Tryz.isAgg218
 z210 := Tryz.sizeOf218
 v210 := Tryz.zeroValue218
 t212 := Tryz.underlying234
 a212 := Tryz.isAgg234
 z212 := Tryz.sizeOf234
 v212 := Tryz.zeroValue234
 t213 := Tryz.underlying235
 a213 := Tryz.isAgg235
 z213 := Tryz.sizeOf235
 t232 := Tryz.underlying236
 a232 := Tryz.isAgg236
 z232 := Tryz.sizeOf236
 v232 := Tryz.zeroValue236
 t233 := Tryz.underlying237
 a233 := Tryz.isAgg237
 z233 := Tryz.sizeOf237
 v233 := Tryz.zeroValue237
 g15 := by kernel_rfl
 g16 := by kernel_rfl
 g17 := by kernel_rfl
 g18 := by kernel_rfl
 g19 := by kernel_rfl
 t80 := Tryz.underlying238
 a80 := Tryz.isAgg238
 z80 := Tryz.sizeOf238
 v80 := Tryz.zeroValue238
 i0 := by kernel_rfl
 i2 := by kernel_rfl
 i3 := by kernel_rfl
 i4 := by kernel_rfl
 i5 := by kernel_rfl
 i9 := by kernel_rfl
 i20 := by kernel_rfl
 i21 := by kernel_rfl
 i37 := by kernel_rfl
 i46 := by kernel_rfl
 i51 := by kernel_rfl
 i53 := by kernel_rfl
 i75 := by kernel_rfl
 i76 := by kernel_rfl
 i80 := by kernel_rfl
 i85 := by kernel_rfl
 i127 := by kernel_rfl
 i143 := by kernel_rfl
 i145 := by kernel_rfl
 i167 := by kernel_rfl
 i168 := by kernel_rfl
 i171 := by kernel_rfl
 i173 := by kernel_rfl
 i175 := by kernel_rfl
 i210 := by kernel_rfl
 i212 := by kernel_rfl
 i232 := by kernel_rfl
 i233 := by kernel_rfl
 m15 := by kernel_rfl
 m16 := by kernel_rfl
 m17 := by kernel_rfl
 m18 := by kernel_rfl
 m19 := by kernel_rfl
 c0 := by kernel_rfl
 c2 := by kernel_rfl
 c3 := by kernel_rfl
 c4 := by kernel_rfl
 c5 := by kernel_rfl
 c9 := by kernel_rfl
 c20 := by kernel_rfl
 c21 := by kernel_rfl
 c37 := by kernel_rfl
 c46 := by kernel_rfl
 c51 := by kernel_rfl
 c53 := by kernel_rfl
 c75 := by kernel_rfl
 c76 := by kernel_rfl
 c80 := by kernel_rfl
 c85 := by kernel_rfl
 c127 := by kernel_rfl
 c143 := by kernel_rfl
 c145 := by kernel_rfl
 c167 := by kernel_rfl
 c168 := by kernel_rfl
 c171 := by kernel_rfl
 c173 := by kernel_rfl
 c175 := by kernel_rfl
 c210 := by kernel_rfl
 c212 := by kernel_rfl
 c213 := by kernel_rfl
 c232 := by kernel_rfl
 c233 := by kernel_rfl }
open Go.RowKit in
theorem Tryz.strconv_Atoi_ok (s : ByteArray) (hmax : s.size ≤ 9223372036854775806) (v : Int) (h : Lib.atoiAll s.data.toList = .ok v) (w : World) :
 Calls Tryz.prog 106 #[.string s] w fun e w' => e = .returned (.tuple #[.int .i64 v, .nilIface]) ∧ (w' = w ∨ ∃ t, w' = Lib.bytesWorld w 5 t) := Any.strconv_Atoi_ok Tryz.laysC172 s hmax v h w
open Go.RowKit in
theorem Tryz.strconv_Atoi_syntax (s : ByteArray) (hlim : s.size ≤ 281474976710656) (h : Lib.atoiAll s.data.toList = Lib.NumEnd.syntax) (ev : Value) (w : World) (hv : w.cell? ⟨5, 0, none⟩ = some ev) (hev : ev = .nilIface ∨ ∃ te pe, ev = .iface te pe) :
 Calls Tryz.prog 106 #[.string s] w fun e w' => ∃ N, e = .returned (.tuple #[.int .i64 (0), .iface 206 (.pointer (some ⟨N, 0, none⟩))]) ∧ w.heap.size ≤ N ∧ w'.heap[N]? = some (.cells #[.string ⟨#[65, 116, 111, 105]⟩, .string s, ev] 218 (0, 0)) ∧ Below w.heap.size w w' := Any.strconv_Atoi_syntax Tryz.laysC172 s hlim h ev w hv hev
open Go.RowKit in
theorem Tryz.strconv_Atoi_range (s : ByteArray) (hlim : s.size ≤ 281474976710656) (h : Lib.atoiAll s.data.toList = .range) (ev : Value) (w : World) (hv : w.cell? ⟨6, 0, none⟩ = some ev) (hev : ev = .nilIface ∨ ∃ te pe, ev = .iface te pe) :
 Calls Tryz.prog 106 #[.string s] w fun e w' => ∃ N, e = .returned (.tuple #[.int .i64 (Lib.atoiSat s.data.toList), .iface 206 (.pointer (some ⟨N, 0, none⟩))]) ∧ w.heap.size ≤ N ∧ w'.heap[N]? = some (.cells #[.string ⟨#[65, 116, 111, 105]⟩, .string s, ev] 218 (0, 0)) ∧ Below w.heap.size w w' := Any.strconv_Atoi_range Tryz.laysC172 s hlim h ev w hv hev
def Tryz.lays145_ren : Go.Shelf.Ren := ⟨fun | 145 => 43 | 220 => 80 | 219 => 103 | 217 => 78 | 225 => 125 | 224 => 126 | 267 => 127 | 266 => 112 | 314 => 149 | n => n, fun | 9 => 9 | 4 => 4 | 59 => 85 | 3 => 3 | 5 => 5 | 46 => 169 | 146 => 199 | 51 => 193 | n => n, fun | 1 => 1 | n => n⟩
theorem Tryz.lays145 : Go.Proofs.Lays.n145 Tryz.prog Tryz.lays145_ren := {
 mixed := by kernel_rfl
 f145 := Tryz.func43.trans (congrArg some (by kernel_rfl))
 f217 := Tryz.func78.trans (congrArg some (by kernel_rfl))
 f219 := Tryz.func103.trans (congrArg some (by kernel_rfl))
 f220 := Tryz.func80.trans (congrArg some (by kernel_rfl))
 f224 := Tryz.func126.trans (congrArg some (by kernel_rfl))
 f225 := Tryz.func125.trans (congrArg some (by kernel_rfl))
 f266 := Tryz.func112.trans (congrArg some (by kernel_rfl))
 f267 := Tryz.func127.trans (congrArg some (by kernel_rfl))
 f314 := Tryz.func149.trans (congrArg some (by kernel_rfl))
 t3 := Tryz.underlying3
 a3 := Tryz.isAgg3
 z3 := Tryz.sizeOf3
 v3 := Tryz.zeroValue3
 t4 := Tryz.underlying4
 a4 := Tryz.isAgg4
 z4 := Tryz.sizeOf4
 v4 := Tryz.zeroValue4
 t5 := Tryz.underlying5
 a5 := Tryz.isAgg5
 z5 := Tryz.sizeOf5
 v5 := Tryz.zeroValue5
 t9 := Tryz.underlying9
 a9 := Tryz.isAgg9
 z9 := Tryz.sizeOf9
 v9 := Tryz.zeroValue9
 t46 := Tryz.underlying169
 a46 := Tryz.isAgg169
 z46 := Tryz.sizeOf169
 v46 := Tryz.zeroValue169
 t51 := Tryz.underlying193
 a51 := Tryz.isAgg193
 z51 := Tryz.sizeOf193
 v51 := Tryz.zeroValue193
 t59 := Tryz.underlying85
 a59 := Tryz.isAgg85
 z59 := Tryz.sizeOf85
 v59 := Tryz.zeroValue85
 t146 := Tryz.underlying199
 a146 := Tryz.isAgg199
 z146 := Tryz.sizeOf199
 v146 := Tryz.zeroValue199
 g1 := by kernel_rfl }
open Go.RowKit Go.Lib in
theorem Tryz.strings_Cut (s sep : ByteArray) (m : Int) (w : World) (hs : s.size < 4294967281) (hm : w.cell? ⟨1, 0, none⟩ = some (.int .i64 m)) :
 Calls Tryz.prog 43 #[.string s, .string sep] w fun e w' => e = .returned (.tuple #[.string ⟨(Lib.cut s.data.toList sep.data.toList).1.toArray⟩, .string ⟨(Lib.cut s.data.toList sep.data.toList).2.1.toArray⟩, .bool (Lib.cut s.data.toList sep.data.toList).2.2]) ∧ ∃ n, w' = w.drewN n := Any.strings_Cut Tryz.lays145 s sep m w hs hm
def Tryz.lays138_ren : Go.Shelf.Ren := ⟨fun | 138 => 34 | 195 => 68 | 218 => 69 | 143 => 70 | 219 => 103 | 217 => 78 | 225 => 125 | 224 => 126 | 267 => 127 | 266 => 112 | 314 => 149 | n => n, fun | 9 => 9 | 3 => 3 | 4 => 4 | 5 => 5 | 0 => 0 | 46 => 169 | 146 => 199 | 51 => 193 | n => n, fun | 1 => 1 | n => n⟩
theorem Tryz.lays138 : Go.Proofs.Lays.n138 Tryz.prog Tryz.lays138_ren := {
 mixed := by kernel_rfl
 f138 := Tryz.func34.trans (congrArg some (by kernel_rfl))
 f143 := Tryz.func70.trans (congrArg some (by kernel_rfl))
 f195 := Tryz.func68.trans (congrArg some (by kernel_rfl))
 f217 := Tryz.func78.trans (congrArg some (by kernel_rfl))
 f218 := Tryz.func69.trans (congrArg some (by kernel_rfl))
 f219 := Tryz.func103.trans (congrArg some (by kernel_rfl))
 f224 := Tryz.func126.trans (congrArg some (by kernel_rfl))
 f225 := Tryz.func125.trans (congrArg some (by kernel_rfl))
 f266 := Tryz.func112.trans (congrArg some (by kernel_rfl))
 f267 := Tryz.func127.trans (congrArg some (by kernel_rfl))
 f314 := Tryz.func149.trans (congrArg some (by kernel_rfl))
 t0 := Tryz.underlying0
 a0 := Tryz.isAgg0
 z0 := Tryz.sizeOf0
 v0 := Tryz.zeroValue0
 t3 := Tryz.underlying3
 a3 := Tryz.isAgg3
 z3 := Tryz.sizeOf3
 v3 := Tryz.zeroValue3
 t4 := Tryz.underlying4
 a4 := Tryz.isAgg4
 z4 := Tryz.sizeOf4
 v4 := Tryz.zeroValue4
 t5 := Tryz.underlying5
 a5 := Tryz.isAgg5
 z5 := Tryz.sizeOf5
 v5 := Tryz.zeroValue5
 t9 := Tryz.underlying9
 a9 := Tryz.isAgg9
 z9 := Tryz.sizeOf9
 v9 := Tryz.zeroValue9
 t46 := Tryz.underlying169
 a46 := Tryz.isAgg169
 z46 := Tryz.sizeOf169
 v46 := Tryz.zeroValue169
 t51 := Tryz.underlying193
 a51 := Tryz.isAgg193
 z51 := Tryz.sizeOf193
 v51 := Tryz.zeroValue193
 t146 := Tryz.underlying199
 a146 := Tryz.isAgg199
 z146 := Tryz.sizeOf199
 v146 := Tryz.zeroValue199
 g1 := by kernel_rfl }
open Go.RowKit Go.Lib in
theorem Tryz.strings_Count_one (s : ByteArray) (c : UInt8) (w : World) :
 Calls Tryz.prog 34 #[.string s, .string ⟨#[c]⟩] w fun e w' => e = .returned (.int .i64 (Lib.countByte s.data.toList c)) ∧ w' = w := Any.strings_Count_one Tryz.lays138 s c w
def Tryz.lays100_ren : Go.Shelf.Ren := ⟨fun | 100 => 35 | 207 => 71 | n => n, fun | 9 => 9 | 4 => 4 | 3 => 3 | n => n, fun | n => n⟩
theorem Tryz.lays100 : Go.Proofs.Lays.n100 Tryz.prog Tryz.lays100_ren := {
 mixed := by kernel_rfl
 f100 := Tryz.func35.trans (congrArg some (by kernel_rfl))
 f207 := Tryz.func71.trans (congrArg some (by kernel_rfl))
 t3 := Tryz.underlying3
 a3 := Tryz.isAgg3
 z3 := Tryz.sizeOf3
 v3 := Tryz.zeroValue3
 t4 := Tryz.underlying4
 a4 := Tryz.isAgg4
 z4 := Tryz.sizeOf4
 v4 := Tryz.zeroValue4
 t9 := Tryz.underlying9
 a9 := Tryz.isAgg9
 z9 := Tryz.sizeOf9
 v9 := Tryz.zeroValue9 }
open Go.RowKit Go.Lib in
theorem Tryz.strings_HasSuffix (s p : ByteArray) (w : World) (hs : s.size ≤ 9223372036854775807) :
 Calls Tryz.prog 35 #[.string s, .string p] w fun e w' => e = .returned (.bool (Lib.hasSuffix s.data.toList p.data.toList)) ∧ w' = w := Any.strings_HasSuffix Tryz.lays100 s p w hs
def Tryz.lays102_ren : Go.Shelf.Ren := ⟨fun | 102 => 42 | 209 => 79 | 207 => 71 | n => n, fun | 9 => 9 | 4 => 4 | 3 => 3 | n => n, fun | n => n⟩
theorem Tryz.lays102 : Go.Proofs.Lays.n102 Tryz.prog Tryz.lays102_ren := {
 mixed := by kernel_rfl
 f102 := Tryz.func42.trans (congrArg some (by kernel_rfl))
 f207 := Tryz.func71.trans (congrArg some (by kernel_rfl))
 f209 := Tryz.func79.trans (congrArg some (by kernel_rfl))
 t3 := Tryz.underlying3
 a3 := Tryz.isAgg3
 z3 := Tryz.sizeOf3
 v3 := Tryz.zeroValue3
 t4 := Tryz.underlying4
 a4 := Tryz.isAgg4
 z4 := Tryz.sizeOf4
 v4 := Tryz.zeroValue4
 t9 := Tryz.underlying9
 a9 := Tryz.isAgg9
 z9 := Tryz.sizeOf9
 v9 := Tryz.zeroValue9 }
open Go.RowKit Go.Lib in
theorem Tryz.strings_TrimSuffix (s p : ByteArray) (w : World) (hs : s.size ≤ 9223372036854775807) :
 Calls Tryz.prog 42 #[.string s, .string p] w fun e w' => e = .returned (.string ⟨(Lib.trimSuffix s.data.toList p.data.toList).toArray⟩) ∧ w' = w := Any.strings_TrimSuffix Tryz.lays102 s p w hs
def Tryz.lays229_ren : Go.Shelf.Ren := ⟨fun | 229 => 44 | n => n, fun | 9 => 9 | 40 => 88 | 31 => 59 | 152 => 128 | 3 => 3 | 0 => 0 | 4 => 4 | 21 => 21 | 154 => 130 | n => n, fun | n => n⟩
theorem Tryz.lays229 : Go.Proofs.Lays.n229 Tryz.prog Tryz.lays229_ren := {
 mixed := by kernel_rfl
 f229 := Tryz.func44.trans (congrArg some (by kernel_rfl))
 t0 := Tryz.underlying0
 a0 := Tryz.isAgg0
 z0 := Tryz.sizeOf0
 v0 := Tryz.zeroValue0
 t3 := Tryz.underlying3
 a3 := Tryz.isAgg3
 z3 := Tryz.sizeOf3
 v3 := Tryz.zeroValue3
 t4 := Tryz.underlying4
 a4 := Tryz.isAgg4
 z4 := Tryz.sizeOf4
 v4 := Tryz.zeroValue4
 t9 := Tryz.underlying9
 a9 := Tryz.isAgg9
 z9 := Tryz.sizeOf9
 v9 := Tryz.zeroValue9
 t21 := Tryz.underlying21
 a21 := Tryz.isAgg21
 z21 := Tryz.sizeOf21
 v21 := Tryz.zeroValue21
 t31 := Tryz.underlying59
 a31 := Tryz.isAgg59
 z31 := Tryz.sizeOf59
 v31 := Tryz.zeroValue59
 t40 := Tryz.underlying88
 a40 := Tryz.isAgg88
 z40 := Tryz.sizeOf88
 v40 := Tryz.zeroValue88
 t152 := Tryz.underlying128
 a152 := Tryz.isAgg128
 z152 := Tryz.sizeOf128
 v152 := Tryz.zeroValue128
 t154 := Tryz.underlying130
 a154 := Tryz.isAgg130
 z154 := Tryz.sizeOf130
 v154 := Tryz.zeroValue130 }
open Go.RowKit Go.Lib in
theorem Tryz.strings_FieldsFunc_runes (g : Nat) (lb : Array Value) (eg : ∀ args w, (callFunc g args).run Tryz.prog w = .ok (.enter g args) w) (p : Nat → Bool) (s : ByteArray) (w : World) (hs : s.size ≤ 4294967296) (hp : PredAtRunes Tryz.prog g lb p w) :
 Calls Tryz.prog 44 #[.string s, .func (.func g) #[] lb] w fun e w' => ∃ A, e = .returned (.slice (some ⟨A, 0, none⟩) (Lib.goFieldsP p s).length (Lib.goFieldsP p s).length) ∧ w.heap.size ≤ A ∧
  w'.ownsRow w.heap.size 9 1 (.slice (some ⟨A, 0, none⟩) (Lib.goFieldsP p s).length (Lib.goFieldsP p s).length) (Lib.goFieldsP p s).length ((Lib.goFieldsP p s).map Value.string) ∧ Below w.heap.size w w' := Any.strings_FieldsFunc_runes Tryz.lays229 g lb eg p s w hs hp (by kernel_rfl) (by kernel_rfl)
def Tryz.lays160_ren : Go.Shelf.Ren := ⟨fun | 160 => 105 | 232 => 129 | 231 => 128 | 227 => 130 | 234 => 132 | 233 => 131 | 236 => 134 | 235 => 133 | 228 => 150 | 271 => 56 | 151 => 151 | 197 => 94 | 120 => 95 | 152 => 163 | 260 => 122 | 137 => 41 | 119 => 108 | 224 => 126 | 225 => 125 | 217 => 78 | 266 => 112 | n => n, fun | 9 => 9 | 4 => 4 | 3 => 3 | 5 => 5 | 117 => 177 | 116 => 176 | 0 => 0 | 124 => 180 | 21 => 21 | 105 => 67 | 46 => 169 | 119 => 195 | 139 => 198 | 138 => 197 | n => n, fun | 3 => 3 | 4 => 4 | n => n⟩
theorem Tryz.lays160 : Go.Proofs.Lays.n160 Tryz.prog Tryz.lays160_ren := {
 mixed := by kernel_rfl
 f119 := Tryz.func108.trans (congrArg some (by kernel_rfl))
 f120 := Tryz.func95.trans (congrArg some (by kernel_rfl))
 f137 := Tryz.func41.trans (congrArg some (by kernel_rfl))
 f151 := Tryz.func151.trans (congrArg some (by kernel_rfl))
 f152 := Tryz.func163.trans (congrArg some (by kernel_rfl))
 f160 := Tryz.func105.trans (congrArg some (by kernel_rfl))
 f197 := Tryz.func94.trans (congrArg some (by kernel_rfl))
 f217 := Tryz.func78.trans (congrArg some (by kernel_rfl))
 f224 := Tryz.func126.trans (congrArg some (by kernel_rfl))
 f225 := Tryz.func125.trans (congrArg some (by kernel_rfl))
 f227 := Tryz.func130.trans (congrArg some (by kernel_rfl))
 f228 := Tryz.func150.trans (congrArg some (by kernel_rfl))
 f231 := Tryz.func128.trans (congrArg some (by kernel_rfl))
 f232 := Tryz.func129.trans (congrArg some (by kernel_rfl))
 f233 := Tryz.func131.trans (congrArg some (by kernel_rfl))
 f234 := Tryz.func132.trans (congrArg some (by kernel_rfl))
 f235 := Tryz.func133.trans (congrArg some (by kernel_rfl))
 f236 := Tryz.func134.trans (congrArg some (by kernel_rfl))
 f260 := Tryz.func122.trans (congrArg some (by kernel_rfl))
 f266 := Tryz.func112.trans (congrArg some (by kernel_rfl))
 f271 := Tryz.func56.trans (congrArg some (by kernel_rfl))
 t0 := Tryz.underlying0
 a0 := Tryz.isAgg0
 z0 := Tryz.sizeOf0
 v0 := Tryz.zeroValue0
 t3 := Tryz.underlying3
 a3 := Tryz.isAgg3
 z3 := Tryz.sizeOf3
 v3 := Tryz.zeroValue3
 t4 := Tryz.underlying4
 a4 := Tryz.isAgg4
 z4 := Tryz.sizeOf4
 v4 := Tryz.zeroValue4
 t5 := Tryz.underlying5
 a5 := Tryz.isAgg5
 z5 := Tryz.sizeOf5
 v5 := Tryz.zeroValue5
 t9 := Tryz.underlying9
 a9 := Tryz.isAgg9
 z9 := Tryz.sizeOf9
 v9 := Tryz.zeroValue9
 t21 := Tryz.underlying21
 a21 := Tryz.isAgg21
 z21 := Tryz.sizeOf21
 v21 := Tryz.zeroValue21
 t46 := Tryz.underlying169
 a46 := Tryz.isAgg169
 z46 := Tryz.sizeOf169
 v46 := Tryz.zeroValue169
 t105 := Tryz.underlying67
 a105 := Tryz.isAgg67
 z105 := Tryz.sizeOf67
 v105 := Tryz.zeroValue67
 t116 := Tryz.underlying176
 a116 := Tryz.isAgg176
 z116 := Tryz.sizeOf176
 t117 := Tryz.underlying177
 a117 := Tryz.isAgg177
 z117 := Tryz.sizeOf177
 v117 := Tryz.zeroValue177
 t119 := Tryz.underlying195
 a119 := Tryz.isAgg195
 z119 := Tryz.sizeOf195
 t124 := Tryz.underlying180
 a124 := Tryz.isAgg180
 z124 := Tryz.sizeOf180
 v124 := Tryz.zeroValue180
 t138 := Tryz.underlying197
 a138 := Tryz.isAgg197
 z138 := Tryz.sizeOf197
 v138 := Tryz.zeroValue197
 t139 := Tryz.underlying198
 a139 := Tryz.isAgg198
 z139 := Tryz.sizeOf198
 v139 := Tryz.zeroValue198
 g3 := by kernel_rfl
 g4 := by kernel_rfl }
open Go.RowKit in
theorem Tryz.strings_Trim_laid (s cutset : ByteArray) (w : World) (hs : s.size ≤ 9223372036854775807) (hcs : cutset.size < 4294967281) (hascii : ∀ (j : Nat) b, cutset.data.toList[j]? = some b → b.toNat < 128) :
 Calls Tryz.prog 105 #[.string s, .string cutset] w fun e w' => e = .returned (.string ⟨(Lib.trimS s.data.toList cutset.data.toList).toArray⟩) ∧ Below w.heap.size w w' := Any.strings_Trim_laid Tryz.lays160 (by kernel_rfl) s cutset w hs hcs hascii
end Go.Proofs
namespace Go.Proofs.YthhepebkfokddaaGreatDoor
open Go Go.RowKit Go.Kt Go.Kt.Os Go.Sort

set_option maxRecDepth 100000 in
set_option maxHeartbeats 8000000 in
theorem oSift (blk off cap lo hi F n : Nat) (d : Array Int) (w : World) (hn : d.size = n) (hH : Holds E32 w blk off d) (hlo : lo ≤ hi) (hb : F + hi ≤ n) (hsz : n < 4611686018427387904) :
    Calls Tryz.prog 158 #[.slice (some ⟨blk, off, none⟩) n cap, .int .i64 lo, .int .i64 hi, .int .i64 F] w fun e w' =>
      e = .returned (.tuple #[]) ∧ SW w blk off (siftDown ltInt hi F lo d) w' := by
  have H0 := Lib.hid (SW.refl hH)
  have HN := Lib.hid hn
  clear hH hn
  go_enter Tryz.func158, Tryz.ntmps158
  go_wp2
  go_loopw [8] (fun vr wr => ∃ (r : Nat) (dk : Array Int), vr = .int .i64 r ∧ r ≤ hi ∧ Hid (dk.size = n ∧ SW w blk off dk wr ∧ siftDown ltInt hi F r dk = siftDown ltInt hi F lo d)) (fun vr _ => hi - (RowKit.intOf vr).toNat)
  case atStart => exact ⟨lo, d, rfl, hlo, Lib.hid ⟨HN.out, H0.out, rfl⟩⟩
  case round =>
    obtain ⟨r, dk, rfl, hr, hh⟩ := hrel
    obtain ⟨G, hG⟩ : ∃ G : Nat → Int, ∀ t, G t = dk[t]! := ⟨fun t => dk[t]!, fun _ => rfl⟩
    have hcw := hh.out.2.1.cells hG hh.out.1
    have hfw := hh.out.2.1.thaw hh.out.1
    have HG := Lib.hid hG
    clear hG
    by_cases h0 : hi ≤ 2 * r + 1
    · have h0z : (hi : Int) ≤ 2 * (r : Int) + 1 := by omega
      go_wp2
      go_end0
      refine ⟨rfl, ?_⟩
      rw [← hh.out.2.2, sd_end ltInt dk h0]
      exact hh.out.2.1
    · have h0z : ¬ ((hi : Int) ≤ 2 * (r : Int) + 1) := by omega
      by_cases h1 : 2 * r + 2 < hi
      · have h1z : 2 * (r : Int) + 1 + 1 < (hi : Int) := by omega
        go_wp2_with fail
        go_big_quiet (first | (go_at_call 118; refine Calls.quiet_of_same (oLess _ _ _)))
        go_wp2_with fail
        · have hL : ltInt (G (F + 2 * r + 1)) (G (F + 2 * r + 2)) = true := by assumption
          have HS := Lib.hid (hh.out.2.1.drewN nq)
          clear hcw hfw
          generalize wr.drewN nq = wr2 at HS ⊢
          clear nq
          have hcw2 := HS.out.cells HG.out hh.out.1
          have hfw2 := HS.out.thaw hh.out.1
          go_big_quiet (first | (go_at_call 118; refine Calls.quiet_of_same (oLess _ _ _)))
          go_wp2_with fail
          · have hS : ltInt (G (F + r)) (G (F + 2 * r + 2)) = false := by
              have : (!ltInt (G (F + r)) (G (F + 2 * r + 2))) = true := by assumption
              simpa using this
            (try simp only [Exit.inBlock, Exit.then]); refine bodyPost_ret (results_none rfl _ _ _) rfl ?_
            refine ⟨rfl, ?_⟩
            rw [← hh.out.2.2, sd_r ltInt dk h1 (by rw [← HG.out, ← HG.out]; exact hL), if_neg (by rw [← HG.out, ← HG.out, hS]; exact Bool.false_ne_true)]
            exact HS.out.drewN nq
          · have hS : ltInt (G (F + r)) (G (F + 2 * r + 2)) = true := by
              have : (!ltInt (G (F + r)) (G (F + 2 * r + 2))) = false := by assumption
              simpa using this
            have HS3 := Lib.hid (HS.out.drewN nq)
            clear hcw2 hfw2
            generalize wr2.drewN nq = wr3 at HS3 ⊢
            have hcw3 := HS3.out.cells HG.out hh.out.1
            have hfw3 := HS3.out.thaw hh.out.1
            go_region
            all_goals go_wp2
            go_roundw
            case rel =>
              refine ⟨2 * r + 2, swp dk (F + r) (F + 2 * r + 2), by go_num, by omega, Lib.hid ⟨by rw [size_swp]; exact hh.out.1, HS3.out.swapq HG.out (by have := hh.out.1; omega) (by have := hh.out.1; omega) 0 1, ?_⟩⟩
              rw [← hh.out.2.2, sd_r ltInt dk h1 (by rw [← HG.out, ← HG.out]; exact hL), if_pos (by rw [← HG.out, ← HG.out]; exact hS)]
            case measure => simp [RowKit.intOf]; omega
        · have hL : ltInt (G (F + 2 * r + 1)) (G (F + 2 * r + 2)) = false := by assumption
          have HS := Lib.hid (hh.out.2.1.drewN nq)
          clear hcw hfw
          generalize wr.drewN nq = wr2 at HS ⊢
          clear nq
          have hcw2 := HS.out.cells HG.out hh.out.1
          have hfw2 := HS.out.thaw hh.out.1
          go_big_quiet (first | (go_at_call 118; refine Calls.quiet_of_same (oLess _ _ _)))
          go_wp2_with fail
          · have hS : ltInt (G (F + r)) (G (F + 2 * r + 1)) = false := by
              have : (!ltInt (G (F + r)) (G (F + 2 * r + 1))) = true := by assumption
              simpa using this
            (try simp only [Exit.inBlock, Exit.then]); refine bodyPost_ret (results_none rfl _ _ _) rfl ?_
            refine ⟨rfl, ?_⟩
            rw [← hh.out.2.2, sd_l ltInt dk (by omega) (.inr (by rw [← HG.out, ← HG.out]; exact hL)), if_neg (by rw [← HG.out, ← HG.out, hS]; exact Bool.false_ne_true)]
            exact HS.out.drewN nq
          · have hS : ltInt (G (F + r)) (G (F + 2 * r + 1)) = true := by
              have : (!ltInt (G (F + r)) (G (F + 2 * r + 1))) = false := by assumption
              simpa using this
            have HS3 := Lib.hid (HS.out.drewN nq)
            clear hcw2 hfw2
            generalize wr2.drewN nq = wr3 at HS3 ⊢
            have hcw3 := HS3.out.cells HG.out hh.out.1
            have hfw3 := HS3.out.thaw hh.out.1
            go_region
            all_goals go_wp2
            go_roundw
            case rel =>
              refine ⟨2 * r + 1, swp dk (F + r) (F + 2 * r + 1), by go_num, by omega, Lib.hid ⟨by rw [size_swp]; exact hh.out.1, HS3.out.swapq HG.out (by have := hh.out.1; omega) (by have := hh.out.1; omega) 0 1, ?_⟩⟩
              rw [← hh.out.2.2, sd_l ltInt dk (by omega) (.inr (by rw [← HG.out, ← HG.out]; exact hL)), if_pos (by rw [← HG.out, ← HG.out]; exact hS)]
            case measure => simp [RowKit.intOf]; omega
      · have h1z : decide (2 * (r : Int) + 1 + 1 < (hi : Int)) = false := decide_eq_false (by omega)
        go_wp2_with fail
        go_big_quiet (first | (go_at_call 118; refine Calls.quiet_of_same (oLess _ _ _)))
        go_wp2_with fail
        have HS := Lib.hid (hh.out.2.1.drewN nq)
        clear hcw hfw
        generalize wr.drewN nq = wr2 at HS ⊢
        clear nq
        have hcw2 := HS.out.cells HG.out hh.out.1
        have hfw2 := HS.out.thaw hh.out.1
        go_big_quiet (first | (go_at_call 118; refine Calls.quiet_of_same (oLess _ _ _)))
        go_wp2_with fail
        · have hS : ltInt (G (F + r)) (G (F + 2 * r + 1)) = false := by
            have : (!ltInt (G (F + r)) (G (F + 2 * r + 1))) = true := by assumption
            simpa using this
          (try simp only [Exit.inBlock, Exit.then]); refine bodyPost_ret (results_none rfl _ _ _) rfl ?_
          refine ⟨rfl, ?_⟩
          rw [← hh.out.2.2, sd_l ltInt dk (by omega) (.inl h1), if_neg (by rw [← HG.out, ← HG.out, hS]; exact Bool.false_ne_true)]
          exact HS.out.drewN nq
        · have hS : ltInt (G (F + r)) (G (F + 2 * r + 1)) = true := by
            have : (!ltInt (G (F + r)) (G (F + 2 * r + 1))) = false := by assumption
            simpa using this
          have HS3 := Lib.hid (HS.out.drewN nq)
          clear hcw2 hfw2
          generalize wr2.drewN nq = wr3 at HS3 ⊢
          have hcw3 := HS3.out.cells HG.out hh.out.1
          have hfw3 := HS3.out.thaw hh.out.1
          go_region
          all_goals go_wp2
          go_roundw
          case rel =>
            refine ⟨2 * r + 1, swp dk (F + r) (F + 2 * r + 1), by go_num, by omega, Lib.hid ⟨by rw [size_swp]; exact hh.out.1, HS3.out.swapq HG.out (by have := hh.out.1; omega) (by have := hh.out.1; omega) 0 1, ?_⟩⟩
            rw [← hh.out.2.2, sd_l ltInt dk (by omega) (.inl h1), if_pos (by rw [← HG.out, ← HG.out]; exact hS)]
          case measure => simp [RowKit.intOf]; omega

theorem half_up {a b : Nat} (h : a ≤ b) : ((b : Int) - (a : Int) - 1).tdiv 2 = (((b - a - 1) / 2 + 1 : Nat) : Int) - 1 := by
  obtain ⟨c, rfl⟩ : ∃ c, b = a + c := ⟨b - a, by omega⟩
  rcases Nat.eq_zero_or_pos c with h0 | h0
  · subst h0
    rw [show ((a + 0 : Nat) : Int) - (a : Int) - 1 = -1 by omega, show a + 0 - a - 1 = 0 by omega]
    decide
  · rw [show ((a + c : Nat) : Int) - (a : Int) - 1 = ((c - 1 : Nat) : Int) by omega, show a + c - a - 1 = c - 1 by omega, Int.tdiv_eq_ediv_of_nonneg (by omega)]
    omega

set_option maxRecDepth 100000 in
set_option maxHeartbeats 1000000 in
theorem oHeap (blk off cap a b n : Nat) (d : Array Int) (w : World) (hn : d.size = n) (hH : Holds E32 w blk off d) (hab : a ≤ b) (hb : b ≤ n) (hsz : n < 4611686018427387904) :
    Calls Tryz.prog 139 #[.slice (some ⟨blk, off, none⟩) n cap, .int .i64 a, .int .i64 b] w fun e w' =>
      e = .returned (.tuple #[]) ∧ SW w blk off (heapSort ltInt d a b) w' := by
  have H0 := Lib.hid (SW.refl hH)
  have HN := Lib.hid hn
  clear hH hn
  have EC := Lib.hid (show ((b - a : Nat) : Int) = (b : Int) - (a : Int) by omega)
  have EH := Lib.hid (half_up hab)
  have EB := Lib.hid (show heapSort ltInt d a b = heapPop ltInt a (b - a) (heapBuild ltInt (b - a) a ((b - a - 1) / 2 + 1) d) from rfl)
  go_enter Tryz.func139, Tryz.ntmps139
  go_wp2
  go_loopw [9] (fun vk wr => ∃ (k : Nat) (dk : Array Int), vk = .int .i64 ((k : Int) - 1) ∧ k ≤ (b - a - 1) / 2 + 1 ∧ Hid (dk.size = n ∧ SW w blk off dk wr ∧ heapBuild ltInt (b - a) a k dk = heapBuild ltInt (b - a) a ((b - a - 1) / 2 + 1) d)) (fun vk _ => (RowKit.intOf vk + 1).toNat)
  case atStart => exact ⟨_, d, by rw [← EH.out], Nat.le_refl _, Lib.hid ⟨HN.out, H0.out, rfl⟩⟩
  case round =>
    obtain ⟨k, dk, hv, hk, hg⟩ := hrel
    cases k with
    | zero =>
      replace hv := hv.trans (show Value.int .i64 (((0 : Nat) : Int) - 1) = .int .i64 (-1) from rfl)
      subst hv
      go_wp2
      go_loopw [10] (fun vk wr => ∃ (k : Nat) (dj : Array Int), vk = .int .i64 ((k : Int) - 1) ∧ k ≤ b - a ∧ Hid (dj.size = n ∧ SW w blk off dj wr ∧ heapPop ltInt a k dj = heapPop ltInt a (b - a) dk)) (fun vk _ => (RowKit.intOf vk + 1).toNat)
      case atStart => exact ⟨b - a, dk, by rw [EC.out], Nat.le_refl _, Lib.hid ⟨hg.out.1, hg.out.2.1, rfl⟩⟩
      case round =>
        obtain ⟨k, dj, hv, hk, hp⟩ := hrel
        cases k with
        | zero =>
          replace hv := hv.trans (show Value.int .i64 (((0 : Nat) : Int) - 1) = .int .i64 (-1) from rfl)
          subst hv
          go_wp2
          go_end0
          refine ⟨rfl, ?_⟩
          rw [EB.out, ← hg.out.2.2]
          show SW w blk off (heapPop ltInt a (b - a) dk) _
          rw [← hp.out.2.2]
          exact hp.out.2.1
        | succ k =>
          replace hv := hv.trans (show Value.int .i64 (((k + 1 : Nat) : Int) - 1) = .int .i64 (k : Int) by congr 1; omega)
          subst hv
          obtain ⟨G, hG⟩ : ∃ G : Nat → Int, ∀ t, G t = dj[t]! := ⟨fun t => dj[t]!, fun _ => rfl⟩
          have hcw := hp.out.2.1.cells hG hp.out.1
          have hfw := hp.out.2.1.thaw hp.out.1
          have HG := Lib.hid hG
          clear hG
          have hk0 : (0 : Int) ≤ (k : Int) := by omega
          obtain ⟨v', hy⟩ := cell?_setCell_some (w := wr) (p := ⟨blk, off + a, none⟩) (x := .int .i32 (G (a + k))) (q := ⟨blk, off + (a + k), none⟩) (hcw (a + k) (by omega))
          have HS := Lib.hid (SW.swapq hp.out.2.1 HG.out (i := a) (j := a + k) (by have := hp.out.1; omega) (by have := hp.out.1; omega))
          go_wp2
          go_region
          all_goals go_wp2_with fail
          have HS5 : SW w blk off (swp dj a (a + k)) (((wr.setCell ⟨blk, off + a, none⟩ (.int .i32 (G (a + k)))).setCell ⟨blk, off + (a + k), none⟩ (.int .i32 (G a))).drew) := HS.out 0 1
          generalize ((wr.setCell ⟨blk, off + a, none⟩ (.int .i32 (G (a + k)))).setCell ⟨blk, off + (a + k), none⟩ (.int .i32 (G a))).drew = W5 at HS5 ⊢
          have C0 := oSift blk off cap 0 k a n (swp dj a (a + k)) W5 (by rw [size_swp]; exact hp.out.1) HS5.holds (by omega) (by omega) hsz
          rw [show ((0 : Nat) : Int) = 0 from rfl] at C0
          refine C0.mono ?_
          rintro e w1 ⟨rfl, hS⟩
          go_wp2
          go_roundw
          case rel => exact ⟨k, siftDown ltInt k a 0 (swp dj a (a + k)), rfl, by omega, Lib.hid ⟨by rw [size_siftDown ltInt _ _ _ _ _ (Nat.le_refl _), size_swp]; exact hp.out.1, HS5.trans hS, hp.out.2.2⟩⟩
          case measure => simp [RowKit.intOf]
    | succ k =>
      replace hv := hv.trans (show Value.int .i64 (((k + 1 : Nat) : Int) - 1) = .int .i64 (k : Int) by congr 1; omega)
      subst hv
      have hk0 : (0 : Int) ≤ (k : Int) := by omega
      have C0 := oSift blk off cap k (b - a) a n dk wr hg.out.1 hg.out.2.1.holds (by omega) (by omega) hsz
      rw [EC.out] at C0
      have C := Lib.hid C0
      clear C0
      go_wp2_with (go_at_call 158; refine C.out.mono ?_; rintro e w1 ⟨rfl, hS⟩)
      go_roundw
      case rel => exact ⟨k, siftDown ltInt (b - a) a k dk, rfl, by omega, Lib.hid ⟨by rw [size_siftDown ltInt _ _ _ _ _ (Nat.le_refl _)]; exact hg.out.1, hg.out.2.1.trans hS, hg.out.2.2⟩⟩
      case measure => simp [RowKit.intOf]
end Go.Proofs.YthhepebkfokddaaGreatDoor
namespace Go.Proofs.YthhepebkfokddaaGreatDoor
open Go Go.RowKit Go.Kt Go.Kt.Os Go.Sort
structure PV (w : World) (blk off : Nat) (d : Array Int) (sb : Nat) : Prop where
 row : Holds E32 w blk off d
 ne : sb ≠ blk
 cell : ∃ s : Int, w.cell? ⟨sb, 0, none⟩ = some (.int .i64 s)
 thaw : w.frozen? ⟨sb, 0, none⟩ = false
theorem PV.drewN {w : World} {blk off sb : Nat} {d : Array Int} (h : PV w blk off d sb) (q : Nat) : PV (w.drewN q) blk off d sb := ⟨h.row, h.ne, h.cell, h.thaw⟩
theorem PV.set {w : World} {blk off sb : Nat} {d : Array Int} (h : PV w blk off d sb) (x : Int) : PV (w.setCell ⟨sb, 0, none⟩ (.int .i64 x)) blk off d sb := by
 obtain ⟨s, hs⟩ := h.cell
 have hk : Keep (fun b => b = sb) w (w.setCell ⟨sb, 0, none⟩ (.int .i64 x)) := Keep.setCell (X := fun b => b = sb) (Keep.refl _ _) (p := ⟨sb, 0, none⟩) rfl _
 exact ⟨holds_keep h.row hk (fun e => h.ne e.symm), h.ne, ⟨x, World.cell?_setCell_same _ _ _ hs⟩, by rw [World.frozen?_setCell]; exact h.thaw⟩
set_option maxRecDepth 100000 in
set_option maxHeartbeats 1000000 in
theorem oOrd2 (blk off cap a b n sb : Nat) (d : Array Int) (w : World) (hn : d.size = n) (hP : PV w blk off d sb) (ha : a < n) (hb : b < n) :
 Calls Tryz.prog 169 #[.slice (some ⟨blk, off, none⟩) n cap, .int .i64 a, .int .i64 b, .pointer (some ⟨sb, 0, none⟩)] w fun e w' =>
  ∃ x y : Nat, e = .returned (.tuple #[.int .i64 x, .int .i64 y]) ∧ ((x = a ∧ y = b) ∨ (x = b ∧ y = a)) ∧ PV w' blk off d sb ∧ Keep (fun b => b = sb) w w' := by
 obtain ⟨G, hG⟩ : ∃ G : Nat → Int, ∀ t, G t = d[t]! := ⟨fun t => d[t]!, fun _ => rfl⟩
 have hcw := (SW.refl hP.row).cells hG hn
 obtain ⟨s, hs⟩ := hP.cell
 have hfz := hP.thaw
 have HP := Lib.hid hP
 clear hG hP
 go_enter Tryz.func169, Tryz.ntmps169
 go_wp2
 go_big_quiet (first | (go_at_call 118; refine Calls.quiet_of_same (oLess _ _ _)))
 go_wp2_with fail
 ·have HP2 := Lib.hid (HP.out.drewN nq)
  have HK2 : Hid (Keep (fun b => b = sb) w (w.drewN nq)) := Lib.hid ⟨rfl, rfl, rfl, Nat.le_refl _, fun _ _ _ => rfl⟩
  have hs2 : (w.drewN nq).cell? ⟨sb, 0, none⟩ = some (.int .i64 s) := hs
  have hf2 : (w.drewN nq).frozen? ⟨sb, 0, none⟩ = false := hfz
  clear hcw hs hfz
  generalize w.drewN nq = w2 at HP2 HK2 hs2 hf2 ⊢
  go_wp2
  go_ret2
  exact ⟨b, a, rfl, .inr ⟨rfl, rfl⟩, HP2.out.set _, HK2.out.setCell rfl _⟩
 ·go_wp2
  go_ret2
  exact ⟨a, b, rfl, .inl ⟨rfl, rfl⟩, HP.out.drewN nq, ⟨rfl, rfl, rfl, Nat.le_refl _, fun _ _ _ => rfl⟩⟩
set_option maxRecDepth 100000 in
set_option maxHeartbeats 1000000 in
theorem oMed (blk off cap a b c n sb : Nat) (d : Array Int) (w : World) (hn : d.size = n) (hP : PV w blk off d sb) (ha : a < n) (hb : b < n) (hc : c < n) :
 Calls Tryz.prog 162 #[.slice (some ⟨blk, off, none⟩) n cap, .int .i64 a, .int .i64 b, .int .i64 c, .pointer (some ⟨sb, 0, none⟩)] w fun e w' =>
  ∃ x : Nat, e = .returned (.int .i64 x) ∧ (x = a ∨ x = b ∨ x = c) ∧ PV w' blk off d sb ∧ Keep (fun b => b = sb) w w' := by
 have C1 := Lib.hid (oOrd2 blk off cap a b n sb d w hn hP ha hb)
 have HN := Lib.hid hn
 clear hP hn
 go_enter Tryz.func162, Tryz.ntmps162
 go_wp2_with fail
 refine C1.out.mono ?_
 rintro e w1 ⟨a1, b1, rfl, h1, hP1, hK1⟩
 clear C1
 have C2 := Lib.hid (oOrd2 blk off cap b1 c n sb d w1 HN.out hP1 (by omega) hc)
 have HK1 := Lib.hid hK1
 clear hP1 hK1
 go_wp2_with fail
 refine C2.out.mono ?_
 rintro e w2 ⟨b2, c2, rfl, h2, hP2, hK2⟩
 clear C2
 have C3 := Lib.hid (oOrd2 blk off cap a1 b2 n sb d w2 HN.out hP2 (by omega) (by omega))
 have HK2 := Lib.hid hK2
 clear hP2 hK2
 go_wp2_with fail
 refine C3.out.mono ?_
 rintro e w3 ⟨a3, b3, rfl, h3, hP3, hK3⟩
 clear C3
 have HP3 := Lib.hid hP3
 have HK3 := Lib.hid hK3
 have HX := Lib.hid (show b3 = a ∨ b3 = b ∨ b3 = c by omega)
 clear hP3 hK3 h1 h2 h3
 go_wp2
 go_ret
 exact ⟨b3, rfl, HX.out, HP3.out, (HK1.out.trans HK2.out).trans HK3.out⟩
set_option maxRecDepth 100000 in
set_option maxHeartbeats 1000000 in
theorem oAdj (blk off cap a n sb : Nat) (d : Array Int) (w : World) (hn : d.size = n) (hP : PV w blk off d sb) (ha0 : 1 ≤ a) (ha : a + 1 < n) (hsz : n < 4611686018427387904) :
 Calls Tryz.prog 161 #[.slice (some ⟨blk, off, none⟩) n cap, .int .i64 a, .pointer (some ⟨sb, 0, none⟩)] w fun e w' =>
  ∃ x : Nat, e = .returned (.int .i64 x) ∧ (a - 1 ≤ x ∧ x ≤ a + 1) ∧ PV w' blk off d sb ∧ Keep (fun b => b = sb) w w' := by
 have C0 := oMed blk off cap (a - 1) a (a + 1) n sb d w hn hP (by omega) (by omega) ha
 rw [show ((a - 1 : Nat) : Int) = (a : Int) - 1 by omega, show ((a + 1 : Nat) : Int) = (a : Int) + 1 by omega] at C0
 have C1 := Lib.hid C0
 clear C0 hP hn
 go_enter Tryz.func161, Tryz.ntmps161
 go_wp2_with fail
 refine C1.out.mono ?_
 rintro e w1 ⟨x, rfl, h1, hP1, hK1⟩
 clear C1
 have HP1 := Lib.hid hP1
 have HK1 := Lib.hid hK1
 have HX := Lib.hid (show a - 1 ≤ x ∧ x ≤ a + 1 by omega)
 clear hP1 hK1 h1
 go_wp2
 go_ret
 exact ⟨x, rfl, HX.out, HP1.out, HK1.out⟩
end Go.Proofs.YthhepebkfokddaaGreatDoor
namespace Go.Proofs.YthhepebkfokddaaGreatDoor
open Go Go.RowKit Go.Kt Go.Kt.Os Go.Sort
set_option maxRecDepth 100000 in
set_option maxHeartbeats 1000000 in
theorem oPivot (blk off cap a l n : Nat) (d : Array Int) (w : World) (hn : d.size = n) (hH : Holds E32 w blk off d) (hblk : blk < w.heap.size) (hl8 : 8 ≤ l) (hb : a + l ≤ n) (hsz : n < 4611686018427387904) :
 Calls Tryz.prog 141 #[.slice (some ⟨blk, off, none⟩) n cap, .int .i64 a, .int .i64 ((a : Int) + (l : Int))] w fun e w' =>
  ∃ (x : Nat) (h : Int), e = .returned (.tuple #[.int .i64 x, .int .i64 h]) ∧ a ≤ x ∧ x < a + l ∧ SW w blk off d w' := by
 have HS1 := Lib.hid (SW.refl hH)
 have HN := Lib.hid hn
 clear hH hn
 have EL := Lib.hid (show (a : Int) + (l : Int) - (a : Int) = (l : Int) by omega)
 obtain ⟨q, hq⟩ : ∃ q, q = l / 4 := ⟨_, rfl⟩
 have hq1 : 4 * q ≤ l := by omega
 have hq2 : l < 4 * q + 4 := by omega
 have EQ := Lib.hid (show (l : Int) / 4 = (q : Int) by omega)
 clear hq
 have hlz : (8 : Int) ≤ (a : Int) + (l : Int) - (a : Int) := by omega
 have HP : Hid (PV (w.alloc (.cells #[.int .i64 0] 3)) blk off d w.heap.size) := Lib.hid ⟨holds_keep HS1.out.holds ((Keep.refl (fun _ => False) w).alloc _) id, by omega, ⟨0, by rw [World.cell?_alloc_at _ _ _ _ (by simp)]; rfl⟩, World.frozen?_alloc_new _ _ _ _⟩
 have HK : Hid (SW w blk off d (w.alloc (.cells #[.int .i64 0] 3))) := Lib.hid ⟨(Keep.refl _ _).alloc _, HP.out.row⟩
 have FIN : ∀ W, Keep (fun b => b = w.heap.size) (w.alloc (.cells #[.int .i64 0] 3)) W → SW w blk off d W := fun W k => HK.out.then (k.weaken fun b _ e => by subst e; exact ⟨by omega, Nat.le_refl _⟩)
 have HF := Lib.hid FIN
 clear FIN HK
 by_cases h50 : 50 ≤ l
 ·have h50z : (50 : Int) ≤ (a : Int) + (l : Int) - (a : Int) := by omega
  go_enter Tryz.func141, Tryz.ntmps141
  go_wp2_with fail
  rw [EL.out, EQ.out]
  have C0 := oAdj blk off cap (a + q) n w.heap.size d _ HN.out HP.out (by omega) (by omega) hsz
  rw [show ((a + q : Nat) : Int) = (a : Int) + (q : Int) by omega] at C0
  have C := Lib.hid C0
  clear C0
  refine C.out.mono ?_
  rintro e w1 ⟨x1, rfl, hx1, hp1, hk1⟩
  clear C
  have HP1 := Lib.hid hp1
  have HK1 := Lib.hid (hk1)
  clear hp1 hk1
  have C0 := oAdj blk off cap (a + q * 2) n w.heap.size d w1 HN.out HP1.out (by omega) (by omega) hsz
  rw [show ((a + q * 2 : Nat) : Int) = (a : Int) + (q : Int) * 2 by omega] at C0
  have C := Lib.hid C0
  clear C0
  go_wp2_with fail
  refine C.out.mono ?_
  rintro e w2 ⟨x2, rfl, hx2, hp2, hk2⟩
  clear C
  have HP2 := Lib.hid hp2
  have HK2 := Lib.hid (HK1.out.trans hk2)
  clear hp2 hk2
  have C0 := oAdj blk off cap (a + q * 3) n w.heap.size d w2 HN.out HP2.out (by omega) (by omega) hsz
  rw [show ((a + q * 3 : Nat) : Int) = (a : Int) + (q : Int) * 3 by omega] at C0
  have C := Lib.hid C0
  clear C0
  go_wp2_with fail
  refine C.out.mono ?_
  rintro e w3 ⟨x3, rfl, hx3, hp3, hk3⟩
  clear C
  have HP3 := Lib.hid hp3
  have HK3 := Lib.hid (HK2.out.trans hk3)
  clear hp3 hk3
  have C := Lib.hid (oMed blk off cap x1 x2 x3 n w.heap.size d w3 HN.out HP3.out (by omega) (by omega) (by omega))
  go_wp2_with fail
  refine C.out.mono ?_
  rintro e w4 ⟨x4, rfl, hx4, hp4, hk4⟩
  clear C
  obtain ⟨s, hs⟩ := hp4.cell
  have HB := Lib.hid (show a ≤ x4 ∧ x4 < a + l by omega)
  have HS := Lib.hid (HF.out w4 (HK3.out.trans hk4))
  clear hp4 hk4 hx1 hx2 hx3 hx4
  go_wp2
  all_goals go_ret2
  all_goals exact ⟨x4, _, rfl, HB.out.1, HB.out.2, HS.out⟩
 ·have h50z : (a : Int) + (l : Int) - (a : Int) < 50 := by omega
  go_enter Tryz.func141, Tryz.ntmps141
  go_wp2_with fail
  rw [EL.out, EQ.out]
  have C0 := oMed blk off cap (a + q) (a + q * 2) (a + q * 3) n w.heap.size d _ HN.out HP.out (by omega) (by omega) (by omega)
  rw [show ((a + q : Nat) : Int) = (a : Int) + (q : Int) by omega, show ((a + q * 2 : Nat) : Int) = (a : Int) + (q : Int) * 2 by omega, show ((a + q * 3 : Nat) : Int) = (a : Int) + (q : Int) * 3 by omega] at C0
  have C := Lib.hid C0
  clear C0
  refine C.out.mono ?_
  rintro e w4 ⟨x4, rfl, hx4, hp4, hk4⟩
  clear C
  obtain ⟨s, hs⟩ := hp4.cell
  have HB := Lib.hid (show a ≤ x4 ∧ x4 < a + l by omega)
  have HS := Lib.hid (HF.out w4 hk4)
  clear hp4 hk4 hx4
  go_wp2
  all_goals go_ret2
  all_goals exact ⟨x4, _, rfl, HB.out.1, HB.out.2, HS.out⟩
end Go.Proofs.YthhepebkfokddaaGreatDoor

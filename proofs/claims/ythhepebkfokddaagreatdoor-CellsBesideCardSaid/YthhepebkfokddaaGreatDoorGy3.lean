/- Parts of the proof of what the last text says. -/
import Derived.Shelf.Small.Utf8
import Derived.Shelf.Small.Bits
import Derived.Shelf.Small.Strs
import Derived.Shelf.Strconv.Itoa0
import Derived.Shelf.LaysM
import Derived.Shelf.Strconv.Clone
import Derived.Shelf.LaysC
import Derived.Shelf.Strconv.AtoiAll
import Derived.Shelf.Strings.Cut
import Derived.Shelf.Strings.Count
import Derived.Shelf.Strings.Prefix
import Derived.Shelf.Strings.FieldsFuncAny
import Derived.Shelf.Strings.SlTrimAscii
import Derived.Test.YthhepebkfokddaaGreatDoorProg
import Derived.Test.YthhepebkfokddaaGreatDoorGy2
import Derived.RegionTactic
import Derived.ChangeAlike
import Derived.BigRegion
import Derived.Deep.QuietTactic
import Derived.BigQuiet
import Derived.WalkLawsBesides
/-
  DERIVED: THE SHELF's CONTRACTS AT THIS DUMP, IN PLAIN WORDS (tools/lay-plain.mjs out of 'TryzJs.lean', which tools/lay-shelf.mjs wrote): THE SAME DECLARATIONS UNDER THE SAME NAMES: 'import', 'namespace', 'open', 'def', 'theorem' AND NOTHING ELSE: no command of the shelf's: FOR A HAND-IN. Each laying: the table of numbers ('.._ren') and one theorem, a field a fact of the dump's own or the kernel's comparison; each contract: ONE APPLICATION.
-/
namespace Go.Proofs
open Go.Shelf
def Tryz.lays119_ren : Go.Shelf.Ren := ⟨fun | 119 => 108 | n => n, fun | 21 => 21 | 4 => 4 | n => n, fun | n => n⟩
theorem Tryz.lays119 : Go.Proofs.Lays.n119 Tryz.prog Tryz.lays119_ren := {
  mixed := by kernel_rfl
  f119 := Tryz.func108.trans (congrArg some (by kernel_rfl))
  t4 := Tryz.underlying4
  a4 := Tryz.isAgg4
  z4 := Tryz.sizeOf4
  v4 := Tryz.zeroValue4
  t21 := Tryz.underlying21
  a21 := Tryz.isAgg21
  z21 := Tryz.sizeOf21
  v21 := Tryz.zeroValue21 }
theorem Tryz.utf8_ValidRune (r : Int) (w : World) :
    Calls Tryz.prog 108 #[.int .i32 r] w fun e w' => e = .returned (.bool (Lib.validRune r)) ∧ w' = w := Any.utf8_ValidRune Tryz.lays119 r w
def Tryz.lays125_ren : Go.Shelf.Ren := ⟨fun | 125 => 115 | 128 => 146 | 129 => 147 | n => n, fun | 46 => 169 | 3 => 3 | 51 => 193 | 53 => 182 | 4 => 4 | 5 => 5 | 9 => 9 | n => n, fun | n => n⟩
theorem Tryz.lays125 : Go.Proofs.Lays.n125 Tryz.prog Tryz.lays125_ren := {
  mixed := by kernel_rfl
  f125 := Tryz.func115.trans (congrArg some (by kernel_rfl))
  f128 := Tryz.func146.trans (congrArg some (by kernel_rfl))
  f129 := Tryz.func147.trans (congrArg some (by kernel_rfl))
  t3 := Tryz.underlying3
  a3 := Tryz.isAgg3
  z3 := Tryz.sizeOf3
  v3 := Tryz.zeroValue3
  t4 := Tryz.underlying4
  a4 := Tryz.isAgg4
  z4 := Tryz.sizeOf4
  v4 := Tryz.zeroValue4
  t5 := Tryz.underlying5
  a5 := Tryz.isAgg5
  z5 := Tryz.sizeOf5
  v5 := Tryz.zeroValue5
  t9 := Tryz.underlying9
  a9 := Tryz.isAgg9
  z9 := Tryz.sizeOf9
  v9 := Tryz.zeroValue9
  t46 := Tryz.underlying169
  a46 := Tryz.isAgg169
  z46 := Tryz.sizeOf169
  v46 := Tryz.zeroValue169
  t51 := Tryz.underlying193
  a51 := Tryz.isAgg193
  z51 := Tryz.sizeOf193
  v51 := Tryz.zeroValue193
  t53 := Tryz.underlying182
  a53 := Tryz.isAgg182
  z53 := Tryz.sizeOf182
  v53 := Tryz.zeroValue182 }
theorem Tryz.bits_Len (x : Int) (w : World) (h0 : 0 ≤ x) (h1 : x ≤ 18446744073709551615) :
    Calls Tryz.prog 115 #[.int .u64 x] w fun e w' => e = .returned (.int .i64 (Lib.bitLen x.toNat)) ∧ w' = w := Any.bits_Len Tryz.lays125 x w h0 h1
def Tryz.lays137_ren : Go.Shelf.Ren := ⟨fun | 137 => 41 | 217 => 78 | 266 => 112 | n => n, fun | 9 => 9 | 5 => 5 | 3 => 3 | n => n, fun | n => n⟩
theorem Tryz.lays137 : Go.Proofs.Lays.n137 Tryz.prog Tryz.lays137_ren := {
  mixed := by kernel_rfl
  f137 := Tryz.func41.trans (congrArg some (by kernel_rfl))
  f217 := Tryz.func78.trans (congrArg some (by kernel_rfl))
  f266 := Tryz.func112.trans (congrArg some (by kernel_rfl))
  t3 := Tryz.underlying3
  a3 := Tryz.isAgg3
  z3 := Tryz.sizeOf3
  v3 := Tryz.zeroValue3
  t5 := Tryz.underlying5
  a5 := Tryz.isAgg5
  z5 := Tryz.sizeOf5
  v5 := Tryz.zeroValue5
  t9 := Tryz.underlying9
  a9 := Tryz.isAgg9
  z9 := Tryz.sizeOf9
  v9 := Tryz.zeroValue9 }
open Go.RowKit in
theorem Tryz.strings_IndexByte (s : ByteArray) (c : Int) (w : World) :
    Calls Tryz.prog 41 #[.string s, .int .u8 c] w fun e w' => e = .returned (.int .i64 (Lib.indexByte s.data.toList c.toNat.toUInt8)) ∧ w' = w := Any.strings_IndexByte Tryz.lays137 s c w
def Tryz.laysM316_ren : Go.Shelf.Ren := ⟨fun | 316 => 164 | n => n, fun | 9 => 9 | 3 => 3 | 4 => 4 | 37 => 203 | 0 => 0 | 127 => 224 | 5 => 5 | n => n, fun | n => n⟩
def Tryz.laysC172_ren : Go.Shelf.Ren := ⟨fun | 172 => 106 | 244 => 135 | 245 => 136 | 247 => 152 | 279 => 153 | 280 => 154 | 281 => 155 | 282 => 156 | 287 => 157 | 316 => 164 | 171 => 166 | 205 => 165 | 321 => 167 | 322 => 168 | 243 => 170 | 246 => 171 | 283 => 172 | 284 => 173 | 285 => 174 | 286 => 175 | 129 => 147 | 317 => 176 | 318 => 177 | 319 => 178 | 320 => 179 | 337 => 180 | 338 => 181 | n => n, fun | 9 => 9 | 3 => 3 | 75 => 24 | 76 => 163 | 4 => 4 | 5 => 5 | 167 => 202 | 37 => 203 | 0 => 0 | 85 => 204 | 2 => 2 | 168 => 206 | 53 => 182 | 175 => 183 | 46 => 169 | 210 => 218 | 127 => 224 | 145 => 227 | 143 => 225 | 21 => 21 | 171 => 229 | 173 => 231 | 212 => 234 | 51 => 193 | 20 => 20 | 213 => 235 | 232 => 236 | 233 => 237 | 80 => 238 | n => n, fun | 15 => 5 | 16 => 6 | 17 => 7 | 18 => 8 | 19 => 9 | n => n⟩
theorem Tryz.laysC172 : Go.Proofs.LaysC.n172 Tryz.prog Tryz.laysC172_ren := {
  mixed := by kernel_rfl
  f129 := Tryz.func147.trans (congrArg some (by kernel_rfl))
  f171 := Tryz.func166.trans (congrArg some (by kernel_rfl))
  f172 := Tryz.func106.trans (congrArg some (by kernel_rfl))
  f205 := Tryz.func165.trans (congrArg some (by kernel_rfl))
  f243 := Tryz.func170.trans (congrArg some (by kernel_rfl))
  f244 := Tryz.func135.trans (congrArg some (by kernel_rfl))
  f245 := Tryz.func136.trans (congrArg some (by kernel_rfl))
  f246 := Tryz.func171.trans (congrArg some (by kernel_rfl))
  f247 := Tryz.func152.trans (congrArg some (by kernel_rfl))
  f279 := Tryz.func153.trans (congrArg some (by kernel_rfl))
  f280 := Tryz.func154.trans (congrArg some (by kernel_rfl))
  f281 := Tryz.func155.trans (congrArg some (by kernel_rfl))
  f282 := Tryz.func156.trans (congrArg some (by kernel_rfl))
  f283 := Tryz.func172.trans (congrArg some (by kernel_rfl))
  f284 := Tryz.func173.trans (congrArg some (by kernel_rfl))
  f285 := Tryz.func174.trans (congrArg some (by kernel_rfl))
  f286 := Tryz.func175.trans (congrArg some (by kernel_rfl))
  f287 := Tryz.func157.trans (congrArg some (by kernel_rfl))
  f316 := Tryz.func164.trans (congrArg some (by kernel_rfl))
  f317 := Tryz.func176.trans (congrArg some (by kernel_rfl))
  f318 := Tryz.func177.trans (congrArg some (by kernel_rfl))
  f319 := Tryz.func178.trans (congrArg some (by kernel_rfl))
  f320 := Tryz.func179.trans (congrArg some (by kernel_rfl))
  f321 := Tryz.func167.trans (congrArg some (by kernel_rfl))
  f322 := Tryz.func168.trans (congrArg some (by kernel_rfl))
  f337 := Tryz.func180.trans (congrArg some (by kernel_rfl))
  f338 := Tryz.func181.trans (congrArg some (by kernel_rfl))
  t0 := Tryz.underlying0
  a0 := Tryz.isAgg0
  z0 := Tryz.sizeOf0
  v0 := Tryz.zeroValue0
  t2 := Tryz.underlying2
  a2 := Tryz.isAgg2
  z2 := Tryz.sizeOf2
  v2 := Tryz.zeroValue2
  t3 := Tryz.underlying3
  a3 := Tryz.isAgg3
  z3 := Tryz.sizeOf3
  v3 := Tryz.zeroValue3
  t4 := Tryz.underlying4
  a4 := Tryz.isAgg4
  z4 := Tryz.sizeOf4
  v4 := Tryz.zeroValue4
  t5 := Tryz.underlying5
  a5 := Tryz.isAgg5
  z5 := Tryz.sizeOf5
  v5 := Tryz.zeroValue5
  t9 := Tryz.underlying9
  a9 := Tryz.isAgg9
  z9 := Tryz.sizeOf9
  v9 := Tryz.zeroValue9
  t20 := Tryz.underlying20
  a20 := Tryz.isAgg20
  z20 := Tryz.sizeOf20
  v20 := Tryz.zeroValue20
  t21 := Tryz.underlying21
  a21 := Tryz.isAgg21
  z21 := Tryz.sizeOf21
  v21 := Tryz.zeroValue21
  t37 := Tryz.underlying203
  a37 := Tryz.isAgg203
  z37 := Tryz.sizeOf203
  v37 := Tryz.zeroValue203
  t46 := Tryz.underlying169
  a46 := Tryz.isAgg169
  z46 := Tryz.sizeOf169
  v46 := Tryz.zeroValue169
  t51 := Tryz.underlying193
  a51 := Tryz.isAgg193
  z51 := Tryz.sizeOf193
  v51 := Tryz.zeroValue193
  t53 := Tryz.underlying182
  a53 := Tryz.isAgg182
  z53 := Tryz.sizeOf182
  v53 := Tryz.zeroValue182
  t75 := Tryz.underlying24
  a75 := Tryz.isAgg24
  z75 := Tryz.sizeOf24
  v75 := Tryz.zeroValue24
  t76 := Tryz.underlying163
  a76 := Tryz.isAgg163
  z76 := Tryz.sizeOf163
  v76 := Tryz.zeroValue163
  t85 := Tryz.underlying204
  a85 := Tryz.isAgg204
  z85 := Tryz.sizeOf204
  v85 := Tryz.zeroValue204
  t127 := Tryz.underlying224
  a127 := Tryz.isAgg224
  z127 := Tryz.sizeOf224
  v127 := Tryz.zeroValue224
  t143 := Tryz.underlying225
  a143 := Tryz.isAgg225
  z143 := Tryz.sizeOf225
  v143 := Tryz.zeroValue225
  t145 := Tryz.underlying227
  a145 := Tryz.isAgg227
  z145 := Tryz.sizeOf227
  v145 := Tryz.zeroValue227
  t167 := Tryz.underlying202
  a167 := Tryz.isAgg202
  z167 := Tryz.sizeOf202
  v167 := Tryz.zeroValue202
  t168 := Tryz.underlying206
  a168 := Tryz.isAgg206
  z168 := Tryz.sizeOf206
  v168 := Tryz.zeroValue206
  t171 := Tryz.underlying229
  a171 := Tryz.isAgg229
  z171 := Tryz.sizeOf229
  v171 := Tryz.zeroValue229
  t173 := Tryz.underlying231
  a173 := Tryz.isAgg231
  z173 := Tryz.sizeOf231
  v173 := Tryz.zeroValue231
  t175 := Tryz.underlying183
  a175 := Tryz.isAgg183
  z175 := Tryz.sizeOf183
  v175 := Tryz.zeroValue183
  t210 := Tryz.underlying218
  a210 := Tryz.isAgg218
  z210 := Tryz.sizeOf218
  v210 := Tryz.zeroValue218
  t212 := Tryz.underlying234
  a212 := Tryz.isAgg234
  z212 := Tryz.sizeOf234
  v212 := Tryz.zeroValue234
  t213 := Tryz.underlying235
  a213 := Tryz.isAgg235
  z213 := Tryz.sizeOf235
  t232 := Tryz.underlying236
  a232 := Tryz.isAgg236
  z232 := Tryz.sizeOf236
  v232 := Tryz.zeroValue236
  t233 := Tryz.underlying237
  a233 := Tryz.isAgg237
  z233 := Tryz.sizeOf237
  v233 := Tryz.zeroValue237
  g15 := by kernel_rfl
  g16 := by kernel_rfl
  g17 := by kernel_rfl
  g18 := by kernel_rfl
  g19 := by kernel_rfl
  t80 := Tryz.underlying238
  a80 := Tryz.isAgg238
  z80 := Tryz.sizeOf238
  v80 := Tryz.zeroValue238
  i0 := by kernel_rfl
  i2 := by kernel_rfl
  i3 := by kernel_rfl
  i4 := by kernel_rfl
  i5 := by kernel_rfl
  i9 := by kernel_rfl
  i20 := by kernel_rfl
  i21 := by kernel_rfl
  i37 := by kernel_rfl
  i46 := by kernel_rfl
  i51 := by kernel_rfl
  i53 := by kernel_rfl
  i75 := by kernel_rfl
  i76 := by kernel_rfl
  i80 := by kernel_rfl
  i85 := by kernel_rfl
  i127 := by kernel_rfl
  i143 := by kernel_rfl
  i145 := by kernel_rfl
  i167 := by kernel_rfl
  i168 := by kernel_rfl
  i171 := by kernel_rfl
  i173 := by kernel_rfl
  i175 := by kernel_rfl
  i210 := by kernel_rfl
  i212 := by kernel_rfl
  i232 := by kernel_rfl
  i233 := by kernel_rfl
  m15 := by kernel_rfl
  m16 := by kernel_rfl
  m17 := by kernel_rfl
  m18 := by kernel_rfl
  m19 := by kernel_rfl
  c0 := by kernel_rfl
  c2 := by kernel_rfl
  c3 := by kernel_rfl
  c4 := by kernel_rfl
  c5 := by kernel_rfl
  c9 := by kernel_rfl
  c20 := by kernel_rfl
  c21 := by kernel_rfl
  c37 := by kernel_rfl
  c46 := by kernel_rfl
  c51 := by kernel_rfl
  c53 := by kernel_rfl
  c75 := by kernel_rfl
  c76 := by kernel_rfl
  c80 := by kernel_rfl
  c85 := by kernel_rfl
  c127 := by kernel_rfl
  c143 := by kernel_rfl
  c145 := by kernel_rfl
  c167 := by kernel_rfl
  c168 := by kernel_rfl
  c171 := by kernel_rfl
  c173 := by kernel_rfl
  c175 := by kernel_rfl
  c210 := by kernel_rfl
  c212 := by kernel_rfl
  c213 := by kernel_rfl
  c232 := by kernel_rfl
  c233 := by kernel_rfl }
open Go.RowKit in
theorem Tryz.strconv_Atoi_ok (s : ByteArray) (hmax : s.size ≤ 9223372036854775806) (v : Int) (h : Lib.atoiAll s.data.toList = .ok v) (w : World) :
    Calls Tryz.prog 106 #[.string s] w fun e w' => e = .returned (.tuple #[.int .i64 v, .nilIface]) ∧ (w' = w ∨ ∃ t, w' = Lib.bytesWorld w 5 t) := Any.strconv_Atoi_ok Tryz.laysC172 s hmax v h w
open Go.RowKit in
theorem Tryz.strconv_Atoi_syntax (s : ByteArray) (hlim : s.size ≤ 281474976710656) (h : Lib.atoiAll s.data.toList = Lib.NumEnd.syntax) (ev : Value) (w : World) (hv : w.cell? ⟨5, 0, none⟩ = some ev) (hev : ev = .nilIface ∨ ∃ te pe, ev = .iface te pe) :
    Calls Tryz.prog 106 #[.string s] w fun e w' => ∃ N, e = .returned (.tuple #[.int .i64 (0), .iface 206 (.pointer (some ⟨N, 0, none⟩))]) ∧ w.heap.size ≤ N ∧ w'.heap[N]? = some (.cells #[.string ⟨#[65, 116, 111, 105]⟩, .string s, ev] 218 (0, 0)) ∧ Below w.heap.size w w' := Any.strconv_Atoi_syntax Tryz.laysC172 s hlim h ev w hv hev
open Go.RowKit in
theorem Tryz.strconv_Atoi_range (s : ByteArray) (hlim : s.size ≤ 281474976710656) (h : Lib.atoiAll s.data.toList = .range) (ev : Value) (w : World) (hv : w.cell? ⟨6, 0, none⟩ = some ev) (hev : ev = .nilIface ∨ ∃ te pe, ev = .iface te pe) :
    Calls Tryz.prog 106 #[.string s] w fun e w' => ∃ N, e = .returned (.tuple #[.int .i64 (Lib.atoiSat s.data.toList), .iface 206 (.pointer (some ⟨N, 0, none⟩))]) ∧ w.heap.size ≤ N ∧ w'.heap[N]? = some (.cells #[.string ⟨#[65, 116, 111, 105]⟩, .string s, ev] 218 (0, 0)) ∧ Below w.heap.size w w' := Any.strconv_Atoi_range Tryz.laysC172 s hlim h ev w hv hev
def Tryz.lays145_ren : Go.Shelf.Ren := ⟨fun | 145 => 43 | 220 => 80 | 219 => 103 | 217 => 78 | 225 => 125 | 224 => 126 | 267 => 127 | 266 => 112 | 314 => 149 | n => n, fun | 9 => 9 | 4 => 4 | 59 => 85 | 3 => 3 | 5 => 5 | 46 => 169 | 146 => 199 | 51 => 193 | n => n, fun | 1 => 1 | n => n⟩
theorem Tryz.lays145 : Go.Proofs.Lays.n145 Tryz.prog Tryz.lays145_ren := {
  mixed := by kernel_rfl
  f145 := Tryz.func43.trans (congrArg some (by kernel_rfl))
  f217 := Tryz.func78.trans (congrArg some (by kernel_rfl))
  f219 := Tryz.func103.trans (congrArg some (by kernel_rfl))
  f220 := Tryz.func80.trans (congrArg some (by kernel_rfl))
  f224 := Tryz.func126.trans (congrArg some (by kernel_rfl))
  f225 := Tryz.func125.trans (congrArg some (by kernel_rfl))
  f266 := Tryz.func112.trans (congrArg some (by kernel_rfl))
  f267 := Tryz.func127.trans (congrArg some (by kernel_rfl))
  f314 := Tryz.func149.trans (congrArg some (by kernel_rfl))
  t3 := Tryz.underlying3
  a3 := Tryz.isAgg3
  z3 := Tryz.sizeOf3
  v3 := Tryz.zeroValue3
  t4 := Tryz.underlying4
  a4 := Tryz.isAgg4
  z4 := Tryz.sizeOf4
  v4 := Tryz.zeroValue4
  t5 := Tryz.underlying5
  a5 := Tryz.isAgg5
  z5 := Tryz.sizeOf5
  v5 := Tryz.zeroValue5
  t9 := Tryz.underlying9
  a9 := Tryz.isAgg9
  z9 := Tryz.sizeOf9
  v9 := Tryz.zeroValue9
  t46 := Tryz.underlying169
  a46 := Tryz.isAgg169
  z46 := Tryz.sizeOf169
  v46 := Tryz.zeroValue169
  t51 := Tryz.underlying193
  a51 := Tryz.isAgg193
  z51 := Tryz.sizeOf193
  v51 := Tryz.zeroValue193
  t59 := Tryz.underlying85
  a59 := Tryz.isAgg85
  z59 := Tryz.sizeOf85
  v59 := Tryz.zeroValue85
  t146 := Tryz.underlying199
  a146 := Tryz.isAgg199
  z146 := Tryz.sizeOf199
  v146 := Tryz.zeroValue199
  g1 := by kernel_rfl }
open Go.RowKit Go.Lib in
theorem Tryz.strings_Cut (s sep : ByteArray) (m : Int) (w : World) (hs : s.size < 4294967281) (hm : w.cell? ⟨1, 0, none⟩ = some (.int .i64 m)) :
    Calls Tryz.prog 43 #[.string s, .string sep] w fun e w' => e = .returned (.tuple #[.string ⟨(Lib.cut s.data.toList sep.data.toList).1.toArray⟩, .string ⟨(Lib.cut s.data.toList sep.data.toList).2.1.toArray⟩, .bool (Lib.cut s.data.toList sep.data.toList).2.2]) ∧ ∃ n, w' = w.drewN n := Any.strings_Cut Tryz.lays145 s sep m w hs hm
def Tryz.lays138_ren : Go.Shelf.Ren := ⟨fun | 138 => 34 | 195 => 68 | 218 => 69 | 143 => 70 | 219 => 103 | 217 => 78 | 225 => 125 | 224 => 126 | 267 => 127 | 266 => 112 | 314 => 149 | n => n, fun | 9 => 9 | 3 => 3 | 4 => 4 | 5 => 5 | 0 => 0 | 46 => 169 | 146 => 199 | 51 => 193 | n => n, fun | 1 => 1 | n => n⟩
theorem Tryz.lays138 : Go.Proofs.Lays.n138 Tryz.prog Tryz.lays138_ren := {
  mixed := by kernel_rfl
  f138 := Tryz.func34.trans (congrArg some (by kernel_rfl))
  f143 := Tryz.func70.trans (congrArg some (by kernel_rfl))
  f195 := Tryz.func68.trans (congrArg some (by kernel_rfl))
  f217 := Tryz.func78.trans (congrArg some (by kernel_rfl))
  f218 := Tryz.func69.trans (congrArg some (by kernel_rfl))
  f219 := Tryz.func103.trans (congrArg some (by kernel_rfl))
  f224 := Tryz.func126.trans (congrArg some (by kernel_rfl))
  f225 := Tryz.func125.trans (congrArg some (by kernel_rfl))
  f266 := Tryz.func112.trans (congrArg some (by kernel_rfl))
  f267 := Tryz.func127.trans (congrArg some (by kernel_rfl))
  f314 := Tryz.func149.trans (congrArg some (by kernel_rfl))
  t0 := Tryz.underlying0
  a0 := Tryz.isAgg0
  z0 := Tryz.sizeOf0
  v0 := Tryz.zeroValue0
  t3 := Tryz.underlying3
  a3 := Tryz.isAgg3
  z3 := Tryz.sizeOf3
  v3 := Tryz.zeroValue3
  t4 := Tryz.underlying4
  a4 := Tryz.isAgg4
  z4 := Tryz.sizeOf4
  v4 := Tryz.zeroValue4
  t5 := Tryz.underlying5
  a5 := Tryz.isAgg5
  z5 := Tryz.sizeOf5
  v5 := Tryz.zeroValue5
  t9 := Tryz.underlying9
  a9 := Tryz.isAgg9
  z9 := Tryz.sizeOf9
  v9 := Tryz.zeroValue9
  t46 := Tryz.underlying169
  a46 := Tryz.isAgg169
  z46 := Tryz.sizeOf169
  v46 := Tryz.zeroValue169
  t51 := Tryz.underlying193
  a51 := Tryz.isAgg193
  z51 := Tryz.sizeOf193
  v51 := Tryz.zeroValue193
  t146 := Tryz.underlying199
  a146 := Tryz.isAgg199
  z146 := Tryz.sizeOf199
  v146 := Tryz.zeroValue199
  g1 := by kernel_rfl }
open Go.RowKit Go.Lib in
theorem Tryz.strings_Count_one (s : ByteArray) (c : UInt8) (w : World) :
    Calls Tryz.prog 34 #[.string s, .string ⟨#[c]⟩] w fun e w' => e = .returned (.int .i64 (Lib.countByte s.data.toList c)) ∧ w' = w := Any.strings_Count_one Tryz.lays138 s c w
def Tryz.lays100_ren : Go.Shelf.Ren := ⟨fun | 100 => 35 | 207 => 71 | n => n, fun | 9 => 9 | 4 => 4 | 3 => 3 | n => n, fun | n => n⟩
theorem Tryz.lays100 : Go.Proofs.Lays.n100 Tryz.prog Tryz.lays100_ren := {
  mixed := by kernel_rfl
  f100 := Tryz.func35.trans (congrArg some (by kernel_rfl))
  f207 := Tryz.func71.trans (congrArg some (by kernel_rfl))
  t3 := Tryz.underlying3
  a3 := Tryz.isAgg3
  z3 := Tryz.sizeOf3
  v3 := Tryz.zeroValue3
  t4 := Tryz.underlying4
  a4 := Tryz.isAgg4
  z4 := Tryz.sizeOf4
  v4 := Tryz.zeroValue4
  t9 := Tryz.underlying9
  a9 := Tryz.isAgg9
  z9 := Tryz.sizeOf9
  v9 := Tryz.zeroValue9 }
open Go.RowKit Go.Lib in
theorem Tryz.strings_HasSuffix (s p : ByteArray) (w : World) (hs : s.size ≤ 9223372036854775807) :
    Calls Tryz.prog 35 #[.string s, .string p] w fun e w' => e = .returned (.bool (Lib.hasSuffix s.data.toList p.data.toList)) ∧ w' = w := Any.strings_HasSuffix Tryz.lays100 s p w hs
def Tryz.lays102_ren : Go.Shelf.Ren := ⟨fun | 102 => 42 | 209 => 79 | 207 => 71 | n => n, fun | 9 => 9 | 4 => 4 | 3 => 3 | n => n, fun | n => n⟩
theorem Tryz.lays102 : Go.Proofs.Lays.n102 Tryz.prog Tryz.lays102_ren := {
  mixed := by kernel_rfl
  f102 := Tryz.func42.trans (congrArg some (by kernel_rfl))
  f207 := Tryz.func71.trans (congrArg some (by kernel_rfl))
  f209 := Tryz.func79.trans (congrArg some (by kernel_rfl))
  t3 := Tryz.underlying3
  a3 := Tryz.isAgg3
  z3 := Tryz.sizeOf3
  v3 := Tryz.zeroValue3
  t4 := Tryz.underlying4
  a4 := Tryz.isAgg4
  z4 := Tryz.sizeOf4
  v4 := Tryz.zeroValue4
  t9 := Tryz.underlying9
  a9 := Tryz.isAgg9
  z9 := Tryz.sizeOf9
  v9 := Tryz.zeroValue9 }
open Go.RowKit Go.Lib in
theorem Tryz.strings_TrimSuffix (s p : ByteArray) (w : World) (hs : s.size ≤ 9223372036854775807) :
    Calls Tryz.prog 42 #[.string s, .string p] w fun e w' => e = .returned (.string ⟨(Lib.trimSuffix s.data.toList p.data.toList).toArray⟩) ∧ w' = w := Any.strings_TrimSuffix Tryz.lays102 s p w hs
def Tryz.lays229_ren : Go.Shelf.Ren := ⟨fun | 229 => 44 | n => n, fun | 9 => 9 | 40 => 88 | 31 => 59 | 152 => 128 | 3 => 3 | 0 => 0 | 4 => 4 | 21 => 21 | 154 => 130 | n => n, fun | n => n⟩
theorem Tryz.lays229 : Go.Proofs.Lays.n229 Tryz.prog Tryz.lays229_ren := {
  mixed := by kernel_rfl
  f229 := Tryz.func44.trans (congrArg some (by kernel_rfl))
  t0 := Tryz.underlying0
  a0 := Tryz.isAgg0
  z0 := Tryz.sizeOf0
  v0 := Tryz.zeroValue0
  t3 := Tryz.underlying3
  a3 := Tryz.isAgg3
  z3 := Tryz.sizeOf3
  v3 := Tryz.zeroValue3
  t4 := Tryz.underlying4
  a4 := Tryz.isAgg4
  z4 := Tryz.sizeOf4
  v4 := Tryz.zeroValue4
  t9 := Tryz.underlying9
  a9 := Tryz.isAgg9
  z9 := Tryz.sizeOf9
  v9 := Tryz.zeroValue9
  t21 := Tryz.underlying21
  a21 := Tryz.isAgg21
  z21 := Tryz.sizeOf21
  v21 := Tryz.zeroValue21
  t31 := Tryz.underlying59
  a31 := Tryz.isAgg59
  z31 := Tryz.sizeOf59
  v31 := Tryz.zeroValue59
  t40 := Tryz.underlying88
  a40 := Tryz.isAgg88
  z40 := Tryz.sizeOf88
  v40 := Tryz.zeroValue88
  t152 := Tryz.underlying128
  a152 := Tryz.isAgg128
  z152 := Tryz.sizeOf128
  v152 := Tryz.zeroValue128
  t154 := Tryz.underlying130
  a154 := Tryz.isAgg130
  z154 := Tryz.sizeOf130
  v154 := Tryz.zeroValue130 }
open Go.RowKit Go.Lib in
theorem Tryz.strings_FieldsFunc_runes (g : Nat) (lb : Array Value) (eg : ∀ args w, (callFunc g args).run Tryz.prog w = .ok (.enter g args) w) (p : Nat → Bool) (s : ByteArray) (w : World) (hs : s.size ≤ 4294967296) (hp : PredAtRunes Tryz.prog g lb p w) :
    Calls Tryz.prog 44 #[.string s, .func (.func g) #[] lb] w fun e w' => ∃ A, e = .returned (.slice (some ⟨A, 0, none⟩) (Lib.goFieldsP p s).length (Lib.goFieldsP p s).length) ∧ w.heap.size ≤ A ∧
      w'.ownsRow w.heap.size 9 1 (.slice (some ⟨A, 0, none⟩) (Lib.goFieldsP p s).length (Lib.goFieldsP p s).length) (Lib.goFieldsP p s).length ((Lib.goFieldsP p s).map Value.string) ∧ Below w.heap.size w w' := Any.strings_FieldsFunc_runes Tryz.lays229 g lb eg p s w hs hp (by kernel_rfl) (by kernel_rfl)
def Tryz.lays160_ren : Go.Shelf.Ren := ⟨fun | 160 => 105 | 232 => 129 | 231 => 128 | 227 => 130 | 234 => 132 | 233 => 131 | 236 => 134 | 235 => 133 | 228 => 150 | 271 => 56 | 151 => 151 | 197 => 94 | 120 => 95 | 152 => 163 | 260 => 122 | 137 => 41 | 119 => 108 | 224 => 126 | 225 => 125 | 217 => 78 | 266 => 112 | n => n, fun | 9 => 9 | 4 => 4 | 3 => 3 | 5 => 5 | 117 => 177 | 116 => 176 | 0 => 0 | 124 => 180 | 21 => 21 | 105 => 67 | 46 => 169 | 119 => 195 | 139 => 198 | 138 => 197 | n => n, fun | 3 => 3 | 4 => 4 | n => n⟩
theorem Tryz.lays160 : Go.Proofs.Lays.n160 Tryz.prog Tryz.lays160_ren := {
  mixed := by kernel_rfl
  f119 := Tryz.func108.trans (congrArg some (by kernel_rfl))
  f120 := Tryz.func95.trans (congrArg some (by kernel_rfl))
  f137 := Tryz.func41.trans (congrArg some (by kernel_rfl))
  f151 := Tryz.func151.trans (congrArg some (by kernel_rfl))
  f152 := Tryz.func163.trans (congrArg some (by kernel_rfl))
  f160 := Tryz.func105.trans (congrArg some (by kernel_rfl))
  f197 := Tryz.func94.trans (congrArg some (by kernel_rfl))
  f217 := Tryz.func78.trans (congrArg some (by kernel_rfl))
  f224 := Tryz.func126.trans (congrArg some (by kernel_rfl))
  f225 := Tryz.func125.trans (congrArg some (by kernel_rfl))
  f227 := Tryz.func130.trans (congrArg some (by kernel_rfl))
  f228 := Tryz.func150.trans (congrArg some (by kernel_rfl))
  f231 := Tryz.func128.trans (congrArg some (by kernel_rfl))
  f232 := Tryz.func129.trans (congrArg some (by kernel_rfl))
  f233 := Tryz.func131.trans (congrArg some (by kernel_rfl))
  f234 := Tryz.func132.trans (congrArg some (by kernel_rfl))
  f235 := Tryz.func133.trans (congrArg some (by kernel_rfl))
  f236 := Tryz.func134.trans (congrArg some (by kernel_rfl))
  f260 := Tryz.func122.trans (congrArg some (by kernel_rfl))
  f266 := Tryz.func112.trans (congrArg some (by kernel_rfl))
  f271 := Tryz.func56.trans (congrArg some (by kernel_rfl))
  t0 := Tryz.underlying0
  a0 := Tryz.isAgg0
  z0 := Tryz.sizeOf0
  v0 := Tryz.zeroValue0
  t3 := Tryz.underlying3
  a3 := Tryz.isAgg3
  z3 := Tryz.sizeOf3
  v3 := Tryz.zeroValue3
  t4 := Tryz.underlying4
  a4 := Tryz.isAgg4
  z4 := Tryz.sizeOf4
  v4 := Tryz.zeroValue4
  t5 := Tryz.underlying5
  a5 := Tryz.isAgg5
  z5 := Tryz.sizeOf5
  v5 := Tryz.zeroValue5
  t9 := Tryz.underlying9
  a9 := Tryz.isAgg9
  z9 := Tryz.sizeOf9
  v9 := Tryz.zeroValue9
  t21 := Tryz.underlying21
  a21 := Tryz.isAgg21
  z21 := Tryz.sizeOf21
  v21 := Tryz.zeroValue21
  t46 := Tryz.underlying169
  a46 := Tryz.isAgg169
  z46 := Tryz.sizeOf169
  v46 := Tryz.zeroValue169
  t105 := Tryz.underlying67
  a105 := Tryz.isAgg67
  z105 := Tryz.sizeOf67
  v105 := Tryz.zeroValue67
  t116 := Tryz.underlying176
  a116 := Tryz.isAgg176
  z116 := Tryz.sizeOf176
  t117 := Tryz.underlying177
  a117 := Tryz.isAgg177
  z117 := Tryz.sizeOf177
  v117 := Tryz.zeroValue177
  t119 := Tryz.underlying195
  a119 := Tryz.isAgg195
  z119 := Tryz.sizeOf195
  t124 := Tryz.underlying180
  a124 := Tryz.isAgg180
  z124 := Tryz.sizeOf180
  v124 := Tryz.zeroValue180
  t138 := Tryz.underlying197
  a138 := Tryz.isAgg197
  z138 := Tryz.sizeOf197
  v138 := Tryz.zeroValue197
  t139 := Tryz.underlying198
  a139 := Tryz.isAgg198
  z139 := Tryz.sizeOf198
  v139 := Tryz.zeroValue198
  g3 := by kernel_rfl
  g4 := by kernel_rfl }
open Go.RowKit in
theorem Tryz.strings_Trim_laid (s cutset : ByteArray) (w : World) (hs : s.size ≤ 9223372036854775807) (hcs : cutset.size < 4294967281) (hascii : ∀ (j : Nat) b, cutset.data.toList[j]? = some b → b.toNat < 128) :
    Calls Tryz.prog 105 #[.string s, .string cutset] w fun e w' => e = .returned (.string ⟨(Lib.trimS s.data.toList cutset.data.toList).toArray⟩) ∧ Below w.heap.size w w' := Any.strings_Trim_laid Tryz.lays160 (by kernel_rfl) s cutset w hs hcs hascii
end Go.Proofs
/- props: a number of a file, to the base 16. -/
namespace Go.Proofs.YthhepebkfokddaaGreatDoor
open Go Go.RowKit Go.Kt Go.Kt.Rg

def PVar (w : World) : Prop := (∃ t p, w.cell? ⟨5, 0, none⟩ = some (.iface t p)) ∧ ∃ t p, w.cell? ⟨6, 0, none⟩ = some (.iface t p)
theorem PVar.below {A B : World} (h : PVar A) (hb : Below A.heap.size A B) : PVar B := by
  obtain ⟨⟨t, p, h1⟩, t2, p2, h2⟩ := h
  exact ⟨⟨t, p, (hb.cell (lt_of_cell h1)).trans h1⟩, t2, p2, (hb.cell (lt_of_cell h2)).trans h2⟩

set_option maxRecDepth 100000 in
set_option maxHeartbeats 2000000 in
theorem pu24_any (s : ByteArray) (w : World) (hs : s.size ≤ 140737488351232) (hV : PVar w) :
    Calls Tryz.prog 137 #[.string s, .int .i64 16, .int .i64 24] w fun e w' => PuOut 206 (fun _ => True) (puV 16777215 s.data.toList) e ∧ Below w.heap.size w w' := by
  have CI := Lib.hid (ipu24_any s w (by omega))
  have HV := Lib.hid hV
  obtain ⟨o, ho⟩ : ∃ o, puV 16777215 s.data.toList = o := ⟨_, rfl⟩
  rw [ho] at CI ⊢
  clear hV ho
  go_enter Tryz.func137, Tryz.ntmps137
  go_wp2_with fail
  refine CI.out.mono ?_
  rintro e w1 ⟨hp, hb⟩
  have HB := Lib.hid hb
  clear hb
  cases o with
  | some n =>
    obtain rfl := hp
    have HF := Lib.hid (PuOut.yes (T := 206) (K := fun _ => True) (o := some n) rfl)
    go_wp2
    go_ret2
    exact ⟨HF.out, HB.out⟩
  | none =>
    obtain ⟨z, k, rfl, hk⟩ := hp
    have HF := Lib.hid (fun v => PuOut.no (T := 206) (K := fun _ => True) (o := none) z (k := v) rfl trivial)
    obtain ⟨⟨t1, p1, v1⟩, t2, p2, v2⟩ := HV.out.below HB.out
    rcases hk with rfl | rfl
    · have CT := Lib.hid (fun fn => Tryz.strconv_toError_range fn s 16 24 _ w1 (by omega) v2 (.inr ⟨_, _, rfl⟩))
      clear v1 v2
      go_wp2_with fail
      refine (CT.out _).mono ?_
      rintro e w2 ⟨N, rfl, _, _, hb2⟩
      have HB2 := Lib.hid (HB.out.trans (hb2.mono HB.out.size))
      clear hb2
      go_wp2
      go_ret2
      exact ⟨HF.out _, HB2.out⟩
    · have CT := Lib.hid (fun fn => Tryz.strconv_toError_syntax fn s 16 24 _ w1 (by omega) v1 (.inr ⟨_, _, rfl⟩))
      clear v1 v2
      go_wp2_with fail
      refine (CT.out _).mono ?_
      rintro e w2 ⟨N, rfl, _, _, hb2⟩
      have HB2 := Lib.hid (HB.out.trans (hb2.mono HB.out.size))
      clear hb2
      go_wp2
      go_ret2
      exact ⟨HF.out _, HB2.out⟩

def numP (l : List UInt8) : Option Nat := if 4 ≤ l.length ∧ l.length ≤ 6 then puV 16777215 l else none
theorem puF_le {mx : Nat} : ∀ (l : List UInt8) (n m : Nat), n ≤ mx → puF mx n l = some m → m ≤ mx
  | [], n, m, hn, h => by rw [puF] at h; injection h with h; omega
  | c :: t, n, m, hn, h => by
    rw [puF] at h
    cases hd : digV c.toNat with
    | none => rw [hd] at h; cases h
    | some d =>
      rw [hd] at h
      simp only at h
      split at h
      · cases h
      · split at h
        · cases h
        · exact puF_le t _ m (by omega) h
theorem numP_le {l : List UInt8} {n : Nat} (h : numP l = some n) : n ≤ 16777215 := by
  unfold numP at h
  split at h
  · unfold puV at h
    split at h
    · cases h
    · exact puF_le _ 0 n (by omega) h
  · cases h

def NumOut (o : Option Nat) (e : Ending) : Prop := match o with
  | some n => e = .returned (.tuple #[.int .i32 (n : Nat), .bool true])
  | none => ∃ z : Int, e = .returned (.tuple #[.int .i32 z, .bool false])

set_option maxRecDepth 100000 in
set_option maxHeartbeats 2000000 in
theorem pnumber (s : ByteArray) (w : World) (hs : s.size ≤ 140737488351232) (hV : PVar w) :
    Calls Tryz.prog 107 #[.string s] w fun e w' => NumOut (numP s.data.toList) e ∧ Below w.heap.size w w' := by
  have C := Lib.hid (pu24_any s w hs hV)
  have hln : s.data.toList.length = s.size := (Lib.size_eq s).symm
  obtain ⟨o, ho⟩ : ∃ o, puV 16777215 s.data.toList = o := ⟨_, rfl⟩
  rw [ho] at C
  by_cases hb : 4 ≤ s.size ∧ s.size ≤ 6
  · have e : numP s.data.toList = o := by unfold numP; rw [if_pos (by omega), ho]
    have hn : ∀ n, o = some n → n ≤ 16777215 := fun n h => numP_le (e.trans h)
    rw [e]
    obtain ⟨b1, b2⟩ := hb
    have b1z : (4 : Int) ≤ (s.size : Int) := by omega
    have b2z : (s.size : Int) ≤ 6 := by omega
    clear hV e ho hln
    go_enter Tryz.func107, Tryz.ntmps107
    go_wp2_with fail
    refine C.out.mono ?_
    rintro e w1 ⟨hp, hb⟩
    have HB := Lib.hid hb
    clear hb
    cases o with
    | some n =>
      obtain rfl := hp
      have hn' := hn n rfl
      go_wp2
      go_ret2
      exact ⟨rfl, HB.out⟩
    | none =>
      obtain ⟨z, k, rfl, hk⟩ := hp
      go_wp2
      go_ret2
      exact ⟨⟨_, rfl⟩, HB.out⟩
  · have e : numP s.data.toList = none := by unfold numP; rw [if_neg (by omega)]
    rw [e]
    clear hV e ho hln
    by_cases b1 : 4 ≤ s.size
    · have b1z : (4 : Int) ≤ (s.size : Int) := by omega
      have b2z : decide ((s.size : Int) ≤ 6) = false := decide_eq_false (by omega)
      have b3z : (6 : Int) < (s.size : Int) := by omega
      go_enter Tryz.func107, Tryz.ntmps107
      go_wp2_with fail
      refine C.out.mono ?_
      rintro e w1 ⟨hp, hb⟩
      have HB := Lib.hid hb
      clear hb
      cases o with
      | some n =>
        obtain rfl := hp
        go_wp2
        go_ret2
        exact ⟨⟨_, rfl⟩, HB.out⟩
      | none =>
        obtain ⟨z, k, rfl, hk⟩ := hp
        go_wp2
        go_ret2
        exact ⟨⟨_, rfl⟩, HB.out⟩
    · have b1z : decide ((4 : Int) ≤ (s.size : Int)) = false := decide_eq_false (by omega)
      have b3z : (s.size : Int) < 4 := by omega
      go_enter Tryz.func107, Tryz.ntmps107
      go_wp2_with fail
      refine C.out.mono ?_
      rintro e w1 ⟨hp, hb⟩
      have HB := Lib.hid hb
      clear hb
      cases o with
      | some n =>
        obtain rfl := hp
        go_wp2
        go_ret2
        exact ⟨⟨_, rfl⟩, HB.out⟩
      | none =>
        obtain ⟨z, k, rfl, hk⟩ := hp
        go_wp2
        go_ret2
        exact ⟨⟨_, rfl⟩, HB.out⟩
end Go.Proofs.YthhepebkfokddaaGreatDoor
/- props: a class, a kind. -/
namespace Go.Proofs.YthhepebkfokddaaGreatDoor
open Go Go.RowKit Go.Kt Go.Kt.Rg

abbrev digs : List UInt8 := [48, 49, 50, 51, 52, 53, 54, 55, 56, 57]
def clsP (l : List UInt8) : Nat × Int :=
  if Lib.trimS l digs ≠ [] ∨ (l ≠ [48] ∧ l.head? = some 48) then (11, 0) else
    match Lib.atoiAll l with
    | .ok v => if 254 < v then (1, 0) else (0, v)
    | _ => (1, 0)

set_option maxRecDepth 100000 in
set_option maxHeartbeats 2000000 in
theorem pclass (s : ByteArray) (w : World) (hs : s.size ≤ 140737488351232) (hne : s.data.toList ≠ []) (hV : PVar w) :
    Calls Tryz.prog 73 #[.string s] w fun e w' => e = .returned (.tuple #[.int .i64 (clsP s.data.toList).2, .int .i64 (clsP s.data.toList).1]) ∧ Below w.heap.size w w' := by
  have CT := Lib.hid (Tryz.strings_Trim_laid s ⟨#[48, 49, 50, 51, 52, 53, 54, 55, 56, 57]⟩ w (by omega) (by decide) (ascii_of_all (by decide)))
  obtain ⟨l, hl⟩ : ∃ l, s.data.toList = l := ⟨_, rfl⟩
  have hln : l.length = s.size := by rw [← hl]; exact (Lib.size_eq s).symm
  have hl2 : s.toList = l := by rw [ByteArray.toList_eq]; exact hl
  rw [hl] at CT hne ⊢
  have hsz0 : 0 < s.size := by
    rcases Nat.eq_zero_or_pos s.size with h | h
    · exact absurd (List.eq_nil_of_length_eq_zero (by omega)) hne
    · exact h
  have hh0 : l.head? = some (s[0]'hsz0) := by
    rw [← hl]
    cases hd : s.data.toList with
    | nil => rw [hl] at hd; exact absurd hd hne
    | cons c r =>
      have : s[0]'hsz0 = (s.data.toList)[0]'(by rw [hd]; simp) := by simp [ByteArray.getElem_eq_getElem_data]
      rw [this]
      simp [hd]
  obtain ⟨T, hT⟩ : ∃ T, Lib.trimS l digs = T := ⟨_, rfl⟩
  replace CT : Hid (Calls Tryz.prog 105 #[.string s, .string ⟨#[48, 49, 50, 51, 52, 53, 54, 55, 56, 57]⟩] w fun e w' => e = .returned (.string ⟨T.toArray⟩) ∧ Below w.heap.size w w') := by rw [← hT]; exact CT
  have HV := Lib.hid hV
  clear hV
  by_cases hT0 : T = []
  · have e0 : T.isEmpty = true := by rw [hT0]; rfl
    by_cases h48 : l = [48]
    · have b48 : (s.toList == [48]) = true := by rw [hl2, h48]; rfl
      have p48 : s.toList = [48] := by rw [hl2, h48]
      have HC : Hid (¬ (Lib.trimS l digs ≠ [] ∨ (l ≠ [48] ∧ l.head? = some 48))) := Lib.hid (fun h => by
        rcases h with h | h
        · exact h (hT.trans hT0)
        · exact h.1 h48)
      clear hh0 hT h48 hne hl2
      cases ha : Lib.atoiAll l with
      | ok v =>
        have C := Lib.hid (fun W => Tryz.strconv_Atoi_ok s (by omega) v (by rw [hl]; exact ha) W)
        have HX : Hid (clsP l = if 254 < v then (1, 0) else (0, v)) := Lib.hid (by unfold clsP; rw [if_neg HC.out, ha])
        clear ha
        by_cases hv : 254 < v
        · have HX2 := Lib.hid (HX.out.trans (if_pos hv))
          go_enter Tryz.func73, Tryz.ntmps73
          go_wp2_with fail
          refine CT.out.mono ?_
          rintro e w1 ⟨rfl, hb⟩
          have HB := Lib.hid hb
          clear hb CT
          go_wp2_with (go_at_call 106; refine (C.out _).mono ?_; rintro e w2 ⟨rfl, hb2⟩)
          go_ret2
          rw [HX2.out]
          refine ⟨rfl, ?_⟩
          rcases hb2 with rfl | ⟨t, rfl⟩
          · exact HB.out
          · exact HB.out.trans ((Lib.bytesWorld_below _ _ _).mono HB.out.size)
        · have hv2 : v ≤ 254 := by omega
          have HX2 := Lib.hid (HX.out.trans (if_neg hv))
          go_enter Tryz.func73, Tryz.ntmps73
          go_wp2_with fail
          refine CT.out.mono ?_
          rintro e w1 ⟨rfl, hb⟩
          have HB := Lib.hid hb
          clear hb CT
          go_wp2_with (go_at_call 106; refine (C.out _).mono ?_; rintro e w2 ⟨rfl, hb2⟩)
          go_ret2
          rw [HX2.out]
          refine ⟨rfl, ?_⟩
          rcases hb2 with rfl | ⟨t, rfl⟩
          · exact HB.out
          · exact HB.out.trans ((Lib.bytesWorld_below _ _ _).mono HB.out.size)
      | range =>
        have C := Lib.hid (fun W ev h1 h2 => Tryz.strconv_Atoi_range s (by omega) (by rw [hl]; exact ha) ev W h1 h2)
        have HX : Hid (clsP l = (1, 0)) := Lib.hid (by unfold clsP; rw [if_neg HC.out, ha])
        clear ha
        go_enter Tryz.func73, Tryz.ntmps73
        go_wp2_with fail
        refine CT.out.mono ?_
        rintro e w1 ⟨rfl, hb⟩
        have HB := Lib.hid hb
        clear hb CT
        obtain ⟨⟨t1, p1, v1⟩, t2, p2, v2⟩ := HV.out.below HB.out
        have C2 := Lib.hid (C.out w1 _ v2 (.inr ⟨_, _, rfl⟩))
        clear v1 v2 C
        go_wp2_with (go_at_call 106; refine C2.out.mono ?_; rintro e w2 ⟨N, rfl, _, _, hb2⟩)
        go_ret2
        rw [HX.out]
        exact ⟨rfl, HB.out.trans (hb2.mono HB.out.size)⟩
      | _ =>
        have C := Lib.hid (fun W ev h1 h2 => Tryz.strconv_Atoi_syntax s (by omega) (by rw [hl]; exact ha) ev W h1 h2)
        have HX : Hid (clsP l = (1, 0)) := Lib.hid (by unfold clsP; rw [if_neg HC.out, ha])
        clear ha
        go_enter Tryz.func73, Tryz.ntmps73
        go_wp2_with fail
        refine CT.out.mono ?_
        rintro e w1 ⟨rfl, hb⟩
        have HB := Lib.hid hb
        clear hb CT
        obtain ⟨⟨t1, p1, v1⟩, t2, p2, v2⟩ := HV.out.below HB.out
        have C2 := Lib.hid (C.out w1 _ v1 (.inr ⟨_, _, rfl⟩))
        clear v1 v2 C
        go_wp2_with (go_at_call 106; refine C2.out.mono ?_; rintro e w2 ⟨N, rfl, _, _, hb2⟩)
        go_ret2
        rw [HX.out]
        exact ⟨rfl, HB.out.trans (hb2.mono HB.out.size)⟩
    · have b48 : (s.toList == [48]) = false := by rw [hl2]; exact beq_eq_false_iff_ne.2 h48
      have p48 : ¬ s.toList = [48] := by rw [hl2]; exact h48
      by_cases hz : (s[0]'hsz0) = 48
      · have z48 : (((s[0]'hsz0).toNat : Int) == 48) = true := by rw [hz]; rfl
        have HX : Hid (clsP l = (11, 0)) := Lib.hid (by unfold clsP; rw [if_pos (.inr ⟨h48, by rw [hh0, hz]⟩)])
        clear hh0 hT h48 hne hl2 hz
        go_enter Tryz.func73, Tryz.ntmps73
        go_wp2_with fail
        refine CT.out.mono ?_
        rintro e w1 ⟨rfl, hb⟩
        have HB := Lib.hid hb
        clear hb CT
        go_wp2
        go_ret2
        rw [HX.out]
        exact ⟨rfl, HB.out⟩
      · have z48 : (((s[0]'hsz0).toNat : Int) == 48) = false := beq_eq_false_iff_ne.2 (fun e => hz (UInt8.toNat_inj.1 (by show _ = 48; omega)))
        have HC : Hid (¬ (Lib.trimS l digs ≠ [] ∨ (l ≠ [48] ∧ l.head? = some 48))) := Lib.hid (fun h => by
          rcases h with h | h
          · exact h (hT.trans hT0)
          · rw [hh0] at h; exact hz (Option.some.inj h.2))
        clear hh0 hT h48 hne hl2 hz
        cases ha : Lib.atoiAll l with
        | ok v =>
          have C := Lib.hid (fun W => Tryz.strconv_Atoi_ok s (by omega) v (by rw [hl]; exact ha) W)
          have HX : Hid (clsP l = if 254 < v then (1, 0) else (0, v)) := Lib.hid (by unfold clsP; rw [if_neg HC.out, ha])
          clear ha
          by_cases hv : 254 < v
          · have HX2 := Lib.hid (HX.out.trans (if_pos hv))
            go_enter Tryz.func73, Tryz.ntmps73
            go_wp2_with fail
            refine CT.out.mono ?_
            rintro e w1 ⟨rfl, hb⟩
            have HB := Lib.hid hb
            clear hb CT
            go_wp2_with (go_at_call 106; refine (C.out _).mono ?_; rintro e w2 ⟨rfl, hb2⟩)
            go_ret2
            rw [HX2.out]
            refine ⟨rfl, ?_⟩
            rcases hb2 with rfl | ⟨t, rfl⟩
            · exact HB.out
            · exact HB.out.trans ((Lib.bytesWorld_below _ _ _).mono HB.out.size)
          · have hv2 : v ≤ 254 := by omega
            have HX2 := Lib.hid (HX.out.trans (if_neg hv))
            go_enter Tryz.func73, Tryz.ntmps73
            go_wp2_with fail
            refine CT.out.mono ?_
            rintro e w1 ⟨rfl, hb⟩
            have HB := Lib.hid hb
            clear hb CT
            go_wp2_with (go_at_call 106; refine (C.out _).mono ?_; rintro e w2 ⟨rfl, hb2⟩)
            go_ret2
            rw [HX2.out]
            refine ⟨rfl, ?_⟩
            rcases hb2 with rfl | ⟨t, rfl⟩
            · exact HB.out
            · exact HB.out.trans ((Lib.bytesWorld_below _ _ _).mono HB.out.size)
        | range =>
          have C := Lib.hid (fun W ev h1 h2 => Tryz.strconv_Atoi_range s (by omega) (by rw [hl]; exact ha) ev W h1 h2)
          have HX : Hid (clsP l = (1, 0)) := Lib.hid (by unfold clsP; rw [if_neg HC.out, ha])
          clear ha
          go_enter Tryz.func73, Tryz.ntmps73
          go_wp2_with fail
          refine CT.out.mono ?_
          rintro e w1 ⟨rfl, hb⟩
          have HB := Lib.hid hb
          clear hb CT
          obtain ⟨⟨t1, p1, v1⟩, t2, p2, v2⟩ := HV.out.below HB.out
          have C2 := Lib.hid (C.out w1 _ v2 (.inr ⟨_, _, rfl⟩))
          clear v1 v2 C
          go_wp2_with (go_at_call 106; refine C2.out.mono ?_; rintro e w2 ⟨N, rfl, _, _, hb2⟩)
          go_ret2
          rw [HX.out]
          exact ⟨rfl, HB.out.trans (hb2.mono HB.out.size)⟩
        | _ =>
          have C := Lib.hid (fun W ev h1 h2 => Tryz.strconv_Atoi_syntax s (by omega) (by rw [hl]; exact ha) ev W h1 h2)
          have HX : Hid (clsP l = (1, 0)) := Lib.hid (by unfold clsP; rw [if_neg HC.out, ha])
          clear ha
          go_enter Tryz.func73, Tryz.ntmps73
          go_wp2_with fail
          refine CT.out.mono ?_
          rintro e w1 ⟨rfl, hb⟩
          have HB := Lib.hid hb
          clear hb CT
          obtain ⟨⟨t1, p1, v1⟩, t2, p2, v2⟩ := HV.out.below HB.out
          have C2 := Lib.hid (C.out w1 _ v1 (.inr ⟨_, _, rfl⟩))
          clear v1 v2 C
          go_wp2_with (go_at_call 106; refine C2.out.mono ?_; rintro e w2 ⟨N, rfl, _, _, hb2⟩)
          go_ret2
          rw [HX.out]
          exact ⟨rfl, HB.out.trans (hb2.mono HB.out.size)⟩
  · have e0 : T.isEmpty = false := by
      cases T with
      | nil => exact absurd rfl hT0
      | cons => rfl
    have HX : Hid (clsP l = (11, 0)) := Lib.hid (by unfold clsP; rw [if_pos (.inl (by rw [hT]; exact hT0))])
    clear hh0 hT hne hl2
    go_enter Tryz.func73, Tryz.ntmps73
    go_wp2_with fail
    refine CT.out.mono ?_
    rintro e w1 ⟨rfl, hb⟩
    have HB := Lib.hid hb
    clear hb CT
    go_wp2
    go_ret2
    rw [HX.out]
    exact ⟨rfl, HB.out⟩

abbrev kdN : List (List UInt8) := [[111, 116, 104, 101, 114], [108, 101, 116, 116, 101, 114], [100, 105, 103, 105, 116], [109, 97, 114, 107], [115, 112, 97, 99, 101], [99, 111, 110, 116, 114, 111, 108], [106, 111, 105, 110, 101, 114], [109, 105, 100, 100, 108, 101]]
def kndP (l : List UInt8) : Nat × Nat := match kdN.findIdx? (fun x => x == l) with
  | some k => (0, k)
  | none => (12, 0)
def KTab (w : World) : Prop := ∀ k (hk : k < 8), w.cell? ⟨2, k, none⟩ = some (.string ⟨(kdN[k]'hk).toArray⟩)
theorem KTab.below {A B : World} (h : KTab A) (hb : Below A.heap.size A B) : KTab B := fun k hk => (hb.cell (lt_of_cell (h k hk))).trans (h k hk)

set_option maxRecDepth 100000 in
set_option maxHeartbeats 2000000 in
theorem pkind (s : ByteArray) (w : World) (hK : KTab w) :
    Calls Tryz.prog 74 #[.string s] w fun e w' => e = .returned (.tuple #[.int .i64 (kndP s.data.toList).2, .int .i64 (kndP s.data.toList).1]) ∧ w' = w := by
  have hl2 : s.toList = s.data.toList := ByteArray.toList_eq s
  obtain ⟨l, hl⟩ : ∃ l, s.data.toList = l := ⟨_, rfl⟩
  rw [hl] at hl2 ⊢
  have c0 : w.cell? ⟨2, 0, none⟩ = some (.string ⟨#[111, 116, 104, 101, 114]⟩) := hK 0 (by decide)
  have c1 : w.cell? ⟨2, 1, none⟩ = some (.string ⟨#[108, 101, 116, 116, 101, 114]⟩) := hK 1 (by decide)
  have c2 : w.cell? ⟨2, 2, none⟩ = some (.string ⟨#[100, 105, 103, 105, 116]⟩) := hK 2 (by decide)
  have c3 : w.cell? ⟨2, 3, none⟩ = some (.string ⟨#[109, 97, 114, 107]⟩) := hK 3 (by decide)
  have c4 : w.cell? ⟨2, 4, none⟩ = some (.string ⟨#[115, 112, 97, 99, 101]⟩) := hK 4 (by decide)
  have c5 : w.cell? ⟨2, 5, none⟩ = some (.string ⟨#[99, 111, 110, 116, 114, 111, 108]⟩) := hK 5 (by decide)
  have c6 : w.cell? ⟨2, 6, none⟩ = some (.string ⟨#[106, 111, 105, 110, 101, 114]⟩) := hK 6 (by decide)
  have c7 : w.cell? ⟨2, 7, none⟩ = some (.string ⟨#[109, 105, 100, 100, 108, 101]⟩) := hK 7 (by decide)
  have x0 : ∀ W, (Instr.index 152 (.agg #[.string ⟨#[111, 116, 104, 101, 114]⟩, .string ⟨#[108, 101, 116, 116, 101, 114]⟩, .string ⟨#[100, 105, 103, 105, 116]⟩, .string ⟨#[109, 97, 114, 107]⟩, .string ⟨#[115, 112, 97, 99, 101]⟩, .string ⟨#[99, 111, 110, 116, 114, 111, 108]⟩, .string ⟨#[106, 111, 105, 110, 101, 114]⟩, .string ⟨#[109, 105, 100, 100, 108, 101]⟩]) (.int .i64 0)).run Tryz.prog W = .ok (.string ⟨#[111, 116, 104, 101, 114]⟩) W := fun W => by kernel_rfl
  have x1 : ∀ W, (Instr.index 152 (.agg #[.string ⟨#[111, 116, 104, 101, 114]⟩, .string ⟨#[108, 101, 116, 116, 101, 114]⟩, .string ⟨#[100, 105, 103, 105, 116]⟩, .string ⟨#[109, 97, 114, 107]⟩, .string ⟨#[115, 112, 97, 99, 101]⟩, .string ⟨#[99, 111, 110, 116, 114, 111, 108]⟩, .string ⟨#[106, 111, 105, 110, 101, 114]⟩, .string ⟨#[109, 105, 100, 100, 108, 101]⟩]) (.int .i64 1)).run Tryz.prog W = .ok (.string ⟨#[108, 101, 116, 116, 101, 114]⟩) W := fun W => by kernel_rfl
  have x2 : ∀ W, (Instr.index 152 (.agg #[.string ⟨#[111, 116, 104, 101, 114]⟩, .string ⟨#[108, 101, 116, 116, 101, 114]⟩, .string ⟨#[100, 105, 103, 105, 116]⟩, .string ⟨#[109, 97, 114, 107]⟩, .string ⟨#[115, 112, 97, 99, 101]⟩, .string ⟨#[99, 111, 110, 116, 114, 111, 108]⟩, .string ⟨#[106, 111, 105, 110, 101, 114]⟩, .string ⟨#[109, 105, 100, 100, 108, 101]⟩]) (.int .i64 2)).run Tryz.prog W = .ok (.string ⟨#[100, 105, 103, 105, 116]⟩) W := fun W => by kernel_rfl
  have x3 : ∀ W, (Instr.index 152 (.agg #[.string ⟨#[111, 116, 104, 101, 114]⟩, .string ⟨#[108, 101, 116, 116, 101, 114]⟩, .string ⟨#[100, 105, 103, 105, 116]⟩, .string ⟨#[109, 97, 114, 107]⟩, .string ⟨#[115, 112, 97, 99, 101]⟩, .string ⟨#[99, 111, 110, 116, 114, 111, 108]⟩, .string ⟨#[106, 111, 105, 110, 101, 114]⟩, .string ⟨#[109, 105, 100, 100, 108, 101]⟩]) (.int .i64 3)).run Tryz.prog W = .ok (.string ⟨#[109, 97, 114, 107]⟩) W := fun W => by kernel_rfl
  have x4 : ∀ W, (Instr.index 152 (.agg #[.string ⟨#[111, 116, 104, 101, 114]⟩, .string ⟨#[108, 101, 116, 116, 101, 114]⟩, .string ⟨#[100, 105, 103, 105, 116]⟩, .string ⟨#[109, 97, 114, 107]⟩, .string ⟨#[115, 112, 97, 99, 101]⟩, .string ⟨#[99, 111, 110, 116, 114, 111, 108]⟩, .string ⟨#[106, 111, 105, 110, 101, 114]⟩, .string ⟨#[109, 105, 100, 100, 108, 101]⟩]) (.int .i64 4)).run Tryz.prog W = .ok (.string ⟨#[115, 112, 97, 99, 101]⟩) W := fun W => by kernel_rfl
  have x5 : ∀ W, (Instr.index 152 (.agg #[.string ⟨#[111, 116, 104, 101, 114]⟩, .string ⟨#[108, 101, 116, 116, 101, 114]⟩, .string ⟨#[100, 105, 103, 105, 116]⟩, .string ⟨#[109, 97, 114, 107]⟩, .string ⟨#[115, 112, 97, 99, 101]⟩, .string ⟨#[99, 111, 110, 116, 114, 111, 108]⟩, .string ⟨#[106, 111, 105, 110, 101, 114]⟩, .string ⟨#[109, 105, 100, 100, 108, 101]⟩]) (.int .i64 5)).run Tryz.prog W = .ok (.string ⟨#[99, 111, 110, 116, 114, 111, 108]⟩) W := fun W => by kernel_rfl
  have x6 : ∀ W, (Instr.index 152 (.agg #[.string ⟨#[111, 116, 104, 101, 114]⟩, .string ⟨#[108, 101, 116, 116, 101, 114]⟩, .string ⟨#[100, 105, 103, 105, 116]⟩, .string ⟨#[109, 97, 114, 107]⟩, .string ⟨#[115, 112, 97, 99, 101]⟩, .string ⟨#[99, 111, 110, 116, 114, 111, 108]⟩, .string ⟨#[106, 111, 105, 110, 101, 114]⟩, .string ⟨#[109, 105, 100, 100, 108, 101]⟩]) (.int .i64 6)).run Tryz.prog W = .ok (.string ⟨#[106, 111, 105, 110, 101, 114]⟩) W := fun W => by kernel_rfl
  have x7 : ∀ W, (Instr.index 152 (.agg #[.string ⟨#[111, 116, 104, 101, 114]⟩, .string ⟨#[108, 101, 116, 116, 101, 114]⟩, .string ⟨#[100, 105, 103, 105, 116]⟩, .string ⟨#[109, 97, 114, 107]⟩, .string ⟨#[115, 112, 97, 99, 101]⟩, .string ⟨#[99, 111, 110, 116, 114, 111, 108]⟩, .string ⟨#[106, 111, 105, 110, 101, 114]⟩, .string ⟨#[109, 105, 100, 100, 108, 101]⟩]) (.int .i64 7)).run Tryz.prog W = .ok (.string ⟨#[109, 105, 100, 100, 108, 101]⟩) W := fun W => by kernel_rfl
  clear hK hl
  go_enter Tryz.func74, Tryz.ntmps74
  go_wp2
  go_loopw [7] (fun vi wr => ∃ i : Nat, vi = .int .i64 i ∧ i ≤ 8 ∧ Hid (∀ k (hk : k < 8), k < i → kdN[k]'hk ≠ l) ∧ wr = w) (fun vi _ => 8 - (RowKit.intOf vi).toNat)
  case atStart => exact ⟨0, rfl, by omega, Lib.hid (fun k _ h => absurd h (by omega)), rfl⟩
  case round =>
    obtain ⟨i, hv, hi, hh, rfl⟩ := hrel
    rcases (by omega : i = 0 ∨ i = 1 ∨ i = 2 ∨ i = 3 ∨ i = 4 ∨ i = 5 ∨ i = 6 ∨ i = 7 ∨ i = 8) with rfl | rfl | rfl | rfl | rfl | rfl | rfl | rfl | rfl
    · replace hv := hv.trans (show Value.int .i64 ((0 : Nat) : Int) = .int .i64 0 from rfl)
      subst hv
      by_cases hk : l = [111, 116, 104, 101, 114]
      · have HX : Hid (kndP l = (0, 0)) := Lib.hid (by rw [hk]; rfl)
        have b1 : ([111, 116, 104, 101, 114] == l) = true := by rw [hk]; rfl
        clear hk
        go_wp2
        go_ret2
        rw [HX.out]
        exact ⟨rfl, rfl⟩
      · have HQ : Hid (∀ k (hk : k < 8), k < 1 → kdN[k]'hk ≠ l) := Lib.hid (fun j h1 h2 => by
          rcases Nat.lt_or_ge j 0 with h3 | h3
          · exact hh.out j h1 h3
          · have e : j = 0 := by omega
            subst e
            exact fun e => hk e.symm)
        have b1 : ([111, 116, 104, 101, 114] == l) = false := beq_eq_false_iff_ne.2 (fun e => hk e.symm)
        clear hh hk
        go_wp2
        go_roundw
        case rel => exact ⟨1, rfl, by omega, HQ, by trivial⟩
        case measure => simp [RowKit.intOf]
    · replace hv := hv.trans (show Value.int .i64 ((1 : Nat) : Int) = .int .i64 1 from rfl)
      subst hv
      by_cases hk : l = [108, 101, 116, 116, 101, 114]
      · have HX : Hid (kndP l = (0, 1)) := Lib.hid (by rw [hk]; rfl)
        have b1 : ([108, 101, 116, 116, 101, 114] == l) = true := by rw [hk]; rfl
        clear hk
        go_wp2
        go_ret2
        rw [HX.out]
        exact ⟨rfl, rfl⟩
      · have HQ : Hid (∀ k (hk : k < 8), k < 2 → kdN[k]'hk ≠ l) := Lib.hid (fun j h1 h2 => by
          rcases Nat.lt_or_ge j 1 with h3 | h3
          · exact hh.out j h1 h3
          · have e : j = 1 := by omega
            subst e
            exact fun e => hk e.symm)
        have b1 : ([108, 101, 116, 116, 101, 114] == l) = false := beq_eq_false_iff_ne.2 (fun e => hk e.symm)
        clear hh hk
        go_wp2
        go_roundw
        case rel => exact ⟨2, rfl, by omega, HQ, by trivial⟩
        case measure => simp [RowKit.intOf]
    · replace hv := hv.trans (show Value.int .i64 ((2 : Nat) : Int) = .int .i64 2 from rfl)
      subst hv
      by_cases hk : l = [100, 105, 103, 105, 116]
      · have HX : Hid (kndP l = (0, 2)) := Lib.hid (by rw [hk]; rfl)
        have b1 : ([100, 105, 103, 105, 116] == l) = true := by rw [hk]; rfl
        clear hk
        go_wp2
        go_ret2
        rw [HX.out]
        exact ⟨rfl, rfl⟩
      · have HQ : Hid (∀ k (hk : k < 8), k < 3 → kdN[k]'hk ≠ l) := Lib.hid (fun j h1 h2 => by
          rcases Nat.lt_or_ge j 2 with h3 | h3
          · exact hh.out j h1 h3
          · have e : j = 2 := by omega
            subst e
            exact fun e => hk e.symm)
        have b1 : ([100, 105, 103, 105, 116] == l) = false := beq_eq_false_iff_ne.2 (fun e => hk e.symm)
        clear hh hk
        go_wp2
        go_roundw
        case rel => exact ⟨3, rfl, by omega, HQ, by trivial⟩
        case measure => simp [RowKit.intOf]
    · replace hv := hv.trans (show Value.int .i64 ((3 : Nat) : Int) = .int .i64 3 from rfl)
      subst hv
      by_cases hk : l = [109, 97, 114, 107]
      · have HX : Hid (kndP l = (0, 3)) := Lib.hid (by rw [hk]; rfl)
        have b1 : ([109, 97, 114, 107] == l) = true := by rw [hk]; rfl
        clear hk
        go_wp2
        go_ret2
        rw [HX.out]
        exact ⟨rfl, rfl⟩
      · have HQ : Hid (∀ k (hk : k < 8), k < 4 → kdN[k]'hk ≠ l) := Lib.hid (fun j h1 h2 => by
          rcases Nat.lt_or_ge j 3 with h3 | h3
          · exact hh.out j h1 h3
          · have e : j = 3 := by omega
            subst e
            exact fun e => hk e.symm)
        have b1 : ([109, 97, 114, 107] == l) = false := beq_eq_false_iff_ne.2 (fun e => hk e.symm)
        clear hh hk
        go_wp2
        go_roundw
        case rel => exact ⟨4, rfl, by omega, HQ, by trivial⟩
        case measure => simp [RowKit.intOf]
    · replace hv := hv.trans (show Value.int .i64 ((4 : Nat) : Int) = .int .i64 4 from rfl)
      subst hv
      by_cases hk : l = [115, 112, 97, 99, 101]
      · have HX : Hid (kndP l = (0, 4)) := Lib.hid (by rw [hk]; rfl)
        have b1 : ([115, 112, 97, 99, 101] == l) = true := by rw [hk]; rfl
        clear hk
        go_wp2
        go_ret2
        rw [HX.out]
        exact ⟨rfl, rfl⟩
      · have HQ : Hid (∀ k (hk : k < 8), k < 5 → kdN[k]'hk ≠ l) := Lib.hid (fun j h1 h2 => by
          rcases Nat.lt_or_ge j 4 with h3 | h3
          · exact hh.out j h1 h3
          · have e : j = 4 := by omega
            subst e
            exact fun e => hk e.symm)
        have b1 : ([115, 112, 97, 99, 101] == l) = false := beq_eq_false_iff_ne.2 (fun e => hk e.symm)
        clear hh hk
        go_wp2
        go_roundw
        case rel => exact ⟨5, rfl, by omega, HQ, by trivial⟩
        case measure => simp [RowKit.intOf]
    · replace hv := hv.trans (show Value.int .i64 ((5 : Nat) : Int) = .int .i64 5 from rfl)
      subst hv
      by_cases hk : l = [99, 111, 110, 116, 114, 111, 108]
      · have HX : Hid (kndP l = (0, 5)) := Lib.hid (by rw [hk]; rfl)
        have b1 : ([99, 111, 110, 116, 114, 111, 108] == l) = true := by rw [hk]; rfl
        clear hk
        go_wp2
        go_ret2
        rw [HX.out]
        exact ⟨rfl, rfl⟩
      · have HQ : Hid (∀ k (hk : k < 8), k < 6 → kdN[k]'hk ≠ l) := Lib.hid (fun j h1 h2 => by
          rcases Nat.lt_or_ge j 5 with h3 | h3
          · exact hh.out j h1 h3
          · have e : j = 5 := by omega
            subst e
            exact fun e => hk e.symm)
        have b1 : ([99, 111, 110, 116, 114, 111, 108] == l) = false := beq_eq_false_iff_ne.2 (fun e => hk e.symm)
        clear hh hk
        go_wp2
        go_roundw
        case rel => exact ⟨6, rfl, by omega, HQ, by trivial⟩
        case measure => simp [RowKit.intOf]
    · replace hv := hv.trans (show Value.int .i64 ((6 : Nat) : Int) = .int .i64 6 from rfl)
      subst hv
      by_cases hk : l = [106, 111, 105, 110, 101, 114]
      · have HX : Hid (kndP l = (0, 6)) := Lib.hid (by rw [hk]; rfl)
        have b1 : ([106, 111, 105, 110, 101, 114] == l) = true := by rw [hk]; rfl
        clear hk
        go_wp2
        go_ret2
        rw [HX.out]
        exact ⟨rfl, rfl⟩
      · have HQ : Hid (∀ k (hk : k < 8), k < 7 → kdN[k]'hk ≠ l) := Lib.hid (fun j h1 h2 => by
          rcases Nat.lt_or_ge j 6 with h3 | h3
          · exact hh.out j h1 h3
          · have e : j = 6 := by omega
            subst e
            exact fun e => hk e.symm)
        have b1 : ([106, 111, 105, 110, 101, 114] == l) = false := beq_eq_false_iff_ne.2 (fun e => hk e.symm)
        clear hh hk
        go_wp2
        go_roundw
        case rel => exact ⟨7, rfl, by omega, HQ, by trivial⟩
        case measure => simp [RowKit.intOf]
    · replace hv := hv.trans (show Value.int .i64 ((7 : Nat) : Int) = .int .i64 7 from rfl)
      subst hv
      by_cases hk : l = [109, 105, 100, 100, 108, 101]
      · have HX : Hid (kndP l = (0, 7)) := Lib.hid (by rw [hk]; rfl)
        have b1 : ([109, 105, 100, 100, 108, 101] == l) = true := by rw [hk]; rfl
        clear hk
        go_wp2
        go_ret2
        rw [HX.out]
        exact ⟨rfl, rfl⟩
      · have HQ : Hid (∀ k (hk : k < 8), k < 8 → kdN[k]'hk ≠ l) := Lib.hid (fun j h1 h2 => by
          rcases Nat.lt_or_ge j 7 with h3 | h3
          · exact hh.out j h1 h3
          · have e : j = 7 := by omega
            subst e
            exact fun e => hk e.symm)
        have b1 : ([109, 105, 100, 100, 108, 101] == l) = false := beq_eq_false_iff_ne.2 (fun e => hk e.symm)
        clear hh hk
        go_wp2
        go_roundw
        case rel => exact ⟨8, rfl, by omega, HQ, by trivial⟩
        case measure => simp [RowKit.intOf]
    · replace hv := hv.trans (show Value.int .i64 ((8 : Nat) : Int) = .int .i64 8 from rfl)
      subst hv
      have HX : Hid (kndP l = (12, 0)) := Lib.hid (by
        unfold kndP
        rw [List.findIdx?_eq_none_iff.2 (fun x hx => ?_)]
        obtain ⟨k, hk, rfl⟩ := List.getElem_of_mem hx
        exact beq_eq_false_iff_ne.2 (hh.out k hk hk))
      go_wp2
      go_ret2
      rw [HX.out]
      exact ⟨rfl, rfl⟩
end Go.Proofs.YthhepebkfokddaaGreatDoor

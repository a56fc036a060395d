/- Parts of the proof of what the last text says. -/
import Derived.Shelf.Small.Utf8
import Derived.Shelf.Small.Bits
import Derived.Shelf.Small.Strs
import Derived.Shelf.Strconv.Itoa0
import Derived.Shelf.LaysM
import Derived.Shelf.Strconv.Clone
import Derived.Shelf.LaysC
import Derived.Shelf.Strconv.AtoiAll
import Derived.Shelf.Strings.Cut
import Derived.Shelf.Strings.Count
import Derived.Shelf.Strings.Prefix
import Derived.Shelf.Strings.FieldsFuncAny
import Derived.Shelf.Strings.SlTrimAscii
import Derived.Test.YtfpfpaaojdodnaaGreatDoorProg
import Derived.Test.YtfpfpaaojdodnaaGreatDoorGz1
import Derived.RegionTactic
import Derived.ChangeAlike
import Derived.BigRegion
import Derived.Deep.QuietTactic
import Derived.BigQuiet
import Derived.WalkLawsBesides
/-
  DERIVED: THE SHELF's CONTRACTS AT THIS DUMP, IN PLAIN WORDS (tools/lay-plain.mjs out of 'TryzJs.lean', which tools/lay-shelf.mjs wrote): THE SAME DECLARATIONS UNDER THE SAME NAMES: 'import', 'namespace', 'open', 'def', 'theorem' AND NOTHING ELSE: no command of the shelf's: FOR A HAND-IN. Each laying: the table of numbers ('.._ren') and one theorem, a field a fact of the dump's own or the kernel's comparison; each contract: ONE APPLICATION.
-/
namespace Go.Proofs
open Go.Shelf
def Tryz.lays119_ren : Go.Shelf.Ren := ⟨fun | 119 => 197 | n => n, fun | 21 => 21 | 4 => 4 | n => n, fun | n => n⟩
theorem Tryz.lays119 : Go.Proofs.Lays.n119 Tryz.prog Tryz.lays119_ren := {
  mixed := by kernel_rfl
  f119 := Tryz.func197.trans (congrArg some (by kernel_rfl))
  t4 := Tryz.underlying4
  a4 := Tryz.isAgg4
  z4 := Tryz.sizeOf4
  v4 := Tryz.zeroValue4
  t21 := Tryz.underlying21
  a21 := Tryz.isAgg21
  z21 := Tryz.sizeOf21
  v21 := Tryz.zeroValue21 }
theorem Tryz.utf8_ValidRune (r : Int) (w : World) :
    Calls Tryz.prog 197 #[.int .i32 r] w fun e w' => e = .returned (.bool (Lib.validRune r)) ∧ w' = w := Any.utf8_ValidRune Tryz.lays119 r w
def Tryz.lays125_ren : Go.Shelf.Ren := ⟨fun | 125 => 201 | 128 => 234 | 129 => 235 | n => n, fun | 46 => 338 | 3 => 3 | 51 => 277 | 53 => 256 | 4 => 4 | 5 => 5 | 9 => 9 | n => n, fun | n => n⟩
theorem Tryz.lays125 : Go.Proofs.Lays.n125 Tryz.prog Tryz.lays125_ren := {
  mixed := by kernel_rfl
  f125 := Tryz.func201.trans (congrArg some (by kernel_rfl))
  f128 := Tryz.func234.trans (congrArg some (by kernel_rfl))
  f129 := Tryz.func235.trans (congrArg some (by kernel_rfl))
  t3 := Tryz.underlying3
  a3 := Tryz.isAgg3
  z3 := Tryz.sizeOf3
  v3 := Tryz.zeroValue3
  t4 := Tryz.underlying4
  a4 := Tryz.isAgg4
  z4 := Tryz.sizeOf4
  v4 := Tryz.zeroValue4
  t5 := Tryz.underlying5
  a5 := Tryz.isAgg5
  z5 := Tryz.sizeOf5
  v5 := Tryz.zeroValue5
  t9 := Tryz.underlying9
  a9 := Tryz.isAgg9
  z9 := Tryz.sizeOf9
  v9 := Tryz.zeroValue9
  t46 := Tryz.underlying338
  a46 := Tryz.isAgg338
  z46 := Tryz.sizeOf338
  v46 := Tryz.zeroValue338
  t51 := Tryz.underlying277
  a51 := Tryz.isAgg277
  z51 := Tryz.sizeOf277
  v51 := Tryz.zeroValue277
  t53 := Tryz.underlying256
  a53 := Tryz.isAgg256
  z53 := Tryz.sizeOf256
  v53 := Tryz.zeroValue256 }
theorem Tryz.bits_Len (x : Int) (w : World) (h0 : 0 ≤ x) (h1 : x ≤ 18446744073709551615) :
    Calls Tryz.prog 201 #[.int .u64 x] w fun e w' => e = .returned (.int .i64 (Lib.bitLen x.toNat)) ∧ w' = w := Any.bits_Len Tryz.lays125 x w h0 h1
def Tryz.lays137_ren : Go.Shelf.Ren := ⟨fun | 137 => 73 | 217 => 146 | 266 => 198 | n => n, fun | 9 => 9 | 5 => 5 | 3 => 3 | n => n, fun | n => n⟩
theorem Tryz.lays137 : Go.Proofs.Lays.n137 Tryz.prog Tryz.lays137_ren := {
  mixed := by kernel_rfl
  f137 := Tryz.func73.trans (congrArg some (by kernel_rfl))
  f217 := Tryz.func146.trans (congrArg some (by kernel_rfl))
  f266 := Tryz.func198.trans (congrArg some (by kernel_rfl))
  t3 := Tryz.underlying3
  a3 := Tryz.isAgg3
  z3 := Tryz.sizeOf3
  v3 := Tryz.zeroValue3
  t5 := Tryz.underlying5
  a5 := Tryz.isAgg5
  z5 := Tryz.sizeOf5
  v5 := Tryz.zeroValue5
  t9 := Tryz.underlying9
  a9 := Tryz.isAgg9
  z9 := Tryz.sizeOf9
  v9 := Tryz.zeroValue9 }
open Go.RowKit in
theorem Tryz.strings_IndexByte (s : ByteArray) (c : Int) (w : World) :
    Calls Tryz.prog 73 #[.string s, .int .u8 c] w fun e w' => e = .returned (.int .i64 (Lib.indexByte s.data.toList c.toNat.toUInt8)) ∧ w' = w := Any.strings_IndexByte Tryz.lays137 s c w
def Tryz.laysM316_ren : Go.Shelf.Ren := ⟨fun | 316 => 255 | n => n, fun | 9 => 9 | 3 => 3 | 4 => 4 | 37 => 248 | 0 => 0 | 127 => 412 | 5 => 5 | n => n, fun | n => n⟩
def Tryz.laysC172_ren : Go.Shelf.Ren := ⟨fun | 172 => 195 | 244 => 223 | 245 => 224 | 247 => 241 | 279 => 242 | 280 => 243 | 281 => 244 | 282 => 245 | 287 => 246 | 316 => 255 | 171 => 257 | 205 => 256 | 321 => 258 | 322 => 259 | 243 => 261 | 246 => 262 | 283 => 263 | 284 => 264 | 285 => 265 | 286 => 266 | 129 => 235 | 317 => 267 | 318 => 268 | 319 => 269 | 320 => 270 | 337 => 271 | 338 => 272 | n => n, fun | 9 => 9 | 3 => 3 | 75 => 25 | 76 => 332 | 4 => 4 | 5 => 5 | 167 => 388 | 37 => 248 | 0 => 0 | 85 => 389 | 2 => 2 | 168 => 391 | 53 => 256 | 175 => 366 | 46 => 338 | 210 => 406 | 127 => 412 | 145 => 415 | 143 => 413 | 21 => 21 | 171 => 417 | 173 => 419 | 212 => 422 | 51 => 277 | 20 => 20 | 213 => 423 | 232 => 424 | 233 => 425 | 80 => 426 | n => n, fun | 15 => 6 | 16 => 7 | 17 => 8 | 18 => 9 | 19 => 10 | n => n⟩
theorem Tryz.laysC172 : Go.Proofs.LaysC.n172 Tryz.prog Tryz.laysC172_ren := {
  mixed := by kernel_rfl
  f129 := Tryz.func235.trans (congrArg some (by kernel_rfl))
  f171 := Tryz.func257.trans (congrArg some (by kernel_rfl))
  f172 := Tryz.func195.trans (congrArg some (by kernel_rfl))
  f205 := Tryz.func256.trans (congrArg some (by kernel_rfl))
  f243 := Tryz.func261.trans (congrArg some (by kernel_rfl))
  f244 := Tryz.func223.trans (congrArg some (by kernel_rfl))
  f245 := Tryz.func224.trans (congrArg some (by kernel_rfl))
  f246 := Tryz.func262.trans (congrArg some (by kernel_rfl))
  f247 := Tryz.func241.trans (congrArg some (by kernel_rfl))
  f279 := Tryz.func242.trans (congrArg some (by kernel_rfl))
  f280 := Tryz.func243.trans (congrArg some (by kernel_rfl))
  f281 := Tryz.func244.trans (congrArg some (by kernel_rfl))
  f282 := Tryz.func245.trans (congrArg some (by kernel_rfl))
  f283 := Tryz.func263.trans (congrArg some (by kernel_rfl))
  f284 := Tryz.func264.trans (congrArg some (by kernel_rfl))
  f285 := Tryz.func265.trans (congrArg some (by kernel_rfl))
  f286 := Tryz.func266.trans (congrArg some (by kernel_rfl))
  f287 := Tryz.func246.trans (congrArg some (by kernel_rfl))
  f316 := Tryz.func255.trans (congrArg some (by kernel_rfl))
  f317 := Tryz.func267.trans (congrArg some (by kernel_rfl))
  f318 := Tryz.func268.trans (congrArg some (by kernel_rfl))
  f319 := Tryz.func269.trans (congrArg some (by kernel_rfl))
  f320 := Tryz.func270.trans (congrArg some (by kernel_rfl))
  f321 := Tryz.func258.trans (congrArg some (by kernel_rfl))
  f322 := Tryz.func259.trans (congrArg some (by kernel_rfl))
  f337 := Tryz.func271.trans (congrArg some (by kernel_rfl))
  f338 := Tryz.func272.trans (congrArg some (by kernel_rfl))
  t0 := Tryz.underlying0
  a0 := Tryz.isAgg0
  z0 := Tryz.sizeOf0
  v0 := Tryz.zeroValue0
  t2 := Tryz.underlying2
  a2 := Tryz.isAgg2
  z2 := Tryz.sizeOf2
  v2 := Tryz.zeroValue2
  t3 := Tryz.underlying3
  a3 := Tryz.isAgg3
  z3 := Tryz.sizeOf3
  v3 := Tryz.zeroValue3
  t4 := Tryz.underlying4
  a4 := Tryz.isAgg4
  z4 := Tryz.sizeOf4
  v4 := Tryz.zeroValue4
  t5 := Tryz.underlying5
  a5 := Tryz.isAgg5
  z5 := Tryz.sizeOf5
  v5 := Tryz.zeroValue5
  t9 := Tryz.underlying9
  a9 := Tryz.isAgg9
  z9 := Tryz.sizeOf9
  v9 := Tryz.zeroValue9
  t20 := Tryz.underlying20
  a20 := Tryz.isAgg20
  z20 := Tryz.sizeOf20
  v20 := Tryz.zeroValue20
  t21 := Tryz.underlying21
  a21 := Tryz.isAgg21
  z21 := Tryz.sizeOf21
  v21 := Tryz.zeroValue21
  t37 := Tryz.underlying248
  a37 := Tryz.isAgg248
  z37 := Tryz.sizeOf248
  v37 := Tryz.zeroValue248
  t46 := Tryz.underlying338
  a46 := Tryz.isAgg338
  z46 := Tryz.sizeOf338
  v46 := Tryz.zeroValue338
  t51 := Tryz.underlying277
  a51 := Tryz.isAgg277
  z51 := Tryz.sizeOf277
  v51 := Tryz.zeroValue277
  t53 := Tryz.underlying256
  a53 := Tryz.isAgg256
  z53 := Tryz.sizeOf256
  v53 := Tryz.zeroValue256
  t75 := Tryz.underlying25
  a75 := Tryz.isAgg25
  z75 := Tryz.sizeOf25
  v75 := Tryz.zeroValue25
  t76 := Tryz.underlying332
  a76 := Tryz.isAgg332
  z76 := Tryz.sizeOf332
  v76 := Tryz.zeroValue332
  t85 := Tryz.underlying389
  a85 := Tryz.isAgg389
  z85 := Tryz.sizeOf389
  v85 := Tryz.zeroValue389
  t127 := Tryz.underlying412
  a127 := Tryz.isAgg412
  z127 := Tryz.sizeOf412
  v127 := Tryz.zeroValue412
  t143 := Tryz.underlying413
  a143 := Tryz.isAgg413
  z143 := Tryz.sizeOf413
  v143 := Tryz.zeroValue413
  t145 := Tryz.underlying415
  a145 := Tryz.isAgg415
  z145 := Tryz.sizeOf415
  v145 := Tryz.zeroValue415
  t167 := Tryz.underlying388
  a167 := Tryz.isAgg388
  z167 := Tryz.sizeOf388
  v167 := Tryz.zeroValue388
  t168 := Tryz.underlying391
  a168 := Tryz.isAgg391
  z168 := Tryz.sizeOf391
  v168 := Tryz.zeroValue391
  t171 := Tryz.underlying417
  a171 := Tryz.isAgg417
  z171 := Tryz.sizeOf417
  v171 := Tryz.zeroValue417
  t173 := Tryz.underlying419
  a173 := Tryz.isAgg419
  z173 := Tryz.sizeOf419
  v173 := Tryz.zeroValue419
  t175 := Tryz.underlying366
  a175 := Tryz.isAgg366
  z175 := Tryz.sizeOf366
  v175 := Tryz.zeroValue366
  t210 := Tryz.underlying406
  a210 := Tryz.isAgg406
  z210 := Tryz.sizeOf406
  v210 := Tryz.zeroValue406
  t212 := Tryz.underlying422
  a212 := Tryz.isAgg422
  z212 := Tryz.sizeOf422
  v212 := Tryz.zeroValue422
  t213 := Tryz.underlying423
  a213 := Tryz.isAgg423
  z213 := Tryz.sizeOf423
  t232 := Tryz.underlying424
  a232 := Tryz.isAgg424
  z232 := Tryz.sizeOf424
  v232 := Tryz.zeroValue424
  t233 := Tryz.underlying425
  a233 := Tryz.isAgg425
  z233 := Tryz.sizeOf425
  v233 := Tryz.zeroValue425
  g15 := by kernel_rfl
  g16 := by kernel_rfl
  g17 := by kernel_rfl
  g18 := by kernel_rfl
  g19 := by kernel_rfl
  t80 := Tryz.underlying426
  a80 := Tryz.isAgg426
  z80 := Tryz.sizeOf426
  v80 := Tryz.zeroValue426
  i0 := by kernel_rfl
  i2 := by kernel_rfl
  i3 := by kernel_rfl
  i4 := by kernel_rfl
  i5 := by kernel_rfl
  i9 := by kernel_rfl
  i20 := by kernel_rfl
  i21 := by kernel_rfl
  i37 := by kernel_rfl
  i46 := by kernel_rfl
  i51 := by kernel_rfl
  i53 := by kernel_rfl
  i75 := by kernel_rfl
  i76 := by kernel_rfl
  i80 := by kernel_rfl
  i85 := by kernel_rfl
  i127 := by kernel_rfl
  i143 := by kernel_rfl
  i145 := by kernel_rfl
  i167 := by kernel_rfl
  i168 := by kernel_rfl
  i171 := by kernel_rfl
  i173 := by kernel_rfl
  i175 := by kernel_rfl
  i210 := by kernel_rfl
  i212 := by kernel_rfl
  i232 := by kernel_rfl
  i233 := by kernel_rfl
  m15 := by kernel_rfl
  m16 := by kernel_rfl
  m17 := by kernel_rfl
  m18 := by kernel_rfl
  m19 := by kernel_rfl
  c0 := by kernel_rfl
  c2 := by kernel_rfl
  c3 := by kernel_rfl
  c4 := by kernel_rfl
  c5 := by kernel_rfl
  c9 := by kernel_rfl
  c20 := by kernel_rfl
  c21 := by kernel_rfl
  c37 := by kernel_rfl
  c46 := by kernel_rfl
  c51 := by kernel_rfl
  c53 := by kernel_rfl
  c75 := by kernel_rfl
  c76 := by kernel_rfl
  c80 := by kernel_rfl
  c85 := by kernel_rfl
  c127 := by kernel_rfl
  c143 := by kernel_rfl
  c145 := by kernel_rfl
  c167 := by kernel_rfl
  c168 := by kernel_rfl
  c171 := by kernel_rfl
  c173 := by kernel_rfl
  c175 := by kernel_rfl
  c210 := by kernel_rfl
  c212 := by kernel_rfl
  c213 := by kernel_rfl
  c232 := by kernel_rfl
  c233 := by kernel_rfl }
open Go.RowKit in
theorem Tryz.strconv_Atoi_ok (s : ByteArray) (hmax : s.size ≤ 9223372036854775806) (v : Int) (h : Lib.atoiAll s.data.toList = .ok v) (w : World) :
    Calls Tryz.prog 195 #[.string s] w fun e w' => e = .returned (.tuple #[.int .i64 v, .nilIface]) ∧ (w' = w ∨ ∃ t, w' = Lib.bytesWorld w 5 t) := Any.strconv_Atoi_ok Tryz.laysC172 s hmax v h w
open Go.RowKit in
theorem Tryz.strconv_Atoi_syntax (s : ByteArray) (hlim : s.size ≤ 281474976710656) (h : Lib.atoiAll s.data.toList = Lib.NumEnd.syntax) (ev : Value) (w : World) (hv : w.cell? ⟨6, 0, none⟩ = some ev) (hev : ev = .nilIface ∨ ∃ te pe, ev = .iface te pe) :
    Calls Tryz.prog 195 #[.string s] w fun e w' => ∃ N, e = .returned (.tuple #[.int .i64 (0), .iface 391 (.pointer (some ⟨N, 0, none⟩))]) ∧ w.heap.size ≤ N ∧ w'.heap[N]? = some (.cells #[.string ⟨#[65, 116, 111, 105]⟩, .string s, ev] 406 (0, 0)) ∧ Below w.heap.size w w' := Any.strconv_Atoi_syntax Tryz.laysC172 s hlim h ev w hv hev
open Go.RowKit in
theorem Tryz.strconv_Atoi_range (s : ByteArray) (hlim : s.size ≤ 281474976710656) (h : Lib.atoiAll s.data.toList = .range) (ev : Value) (w : World) (hv : w.cell? ⟨7, 0, none⟩ = some ev) (hev : ev = .nilIface ∨ ∃ te pe, ev = .iface te pe) :
    Calls Tryz.prog 195 #[.string s] w fun e w' => ∃ N, e = .returned (.tuple #[.int .i64 (Lib.atoiSat s.data.toList), .iface 391 (.pointer (some ⟨N, 0, none⟩))]) ∧ w.heap.size ≤ N ∧ w'.heap[N]? = some (.cells #[.string ⟨#[65, 116, 111, 105]⟩, .string s, ev] 406 (0, 0)) ∧ Below w.heap.size w w' := Any.strconv_Atoi_range Tryz.laysC172 s hlim h ev w hv hev
def Tryz.lays145_ren : Go.Shelf.Ren := ⟨fun | 145 => 75 | 220 => 148 | 219 => 192 | 217 => 146 | 225 => 213 | 224 => 214 | 267 => 215 | 266 => 198 | 314 => 238 | n => n, fun | 9 => 9 | 4 => 4 | 59 => 145 | 3 => 3 | 5 => 5 | 46 => 338 | 146 => 385 | 51 => 277 | n => n, fun | 1 => 2 | n => n⟩
theorem Tryz.lays145 : Go.Proofs.Lays.n145 Tryz.prog Tryz.lays145_ren := {
  mixed := by kernel_rfl
  f145 := Tryz.func75.trans (congrArg some (by kernel_rfl))
  f217 := Tryz.func146.trans (congrArg some (by kernel_rfl))
  f219 := Tryz.func192.trans (congrArg some (by kernel_rfl))
  f220 := Tryz.func148.trans (congrArg some (by kernel_rfl))
  f224 := Tryz.func214.trans (congrArg some (by kernel_rfl))
  f225 := Tryz.func213.trans (congrArg some (by kernel_rfl))
  f266 := Tryz.func198.trans (congrArg some (by kernel_rfl))
  f267 := Tryz.func215.trans (congrArg some (by kernel_rfl))
  f314 := Tryz.func238.trans (congrArg some (by kernel_rfl))
  t3 := Tryz.underlying3
  a3 := Tryz.isAgg3
  z3 := Tryz.sizeOf3
  v3 := Tryz.zeroValue3
  t4 := Tryz.underlying4
  a4 := Tryz.isAgg4
  z4 := Tryz.sizeOf4
  v4 := Tryz.zeroValue4
  t5 := Tryz.underlying5
  a5 := Tryz.isAgg5
  z5 := Tryz.sizeOf5
  v5 := Tryz.zeroValue5
  t9 := Tryz.underlying9
  a9 := Tryz.isAgg9
  z9 := Tryz.sizeOf9
  v9 := Tryz.zeroValue9
  t46 := Tryz.underlying338
  a46 := Tryz.isAgg338
  z46 := Tryz.sizeOf338
  v46 := Tryz.zeroValue338
  t51 := Tryz.underlying277
  a51 := Tryz.isAgg277
  z51 := Tryz.sizeOf277
  v51 := Tryz.zeroValue277
  t59 := Tryz.underlying145
  a59 := Tryz.isAgg145
  z59 := Tryz.sizeOf145
  v59 := Tryz.zeroValue145
  t146 := Tryz.underlying385
  a146 := Tryz.isAgg385
  z146 := Tryz.sizeOf385
  v146 := Tryz.zeroValue385
  g1 := by kernel_rfl }
open Go.RowKit Go.Lib in
theorem Tryz.strings_Cut (s sep : ByteArray) (m : Int) (w : World) (hs : s.size < 4294967281) (hm : w.cell? ⟨2, 0, none⟩ = some (.int .i64 m)) :
    Calls Tryz.prog 75 #[.string s, .string sep] w fun e w' => e = .returned (.tuple #[.string ⟨(Lib.cut s.data.toList sep.data.toList).1.toArray⟩, .string ⟨(Lib.cut s.data.toList sep.data.toList).2.1.toArray⟩, .bool (Lib.cut s.data.toList sep.data.toList).2.2]) ∧ ∃ n, w' = w.drewN n := Any.strings_Cut Tryz.lays145 s sep m w hs hm
def Tryz.lays138_ren : Go.Shelf.Ren := ⟨fun | 138 => 66 | 195 => 136 | 218 => 137 | 143 => 138 | 219 => 192 | 217 => 146 | 225 => 213 | 224 => 214 | 267 => 215 | 266 => 198 | 314 => 238 | n => n, fun | 9 => 9 | 3 => 3 | 4 => 4 | 5 => 5 | 0 => 0 | 46 => 338 | 146 => 385 | 51 => 277 | n => n, fun | 1 => 2 | n => n⟩
theorem Tryz.lays138 : Go.Proofs.Lays.n138 Tryz.prog Tryz.lays138_ren := {
  mixed := by kernel_rfl
  f138 := Tryz.func66.trans (congrArg some (by kernel_rfl))
  f143 := Tryz.func138.trans (congrArg some (by kernel_rfl))
  f195 := Tryz.func136.trans (congrArg some (by kernel_rfl))
  f217 := Tryz.func146.trans (congrArg some (by kernel_rfl))
  f218 := Tryz.func137.trans (congrArg some (by kernel_rfl))
  f219 := Tryz.func192.trans (congrArg some (by kernel_rfl))
  f224 := Tryz.func214.trans (congrArg some (by kernel_rfl))
  f225 := Tryz.func213.trans (congrArg some (by kernel_rfl))
  f266 := Tryz.func198.trans (congrArg some (by kernel_rfl))
  f267 := Tryz.func215.trans (congrArg some (by kernel_rfl))
  f314 := Tryz.func238.trans (congrArg some (by kernel_rfl))
  t0 := Tryz.underlying0
  a0 := Tryz.isAgg0
  z0 := Tryz.sizeOf0
  v0 := Tryz.zeroValue0
  t3 := Tryz.underlying3
  a3 := Tryz.isAgg3
  z3 := Tryz.sizeOf3
  v3 := Tryz.zeroValue3
  t4 := Tryz.underlying4
  a4 := Tryz.isAgg4
  z4 := Tryz.sizeOf4
  v4 := Tryz.zeroValue4
  t5 := Tryz.underlying5
  a5 := Tryz.isAgg5
  z5 := Tryz.sizeOf5
  v5 := Tryz.zeroValue5
  t9 := Tryz.underlying9
  a9 := Tryz.isAgg9
  z9 := Tryz.sizeOf9
  v9 := Tryz.zeroValue9
  t46 := Tryz.underlying338
  a46 := Tryz.isAgg338
  z46 := Tryz.sizeOf338
  v46 := Tryz.zeroValue338
  t51 := Tryz.underlying277
  a51 := Tryz.isAgg277
  z51 := Tryz.sizeOf277
  v51 := Tryz.zeroValue277
  t146 := Tryz.underlying385
  a146 := Tryz.isAgg385
  z146 := Tryz.sizeOf385
  v146 := Tryz.zeroValue385
  g1 := by kernel_rfl }
open Go.RowKit Go.Lib in
theorem Tryz.strings_Count_one (s : ByteArray) (c : UInt8) (w : World) :
    Calls Tryz.prog 66 #[.string s, .string ⟨#[c]⟩] w fun e w' => e = .returned (.int .i64 (Lib.countByte s.data.toList c)) ∧ w' = w := Any.strings_Count_one Tryz.lays138 s c w
def Tryz.lays100_ren : Go.Shelf.Ren := ⟨fun | 100 => 67 | 207 => 139 | n => n, fun | 9 => 9 | 4 => 4 | 3 => 3 | n => n, fun | n => n⟩
theorem Tryz.lays100 : Go.Proofs.Lays.n100 Tryz.prog Tryz.lays100_ren := {
  mixed := by kernel_rfl
  f100 := Tryz.func67.trans (congrArg some (by kernel_rfl))
  f207 := Tryz.func139.trans (congrArg some (by kernel_rfl))
  t3 := Tryz.underlying3
  a3 := Tryz.isAgg3
  z3 := Tryz.sizeOf3
  v3 := Tryz.zeroValue3
  t4 := Tryz.underlying4
  a4 := Tryz.isAgg4
  z4 := Tryz.sizeOf4
  v4 := Tryz.zeroValue4
  t9 := Tryz.underlying9
  a9 := Tryz.isAgg9
  z9 := Tryz.sizeOf9
  v9 := Tryz.zeroValue9 }
open Go.RowKit Go.Lib in
theorem Tryz.strings_HasSuffix (s p : ByteArray) (w : World) (hs : s.size ≤ 9223372036854775807) :
    Calls Tryz.prog 67 #[.string s, .string p] w fun e w' => e = .returned (.bool (Lib.hasSuffix s.data.toList p.data.toList)) ∧ w' = w := Any.strings_HasSuffix Tryz.lays100 s p w hs
def Tryz.lays102_ren : Go.Shelf.Ren := ⟨fun | 102 => 74 | 209 => 147 | 207 => 139 | n => n, fun | 9 => 9 | 4 => 4 | 3 => 3 | n => n, fun | n => n⟩
theorem Tryz.lays102 : Go.Proofs.Lays.n102 Tryz.prog Tryz.lays102_ren := {
  mixed := by kernel_rfl
  f102 := Tryz.func74.trans (congrArg some (by kernel_rfl))
  f207 := Tryz.func139.trans (congrArg some (by kernel_rfl))
  f209 := Tryz.func147.trans (congrArg some (by kernel_rfl))
  t3 := Tryz.underlying3
  a3 := Tryz.isAgg3
  z3 := Tryz.sizeOf3
  v3 := Tryz.zeroValue3
  t4 := Tryz.underlying4
  a4 := Tryz.isAgg4
  z4 := Tryz.sizeOf4
  v4 := Tryz.zeroValue4
  t9 := Tryz.underlying9
  a9 := Tryz.isAgg9
  z9 := Tryz.sizeOf9
  v9 := Tryz.zeroValue9 }
open Go.RowKit Go.Lib in
theorem Tryz.strings_TrimSuffix (s p : ByteArray) (w : World) (hs : s.size ≤ 9223372036854775807) :
    Calls Tryz.prog 74 #[.string s, .string p] w fun e w' => e = .returned (.string ⟨(Lib.trimSuffix s.data.toList p.data.toList).toArray⟩) ∧ w' = w := Any.strings_TrimSuffix Tryz.lays102 s p w hs
def Tryz.lays229_ren : Go.Shelf.Ren := ⟨fun | 229 => 76 | n => n, fun | 9 => 9 | 40 => 148 | 31 => 73 | 152 => 217 | 3 => 3 | 0 => 0 | 4 => 4 | 21 => 21 | 154 => 219 | n => n, fun | n => n⟩
theorem Tryz.lays229 : Go.Proofs.Lays.n229 Tryz.prog Tryz.lays229_ren := {
  mixed := by kernel_rfl
  f229 := Tryz.func76.trans (congrArg some (by kernel_rfl))
  t0 := Tryz.underlying0
  a0 := Tryz.isAgg0
  z0 := Tryz.sizeOf0
  v0 := Tryz.zeroValue0
  t3 := Tryz.underlying3
  a3 := Tryz.isAgg3
  z3 := Tryz.sizeOf3
  v3 := Tryz.zeroValue3
  t4 := Tryz.underlying4
  a4 := Tryz.isAgg4
  z4 := Tryz.sizeOf4
  v4 := Tryz.zeroValue4
  t9 := Tryz.underlying9
  a9 := Tryz.isAgg9
  z9 := Tryz.sizeOf9
  v9 := Tryz.zeroValue9
  t21 := Tryz.underlying21
  a21 := Tryz.isAgg21
  z21 := Tryz.sizeOf21
  v21 := Tryz.zeroValue21
  t31 := Tryz.underlying73
  a31 := Tryz.isAgg73
  z31 := Tryz.sizeOf73
  v31 := Tryz.zeroValue73
  t40 := Tryz.underlying148
  a40 := Tryz.isAgg148
  z40 := Tryz.sizeOf148
  v40 := Tryz.zeroValue148
  t152 := Tryz.underlying217
  a152 := Tryz.isAgg217
  z152 := Tryz.sizeOf217
  v152 := Tryz.zeroValue217
  t154 := Tryz.underlying219
  a154 := Tryz.isAgg219
  z154 := Tryz.sizeOf219
  v154 := Tryz.zeroValue219 }
open Go.RowKit Go.Lib in
theorem Tryz.strings_FieldsFunc_runes (g : Nat) (lb : Array Value) (eg : ∀ args w, (callFunc g args).run Tryz.prog w = .ok (.enter g args) w) (p : Nat → Bool) (s : ByteArray) (w : World) (hs : s.size ≤ 4294967296) (hp : PredAtRunes Tryz.prog g lb p w) :
    Calls Tryz.prog 76 #[.string s, .func (.func g) #[] lb] w fun e w' => ∃ A, e = .returned (.slice (some ⟨A, 0, none⟩) (Lib.goFieldsP p s).length (Lib.goFieldsP p s).length) ∧ w.heap.size ≤ A ∧
      w'.ownsRow w.heap.size 9 1 (.slice (some ⟨A, 0, none⟩) (Lib.goFieldsP p s).length (Lib.goFieldsP p s).length) (Lib.goFieldsP p s).length ((Lib.goFieldsP p s).map Value.string) ∧ Below w.heap.size w w' := Any.strings_FieldsFunc_runes Tryz.lays229 g lb eg p s w hs hp (by kernel_rfl) (by kernel_rfl)
def Tryz.lays160_ren : Go.Shelf.Ren := ⟨fun | 160 => 194 | 232 => 217 | 231 => 216 | 227 => 218 | 234 => 220 | 233 => 219 | 236 => 222 | 235 => 221 | 228 => 239 | 271 => 135 | 151 => 240 | 197 => 190 | 120 => 191 | 152 => 254 | 260 => 212 | 137 => 73 | 119 => 197 | 224 => 214 | 225 => 213 | 217 => 146 | 266 => 198 | n => n, fun | 9 => 9 | 4 => 4 | 3 => 3 | 5 => 5 | 117 => 361 | 116 => 360 | 0 => 0 | 124 => 364 | 21 => 21 | 105 => 139 | 46 => 338 | 119 => 381 | 139 => 384 | 138 => 383 | n => n, fun | 3 => 4 | 4 => 5 | n => n⟩
theorem Tryz.lays160 : Go.Proofs.Lays.n160 Tryz.prog Tryz.lays160_ren := {
  mixed := by kernel_rfl
  f119 := Tryz.func197.trans (congrArg some (by kernel_rfl))
  f120 := Tryz.func191.trans (congrArg some (by kernel_rfl))
  f137 := Tryz.func73.trans (congrArg some (by kernel_rfl))
  f151 := Tryz.func240.trans (congrArg some (by kernel_rfl))
  f152 := Tryz.func254.trans (congrArg some (by kernel_rfl))
  f160 := Tryz.func194.trans (congrArg some (by kernel_rfl))
  f197 := Tryz.func190.trans (congrArg some (by kernel_rfl))
  f217 := Tryz.func146.trans (congrArg some (by kernel_rfl))
  f224 := Tryz.func214.trans (congrArg some (by kernel_rfl))
  f225 := Tryz.func213.trans (congrArg some (by kernel_rfl))
  f227 := Tryz.func218.trans (congrArg some (by kernel_rfl))
  f228 := Tryz.func239.trans (congrArg some (by kernel_rfl))
  f231 := Tryz.func216.trans (congrArg some (by kernel_rfl))
  f232 := Tryz.func217.trans (congrArg some (by kernel_rfl))
  f233 := Tryz.func219.trans (congrArg some (by kernel_rfl))
  f234 := Tryz.func220.trans (congrArg some (by kernel_rfl))
  f235 := Tryz.func221.trans (congrArg some (by kernel_rfl))
  f236 := Tryz.func222.trans (congrArg some (by kernel_rfl))
  f260 := Tryz.func212.trans (congrArg some (by kernel_rfl))
  f266 := Tryz.func198.trans (congrArg some (by kernel_rfl))
  f271 := Tryz.func135.trans (congrArg some (by kernel_rfl))
  t0 := Tryz.underlying0
  a0 := Tryz.isAgg0
  z0 := Tryz.sizeOf0
  v0 := Tryz.zeroValue0
  t3 := Tryz.underlying3
  a3 := Tryz.isAgg3
  z3 := Tryz.sizeOf3
  v3 := Tryz.zeroValue3
  t4 := Tryz.underlying4
  a4 := Tryz.isAgg4
  z4 := Tryz.sizeOf4
  v4 := Tryz.zeroValue4
  t5 := Tryz.underlying5
  a5 := Tryz.isAgg5
  z5 := Tryz.sizeOf5
  v5 := Tryz.zeroValue5
  t9 := Tryz.underlying9
  a9 := Tryz.isAgg9
  z9 := Tryz.sizeOf9
  v9 := Tryz.zeroValue9
  t21 := Tryz.underlying21
  a21 := Tryz.isAgg21
  z21 := Tryz.sizeOf21
  v21 := Tryz.zeroValue21
  t46 := Tryz.underlying338
  a46 := Tryz.isAgg338
  z46 := Tryz.sizeOf338
  v46 := Tryz.zeroValue338
  t105 := Tryz.underlying139
  a105 := Tryz.isAgg139
  z105 := Tryz.sizeOf139
  v105 := Tryz.zeroValue139
  t116 := Tryz.underlying360
  a116 := Tryz.isAgg360
  z116 := Tryz.sizeOf360
  t117 := Tryz.underlying361
  a117 := Tryz.isAgg361
  z117 := Tryz.sizeOf361
  v117 := Tryz.zeroValue361
  t119 := Tryz.underlying381
  a119 := Tryz.isAgg381
  z119 := Tryz.sizeOf381
  t124 := Tryz.underlying364
  a124 := Tryz.isAgg364
  z124 := Tryz.sizeOf364
  v124 := Tryz.zeroValue364
  t138 := Tryz.underlying383
  a138 := Tryz.isAgg383
  z138 := Tryz.sizeOf383
  v138 := Tryz.zeroValue383
  t139 := Tryz.underlying384
  a139 := Tryz.isAgg384
  z139 := Tryz.sizeOf384
  v139 := Tryz.zeroValue384
  g3 := by kernel_rfl
  g4 := by kernel_rfl }
open Go.RowKit in
theorem Tryz.strings_Trim_laid (s cutset : ByteArray) (w : World) (hs : s.size ≤ 9223372036854775807) (hcs : cutset.size < 4294967281) (hascii : ∀ (j : Nat) b, cutset.data.toList[j]? = some b → b.toNat < 128) :
    Calls Tryz.prog 194 #[.string s, .string cutset] w fun e w' => e = .returned (.string ⟨(Lib.trimS s.data.toList cutset.data.toList).toArray⟩) ∧ Below w.heap.size w w' := Any.strings_Trim_laid Tryz.lays160 (by kernel_rfl) s cutset w hs hcs hascii
end Go.Proofs
/- props: a number of a file, to the base 16. -/
namespace Go.Proofs.YtfpfpaaojdodnaaGreatDoor
open Go Go.RowKit Go.Kt Go.Kt.Rg

def PVar (w : World) : Prop := (∃ t p, w.cell? ⟨6, 0, none⟩ = some (.iface t p)) ∧ ∃ t p, w.cell? ⟨7, 0, none⟩ = some (.iface t p)
theorem PVar.below {A B : World} (h : PVar A) (hb : Below A.heap.size A B) : PVar B := by
  obtain ⟨⟨t, p, h1⟩, t2, p2, h2⟩ := h
  exact ⟨⟨t, p, (hb.cell (lt_of_cell h1)).trans h1⟩, t2, p2, (hb.cell (lt_of_cell h2)).trans h2⟩

set_option maxRecDepth 100000 in
set_option maxHeartbeats 2000000 in
theorem pu24_any (s : ByteArray) (w : World) (hs : s.size ≤ 140737488351232) (hV : PVar w) :
    Calls Tryz.prog 225 #[.string s, .int .i64 16, .int .i64 24] w fun e w' => PuOut 391 (fun _ => True) (puV 16777215 s.data.toList) e ∧ Below w.heap.size w w' := by
  have CI := Lib.hid (ipu24_any s w (by omega))
  have HV := Lib.hid hV
  obtain ⟨o, ho⟩ : ∃ o, puV 16777215 s.data.toList = o := ⟨_, rfl⟩
  rw [ho] at CI ⊢
  clear hV ho
  go_enter Tryz.func225, Tryz.ntmps225
  go_wp2_with fail
  refine CI.out.mono ?_
  rintro e w1 ⟨hp, hb⟩
  have HB := Lib.hid hb
  clear hb
  cases o with
  | some n =>
    obtain rfl := hp
    have HF := Lib.hid (PuOut.yes (T := 391) (K := fun _ => True) (o := some n) rfl)
    go_wp2
    go_ret2
    exact ⟨HF.out, HB.out⟩
  | none =>
    obtain ⟨z, k, rfl, hk⟩ := hp
    have HF := Lib.hid (fun v => PuOut.no (T := 391) (K := fun _ => True) (o := none) z (k := v) rfl trivial)
    obtain ⟨⟨t1, p1, v1⟩, t2, p2, v2⟩ := HV.out.below HB.out
    rcases hk with rfl | rfl
    · have CT := Lib.hid (fun fn => Tryz.strconv_toError_range fn s 16 24 _ w1 (by omega) v2 (.inr ⟨_, _, rfl⟩))
      clear v1 v2
      go_wp2_with fail
      refine (CT.out _).mono ?_
      rintro e w2 ⟨N, rfl, _, _, hb2⟩
      have HB2 := Lib.hid (HB.out.trans (hb2.mono HB.out.size))
      clear hb2
      go_wp2
      go_ret2
      exact ⟨HF.out _, HB2.out⟩
    · have CT := Lib.hid (fun fn => Tryz.strconv_toError_syntax fn s 16 24 _ w1 (by omega) v1 (.inr ⟨_, _, rfl⟩))
      clear v1 v2
      go_wp2_with fail
      refine (CT.out _).mono ?_
      rintro e w2 ⟨N, rfl, _, _, hb2⟩
      have HB2 := Lib.hid (HB.out.trans (hb2.mono HB.out.size))
      clear hb2
      go_wp2
      go_ret2
      exact ⟨HF.out _, HB2.out⟩

def numP (l : List UInt8) : Option Nat := if 4 ≤ l.length ∧ l.length ≤ 6 then puV 16777215 l else none
theorem puF_le {mx : Nat} : ∀ (l : List UInt8) (n m : Nat), n ≤ mx → puF mx n l = some m → m ≤ mx
  | [], n, m, hn, h => by rw [puF] at h; injection h with h; omega
  | c :: t, n, m, hn, h => by
    rw [puF] at h
    cases hd : digV c.toNat with
    | none => rw [hd] at h; cases h
    | some d =>
      rw [hd] at h
      simp only at h
      split at h
      · cases h
      · split at h
        · cases h
        · exact puF_le t _ m (by omega) h
theorem numP_le {l : List UInt8} {n : Nat} (h : numP l = some n) : n ≤ 16777215 := by
  unfold numP at h
  split at h
  · unfold puV at h
    split at h
    · cases h
    · exact puF_le _ 0 n (by omega) h
  · cases h

def NumOut (o : Option Nat) (e : Ending) : Prop := match o with
  | some n => e = .returned (.tuple #[.int .i32 (n : Nat), .bool true])
  | none => ∃ z : Int, e = .returned (.tuple #[.int .i32 z, .bool false])

set_option maxRecDepth 100000 in
set_option maxHeartbeats 2000000 in
theorem pnumber (s : ByteArray) (w : World) (hs : s.size ≤ 140737488351232) (hV : PVar w) :
    Calls Tryz.prog 196 #[.string s] w fun e w' => NumOut (numP s.data.toList) e ∧ Below w.heap.size w w' := by
  have C := Lib.hid (pu24_any s w hs hV)
  have hln : s.data.toList.length = s.size := (Lib.size_eq s).symm
  obtain ⟨o, ho⟩ : ∃ o, puV 16777215 s.data.toList = o := ⟨_, rfl⟩
  rw [ho] at C
  by_cases hb : 4 ≤ s.size ∧ s.size ≤ 6
  · have e : numP s.data.toList = o := by unfold numP; rw [if_pos (by omega), ho]
    have hn : ∀ n, o = some n → n ≤ 16777215 := fun n h => numP_le (e.trans h)
    rw [e]
    obtain ⟨b1, b2⟩ := hb
    have b1z : (4 : Int) ≤ (s.size : Int) := by omega
    have b2z : (s.size : Int) ≤ 6 := by omega
    clear hV e ho hln
    go_enter Tryz.func196, Tryz.ntmps196
    go_wp2_with fail
    refine C.out.mono ?_
    rintro e w1 ⟨hp, hb⟩
    have HB := Lib.hid hb
    clear hb
    cases o with
    | some n =>
      obtain rfl := hp
      have hn' := hn n rfl
      go_wp2
      go_ret2
      exact ⟨rfl, HB.out⟩
    | none =>
      obtain ⟨z, k, rfl, hk⟩ := hp
      go_wp2
      go_ret2
      exact ⟨⟨_, rfl⟩, HB.out⟩
  · have e : numP s.data.toList = none := by unfold numP; rw [if_neg (by omega)]
    rw [e]
    clear hV e ho hln
    by_cases b1 : 4 ≤ s.size
    · have b1z : (4 : Int) ≤ (s.size : Int) := by omega
      have b2z : decide ((s.size : Int) ≤ 6) = false := decide_eq_false (by omega)
      have b3z : (6 : Int) < (s.size : Int) := by omega
      go_enter Tryz.func196, Tryz.ntmps196
      go_wp2_with fail
      refine C.out.mono ?_
      rintro e w1 ⟨hp, hb⟩
      have HB := Lib.hid hb
      clear hb
      cases o with
      | some n =>
        obtain rfl := hp
        go_wp2
        go_ret2
        exact ⟨⟨_, rfl⟩, HB.out⟩
      | none =>
        obtain ⟨z, k, rfl, hk⟩ := hp
        go_wp2
        go_ret2
        exact ⟨⟨_, rfl⟩, HB.out⟩
    · have b1z : decide ((4 : Int) ≤ (s.size : Int)) = false := decide_eq_false (by omega)
      have b3z : (s.size : Int) < 4 := by omega
      go_enter Tryz.func196, Tryz.ntmps196
      go_wp2_with fail
      refine C.out.mono ?_
      rintro e w1 ⟨hp, hb⟩
      have HB := Lib.hid hb
      clear hb
      cases o with
      | some n =>
        obtain rfl := hp
        go_wp2
        go_ret2
        exact ⟨⟨_, rfl⟩, HB.out⟩
      | none =>
        obtain ⟨z, k, rfl, hk⟩ := hp
        go_wp2
        go_ret2
        exact ⟨⟨_, rfl⟩, HB.out⟩
end Go.Proofs.YtfpfpaaojdodnaaGreatDoor
/- props: a class, a kind. -/
namespace Go.Proofs.YtfpfpaaojdodnaaGreatDoor
open Go Go.RowKit Go.Kt Go.Kt.Rg

abbrev digs : List UInt8 := [48, 49, 50, 51, 52, 53, 54, 55, 56, 57]
def clsP (l : List UInt8) : Nat × Int :=
  if Lib.trimS l digs ≠ [] ∨ (l ≠ [48] ∧ l.head? = some 48) then (11, 0) else
    match Lib.atoiAll l with
    | .ok v => if 254 < v then (1, 0) else (0, v)
    | _ => (1, 0)

set_option maxRecDepth 100000 in
set_option maxHeartbeats 2000000 in
theorem pclass (s : ByteArray) (w : World) (hs : s.size ≤ 140737488351232) (hne : s.data.toList ≠ []) (hV : PVar w) :
    Calls Tryz.prog 141 #[.string s] w fun e w' => e = .returned (.tuple #[.int .i64 (clsP s.data.toList).2, .int .i64 (clsP s.data.toList).1]) ∧ Below w.heap.size w w' := by
  have CT := Lib.hid (Tryz.strings_Trim_laid s ⟨#[48, 49, 50, 51, 52, 53, 54, 55, 56, 57]⟩ w (by omega) (by decide) (ascii_of_all (by decide)))
  obtain ⟨l, hl⟩ : ∃ l, s.data.toList = l := ⟨_, rfl⟩
  have hln : l.length = s.size := by rw [← hl]; exact (Lib.size_eq s).symm
  have hl2 : s.toList = l := by rw [ByteArray.toList_eq]; exact hl
  rw [hl] at CT hne ⊢
  have hsz0 : 0 < s.size := by
    rcases Nat.eq_zero_or_pos s.size with h | h
    · exact absurd (List.eq_nil_of_length_eq_zero (by omega)) hne
    · exact h
  have hh0 : l.head? = some (s[0]'hsz0) := by
    rw [← hl]
    cases hd : s.data.toList with
    | nil => rw [hl] at hd; exact absurd hd hne
    | cons c r =>
      have : s[0]'hsz0 = (s.data.toList)[0]'(by rw [hd]; simp) := by simp [ByteArray.getElem_eq_getElem_data]
      rw [this]
      simp [hd]
  obtain ⟨T, hT⟩ : ∃ T, Lib.trimS l digs = T := ⟨_, rfl⟩
  replace CT : Hid (Calls Tryz.prog 194 #[.string s, .string ⟨#[48, 49, 50, 51, 52, 53, 54, 55, 56, 57]⟩] w fun e w' => e = .returned (.string ⟨T.toArray⟩) ∧ Below w.heap.size w w') := by rw [← hT]; exact CT
  have HV := Lib.hid hV
  clear hV
  by_cases hT0 : T = []
  · have e0 : T.isEmpty = true := by rw [hT0]; rfl
    by_cases h48 : l = [48]
    · have b48 : (s.toList == [48]) = true := by rw [hl2, h48]; rfl
      have p48 : s.toList = [48] := by rw [hl2, h48]
      have HC : Hid (¬ (Lib.trimS l digs ≠ [] ∨ (l ≠ [48] ∧ l.head? = some 48))) := Lib.hid (fun h => by
        rcases h with h | h
        · exact h (hT.trans hT0)
        · exact h.1 h48)
      clear hh0 hT h48 hne hl2
      cases ha : Lib.atoiAll l with
      | ok v =>
        have C := Lib.hid (fun W => Tryz.strconv_Atoi_ok s (by omega) v (by rw [hl]; exact ha) W)
        have HX : Hid (clsP l = if 254 < v then (1, 0) else (0, v)) := Lib.hid (by unfold clsP; rw [if_neg HC.out, ha])
        clear ha
        by_cases hv : 254 < v
        · have HX2 := Lib.hid (HX.out.trans (if_pos hv))
          go_enter Tryz.func141, Tryz.ntmps141
          go_wp2_with fail
          refine CT.out.mono ?_
          rintro e w1 ⟨rfl, hb⟩
          have HB := Lib.hid hb
          clear hb CT
          go_wp2_with (go_at_call 195; refine (C.out _).mono ?_; rintro e w2 ⟨rfl, hb2⟩)
          go_ret2
          rw [HX2.out]
          refine ⟨rfl, ?_⟩
          rcases hb2 with rfl | ⟨t, rfl⟩
          · exact HB.out
          · exact HB.out.trans ((Lib.bytesWorld_below _ _ _).mono HB.out.size)
        · have hv2 : v ≤ 254 := by omega
          have HX2 := Lib.hid (HX.out.trans (if_neg hv))
          go_enter Tryz.func141, Tryz.ntmps141
          go_wp2_with fail
          refine CT.out.mono ?_
          rintro e w1 ⟨rfl, hb⟩
          have HB := Lib.hid hb
          clear hb CT
          go_wp2_with (go_at_call 195; refine (C.out _).mono ?_; rintro e w2 ⟨rfl, hb2⟩)
          go_ret2
          rw [HX2.out]
          refine ⟨rfl, ?_⟩
          rcases hb2 with rfl | ⟨t, rfl⟩
          · exact HB.out
          · exact HB.out.trans ((Lib.bytesWorld_below _ _ _).mono HB.out.size)
      | range =>
        have C := Lib.hid (fun W ev h1 h2 => Tryz.strconv_Atoi_range s (by omega) (by rw [hl]; exact ha) ev W h1 h2)
        have HX : Hid (clsP l = (1, 0)) := Lib.hid (by unfold clsP; rw [if_neg HC.out, ha])
        clear ha
        go_enter Tryz.func141, Tryz.ntmps141
        go_wp2_with fail
        refine CT.out.mono ?_
        rintro e w1 ⟨rfl, hb⟩
        have HB := Lib.hid hb
        clear hb CT
        obtain ⟨⟨t1, p1, v1⟩, t2, p2, v2⟩ := HV.out.below HB.out
        have C2 := Lib.hid (C.out w1 _ v2 (.inr ⟨_, _, rfl⟩))
        clear v1 v2 C
        go_wp2_with (go_at_call 195; refine C2.out.mono ?_; rintro e w2 ⟨N, rfl, _, _, hb2⟩)
        go_ret2
        rw [HX.out]
        exact ⟨rfl, HB.out.trans (hb2.mono HB.out.size)⟩
      | _ =>
        have C := Lib.hid (fun W ev h1 h2 => Tryz.strconv_Atoi_syntax s (by omega) (by rw [hl]; exact ha) ev W h1 h2)
        have HX : Hid (clsP l = (1, 0)) := Lib.hid (by unfold clsP; rw [if_neg HC.out, ha])
        clear ha
        go_enter Tryz.func141, Tryz.ntmps141
        go_wp2_with fail
        refine CT.out.mono ?_
        rintro e w1 ⟨rfl, hb⟩
        have HB := Lib.hid hb
        clear hb CT
        obtain ⟨⟨t1, p1, v1⟩, t2, p2, v2⟩ := HV.out.below HB.out
        have C2 := Lib.hid (C.out w1 _ v1 (.inr ⟨_, _, rfl⟩))
        clear v1 v2 C
        go_wp2_with (go_at_call 195; refine C2.out.mono ?_; rintro e w2 ⟨N, rfl, _, _, hb2⟩)
        go_ret2
        rw [HX.out]
        exact ⟨rfl, HB.out.trans (hb2.mono HB.out.size)⟩
    · have b48 : (s.toList == [48]) = false := by rw [hl2]; exact beq_eq_false_iff_ne.2 h48
      have p48 : ¬ s.toList = [48] := by rw [hl2]; exact h48
      by_cases hz : (s[0]'hsz0) = 48
      · have z48 : (((s[0]'hsz0).toNat : Int) == 48) = true := by rw [hz]; rfl
        have HX : Hid (clsP l = (11, 0)) := Lib.hid (by unfold clsP; rw [if_pos (.inr ⟨h48, by rw [hh0, hz]⟩)])
        clear hh0 hT h48 hne hl2 hz
        go_enter Tryz.func141, Tryz.ntmps141
        go_wp2_with fail
        refine CT.out.mono ?_
        rintro e w1 ⟨rfl, hb⟩
        have HB := Lib.hid hb
        clear hb CT
        go_wp2
        go_ret2
        rw [HX.out]
        exact ⟨rfl, HB.out⟩
      · have z48 : (((s[0]'hsz0).toNat : Int) == 48) = false := beq_eq_false_iff_ne.2 (fun e => hz (UInt8.toNat_inj.1 (by show _ = 48; omega)))
        have HC : Hid (¬ (Lib.trimS l digs ≠ [] ∨ (l ≠ [48] ∧ l.head? = some 48))) := Lib.hid (fun h => by
          rcases h with h | h
          · exact h (hT.trans hT0)
          · rw [hh0] at h; exact hz (Option.some.inj h.2))
        clear hh0 hT h48 hne hl2 hz
        cases ha : Lib.atoiAll l with
        | ok v =>
          have C := Lib.hid (fun W => Tryz.strconv_Atoi_ok s (by omega) v (by rw [hl]; exact ha) W)
          have HX : Hid (clsP l = if 254 < v then (1, 0) else (0, v)) := Lib.hid (by unfold clsP; rw [if_neg HC.out, ha])
          clear ha
          by_cases hv : 254 < v
          · have HX2 := Lib.hid (HX.out.trans (if_pos hv))
            go_enter Tryz.func141, Tryz.ntmps141
            go_wp2_with fail
            refine CT.out.mono ?_
            rintro e w1 ⟨rfl, hb⟩
            have HB := Lib.hid hb
            clear hb CT
            go_wp2_with (go_at_call 195; refine (C.out _).mono ?_; rintro e w2 ⟨rfl, hb2⟩)
            go_ret2
            rw [HX2.out]
            refine ⟨rfl, ?_⟩
            rcases hb2 with rfl | ⟨t, rfl⟩
            · exact HB.out
            · exact HB.out.trans ((Lib.bytesWorld_below _ _ _).mono HB.out.size)
          · have hv2 : v ≤ 254 := by omega
            have HX2 := Lib.hid (HX.out.trans (if_neg hv))
            go_enter Tryz.func141, Tryz.ntmps141
            go_wp2_with fail
            refine CT.out.mono ?_
            rintro e w1 ⟨rfl, hb⟩
            have HB := Lib.hid hb
            clear hb CT
            go_wp2_with (go_at_call 195; refine (C.out _).mono ?_; rintro e w2 ⟨rfl, hb2⟩)
            go_ret2
            rw [HX2.out]
            refine ⟨rfl, ?_⟩
            rcases hb2 with rfl | ⟨t, rfl⟩
            · exact HB.out
            · exact HB.out.trans ((Lib.bytesWorld_below _ _ _).mono HB.out.size)
        | range =>
          have C := Lib.hid (fun W ev h1 h2 => Tryz.strconv_Atoi_range s (by omega) (by rw [hl]; exact ha) ev W h1 h2)
          have HX : Hid (clsP l = (1, 0)) := Lib.hid (by unfold clsP; rw [if_neg HC.out, ha])
          clear ha
          go_enter Tryz.func141, Tryz.ntmps141
          go_wp2_with fail
          refine CT.out.mono ?_
          rintro e w1 ⟨rfl, hb⟩
          have HB := Lib.hid hb
          clear hb CT
          obtain ⟨⟨t1, p1, v1⟩, t2, p2, v2⟩ := HV.out.below HB.out
          have C2 := Lib.hid (C.out w1 _ v2 (.inr ⟨_, _, rfl⟩))
          clear v1 v2 C
          go_wp2_with (go_at_call 195; refine C2.out.mono ?_; rintro e w2 ⟨N, rfl, _, _, hb2⟩)
          go_ret2
          rw [HX.out]
          exact ⟨rfl, HB.out.trans (hb2.mono HB.out.size)⟩
        | _ =>
          have C := Lib.hid (fun W ev h1 h2 => Tryz.strconv_Atoi_syntax s (by omega) (by rw [hl]; exact ha) ev W h1 h2)
          have HX : Hid (clsP l = (1, 0)) := Lib.hid (by unfold clsP; rw [if_neg HC.out, ha])
          clear ha
          go_enter Tryz.func141, Tryz.ntmps141
          go_wp2_with fail
          refine CT.out.mono ?_
          rintro e w1 ⟨rfl, hb⟩
          have HB := Lib.hid hb
          clear hb CT
          obtain ⟨⟨t1, p1, v1⟩, t2, p2, v2⟩ := HV.out.below HB.out
          have C2 := Lib.hid (C.out w1 _ v1 (.inr ⟨_, _, rfl⟩))
          clear v1 v2 C
          go_wp2_with (go_at_call 195; refine C2.out.mono ?_; rintro e w2 ⟨N, rfl, _, _, hb2⟩)
          go_ret2
          rw [HX.out]
          exact ⟨rfl, HB.out.trans (hb2.mono HB.out.size)⟩
  · have e0 : T.isEmpty = false := by
      cases T with
      | nil => exact absurd rfl hT0
      | cons => rfl
    have HX : Hid (clsP l = (11, 0)) := Lib.hid (by unfold clsP; rw [if_pos (.inl (by rw [hT]; exact hT0))])
    clear hh0 hT hne hl2
    go_enter Tryz.func141, Tryz.ntmps141
    go_wp2_with fail
    refine CT.out.mono ?_
    rintro e w1 ⟨rfl, hb⟩
    have HB := Lib.hid hb
    clear hb CT
    go_wp2
    go_ret2
    rw [HX.out]
    exact ⟨rfl, HB.out⟩

abbrev kdN : List (List UInt8) := [[111, 116, 104, 101, 114], [108, 101, 116, 116, 101, 114], [100, 105, 103, 105, 116], [109, 97, 114, 107], [115, 112, 97, 99, 101], [99, 111, 110, 116, 114, 111, 108], [106, 111, 105, 110, 101, 114], [109, 105, 100, 100, 108, 101]]
def kndP (l : List UInt8) : Nat × Nat := match kdN.findIdx? (fun x => x == l) with
  | some k => (0, k)
  | none => (12, 0)
def KTab (w : World) : Prop := ∀ k (hk : k < 8), w.cell? ⟨3, k, none⟩ = some (.string ⟨(kdN[k]'hk).toArray⟩)
theorem KTab.below {A B : World} (h : KTab A) (hb : Below A.heap.size A B) : KTab B := fun k hk => (hb.cell (lt_of_cell (h k hk))).trans (h k hk)

set_option maxRecDepth 100000 in
set_option maxHeartbeats 2000000 in
theorem pkind (s : ByteArray) (w : World) (hK : KTab w) :
    Calls Tryz.prog 142 #[.string s] w fun e w' => e = .returned (.tuple #[.int .i64 (kndP s.data.toList).2, .int .i64 (kndP s.data.toList).1]) ∧ w' = w := by
  have hl2 : s.toList = s.data.toList := ByteArray.toList_eq s
  obtain ⟨l, hl⟩ : ∃ l, s.data.toList = l := ⟨_, rfl⟩
  rw [hl] at hl2 ⊢
  have c0 : w.cell? ⟨3, 0, none⟩ = some (.string ⟨#[111, 116, 104, 101, 114]⟩) := hK 0 (by decide)
  have c1 : w.cell? ⟨3, 1, none⟩ = some (.string ⟨#[108, 101, 116, 116, 101, 114]⟩) := hK 1 (by decide)
  have c2 : w.cell? ⟨3, 2, none⟩ = some (.string ⟨#[100, 105, 103, 105, 116]⟩) := hK 2 (by decide)
  have c3 : w.cell? ⟨3, 3, none⟩ = some (.string ⟨#[109, 97, 114, 107]⟩) := hK 3 (by decide)
  have c4 : w.cell? ⟨3, 4, none⟩ = some (.string ⟨#[115, 112, 97, 99, 101]⟩) := hK 4 (by decide)
  have c5 : w.cell? ⟨3, 5, none⟩ = some (.string ⟨#[99, 111, 110, 116, 114, 111, 108]⟩) := hK 5 (by decide)
  have c6 : w.cell? ⟨3, 6, none⟩ = some (.string ⟨#[106, 111, 105, 110, 101, 114]⟩) := hK 6 (by decide)
  have c7 : w.cell? ⟨3, 7, none⟩ = some (.string ⟨#[109, 105, 100, 100, 108, 101]⟩) := hK 7 (by decide)
  have x0 : ∀ W, (Instr.index 164 (.agg #[.string ⟨#[111, 116, 104, 101, 114]⟩, .string ⟨#[108, 101, 116, 116, 101, 114]⟩, .string ⟨#[100, 105, 103, 105, 116]⟩, .string ⟨#[109, 97, 114, 107]⟩, .string ⟨#[115, 112, 97, 99, 101]⟩, .string ⟨#[99, 111, 110, 116, 114, 111, 108]⟩, .string ⟨#[106, 111, 105, 110, 101, 114]⟩, .string ⟨#[109, 105, 100, 100, 108, 101]⟩]) (.int .i64 0)).run Tryz.prog W = .ok (.string ⟨#[111, 116, 104, 101, 114]⟩) W := fun W => by kernel_rfl
  have x1 : ∀ W, (Instr.index 164 (.agg #[.string ⟨#[111, 116, 104, 101, 114]⟩, .string ⟨#[108, 101, 116, 116, 101, 114]⟩, .string ⟨#[100, 105, 103, 105, 116]⟩, .string ⟨#[109, 97, 114, 107]⟩, .string ⟨#[115, 112, 97, 99, 101]⟩, .string ⟨#[99, 111, 110, 116, 114, 111, 108]⟩, .string ⟨#[106, 111, 105, 110, 101, 114]⟩, .string ⟨#[109, 105, 100, 100, 108, 101]⟩]) (.int .i64 1)).run Tryz.prog W = .ok (.string ⟨#[108, 101, 116, 116, 101, 114]⟩) W := fun W => by kernel_rfl
  have x2 : ∀ W, (Instr.index 164 (.agg #[.string ⟨#[111, 116, 104, 101, 114]⟩, .string ⟨#[108, 101, 116, 116, 101, 114]⟩, .string ⟨#[100, 105, 103, 105, 116]⟩, .string ⟨#[109, 97, 114, 107]⟩, .string ⟨#[115, 112, 97, 99, 101]⟩, .string ⟨#[99, 111, 110, 116, 114, 111, 108]⟩, .string ⟨#[106, 111, 105, 110, 101, 114]⟩, .string ⟨#[109, 105, 100, 100, 108, 101]⟩]) (.int .i64 2)).run Tryz.prog W = .ok (.string ⟨#[100, 105, 103, 105, 116]⟩) W := fun W => by kernel_rfl
  have x3 : ∀ W, (Instr.index 164 (.agg #[.string ⟨#[111, 116, 104, 101, 114]⟩, .string ⟨#[108, 101, 116, 116, 101, 114]⟩, .string ⟨#[100, 105, 103, 105, 116]⟩, .string ⟨#[109, 97, 114, 107]⟩, .string ⟨#[115, 112, 97, 99, 101]⟩, .string ⟨#[99, 111, 110, 116, 114, 111, 108]⟩, .string ⟨#[106, 111, 105, 110, 101, 114]⟩, .string ⟨#[109, 105, 100, 100, 108, 101]⟩]) (.int .i64 3)).run Tryz.prog W = .ok (.string ⟨#[109, 97, 114, 107]⟩) W := fun W => by kernel_rfl
  have x4 : ∀ W, (Instr.index 164 (.agg #[.string ⟨#[111, 116, 104, 101, 114]⟩, .string ⟨#[108, 101, 116, 116, 101, 114]⟩, .string ⟨#[100, 105, 103, 105, 116]⟩, .string ⟨#[109, 97, 114, 107]⟩, .string ⟨#[115, 112, 97, 99, 101]⟩, .string ⟨#[99, 111, 110, 116, 114, 111, 108]⟩, .string ⟨#[106, 111, 105, 110, 101, 114]⟩, .string ⟨#[109, 105, 100, 100, 108, 101]⟩]) (.int .i64 4)).run Tryz.prog W = .ok (.string ⟨#[115, 112, 97, 99, 101]⟩) W := fun W => by kernel_rfl
  have x5 : ∀ W, (Instr.index 164 (.agg #[.string ⟨#[111, 116, 104, 101, 114]⟩, .string ⟨#[108, 101, 116, 116, 101, 114]⟩, .string ⟨#[100, 105, 103, 105, 116]⟩, .string ⟨#[109, 97, 114, 107]⟩, .string ⟨#[115, 112, 97, 99, 101]⟩, .string ⟨#[99, 111, 110, 116, 114, 111, 108]⟩, .string ⟨#[106, 111, 105, 110, 101, 114]⟩, .string ⟨#[109, 105, 100, 100, 108, 101]⟩]) (.int .i64 5)).run Tryz.prog W = .ok (.string ⟨#[99, 111, 110, 116, 114, 111, 108]⟩) W := fun W => by kernel_rfl
  have x6 : ∀ W, (Instr.index 164 (.agg #[.string ⟨#[111, 116, 104, 101, 114]⟩, .string ⟨#[108, 101, 116, 116, 101, 114]⟩, .string ⟨#[100, 105, 103, 105, 116]⟩, .string ⟨#[109, 97, 114, 107]⟩, .string ⟨#[115, 112, 97, 99, 101]⟩, .string ⟨#[99, 111, 110, 116, 114, 111, 108]⟩, .string ⟨#[106, 111, 105, 110, 101, 114]⟩, .string ⟨#[109, 105, 100, 100, 108, 101]⟩]) (.int .i64 6)).run Tryz.prog W = .ok (.string ⟨#[106, 111, 105, 110, 101, 114]⟩) W := fun W => by kernel_rfl
  have x7 : ∀ W, (Instr.index 164 (.agg #[.string ⟨#[111, 116, 104, 101, 114]⟩, .string ⟨#[108, 101, 116, 116, 101, 114]⟩, .string ⟨#[100, 105, 103, 105, 116]⟩, .string ⟨#[109, 97, 114, 107]⟩, .string ⟨#[115, 112, 97, 99, 101]⟩, .string ⟨#[99, 111, 110, 116, 114, 111, 108]⟩, .string ⟨#[106, 111, 105, 110, 101, 114]⟩, .string ⟨#[109, 105, 100, 100, 108, 101]⟩]) (.int .i64 7)).run Tryz.prog W = .ok (.string ⟨#[109, 105, 100, 100, 108, 101]⟩) W := fun W => by kernel_rfl
  clear hK hl
  go_enter Tryz.func142, Tryz.ntmps142
  go_wp2
  go_loopw [7] (fun vi wr => ∃ i : Nat, vi = .int .i64 i ∧ i ≤ 8 ∧ Hid (∀ k (hk : k < 8), k < i → kdN[k]'hk ≠ l) ∧ wr = w) (fun vi _ => 8 - (RowKit.intOf vi).toNat)
  case atStart => exact ⟨0, rfl, by omega, Lib.hid (fun k _ h => absurd h (by omega)), rfl⟩
  case round =>
    obtain ⟨i, hv, hi, hh, rfl⟩ := hrel
    rcases (by omega : i = 0 ∨ i = 1 ∨ i = 2 ∨ i = 3 ∨ i = 4 ∨ i = 5 ∨ i = 6 ∨ i = 7 ∨ i = 8) with rfl | rfl | rfl | rfl | rfl | rfl | rfl | rfl | rfl
    · replace hv := hv.trans (show Value.int .i64 ((0 : Nat) : Int) = .int .i64 0 from rfl)
      subst hv
      by_cases hk : l = [111, 116, 104, 101, 114]
      · have HX : Hid (kndP l = (0, 0)) := Lib.hid (by rw [hk]; rfl)
        have b1 : ([111, 116, 104, 101, 114] == l) = true := by rw [hk]; rfl
        clear hk
        go_wp2
        go_ret2
        rw [HX.out]
        exact ⟨rfl, rfl⟩
      · have HQ : Hid (∀ k (hk : k < 8), k < 1 → kdN[k]'hk ≠ l) := Lib.hid (fun j h1 h2 => by
          rcases Nat.lt_or_ge j 0 with h3 | h3
          · exact hh.out j h1 h3
          · have e : j = 0 := by omega
            subst e
            exact fun e => hk e.symm)
        have b1 : ([111, 116, 104, 101, 114] == l) = false := beq_eq_false_iff_ne.2 (fun e => hk e.symm)
        clear hh hk
        go_wp2
        go_roundw
        case rel => exact ⟨1, rfl, by omega, HQ, by trivial⟩
        case measure => simp [RowKit.intOf]
    · replace hv := hv.trans (show Value.int .i64 ((1 : Nat) : Int) = .int .i64 1 from rfl)
      subst hv
      by_cases hk : l = [108, 101, 116, 116, 101, 114]
      · have HX : Hid (kndP l = (0, 1)) := Lib.hid (by rw [hk]; rfl)
        have b1 : ([108, 101, 116, 116, 101, 114] == l) = true := by rw [hk]; rfl
        clear hk
        go_wp2
        go_ret2
        rw [HX.out]
        exact ⟨rfl, rfl⟩
      · have HQ : Hid (∀ k (hk : k < 8), k < 2 → kdN[k]'hk ≠ l) := Lib.hid (fun j h1 h2 => by
          rcases Nat.lt_or_ge j 1 with h3 | h3
          · exact hh.out j h1 h3
          · have e : j = 1 := by omega
            subst e
            exact fun e => hk e.symm)
        have b1 : ([108, 101, 116, 116, 101, 114] == l) = false := beq_eq_false_iff_ne.2 (fun e => hk e.symm)
        clear hh hk
        go_wp2
        go_roundw
        case rel => exact ⟨2, rfl, by omega, HQ, by trivial⟩
        case measure => simp [RowKit.intOf]
    · replace hv := hv.trans (show Value.int .i64 ((2 : Nat) : Int) = .int .i64 2 from rfl)
      subst hv
      by_cases hk : l = [100, 105, 103, 105, 116]
      · have HX : Hid (kndP l = (0, 2)) := Lib.hid (by rw [hk]; rfl)
        have b1 : ([100, 105, 103, 105, 116] == l) = true := by rw [hk]; rfl
        clear hk
        go_wp2
        go_ret2
        rw [HX.out]
        exact ⟨rfl, rfl⟩
      · have HQ : Hid (∀ k (hk : k < 8), k < 3 → kdN[k]'hk ≠ l) := Lib.hid (fun j h1 h2 => by
          rcases Nat.lt_or_ge j 2 with h3 | h3
          · exact hh.out j h1 h3
          · have e : j = 2 := by omega
            subst e
            exact fun e => hk e.symm)
        have b1 : ([100, 105, 103, 105, 116] == l) = false := beq_eq_false_iff_ne.2 (fun e => hk e.symm)
        clear hh hk
        go_wp2
        go_roundw
        case rel => exact ⟨3, rfl, by omega, HQ, by trivial⟩
        case measure => simp [RowKit.intOf]
    · replace hv := hv.trans (show Value.int .i64 ((3 : Nat) : Int) = .int .i64 3 from rfl)
      subst hv
      by_cases hk : l = [109, 97, 114, 107]
      · have HX : Hid (kndP l = (0, 3)) := Lib.hid (by rw [hk]; rfl)
        have b1 : ([109, 97, 114, 107] == l) = true := by rw [hk]; rfl
        clear hk
        go_wp2
        go_ret2
        rw [HX.out]
        exact ⟨rfl, rfl⟩
      · have HQ : Hid (∀ k (hk : k < 8), k < 4 → kdN[k]'hk ≠ l) := Lib.hid (fun j h1 h2 => by
          rcases Nat.lt_or_ge j 3 with h3 | h3
          · exact hh.out j h1 h3
          · have e : j = 3 := by omega
            subst e
            exact fun e => hk e.symm)
        have b1 : ([109, 97, 114, 107] == l) = false := beq_eq_false_iff_ne.2 (fun e => hk e.symm)
        clear hh hk
        go_wp2
        go_roundw
        case rel => exact ⟨4, rfl, by omega, HQ, by trivial⟩
        case measure => simp [RowKit.intOf]
    · replace hv := hv.trans (show Value.int .i64 ((4 : Nat) : Int) = .int .i64 4 from rfl)
      subst hv
      by_cases hk : l = [115, 112, 97, 99, 101]
      · have HX : Hid (kndP l = (0, 4)) := Lib.hid (by rw [hk]; rfl)
        have b1 : ([115, 112, 97, 99, 101] == l) = true := by rw [hk]; rfl
        clear hk
        go_wp2
        go_ret2
        rw [HX.out]
        exact ⟨rfl, rfl⟩
      · have HQ : Hid (∀ k (hk : k < 8), k < 5 → kdN[k]'hk ≠ l) := Lib.hid (fun j h1 h2 => by
          rcases Nat.lt_or_ge j 4 with h3 | h3
          · exact hh.out j h1 h3
          · have e : j = 4 := by omega
            subst e
            exact fun e => hk e.symm)
        have b1 : ([115, 112, 97, 99, 101] == l) = false := beq_eq_false_iff_ne.2 (fun e => hk e.symm)
        clear hh hk
        go_wp2
        go_roundw
        case rel => exact ⟨5, rfl, by omega, HQ, by trivial⟩
        case measure => simp [RowKit.intOf]
    · replace hv := hv.trans (show Value.int .i64 ((5 : Nat) : Int) = .int .i64 5 from rfl)
      subst hv
      by_cases hk : l = [99, 111, 110, 116, 114, 111, 108]
      · have HX : Hid (kndP l = (0, 5)) := Lib.hid (by rw [hk]; rfl)
        have b1 : ([99, 111, 110, 116, 114, 111, 108] == l) = true := by rw [hk]; rfl
        clear hk
        go_wp2
        go_ret2
        rw [HX.out]
        exact ⟨rfl, rfl⟩
      · have HQ : Hid (∀ k (hk : k < 8), k < 6 → kdN[k]'hk ≠ l) := Lib.hid (fun j h1 h2 => by
          rcases Nat.lt_or_ge j 5 with h3 | h3
          · exact hh.out j h1 h3
          · have e : j = 5 := by omega
            subst e
            exact fun e => hk e.symm)
        have b1 : ([99, 111, 110, 116, 114, 111, 108] == l) = false := beq_eq_false_iff_ne.2 (fun e => hk e.symm)
        clear hh hk
        go_wp2
        go_roundw
        case rel => exact ⟨6, rfl, by omega, HQ, by trivial⟩
        case measure => simp [RowKit.intOf]
    · replace hv := hv.trans (show Value.int .i64 ((6 : Nat) : Int) = .int .i64 6 from rfl)
      subst hv
      by_cases hk : l = [106, 111, 105, 110, 101, 114]
      · have HX : Hid (kndP l = (0, 6)) := Lib.hid (by rw [hk]; rfl)
        have b1 : ([106, 111, 105, 110, 101, 114] == l) = true := by rw [hk]; rfl
        clear hk
        go_wp2
        go_ret2
        rw [HX.out]
        exact ⟨rfl, rfl⟩
      · have HQ : Hid (∀ k (hk : k < 8), k < 7 → kdN[k]'hk ≠ l) := Lib.hid (fun j h1 h2 => by
          rcases Nat.lt_or_ge j 6 with h3 | h3
          · exact hh.out j h1 h3
          · have e : j = 6 := by omega
            subst e
            exact fun e => hk e.symm)
        have b1 : ([106, 111, 105, 110, 101, 114] == l) = false := beq_eq_false_iff_ne.2 (fun e => hk e.symm)
        clear hh hk
        go_wp2
        go_roundw
        case rel => exact ⟨7, rfl, by omega, HQ, by trivial⟩
        case measure => simp [RowKit.intOf]
    · replace hv := hv.trans (show Value.int .i64 ((7 : Nat) : Int) = .int .i64 7 from rfl)
      subst hv
      by_cases hk : l = [109, 105, 100, 100, 108, 101]
      · have HX : Hid (kndP l = (0, 7)) := Lib.hid (by rw [hk]; rfl)
        have b1 : ([109, 105, 100, 100, 108, 101] == l) = true := by rw [hk]; rfl
        clear hk
        go_wp2
        go_ret2
        rw [HX.out]
        exact ⟨rfl, rfl⟩
      · have HQ : Hid (∀ k (hk : k < 8), k < 8 → kdN[k]'hk ≠ l) := Lib.hid (fun j h1 h2 => by
          rcases Nat.lt_or_ge j 7 with h3 | h3
          · exact hh.out j h1 h3
          · have e : j = 7 := by omega
            subst e
            exact fun e => hk e.symm)
        have b1 : ([109, 105, 100, 100, 108, 101] == l) = false := beq_eq_false_iff_ne.2 (fun e => hk e.symm)
        clear hh hk
        go_wp2
        go_roundw
        case rel => exact ⟨8, rfl, by omega, HQ, by trivial⟩
        case measure => simp [RowKit.intOf]
    · replace hv := hv.trans (show Value.int .i64 ((8 : Nat) : Int) = .int .i64 8 from rfl)
      subst hv
      have HX : Hid (kndP l = (12, 0)) := Lib.hid (by
        unfold kndP
        rw [List.findIdx?_eq_none_iff.2 (fun x hx => ?_)]
        obtain ⟨k, hk, rfl⟩ := List.getElem_of_mem hx
        exact beq_eq_false_iff_ne.2 (hh.out k hk hk))
      go_wp2
      go_ret2
      rw [HX.out]
      exact ⟨rfl, rfl⟩
end Go.Proofs.YtfpfpaaojdodnaaGreatDoor

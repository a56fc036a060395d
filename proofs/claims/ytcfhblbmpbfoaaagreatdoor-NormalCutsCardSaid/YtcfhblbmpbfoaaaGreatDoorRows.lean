/-
  NARROWER THAN 'FOR EVERY INPUT', by the rows' own cells (each row's printed sentence says how): NormalRows: laid · NormalTexts: laid · NormalStreams: laid · NormalTwice: laid · NormalCuts: laid · NormalPieces: laid · NormalBytes: laid.
  DERIVED. THE GIVEN ROWS OF THIS SEAT. 7 by the template 'for every input the law returns true; each argument reads behind the call as it read before'; 0 by the template 'total and deterministic' (their statements: YtcfhblbmpbfoaaaGreatDoorTotals.lean).
  GIVEN WITH THE SEED: the statements are not yours to turn. If you find one false, say at which input.
  Laid BY PROGRAM, IN A SANDBOX (cutbox-rows.mjs): the forced cells as the released guide's own fill.sh prints them over the translation b2294e7f96c2623c… (all of the seat's roots in one cut). By AI agents, Wed Nov 11 2026. No macro, syntax, notation, axiom, sorry.
-/
import Derived.Test.YtcfhblbmpbfoaaaGreatDoorChecked
import GoSem.PinnedTables
import GoSem.Claim
import GoSem.ClaimJoined
import GoSem.ClaimMapViews
import Derived.JoinedTies
import Derived.KernelRfl
namespace Go.Proofs.YtcfhblbmpbfoaaaGreatDoor
/- THE CELL 'sum', in the pinned program and in every row, IS THE sha256 OF THE DUMP (.gsa) THAT YtcfhblbmpbfoaaaGreatDoorProg.lean LOADS. Nothing in Lean hashes anything: it is a label: what it is worth is what the hold of that sum in a sandbox is worth. -/
noncomputable def Tryz.pinned : Pinned := { name := "ytcfhblbmpbfoaaagreatdoor", sum := "b2294e7f96c2623c2d659783e28368132b4317de25b083d4621842086b378532", checked := Tryz.checked }
namespace Rows
def none {H : Type} : Left H := { results := [], args := [] }

/- WHAT THE LISTED PACKAGE-LEVEL VARIABLES READ AS WHEN THE CALL BEGINS. Each datum BY PROGRAM (the guide's laid-datum.mjs) off the statement by which the dump's own 'gosem.cut.vars' lays the variable. In a bare row this is a premise. The card (YtcfhblbmpbfoaaaGreatDoorCards.lean) ties it to the program's text. -/
def laid_glossary_glossaryref06_kinds {H : Type} : DataW H := .agg [.lit (.string [111, 116, 104, 101, 114]), .lit (.string [108, 101, 116, 116, 101, 114]), .lit (.string [100, 105, 103, 105, 116]), .lit (.string [109, 97, 114, 107]), .lit (.string [115, 112, 97, 99, 101]), .lit (.string [99, 111, 110, 116, 114, 111, 108]), .lit (.string [106, 111, 105, 110, 101, 114]), .lit (.string [109, 105, 100, 100, 108, 101])]
def laid_math_bits_deBruijn32tab {H : Type} : DataW H := .agg [.lit (.int .u8 0), .lit (.int .u8 1), .lit (.int .u8 28), .lit (.int .u8 2), .lit (.int .u8 29), .lit (.int .u8 14), .lit (.int .u8 24), .lit (.int .u8 3), .lit (.int .u8 30), .lit (.int .u8 22), .lit (.int .u8 20), .lit (.int .u8 15), .lit (.int .u8 25), .lit (.int .u8 17), .lit (.int .u8 4), .lit (.int .u8 8), .lit (.int .u8 31), .lit (.int .u8 27), .lit (.int .u8 13), .lit (.int .u8 23), .lit (.int .u8 21), .lit (.int .u8 19), .lit (.int .u8 16), .lit (.int .u8 7), .lit (.int .u8 26), .lit (.int .u8 12), .lit (.int .u8 18), .lit (.int .u8 6), .lit (.int .u8 11), .lit (.int .u8 5), .lit (.int .u8 10), .lit (.int .u8 9)]
def laid_math_bits_deBruijn64tab {H : Type} : DataW H := .agg [.lit (.int .u8 0), .lit (.int .u8 1), .lit (.int .u8 56), .lit (.int .u8 2), .lit (.int .u8 57), .lit (.int .u8 49), .lit (.int .u8 28), .lit (.int .u8 3), .lit (.int .u8 61), .lit (.int .u8 58), .lit (.int .u8 42), .lit (.int .u8 50), .lit (.int .u8 38), .lit (.int .u8 29), .lit (.int .u8 17), .lit (.int .u8 4), .lit (.int .u8 62), .lit (.int .u8 47), .lit (.int .u8 59), .lit (.int .u8 36), .lit (.int .u8 45), .lit (.int .u8 43), .lit (.int .u8 51), .lit (.int .u8 22), .lit (.int .u8 53), .lit (.int .u8 39), .lit (.int .u8 33), .lit (.int .u8 30), .lit (.int .u8 24), .lit (.int .u8 18), .lit (.int .u8 12), .lit (.int .u8 5), .lit (.int .u8 63), .lit (.int .u8 55), .lit (.int .u8 48), .lit (.int .u8 27), .lit (.int .u8 60), .lit (.int .u8 41), .lit (.int .u8 37), .lit (.int .u8 16), .lit (.int .u8 46), .lit (.int .u8 35), .lit (.int .u8 44), .lit (.int .u8 21), .lit (.int .u8 52), .lit (.int .u8 32), .lit (.int .u8 23), .lit (.int .u8 11), .lit (.int .u8 54), .lit (.int .u8 26), .lit (.int .u8 40), .lit (.int .u8 15), .lit (.int .u8 34), .lit (.int .u8 20), .lit (.int .u8 31), .lit (.int .u8 10), .lit (.int .u8 25), .lit (.int .u8 14), .lit (.int .u8 19), .lit (.int .u8 9), .lit (.int .u8 13), .lit (.int .u8 8), .lit (.int .u8 7), .lit (.int .u8 6)]
def laid_internal_strconv_uint64pow10 {H : Type} : DataW H := .agg [.lit (.int .u64 1), .lit (.int .u64 10), .lit (.int .u64 100), .lit (.int .u64 1000), .lit (.int .u64 10000), .lit (.int .u64 100000), .lit (.int .u64 1000000), .lit (.int .u64 10000000), .lit (.int .u64 100000000), .lit (.int .u64 1000000000), .lit (.int .u64 10000000000), .lit (.int .u64 100000000000), .lit (.int .u64 1000000000000), .lit (.int .u64 10000000000000), .lit (.int .u64 100000000000000), .lit (.int .u64 1000000000000000), .lit (.int .u64 10000000000000000), .lit (.int .u64 100000000000000000), .lit (.int .u64 1000000000000000000), .lit (.int .u64 10000000000000000000)]
def laid_unicode_utf8_acceptRanges {H : Type} : DataW H := .agg [.agg [.lit (.int .u8 128), .lit (.int .u8 191)], .agg [.lit (.int .u8 160), .lit (.int .u8 191)], .agg [.lit (.int .u8 128), .lit (.int .u8 159)], .agg [.lit (.int .u8 144), .lit (.int .u8 191)], .agg [.lit (.int .u8 128), .lit (.int .u8 143)], .agg [.lit (.int .u8 0), .lit (.int .u8 0)], .agg [.lit (.int .u8 0), .lit (.int .u8 0)], .agg [.lit (.int .u8 0), .lit (.int .u8 0)], .agg [.lit (.int .u8 0), .lit (.int .u8 0)], .agg [.lit (.int .u8 0), .lit (.int .u8 0)], .agg [.lit (.int .u8 0), .lit (.int .u8 0)], .agg [.lit (.int .u8 0), .lit (.int .u8 0)], .agg [.lit (.int .u8 0), .lit (.int .u8 0)], .agg [.lit (.int .u8 0), .lit (.int .u8 0)], .agg [.lit (.int .u8 0), .lit (.int .u8 0)], .agg [.lit (.int .u8 0), .lit (.int .u8 0)]]
def laid_strconv_ErrRange {H : Type} : DataW H := .iface "*errors.errorString" (.ptr (.agg [.lit (.string [118, 97, 108, 117, 101, 32, 111, 117, 116, 32, 111, 102, 32, 114, 97, 110, 103, 101])]))
def laid_strconv_ErrSyntax {H : Type} : DataW H := .iface "*errors.errorString" (.ptr (.agg [.lit (.string [105, 110, 118, 97, 108, 105, 100, 32, 115, 121, 110, 116, 97, 120])]))
def laid_glossary_props_kinds {H : Type} : DataW H := .agg [.lit (.string [111, 116, 104, 101, 114]), .lit (.string [108, 101, 116, 116, 101, 114]), .lit (.string [100, 105, 103, 105, 116]), .lit (.string [109, 97, 114, 107]), .lit (.string [115, 112, 97, 99, 101]), .lit (.string [99, 111, 110, 116, 114, 111, 108]), .lit (.string [106, 111, 105, 110, 101, 114]), .lit (.string [109, 105, 100, 100, 108, 101])]
/-- One of Go's own tables, pinned by name: the form's constant. -/
def laid_unicode_utf8_first : DataW Unit := Go.Pinned.utf8First

/-- 'glossarylaw07.NormalRows': WHATEVER THE INPUT: true; the input reads as it did. -/
def normalRowsSpec : ChangeSpec := { name := "normalRows", fn := fun _ => fun
  | [d1, d2] => { results := [.lit (.bool true)], args := [d1, d2] }
  | _ => none }
def normalRowsRow : OpenClaim := { program := "ytcfhblbmpbfoaaagreatdoor", sum := "b2294e7f96c2623c2d659783e28368132b4317de25b083d4621842086b378532", func := "glossary/glossarylaw07.NormalRows", spec := "normalRows", inPlace := ["internal/bytealg.CountString", "internal/bytealg.IndexByteString", "internal/bytealg.IndexString", "internal/abi.NoEscape", "internal/bytealg.MakeNoZero"], unfollowed := true, recurses := true, named := ["glossary/glossaryref06.kinds", "internal/bytealg.MaxLen", "strconv.ErrSyntax", "strconv.ErrRange", "internal/strconv.uint64pow10", "math/bits.deBruijn32tab", "math/bits.deBruijn64tab", "unicode/utf8.first", "unicode/utf8.acceptRanges", "glossary/props.kinds"], plainKeys := false, apart := false, laid := [("glossary/glossaryref06.kinds", laid_glossary_glossaryref06_kinds), ("math/bits.deBruijn32tab", laid_math_bits_deBruijn32tab), ("math/bits.deBruijn64tab", laid_math_bits_deBruijn64tab), ("internal/strconv.uint64pow10", laid_internal_strconv_uint64pow10), ("unicode/utf8.acceptRanges", laid_unicode_utf8_acceptRanges), ("strconv.ErrRange", laid_strconv_ErrRange), ("strconv.ErrSyntax", laid_strconv_ErrSyntax), ("glossary/props.kinds", laid_glossary_props_kinds), ("unicode/utf8.first", laid_unicode_utf8_first)] }
def NormalRowsSaid : Prop := normalRowsRow.holds Tryz.pinned (OpenSpec.ofChange normalRowsSpec)

/-- ITS FALSE NEIGHBOUR: 'it returns false'. Refute it at one input. -/
def normalRowsWrong : ChangeSpec := { name := "normalRows", fn := fun _ => fun
  | [d1, d2] => { results := [.lit (.bool false)], args := [d1, d2] }
  | _ => none }
def NormalRowsWrongFalsely : Prop := normalRowsRow.holds Tryz.pinned (OpenSpec.ofChange normalRowsWrong)

/-- 'glossarylaw07.NormalTexts': WHATEVER THE INPUT: true; the input reads as it did. -/
def normalTextsSpec : ChangeSpec := { name := "normalTexts", fn := fun _ => fun
  | [d1, d2] => { results := [.lit (.bool true)], args := [d1, d2] }
  | _ => none }
def normalTextsRow : OpenClaim := { program := "ytcfhblbmpbfoaaagreatdoor", sum := "b2294e7f96c2623c2d659783e28368132b4317de25b083d4621842086b378532", func := "glossary/glossarylaw07.NormalTexts", spec := "normalTexts", inPlace := ["internal/bytealg.CountString", "internal/bytealg.IndexByteString", "internal/bytealg.IndexString", "internal/abi.NoEscape", "internal/bytealg.MakeNoZero"], unfollowed := true, recurses := true, named := ["glossary/glossaryref06.kinds", "internal/bytealg.MaxLen", "strconv.ErrSyntax", "strconv.ErrRange", "internal/strconv.uint64pow10", "math/bits.deBruijn32tab", "math/bits.deBruijn64tab", "unicode/utf8.first", "unicode/utf8.acceptRanges", "glossary/props.kinds"], plainKeys := false, apart := false, laid := [("glossary/glossaryref06.kinds", laid_glossary_glossaryref06_kinds), ("math/bits.deBruijn32tab", laid_math_bits_deBruijn32tab), ("math/bits.deBruijn64tab", laid_math_bits_deBruijn64tab), ("internal/strconv.uint64pow10", laid_internal_strconv_uint64pow10), ("unicode/utf8.acceptRanges", laid_unicode_utf8_acceptRanges), ("strconv.ErrRange", laid_strconv_ErrRange), ("strconv.ErrSyntax", laid_strconv_ErrSyntax), ("glossary/props.kinds", laid_glossary_props_kinds), ("unicode/utf8.first", laid_unicode_utf8_first)] }
def NormalTextsSaid : Prop := normalTextsRow.holds Tryz.pinned (OpenSpec.ofChange normalTextsSpec)

/-- ITS FALSE NEIGHBOUR: 'it returns false'. Refute it at one input. -/
def normalTextsWrong : ChangeSpec := { name := "normalTexts", fn := fun _ => fun
  | [d1, d2] => { results := [.lit (.bool false)], args := [d1, d2] }
  | _ => none }
def NormalTextsWrongFalsely : Prop := normalTextsRow.holds Tryz.pinned (OpenSpec.ofChange normalTextsWrong)

/-- 'glossarylaw07.NormalStreams': WHATEVER THE INPUT: true; the input reads as it did. -/
def normalStreamsSpec : ChangeSpec := { name := "normalStreams", fn := fun _ => fun
  | [d1, d2, d3] => { results := [.lit (.bool true)], args := [d1, d2, d3] }
  | _ => none }
def normalStreamsRow : OpenClaim := { program := "ytcfhblbmpbfoaaagreatdoor", sum := "b2294e7f96c2623c2d659783e28368132b4317de25b083d4621842086b378532", func := "glossary/glossarylaw07.NormalStreams", spec := "normalStreams", inPlace := ["internal/bytealg.CountString", "internal/bytealg.IndexByteString", "internal/bytealg.IndexString", "internal/abi.NoEscape", "internal/bytealg.MakeNoZero"], unfollowed := true, recurses := true, named := ["glossary/glossaryref06.kinds", "internal/bytealg.MaxLen", "strconv.ErrSyntax", "strconv.ErrRange", "internal/strconv.uint64pow10", "math/bits.deBruijn32tab", "math/bits.deBruijn64tab", "unicode/utf8.first", "unicode/utf8.acceptRanges", "glossary/props.kinds"], plainKeys := false, apart := false, laid := [("glossary/glossaryref06.kinds", laid_glossary_glossaryref06_kinds), ("math/bits.deBruijn32tab", laid_math_bits_deBruijn32tab), ("math/bits.deBruijn64tab", laid_math_bits_deBruijn64tab), ("internal/strconv.uint64pow10", laid_internal_strconv_uint64pow10), ("unicode/utf8.acceptRanges", laid_unicode_utf8_acceptRanges), ("strconv.ErrRange", laid_strconv_ErrRange), ("strconv.ErrSyntax", laid_strconv_ErrSyntax), ("glossary/props.kinds", laid_glossary_props_kinds), ("unicode/utf8.first", laid_unicode_utf8_first)] }
def NormalStreamsSaid : Prop := normalStreamsRow.holds Tryz.pinned (OpenSpec.ofChange normalStreamsSpec)

/-- ITS FALSE NEIGHBOUR: 'it returns false'. Refute it at one input. -/
def normalStreamsWrong : ChangeSpec := { name := "normalStreams", fn := fun _ => fun
  | [d1, d2, d3] => { results := [.lit (.bool false)], args := [d1, d2, d3] }
  | _ => none }
def NormalStreamsWrongFalsely : Prop := normalStreamsRow.holds Tryz.pinned (OpenSpec.ofChange normalStreamsWrong)

/-- 'glossarylaw07.NormalTwice': WHATEVER THE INPUT: true; the input reads as it did. -/
def normalTwiceSpec : ChangeSpec := { name := "normalTwice", fn := fun _ => fun
  | [d1, d2, d3] => { results := [.lit (.bool true)], args := [d1, d2, d3] }
  | _ => none }
def normalTwiceRow : OpenClaim := { program := "ytcfhblbmpbfoaaagreatdoor", sum := "b2294e7f96c2623c2d659783e28368132b4317de25b083d4621842086b378532", func := "glossary/glossarylaw07.NormalTwice", spec := "normalTwice", inPlace := ["internal/bytealg.CountString", "internal/bytealg.IndexByteString", "internal/bytealg.IndexString", "internal/abi.NoEscape", "internal/bytealg.MakeNoZero"], unfollowed := true, recurses := true, named := ["internal/bytealg.MaxLen", "strconv.ErrSyntax", "strconv.ErrRange", "internal/strconv.uint64pow10", "math/bits.deBruijn32tab", "math/bits.deBruijn64tab", "unicode/utf8.first", "unicode/utf8.acceptRanges", "glossary/props.kinds"], plainKeys := false, apart := false, laid := [("math/bits.deBruijn32tab", laid_math_bits_deBruijn32tab), ("math/bits.deBruijn64tab", laid_math_bits_deBruijn64tab), ("internal/strconv.uint64pow10", laid_internal_strconv_uint64pow10), ("unicode/utf8.acceptRanges", laid_unicode_utf8_acceptRanges), ("strconv.ErrRange", laid_strconv_ErrRange), ("strconv.ErrSyntax", laid_strconv_ErrSyntax), ("glossary/props.kinds", laid_glossary_props_kinds), ("unicode/utf8.first", laid_unicode_utf8_first)] }
def NormalTwiceSaid : Prop := normalTwiceRow.holds Tryz.pinned (OpenSpec.ofChange normalTwiceSpec)

/-- ITS FALSE NEIGHBOUR: 'it returns false'. Refute it at one input. -/
def normalTwiceWrong : ChangeSpec := { name := "normalTwice", fn := fun _ => fun
  | [d1, d2, d3] => { results := [.lit (.bool false)], args := [d1, d2, d3] }
  | _ => none }
def NormalTwiceWrongFalsely : Prop := normalTwiceRow.holds Tryz.pinned (OpenSpec.ofChange normalTwiceWrong)

/-- 'glossarylaw07.NormalCuts': WHATEVER THE INPUT: true; the input reads as it did. -/
def normalCutsSpec : ChangeSpec := { name := "normalCuts", fn := fun _ => fun
  | [d1, d2] => { results := [.lit (.bool true)], args := [d1, d2] }
  | _ => none }
def normalCutsRow : OpenClaim := { program := "ytcfhblbmpbfoaaagreatdoor", sum := "b2294e7f96c2623c2d659783e28368132b4317de25b083d4621842086b378532", func := "glossary/glossarylaw07.NormalCuts", spec := "normalCuts", inPlace := ["internal/bytealg.CountString", "internal/bytealg.IndexByteString", "internal/bytealg.IndexString", "internal/abi.NoEscape", "internal/bytealg.MakeNoZero"], unfollowed := true, recurses := true, named := ["internal/bytealg.MaxLen", "strconv.ErrSyntax", "strconv.ErrRange", "internal/strconv.uint64pow10", "math/bits.deBruijn32tab", "math/bits.deBruijn64tab", "unicode/utf8.first", "unicode/utf8.acceptRanges", "glossary/props.kinds"], plainKeys := false, apart := false, laid := [("math/bits.deBruijn32tab", laid_math_bits_deBruijn32tab), ("math/bits.deBruijn64tab", laid_math_bits_deBruijn64tab), ("internal/strconv.uint64pow10", laid_internal_strconv_uint64pow10), ("unicode/utf8.acceptRanges", laid_unicode_utf8_acceptRanges), ("strconv.ErrRange", laid_strconv_ErrRange), ("strconv.ErrSyntax", laid_strconv_ErrSyntax), ("glossary/props.kinds", laid_glossary_props_kinds), ("unicode/utf8.first", laid_unicode_utf8_first)] }
def NormalCutsSaid : Prop := normalCutsRow.holds Tryz.pinned (OpenSpec.ofChange normalCutsSpec)

/-- ITS FALSE NEIGHBOUR: 'it returns false'. Refute it at one input. -/
def normalCutsWrong : ChangeSpec := { name := "normalCuts", fn := fun _ => fun
  | [d1, d2] => { results := [.lit (.bool false)], args := [d1, d2] }
  | _ => none }
def NormalCutsWrongFalsely : Prop := normalCutsRow.holds Tryz.pinned (OpenSpec.ofChange normalCutsWrong)

/-- 'glossarylaw07.NormalPieces': WHATEVER THE INPUT: true; the input reads as it did. -/
def normalPiecesSpec : ChangeSpec := { name := "normalPieces", fn := fun _ => fun
  | [d1, d2, d3] => { results := [.lit (.bool true)], args := [d1, d2, d3] }
  | _ => none }
def normalPiecesRow : OpenClaim := { program := "ytcfhblbmpbfoaaagreatdoor", sum := "b2294e7f96c2623c2d659783e28368132b4317de25b083d4621842086b378532", func := "glossary/glossarylaw07.NormalPieces", spec := "normalPieces", inPlace := ["internal/bytealg.CountString", "internal/bytealg.IndexByteString", "internal/bytealg.IndexString", "internal/abi.NoEscape", "internal/bytealg.MakeNoZero"], unfollowed := true, recurses := true, named := ["internal/bytealg.MaxLen", "strconv.ErrSyntax", "strconv.ErrRange", "internal/strconv.uint64pow10", "math/bits.deBruijn32tab", "math/bits.deBruijn64tab", "unicode/utf8.first", "unicode/utf8.acceptRanges", "glossary/props.kinds"], plainKeys := false, apart := false, laid := [("math/bits.deBruijn32tab", laid_math_bits_deBruijn32tab), ("math/bits.deBruijn64tab", laid_math_bits_deBruijn64tab), ("internal/strconv.uint64pow10", laid_internal_strconv_uint64pow10), ("unicode/utf8.acceptRanges", laid_unicode_utf8_acceptRanges), ("strconv.ErrRange", laid_strconv_ErrRange), ("strconv.ErrSyntax", laid_strconv_ErrSyntax), ("glossary/props.kinds", laid_glossary_props_kinds), ("unicode/utf8.first", laid_unicode_utf8_first)] }
def NormalPiecesSaid : Prop := normalPiecesRow.holds Tryz.pinned (OpenSpec.ofChange normalPiecesSpec)

/-- ITS FALSE NEIGHBOUR: 'it returns false'. Refute it at one input. -/
def normalPiecesWrong : ChangeSpec := { name := "normalPieces", fn := fun _ => fun
  | [d1, d2, d3] => { results := [.lit (.bool false)], args := [d1, d2, d3] }
  | _ => none }
def NormalPiecesWrongFalsely : Prop := normalPiecesRow.holds Tryz.pinned (OpenSpec.ofChange normalPiecesWrong)

/-- 'glossarylaw07.NormalBytes': WHATEVER THE INPUT: true; the input reads as it did. -/
def normalBytesSpec : ChangeSpec := { name := "normalBytes", fn := fun _ => fun
  | [d1, d2] => { results := [.lit (.bool true)], args := [d1, d2] }
  | _ => none }
def normalBytesRow : OpenClaim := { program := "ytcfhblbmpbfoaaagreatdoor", sum := "b2294e7f96c2623c2d659783e28368132b4317de25b083d4621842086b378532", func := "glossary/glossarylaw07.NormalBytes", spec := "normalBytes", inPlace := ["internal/bytealg.CountString", "internal/bytealg.IndexByteString", "internal/bytealg.IndexString", "internal/abi.NoEscape", "internal/bytealg.MakeNoZero"], unfollowed := true, recurses := true, named := ["internal/bytealg.MaxLen", "strconv.ErrSyntax", "strconv.ErrRange", "internal/strconv.uint64pow10", "math/bits.deBruijn32tab", "math/bits.deBruijn64tab", "unicode/utf8.first", "unicode/utf8.acceptRanges", "glossary/props.kinds"], plainKeys := false, apart := false, laid := [("math/bits.deBruijn32tab", laid_math_bits_deBruijn32tab), ("math/bits.deBruijn64tab", laid_math_bits_deBruijn64tab), ("internal/strconv.uint64pow10", laid_internal_strconv_uint64pow10), ("unicode/utf8.acceptRanges", laid_unicode_utf8_acceptRanges), ("strconv.ErrRange", laid_strconv_ErrRange), ("strconv.ErrSyntax", laid_strconv_ErrSyntax), ("glossary/props.kinds", laid_glossary_props_kinds), ("unicode/utf8.first", laid_unicode_utf8_first)] }
def NormalBytesSaid : Prop := normalBytesRow.holds Tryz.pinned (OpenSpec.ofChange normalBytesSpec)

/-- ITS FALSE NEIGHBOUR: 'it returns false'. Refute it at one input. -/
def normalBytesWrong : ChangeSpec := { name := "normalBytes", fn := fun _ => fun
  | [d1, d2] => { results := [.lit (.bool false)], args := [d1, d2] }
  | _ => none }
def NormalBytesWrongFalsely : Prop := normalBytesRow.holds Tryz.pinned (OpenSpec.ofChange normalBytesWrong)

/- THE SECOND FORM. 'bulk': how many values and letters a reading holds, each counted each time it is reached (what is shared counts as often as it is met; a slice's spare places count too). A statement '..UptoSaid' is the law's where the arguments, and the package variables that the reading takes, are together of bulk at most 1048576: NARROWER than '..Said'. Prove '..Said' where nothing that the law and all that it calls make is longer than what came in: it says more and counts as full. Else prove '..UptoSaid'. A law counts once. -/
mutual
def uptoBulk {H : Type} : DataW H → Nat
  | .lit (.string bytes) => bytes.length + 1
  | .lit _ => 1
  | .nil => 1
  | .ptr d => uptoBulk d + 1
  | .slice elems spare => uptoBulkAll elems + uptoBulkAll spare + 1
  | .agg parts => uptoBulkAll parts + 1
  | .iface _ d => uptoBulk d + 1
  | .map entries => uptoBulkEntries entries + 1
  | .held _ => 1
def uptoBulkAll {H : Type} : List (DataW H) → Nat
  | [] => 0
  | d :: r => uptoBulk d + uptoBulkAll r
def uptoBulkEntries {H : Type} : List (Lit × DataW H) → Nat
  | [] => 0
  | x :: r => uptoBulkEntry x + uptoBulkEntries r
def uptoBulkEntry {H : Type} : Lit × DataW H → Nat
  | (.string bytes, d) => bytes.length + uptoBulk d + 1
  | (_, d) => uptoBulk d + 1
 end
def uptoSmall : (H : Type) → List (DataW H) → Bool := fun _ ds => decide (uptoBulkAll ds ≤ 1048576)
def OpenSpec.upto (s : _root_.Go.ChangeSpec) : _root_.Go.OpenSpec := { _root_.Go.OpenSpec.ofChange s with cond := some uptoSmall }

/-- 'glossarylaw07.NormalRows', WHERE WHAT IT READS IS OF BULK AT MOST 1048576: true; the input reads as it did. -/
def normalRowsUptoRow : OpenClaim := { program := "ytcfhblbmpbfoaaagreatdoor", sum := "b2294e7f96c2623c2d659783e28368132b4317de25b083d4621842086b378532", func := "glossary/glossarylaw07.NormalRows", spec := "normalRows", inPlace := ["internal/bytealg.CountString", "internal/bytealg.IndexByteString", "internal/bytealg.IndexString", "internal/abi.NoEscape", "internal/bytealg.MakeNoZero"], unfollowed := true, recurses := true, named := ["glossary/glossaryref06.kinds", "internal/bytealg.MaxLen", "strconv.ErrSyntax", "strconv.ErrRange", "internal/strconv.uint64pow10", "math/bits.deBruijn32tab", "math/bits.deBruijn64tab", "unicode/utf8.first", "unicode/utf8.acceptRanges", "glossary/props.kinds"], plainKeys := false, apart := false, laid := [("glossary/glossaryref06.kinds", laid_glossary_glossaryref06_kinds), ("math/bits.deBruijn32tab", laid_math_bits_deBruijn32tab), ("math/bits.deBruijn64tab", laid_math_bits_deBruijn64tab), ("internal/strconv.uint64pow10", laid_internal_strconv_uint64pow10), ("unicode/utf8.acceptRanges", laid_unicode_utf8_acceptRanges), ("strconv.ErrRange", laid_strconv_ErrRange), ("strconv.ErrSyntax", laid_strconv_ErrSyntax), ("glossary/props.kinds", laid_glossary_props_kinds), ("unicode/utf8.first", laid_unicode_utf8_first)], narrowed := true }
def NormalRowsUptoSaid : Prop := normalRowsUptoRow.holds Tryz.pinned (OpenSpec.upto normalRowsSpec)

/-- 'glossarylaw07.NormalTexts', WHERE WHAT IT READS IS OF BULK AT MOST 1048576: true; the input reads as it did. -/
def normalTextsUptoRow : OpenClaim := { program := "ytcfhblbmpbfoaaagreatdoor", sum := "b2294e7f96c2623c2d659783e28368132b4317de25b083d4621842086b378532", func := "glossary/glossarylaw07.NormalTexts", spec := "normalTexts", inPlace := ["internal/bytealg.CountString", "internal/bytealg.IndexByteString", "internal/bytealg.IndexString", "internal/abi.NoEscape", "internal/bytealg.MakeNoZero"], unfollowed := true, recurses := true, named := ["glossary/glossaryref06.kinds", "internal/bytealg.MaxLen", "strconv.ErrSyntax", "strconv.ErrRange", "internal/strconv.uint64pow10", "math/bits.deBruijn32tab", "math/bits.deBruijn64tab", "unicode/utf8.first", "unicode/utf8.acceptRanges", "glossary/props.kinds"], plainKeys := false, apart := false, laid := [("glossary/glossaryref06.kinds", laid_glossary_glossaryref06_kinds), ("math/bits.deBruijn32tab", laid_math_bits_deBruijn32tab), ("math/bits.deBruijn64tab", laid_math_bits_deBruijn64tab), ("internal/strconv.uint64pow10", laid_internal_strconv_uint64pow10), ("unicode/utf8.acceptRanges", laid_unicode_utf8_acceptRanges), ("strconv.ErrRange", laid_strconv_ErrRange), ("strconv.ErrSyntax", laid_strconv_ErrSyntax), ("glossary/props.kinds", laid_glossary_props_kinds), ("unicode/utf8.first", laid_unicode_utf8_first)], narrowed := true }
def NormalTextsUptoSaid : Prop := normalTextsUptoRow.holds Tryz.pinned (OpenSpec.upto normalTextsSpec)

/-- 'glossarylaw07.NormalStreams', WHERE WHAT IT READS IS OF BULK AT MOST 1048576: true; the input reads as it did. -/
def normalStreamsUptoRow : OpenClaim := { program := "ytcfhblbmpbfoaaagreatdoor", sum := "b2294e7f96c2623c2d659783e28368132b4317de25b083d4621842086b378532", func := "glossary/glossarylaw07.NormalStreams", spec := "normalStreams", inPlace := ["internal/bytealg.CountString", "internal/bytealg.IndexByteString", "internal/bytealg.IndexString", "internal/abi.NoEscape", "internal/bytealg.MakeNoZero"], unfollowed := true, recurses := true, named := ["glossary/glossaryref06.kinds", "internal/bytealg.MaxLen", "strconv.ErrSyntax", "strconv.ErrRange", "internal/strconv.uint64pow10", "math/bits.deBruijn32tab", "math/bits.deBruijn64tab", "unicode/utf8.first", "unicode/utf8.acceptRanges", "glossary/props.kinds"], plainKeys := false, apart := false, laid := [("glossary/glossaryref06.kinds", laid_glossary_glossaryref06_kinds), ("math/bits.deBruijn32tab", laid_math_bits_deBruijn32tab), ("math/bits.deBruijn64tab", laid_math_bits_deBruijn64tab), ("internal/strconv.uint64pow10", laid_internal_strconv_uint64pow10), ("unicode/utf8.acceptRanges", laid_unicode_utf8_acceptRanges), ("strconv.ErrRange", laid_strconv_ErrRange), ("strconv.ErrSyntax", laid_strconv_ErrSyntax), ("glossary/props.kinds", laid_glossary_props_kinds), ("unicode/utf8.first", laid_unicode_utf8_first)], narrowed := true }
def NormalStreamsUptoSaid : Prop := normalStreamsUptoRow.holds Tryz.pinned (OpenSpec.upto normalStreamsSpec)

/-- 'glossarylaw07.NormalTwice', WHERE WHAT IT READS IS OF BULK AT MOST 1048576: true; the input reads as it did. -/
def normalTwiceUptoRow : OpenClaim := { program := "ytcfhblbmpbfoaaagreatdoor", sum := "b2294e7f96c2623c2d659783e28368132b4317de25b083d4621842086b378532", func := "glossary/glossarylaw07.NormalTwice", spec := "normalTwice", inPlace := ["internal/bytealg.CountString", "internal/bytealg.IndexByteString", "internal/bytealg.IndexString", "internal/abi.NoEscape", "internal/bytealg.MakeNoZero"], unfollowed := true, recurses := true, named := ["internal/bytealg.MaxLen", "strconv.ErrSyntax", "strconv.ErrRange", "internal/strconv.uint64pow10", "math/bits.deBruijn32tab", "math/bits.deBruijn64tab", "unicode/utf8.first", "unicode/utf8.acceptRanges", "glossary/props.kinds"], plainKeys := false, apart := false, laid := [("math/bits.deBruijn32tab", laid_math_bits_deBruijn32tab), ("math/bits.deBruijn64tab", laid_math_bits_deBruijn64tab), ("internal/strconv.uint64pow10", laid_internal_strconv_uint64pow10), ("unicode/utf8.acceptRanges", laid_unicode_utf8_acceptRanges), ("strconv.ErrRange", laid_strconv_ErrRange), ("strconv.ErrSyntax", laid_strconv_ErrSyntax), ("glossary/props.kinds", laid_glossary_props_kinds), ("unicode/utf8.first", laid_unicode_utf8_first)], narrowed := true }
def NormalTwiceUptoSaid : Prop := normalTwiceUptoRow.holds Tryz.pinned (OpenSpec.upto normalTwiceSpec)

/-- 'glossarylaw07.NormalCuts', WHERE WHAT IT READS IS OF BULK AT MOST 1048576: true; the input reads as it did. -/
def normalCutsUptoRow : OpenClaim := { program := "ytcfhblbmpbfoaaagreatdoor", sum := "b2294e7f96c2623c2d659783e28368132b4317de25b083d4621842086b378532", func := "glossary/glossarylaw07.NormalCuts", spec := "normalCuts", inPlace := ["internal/bytealg.CountString", "internal/bytealg.IndexByteString", "internal/bytealg.IndexString", "internal/abi.NoEscape", "internal/bytealg.MakeNoZero"], unfollowed := true, recurses := true, named := ["internal/bytealg.MaxLen", "strconv.ErrSyntax", "strconv.ErrRange", "internal/strconv.uint64pow10", "math/bits.deBruijn32tab", "math/bits.deBruijn64tab", "unicode/utf8.first", "unicode/utf8.acceptRanges", "glossary/props.kinds"], plainKeys := false, apart := false, laid := [("math/bits.deBruijn32tab", laid_math_bits_deBruijn32tab), ("math/bits.deBruijn64tab", laid_math_bits_deBruijn64tab), ("internal/strconv.uint64pow10", laid_internal_strconv_uint64pow10), ("unicode/utf8.acceptRanges", laid_unicode_utf8_acceptRanges), ("strconv.ErrRange", laid_strconv_ErrRange), ("strconv.ErrSyntax", laid_strconv_ErrSyntax), ("glossary/props.kinds", laid_glossary_props_kinds), ("unicode/utf8.first", laid_unicode_utf8_first)], narrowed := true }
def NormalCutsUptoSaid : Prop := normalCutsUptoRow.holds Tryz.pinned (OpenSpec.upto normalCutsSpec)

/-- 'glossarylaw07.NormalPieces', WHERE WHAT IT READS IS OF BULK AT MOST 1048576: true; the input reads as it did. -/
def normalPiecesUptoRow : OpenClaim := { program := "ytcfhblbmpbfoaaagreatdoor", sum := "b2294e7f96c2623c2d659783e28368132b4317de25b083d4621842086b378532", func := "glossary/glossarylaw07.NormalPieces", spec := "normalPieces", inPlace := ["internal/bytealg.CountString", "internal/bytealg.IndexByteString", "internal/bytealg.IndexString", "internal/abi.NoEscape", "internal/bytealg.MakeNoZero"], unfollowed := true, recurses := true, named := ["internal/bytealg.MaxLen", "strconv.ErrSyntax", "strconv.ErrRange", "internal/strconv.uint64pow10", "math/bits.deBruijn32tab", "math/bits.deBruijn64tab", "unicode/utf8.first", "unicode/utf8.acceptRanges", "glossary/props.kinds"], plainKeys := false, apart := false, laid := [("math/bits.deBruijn32tab", laid_math_bits_deBruijn32tab), ("math/bits.deBruijn64tab", laid_math_bits_deBruijn64tab), ("internal/strconv.uint64pow10", laid_internal_strconv_uint64pow10), ("unicode/utf8.acceptRanges", laid_unicode_utf8_acceptRanges), ("strconv.ErrRange", laid_strconv_ErrRange), ("strconv.ErrSyntax", laid_strconv_ErrSyntax), ("glossary/props.kinds", laid_glossary_props_kinds), ("unicode/utf8.first", laid_unicode_utf8_first)], narrowed := true }
def NormalPiecesUptoSaid : Prop := normalPiecesUptoRow.holds Tryz.pinned (OpenSpec.upto normalPiecesSpec)

/-- 'glossarylaw07.NormalBytes', WHERE WHAT IT READS IS OF BULK AT MOST 1048576: true; the input reads as it did. -/
def normalBytesUptoRow : OpenClaim := { program := "ytcfhblbmpbfoaaagreatdoor", sum := "b2294e7f96c2623c2d659783e28368132b4317de25b083d4621842086b378532", func := "glossary/glossarylaw07.NormalBytes", spec := "normalBytes", inPlace := ["internal/bytealg.CountString", "internal/bytealg.IndexByteString", "internal/bytealg.IndexString", "internal/abi.NoEscape", "internal/bytealg.MakeNoZero"], unfollowed := true, recurses := true, named := ["internal/bytealg.MaxLen", "strconv.ErrSyntax", "strconv.ErrRange", "internal/strconv.uint64pow10", "math/bits.deBruijn32tab", "math/bits.deBruijn64tab", "unicode/utf8.first", "unicode/utf8.acceptRanges", "glossary/props.kinds"], plainKeys := false, apart := false, laid := [("math/bits.deBruijn32tab", laid_math_bits_deBruijn32tab), ("math/bits.deBruijn64tab", laid_math_bits_deBruijn64tab), ("internal/strconv.uint64pow10", laid_internal_strconv_uint64pow10), ("unicode/utf8.acceptRanges", laid_unicode_utf8_acceptRanges), ("strconv.ErrRange", laid_strconv_ErrRange), ("strconv.ErrSyntax", laid_strconv_ErrSyntax), ("glossary/props.kinds", laid_glossary_props_kinds), ("unicode/utf8.first", laid_unicode_utf8_first)], narrowed := true }
def NormalBytesUptoSaid : Prop := normalBytesUptoRow.holds Tryz.pinned (OpenSpec.upto normalBytesSpec)

end Rows
end Go.Proofs.YtcfhblbmpbfoaaaGreatDoor

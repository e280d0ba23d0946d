/-
  NARROWER THAN 'FOR EVERY INPUT', by the rows' own cells (each row's printed sentence says how): ResolveValues: loops, laid · ResolveReads: laid · ResolveSelf: loops, laid · ResolveTwice: loops, laid · ResolveBytes: loops, laid · ResolvePromotes: laid · ResolveFields: laid · ResolveSymbols: laid.
  DERIVED. THE GIVEN ROWS OF THIS SEAT. 8 by the template 'for every input the law returns true; each argument reads behind the call as it read before'; 0 by the template 'total and deterministic' (their statements: YtcmillbjpplfjaaGreatDoorTotals.lean).
  GIVEN WITH THE SEED: the statements are not yours to turn. If you find one false, say at which input.
  Laid BY PROGRAM, IN A SANDBOX (cutbox-rows.mjs): the forced cells as the released guide's own fill.sh prints them over the translation 7a948f4017ab5ec0… (all of the seat's roots in one cut). By AI agents, Wed Nov 11 2026. No macro, syntax, notation, axiom, sorry.
-/
import Derived.Test.YtcmillbjpplfjaaGreatDoorChecked
import GoSem.PinnedTables
import GoSem.Claim
import GoSem.ClaimJoined
import GoSem.ClaimMapViews
import Derived.JoinedTies
import Derived.KernelRfl
namespace Go.Proofs.YtcmillbjpplfjaaGreatDoor
/- THE CELL 'sum', in the pinned program and in every row, IS THE sha256 OF THE DUMP (.gsa) THAT YtcmillbjpplfjaaGreatDoorProg.lean LOADS. Nothing in Lean hashes anything: it is a label: what it is worth is what the hold of that sum in a sandbox is worth. -/
noncomputable def Tryz.pinned : Pinned := { name := "ytcmillbjpplfjaagreatdoor", sum := "7a948f4017ab5ec012c1422c9afdbbb51a07be0de132e79334329aef2541a6b8", checked := Tryz.checked }
namespace Rows
def none {H : Type} : Left H := { results := [], args := [] }

/- WHAT THE LISTED PACKAGE-LEVEL VARIABLES READ AS WHEN THE CALL BEGINS. Each datum BY PROGRAM (the guide's laid-datum.mjs) off the statement by which the dump's own 'gosem.cut.vars' lays the variable. In a bare row this is a premise. The card (YtcmillbjpplfjaaGreatDoorCards.lean) ties it to the program's text. -/
def laid_math_bits_deBruijn32tab {H : Type} : DataW H := .agg [.lit (.int .u8 0), .lit (.int .u8 1), .lit (.int .u8 28), .lit (.int .u8 2), .lit (.int .u8 29), .lit (.int .u8 14), .lit (.int .u8 24), .lit (.int .u8 3), .lit (.int .u8 30), .lit (.int .u8 22), .lit (.int .u8 20), .lit (.int .u8 15), .lit (.int .u8 25), .lit (.int .u8 17), .lit (.int .u8 4), .lit (.int .u8 8), .lit (.int .u8 31), .lit (.int .u8 27), .lit (.int .u8 13), .lit (.int .u8 23), .lit (.int .u8 21), .lit (.int .u8 19), .lit (.int .u8 16), .lit (.int .u8 7), .lit (.int .u8 26), .lit (.int .u8 12), .lit (.int .u8 18), .lit (.int .u8 6), .lit (.int .u8 11), .lit (.int .u8 5), .lit (.int .u8 10), .lit (.int .u8 9)]
def laid_math_bits_deBruijn64tab {H : Type} : DataW H := .agg [.lit (.int .u8 0), .lit (.int .u8 1), .lit (.int .u8 56), .lit (.int .u8 2), .lit (.int .u8 57), .lit (.int .u8 49), .lit (.int .u8 28), .lit (.int .u8 3), .lit (.int .u8 61), .lit (.int .u8 58), .lit (.int .u8 42), .lit (.int .u8 50), .lit (.int .u8 38), .lit (.int .u8 29), .lit (.int .u8 17), .lit (.int .u8 4), .lit (.int .u8 62), .lit (.int .u8 47), .lit (.int .u8 59), .lit (.int .u8 36), .lit (.int .u8 45), .lit (.int .u8 43), .lit (.int .u8 51), .lit (.int .u8 22), .lit (.int .u8 53), .lit (.int .u8 39), .lit (.int .u8 33), .lit (.int .u8 30), .lit (.int .u8 24), .lit (.int .u8 18), .lit (.int .u8 12), .lit (.int .u8 5), .lit (.int .u8 63), .lit (.int .u8 55), .lit (.int .u8 48), .lit (.int .u8 27), .lit (.int .u8 60), .lit (.int .u8 41), .lit (.int .u8 37), .lit (.int .u8 16), .lit (.int .u8 46), .lit (.int .u8 35), .lit (.int .u8 44), .lit (.int .u8 21), .lit (.int .u8 52), .lit (.int .u8 32), .lit (.int .u8 23), .lit (.int .u8 11), .lit (.int .u8 54), .lit (.int .u8 26), .lit (.int .u8 40), .lit (.int .u8 15), .lit (.int .u8 34), .lit (.int .u8 20), .lit (.int .u8 31), .lit (.int .u8 10), .lit (.int .u8 25), .lit (.int .u8 14), .lit (.int .u8 19), .lit (.int .u8 9), .lit (.int .u8 13), .lit (.int .u8 8), .lit (.int .u8 7), .lit (.int .u8 6)]
def laid_internal_strconv_uint64pow10 {H : Type} : DataW H := .agg [.lit (.int .u64 1), .lit (.int .u64 10), .lit (.int .u64 100), .lit (.int .u64 1000), .lit (.int .u64 10000), .lit (.int .u64 100000), .lit (.int .u64 1000000), .lit (.int .u64 10000000), .lit (.int .u64 100000000), .lit (.int .u64 1000000000), .lit (.int .u64 10000000000), .lit (.int .u64 100000000000), .lit (.int .u64 1000000000000), .lit (.int .u64 10000000000000), .lit (.int .u64 100000000000000), .lit (.int .u64 1000000000000000), .lit (.int .u64 10000000000000000), .lit (.int .u64 100000000000000000), .lit (.int .u64 1000000000000000000), .lit (.int .u64 10000000000000000000)]
def laid_unicode_utf8_acceptRanges {H : Type} : DataW H := .agg [.agg [.lit (.int .u8 128), .lit (.int .u8 191)], .agg [.lit (.int .u8 160), .lit (.int .u8 191)], .agg [.lit (.int .u8 128), .lit (.int .u8 159)], .agg [.lit (.int .u8 144), .lit (.int .u8 191)], .agg [.lit (.int .u8 128), .lit (.int .u8 143)], .agg [.lit (.int .u8 0), .lit (.int .u8 0)], .agg [.lit (.int .u8 0), .lit (.int .u8 0)], .agg [.lit (.int .u8 0), .lit (.int .u8 0)], .agg [.lit (.int .u8 0), .lit (.int .u8 0)], .agg [.lit (.int .u8 0), .lit (.int .u8 0)], .agg [.lit (.int .u8 0), .lit (.int .u8 0)], .agg [.lit (.int .u8 0), .lit (.int .u8 0)], .agg [.lit (.int .u8 0), .lit (.int .u8 0)], .agg [.lit (.int .u8 0), .lit (.int .u8 0)], .agg [.lit (.int .u8 0), .lit (.int .u8 0)], .agg [.lit (.int .u8 0), .lit (.int .u8 0)]]
def laid_strconv_ErrRange {H : Type} : DataW H := .iface "*errors.errorString" (.ptr (.agg [.lit (.string [118, 97, 108, 117, 101, 32, 111, 117, 116, 32, 111, 102, 32, 114, 97, 110, 103, 101])]))
def laid_strconv_ErrSyntax {H : Type} : DataW H := .iface "*errors.errorString" (.ptr (.agg [.lit (.string [105, 110, 118, 97, 108, 105, 100, 32, 115, 121, 110, 116, 97, 120])]))
def laid_courant_json_words {H : Type} : DataW H := .agg [.lit (.string []), .lit (.string [110, 117, 108, 108]), .lit (.string [102, 97, 108, 115, 101]), .lit (.string [116, 114, 117, 101])]
/-- One of Go's own tables, pinned by name: the form's constant. -/
def laid_unicode_utf8_first : DataW Unit := Go.Pinned.utf8First

/-- 'courantlaw10.ResolveValues': WHATEVER THE INPUT: true; the input reads as it did. -/
def resolveValuesSpec : ChangeSpec := { name := "resolveValues", fn := fun _ => fun
  | [d1, d2, d3] => { results := [.lit (.bool true)], args := [d1, d2, d3] }
  | _ => none }
def resolveValuesRow : OpenClaim := { program := "ytcmillbjpplfjaagreatdoor", sum := "7a948f4017ab5ec012c1422c9afdbbb51a07be0de132e79334329aef2541a6b8", func := "courant/courantlaw10.ResolveValues", spec := "resolveValues", unfollowed := true, recurses := true, named := ["unicode/utf8.first", "unicode/utf8.acceptRanges", "strconv.ErrSyntax", "strconv.ErrRange", "internal/strconv.uint64pow10", "math/bits.deBruijn32tab", "math/bits.deBruijn64tab", "courant/json.words"], loops := true, plainKeys := false, apart := false, laid := [("math/bits.deBruijn32tab", laid_math_bits_deBruijn32tab), ("math/bits.deBruijn64tab", laid_math_bits_deBruijn64tab), ("internal/strconv.uint64pow10", laid_internal_strconv_uint64pow10), ("unicode/utf8.acceptRanges", laid_unicode_utf8_acceptRanges), ("strconv.ErrRange", laid_strconv_ErrRange), ("strconv.ErrSyntax", laid_strconv_ErrSyntax), ("courant/json.words", laid_courant_json_words), ("unicode/utf8.first", laid_unicode_utf8_first)] }
def ResolveValuesSaid : Prop := resolveValuesRow.holds Tryz.pinned (OpenSpec.ofChange resolveValuesSpec)

/-- ITS FALSE NEIGHBOUR: 'it returns false'. Refute it at one input. -/
def resolveValuesWrong : ChangeSpec := { name := "resolveValues", fn := fun _ => fun
  | [d1, d2, d3] => { results := [.lit (.bool false)], args := [d1, d2, d3] }
  | _ => none }
def ResolveValuesWrongFalsely : Prop := resolveValuesRow.holds Tryz.pinned (OpenSpec.ofChange resolveValuesWrong)

/-- 'courantlaw10.ResolveReads': WHATEVER THE INPUT: true; the input reads as it did. -/
def resolveReadsSpec : ChangeSpec := { name := "resolveReads", fn := fun _ => fun
  | [d1, d2, d3] => { results := [.lit (.bool true)], args := [d1, d2, d3] }
  | _ => none }
def resolveReadsRow : OpenClaim := { program := "ytcmillbjpplfjaagreatdoor", sum := "7a948f4017ab5ec012c1422c9afdbbb51a07be0de132e79334329aef2541a6b8", func := "courant/courantlaw10.ResolveReads", spec := "resolveReads", unfollowed := true, recurses := true, named := ["unicode/utf8.first", "unicode/utf8.acceptRanges", "strconv.ErrSyntax", "strconv.ErrRange", "internal/strconv.uint64pow10", "math/bits.deBruijn32tab", "math/bits.deBruijn64tab", "courant/json.words"], plainKeys := false, apart := false, laid := [("math/bits.deBruijn32tab", laid_math_bits_deBruijn32tab), ("math/bits.deBruijn64tab", laid_math_bits_deBruijn64tab), ("internal/strconv.uint64pow10", laid_internal_strconv_uint64pow10), ("unicode/utf8.acceptRanges", laid_unicode_utf8_acceptRanges), ("strconv.ErrRange", laid_strconv_ErrRange), ("strconv.ErrSyntax", laid_strconv_ErrSyntax), ("courant/json.words", laid_courant_json_words), ("unicode/utf8.first", laid_unicode_utf8_first)] }
def ResolveReadsSaid : Prop := resolveReadsRow.holds Tryz.pinned (OpenSpec.ofChange resolveReadsSpec)

/-- ITS FALSE NEIGHBOUR: 'it returns false'. Refute it at one input. -/
def resolveReadsWrong : ChangeSpec := { name := "resolveReads", fn := fun _ => fun
  | [d1, d2, d3] => { results := [.lit (.bool false)], args := [d1, d2, d3] }
  | _ => none }
def ResolveReadsWrongFalsely : Prop := resolveReadsRow.holds Tryz.pinned (OpenSpec.ofChange resolveReadsWrong)

/-- 'courantlaw10.ResolveSelf': WHATEVER THE INPUT: true; the input reads as it did. -/
def resolveSelfSpec : ChangeSpec := { name := "resolveSelf", fn := fun _ => fun
  | [d1, d2, d3] => { results := [.lit (.bool true)], args := [d1, d2, d3] }
  | _ => none }
def resolveSelfRow : OpenClaim := { program := "ytcmillbjpplfjaagreatdoor", sum := "7a948f4017ab5ec012c1422c9afdbbb51a07be0de132e79334329aef2541a6b8", func := "courant/courantlaw10.ResolveSelf", spec := "resolveSelf", unfollowed := true, recurses := true, named := ["unicode/utf8.first", "unicode/utf8.acceptRanges", "strconv.ErrSyntax", "strconv.ErrRange", "internal/strconv.uint64pow10", "math/bits.deBruijn32tab", "math/bits.deBruijn64tab", "courant/json.words"], loops := true, plainKeys := false, apart := false, laid := [("math/bits.deBruijn32tab", laid_math_bits_deBruijn32tab), ("math/bits.deBruijn64tab", laid_math_bits_deBruijn64tab), ("internal/strconv.uint64pow10", laid_internal_strconv_uint64pow10), ("unicode/utf8.acceptRanges", laid_unicode_utf8_acceptRanges), ("strconv.ErrRange", laid_strconv_ErrRange), ("strconv.ErrSyntax", laid_strconv_ErrSyntax), ("courant/json.words", laid_courant_json_words), ("unicode/utf8.first", laid_unicode_utf8_first)] }
def ResolveSelfSaid : Prop := resolveSelfRow.holds Tryz.pinned (OpenSpec.ofChange resolveSelfSpec)

/-- ITS FALSE NEIGHBOUR: 'it returns false'. Refute it at one input. -/
def resolveSelfWrong : ChangeSpec := { name := "resolveSelf", fn := fun _ => fun
  | [d1, d2, d3] => { results := [.lit (.bool false)], args := [d1, d2, d3] }
  | _ => none }
def ResolveSelfWrongFalsely : Prop := resolveSelfRow.holds Tryz.pinned (OpenSpec.ofChange resolveSelfWrong)

/-- 'courantlaw10.ResolveTwice': WHATEVER THE INPUT: true; the input reads as it did. -/
def resolveTwiceSpec : ChangeSpec := { name := "resolveTwice", fn := fun _ => fun
  | [d1, d2, d3] => { results := [.lit (.bool true)], args := [d1, d2, d3] }
  | _ => none }
def resolveTwiceRow : OpenClaim := { program := "ytcmillbjpplfjaagreatdoor", sum := "7a948f4017ab5ec012c1422c9afdbbb51a07be0de132e79334329aef2541a6b8", func := "courant/courantlaw10.ResolveTwice", spec := "resolveTwice", unfollowed := true, recurses := true, named := ["unicode/utf8.first", "unicode/utf8.acceptRanges", "strconv.ErrSyntax", "strconv.ErrRange", "internal/strconv.uint64pow10", "math/bits.deBruijn32tab", "math/bits.deBruijn64tab", "courant/json.words"], loops := true, plainKeys := false, apart := false, laid := [("math/bits.deBruijn32tab", laid_math_bits_deBruijn32tab), ("math/bits.deBruijn64tab", laid_math_bits_deBruijn64tab), ("internal/strconv.uint64pow10", laid_internal_strconv_uint64pow10), ("unicode/utf8.acceptRanges", laid_unicode_utf8_acceptRanges), ("strconv.ErrRange", laid_strconv_ErrRange), ("strconv.ErrSyntax", laid_strconv_ErrSyntax), ("courant/json.words", laid_courant_json_words), ("unicode/utf8.first", laid_unicode_utf8_first)] }
def ResolveTwiceSaid : Prop := resolveTwiceRow.holds Tryz.pinned (OpenSpec.ofChange resolveTwiceSpec)

/-- ITS FALSE NEIGHBOUR: 'it returns false'. Refute it at one input. -/
def resolveTwiceWrong : ChangeSpec := { name := "resolveTwice", fn := fun _ => fun
  | [d1, d2, d3] => { results := [.lit (.bool false)], args := [d1, d2, d3] }
  | _ => none }
def ResolveTwiceWrongFalsely : Prop := resolveTwiceRow.holds Tryz.pinned (OpenSpec.ofChange resolveTwiceWrong)

/-- 'courantlaw10.ResolveBytes': WHATEVER THE INPUT: true; the input reads as it did. -/
def resolveBytesSpec : ChangeSpec := { name := "resolveBytes", fn := fun _ => fun
  | [d1, d2, d3] => { results := [.lit (.bool true)], args := [d1, d2, d3] }
  | _ => none }
def resolveBytesRow : OpenClaim := { program := "ytcmillbjpplfjaagreatdoor", sum := "7a948f4017ab5ec012c1422c9afdbbb51a07be0de132e79334329aef2541a6b8", func := "courant/courantlaw10.ResolveBytes", spec := "resolveBytes", unfollowed := true, recurses := true, named := ["unicode/utf8.first", "unicode/utf8.acceptRanges", "strconv.ErrSyntax", "strconv.ErrRange", "internal/strconv.uint64pow10", "math/bits.deBruijn32tab", "math/bits.deBruijn64tab", "courant/json.words"], loops := true, plainKeys := false, apart := false, laid := [("math/bits.deBruijn32tab", laid_math_bits_deBruijn32tab), ("math/bits.deBruijn64tab", laid_math_bits_deBruijn64tab), ("internal/strconv.uint64pow10", laid_internal_strconv_uint64pow10), ("unicode/utf8.acceptRanges", laid_unicode_utf8_acceptRanges), ("strconv.ErrRange", laid_strconv_ErrRange), ("strconv.ErrSyntax", laid_strconv_ErrSyntax), ("courant/json.words", laid_courant_json_words), ("unicode/utf8.first", laid_unicode_utf8_first)] }
def ResolveBytesSaid : Prop := resolveBytesRow.holds Tryz.pinned (OpenSpec.ofChange resolveBytesSpec)

/-- ITS FALSE NEIGHBOUR: 'it returns false'. Refute it at one input. -/
def resolveBytesWrong : ChangeSpec := { name := "resolveBytes", fn := fun _ => fun
  | [d1, d2, d3] => { results := [.lit (.bool false)], args := [d1, d2, d3] }
  | _ => none }
def ResolveBytesWrongFalsely : Prop := resolveBytesRow.holds Tryz.pinned (OpenSpec.ofChange resolveBytesWrong)

/-- 'courantlaw10.ResolvePromotes': WHATEVER THE INPUT: true; the input reads as it did. -/
def resolvePromotesSpec : ChangeSpec := { name := "resolvePromotes", fn := fun _ => fun
  | [d1, d2, d3, d4] => { results := [.lit (.bool true)], args := [d1, d2, d3, d4] }
  | _ => none }
def resolvePromotesRow : OpenClaim := { program := "ytcmillbjpplfjaagreatdoor", sum := "7a948f4017ab5ec012c1422c9afdbbb51a07be0de132e79334329aef2541a6b8", func := "courant/courantlaw10.ResolvePromotes", spec := "resolvePromotes", unfollowed := true, recurses := true, named := ["unicode/utf8.first", "unicode/utf8.acceptRanges", "strconv.ErrSyntax", "strconv.ErrRange", "internal/strconv.uint64pow10", "math/bits.deBruijn32tab", "math/bits.deBruijn64tab", "courant/json.words"], plainKeys := false, apart := false, laid := [("math/bits.deBruijn32tab", laid_math_bits_deBruijn32tab), ("math/bits.deBruijn64tab", laid_math_bits_deBruijn64tab), ("internal/strconv.uint64pow10", laid_internal_strconv_uint64pow10), ("unicode/utf8.acceptRanges", laid_unicode_utf8_acceptRanges), ("strconv.ErrRange", laid_strconv_ErrRange), ("strconv.ErrSyntax", laid_strconv_ErrSyntax), ("courant/json.words", laid_courant_json_words), ("unicode/utf8.first", laid_unicode_utf8_first)] }
def ResolvePromotesSaid : Prop := resolvePromotesRow.holds Tryz.pinned (OpenSpec.ofChange resolvePromotesSpec)

/-- ITS FALSE NEIGHBOUR: 'it returns false'. Refute it at one input. -/
def resolvePromotesWrong : ChangeSpec := { name := "resolvePromotes", fn := fun _ => fun
  | [d1, d2, d3, d4] => { results := [.lit (.bool false)], args := [d1, d2, d3, d4] }
  | _ => none }
def ResolvePromotesWrongFalsely : Prop := resolvePromotesRow.holds Tryz.pinned (OpenSpec.ofChange resolvePromotesWrong)

/-- 'courantlaw10.ResolveFields': WHATEVER THE INPUT: true; the input reads as it did. -/
def resolveFieldsSpec : ChangeSpec := { name := "resolveFields", fn := fun _ => fun
  | [d1, d2, d3] => { results := [.lit (.bool true)], args := [d1, d2, d3] }
  | _ => none }
def resolveFieldsRow : OpenClaim := { program := "ytcmillbjpplfjaagreatdoor", sum := "7a948f4017ab5ec012c1422c9afdbbb51a07be0de132e79334329aef2541a6b8", func := "courant/courantlaw10.ResolveFields", spec := "resolveFields", unfollowed := true, recurses := true, named := ["unicode/utf8.first", "unicode/utf8.acceptRanges", "strconv.ErrSyntax", "strconv.ErrRange", "internal/strconv.uint64pow10", "math/bits.deBruijn32tab", "math/bits.deBruijn64tab", "courant/json.words"], plainKeys := false, apart := false, laid := [("math/bits.deBruijn32tab", laid_math_bits_deBruijn32tab), ("math/bits.deBruijn64tab", laid_math_bits_deBruijn64tab), ("internal/strconv.uint64pow10", laid_internal_strconv_uint64pow10), ("unicode/utf8.acceptRanges", laid_unicode_utf8_acceptRanges), ("strconv.ErrRange", laid_strconv_ErrRange), ("strconv.ErrSyntax", laid_strconv_ErrSyntax), ("courant/json.words", laid_courant_json_words), ("unicode/utf8.first", laid_unicode_utf8_first)] }
def ResolveFieldsSaid : Prop := resolveFieldsRow.holds Tryz.pinned (OpenSpec.ofChange resolveFieldsSpec)

/-- ITS FALSE NEIGHBOUR: 'it returns false'. Refute it at one input. -/
def resolveFieldsWrong : ChangeSpec := { name := "resolveFields", fn := fun _ => fun
  | [d1, d2, d3] => { results := [.lit (.bool false)], args := [d1, d2, d3] }
  | _ => none }
def ResolveFieldsWrongFalsely : Prop := resolveFieldsRow.holds Tryz.pinned (OpenSpec.ofChange resolveFieldsWrong)

/-- 'courantlaw10.ResolveSymbols': WHATEVER THE INPUT: true; the input reads as it did. -/
def resolveSymbolsSpec : ChangeSpec := { name := "resolveSymbols", fn := fun _ => fun
  | [d1, d2, d3, d4, d5] => { results := [.lit (.bool true)], args := [d1, d2, d3, d4, d5] }
  | _ => none }
def resolveSymbolsRow : OpenClaim := { program := "ytcmillbjpplfjaagreatdoor", sum := "7a948f4017ab5ec012c1422c9afdbbb51a07be0de132e79334329aef2541a6b8", func := "courant/courantlaw10.ResolveSymbols", spec := "resolveSymbols", unfollowed := true, recurses := true, named := ["unicode/utf8.first", "unicode/utf8.acceptRanges", "strconv.ErrSyntax", "strconv.ErrRange", "internal/strconv.uint64pow10", "math/bits.deBruijn32tab", "math/bits.deBruijn64tab", "courant/json.words"], plainKeys := false, apart := false, laid := [("math/bits.deBruijn32tab", laid_math_bits_deBruijn32tab), ("math/bits.deBruijn64tab", laid_math_bits_deBruijn64tab), ("internal/strconv.uint64pow10", laid_internal_strconv_uint64pow10), ("unicode/utf8.acceptRanges", laid_unicode_utf8_acceptRanges), ("strconv.ErrRange", laid_strconv_ErrRange), ("strconv.ErrSyntax", laid_strconv_ErrSyntax), ("courant/json.words", laid_courant_json_words), ("unicode/utf8.first", laid_unicode_utf8_first)] }
def ResolveSymbolsSaid : Prop := resolveSymbolsRow.holds Tryz.pinned (OpenSpec.ofChange resolveSymbolsSpec)

/-- ITS FALSE NEIGHBOUR: 'it returns false'. Refute it at one input. -/
def resolveSymbolsWrong : ChangeSpec := { name := "resolveSymbols", fn := fun _ => fun
  | [d1, d2, d3, d4, d5] => { results := [.lit (.bool false)], args := [d1, d2, d3, d4, d5] }
  | _ => none }
def ResolveSymbolsWrongFalsely : Prop := resolveSymbolsRow.holds Tryz.pinned (OpenSpec.ofChange resolveSymbolsWrong)

/- THE SECOND FORM. 'bulk': how many values and letters a reading holds, each counted each time it is reached (what is shared counts as often as it is met; a slice's spare places count too). A statement '..UptoSaid' is the law's where the arguments, and the package variables that the reading takes, are together of bulk at most 1048576: NARROWER than '..Said'. Prove '..Said' where nothing that the law and all that it calls make is longer than what came in: it says more and counts as full. Else prove '..UptoSaid'. A law counts once. -/
mutual
def uptoBulk {H : Type} : DataW H → Nat
  | .lit (.string bytes) => bytes.length + 1
  | .lit _ => 1
  | .nil => 1
  | .ptr d => uptoBulk d + 1
  | .slice elems spare => uptoBulkAll elems + uptoBulkAll spare + 1
  | .agg parts => uptoBulkAll parts + 1
  | .iface _ d => uptoBulk d + 1
  | .map entries => uptoBulkEntries entries + 1
  | .held _ => 1
def uptoBulkAll {H : Type} : List (DataW H) → Nat
  | [] => 0
  | d :: r => uptoBulk d + uptoBulkAll r
def uptoBulkEntries {H : Type} : List (Lit × DataW H) → Nat
  | [] => 0
  | x :: r => uptoBulkEntry x + uptoBulkEntries r
def uptoBulkEntry {H : Type} : Lit × DataW H → Nat
  | (.string bytes, d) => bytes.length + uptoBulk d + 1
  | (_, d) => uptoBulk d + 1
 end
def uptoSmall : (H : Type) → List (DataW H) → Bool := fun _ ds => decide (uptoBulkAll ds ≤ 1048576)
def OpenSpec.upto (s : _root_.Go.ChangeSpec) : _root_.Go.OpenSpec := { _root_.Go.OpenSpec.ofChange s with cond := some uptoSmall }

/-- 'courantlaw10.ResolveValues', WHERE WHAT IT READS IS OF BULK AT MOST 1048576: true; the input reads as it did. -/
def resolveValuesUptoRow : OpenClaim := { program := "ytcmillbjpplfjaagreatdoor", sum := "7a948f4017ab5ec012c1422c9afdbbb51a07be0de132e79334329aef2541a6b8", func := "courant/courantlaw10.ResolveValues", spec := "resolveValues", unfollowed := true, recurses := true, named := ["unicode/utf8.first", "unicode/utf8.acceptRanges", "strconv.ErrSyntax", "strconv.ErrRange", "internal/strconv.uint64pow10", "math/bits.deBruijn32tab", "math/bits.deBruijn64tab", "courant/json.words"], loops := true, plainKeys := false, apart := false, laid := [("math/bits.deBruijn32tab", laid_math_bits_deBruijn32tab), ("math/bits.deBruijn64tab", laid_math_bits_deBruijn64tab), ("internal/strconv.uint64pow10", laid_internal_strconv_uint64pow10), ("unicode/utf8.acceptRanges", laid_unicode_utf8_acceptRanges), ("strconv.ErrRange", laid_strconv_ErrRange), ("strconv.ErrSyntax", laid_strconv_ErrSyntax), ("courant/json.words", laid_courant_json_words), ("unicode/utf8.first", laid_unicode_utf8_first)], narrowed := true }
def ResolveValuesUptoSaid : Prop := resolveValuesUptoRow.holds Tryz.pinned (OpenSpec.upto resolveValuesSpec)

/-- 'courantlaw10.ResolveReads', WHERE WHAT IT READS IS OF BULK AT MOST 1048576: true; the input reads as it did. -/
def resolveReadsUptoRow : OpenClaim := { program := "ytcmillbjpplfjaagreatdoor", sum := "7a948f4017ab5ec012c1422c9afdbbb51a07be0de132e79334329aef2541a6b8", func := "courant/courantlaw10.ResolveReads", spec := "resolveReads", unfollowed := true, recurses := true, named := ["unicode/utf8.first", "unicode/utf8.acceptRanges", "strconv.ErrSyntax", "strconv.ErrRange", "internal/strconv.uint64pow10", "math/bits.deBruijn32tab", "math/bits.deBruijn64tab", "courant/json.words"], plainKeys := false, apart := false, laid := [("math/bits.deBruijn32tab", laid_math_bits_deBruijn32tab), ("math/bits.deBruijn64tab", laid_math_bits_deBruijn64tab), ("internal/strconv.uint64pow10", laid_internal_strconv_uint64pow10), ("unicode/utf8.acceptRanges", laid_unicode_utf8_acceptRanges), ("strconv.ErrRange", laid_strconv_ErrRange), ("strconv.ErrSyntax", laid_strconv_ErrSyntax), ("courant/json.words", laid_courant_json_words), ("unicode/utf8.first", laid_unicode_utf8_first)], narrowed := true }
def ResolveReadsUptoSaid : Prop := resolveReadsUptoRow.holds Tryz.pinned (OpenSpec.upto resolveReadsSpec)

/-- 'courantlaw10.ResolveSelf', WHERE WHAT IT READS IS OF BULK AT MOST 1048576: true; the input reads as it did. -/
def resolveSelfUptoRow : OpenClaim := { program := "ytcmillbjpplfjaagreatdoor", sum := "7a948f4017ab5ec012c1422c9afdbbb51a07be0de132e79334329aef2541a6b8", func := "courant/courantlaw10.ResolveSelf", spec := "resolveSelf", unfollowed := true, recurses := true, named := ["unicode/utf8.first", "unicode/utf8.acceptRanges", "strconv.ErrSyntax", "strconv.ErrRange", "internal/strconv.uint64pow10", "math/bits.deBruijn32tab", "math/bits.deBruijn64tab", "courant/json.words"], loops := true, plainKeys := false, apart := false, laid := [("math/bits.deBruijn32tab", laid_math_bits_deBruijn32tab), ("math/bits.deBruijn64tab", laid_math_bits_deBruijn64tab), ("internal/strconv.uint64pow10", laid_internal_strconv_uint64pow10), ("unicode/utf8.acceptRanges", laid_unicode_utf8_acceptRanges), ("strconv.ErrRange", laid_strconv_ErrRange), ("strconv.ErrSyntax", laid_strconv_ErrSyntax), ("courant/json.words", laid_courant_json_words), ("unicode/utf8.first", laid_unicode_utf8_first)], narrowed := true }
def ResolveSelfUptoSaid : Prop := resolveSelfUptoRow.holds Tryz.pinned (OpenSpec.upto resolveSelfSpec)

/-- 'courantlaw10.ResolveTwice', WHERE WHAT IT READS IS OF BULK AT MOST 1048576: true; the input reads as it did. -/
def resolveTwiceUptoRow : OpenClaim := { program := "ytcmillbjpplfjaagreatdoor", sum := "7a948f4017ab5ec012c1422c9afdbbb51a07be0de132e79334329aef2541a6b8", func := "courant/courantlaw10.ResolveTwice", spec := "resolveTwice", unfollowed := true, recurses := true, named := ["unicode/utf8.first", "unicode/utf8.acceptRanges", "strconv.ErrSyntax", "strconv.ErrRange", "internal/strconv.uint64pow10", "math/bits.deBruijn32tab", "math/bits.deBruijn64tab", "courant/json.words"], loops := true, plainKeys := false, apart := false, laid := [("math/bits.deBruijn32tab", laid_math_bits_deBruijn32tab), ("math/bits.deBruijn64tab", laid_math_bits_deBruijn64tab), ("internal/strconv.uint64pow10", laid_internal_strconv_uint64pow10), ("unicode/utf8.acceptRanges", laid_unicode_utf8_acceptRanges), ("strconv.ErrRange", laid_strconv_ErrRange), ("strconv.ErrSyntax", laid_strconv_ErrSyntax), ("courant/json.words", laid_courant_json_words), ("unicode/utf8.first", laid_unicode_utf8_first)], narrowed := true }
def ResolveTwiceUptoSaid : Prop := resolveTwiceUptoRow.holds Tryz.pinned (OpenSpec.upto resolveTwiceSpec)

/-- 'courantlaw10.ResolveBytes', WHERE WHAT IT READS IS OF BULK AT MOST 1048576: true; the input reads as it did. -/
def resolveBytesUptoRow : OpenClaim := { program := "ytcmillbjpplfjaagreatdoor", sum := "7a948f4017ab5ec012c1422c9afdbbb51a07be0de132e79334329aef2541a6b8", func := "courant/courantlaw10.ResolveBytes", spec := "resolveBytes", unfollowed := true, recurses := true, named := ["unicode/utf8.first", "unicode/utf8.acceptRanges", "strconv.ErrSyntax", "strconv.ErrRange", "internal/strconv.uint64pow10", "math/bits.deBruijn32tab", "math/bits.deBruijn64tab", "courant/json.words"], loops := true, plainKeys := false, apart := false, laid := [("math/bits.deBruijn32tab", laid_math_bits_deBruijn32tab), ("math/bits.deBruijn64tab", laid_math_bits_deBruijn64tab), ("internal/strconv.uint64pow10", laid_internal_strconv_uint64pow10), ("unicode/utf8.acceptRanges", laid_unicode_utf8_acceptRanges), ("strconv.ErrRange", laid_strconv_ErrRange), ("strconv.ErrSyntax", laid_strconv_ErrSyntax), ("courant/json.words", laid_courant_json_words), ("unicode/utf8.first", laid_unicode_utf8_first)], narrowed := true }
def ResolveBytesUptoSaid : Prop := resolveBytesUptoRow.holds Tryz.pinned (OpenSpec.upto resolveBytesSpec)

/-- 'courantlaw10.ResolvePromotes', WHERE WHAT IT READS IS OF BULK AT MOST 1048576: true; the input reads as it did. -/
def resolvePromotesUptoRow : OpenClaim := { program := "ytcmillbjpplfjaagreatdoor", sum := "7a948f4017ab5ec012c1422c9afdbbb51a07be0de132e79334329aef2541a6b8", func := "courant/courantlaw10.ResolvePromotes", spec := "resolvePromotes", unfollowed := true, recurses := true, named := ["unicode/utf8.first", "unicode/utf8.acceptRanges", "strconv.ErrSyntax", "strconv.ErrRange", "internal/strconv.uint64pow10", "math/bits.deBruijn32tab", "math/bits.deBruijn64tab", "courant/json.words"], plainKeys := false, apart := false, laid := [("math/bits.deBruijn32tab", laid_math_bits_deBruijn32tab), ("math/bits.deBruijn64tab", laid_math_bits_deBruijn64tab), ("internal/strconv.uint64pow10", laid_internal_strconv_uint64pow10), ("unicode/utf8.acceptRanges", laid_unicode_utf8_acceptRanges), ("strconv.ErrRange", laid_strconv_ErrRange), ("strconv.ErrSyntax", laid_strconv_ErrSyntax), ("courant/json.words", laid_courant_json_words), ("unicode/utf8.first", laid_unicode_utf8_first)], narrowed := true }
def ResolvePromotesUptoSaid : Prop := resolvePromotesUptoRow.holds Tryz.pinned (OpenSpec.upto resolvePromotesSpec)

/-- 'courantlaw10.ResolveFields', WHERE WHAT IT READS IS OF BULK AT MOST 1048576: true; the input reads as it did. -/
def resolveFieldsUptoRow : OpenClaim := { program := "ytcmillbjpplfjaagreatdoor", sum := "7a948f4017ab5ec012c1422c9afdbbb51a07be0de132e79334329aef2541a6b8", func := "courant/courantlaw10.ResolveFields", spec := "resolveFields", unfollowed := true, recurses := true, named := ["unicode/utf8.first", "unicode/utf8.acceptRanges", "strconv.ErrSyntax", "strconv.ErrRange", "internal/strconv.uint64pow10", "math/bits.deBruijn32tab", "math/bits.deBruijn64tab", "courant/json.words"], plainKeys := false, apart := false, laid := [("math/bits.deBruijn32tab", laid_math_bits_deBruijn32tab), ("math/bits.deBruijn64tab", laid_math_bits_deBruijn64tab), ("internal/strconv.uint64pow10", laid_internal_strconv_uint64pow10), ("unicode/utf8.acceptRanges", laid_unicode_utf8_acceptRanges), ("strconv.ErrRange", laid_strconv_ErrRange), ("strconv.ErrSyntax", laid_strconv_ErrSyntax), ("courant/json.words", laid_courant_json_words), ("unicode/utf8.first", laid_unicode_utf8_first)], narrowed := true }
def ResolveFieldsUptoSaid : Prop := resolveFieldsUptoRow.holds Tryz.pinned (OpenSpec.upto resolveFieldsSpec)

/-- 'courantlaw10.ResolveSymbols', WHERE WHAT IT READS IS OF BULK AT MOST 1048576: true; the input reads as it did. -/
def resolveSymbolsUptoRow : OpenClaim := { program := "ytcmillbjpplfjaagreatdoor", sum := "7a948f4017ab5ec012c1422c9afdbbb51a07be0de132e79334329aef2541a6b8", func := "courant/courantlaw10.ResolveSymbols", spec := "resolveSymbols", unfollowed := true, recurses := true, named := ["unicode/utf8.first", "unicode/utf8.acceptRanges", "strconv.ErrSyntax", "strconv.ErrRange", "internal/strconv.uint64pow10", "math/bits.deBruijn32tab", "math/bits.deBruijn64tab", "courant/json.words"], plainKeys := false, apart := false, laid := [("math/bits.deBruijn32tab", laid_math_bits_deBruijn32tab), ("math/bits.deBruijn64tab", laid_math_bits_deBruijn64tab), ("internal/strconv.uint64pow10", laid_internal_strconv_uint64pow10), ("unicode/utf8.acceptRanges", laid_unicode_utf8_acceptRanges), ("strconv.ErrRange", laid_strconv_ErrRange), ("strconv.ErrSyntax", laid_strconv_ErrSyntax), ("courant/json.words", laid_courant_json_words), ("unicode/utf8.first", laid_unicode_utf8_first)], narrowed := true }
def ResolveSymbolsUptoSaid : Prop := resolveSymbolsUptoRow.holds Tryz.pinned (OpenSpec.upto resolveSymbolsSpec)

end Rows
end Go.Proofs.YtcmillbjpplfjaaGreatDoor

/-
  NARROWER THAN 'FOR EVERY INPUT', by the rows' own cells (each row's printed sentence says how): FnExactSettled: laid · FnExactPart: laid · FnExactReadDag: laid · FnSettled: laid · FnLacking: laid · FnBehind: laid · FnHeads: laid · FnNodes: laid · FnDagTexts: laid · FnDagParts: laid · FnOrdered: laid · FnDocs: laid.
  DERIVED. THE GIVEN ROWS OF THIS SEAT. 12 by the template 'for every input the law returns true; each argument reads behind the call as it read before'; 0 by the template 'total and deterministic' (their statements: YtlibipbpaigmdaaGreatDoorTotals.lean).
  GIVEN WITH THE SEED: the statements are not yours to turn. If you find one false, say at which input.
  Laid BY PROGRAM, IN A SANDBOX (cutbox-rows.mjs): the forced cells as the released guide's own fill.sh prints them over the translation b5b0e18b257a458b… (all of the seat's roots in one cut). By AI agents, Wed Nov 11 2026. No macro, syntax, notation, axiom, sorry.
-/
import Derived.Test.YtlibipbpaigmdaaGreatDoorChecked
import GoSem.PinnedTables
import GoSem.Claim
import GoSem.ClaimJoined
import GoSem.ClaimMapViews
import Derived.JoinedTies
import Derived.KernelRfl
namespace Go.Proofs.YtlibipbpaigmdaaGreatDoor
/- THE CELL 'sum', in the pinned program and in every row, IS THE sha256 OF THE DUMP (.gsa) THAT YtlibipbpaigmdaaGreatDoorProg.lean LOADS. Nothing in Lean hashes anything: it is a label: what it is worth is what the hold of that sum in a sandbox is worth. -/
noncomputable def Tryz.pinned : Pinned := { name := "ytlibipbpaigmdaagreatdoor", sum := "b5b0e18b257a458b92df5fcf16fb5d508150b1038aef32bbdd69d2a727b478d5", checked := Tryz.checked }
namespace Rows
def none {H : Type} : Left H := { results := [], args := [] }

/- WHAT THE LISTED PACKAGE-LEVEL VARIABLES READ AS WHEN THE CALL BEGINS. Each datum BY PROGRAM (the guide's laid-datum.mjs) off the statement by which the dump's own 'gosem.cut.vars' lays the variable. In a bare row this is a premise. The card (YtlibipbpaigmdaaGreatDoorCards.lean) ties it to the program's text. -/
def laid_math_bits_deBruijn32tab {H : Type} : DataW H := .agg [.lit (.int .u8 0), .lit (.int .u8 1), .lit (.int .u8 28), .lit (.int .u8 2), .lit (.int .u8 29), .lit (.int .u8 14), .lit (.int .u8 24), .lit (.int .u8 3), .lit (.int .u8 30), .lit (.int .u8 22), .lit (.int .u8 20), .lit (.int .u8 15), .lit (.int .u8 25), .lit (.int .u8 17), .lit (.int .u8 4), .lit (.int .u8 8), .lit (.int .u8 31), .lit (.int .u8 27), .lit (.int .u8 13), .lit (.int .u8 23), .lit (.int .u8 21), .lit (.int .u8 19), .lit (.int .u8 16), .lit (.int .u8 7), .lit (.int .u8 26), .lit (.int .u8 12), .lit (.int .u8 18), .lit (.int .u8 6), .lit (.int .u8 11), .lit (.int .u8 5), .lit (.int .u8 10), .lit (.int .u8 9)]
def laid_math_bits_deBruijn64tab {H : Type} : DataW H := .agg [.lit (.int .u8 0), .lit (.int .u8 1), .lit (.int .u8 56), .lit (.int .u8 2), .lit (.int .u8 57), .lit (.int .u8 49), .lit (.int .u8 28), .lit (.int .u8 3), .lit (.int .u8 61), .lit (.int .u8 58), .lit (.int .u8 42), .lit (.int .u8 50), .lit (.int .u8 38), .lit (.int .u8 29), .lit (.int .u8 17), .lit (.int .u8 4), .lit (.int .u8 62), .lit (.int .u8 47), .lit (.int .u8 59), .lit (.int .u8 36), .lit (.int .u8 45), .lit (.int .u8 43), .lit (.int .u8 51), .lit (.int .u8 22), .lit (.int .u8 53), .lit (.int .u8 39), .lit (.int .u8 33), .lit (.int .u8 30), .lit (.int .u8 24), .lit (.int .u8 18), .lit (.int .u8 12), .lit (.int .u8 5), .lit (.int .u8 63), .lit (.int .u8 55), .lit (.int .u8 48), .lit (.int .u8 27), .lit (.int .u8 60), .lit (.int .u8 41), .lit (.int .u8 37), .lit (.int .u8 16), .lit (.int .u8 46), .lit (.int .u8 35), .lit (.int .u8 44), .lit (.int .u8 21), .lit (.int .u8 52), .lit (.int .u8 32), .lit (.int .u8 23), .lit (.int .u8 11), .lit (.int .u8 54), .lit (.int .u8 26), .lit (.int .u8 40), .lit (.int .u8 15), .lit (.int .u8 34), .lit (.int .u8 20), .lit (.int .u8 31), .lit (.int .u8 10), .lit (.int .u8 25), .lit (.int .u8 14), .lit (.int .u8 19), .lit (.int .u8 9), .lit (.int .u8 13), .lit (.int .u8 8), .lit (.int .u8 7), .lit (.int .u8 6)]
def laid_internal_strconv_uint64pow10 {H : Type} : DataW H := .agg [.lit (.int .u64 1), .lit (.int .u64 10), .lit (.int .u64 100), .lit (.int .u64 1000), .lit (.int .u64 10000), .lit (.int .u64 100000), .lit (.int .u64 1000000), .lit (.int .u64 10000000), .lit (.int .u64 100000000), .lit (.int .u64 1000000000), .lit (.int .u64 10000000000), .lit (.int .u64 100000000000), .lit (.int .u64 1000000000000), .lit (.int .u64 10000000000000), .lit (.int .u64 100000000000000), .lit (.int .u64 1000000000000000), .lit (.int .u64 10000000000000000), .lit (.int .u64 100000000000000000), .lit (.int .u64 1000000000000000000), .lit (.int .u64 10000000000000000000)]
def laid_unicode_utf8_acceptRanges {H : Type} : DataW H := .agg [.agg [.lit (.int .u8 128), .lit (.int .u8 191)], .agg [.lit (.int .u8 160), .lit (.int .u8 191)], .agg [.lit (.int .u8 128), .lit (.int .u8 159)], .agg [.lit (.int .u8 144), .lit (.int .u8 191)], .agg [.lit (.int .u8 128), .lit (.int .u8 143)], .agg [.lit (.int .u8 0), .lit (.int .u8 0)], .agg [.lit (.int .u8 0), .lit (.int .u8 0)], .agg [.lit (.int .u8 0), .lit (.int .u8 0)], .agg [.lit (.int .u8 0), .lit (.int .u8 0)], .agg [.lit (.int .u8 0), .lit (.int .u8 0)], .agg [.lit (.int .u8 0), .lit (.int .u8 0)], .agg [.lit (.int .u8 0), .lit (.int .u8 0)], .agg [.lit (.int .u8 0), .lit (.int .u8 0)], .agg [.lit (.int .u8 0), .lit (.int .u8 0)], .agg [.lit (.int .u8 0), .lit (.int .u8 0)], .agg [.lit (.int .u8 0), .lit (.int .u8 0)]]
def laid_loop_example_g00318_impl_startWords {H : Type} : DataW H := .agg [.lit (.int .u32 1779033703), .lit (.int .u32 3144134277), .lit (.int .u32 1013904242), .lit (.int .u32 2773480762), .lit (.int .u32 1359893119), .lit (.int .u32 2600822924), .lit (.int .u32 528734635), .lit (.int .u32 1541459225)]
def laid_loop_example_g00318_impl_roundWords {H : Type} : DataW H := .agg [.lit (.int .u32 1116352408), .lit (.int .u32 1899447441), .lit (.int .u32 3049323471), .lit (.int .u32 3921009573), .lit (.int .u32 961987163), .lit (.int .u32 1508970993), .lit (.int .u32 2453635748), .lit (.int .u32 2870763221), .lit (.int .u32 3624381080), .lit (.int .u32 310598401), .lit (.int .u32 607225278), .lit (.int .u32 1426881987), .lit (.int .u32 1925078388), .lit (.int .u32 2162078206), .lit (.int .u32 2614888103), .lit (.int .u32 3248222580), .lit (.int .u32 3835390401), .lit (.int .u32 4022224774), .lit (.int .u32 264347078), .lit (.int .u32 604807628), .lit (.int .u32 770255983), .lit (.int .u32 1249150122), .lit (.int .u32 1555081692), .lit (.int .u32 1996064986), .lit (.int .u32 2554220882), .lit (.int .u32 2821834349), .lit (.int .u32 2952996808), .lit (.int .u32 3210313671), .lit (.int .u32 3336571891), .lit (.int .u32 3584528711), .lit (.int .u32 113926993), .lit (.int .u32 338241895), .lit (.int .u32 666307205), .lit (.int .u32 773529912), .lit (.int .u32 1294757372), .lit (.int .u32 1396182291), .lit (.int .u32 1695183700), .lit (.int .u32 1986661051), .lit (.int .u32 2177026350), .lit (.int .u32 2456956037), .lit (.int .u32 2730485921), .lit (.int .u32 2820302411), .lit (.int .u32 3259730800), .lit (.int .u32 3345764771), .lit (.int .u32 3516065817), .lit (.int .u32 3600352804), .lit (.int .u32 4094571909), .lit (.int .u32 275423344), .lit (.int .u32 430227734), .lit (.int .u32 506948616), .lit (.int .u32 659060556), .lit (.int .u32 883997877), .lit (.int .u32 958139571), .lit (.int .u32 1322822218), .lit (.int .u32 1537002063), .lit (.int .u32 1747873779), .lit (.int .u32 1955562222), .lit (.int .u32 2024104815), .lit (.int .u32 2227730452), .lit (.int .u32 2361852424), .lit (.int .u32 2428436474), .lit (.int .u32 2756734187), .lit (.int .u32 3204031479), .lit (.int .u32 3329325298)]
/-- One of Go's own tables, pinned by name: the form's constant. -/
def laid_unicode_utf8_first : DataW Unit := Go.Pinned.utf8First

/-- 'laws.FnExactSettled': WHATEVER THE INPUT: true; the input reads as it did. -/
def fnExactSettledSpec : ChangeSpec := { name := "fnExactSettled", vars := ["loop.example/g00318/impl.startWords", "loop.example/g00318/impl.roundWords"], fn := fun _ => fun
  | [d1, d2, g1, g2] => { results := [.lit (.bool true)], args := [d1, d2], vars := [g1, g2] }
  | _ => none }
def fnExactSettledRow : OpenClaim := { program := "ytlibipbpaigmdaagreatdoor", sum := "b5b0e18b257a458b92df5fcf16fb5d508150b1038aef32bbdd69d2a727b478d5", func := "loop.example/g00318/laws.FnExactSettled", spec := "fnExactSettled", inPlace := ["internal/bytealg.IndexByteString", "internal/bytealg.IndexString", "internal/abi.NoEscape", "internal/bytealg.MakeNoZero"], unfollowed := true, recurses := true, named := ["unicode/utf8.first", "unicode/utf8.acceptRanges", "internal/strconv.uint64pow10", "math/bits.deBruijn32tab", "math/bits.deBruijn64tab", "loop.example/g00318/impl.startWords", "loop.example/g00318/impl.roundWords", "internal/bytealg.MaxLen"], apart := false, laid := [("math/bits.deBruijn32tab", laid_math_bits_deBruijn32tab), ("math/bits.deBruijn64tab", laid_math_bits_deBruijn64tab), ("internal/strconv.uint64pow10", laid_internal_strconv_uint64pow10), ("unicode/utf8.acceptRanges", laid_unicode_utf8_acceptRanges), ("loop.example/g00318/impl.startWords", laid_loop_example_g00318_impl_startWords), ("loop.example/g00318/impl.roundWords", laid_loop_example_g00318_impl_roundWords), ("unicode/utf8.first", laid_unicode_utf8_first)] }
def FnExactSettledSaid : Prop := fnExactSettledRow.holds Tryz.pinned (OpenSpec.ofChange fnExactSettledSpec)

/-- ITS FALSE NEIGHBOUR: 'it returns false'. Refute it at one input. -/
def fnExactSettledWrong : ChangeSpec := { name := "fnExactSettled", vars := ["loop.example/g00318/impl.startWords", "loop.example/g00318/impl.roundWords"], fn := fun _ => fun
  | [d1, d2, g1, g2] => { results := [.lit (.bool false)], args := [d1, d2], vars := [g1, g2] }
  | _ => none }
def FnExactSettledWrongFalsely : Prop := fnExactSettledRow.holds Tryz.pinned (OpenSpec.ofChange fnExactSettledWrong)

/-- 'laws.FnExactPart': WHATEVER THE INPUT: true; the input reads as it did. -/
def fnExactPartSpec : ChangeSpec := { name := "fnExactPart", vars := ["loop.example/g00318/impl.startWords", "loop.example/g00318/impl.roundWords"], fn := fun _ => fun
  | [d1, d2, g1, g2] => { results := [.lit (.bool true)], args := [d1, d2], vars := [g1, g2] }
  | _ => none }
def fnExactPartRow : OpenClaim := { program := "ytlibipbpaigmdaagreatdoor", sum := "b5b0e18b257a458b92df5fcf16fb5d508150b1038aef32bbdd69d2a727b478d5", func := "loop.example/g00318/laws.FnExactPart", spec := "fnExactPart", inPlace := ["internal/bytealg.IndexByteString", "internal/bytealg.IndexString", "internal/abi.NoEscape", "internal/bytealg.MakeNoZero"], unfollowed := true, recurses := true, named := ["unicode/utf8.first", "unicode/utf8.acceptRanges", "internal/strconv.uint64pow10", "math/bits.deBruijn32tab", "math/bits.deBruijn64tab", "loop.example/g00318/impl.startWords", "loop.example/g00318/impl.roundWords", "internal/bytealg.MaxLen"], apart := false, laid := [("math/bits.deBruijn32tab", laid_math_bits_deBruijn32tab), ("math/bits.deBruijn64tab", laid_math_bits_deBruijn64tab), ("internal/strconv.uint64pow10", laid_internal_strconv_uint64pow10), ("unicode/utf8.acceptRanges", laid_unicode_utf8_acceptRanges), ("loop.example/g00318/impl.startWords", laid_loop_example_g00318_impl_startWords), ("loop.example/g00318/impl.roundWords", laid_loop_example_g00318_impl_roundWords), ("unicode/utf8.first", laid_unicode_utf8_first)] }
def FnExactPartSaid : Prop := fnExactPartRow.holds Tryz.pinned (OpenSpec.ofChange fnExactPartSpec)

/-- ITS FALSE NEIGHBOUR: 'it returns false'. Refute it at one input. -/
def fnExactPartWrong : ChangeSpec := { name := "fnExactPart", vars := ["loop.example/g00318/impl.startWords", "loop.example/g00318/impl.roundWords"], fn := fun _ => fun
  | [d1, d2, g1, g2] => { results := [.lit (.bool false)], args := [d1, d2], vars := [g1, g2] }
  | _ => none }
def FnExactPartWrongFalsely : Prop := fnExactPartRow.holds Tryz.pinned (OpenSpec.ofChange fnExactPartWrong)

/-- 'laws.FnExactReadDag': WHATEVER THE INPUT: true; the input reads as it did. -/
def fnExactReadDagSpec : ChangeSpec := { name := "fnExactReadDag", vars := ["loop.example/g00318/impl.startWords", "loop.example/g00318/impl.roundWords"], fn := fun _ => fun
  | [d, g1, g2] => { results := [.lit (.bool true)], args := [d], vars := [g1, g2] }
  | _ => none }
def fnExactReadDagRow : OpenClaim := { program := "ytlibipbpaigmdaagreatdoor", sum := "b5b0e18b257a458b92df5fcf16fb5d508150b1038aef32bbdd69d2a727b478d5", func := "loop.example/g00318/laws.FnExactReadDag", spec := "fnExactReadDag", inPlace := ["internal/bytealg.IndexByteString", "internal/bytealg.IndexString", "internal/abi.NoEscape", "internal/bytealg.MakeNoZero"], unfollowed := true, recurses := true, named := ["internal/bytealg.MaxLen", "unicode/utf8.first", "unicode/utf8.acceptRanges", "internal/strconv.uint64pow10", "math/bits.deBruijn32tab", "math/bits.deBruijn64tab", "loop.example/g00318/impl.startWords", "loop.example/g00318/impl.roundWords"], apart := false, laid := [("math/bits.deBruijn32tab", laid_math_bits_deBruijn32tab), ("math/bits.deBruijn64tab", laid_math_bits_deBruijn64tab), ("internal/strconv.uint64pow10", laid_internal_strconv_uint64pow10), ("unicode/utf8.acceptRanges", laid_unicode_utf8_acceptRanges), ("loop.example/g00318/impl.startWords", laid_loop_example_g00318_impl_startWords), ("loop.example/g00318/impl.roundWords", laid_loop_example_g00318_impl_roundWords), ("unicode/utf8.first", laid_unicode_utf8_first)] }
def FnExactReadDagSaid : Prop := fnExactReadDagRow.holds Tryz.pinned (OpenSpec.ofChange fnExactReadDagSpec)

/-- ITS FALSE NEIGHBOUR: 'it returns false'. Refute it at one input. -/
def fnExactReadDagWrong : ChangeSpec := { name := "fnExactReadDag", vars := ["loop.example/g00318/impl.startWords", "loop.example/g00318/impl.roundWords"], fn := fun _ => fun
  | [d, g1, g2] => { results := [.lit (.bool false)], args := [d], vars := [g1, g2] }
  | _ => none }
def FnExactReadDagWrongFalsely : Prop := fnExactReadDagRow.holds Tryz.pinned (OpenSpec.ofChange fnExactReadDagWrong)

/-- 'laws.FnSettled': WHATEVER THE INPUT: true; the input reads as it did. -/
def fnSettledSpec : ChangeSpec := { name := "fnSettled", vars := ["loop.example/g00318/impl.startWords", "loop.example/g00318/impl.roundWords"], fn := fun _ => fun
  | [d, g1, g2] => { results := [.lit (.bool true)], args := [d], vars := [g1, g2] }
  | _ => none }
def fnSettledRow : OpenClaim := { program := "ytlibipbpaigmdaagreatdoor", sum := "b5b0e18b257a458b92df5fcf16fb5d508150b1038aef32bbdd69d2a727b478d5", func := "loop.example/g00318/laws.FnSettled", spec := "fnSettled", inPlace := ["internal/bytealg.IndexByteString", "internal/bytealg.IndexString", "internal/abi.NoEscape", "internal/bytealg.MakeNoZero"], unfollowed := true, recurses := true, named := ["unicode/utf8.first", "unicode/utf8.acceptRanges", "internal/strconv.uint64pow10", "math/bits.deBruijn32tab", "math/bits.deBruijn64tab", "loop.example/g00318/impl.startWords", "loop.example/g00318/impl.roundWords", "internal/bytealg.MaxLen"], apart := false, laid := [("math/bits.deBruijn32tab", laid_math_bits_deBruijn32tab), ("math/bits.deBruijn64tab", laid_math_bits_deBruijn64tab), ("internal/strconv.uint64pow10", laid_internal_strconv_uint64pow10), ("unicode/utf8.acceptRanges", laid_unicode_utf8_acceptRanges), ("loop.example/g00318/impl.startWords", laid_loop_example_g00318_impl_startWords), ("loop.example/g00318/impl.roundWords", laid_loop_example_g00318_impl_roundWords), ("unicode/utf8.first", laid_unicode_utf8_first)] }
def FnSettledSaid : Prop := fnSettledRow.holds Tryz.pinned (OpenSpec.ofChange fnSettledSpec)

/-- ITS FALSE NEIGHBOUR: 'it returns false'. Refute it at one input. -/
def fnSettledWrong : ChangeSpec := { name := "fnSettled", vars := ["loop.example/g00318/impl.startWords", "loop.example/g00318/impl.roundWords"], fn := fun _ => fun
  | [d, g1, g2] => { results := [.lit (.bool false)], args := [d], vars := [g1, g2] }
  | _ => none }
def FnSettledWrongFalsely : Prop := fnSettledRow.holds Tryz.pinned (OpenSpec.ofChange fnSettledWrong)

/-- 'laws.FnLacking': WHATEVER THE INPUT: true; the input reads as it did. -/
def fnLackingSpec : ChangeSpec := { name := "fnLacking", vars := ["loop.example/g00318/impl.startWords", "loop.example/g00318/impl.roundWords"], fn := fun _ => fun
  | [d, g1, g2] => { results := [.lit (.bool true)], args := [d], vars := [g1, g2] }
  | _ => none }
def fnLackingRow : OpenClaim := { program := "ytlibipbpaigmdaagreatdoor", sum := "b5b0e18b257a458b92df5fcf16fb5d508150b1038aef32bbdd69d2a727b478d5", func := "loop.example/g00318/laws.FnLacking", spec := "fnLacking", inPlace := ["internal/bytealg.IndexByteString", "internal/bytealg.IndexString", "internal/abi.NoEscape", "internal/bytealg.MakeNoZero"], unfollowed := true, recurses := true, named := ["unicode/utf8.first", "unicode/utf8.acceptRanges", "internal/strconv.uint64pow10", "math/bits.deBruijn32tab", "math/bits.deBruijn64tab", "loop.example/g00318/impl.startWords", "loop.example/g00318/impl.roundWords", "internal/bytealg.MaxLen"], apart := false, laid := [("math/bits.deBruijn32tab", laid_math_bits_deBruijn32tab), ("math/bits.deBruijn64tab", laid_math_bits_deBruijn64tab), ("internal/strconv.uint64pow10", laid_internal_strconv_uint64pow10), ("unicode/utf8.acceptRanges", laid_unicode_utf8_acceptRanges), ("loop.example/g00318/impl.startWords", laid_loop_example_g00318_impl_startWords), ("loop.example/g00318/impl.roundWords", laid_loop_example_g00318_impl_roundWords), ("unicode/utf8.first", laid_unicode_utf8_first)] }
def FnLackingSaid : Prop := fnLackingRow.holds Tryz.pinned (OpenSpec.ofChange fnLackingSpec)

/-- ITS FALSE NEIGHBOUR: 'it returns false'. Refute it at one input. -/
def fnLackingWrong : ChangeSpec := { name := "fnLacking", vars := ["loop.example/g00318/impl.startWords", "loop.example/g00318/impl.roundWords"], fn := fun _ => fun
  | [d, g1, g2] => { results := [.lit (.bool false)], args := [d], vars := [g1, g2] }
  | _ => none }
def FnLackingWrongFalsely : Prop := fnLackingRow.holds Tryz.pinned (OpenSpec.ofChange fnLackingWrong)

/-- 'laws.FnBehind': WHATEVER THE INPUT: true; the input reads as it did. -/
def fnBehindSpec : ChangeSpec := { name := "fnBehind", vars := ["loop.example/g00318/impl.startWords", "loop.example/g00318/impl.roundWords"], fn := fun _ => fun
  | [d, g1, g2] => { results := [.lit (.bool true)], args := [d], vars := [g1, g2] }
  | _ => none }
def fnBehindRow : OpenClaim := { program := "ytlibipbpaigmdaagreatdoor", sum := "b5b0e18b257a458b92df5fcf16fb5d508150b1038aef32bbdd69d2a727b478d5", func := "loop.example/g00318/laws.FnBehind", spec := "fnBehind", inPlace := ["internal/bytealg.IndexByteString", "internal/bytealg.IndexString", "internal/abi.NoEscape", "internal/bytealg.MakeNoZero"], unfollowed := true, recurses := true, named := ["unicode/utf8.first", "unicode/utf8.acceptRanges", "internal/strconv.uint64pow10", "math/bits.deBruijn32tab", "math/bits.deBruijn64tab", "loop.example/g00318/impl.startWords", "loop.example/g00318/impl.roundWords", "internal/bytealg.MaxLen"], apart := false, laid := [("math/bits.deBruijn32tab", laid_math_bits_deBruijn32tab), ("math/bits.deBruijn64tab", laid_math_bits_deBruijn64tab), ("internal/strconv.uint64pow10", laid_internal_strconv_uint64pow10), ("unicode/utf8.acceptRanges", laid_unicode_utf8_acceptRanges), ("loop.example/g00318/impl.startWords", laid_loop_example_g00318_impl_startWords), ("loop.example/g00318/impl.roundWords", laid_loop_example_g00318_impl_roundWords), ("unicode/utf8.first", laid_unicode_utf8_first)] }
def FnBehindSaid : Prop := fnBehindRow.holds Tryz.pinned (OpenSpec.ofChange fnBehindSpec)

/-- ITS FALSE NEIGHBOUR: 'it returns false'. Refute it at one input. -/
def fnBehindWrong : ChangeSpec := { name := "fnBehind", vars := ["loop.example/g00318/impl.startWords", "loop.example/g00318/impl.roundWords"], fn := fun _ => fun
  | [d, g1, g2] => { results := [.lit (.bool false)], args := [d], vars := [g1, g2] }
  | _ => none }
def FnBehindWrongFalsely : Prop := fnBehindRow.holds Tryz.pinned (OpenSpec.ofChange fnBehindWrong)

/-- 'laws.FnHeads': WHATEVER THE INPUT: true; the input reads as it did. -/
def fnHeadsSpec : ChangeSpec := { name := "fnHeads", vars := ["loop.example/g00318/impl.startWords", "loop.example/g00318/impl.roundWords"], fn := fun _ => fun
  | [d, g1, g2] => { results := [.lit (.bool true)], args := [d], vars := [g1, g2] }
  | _ => none }
def fnHeadsRow : OpenClaim := { program := "ytlibipbpaigmdaagreatdoor", sum := "b5b0e18b257a458b92df5fcf16fb5d508150b1038aef32bbdd69d2a727b478d5", func := "loop.example/g00318/laws.FnHeads", spec := "fnHeads", inPlace := ["internal/bytealg.IndexByteString", "internal/bytealg.IndexString", "internal/abi.NoEscape", "internal/bytealg.MakeNoZero", "maps.clone"], unfollowed := true, recurses := true, named := ["unicode/utf8.first", "unicode/utf8.acceptRanges", "internal/strconv.uint64pow10", "math/bits.deBruijn32tab", "math/bits.deBruijn64tab", "loop.example/g00318/impl.startWords", "loop.example/g00318/impl.roundWords", "internal/bytealg.MaxLen"], apart := false, laid := [("math/bits.deBruijn32tab", laid_math_bits_deBruijn32tab), ("math/bits.deBruijn64tab", laid_math_bits_deBruijn64tab), ("internal/strconv.uint64pow10", laid_internal_strconv_uint64pow10), ("unicode/utf8.acceptRanges", laid_unicode_utf8_acceptRanges), ("loop.example/g00318/impl.startWords", laid_loop_example_g00318_impl_startWords), ("loop.example/g00318/impl.roundWords", laid_loop_example_g00318_impl_roundWords), ("unicode/utf8.first", laid_unicode_utf8_first)] }
def FnHeadsSaid : Prop := fnHeadsRow.holds Tryz.pinned (OpenSpec.ofChange fnHeadsSpec)

/-- ITS FALSE NEIGHBOUR: 'it returns false'. Refute it at one input. -/
def fnHeadsWrong : ChangeSpec := { name := "fnHeads", vars := ["loop.example/g00318/impl.startWords", "loop.example/g00318/impl.roundWords"], fn := fun _ => fun
  | [d, g1, g2] => { results := [.lit (.bool false)], args := [d], vars := [g1, g2] }
  | _ => none }
def FnHeadsWrongFalsely : Prop := fnHeadsRow.holds Tryz.pinned (OpenSpec.ofChange fnHeadsWrong)

/-- 'laws.FnNodes': WHATEVER THE INPUT: true; the input reads as it did. -/
def fnNodesSpec : ChangeSpec := { name := "fnNodes", vars := ["loop.example/g00318/impl.startWords", "loop.example/g00318/impl.roundWords"], fn := fun _ => fun
  | [d, g1, g2] => { results := [.lit (.bool true)], args := [d], vars := [g1, g2] }
  | _ => none }
def fnNodesRow : OpenClaim := { program := "ytlibipbpaigmdaagreatdoor", sum := "b5b0e18b257a458b92df5fcf16fb5d508150b1038aef32bbdd69d2a727b478d5", func := "loop.example/g00318/laws.FnNodes", spec := "fnNodes", inPlace := ["internal/bytealg.IndexByteString", "internal/bytealg.IndexString", "internal/abi.NoEscape", "internal/bytealg.MakeNoZero"], named := ["unicode/utf8.first", "unicode/utf8.acceptRanges", "internal/strconv.uint64pow10", "math/bits.deBruijn32tab", "math/bits.deBruijn64tab", "internal/bytealg.MaxLen", "loop.example/g00318/impl.startWords", "loop.example/g00318/impl.roundWords"], apart := false, laid := [("math/bits.deBruijn32tab", laid_math_bits_deBruijn32tab), ("math/bits.deBruijn64tab", laid_math_bits_deBruijn64tab), ("internal/strconv.uint64pow10", laid_internal_strconv_uint64pow10), ("unicode/utf8.acceptRanges", laid_unicode_utf8_acceptRanges), ("loop.example/g00318/impl.startWords", laid_loop_example_g00318_impl_startWords), ("loop.example/g00318/impl.roundWords", laid_loop_example_g00318_impl_roundWords), ("unicode/utf8.first", laid_unicode_utf8_first)] }
def FnNodesSaid : Prop := fnNodesRow.holds Tryz.pinned (OpenSpec.ofChange fnNodesSpec)

/-- ITS FALSE NEIGHBOUR: 'it returns false'. Refute it at one input. -/
def fnNodesWrong : ChangeSpec := { name := "fnNodes", vars := ["loop.example/g00318/impl.startWords", "loop.example/g00318/impl.roundWords"], fn := fun _ => fun
  | [d, g1, g2] => { results := [.lit (.bool false)], args := [d], vars := [g1, g2] }
  | _ => none }
def FnNodesWrongFalsely : Prop := fnNodesRow.holds Tryz.pinned (OpenSpec.ofChange fnNodesWrong)

/-- 'laws.FnDagTexts': WHATEVER THE INPUT: true; the input reads as it did. -/
def fnDagTextsSpec : ChangeSpec := { name := "fnDagTexts", vars := ["loop.example/g00318/impl.startWords", "loop.example/g00318/impl.roundWords"], fn := fun _ => fun
  | [d, g1, g2] => { results := [.lit (.bool true)], args := [d], vars := [g1, g2] }
  | _ => none }
def fnDagTextsRow : OpenClaim := { program := "ytlibipbpaigmdaagreatdoor", sum := "b5b0e18b257a458b92df5fcf16fb5d508150b1038aef32bbdd69d2a727b478d5", func := "loop.example/g00318/laws.FnDagTexts", spec := "fnDagTexts", inPlace := ["internal/bytealg.IndexByteString", "internal/bytealg.IndexString", "internal/abi.NoEscape", "internal/bytealg.MakeNoZero"], unfollowed := true, recurses := true, named := ["unicode/utf8.first", "unicode/utf8.acceptRanges", "internal/strconv.uint64pow10", "math/bits.deBruijn32tab", "math/bits.deBruijn64tab", "loop.example/g00318/impl.startWords", "loop.example/g00318/impl.roundWords", "internal/bytealg.MaxLen"], apart := false, laid := [("math/bits.deBruijn32tab", laid_math_bits_deBruijn32tab), ("math/bits.deBruijn64tab", laid_math_bits_deBruijn64tab), ("internal/strconv.uint64pow10", laid_internal_strconv_uint64pow10), ("unicode/utf8.acceptRanges", laid_unicode_utf8_acceptRanges), ("loop.example/g00318/impl.startWords", laid_loop_example_g00318_impl_startWords), ("loop.example/g00318/impl.roundWords", laid_loop_example_g00318_impl_roundWords), ("unicode/utf8.first", laid_unicode_utf8_first)] }
def FnDagTextsSaid : Prop := fnDagTextsRow.holds Tryz.pinned (OpenSpec.ofChange fnDagTextsSpec)

/-- ITS FALSE NEIGHBOUR: 'it returns false'. Refute it at one input. -/
def fnDagTextsWrong : ChangeSpec := { name := "fnDagTexts", vars := ["loop.example/g00318/impl.startWords", "loop.example/g00318/impl.roundWords"], fn := fun _ => fun
  | [d, g1, g2] => { results := [.lit (.bool false)], args := [d], vars := [g1, g2] }
  | _ => none }
def FnDagTextsWrongFalsely : Prop := fnDagTextsRow.holds Tryz.pinned (OpenSpec.ofChange fnDagTextsWrong)

/-- 'laws.FnDagParts': WHATEVER THE INPUT: true; the input reads as it did. -/
def fnDagPartsSpec : ChangeSpec := { name := "fnDagParts", vars := ["loop.example/g00318/impl.startWords", "loop.example/g00318/impl.roundWords"], fn := fun _ => fun
  | [d, g1, g2] => { results := [.lit (.bool true)], args := [d], vars := [g1, g2] }
  | _ => none }
def fnDagPartsRow : OpenClaim := { program := "ytlibipbpaigmdaagreatdoor", sum := "b5b0e18b257a458b92df5fcf16fb5d508150b1038aef32bbdd69d2a727b478d5", func := "loop.example/g00318/laws.FnDagParts", spec := "fnDagParts", inPlace := ["internal/bytealg.IndexByteString", "internal/bytealg.IndexString", "internal/abi.NoEscape", "internal/bytealg.MakeNoZero"], unfollowed := true, recurses := true, named := ["unicode/utf8.first", "unicode/utf8.acceptRanges", "internal/strconv.uint64pow10", "math/bits.deBruijn32tab", "math/bits.deBruijn64tab", "loop.example/g00318/impl.startWords", "loop.example/g00318/impl.roundWords", "internal/bytealg.MaxLen"], apart := false, laid := [("math/bits.deBruijn32tab", laid_math_bits_deBruijn32tab), ("math/bits.deBruijn64tab", laid_math_bits_deBruijn64tab), ("internal/strconv.uint64pow10", laid_internal_strconv_uint64pow10), ("unicode/utf8.acceptRanges", laid_unicode_utf8_acceptRanges), ("loop.example/g00318/impl.startWords", laid_loop_example_g00318_impl_startWords), ("loop.example/g00318/impl.roundWords", laid_loop_example_g00318_impl_roundWords), ("unicode/utf8.first", laid_unicode_utf8_first)] }
def FnDagPartsSaid : Prop := fnDagPartsRow.holds Tryz.pinned (OpenSpec.ofChange fnDagPartsSpec)

/-- ITS FALSE NEIGHBOUR: 'it returns false'. Refute it at one input. -/
def fnDagPartsWrong : ChangeSpec := { name := "fnDagParts", vars := ["loop.example/g00318/impl.startWords", "loop.example/g00318/impl.roundWords"], fn := fun _ => fun
  | [d, g1, g2] => { results := [.lit (.bool false)], args := [d], vars := [g1, g2] }
  | _ => none }
def FnDagPartsWrongFalsely : Prop := fnDagPartsRow.holds Tryz.pinned (OpenSpec.ofChange fnDagPartsWrong)

/-- 'laws.FnOrdered': WHATEVER THE INPUT: true; the input reads as it did. -/
def fnOrderedSpec : ChangeSpec := { name := "fnOrdered", vars := ["loop.example/g00318/impl.startWords", "loop.example/g00318/impl.roundWords"], fn := fun _ => fun
  | [d, g1, g2] => { results := [.lit (.bool true)], args := [d], vars := [g1, g2] }
  | _ => none }
def fnOrderedRow : OpenClaim := { program := "ytlibipbpaigmdaagreatdoor", sum := "b5b0e18b257a458b92df5fcf16fb5d508150b1038aef32bbdd69d2a727b478d5", func := "loop.example/g00318/laws.FnOrdered", spec := "fnOrdered", inPlace := ["internal/bytealg.IndexByteString", "internal/bytealg.IndexString", "internal/abi.NoEscape", "internal/bytealg.MakeNoZero"], unfollowed := true, recurses := true, named := ["unicode/utf8.first", "unicode/utf8.acceptRanges", "internal/strconv.uint64pow10", "math/bits.deBruijn32tab", "math/bits.deBruijn64tab", "loop.example/g00318/impl.startWords", "loop.example/g00318/impl.roundWords", "internal/bytealg.MaxLen"], apart := false, laid := [("math/bits.deBruijn32tab", laid_math_bits_deBruijn32tab), ("math/bits.deBruijn64tab", laid_math_bits_deBruijn64tab), ("internal/strconv.uint64pow10", laid_internal_strconv_uint64pow10), ("unicode/utf8.acceptRanges", laid_unicode_utf8_acceptRanges), ("loop.example/g00318/impl.startWords", laid_loop_example_g00318_impl_startWords), ("loop.example/g00318/impl.roundWords", laid_loop_example_g00318_impl_roundWords), ("unicode/utf8.first", laid_unicode_utf8_first)] }
def FnOrderedSaid : Prop := fnOrderedRow.holds Tryz.pinned (OpenSpec.ofChange fnOrderedSpec)

/-- ITS FALSE NEIGHBOUR: 'it returns false'. Refute it at one input. -/
def fnOrderedWrong : ChangeSpec := { name := "fnOrdered", vars := ["loop.example/g00318/impl.startWords", "loop.example/g00318/impl.roundWords"], fn := fun _ => fun
  | [d, g1, g2] => { results := [.lit (.bool false)], args := [d], vars := [g1, g2] }
  | _ => none }
def FnOrderedWrongFalsely : Prop := fnOrderedRow.holds Tryz.pinned (OpenSpec.ofChange fnOrderedWrong)

/-- 'laws.FnDocs': WHATEVER THE INPUT: true; the input reads as it did. -/
def fnDocsSpec : ChangeSpec := { name := "fnDocs", vars := ["loop.example/g00318/impl.startWords", "loop.example/g00318/impl.roundWords"], fn := fun _ => fun
  | [d, g1, g2] => { results := [.lit (.bool true)], args := [d], vars := [g1, g2] }
  | _ => none }
def fnDocsRow : OpenClaim := { program := "ytlibipbpaigmdaagreatdoor", sum := "b5b0e18b257a458b92df5fcf16fb5d508150b1038aef32bbdd69d2a727b478d5", func := "loop.example/g00318/laws.FnDocs", spec := "fnDocs", inPlace := ["internal/bytealg.IndexByteString", "internal/bytealg.IndexString", "internal/abi.NoEscape", "internal/bytealg.MakeNoZero"], unfollowed := true, recurses := true, named := ["unicode/utf8.first", "unicode/utf8.acceptRanges", "internal/strconv.uint64pow10", "math/bits.deBruijn32tab", "math/bits.deBruijn64tab", "loop.example/g00318/impl.startWords", "loop.example/g00318/impl.roundWords", "internal/bytealg.MaxLen"], apart := false, laid := [("math/bits.deBruijn32tab", laid_math_bits_deBruijn32tab), ("math/bits.deBruijn64tab", laid_math_bits_deBruijn64tab), ("internal/strconv.uint64pow10", laid_internal_strconv_uint64pow10), ("unicode/utf8.acceptRanges", laid_unicode_utf8_acceptRanges), ("loop.example/g00318/impl.startWords", laid_loop_example_g00318_impl_startWords), ("loop.example/g00318/impl.roundWords", laid_loop_example_g00318_impl_roundWords), ("unicode/utf8.first", laid_unicode_utf8_first)] }
def FnDocsSaid : Prop := fnDocsRow.holds Tryz.pinned (OpenSpec.ofChange fnDocsSpec)

/-- ITS FALSE NEIGHBOUR: 'it returns false'. Refute it at one input. -/
def fnDocsWrong : ChangeSpec := { name := "fnDocs", vars := ["loop.example/g00318/impl.startWords", "loop.example/g00318/impl.roundWords"], fn := fun _ => fun
  | [d, g1, g2] => { results := [.lit (.bool false)], args := [d], vars := [g1, g2] }
  | _ => none }
def FnDocsWrongFalsely : Prop := fnDocsRow.holds Tryz.pinned (OpenSpec.ofChange fnDocsWrong)

/- THE SECOND FORM. 'bulk': how many values and letters a reading holds, each counted each time it is reached (what is shared counts as often as it is met; a slice's spare places count too). A statement '..UptoSaid' is the law's where the arguments, and the package variables that the reading takes, are together of bulk at most 1048576: NARROWER than '..Said'. Prove '..Said' where nothing that the law and all that it calls make is longer than what came in: it says more and counts as full. Else prove '..UptoSaid'. A law counts once. -/
mutual
def uptoBulk {H : Type} : DataW H → Nat
  | .lit (.string bytes) => bytes.length + 1
  | .lit _ => 1
  | .nil => 1
  | .ptr d => uptoBulk d + 1
  | .slice elems spare => uptoBulkAll elems + uptoBulkAll spare + 1
  | .agg parts => uptoBulkAll parts + 1
  | .iface _ d => uptoBulk d + 1
  | .map entries => uptoBulkEntries entries + 1
  | .held _ => 1
def uptoBulkAll {H : Type} : List (DataW H) → Nat
  | [] => 0
  | d :: r => uptoBulk d + uptoBulkAll r
def uptoBulkEntries {H : Type} : List (Lit × DataW H) → Nat
  | [] => 0
  | x :: r => uptoBulkEntry x + uptoBulkEntries r
def uptoBulkEntry {H : Type} : Lit × DataW H → Nat
  | (.string bytes, d) => bytes.length + uptoBulk d + 1
  | (_, d) => uptoBulk d + 1
 end
def uptoSmall : (H : Type) → List (DataW H) → Bool := fun _ ds => decide (uptoBulkAll ds ≤ 1048576)
def OpenSpec.upto (s : _root_.Go.ChangeSpec) : _root_.Go.OpenSpec := { _root_.Go.OpenSpec.ofChange s with cond := some uptoSmall }

/-- 'laws.FnExactSettled', WHERE WHAT IT READS IS OF BULK AT MOST 1048576: true; the input reads as it did. -/
def fnExactSettledUptoRow : OpenClaim := { program := "ytlibipbpaigmdaagreatdoor", sum := "b5b0e18b257a458b92df5fcf16fb5d508150b1038aef32bbdd69d2a727b478d5", func := "loop.example/g00318/laws.FnExactSettled", spec := "fnExactSettled", inPlace := ["internal/bytealg.IndexByteString", "internal/bytealg.IndexString", "internal/abi.NoEscape", "internal/bytealg.MakeNoZero"], unfollowed := true, recurses := true, named := ["unicode/utf8.first", "unicode/utf8.acceptRanges", "internal/strconv.uint64pow10", "math/bits.deBruijn32tab", "math/bits.deBruijn64tab", "loop.example/g00318/impl.startWords", "loop.example/g00318/impl.roundWords", "internal/bytealg.MaxLen"], apart := false, laid := [("math/bits.deBruijn32tab", laid_math_bits_deBruijn32tab), ("math/bits.deBruijn64tab", laid_math_bits_deBruijn64tab), ("internal/strconv.uint64pow10", laid_internal_strconv_uint64pow10), ("unicode/utf8.acceptRanges", laid_unicode_utf8_acceptRanges), ("loop.example/g00318/impl.startWords", laid_loop_example_g00318_impl_startWords), ("loop.example/g00318/impl.roundWords", laid_loop_example_g00318_impl_roundWords), ("unicode/utf8.first", laid_unicode_utf8_first)], narrowed := true }
def FnExactSettledUptoSaid : Prop := fnExactSettledUptoRow.holds Tryz.pinned (OpenSpec.upto fnExactSettledSpec)

/-- 'laws.FnExactPart', WHERE WHAT IT READS IS OF BULK AT MOST 1048576: true; the input reads as it did. -/
def fnExactPartUptoRow : OpenClaim := { program := "ytlibipbpaigmdaagreatdoor", sum := "b5b0e18b257a458b92df5fcf16fb5d508150b1038aef32bbdd69d2a727b478d5", func := "loop.example/g00318/laws.FnExactPart", spec := "fnExactPart", inPlace := ["internal/bytealg.IndexByteString", "internal/bytealg.IndexString", "internal/abi.NoEscape", "internal/bytealg.MakeNoZero"], unfollowed := true, recurses := true, named := ["unicode/utf8.first", "unicode/utf8.acceptRanges", "internal/strconv.uint64pow10", "math/bits.deBruijn32tab", "math/bits.deBruijn64tab", "loop.example/g00318/impl.startWords", "loop.example/g00318/impl.roundWords", "internal/bytealg.MaxLen"], apart := false, laid := [("math/bits.deBruijn32tab", laid_math_bits_deBruijn32tab), ("math/bits.deBruijn64tab", laid_math_bits_deBruijn64tab), ("internal/strconv.uint64pow10", laid_internal_strconv_uint64pow10), ("unicode/utf8.acceptRanges", laid_unicode_utf8_acceptRanges), ("loop.example/g00318/impl.startWords", laid_loop_example_g00318_impl_startWords), ("loop.example/g00318/impl.roundWords", laid_loop_example_g00318_impl_roundWords), ("unicode/utf8.first", laid_unicode_utf8_first)], narrowed := true }
def FnExactPartUptoSaid : Prop := fnExactPartUptoRow.holds Tryz.pinned (OpenSpec.upto fnExactPartSpec)

/-- 'laws.FnExactReadDag', WHERE WHAT IT READS IS OF BULK AT MOST 1048576: true; the input reads as it did. -/
def fnExactReadDagUptoRow : OpenClaim := { program := "ytlibipbpaigmdaagreatdoor", sum := "b5b0e18b257a458b92df5fcf16fb5d508150b1038aef32bbdd69d2a727b478d5", func := "loop.example/g00318/laws.FnExactReadDag", spec := "fnExactReadDag", inPlace := ["internal/bytealg.IndexByteString", "internal/bytealg.IndexString", "internal/abi.NoEscape", "internal/bytealg.MakeNoZero"], unfollowed := true, recurses := true, named := ["internal/bytealg.MaxLen", "unicode/utf8.first", "unicode/utf8.acceptRanges", "internal/strconv.uint64pow10", "math/bits.deBruijn32tab", "math/bits.deBruijn64tab", "loop.example/g00318/impl.startWords", "loop.example/g00318/impl.roundWords"], apart := false, laid := [("math/bits.deBruijn32tab", laid_math_bits_deBruijn32tab), ("math/bits.deBruijn64tab", laid_math_bits_deBruijn64tab), ("internal/strconv.uint64pow10", laid_internal_strconv_uint64pow10), ("unicode/utf8.acceptRanges", laid_unicode_utf8_acceptRanges), ("loop.example/g00318/impl.startWords", laid_loop_example_g00318_impl_startWords), ("loop.example/g00318/impl.roundWords", laid_loop_example_g00318_impl_roundWords), ("unicode/utf8.first", laid_unicode_utf8_first)], narrowed := true }
def FnExactReadDagUptoSaid : Prop := fnExactReadDagUptoRow.holds Tryz.pinned (OpenSpec.upto fnExactReadDagSpec)

/-- 'laws.FnSettled', WHERE WHAT IT READS IS OF BULK AT MOST 1048576: true; the input reads as it did. -/
def fnSettledUptoRow : OpenClaim := { program := "ytlibipbpaigmdaagreatdoor", sum := "b5b0e18b257a458b92df5fcf16fb5d508150b1038aef32bbdd69d2a727b478d5", func := "loop.example/g00318/laws.FnSettled", spec := "fnSettled", inPlace := ["internal/bytealg.IndexByteString", "internal/bytealg.IndexString", "internal/abi.NoEscape", "internal/bytealg.MakeNoZero"], unfollowed := true, recurses := true, named := ["unicode/utf8.first", "unicode/utf8.acceptRanges", "internal/strconv.uint64pow10", "math/bits.deBruijn32tab", "math/bits.deBruijn64tab", "loop.example/g00318/impl.startWords", "loop.example/g00318/impl.roundWords", "internal/bytealg.MaxLen"], apart := false, laid := [("math/bits.deBruijn32tab", laid_math_bits_deBruijn32tab), ("math/bits.deBruijn64tab", laid_math_bits_deBruijn64tab), ("internal/strconv.uint64pow10", laid_internal_strconv_uint64pow10), ("unicode/utf8.acceptRanges", laid_unicode_utf8_acceptRanges), ("loop.example/g00318/impl.startWords", laid_loop_example_g00318_impl_startWords), ("loop.example/g00318/impl.roundWords", laid_loop_example_g00318_impl_roundWords), ("unicode/utf8.first", laid_unicode_utf8_first)], narrowed := true }
def FnSettledUptoSaid : Prop := fnSettledUptoRow.holds Tryz.pinned (OpenSpec.upto fnSettledSpec)

/-- 'laws.FnLacking', WHERE WHAT IT READS IS OF BULK AT MOST 1048576: true; the input reads as it did. -/
def fnLackingUptoRow : OpenClaim := { program := "ytlibipbpaigmdaagreatdoor", sum := "b5b0e18b257a458b92df5fcf16fb5d508150b1038aef32bbdd69d2a727b478d5", func := "loop.example/g00318/laws.FnLacking", spec := "fnLacking", inPlace := ["internal/bytealg.IndexByteString", "internal/bytealg.IndexString", "internal/abi.NoEscape", "internal/bytealg.MakeNoZero"], unfollowed := true, recurses := true, named := ["unicode/utf8.first", "unicode/utf8.acceptRanges", "internal/strconv.uint64pow10", "math/bits.deBruijn32tab", "math/bits.deBruijn64tab", "loop.example/g00318/impl.startWords", "loop.example/g00318/impl.roundWords", "internal/bytealg.MaxLen"], apart := false, laid := [("math/bits.deBruijn32tab", laid_math_bits_deBruijn32tab), ("math/bits.deBruijn64tab", laid_math_bits_deBruijn64tab), ("internal/strconv.uint64pow10", laid_internal_strconv_uint64pow10), ("unicode/utf8.acceptRanges", laid_unicode_utf8_acceptRanges), ("loop.example/g00318/impl.startWords", laid_loop_example_g00318_impl_startWords), ("loop.example/g00318/impl.roundWords", laid_loop_example_g00318_impl_roundWords), ("unicode/utf8.first", laid_unicode_utf8_first)], narrowed := true }
def FnLackingUptoSaid : Prop := fnLackingUptoRow.holds Tryz.pinned (OpenSpec.upto fnLackingSpec)

/-- 'laws.FnBehind', WHERE WHAT IT READS IS OF BULK AT MOST 1048576: true; the input reads as it did. -/
def fnBehindUptoRow : OpenClaim := { program := "ytlibipbpaigmdaagreatdoor", sum := "b5b0e18b257a458b92df5fcf16fb5d508150b1038aef32bbdd69d2a727b478d5", func := "loop.example/g00318/laws.FnBehind", spec := "fnBehind", inPlace := ["internal/bytealg.IndexByteString", "internal/bytealg.IndexString", "internal/abi.NoEscape", "internal/bytealg.MakeNoZero"], unfollowed := true, recurses := true, named := ["unicode/utf8.first", "unicode/utf8.acceptRanges", "internal/strconv.uint64pow10", "math/bits.deBruijn32tab", "math/bits.deBruijn64tab", "loop.example/g00318/impl.startWords", "loop.example/g00318/impl.roundWords", "internal/bytealg.MaxLen"], apart := false, laid := [("math/bits.deBruijn32tab", laid_math_bits_deBruijn32tab), ("math/bits.deBruijn64tab", laid_math_bits_deBruijn64tab), ("internal/strconv.uint64pow10", laid_internal_strconv_uint64pow10), ("unicode/utf8.acceptRanges", laid_unicode_utf8_acceptRanges), ("loop.example/g00318/impl.startWords", laid_loop_example_g00318_impl_startWords), ("loop.example/g00318/impl.roundWords", laid_loop_example_g00318_impl_roundWords), ("unicode/utf8.first", laid_unicode_utf8_first)], narrowed := true }
def FnBehindUptoSaid : Prop := fnBehindUptoRow.holds Tryz.pinned (OpenSpec.upto fnBehindSpec)

/-- 'laws.FnHeads', WHERE WHAT IT READS IS OF BULK AT MOST 1048576: true; the input reads as it did. -/
def fnHeadsUptoRow : OpenClaim := { program := "ytlibipbpaigmdaagreatdoor", sum := "b5b0e18b257a458b92df5fcf16fb5d508150b1038aef32bbdd69d2a727b478d5", func := "loop.example/g00318/laws.FnHeads", spec := "fnHeads", inPlace := ["internal/bytealg.IndexByteString", "internal/bytealg.IndexString", "internal/abi.NoEscape", "internal/bytealg.MakeNoZero", "maps.clone"], unfollowed := true, recurses := true, named := ["unicode/utf8.first", "unicode/utf8.acceptRanges", "internal/strconv.uint64pow10", "math/bits.deBruijn32tab", "math/bits.deBruijn64tab", "loop.example/g00318/impl.startWords", "loop.example/g00318/impl.roundWords", "internal/bytealg.MaxLen"], apart := false, laid := [("math/bits.deBruijn32tab", laid_math_bits_deBruijn32tab), ("math/bits.deBruijn64tab", laid_math_bits_deBruijn64tab), ("internal/strconv.uint64pow10", laid_internal_strconv_uint64pow10), ("unicode/utf8.acceptRanges", laid_unicode_utf8_acceptRanges), ("loop.example/g00318/impl.startWords", laid_loop_example_g00318_impl_startWords), ("loop.example/g00318/impl.roundWords", laid_loop_example_g00318_impl_roundWords), ("unicode/utf8.first", laid_unicode_utf8_first)], narrowed := true }
def FnHeadsUptoSaid : Prop := fnHeadsUptoRow.holds Tryz.pinned (OpenSpec.upto fnHeadsSpec)

/-- 'laws.FnNodes', WHERE WHAT IT READS IS OF BULK AT MOST 1048576: true; the input reads as it did. -/
def fnNodesUptoRow : OpenClaim := { program := "ytlibipbpaigmdaagreatdoor", sum := "b5b0e18b257a458b92df5fcf16fb5d508150b1038aef32bbdd69d2a727b478d5", func := "loop.example/g00318/laws.FnNodes", spec := "fnNodes", inPlace := ["internal/bytealg.IndexByteString", "internal/bytealg.IndexString", "internal/abi.NoEscape", "internal/bytealg.MakeNoZero"], named := ["unicode/utf8.first", "unicode/utf8.acceptRanges", "internal/strconv.uint64pow10", "math/bits.deBruijn32tab", "math/bits.deBruijn64tab", "internal/bytealg.MaxLen", "loop.example/g00318/impl.startWords", "loop.example/g00318/impl.roundWords"], apart := false, laid := [("math/bits.deBruijn32tab", laid_math_bits_deBruijn32tab), ("math/bits.deBruijn64tab", laid_math_bits_deBruijn64tab), ("internal/strconv.uint64pow10", laid_internal_strconv_uint64pow10), ("unicode/utf8.acceptRanges", laid_unicode_utf8_acceptRanges), ("loop.example/g00318/impl.startWords", laid_loop_example_g00318_impl_startWords), ("loop.example/g00318/impl.roundWords", laid_loop_example_g00318_impl_roundWords), ("unicode/utf8.first", laid_unicode_utf8_first)], narrowed := true }
def FnNodesUptoSaid : Prop := fnNodesUptoRow.holds Tryz.pinned (OpenSpec.upto fnNodesSpec)

/-- 'laws.FnDagTexts', WHERE WHAT IT READS IS OF BULK AT MOST 1048576: true; the input reads as it did. -/
def fnDagTextsUptoRow : OpenClaim := { program := "ytlibipbpaigmdaagreatdoor", sum := "b5b0e18b257a458b92df5fcf16fb5d508150b1038aef32bbdd69d2a727b478d5", func := "loop.example/g00318/laws.FnDagTexts", spec := "fnDagTexts", inPlace := ["internal/bytealg.IndexByteString", "internal/bytealg.IndexString", "internal/abi.NoEscape", "internal/bytealg.MakeNoZero"], unfollowed := true, recurses := true, named := ["unicode/utf8.first", "unicode/utf8.acceptRanges", "internal/strconv.uint64pow10", "math/bits.deBruijn32tab", "math/bits.deBruijn64tab", "loop.example/g00318/impl.startWords", "loop.example/g00318/impl.roundWords", "internal/bytealg.MaxLen"], apart := false, laid := [("math/bits.deBruijn32tab", laid_math_bits_deBruijn32tab), ("math/bits.deBruijn64tab", laid_math_bits_deBruijn64tab), ("internal/strconv.uint64pow10", laid_internal_strconv_uint64pow10), ("unicode/utf8.acceptRanges", laid_unicode_utf8_acceptRanges), ("loop.example/g00318/impl.startWords", laid_loop_example_g00318_impl_startWords), ("loop.example/g00318/impl.roundWords", laid_loop_example_g00318_impl_roundWords), ("unicode/utf8.first", laid_unicode_utf8_first)], narrowed := true }
def FnDagTextsUptoSaid : Prop := fnDagTextsUptoRow.holds Tryz.pinned (OpenSpec.upto fnDagTextsSpec)

/-- 'laws.FnDagParts', WHERE WHAT IT READS IS OF BULK AT MOST 1048576: true; the input reads as it did. -/
def fnDagPartsUptoRow : OpenClaim := { program := "ytlibipbpaigmdaagreatdoor", sum := "b5b0e18b257a458b92df5fcf16fb5d508150b1038aef32bbdd69d2a727b478d5", func := "loop.example/g00318/laws.FnDagParts", spec := "fnDagParts", inPlace := ["internal/bytealg.IndexByteString", "internal/bytealg.IndexString", "internal/abi.NoEscape", "internal/bytealg.MakeNoZero"], unfollowed := true, recurses := true, named := ["unicode/utf8.first", "unicode/utf8.acceptRanges", "internal/strconv.uint64pow10", "math/bits.deBruijn32tab", "math/bits.deBruijn64tab", "loop.example/g00318/impl.startWords", "loop.example/g00318/impl.roundWords", "internal/bytealg.MaxLen"], apart := false, laid := [("math/bits.deBruijn32tab", laid_math_bits_deBruijn32tab), ("math/bits.deBruijn64tab", laid_math_bits_deBruijn64tab), ("internal/strconv.uint64pow10", laid_internal_strconv_uint64pow10), ("unicode/utf8.acceptRanges", laid_unicode_utf8_acceptRanges), ("loop.example/g00318/impl.startWords", laid_loop_example_g00318_impl_startWords), ("loop.example/g00318/impl.roundWords", laid_loop_example_g00318_impl_roundWords), ("unicode/utf8.first", laid_unicode_utf8_first)], narrowed := true }
def FnDagPartsUptoSaid : Prop := fnDagPartsUptoRow.holds Tryz.pinned (OpenSpec.upto fnDagPartsSpec)

/-- 'laws.FnOrdered', WHERE WHAT IT READS IS OF BULK AT MOST 1048576: true; the input reads as it did. -/
def fnOrderedUptoRow : OpenClaim := { program := "ytlibipbpaigmdaagreatdoor", sum := "b5b0e18b257a458b92df5fcf16fb5d508150b1038aef32bbdd69d2a727b478d5", func := "loop.example/g00318/laws.FnOrdered", spec := "fnOrdered", inPlace := ["internal/bytealg.IndexByteString", "internal/bytealg.IndexString", "internal/abi.NoEscape", "internal/bytealg.MakeNoZero"], unfollowed := true, recurses := true, named := ["unicode/utf8.first", "unicode/utf8.acceptRanges", "internal/strconv.uint64pow10", "math/bits.deBruijn32tab", "math/bits.deBruijn64tab", "loop.example/g00318/impl.startWords", "loop.example/g00318/impl.roundWords", "internal/bytealg.MaxLen"], apart := false, laid := [("math/bits.deBruijn32tab", laid_math_bits_deBruijn32tab), ("math/bits.deBruijn64tab", laid_math_bits_deBruijn64tab), ("internal/strconv.uint64pow10", laid_internal_strconv_uint64pow10), ("unicode/utf8.acceptRanges", laid_unicode_utf8_acceptRanges), ("loop.example/g00318/impl.startWords", laid_loop_example_g00318_impl_startWords), ("loop.example/g00318/impl.roundWords", laid_loop_example_g00318_impl_roundWords), ("unicode/utf8.first", laid_unicode_utf8_first)], narrowed := true }
def FnOrderedUptoSaid : Prop := fnOrderedUptoRow.holds Tryz.pinned (OpenSpec.upto fnOrderedSpec)

/-- 'laws.FnDocs', WHERE WHAT IT READS IS OF BULK AT MOST 1048576: true; the input reads as it did. -/
def fnDocsUptoRow : OpenClaim := { program := "ytlibipbpaigmdaagreatdoor", sum := "b5b0e18b257a458b92df5fcf16fb5d508150b1038aef32bbdd69d2a727b478d5", func := "loop.example/g00318/laws.FnDocs", spec := "fnDocs", inPlace := ["internal/bytealg.IndexByteString", "internal/bytealg.IndexString", "internal/abi.NoEscape", "internal/bytealg.MakeNoZero"], unfollowed := true, recurses := true, named := ["unicode/utf8.first", "unicode/utf8.acceptRanges", "internal/strconv.uint64pow10", "math/bits.deBruijn32tab", "math/bits.deBruijn64tab", "loop.example/g00318/impl.startWords", "loop.example/g00318/impl.roundWords", "internal/bytealg.MaxLen"], apart := false, laid := [("math/bits.deBruijn32tab", laid_math_bits_deBruijn32tab), ("math/bits.deBruijn64tab", laid_math_bits_deBruijn64tab), ("internal/strconv.uint64pow10", laid_internal_strconv_uint64pow10), ("unicode/utf8.acceptRanges", laid_unicode_utf8_acceptRanges), ("loop.example/g00318/impl.startWords", laid_loop_example_g00318_impl_startWords), ("loop.example/g00318/impl.roundWords", laid_loop_example_g00318_impl_roundWords), ("unicode/utf8.first", laid_unicode_utf8_first)], narrowed := true }
def FnDocsUptoSaid : Prop := fnDocsUptoRow.holds Tryz.pinned (OpenSpec.upto fnDocsSpec)

end Rows
end Go.Proofs.YtlibipbpaigmdaaGreatDoor

/-
  NARROWER THAN 'FOR EVERY INPUT', by the rows' own cells (each row's printed sentence says how): ActsShows: laid · ActsParses: laid · ActsBack: laid · ActsDo: laid · ActsParts: laid · ActsFits: laid.
  DERIVED. THE GIVEN ROWS OF THIS SEAT. 6 by the template 'for every input the law returns true; each argument reads behind the call as it read before'; 0 by the template 'total and deterministic' (their statements: YtjgfkmakfdepcaaGreatDoorTotals.lean).
  GIVEN WITH THE SEED: the statements are not yours to turn. If you find one false, say at which input.
  Laid BY PROGRAM, IN A SANDBOX (cutbox-rows.mjs): the forced cells as the released guide's own fill.sh prints them over the translation 19fb2d2f0dc088c7… (all of the seat's roots in one cut). By AI agents, Wed Nov 11 2026. No macro, syntax, notation, axiom, sorry.
-/
import Derived.Test.YtjgfkmakfdepcaaGreatDoorChecked
import GoSem.PinnedTables
import GoSem.Claim
import GoSem.ClaimJoined
import GoSem.ClaimMapViews
import Derived.JoinedTies
import Derived.KernelRfl
namespace Go.Proofs.YtjgfkmakfdepcaaGreatDoor
/- THE CELL 'sum', in the pinned program and in every row, IS THE sha256 OF THE DUMP (.gsa) THAT YtjgfkmakfdepcaaGreatDoorProg.lean LOADS. Nothing in Lean hashes anything: it is a label: what it is worth is what the hold of that sum in a sandbox is worth. -/
noncomputable def Tryz.pinned : Pinned := { name := "ytjgfkmakfdepcaagreatdoor", sum := "19fb2d2f0dc088c7bc7c56bcf8072f7226f4905d71bd588e9933bffb9f969c9b", checked := Tryz.checked }
namespace Rows
def none {H : Type} : Left H := { results := [], args := [] }

/- WHAT THE LISTED PACKAGE-LEVEL VARIABLES READ AS WHEN THE CALL BEGINS. Each datum BY PROGRAM (the guide's laid-datum.mjs) off the statement by which the dump's own 'gosem.cut.vars' lays the variable. In a bare row this is a premise. The card (YtjgfkmakfdepcaaGreatDoorCards.lean) ties it to the program's text. -/
def laid_math_bits_deBruijn32tab {H : Type} : DataW H := .agg [.lit (.int .u8 0), .lit (.int .u8 1), .lit (.int .u8 28), .lit (.int .u8 2), .lit (.int .u8 29), .lit (.int .u8 14), .lit (.int .u8 24), .lit (.int .u8 3), .lit (.int .u8 30), .lit (.int .u8 22), .lit (.int .u8 20), .lit (.int .u8 15), .lit (.int .u8 25), .lit (.int .u8 17), .lit (.int .u8 4), .lit (.int .u8 8), .lit (.int .u8 31), .lit (.int .u8 27), .lit (.int .u8 13), .lit (.int .u8 23), .lit (.int .u8 21), .lit (.int .u8 19), .lit (.int .u8 16), .lit (.int .u8 7), .lit (.int .u8 26), .lit (.int .u8 12), .lit (.int .u8 18), .lit (.int .u8 6), .lit (.int .u8 11), .lit (.int .u8 5), .lit (.int .u8 10), .lit (.int .u8 9)]
def laid_math_bits_deBruijn64tab {H : Type} : DataW H := .agg [.lit (.int .u8 0), .lit (.int .u8 1), .lit (.int .u8 56), .lit (.int .u8 2), .lit (.int .u8 57), .lit (.int .u8 49), .lit (.int .u8 28), .lit (.int .u8 3), .lit (.int .u8 61), .lit (.int .u8 58), .lit (.int .u8 42), .lit (.int .u8 50), .lit (.int .u8 38), .lit (.int .u8 29), .lit (.int .u8 17), .lit (.int .u8 4), .lit (.int .u8 62), .lit (.int .u8 47), .lit (.int .u8 59), .lit (.int .u8 36), .lit (.int .u8 45), .lit (.int .u8 43), .lit (.int .u8 51), .lit (.int .u8 22), .lit (.int .u8 53), .lit (.int .u8 39), .lit (.int .u8 33), .lit (.int .u8 30), .lit (.int .u8 24), .lit (.int .u8 18), .lit (.int .u8 12), .lit (.int .u8 5), .lit (.int .u8 63), .lit (.int .u8 55), .lit (.int .u8 48), .lit (.int .u8 27), .lit (.int .u8 60), .lit (.int .u8 41), .lit (.int .u8 37), .lit (.int .u8 16), .lit (.int .u8 46), .lit (.int .u8 35), .lit (.int .u8 44), .lit (.int .u8 21), .lit (.int .u8 52), .lit (.int .u8 32), .lit (.int .u8 23), .lit (.int .u8 11), .lit (.int .u8 54), .lit (.int .u8 26), .lit (.int .u8 40), .lit (.int .u8 15), .lit (.int .u8 34), .lit (.int .u8 20), .lit (.int .u8 31), .lit (.int .u8 10), .lit (.int .u8 25), .lit (.int .u8 14), .lit (.int .u8 19), .lit (.int .u8 9), .lit (.int .u8 13), .lit (.int .u8 8), .lit (.int .u8 7), .lit (.int .u8 6)]
def laid_internal_strconv_uint64pow10 {H : Type} : DataW H := .agg [.lit (.int .u64 1), .lit (.int .u64 10), .lit (.int .u64 100), .lit (.int .u64 1000), .lit (.int .u64 10000), .lit (.int .u64 100000), .lit (.int .u64 1000000), .lit (.int .u64 10000000), .lit (.int .u64 100000000), .lit (.int .u64 1000000000), .lit (.int .u64 10000000000), .lit (.int .u64 100000000000), .lit (.int .u64 1000000000000), .lit (.int .u64 10000000000000), .lit (.int .u64 100000000000000), .lit (.int .u64 1000000000000000), .lit (.int .u64 10000000000000000), .lit (.int .u64 100000000000000000), .lit (.int .u64 1000000000000000000), .lit (.int .u64 10000000000000000000)]
def laid_unicode_utf8_acceptRanges {H : Type} : DataW H := .agg [.agg [.lit (.int .u8 128), .lit (.int .u8 191)], .agg [.lit (.int .u8 160), .lit (.int .u8 191)], .agg [.lit (.int .u8 128), .lit (.int .u8 159)], .agg [.lit (.int .u8 144), .lit (.int .u8 191)], .agg [.lit (.int .u8 128), .lit (.int .u8 143)], .agg [.lit (.int .u8 0), .lit (.int .u8 0)], .agg [.lit (.int .u8 0), .lit (.int .u8 0)], .agg [.lit (.int .u8 0), .lit (.int .u8 0)], .agg [.lit (.int .u8 0), .lit (.int .u8 0)], .agg [.lit (.int .u8 0), .lit (.int .u8 0)], .agg [.lit (.int .u8 0), .lit (.int .u8 0)], .agg [.lit (.int .u8 0), .lit (.int .u8 0)], .agg [.lit (.int .u8 0), .lit (.int .u8 0)], .agg [.lit (.int .u8 0), .lit (.int .u8 0)], .agg [.lit (.int .u8 0), .lit (.int .u8 0)], .agg [.lit (.int .u8 0), .lit (.int .u8 0)]]
def laid_quintain_expr_operators {H : Type} : DataW H := .agg [.agg [.lit (.int .i64 11), .lit (.string [43]), .lit (.int .i64 4)], .agg [.lit (.int .i64 12), .lit (.string [45]), .lit (.int .i64 4)], .agg [.lit (.int .i64 13), .lit (.string [42]), .lit (.int .i64 5)], .agg [.lit (.int .i64 14), .lit (.string [47]), .lit (.int .i64 5)], .agg [.lit (.int .i64 15), .lit (.string [37]), .lit (.int .i64 5)], .agg [.lit (.int .i64 16), .lit (.string [61]), .lit (.int .i64 3)], .agg [.lit (.int .i64 17), .lit (.string [33, 61]), .lit (.int .i64 3)], .agg [.lit (.int .i64 18), .lit (.string [60]), .lit (.int .i64 3)], .agg [.lit (.int .i64 19), .lit (.string [60, 61]), .lit (.int .i64 3)], .agg [.lit (.int .i64 20), .lit (.string [62]), .lit (.int .i64 3)], .agg [.lit (.int .i64 21), .lit (.string [62, 61]), .lit (.int .i64 3)], .agg [.lit (.int .i64 22), .lit (.string [38]), .lit (.int .i64 2)], .agg [.lit (.int .i64 23), .lit (.string [124]), .lit (.int .i64 1)]]
/-- One of Go's own tables, pinned by name: the form's constant. -/
def laid_unicode_utf8_first : DataW Unit := Go.Pinned.utf8First

/-- 'quintainlaw06.ActsShows': WHATEVER THE INPUT: true; the input reads as it did. -/
def actsShowsSpec : ChangeSpec := { name := "actsShows", fn := fun _ => fun
  | [d] => { results := [.lit (.bool true)], args := [d] }
  | _ => none }
def actsShowsRow : OpenClaim := { program := "ytjgfkmakfdepcaagreatdoor", sum := "19fb2d2f0dc088c7bc7c56bcf8072f7226f4905d71bd588e9933bffb9f969c9b", func := "quintain/quintainlaw06.ActsShows", spec := "actsShows", inPlace := ["internal/abi.NoEscape", "internal/bytealg.MakeNoZero", "internal/bytealg.CountString", "internal/bytealg.IndexByteString", "internal/bytealg.IndexString"], unfollowed := true, recurses := true, named := ["quintain/expr.operators", "internal/strconv.uint64pow10", "math/bits.deBruijn32tab", "math/bits.deBruijn64tab", "internal/bytealg.MaxLen", "unicode/utf8.first", "unicode/utf8.acceptRanges"], apart := false, laid := [("math/bits.deBruijn32tab", laid_math_bits_deBruijn32tab), ("math/bits.deBruijn64tab", laid_math_bits_deBruijn64tab), ("internal/strconv.uint64pow10", laid_internal_strconv_uint64pow10), ("unicode/utf8.acceptRanges", laid_unicode_utf8_acceptRanges), ("quintain/expr.operators", laid_quintain_expr_operators), ("unicode/utf8.first", laid_unicode_utf8_first)] }
def ActsShowsSaid : Prop := actsShowsRow.holds Tryz.pinned (OpenSpec.ofChange actsShowsSpec)

/-- ITS FALSE NEIGHBOUR: 'it returns false'. Refute it at one input. -/
def actsShowsWrong : ChangeSpec := { name := "actsShows", fn := fun _ => fun
  | [d] => { results := [.lit (.bool false)], args := [d] }
  | _ => none }
def ActsShowsWrongFalsely : Prop := actsShowsRow.holds Tryz.pinned (OpenSpec.ofChange actsShowsWrong)

/-- 'quintainlaw06.ActsParses': WHATEVER THE INPUT: true; the input reads as it did. -/
def actsParsesSpec : ChangeSpec := { name := "actsParses", fn := fun _ => fun
  | [d] => { results := [.lit (.bool true)], args := [d] }
  | _ => none }
def actsParsesRow : OpenClaim := { program := "ytjgfkmakfdepcaagreatdoor", sum := "19fb2d2f0dc088c7bc7c56bcf8072f7226f4905d71bd588e9933bffb9f969c9b", func := "quintain/quintainlaw06.ActsParses", spec := "actsParses", inPlace := ["internal/bytealg.CountString", "internal/bytealg.IndexByteString", "internal/bytealg.IndexString"], unfollowed := true, recurses := true, named := ["internal/bytealg.MaxLen", "unicode/utf8.first", "unicode/utf8.acceptRanges", "quintain/expr.operators"], apart := false, laid := [("unicode/utf8.acceptRanges", laid_unicode_utf8_acceptRanges), ("quintain/expr.operators", laid_quintain_expr_operators), ("unicode/utf8.first", laid_unicode_utf8_first)] }
def ActsParsesSaid : Prop := actsParsesRow.holds Tryz.pinned (OpenSpec.ofChange actsParsesSpec)

/-- ITS FALSE NEIGHBOUR: 'it returns false'. Refute it at one input. -/
def actsParsesWrong : ChangeSpec := { name := "actsParses", fn := fun _ => fun
  | [d] => { results := [.lit (.bool false)], args := [d] }
  | _ => none }
def ActsParsesWrongFalsely : Prop := actsParsesRow.holds Tryz.pinned (OpenSpec.ofChange actsParsesWrong)

/-- 'quintainlaw06.ActsBack': WHATEVER THE INPUT: true; the input reads as it did. -/
def actsBackSpec : ChangeSpec := { name := "actsBack", fn := fun _ => fun
  | [d1, d2] => { results := [.lit (.bool true)], args := [d1, d2] }
  | _ => none }
def actsBackRow : OpenClaim := { program := "ytjgfkmakfdepcaagreatdoor", sum := "19fb2d2f0dc088c7bc7c56bcf8072f7226f4905d71bd588e9933bffb9f969c9b", func := "quintain/quintainlaw06.ActsBack", spec := "actsBack", inPlace := ["internal/bytealg.CountString", "internal/bytealg.IndexByteString", "internal/bytealg.IndexString", "internal/abi.NoEscape", "internal/bytealg.MakeNoZero"], unfollowed := true, recurses := true, named := ["internal/bytealg.MaxLen", "unicode/utf8.first", "unicode/utf8.acceptRanges", "quintain/expr.operators", "internal/strconv.uint64pow10", "math/bits.deBruijn32tab", "math/bits.deBruijn64tab"], apart := false, laid := [("math/bits.deBruijn32tab", laid_math_bits_deBruijn32tab), ("math/bits.deBruijn64tab", laid_math_bits_deBruijn64tab), ("internal/strconv.uint64pow10", laid_internal_strconv_uint64pow10), ("unicode/utf8.acceptRanges", laid_unicode_utf8_acceptRanges), ("quintain/expr.operators", laid_quintain_expr_operators), ("unicode/utf8.first", laid_unicode_utf8_first)] }
def ActsBackSaid : Prop := actsBackRow.holds Tryz.pinned (OpenSpec.ofChange actsBackSpec)

/-- ITS FALSE NEIGHBOUR: 'it returns false'. Refute it at one input. -/
def actsBackWrong : ChangeSpec := { name := "actsBack", fn := fun _ => fun
  | [d1, d2] => { results := [.lit (.bool false)], args := [d1, d2] }
  | _ => none }
def ActsBackWrongFalsely : Prop := actsBackRow.holds Tryz.pinned (OpenSpec.ofChange actsBackWrong)

/-- 'quintainlaw06.ActsDo': WHATEVER THE INPUT: true; the input reads as it did. -/
def actsDoSpec : ChangeSpec := { name := "actsDo", fn := fun _ => fun
  | [d1, d2] => { results := [.lit (.bool true)], args := [d1, d2] }
  | _ => none }
def actsDoRow : OpenClaim := { program := "ytjgfkmakfdepcaagreatdoor", sum := "19fb2d2f0dc088c7bc7c56bcf8072f7226f4905d71bd588e9933bffb9f969c9b", func := "quintain/quintainlaw06.ActsDo", spec := "actsDo", inPlace := ["internal/bytealg.CountString", "internal/bytealg.IndexByteString", "internal/bytealg.IndexString"], unfollowed := true, recurses := true, named := ["internal/bytealg.MaxLen", "unicode/utf8.first", "unicode/utf8.acceptRanges", "quintain/expr.operators"], apart := false, laid := [("unicode/utf8.acceptRanges", laid_unicode_utf8_acceptRanges), ("quintain/expr.operators", laid_quintain_expr_operators), ("unicode/utf8.first", laid_unicode_utf8_first)] }
def ActsDoSaid : Prop := actsDoRow.holds Tryz.pinned (OpenSpec.ofChange actsDoSpec)

/-- ITS FALSE NEIGHBOUR: 'it returns false'. Refute it at one input. -/
def actsDoWrong : ChangeSpec := { name := "actsDo", fn := fun _ => fun
  | [d1, d2] => { results := [.lit (.bool false)], args := [d1, d2] }
  | _ => none }
def ActsDoWrongFalsely : Prop := actsDoRow.holds Tryz.pinned (OpenSpec.ofChange actsDoWrong)

/-- 'quintainlaw06.ActsParts': WHATEVER THE INPUT: true; the input reads as it did. -/
def actsPartsSpec : ChangeSpec := { name := "actsParts", fn := fun _ => fun
  | [d1, d2, d3] => { results := [.lit (.bool true)], args := [d1, d2, d3] }
  | _ => none }
def actsPartsRow : OpenClaim := { program := "ytjgfkmakfdepcaagreatdoor", sum := "19fb2d2f0dc088c7bc7c56bcf8072f7226f4905d71bd588e9933bffb9f969c9b", func := "quintain/quintainlaw06.ActsParts", spec := "actsParts", inPlace := ["internal/bytealg.CountString", "internal/bytealg.IndexByteString", "internal/bytealg.IndexString"], unfollowed := true, recurses := true, named := ["internal/bytealg.MaxLen", "unicode/utf8.first", "unicode/utf8.acceptRanges", "quintain/expr.operators"], apart := false, laid := [("unicode/utf8.acceptRanges", laid_unicode_utf8_acceptRanges), ("quintain/expr.operators", laid_quintain_expr_operators), ("unicode/utf8.first", laid_unicode_utf8_first)] }
def ActsPartsSaid : Prop := actsPartsRow.holds Tryz.pinned (OpenSpec.ofChange actsPartsSpec)

/-- ITS FALSE NEIGHBOUR: 'it returns false'. Refute it at one input. -/
def actsPartsWrong : ChangeSpec := { name := "actsParts", fn := fun _ => fun
  | [d1, d2, d3] => { results := [.lit (.bool false)], args := [d1, d2, d3] }
  | _ => none }
def ActsPartsWrongFalsely : Prop := actsPartsRow.holds Tryz.pinned (OpenSpec.ofChange actsPartsWrong)

/-- 'quintainlaw06.ActsFits': WHATEVER THE INPUT: true; the input reads as it did. -/
def actsFitsSpec : ChangeSpec := { name := "actsFits", fn := fun _ => fun
  | [d1, d2] => { results := [.lit (.bool true)], args := [d1, d2] }
  | _ => none }
def actsFitsRow : OpenClaim := { program := "ytjgfkmakfdepcaagreatdoor", sum := "19fb2d2f0dc088c7bc7c56bcf8072f7226f4905d71bd588e9933bffb9f969c9b", func := "quintain/quintainlaw06.ActsFits", spec := "actsFits", inPlace := ["internal/bytealg.CountString", "internal/bytealg.IndexByteString", "internal/bytealg.IndexString"], unfollowed := true, recurses := true, named := ["internal/bytealg.MaxLen", "unicode/utf8.first", "unicode/utf8.acceptRanges", "quintain/expr.operators"], apart := false, laid := [("unicode/utf8.acceptRanges", laid_unicode_utf8_acceptRanges), ("quintain/expr.operators", laid_quintain_expr_operators), ("unicode/utf8.first", laid_unicode_utf8_first)] }
def ActsFitsSaid : Prop := actsFitsRow.holds Tryz.pinned (OpenSpec.ofChange actsFitsSpec)

/-- ITS FALSE NEIGHBOUR: 'it returns false'. Refute it at one input. -/
def actsFitsWrong : ChangeSpec := { name := "actsFits", fn := fun _ => fun
  | [d1, d2] => { results := [.lit (.bool false)], args := [d1, d2] }
  | _ => none }
def ActsFitsWrongFalsely : Prop := actsFitsRow.holds Tryz.pinned (OpenSpec.ofChange actsFitsWrong)

/- THE SECOND FORM. 'bulk': how many values and letters a reading holds, each counted each time it is reached (what is shared counts as often as it is met; a slice's spare places count too). A statement '..UptoSaid' is the law's where the arguments, and the package variables that the reading takes, are together of bulk at most 1048576: NARROWER than '..Said'. Prove '..Said' where nothing that the law and all that it calls make is longer than what came in: it says more and counts as full. Else prove '..UptoSaid'. A law counts once. -/
mutual
def uptoBulk {H : Type} : DataW H → Nat
  | .lit (.string bytes) => bytes.length + 1
  | .lit _ => 1
  | .nil => 1
  | .ptr d => uptoBulk d + 1
  | .slice elems spare => uptoBulkAll elems + uptoBulkAll spare + 1
  | .agg parts => uptoBulkAll parts + 1
  | .iface _ d => uptoBulk d + 1
  | .map entries => uptoBulkEntries entries + 1
  | .held _ => 1
def uptoBulkAll {H : Type} : List (DataW H) → Nat
  | [] => 0
  | d :: r => uptoBulk d + uptoBulkAll r
def uptoBulkEntries {H : Type} : List (Lit × DataW H) → Nat
  | [] => 0
  | x :: r => uptoBulkEntry x + uptoBulkEntries r
def uptoBulkEntry {H : Type} : Lit × DataW H → Nat
  | (.string bytes, d) => bytes.length + uptoBulk d + 1
  | (_, d) => uptoBulk d + 1
 end
def uptoSmall : (H : Type) → List (DataW H) → Bool := fun _ ds => decide (uptoBulkAll ds ≤ 1048576)
def OpenSpec.upto (s : _root_.Go.ChangeSpec) : _root_.Go.OpenSpec := { _root_.Go.OpenSpec.ofChange s with cond := some uptoSmall }

/-- 'quintainlaw06.ActsShows', WHERE WHAT IT READS IS OF BULK AT MOST 1048576: true; the input reads as it did. -/
def actsShowsUptoRow : OpenClaim := { program := "ytjgfkmakfdepcaagreatdoor", sum := "19fb2d2f0dc088c7bc7c56bcf8072f7226f4905d71bd588e9933bffb9f969c9b", func := "quintain/quintainlaw06.ActsShows", spec := "actsShows", inPlace := ["internal/abi.NoEscape", "internal/bytealg.MakeNoZero", "internal/bytealg.CountString", "internal/bytealg.IndexByteString", "internal/bytealg.IndexString"], unfollowed := true, recurses := true, named := ["quintain/expr.operators", "internal/strconv.uint64pow10", "math/bits.deBruijn32tab", "math/bits.deBruijn64tab", "internal/bytealg.MaxLen", "unicode/utf8.first", "unicode/utf8.acceptRanges"], apart := false, laid := [("math/bits.deBruijn32tab", laid_math_bits_deBruijn32tab), ("math/bits.deBruijn64tab", laid_math_bits_deBruijn64tab), ("internal/strconv.uint64pow10", laid_internal_strconv_uint64pow10), ("unicode/utf8.acceptRanges", laid_unicode_utf8_acceptRanges), ("quintain/expr.operators", laid_quintain_expr_operators), ("unicode/utf8.first", laid_unicode_utf8_first)], narrowed := true }
def ActsShowsUptoSaid : Prop := actsShowsUptoRow.holds Tryz.pinned (OpenSpec.upto actsShowsSpec)

/-- 'quintainlaw06.ActsParses', WHERE WHAT IT READS IS OF BULK AT MOST 1048576: true; the input reads as it did. -/
def actsParsesUptoRow : OpenClaim := { program := "ytjgfkmakfdepcaagreatdoor", sum := "19fb2d2f0dc088c7bc7c56bcf8072f7226f4905d71bd588e9933bffb9f969c9b", func := "quintain/quintainlaw06.ActsParses", spec := "actsParses", inPlace := ["internal/bytealg.CountString", "internal/bytealg.IndexByteString", "internal/bytealg.IndexString"], unfollowed := true, recurses := true, named := ["internal/bytealg.MaxLen", "unicode/utf8.first", "unicode/utf8.acceptRanges", "quintain/expr.operators"], apart := false, laid := [("unicode/utf8.acceptRanges", laid_unicode_utf8_acceptRanges), ("quintain/expr.operators", laid_quintain_expr_operators), ("unicode/utf8.first", laid_unicode_utf8_first)], narrowed := true }
def ActsParsesUptoSaid : Prop := actsParsesUptoRow.holds Tryz.pinned (OpenSpec.upto actsParsesSpec)

/-- 'quintainlaw06.ActsBack', WHERE WHAT IT READS IS OF BULK AT MOST 1048576: true; the input reads as it did. -/
def actsBackUptoRow : OpenClaim := { program := "ytjgfkmakfdepcaagreatdoor", sum := "19fb2d2f0dc088c7bc7c56bcf8072f7226f4905d71bd588e9933bffb9f969c9b", func := "quintain/quintainlaw06.ActsBack", spec := "actsBack", inPlace := ["internal/bytealg.CountString", "internal/bytealg.IndexByteString", "internal/bytealg.IndexString", "internal/abi.NoEscape", "internal/bytealg.MakeNoZero"], unfollowed := true, recurses := true, named := ["internal/bytealg.MaxLen", "unicode/utf8.first", "unicode/utf8.acceptRanges", "quintain/expr.operators", "internal/strconv.uint64pow10", "math/bits.deBruijn32tab", "math/bits.deBruijn64tab"], apart := false, laid := [("math/bits.deBruijn32tab", laid_math_bits_deBruijn32tab), ("math/bits.deBruijn64tab", laid_math_bits_deBruijn64tab), ("internal/strconv.uint64pow10", laid_internal_strconv_uint64pow10), ("unicode/utf8.acceptRanges", laid_unicode_utf8_acceptRanges), ("quintain/expr.operators", laid_quintain_expr_operators), ("unicode/utf8.first", laid_unicode_utf8_first)], narrowed := true }
def ActsBackUptoSaid : Prop := actsBackUptoRow.holds Tryz.pinned (OpenSpec.upto actsBackSpec)

/-- 'quintainlaw06.ActsDo', WHERE WHAT IT READS IS OF BULK AT MOST 1048576: true; the input reads as it did. -/
def actsDoUptoRow : OpenClaim := { program := "ytjgfkmakfdepcaagreatdoor", sum := "19fb2d2f0dc088c7bc7c56bcf8072f7226f4905d71bd588e9933bffb9f969c9b", func := "quintain/quintainlaw06.ActsDo", spec := "actsDo", inPlace := ["internal/bytealg.CountString", "internal/bytealg.IndexByteString", "internal/bytealg.IndexString"], unfollowed := true, recurses := true, named := ["internal/bytealg.MaxLen", "unicode/utf8.first", "unicode/utf8.acceptRanges", "quintain/expr.operators"], apart := false, laid := [("unicode/utf8.acceptRanges", laid_unicode_utf8_acceptRanges), ("quintain/expr.operators", laid_quintain_expr_operators), ("unicode/utf8.first", laid_unicode_utf8_first)], narrowed := true }
def ActsDoUptoSaid : Prop := actsDoUptoRow.holds Tryz.pinned (OpenSpec.upto actsDoSpec)

/-- 'quintainlaw06.ActsParts', WHERE WHAT IT READS IS OF BULK AT MOST 1048576: true; the input reads as it did. -/
def actsPartsUptoRow : OpenClaim := { program := "ytjgfkmakfdepcaagreatdoor", sum := "19fb2d2f0dc088c7bc7c56bcf8072f7226f4905d71bd588e9933bffb9f969c9b", func := "quintain/quintainlaw06.ActsParts", spec := "actsParts", inPlace := ["internal/bytealg.CountString", "internal/bytealg.IndexByteString", "internal/bytealg.IndexString"], unfollowed := true, recurses := true, named := ["internal/bytealg.MaxLen", "unicode/utf8.first", "unicode/utf8.acceptRanges", "quintain/expr.operators"], apart := false, laid := [("unicode/utf8.acceptRanges", laid_unicode_utf8_acceptRanges), ("quintain/expr.operators", laid_quintain_expr_operators), ("unicode/utf8.first", laid_unicode_utf8_first)], narrowed := true }
def ActsPartsUptoSaid : Prop := actsPartsUptoRow.holds Tryz.pinned (OpenSpec.upto actsPartsSpec)

/-- 'quintainlaw06.ActsFits', WHERE WHAT IT READS IS OF BULK AT MOST 1048576: true; the input reads as it did. -/
def actsFitsUptoRow : OpenClaim := { program := "ytjgfkmakfdepcaagreatdoor", sum := "19fb2d2f0dc088c7bc7c56bcf8072f7226f4905d71bd588e9933bffb9f969c9b", func := "quintain/quintainlaw06.ActsFits", spec := "actsFits", inPlace := ["internal/bytealg.CountString", "internal/bytealg.IndexByteString", "internal/bytealg.IndexString"], unfollowed := true, recurses := true, named := ["internal/bytealg.MaxLen", "unicode/utf8.first", "unicode/utf8.acceptRanges", "quintain/expr.operators"], apart := false, laid := [("unicode/utf8.acceptRanges", laid_unicode_utf8_acceptRanges), ("quintain/expr.operators", laid_quintain_expr_operators), ("unicode/utf8.first", laid_unicode_utf8_first)], narrowed := true }
def ActsFitsUptoSaid : Prop := actsFitsUptoRow.holds Tryz.pinned (OpenSpec.upto actsFitsSpec)

end Rows
end Go.Proofs.YtjgfkmakfdepcaaGreatDoor

/-
  NARROWER THAN 'FOR EVERY INPUT', by the rows' own cells (each row's printed sentence says how): DateDays: laid · DateWeeks: laid · DateMonths: laid · DateSets: laid · DateWays: laid · DatePlaces: laid · DateCals: laid · DateTexts: laid · DateFollows: laid · DateParts: laid · DateAlgebra: laid · DateTurned: laid · DatePlaced: laid · DateAgain: laid · DateBack: laid · DateKnown: laid.
  DERIVED. THE GIVEN ROWS OF THIS SEAT. 16 by the template 'for every input the law returns true; each argument reads behind the call as it read before'; 0 by the template 'total and deterministic' (their statements: YtfhljcpicdabmaaGreatDoorTotals.lean).
  GIVEN WITH THE SEED: the statements are not yours to turn. If you find one false, say at which input.
  Laid BY PROGRAM, IN A SANDBOX (cutbox-rows.mjs): the forced cells as the released guide's own fill.sh prints them over the translation fb186efaf55ce07f… (all of the seat's roots in one cut). By AI agents, Wed Nov 11 2026. No macro, syntax, notation, axiom, sorry.
-/
import Derived.Test.YtfhljcpicdabmaaGreatDoorChecked
import GoSem.PinnedTables
import GoSem.Claim
import GoSem.ClaimJoined
import GoSem.ClaimMapViews
import Derived.JoinedTies
import Derived.KernelRfl
namespace Go.Proofs.YtfhljcpicdabmaaGreatDoor
/- THE CELL 'sum', in the pinned program and in every row, IS THE sha256 OF THE DUMP (.gsa) THAT YtfhljcpicdabmaaGreatDoorProg.lean LOADS. Nothing in Lean hashes anything: it is a label: what it is worth is what the hold of that sum in a sandbox is worth. -/
noncomputable def Tryz.pinned : Pinned := { name := "ytfhljcpicdabmaagreatdoor", sum := "fb186efaf55ce07fac00b92e042fd765a7e57f8e3f70bc5331d096c2dbcb78a3", checked := Tryz.checked }
namespace Rows
def none {H : Type} : Left H := { results := [], args := [] }

/- WHAT THE LISTED PACKAGE-LEVEL VARIABLES READ AS WHEN THE CALL BEGINS. Each datum BY PROGRAM (the guide's laid-datum.mjs) off the statement by which the dump's own 'gosem.cut.vars' lays the variable. In a bare row this is a premise. The card (YtfhljcpicdabmaaGreatDoorCards.lean) ties it to the program's text. -/
def laid_math_bits_deBruijn32tab {H : Type} : DataW H := .agg [.lit (.int .u8 0), .lit (.int .u8 1), .lit (.int .u8 28), .lit (.int .u8 2), .lit (.int .u8 29), .lit (.int .u8 14), .lit (.int .u8 24), .lit (.int .u8 3), .lit (.int .u8 30), .lit (.int .u8 22), .lit (.int .u8 20), .lit (.int .u8 15), .lit (.int .u8 25), .lit (.int .u8 17), .lit (.int .u8 4), .lit (.int .u8 8), .lit (.int .u8 31), .lit (.int .u8 27), .lit (.int .u8 13), .lit (.int .u8 23), .lit (.int .u8 21), .lit (.int .u8 19), .lit (.int .u8 16), .lit (.int .u8 7), .lit (.int .u8 26), .lit (.int .u8 12), .lit (.int .u8 18), .lit (.int .u8 6), .lit (.int .u8 11), .lit (.int .u8 5), .lit (.int .u8 10), .lit (.int .u8 9)]
def laid_math_bits_deBruijn64tab {H : Type} : DataW H := .agg [.lit (.int .u8 0), .lit (.int .u8 1), .lit (.int .u8 56), .lit (.int .u8 2), .lit (.int .u8 57), .lit (.int .u8 49), .lit (.int .u8 28), .lit (.int .u8 3), .lit (.int .u8 61), .lit (.int .u8 58), .lit (.int .u8 42), .lit (.int .u8 50), .lit (.int .u8 38), .lit (.int .u8 29), .lit (.int .u8 17), .lit (.int .u8 4), .lit (.int .u8 62), .lit (.int .u8 47), .lit (.int .u8 59), .lit (.int .u8 36), .lit (.int .u8 45), .lit (.int .u8 43), .lit (.int .u8 51), .lit (.int .u8 22), .lit (.int .u8 53), .lit (.int .u8 39), .lit (.int .u8 33), .lit (.int .u8 30), .lit (.int .u8 24), .lit (.int .u8 18), .lit (.int .u8 12), .lit (.int .u8 5), .lit (.int .u8 63), .lit (.int .u8 55), .lit (.int .u8 48), .lit (.int .u8 27), .lit (.int .u8 60), .lit (.int .u8 41), .lit (.int .u8 37), .lit (.int .u8 16), .lit (.int .u8 46), .lit (.int .u8 35), .lit (.int .u8 44), .lit (.int .u8 21), .lit (.int .u8 52), .lit (.int .u8 32), .lit (.int .u8 23), .lit (.int .u8 11), .lit (.int .u8 54), .lit (.int .u8 26), .lit (.int .u8 40), .lit (.int .u8 15), .lit (.int .u8 34), .lit (.int .u8 20), .lit (.int .u8 31), .lit (.int .u8 10), .lit (.int .u8 25), .lit (.int .u8 14), .lit (.int .u8 19), .lit (.int .u8 9), .lit (.int .u8 13), .lit (.int .u8 8), .lit (.int .u8 7), .lit (.int .u8 6)]
def laid_internal_strconv_uint64pow10 {H : Type} : DataW H := .agg [.lit (.int .u64 1), .lit (.int .u64 10), .lit (.int .u64 100), .lit (.int .u64 1000), .lit (.int .u64 10000), .lit (.int .u64 100000), .lit (.int .u64 1000000), .lit (.int .u64 10000000), .lit (.int .u64 100000000), .lit (.int .u64 1000000000), .lit (.int .u64 10000000000), .lit (.int .u64 100000000000), .lit (.int .u64 1000000000000), .lit (.int .u64 10000000000000), .lit (.int .u64 100000000000000), .lit (.int .u64 1000000000000000), .lit (.int .u64 10000000000000000), .lit (.int .u64 100000000000000000), .lit (.int .u64 1000000000000000000), .lit (.int .u64 10000000000000000000)]
def laid_afterword_date_ahead {H : Type} : DataW H := .agg [.lit (.int .i64 0), .lit (.int .i64 31), .lit (.int .i64 59), .lit (.int .i64 90), .lit (.int .i64 120), .lit (.int .i64 151), .lit (.int .i64 181), .lit (.int .i64 212), .lit (.int .i64 243), .lit (.int .i64 273), .lit (.int .i64 304), .lit (.int .i64 334), .lit (.int .i64 365)]
def laid_afterword_date_weekdays {H : Type} : DataW H := .agg [.lit (.string [109, 111, 110]), .lit (.string [116, 117, 101]), .lit (.string [119, 101, 100]), .lit (.string [116, 104, 117]), .lit (.string [102, 114, 105]), .lit (.string [115, 97, 116]), .lit (.string [115, 117, 110])]
def laid_unicode_utf8_acceptRanges {H : Type} : DataW H := .agg [.agg [.lit (.int .u8 128), .lit (.int .u8 191)], .agg [.lit (.int .u8 160), .lit (.int .u8 191)], .agg [.lit (.int .u8 128), .lit (.int .u8 159)], .agg [.lit (.int .u8 144), .lit (.int .u8 191)], .agg [.lit (.int .u8 128), .lit (.int .u8 143)], .agg [.lit (.int .u8 0), .lit (.int .u8 0)], .agg [.lit (.int .u8 0), .lit (.int .u8 0)], .agg [.lit (.int .u8 0), .lit (.int .u8 0)], .agg [.lit (.int .u8 0), .lit (.int .u8 0)], .agg [.lit (.int .u8 0), .lit (.int .u8 0)], .agg [.lit (.int .u8 0), .lit (.int .u8 0)], .agg [.lit (.int .u8 0), .lit (.int .u8 0)], .agg [.lit (.int .u8 0), .lit (.int .u8 0)], .agg [.lit (.int .u8 0), .lit (.int .u8 0)], .agg [.lit (.int .u8 0), .lit (.int .u8 0)], .agg [.lit (.int .u8 0), .lit (.int .u8 0)]]
/-- One of Go's own tables, pinned by name: the form's constant. -/
def laid_unicode_utf8_first : DataW Unit := Go.Pinned.utf8First

/-- 'afterwordlaw01.DateDays': WHATEVER THE INPUT: true; the input reads as it did. -/
def dateDaysSpec : ChangeSpec := { name := "dateDays", fn := fun _ => fun
  | [d1, d2] => { results := [.lit (.bool true)], args := [d1, d2] }
  | _ => none }
def dateDaysRow : OpenClaim := { program := "ytfhljcpicdabmaagreatdoor", sum := "fb186efaf55ce07fac00b92e042fd765a7e57f8e3f70bc5331d096c2dbcb78a3", func := "afterword/afterwordlaw01.DateDays", spec := "dateDays", inPlace := ["internal/abi.NoEscape", "internal/bytealg.MakeNoZero"], unfollowed := true, recurses := true, named := ["afterword/date.ahead", "internal/strconv.uint64pow10", "math/bits.deBruijn32tab", "math/bits.deBruijn64tab", "afterword/date.weekdays"], apart := false, laid := [("math/bits.deBruijn32tab", laid_math_bits_deBruijn32tab), ("math/bits.deBruijn64tab", laid_math_bits_deBruijn64tab), ("internal/strconv.uint64pow10", laid_internal_strconv_uint64pow10), ("afterword/date.ahead", laid_afterword_date_ahead), ("afterword/date.weekdays", laid_afterword_date_weekdays)] }
def DateDaysSaid : Prop := dateDaysRow.holds Tryz.pinned (OpenSpec.ofChange dateDaysSpec)

/-- ITS FALSE NEIGHBOUR: 'it returns false'. Refute it at one input. -/
def dateDaysWrong : ChangeSpec := { name := "dateDays", fn := fun _ => fun
  | [d1, d2] => { results := [.lit (.bool false)], args := [d1, d2] }
  | _ => none }
def DateDaysWrongFalsely : Prop := dateDaysRow.holds Tryz.pinned (OpenSpec.ofChange dateDaysWrong)

/-- 'afterwordlaw01.DateWeeks': WHATEVER THE INPUT: true; the input reads as it did. -/
def dateWeeksSpec : ChangeSpec := { name := "dateWeeks", fn := fun _ => fun
  | [d1, d2] => { results := [.lit (.bool true)], args := [d1, d2] }
  | _ => none }
def dateWeeksRow : OpenClaim := { program := "ytfhljcpicdabmaagreatdoor", sum := "fb186efaf55ce07fac00b92e042fd765a7e57f8e3f70bc5331d096c2dbcb78a3", func := "afterword/afterwordlaw01.DateWeeks", spec := "dateWeeks", inPlace := ["internal/abi.NoEscape", "internal/bytealg.MakeNoZero"], unfollowed := true, recurses := true, named := ["afterword/date.ahead", "internal/strconv.uint64pow10", "math/bits.deBruijn32tab", "math/bits.deBruijn64tab", "afterword/date.weekdays"], apart := false, laid := [("math/bits.deBruijn32tab", laid_math_bits_deBruijn32tab), ("math/bits.deBruijn64tab", laid_math_bits_deBruijn64tab), ("internal/strconv.uint64pow10", laid_internal_strconv_uint64pow10), ("afterword/date.ahead", laid_afterword_date_ahead), ("afterword/date.weekdays", laid_afterword_date_weekdays)] }
def DateWeeksSaid : Prop := dateWeeksRow.holds Tryz.pinned (OpenSpec.ofChange dateWeeksSpec)

/-- ITS FALSE NEIGHBOUR: 'it returns false'. Refute it at one input. -/
def dateWeeksWrong : ChangeSpec := { name := "dateWeeks", fn := fun _ => fun
  | [d1, d2] => { results := [.lit (.bool false)], args := [d1, d2] }
  | _ => none }
def DateWeeksWrongFalsely : Prop := dateWeeksRow.holds Tryz.pinned (OpenSpec.ofChange dateWeeksWrong)

/-- 'afterwordlaw01.DateMonths': WHATEVER THE INPUT: true; the input reads as it did. -/
def dateMonthsSpec : ChangeSpec := { name := "dateMonths", fn := fun _ => fun
  | [d1, d2, d3] => { results := [.lit (.bool true)], args := [d1, d2, d3] }
  | _ => none }
def dateMonthsRow : OpenClaim := { program := "ytfhljcpicdabmaagreatdoor", sum := "fb186efaf55ce07fac00b92e042fd765a7e57f8e3f70bc5331d096c2dbcb78a3", func := "afterword/afterwordlaw01.DateMonths", spec := "dateMonths", inPlace := ["internal/abi.NoEscape", "internal/bytealg.MakeNoZero"], unfollowed := true, recurses := true, named := ["afterword/date.ahead", "internal/strconv.uint64pow10", "math/bits.deBruijn32tab", "math/bits.deBruijn64tab", "afterword/date.weekdays"], apart := false, laid := [("math/bits.deBruijn32tab", laid_math_bits_deBruijn32tab), ("math/bits.deBruijn64tab", laid_math_bits_deBruijn64tab), ("internal/strconv.uint64pow10", laid_internal_strconv_uint64pow10), ("afterword/date.ahead", laid_afterword_date_ahead), ("afterword/date.weekdays", laid_afterword_date_weekdays)] }
def DateMonthsSaid : Prop := dateMonthsRow.holds Tryz.pinned (OpenSpec.ofChange dateMonthsSpec)

/-- ITS FALSE NEIGHBOUR: 'it returns false'. Refute it at one input. -/
def dateMonthsWrong : ChangeSpec := { name := "dateMonths", fn := fun _ => fun
  | [d1, d2, d3] => { results := [.lit (.bool false)], args := [d1, d2, d3] }
  | _ => none }
def DateMonthsWrongFalsely : Prop := dateMonthsRow.holds Tryz.pinned (OpenSpec.ofChange dateMonthsWrong)

/-- 'afterwordlaw01.DateSets': WHATEVER THE INPUT: true; the input reads as it did. -/
def dateSetsSpec : ChangeSpec := { name := "dateSets", fn := fun _ => fun
  | [d1, d2] => { results := [.lit (.bool true)], args := [d1, d2] }
  | _ => none }
def dateSetsRow : OpenClaim := { program := "ytfhljcpicdabmaagreatdoor", sum := "fb186efaf55ce07fac00b92e042fd765a7e57f8e3f70bc5331d096c2dbcb78a3", func := "afterword/afterwordlaw01.DateSets", spec := "dateSets", inPlace := ["internal/abi.NoEscape", "internal/bytealg.MakeNoZero"], unfollowed := true, recurses := true, named := ["afterword/date.ahead", "internal/strconv.uint64pow10", "math/bits.deBruijn32tab", "math/bits.deBruijn64tab", "afterword/date.weekdays"], apart := false, laid := [("math/bits.deBruijn32tab", laid_math_bits_deBruijn32tab), ("math/bits.deBruijn64tab", laid_math_bits_deBruijn64tab), ("internal/strconv.uint64pow10", laid_internal_strconv_uint64pow10), ("afterword/date.ahead", laid_afterword_date_ahead), ("afterword/date.weekdays", laid_afterword_date_weekdays)] }
def DateSetsSaid : Prop := dateSetsRow.holds Tryz.pinned (OpenSpec.ofChange dateSetsSpec)

/-- ITS FALSE NEIGHBOUR: 'it returns false'. Refute it at one input. -/
def dateSetsWrong : ChangeSpec := { name := "dateSets", fn := fun _ => fun
  | [d1, d2] => { results := [.lit (.bool false)], args := [d1, d2] }
  | _ => none }
def DateSetsWrongFalsely : Prop := dateSetsRow.holds Tryz.pinned (OpenSpec.ofChange dateSetsWrong)

/-- 'afterwordlaw01.DateWays': WHATEVER THE INPUT: true; the input reads as it did. -/
def dateWaysSpec : ChangeSpec := { name := "dateWays", fn := fun _ => fun
  | [d1, d2, d3, d4] => { results := [.lit (.bool true)], args := [d1, d2, d3, d4] }
  | _ => none }
def dateWaysRow : OpenClaim := { program := "ytfhljcpicdabmaagreatdoor", sum := "fb186efaf55ce07fac00b92e042fd765a7e57f8e3f70bc5331d096c2dbcb78a3", func := "afterword/afterwordlaw01.DateWays", spec := "dateWays", inPlace := ["internal/abi.NoEscape", "internal/bytealg.MakeNoZero"], unfollowed := true, recurses := true, named := ["afterword/date.ahead", "internal/strconv.uint64pow10", "math/bits.deBruijn32tab", "math/bits.deBruijn64tab", "afterword/date.weekdays"], apart := false, laid := [("math/bits.deBruijn32tab", laid_math_bits_deBruijn32tab), ("math/bits.deBruijn64tab", laid_math_bits_deBruijn64tab), ("internal/strconv.uint64pow10", laid_internal_strconv_uint64pow10), ("afterword/date.ahead", laid_afterword_date_ahead), ("afterword/date.weekdays", laid_afterword_date_weekdays)] }
def DateWaysSaid : Prop := dateWaysRow.holds Tryz.pinned (OpenSpec.ofChange dateWaysSpec)

/-- ITS FALSE NEIGHBOUR: 'it returns false'. Refute it at one input. -/
def dateWaysWrong : ChangeSpec := { name := "dateWays", fn := fun _ => fun
  | [d1, d2, d3, d4] => { results := [.lit (.bool false)], args := [d1, d2, d3, d4] }
  | _ => none }
def DateWaysWrongFalsely : Prop := dateWaysRow.holds Tryz.pinned (OpenSpec.ofChange dateWaysWrong)

/-- 'afterwordlaw01.DatePlaces': WHATEVER THE INPUT: true; the input reads as it did. -/
def datePlacesSpec : ChangeSpec := { name := "datePlaces", fn := fun _ => fun
  | [d] => { results := [.lit (.bool true)], args := [d] }
  | _ => none }
def datePlacesRow : OpenClaim := { program := "ytfhljcpicdabmaagreatdoor", sum := "fb186efaf55ce07fac00b92e042fd765a7e57f8e3f70bc5331d096c2dbcb78a3", func := "afterword/afterwordlaw01.DatePlaces", spec := "datePlaces", inPlace := ["internal/abi.NoEscape", "internal/bytealg.MakeNoZero"], unfollowed := true, recurses := true, named := ["afterword/date.ahead", "internal/strconv.uint64pow10", "math/bits.deBruijn32tab", "math/bits.deBruijn64tab", "afterword/date.weekdays"], apart := false, laid := [("math/bits.deBruijn32tab", laid_math_bits_deBruijn32tab), ("math/bits.deBruijn64tab", laid_math_bits_deBruijn64tab), ("internal/strconv.uint64pow10", laid_internal_strconv_uint64pow10), ("afterword/date.ahead", laid_afterword_date_ahead), ("afterword/date.weekdays", laid_afterword_date_weekdays)] }
def DatePlacesSaid : Prop := datePlacesRow.holds Tryz.pinned (OpenSpec.ofChange datePlacesSpec)

/-- ITS FALSE NEIGHBOUR: 'it returns false'. Refute it at one input. -/
def datePlacesWrong : ChangeSpec := { name := "datePlaces", fn := fun _ => fun
  | [d] => { results := [.lit (.bool false)], args := [d] }
  | _ => none }
def DatePlacesWrongFalsely : Prop := datePlacesRow.holds Tryz.pinned (OpenSpec.ofChange datePlacesWrong)

/-- 'afterwordlaw01.DateCals': WHATEVER THE INPUT: true; the input reads as it did. -/
def dateCalsSpec : ChangeSpec := { name := "dateCals", fn := fun _ => fun
  | [d1, d2, d3] => { results := [.lit (.bool true)], args := [d1, d2, d3] }
  | _ => none }
def dateCalsRow : OpenClaim := { program := "ytfhljcpicdabmaagreatdoor", sum := "fb186efaf55ce07fac00b92e042fd765a7e57f8e3f70bc5331d096c2dbcb78a3", func := "afterword/afterwordlaw01.DateCals", spec := "dateCals", inPlace := ["internal/abi.NoEscape", "internal/bytealg.MakeNoZero"], unfollowed := true, recurses := true, named := ["afterword/date.ahead", "internal/strconv.uint64pow10", "math/bits.deBruijn32tab", "math/bits.deBruijn64tab", "afterword/date.weekdays"], apart := false, laid := [("math/bits.deBruijn32tab", laid_math_bits_deBruijn32tab), ("math/bits.deBruijn64tab", laid_math_bits_deBruijn64tab), ("internal/strconv.uint64pow10", laid_internal_strconv_uint64pow10), ("afterword/date.ahead", laid_afterword_date_ahead), ("afterword/date.weekdays", laid_afterword_date_weekdays)] }
def DateCalsSaid : Prop := dateCalsRow.holds Tryz.pinned (OpenSpec.ofChange dateCalsSpec)

/-- ITS FALSE NEIGHBOUR: 'it returns false'. Refute it at one input. -/
def dateCalsWrong : ChangeSpec := { name := "dateCals", fn := fun _ => fun
  | [d1, d2, d3] => { results := [.lit (.bool false)], args := [d1, d2, d3] }
  | _ => none }
def DateCalsWrongFalsely : Prop := dateCalsRow.holds Tryz.pinned (OpenSpec.ofChange dateCalsWrong)

/-- 'afterwordlaw01.DateTexts': WHATEVER THE INPUT: true; the input reads as it did. -/
def dateTextsSpec : ChangeSpec := { name := "dateTexts", fn := fun _ => fun
  | [d1, d2, d3] => { results := [.lit (.bool true)], args := [d1, d2, d3] }
  | _ => none }
def dateTextsRow : OpenClaim := { program := "ytfhljcpicdabmaagreatdoor", sum := "fb186efaf55ce07fac00b92e042fd765a7e57f8e3f70bc5331d096c2dbcb78a3", func := "afterword/afterwordlaw01.DateTexts", spec := "dateTexts", inPlace := ["internal/abi.NoEscape", "internal/bytealg.MakeNoZero", "internal/bytealg.CountString", "internal/bytealg.IndexByteString", "internal/bytealg.IndexString"], unfollowed := true, recurses := true, named := ["afterword/date.ahead", "internal/strconv.uint64pow10", "math/bits.deBruijn32tab", "math/bits.deBruijn64tab", "afterword/date.weekdays", "unicode/utf8.first", "unicode/utf8.acceptRanges", "internal/bytealg.MaxLen"], apart := false, laid := [("math/bits.deBruijn32tab", laid_math_bits_deBruijn32tab), ("math/bits.deBruijn64tab", laid_math_bits_deBruijn64tab), ("internal/strconv.uint64pow10", laid_internal_strconv_uint64pow10), ("unicode/utf8.acceptRanges", laid_unicode_utf8_acceptRanges), ("afterword/date.ahead", laid_afterword_date_ahead), ("afterword/date.weekdays", laid_afterword_date_weekdays), ("unicode/utf8.first", laid_unicode_utf8_first)] }
def DateTextsSaid : Prop := dateTextsRow.holds Tryz.pinned (OpenSpec.ofChange dateTextsSpec)

/-- ITS FALSE NEIGHBOUR: 'it returns false'. Refute it at one input. -/
def dateTextsWrong : ChangeSpec := { name := "dateTexts", fn := fun _ => fun
  | [d1, d2, d3] => { results := [.lit (.bool false)], args := [d1, d2, d3] }
  | _ => none }
def DateTextsWrongFalsely : Prop := dateTextsRow.holds Tryz.pinned (OpenSpec.ofChange dateTextsWrong)

/-- 'afterwordlaw01.DateFollows': WHATEVER THE INPUT: true; the input reads as it did. -/
def dateFollowsSpec : ChangeSpec := { name := "dateFollows", fn := fun _ => fun
  | [d] => { results := [.lit (.bool true)], args := [d] }
  | _ => none }
def dateFollowsRow : OpenClaim := { program := "ytfhljcpicdabmaagreatdoor", sum := "fb186efaf55ce07fac00b92e042fd765a7e57f8e3f70bc5331d096c2dbcb78a3", func := "afterword/afterwordlaw01.DateFollows", spec := "dateFollows", inPlace := ["internal/abi.NoEscape", "internal/bytealg.MakeNoZero"], unfollowed := true, recurses := true, named := ["afterword/date.ahead", "internal/strconv.uint64pow10", "math/bits.deBruijn32tab", "math/bits.deBruijn64tab", "afterword/date.weekdays"], apart := false, laid := [("math/bits.deBruijn32tab", laid_math_bits_deBruijn32tab), ("math/bits.deBruijn64tab", laid_math_bits_deBruijn64tab), ("internal/strconv.uint64pow10", laid_internal_strconv_uint64pow10), ("afterword/date.ahead", laid_afterword_date_ahead), ("afterword/date.weekdays", laid_afterword_date_weekdays)] }
def DateFollowsSaid : Prop := dateFollowsRow.holds Tryz.pinned (OpenSpec.ofChange dateFollowsSpec)

/-- ITS FALSE NEIGHBOUR: 'it returns false'. Refute it at one input. -/
def dateFollowsWrong : ChangeSpec := { name := "dateFollows", fn := fun _ => fun
  | [d] => { results := [.lit (.bool false)], args := [d] }
  | _ => none }
def DateFollowsWrongFalsely : Prop := dateFollowsRow.holds Tryz.pinned (OpenSpec.ofChange dateFollowsWrong)

/-- 'afterwordlaw01.DateParts': WHATEVER THE INPUT: true; the input reads as it did. -/
def datePartsSpec : ChangeSpec := { name := "dateParts", fn := fun _ => fun
  | [d1, d2, d3, d4] => { results := [.lit (.bool true)], args := [d1, d2, d3, d4] }
  | _ => none }
def datePartsRow : OpenClaim := { program := "ytfhljcpicdabmaagreatdoor", sum := "fb186efaf55ce07fac00b92e042fd765a7e57f8e3f70bc5331d096c2dbcb78a3", func := "afterword/afterwordlaw01.DateParts", spec := "dateParts", inPlace := ["internal/abi.NoEscape", "internal/bytealg.MakeNoZero"], unfollowed := true, recurses := true, named := ["afterword/date.ahead", "internal/strconv.uint64pow10", "math/bits.deBruijn32tab", "math/bits.deBruijn64tab", "afterword/date.weekdays"], apart := false, laid := [("math/bits.deBruijn32tab", laid_math_bits_deBruijn32tab), ("math/bits.deBruijn64tab", laid_math_bits_deBruijn64tab), ("internal/strconv.uint64pow10", laid_internal_strconv_uint64pow10), ("afterword/date.ahead", laid_afterword_date_ahead), ("afterword/date.weekdays", laid_afterword_date_weekdays)] }
def DatePartsSaid : Prop := datePartsRow.holds Tryz.pinned (OpenSpec.ofChange datePartsSpec)

/-- ITS FALSE NEIGHBOUR: 'it returns false'. Refute it at one input. -/
def datePartsWrong : ChangeSpec := { name := "dateParts", fn := fun _ => fun
  | [d1, d2, d3, d4] => { results := [.lit (.bool false)], args := [d1, d2, d3, d4] }
  | _ => none }
def DatePartsWrongFalsely : Prop := datePartsRow.holds Tryz.pinned (OpenSpec.ofChange datePartsWrong)

/-- 'afterwordlaw01.DateAlgebra': WHATEVER THE INPUT: true; the input reads as it did. -/
def dateAlgebraSpec : ChangeSpec := { name := "dateAlgebra", fn := fun _ => fun
  | [d1, d2, d3] => { results := [.lit (.bool true)], args := [d1, d2, d3] }
  | _ => none }
def dateAlgebraRow : OpenClaim := { program := "ytfhljcpicdabmaagreatdoor", sum := "fb186efaf55ce07fac00b92e042fd765a7e57f8e3f70bc5331d096c2dbcb78a3", func := "afterword/afterwordlaw01.DateAlgebra", spec := "dateAlgebra", inPlace := ["internal/abi.NoEscape", "internal/bytealg.MakeNoZero"], unfollowed := true, recurses := true, named := ["afterword/date.ahead", "internal/strconv.uint64pow10", "math/bits.deBruijn32tab", "math/bits.deBruijn64tab", "afterword/date.weekdays"], apart := false, laid := [("math/bits.deBruijn32tab", laid_math_bits_deBruijn32tab), ("math/bits.deBruijn64tab", laid_math_bits_deBruijn64tab), ("internal/strconv.uint64pow10", laid_internal_strconv_uint64pow10), ("afterword/date.ahead", laid_afterword_date_ahead), ("afterword/date.weekdays", laid_afterword_date_weekdays)] }
def DateAlgebraSaid : Prop := dateAlgebraRow.holds Tryz.pinned (OpenSpec.ofChange dateAlgebraSpec)

/-- ITS FALSE NEIGHBOUR: 'it returns false'. Refute it at one input. -/
def dateAlgebraWrong : ChangeSpec := { name := "dateAlgebra", fn := fun _ => fun
  | [d1, d2, d3] => { results := [.lit (.bool false)], args := [d1, d2, d3] }
  | _ => none }
def DateAlgebraWrongFalsely : Prop := dateAlgebraRow.holds Tryz.pinned (OpenSpec.ofChange dateAlgebraWrong)

/-- 'afterwordlaw01.DateTurned': WHATEVER THE INPUT: true; the input reads as it did. -/
def dateTurnedSpec : ChangeSpec := { name := "dateTurned", fn := fun _ => fun
  | [d1, d2, d3, d4, d5] => { results := [.lit (.bool true)], args := [d1, d2, d3, d4, d5] }
  | _ => none }
def dateTurnedRow : OpenClaim := { program := "ytfhljcpicdabmaagreatdoor", sum := "fb186efaf55ce07fac00b92e042fd765a7e57f8e3f70bc5331d096c2dbcb78a3", func := "afterword/afterwordlaw01.DateTurned", spec := "dateTurned", inPlace := ["internal/abi.NoEscape", "internal/bytealg.MakeNoZero"], unfollowed := true, recurses := true, named := ["afterword/date.ahead", "internal/strconv.uint64pow10", "math/bits.deBruijn32tab", "math/bits.deBruijn64tab", "afterword/date.weekdays"], apart := false, laid := [("math/bits.deBruijn32tab", laid_math_bits_deBruijn32tab), ("math/bits.deBruijn64tab", laid_math_bits_deBruijn64tab), ("internal/strconv.uint64pow10", laid_internal_strconv_uint64pow10), ("afterword/date.ahead", laid_afterword_date_ahead), ("afterword/date.weekdays", laid_afterword_date_weekdays)] }
def DateTurnedSaid : Prop := dateTurnedRow.holds Tryz.pinned (OpenSpec.ofChange dateTurnedSpec)

/-- ITS FALSE NEIGHBOUR: 'it returns false'. Refute it at one input. -/
def dateTurnedWrong : ChangeSpec := { name := "dateTurned", fn := fun _ => fun
  | [d1, d2, d3, d4, d5] => { results := [.lit (.bool false)], args := [d1, d2, d3, d4, d5] }
  | _ => none }
def DateTurnedWrongFalsely : Prop := dateTurnedRow.holds Tryz.pinned (OpenSpec.ofChange dateTurnedWrong)

/-- 'afterwordlaw01.DatePlaced': WHATEVER THE INPUT: true; the input reads as it did. -/
def datePlacedSpec : ChangeSpec := { name := "datePlaced", fn := fun _ => fun
  | [d1, d2] => { results := [.lit (.bool true)], args := [d1, d2] }
  | _ => none }
def datePlacedRow : OpenClaim := { program := "ytfhljcpicdabmaagreatdoor", sum := "fb186efaf55ce07fac00b92e042fd765a7e57f8e3f70bc5331d096c2dbcb78a3", func := "afterword/afterwordlaw01.DatePlaced", spec := "datePlaced", inPlace := ["internal/abi.NoEscape", "internal/bytealg.MakeNoZero"], unfollowed := true, recurses := true, named := ["afterword/date.ahead", "internal/strconv.uint64pow10", "math/bits.deBruijn32tab", "math/bits.deBruijn64tab", "afterword/date.weekdays"], apart := false, laid := [("math/bits.deBruijn32tab", laid_math_bits_deBruijn32tab), ("math/bits.deBruijn64tab", laid_math_bits_deBruijn64tab), ("internal/strconv.uint64pow10", laid_internal_strconv_uint64pow10), ("afterword/date.ahead", laid_afterword_date_ahead), ("afterword/date.weekdays", laid_afterword_date_weekdays)] }
def DatePlacedSaid : Prop := datePlacedRow.holds Tryz.pinned (OpenSpec.ofChange datePlacedSpec)

/-- ITS FALSE NEIGHBOUR: 'it returns false'. Refute it at one input. -/
def datePlacedWrong : ChangeSpec := { name := "datePlaced", fn := fun _ => fun
  | [d1, d2] => { results := [.lit (.bool false)], args := [d1, d2] }
  | _ => none }
def DatePlacedWrongFalsely : Prop := datePlacedRow.holds Tryz.pinned (OpenSpec.ofChange datePlacedWrong)

/-- 'afterwordlaw01.DateAgain': WHATEVER THE INPUT: true; the input reads as it did. -/
def dateAgainSpec : ChangeSpec := { name := "dateAgain", fn := fun _ => fun
  | [d1, d2, d3] => { results := [.lit (.bool true)], args := [d1, d2, d3] }
  | _ => none }
def dateAgainRow : OpenClaim := { program := "ytfhljcpicdabmaagreatdoor", sum := "fb186efaf55ce07fac00b92e042fd765a7e57f8e3f70bc5331d096c2dbcb78a3", func := "afterword/afterwordlaw01.DateAgain", spec := "dateAgain", inPlace := ["internal/abi.NoEscape", "internal/bytealg.MakeNoZero"], unfollowed := true, recurses := true, named := ["afterword/date.ahead", "internal/strconv.uint64pow10", "math/bits.deBruijn32tab", "math/bits.deBruijn64tab", "afterword/date.weekdays"], apart := false, laid := [("math/bits.deBruijn32tab", laid_math_bits_deBruijn32tab), ("math/bits.deBruijn64tab", laid_math_bits_deBruijn64tab), ("internal/strconv.uint64pow10", laid_internal_strconv_uint64pow10), ("afterword/date.ahead", laid_afterword_date_ahead), ("afterword/date.weekdays", laid_afterword_date_weekdays)] }
def DateAgainSaid : Prop := dateAgainRow.holds Tryz.pinned (OpenSpec.ofChange dateAgainSpec)

/-- ITS FALSE NEIGHBOUR: 'it returns false'. Refute it at one input. -/
def dateAgainWrong : ChangeSpec := { name := "dateAgain", fn := fun _ => fun
  | [d1, d2, d3] => { results := [.lit (.bool false)], args := [d1, d2, d3] }
  | _ => none }
def DateAgainWrongFalsely : Prop := dateAgainRow.holds Tryz.pinned (OpenSpec.ofChange dateAgainWrong)

/-- 'afterwordlaw01.DateBack': WHATEVER THE INPUT: true; the input reads as it did. -/
def dateBackSpec : ChangeSpec := { name := "dateBack", fn := fun _ => fun
  | [d1, d2, d3] => { results := [.lit (.bool true)], args := [d1, d2, d3] }
  | _ => none }
def dateBackRow : OpenClaim := { program := "ytfhljcpicdabmaagreatdoor", sum := "fb186efaf55ce07fac00b92e042fd765a7e57f8e3f70bc5331d096c2dbcb78a3", func := "afterword/afterwordlaw01.DateBack", spec := "dateBack", inPlace := ["internal/abi.NoEscape", "internal/bytealg.MakeNoZero", "internal/bytealg.CountString", "internal/bytealg.IndexByteString", "internal/bytealg.IndexString"], unfollowed := true, recurses := true, named := ["afterword/date.ahead", "internal/strconv.uint64pow10", "math/bits.deBruijn32tab", "math/bits.deBruijn64tab", "afterword/date.weekdays", "unicode/utf8.first", "unicode/utf8.acceptRanges", "internal/bytealg.MaxLen"], apart := false, laid := [("math/bits.deBruijn32tab", laid_math_bits_deBruijn32tab), ("math/bits.deBruijn64tab", laid_math_bits_deBruijn64tab), ("internal/strconv.uint64pow10", laid_internal_strconv_uint64pow10), ("unicode/utf8.acceptRanges", laid_unicode_utf8_acceptRanges), ("afterword/date.ahead", laid_afterword_date_ahead), ("afterword/date.weekdays", laid_afterword_date_weekdays), ("unicode/utf8.first", laid_unicode_utf8_first)] }
def DateBackSaid : Prop := dateBackRow.holds Tryz.pinned (OpenSpec.ofChange dateBackSpec)

/-- ITS FALSE NEIGHBOUR: 'it returns false'. Refute it at one input. -/
def dateBackWrong : ChangeSpec := { name := "dateBack", fn := fun _ => fun
  | [d1, d2, d3] => { results := [.lit (.bool false)], args := [d1, d2, d3] }
  | _ => none }
def DateBackWrongFalsely : Prop := dateBackRow.holds Tryz.pinned (OpenSpec.ofChange dateBackWrong)

/-- 'afterwordlaw01.DateKnown': WHATEVER THE INPUT: true; the input reads as it did. -/
def dateKnownSpec : ChangeSpec := { name := "dateKnown", fn := fun _ => fun
  | [] => { results := [.lit (.bool true)], args := [] }
  | _ => none }
def dateKnownRow : OpenClaim := { program := "ytfhljcpicdabmaagreatdoor", sum := "fb186efaf55ce07fac00b92e042fd765a7e57f8e3f70bc5331d096c2dbcb78a3", func := "afterword/afterwordlaw01.DateKnown", spec := "dateKnown", inPlace := ["internal/bytealg.CountString", "internal/bytealg.IndexByteString", "internal/bytealg.IndexString", "internal/abi.NoEscape", "internal/bytealg.MakeNoZero"], unfollowed := true, recurses := true, named := ["afterword/date.ahead", "unicode/utf8.first", "unicode/utf8.acceptRanges", "internal/bytealg.MaxLen", "afterword/date.weekdays", "internal/strconv.uint64pow10", "math/bits.deBruijn32tab", "math/bits.deBruijn64tab"], apart := false, laid := [("math/bits.deBruijn32tab", laid_math_bits_deBruijn32tab), ("math/bits.deBruijn64tab", laid_math_bits_deBruijn64tab), ("internal/strconv.uint64pow10", laid_internal_strconv_uint64pow10), ("unicode/utf8.acceptRanges", laid_unicode_utf8_acceptRanges), ("afterword/date.ahead", laid_afterword_date_ahead), ("afterword/date.weekdays", laid_afterword_date_weekdays), ("unicode/utf8.first", laid_unicode_utf8_first)] }
def DateKnownSaid : Prop := dateKnownRow.holds Tryz.pinned (OpenSpec.ofChange dateKnownSpec)

/-- ITS FALSE NEIGHBOUR: 'it returns false'. Refute it at one input. -/
def dateKnownWrong : ChangeSpec := { name := "dateKnown", fn := fun _ => fun
  | [] => { results := [.lit (.bool false)], args := [] }
  | _ => none }
def DateKnownWrongFalsely : Prop := dateKnownRow.holds Tryz.pinned (OpenSpec.ofChange dateKnownWrong)

/- THE SECOND FORM. 'bulk': how many values and letters a reading holds, each counted each time it is reached (what is shared counts as often as it is met; a slice's spare places count too). A statement '..UptoSaid' is the law's where the arguments, and the package variables that the reading takes, are together of bulk at most 1048576: NARROWER than '..Said'. Prove '..Said' where nothing that the law and all that it calls make is longer than what came in: it says more and counts as full. Else prove '..UptoSaid'. A law counts once. -/
mutual
def uptoBulk {H : Type} : DataW H → Nat
  | .lit (.string bytes) => bytes.length + 1
  | .lit _ => 1
  | .nil => 1
  | .ptr d => uptoBulk d + 1
  | .slice elems spare => uptoBulkAll elems + uptoBulkAll spare + 1
  | .agg parts => uptoBulkAll parts + 1
  | .iface _ d => uptoBulk d + 1
  | .map entries => uptoBulkEntries entries + 1
  | .held _ => 1
def uptoBulkAll {H : Type} : List (DataW H) → Nat
  | [] => 0
  | d :: r => uptoBulk d + uptoBulkAll r
def uptoBulkEntries {H : Type} : List (Lit × DataW H) → Nat
  | [] => 0
  | x :: r => uptoBulkEntry x + uptoBulkEntries r
def uptoBulkEntry {H : Type} : Lit × DataW H → Nat
  | (.string bytes, d) => bytes.length + uptoBulk d + 1
  | (_, d) => uptoBulk d + 1
 end
def uptoSmall : (H : Type) → List (DataW H) → Bool := fun _ ds => decide (uptoBulkAll ds ≤ 1048576)
def OpenSpec.upto (s : _root_.Go.ChangeSpec) : _root_.Go.OpenSpec := { _root_.Go.OpenSpec.ofChange s with cond := some uptoSmall }

/-- 'afterwordlaw01.DateDays', WHERE WHAT IT READS IS OF BULK AT MOST 1048576: true; the input reads as it did. -/
def dateDaysUptoRow : OpenClaim := { program := "ytfhljcpicdabmaagreatdoor", sum := "fb186efaf55ce07fac00b92e042fd765a7e57f8e3f70bc5331d096c2dbcb78a3", func := "afterword/afterwordlaw01.DateDays", spec := "dateDays", inPlace := ["internal/abi.NoEscape", "internal/bytealg.MakeNoZero"], unfollowed := true, recurses := true, named := ["afterword/date.ahead", "internal/strconv.uint64pow10", "math/bits.deBruijn32tab", "math/bits.deBruijn64tab", "afterword/date.weekdays"], apart := false, laid := [("math/bits.deBruijn32tab", laid_math_bits_deBruijn32tab), ("math/bits.deBruijn64tab", laid_math_bits_deBruijn64tab), ("internal/strconv.uint64pow10", laid_internal_strconv_uint64pow10), ("afterword/date.ahead", laid_afterword_date_ahead), ("afterword/date.weekdays", laid_afterword_date_weekdays)], narrowed := true }
def DateDaysUptoSaid : Prop := dateDaysUptoRow.holds Tryz.pinned (OpenSpec.upto dateDaysSpec)

/-- 'afterwordlaw01.DateWeeks', WHERE WHAT IT READS IS OF BULK AT MOST 1048576: true; the input reads as it did. -/
def dateWeeksUptoRow : OpenClaim := { program := "ytfhljcpicdabmaagreatdoor", sum := "fb186efaf55ce07fac00b92e042fd765a7e57f8e3f70bc5331d096c2dbcb78a3", func := "afterword/afterwordlaw01.DateWeeks", spec := "dateWeeks", inPlace := ["internal/abi.NoEscape", "internal/bytealg.MakeNoZero"], unfollowed := true, recurses := true, named := ["afterword/date.ahead", "internal/strconv.uint64pow10", "math/bits.deBruijn32tab", "math/bits.deBruijn64tab", "afterword/date.weekdays"], apart := false, laid := [("math/bits.deBruijn32tab", laid_math_bits_deBruijn32tab), ("math/bits.deBruijn64tab", laid_math_bits_deBruijn64tab), ("internal/strconv.uint64pow10", laid_internal_strconv_uint64pow10), ("afterword/date.ahead", laid_afterword_date_ahead), ("afterword/date.weekdays", laid_afterword_date_weekdays)], narrowed := true }
def DateWeeksUptoSaid : Prop := dateWeeksUptoRow.holds Tryz.pinned (OpenSpec.upto dateWeeksSpec)

/-- 'afterwordlaw01.DateMonths', WHERE WHAT IT READS IS OF BULK AT MOST 1048576: true; the input reads as it did. -/
def dateMonthsUptoRow : OpenClaim := { program := "ytfhljcpicdabmaagreatdoor", sum := "fb186efaf55ce07fac00b92e042fd765a7e57f8e3f70bc5331d096c2dbcb78a3", func := "afterword/afterwordlaw01.DateMonths", spec := "dateMonths", inPlace := ["internal/abi.NoEscape", "internal/bytealg.MakeNoZero"], unfollowed := true, recurses := true, named := ["afterword/date.ahead", "internal/strconv.uint64pow10", "math/bits.deBruijn32tab", "math/bits.deBruijn64tab", "afterword/date.weekdays"], apart := false, laid := [("math/bits.deBruijn32tab", laid_math_bits_deBruijn32tab), ("math/bits.deBruijn64tab", laid_math_bits_deBruijn64tab), ("internal/strconv.uint64pow10", laid_internal_strconv_uint64pow10), ("afterword/date.ahead", laid_afterword_date_ahead), ("afterword/date.weekdays", laid_afterword_date_weekdays)], narrowed := true }
def DateMonthsUptoSaid : Prop := dateMonthsUptoRow.holds Tryz.pinned (OpenSpec.upto dateMonthsSpec)

/-- 'afterwordlaw01.DateSets', WHERE WHAT IT READS IS OF BULK AT MOST 1048576: true; the input reads as it did. -/
def dateSetsUptoRow : OpenClaim := { program := "ytfhljcpicdabmaagreatdoor", sum := "fb186efaf55ce07fac00b92e042fd765a7e57f8e3f70bc5331d096c2dbcb78a3", func := "afterword/afterwordlaw01.DateSets", spec := "dateSets", inPlace := ["internal/abi.NoEscape", "internal/bytealg.MakeNoZero"], unfollowed := true, recurses := true, named := ["afterword/date.ahead", "internal/strconv.uint64pow10", "math/bits.deBruijn32tab", "math/bits.deBruijn64tab", "afterword/date.weekdays"], apart := false, laid := [("math/bits.deBruijn32tab", laid_math_bits_deBruijn32tab), ("math/bits.deBruijn64tab", laid_math_bits_deBruijn64tab), ("internal/strconv.uint64pow10", laid_internal_strconv_uint64pow10), ("afterword/date.ahead", laid_afterword_date_ahead), ("afterword/date.weekdays", laid_afterword_date_weekdays)], narrowed := true }
def DateSetsUptoSaid : Prop := dateSetsUptoRow.holds Tryz.pinned (OpenSpec.upto dateSetsSpec)

/-- 'afterwordlaw01.DateWays', WHERE WHAT IT READS IS OF BULK AT MOST 1048576: true; the input reads as it did. -/
def dateWaysUptoRow : OpenClaim := { program := "ytfhljcpicdabmaagreatdoor", sum := "fb186efaf55ce07fac00b92e042fd765a7e57f8e3f70bc5331d096c2dbcb78a3", func := "afterword/afterwordlaw01.DateWays", spec := "dateWays", inPlace := ["internal/abi.NoEscape", "internal/bytealg.MakeNoZero"], unfollowed := true, recurses := true, named := ["afterword/date.ahead", "internal/strconv.uint64pow10", "math/bits.deBruijn32tab", "math/bits.deBruijn64tab", "afterword/date.weekdays"], apart := false, laid := [("math/bits.deBruijn32tab", laid_math_bits_deBruijn32tab), ("math/bits.deBruijn64tab", laid_math_bits_deBruijn64tab), ("internal/strconv.uint64pow10", laid_internal_strconv_uint64pow10), ("afterword/date.ahead", laid_afterword_date_ahead), ("afterword/date.weekdays", laid_afterword_date_weekdays)], narrowed := true }
def DateWaysUptoSaid : Prop := dateWaysUptoRow.holds Tryz.pinned (OpenSpec.upto dateWaysSpec)

/-- 'afterwordlaw01.DatePlaces', WHERE WHAT IT READS IS OF BULK AT MOST 1048576: true; the input reads as it did. -/
def datePlacesUptoRow : OpenClaim := { program := "ytfhljcpicdabmaagreatdoor", sum := "fb186efaf55ce07fac00b92e042fd765a7e57f8e3f70bc5331d096c2dbcb78a3", func := "afterword/afterwordlaw01.DatePlaces", spec := "datePlaces", inPlace := ["internal/abi.NoEscape", "internal/bytealg.MakeNoZero"], unfollowed := true, recurses := true, named := ["afterword/date.ahead", "internal/strconv.uint64pow10", "math/bits.deBruijn32tab", "math/bits.deBruijn64tab", "afterword/date.weekdays"], apart := false, laid := [("math/bits.deBruijn32tab", laid_math_bits_deBruijn32tab), ("math/bits.deBruijn64tab", laid_math_bits_deBruijn64tab), ("internal/strconv.uint64pow10", laid_internal_strconv_uint64pow10), ("afterword/date.ahead", laid_afterword_date_ahead), ("afterword/date.weekdays", laid_afterword_date_weekdays)], narrowed := true }
def DatePlacesUptoSaid : Prop := datePlacesUptoRow.holds Tryz.pinned (OpenSpec.upto datePlacesSpec)

/-- 'afterwordlaw01.DateCals', WHERE WHAT IT READS IS OF BULK AT MOST 1048576: true; the input reads as it did. -/
def dateCalsUptoRow : OpenClaim := { program := "ytfhljcpicdabmaagreatdoor", sum := "fb186efaf55ce07fac00b92e042fd765a7e57f8e3f70bc5331d096c2dbcb78a3", func := "afterword/afterwordlaw01.DateCals", spec := "dateCals", inPlace := ["internal/abi.NoEscape", "internal/bytealg.MakeNoZero"], unfollowed := true, recurses := true, named := ["afterword/date.ahead", "internal/strconv.uint64pow10", "math/bits.deBruijn32tab", "math/bits.deBruijn64tab", "afterword/date.weekdays"], apart := false, laid := [("math/bits.deBruijn32tab", laid_math_bits_deBruijn32tab), ("math/bits.deBruijn64tab", laid_math_bits_deBruijn64tab), ("internal/strconv.uint64pow10", laid_internal_strconv_uint64pow10), ("afterword/date.ahead", laid_afterword_date_ahead), ("afterword/date.weekdays", laid_afterword_date_weekdays)], narrowed := true }
def DateCalsUptoSaid : Prop := dateCalsUptoRow.holds Tryz.pinned (OpenSpec.upto dateCalsSpec)

/-- 'afterwordlaw01.DateTexts', WHERE WHAT IT READS IS OF BULK AT MOST 1048576: true; the input reads as it did. -/
def dateTextsUptoRow : OpenClaim := { program := "ytfhljcpicdabmaagreatdoor", sum := "fb186efaf55ce07fac00b92e042fd765a7e57f8e3f70bc5331d096c2dbcb78a3", func := "afterword/afterwordlaw01.DateTexts", spec := "dateTexts", inPlace := ["internal/abi.NoEscape", "internal/bytealg.MakeNoZero", "internal/bytealg.CountString", "internal/bytealg.IndexByteString", "internal/bytealg.IndexString"], unfollowed := true, recurses := true, named := ["afterword/date.ahead", "internal/strconv.uint64pow10", "math/bits.deBruijn32tab", "math/bits.deBruijn64tab", "afterword/date.weekdays", "unicode/utf8.first", "unicode/utf8.acceptRanges", "internal/bytealg.MaxLen"], apart := false, laid := [("math/bits.deBruijn32tab", laid_math_bits_deBruijn32tab), ("math/bits.deBruijn64tab", laid_math_bits_deBruijn64tab), ("internal/strconv.uint64pow10", laid_internal_strconv_uint64pow10), ("unicode/utf8.acceptRanges", laid_unicode_utf8_acceptRanges), ("afterword/date.ahead", laid_afterword_date_ahead), ("afterword/date.weekdays", laid_afterword_date_weekdays), ("unicode/utf8.first", laid_unicode_utf8_first)], narrowed := true }
def DateTextsUptoSaid : Prop := dateTextsUptoRow.holds Tryz.pinned (OpenSpec.upto dateTextsSpec)

/-- 'afterwordlaw01.DateFollows', WHERE WHAT IT READS IS OF BULK AT MOST 1048576: true; the input reads as it did. -/
def dateFollowsUptoRow : OpenClaim := { program := "ytfhljcpicdabmaagreatdoor", sum := "fb186efaf55ce07fac00b92e042fd765a7e57f8e3f70bc5331d096c2dbcb78a3", func := "afterword/afterwordlaw01.DateFollows", spec := "dateFollows", inPlace := ["internal/abi.NoEscape", "internal/bytealg.MakeNoZero"], unfollowed := true, recurses := true, named := ["afterword/date.ahead", "internal/strconv.uint64pow10", "math/bits.deBruijn32tab", "math/bits.deBruijn64tab", "afterword/date.weekdays"], apart := false, laid := [("math/bits.deBruijn32tab", laid_math_bits_deBruijn32tab), ("math/bits.deBruijn64tab", laid_math_bits_deBruijn64tab), ("internal/strconv.uint64pow10", laid_internal_strconv_uint64pow10), ("afterword/date.ahead", laid_afterword_date_ahead), ("afterword/date.weekdays", laid_afterword_date_weekdays)], narrowed := true }
def DateFollowsUptoSaid : Prop := dateFollowsUptoRow.holds Tryz.pinned (OpenSpec.upto dateFollowsSpec)

/-- 'afterwordlaw01.DateParts', WHERE WHAT IT READS IS OF BULK AT MOST 1048576: true; the input reads as it did. -/
def datePartsUptoRow : OpenClaim := { program := "ytfhljcpicdabmaagreatdoor", sum := "fb186efaf55ce07fac00b92e042fd765a7e57f8e3f70bc5331d096c2dbcb78a3", func := "afterword/afterwordlaw01.DateParts", spec := "dateParts", inPlace := ["internal/abi.NoEscape", "internal/bytealg.MakeNoZero"], unfollowed := true, recurses := true, named := ["afterword/date.ahead", "internal/strconv.uint64pow10", "math/bits.deBruijn32tab", "math/bits.deBruijn64tab", "afterword/date.weekdays"], apart := false, laid := [("math/bits.deBruijn32tab", laid_math_bits_deBruijn32tab), ("math/bits.deBruijn64tab", laid_math_bits_deBruijn64tab), ("internal/strconv.uint64pow10", laid_internal_strconv_uint64pow10), ("afterword/date.ahead", laid_afterword_date_ahead), ("afterword/date.weekdays", laid_afterword_date_weekdays)], narrowed := true }
def DatePartsUptoSaid : Prop := datePartsUptoRow.holds Tryz.pinned (OpenSpec.upto datePartsSpec)

/-- 'afterwordlaw01.DateAlgebra', WHERE WHAT IT READS IS OF BULK AT MOST 1048576: true; the input reads as it did. -/
def dateAlgebraUptoRow : OpenClaim := { program := "ytfhljcpicdabmaagreatdoor", sum := "fb186efaf55ce07fac00b92e042fd765a7e57f8e3f70bc5331d096c2dbcb78a3", func := "afterword/afterwordlaw01.DateAlgebra", spec := "dateAlgebra", inPlace := ["internal/abi.NoEscape", "internal/bytealg.MakeNoZero"], unfollowed := true, recurses := true, named := ["afterword/date.ahead", "internal/strconv.uint64pow10", "math/bits.deBruijn32tab", "math/bits.deBruijn64tab", "afterword/date.weekdays"], apart := false, laid := [("math/bits.deBruijn32tab", laid_math_bits_deBruijn32tab), ("math/bits.deBruijn64tab", laid_math_bits_deBruijn64tab), ("internal/strconv.uint64pow10", laid_internal_strconv_uint64pow10), ("afterword/date.ahead", laid_afterword_date_ahead), ("afterword/date.weekdays", laid_afterword_date_weekdays)], narrowed := true }
def DateAlgebraUptoSaid : Prop := dateAlgebraUptoRow.holds Tryz.pinned (OpenSpec.upto dateAlgebraSpec)

/-- 'afterwordlaw01.DateTurned', WHERE WHAT IT READS IS OF BULK AT MOST 1048576: true; the input reads as it did. -/
def dateTurnedUptoRow : OpenClaim := { program := "ytfhljcpicdabmaagreatdoor", sum := "fb186efaf55ce07fac00b92e042fd765a7e57f8e3f70bc5331d096c2dbcb78a3", func := "afterword/afterwordlaw01.DateTurned", spec := "dateTurned", inPlace := ["internal/abi.NoEscape", "internal/bytealg.MakeNoZero"], unfollowed := true, recurses := true, named := ["afterword/date.ahead", "internal/strconv.uint64pow10", "math/bits.deBruijn32tab", "math/bits.deBruijn64tab", "afterword/date.weekdays"], apart := false, laid := [("math/bits.deBruijn32tab", laid_math_bits_deBruijn32tab), ("math/bits.deBruijn64tab", laid_math_bits_deBruijn64tab), ("internal/strconv.uint64pow10", laid_internal_strconv_uint64pow10), ("afterword/date.ahead", laid_afterword_date_ahead), ("afterword/date.weekdays", laid_afterword_date_weekdays)], narrowed := true }
def DateTurnedUptoSaid : Prop := dateTurnedUptoRow.holds Tryz.pinned (OpenSpec.upto dateTurnedSpec)

/-- 'afterwordlaw01.DatePlaced', WHERE WHAT IT READS IS OF BULK AT MOST 1048576: true; the input reads as it did. -/
def datePlacedUptoRow : OpenClaim := { program := "ytfhljcpicdabmaagreatdoor", sum := "fb186efaf55ce07fac00b92e042fd765a7e57f8e3f70bc5331d096c2dbcb78a3", func := "afterword/afterwordlaw01.DatePlaced", spec := "datePlaced", inPlace := ["internal/abi.NoEscape", "internal/bytealg.MakeNoZero"], unfollowed := true, recurses := true, named := ["afterword/date.ahead", "internal/strconv.uint64pow10", "math/bits.deBruijn32tab", "math/bits.deBruijn64tab", "afterword/date.weekdays"], apart := false, laid := [("math/bits.deBruijn32tab", laid_math_bits_deBruijn32tab), ("math/bits.deBruijn64tab", laid_math_bits_deBruijn64tab), ("internal/strconv.uint64pow10", laid_internal_strconv_uint64pow10), ("afterword/date.ahead", laid_afterword_date_ahead), ("afterword/date.weekdays", laid_afterword_date_weekdays)], narrowed := true }
def DatePlacedUptoSaid : Prop := datePlacedUptoRow.holds Tryz.pinned (OpenSpec.upto datePlacedSpec)

/-- 'afterwordlaw01.DateAgain', WHERE WHAT IT READS IS OF BULK AT MOST 1048576: true; the input reads as it did. -/
def dateAgainUptoRow : OpenClaim := { program := "ytfhljcpicdabmaagreatdoor", sum := "fb186efaf55ce07fac00b92e042fd765a7e57f8e3f70bc5331d096c2dbcb78a3", func := "afterword/afterwordlaw01.DateAgain", spec := "dateAgain", inPlace := ["internal/abi.NoEscape", "internal/bytealg.MakeNoZero"], unfollowed := true, recurses := true, named := ["afterword/date.ahead", "internal/strconv.uint64pow10", "math/bits.deBruijn32tab", "math/bits.deBruijn64tab", "afterword/date.weekdays"], apart := false, laid := [("math/bits.deBruijn32tab", laid_math_bits_deBruijn32tab), ("math/bits.deBruijn64tab", laid_math_bits_deBruijn64tab), ("internal/strconv.uint64pow10", laid_internal_strconv_uint64pow10), ("afterword/date.ahead", laid_afterword_date_ahead), ("afterword/date.weekdays", laid_afterword_date_weekdays)], narrowed := true }
def DateAgainUptoSaid : Prop := dateAgainUptoRow.holds Tryz.pinned (OpenSpec.upto dateAgainSpec)

/-- 'afterwordlaw01.DateBack', WHERE WHAT IT READS IS OF BULK AT MOST 1048576: true; the input reads as it did. -/
def dateBackUptoRow : OpenClaim := { program := "ytfhljcpicdabmaagreatdoor", sum := "fb186efaf55ce07fac00b92e042fd765a7e57f8e3f70bc5331d096c2dbcb78a3", func := "afterword/afterwordlaw01.DateBack", spec := "dateBack", inPlace := ["internal/abi.NoEscape", "internal/bytealg.MakeNoZero", "internal/bytealg.CountString", "internal/bytealg.IndexByteString", "internal/bytealg.IndexString"], unfollowed := true, recurses := true, named := ["afterword/date.ahead", "internal/strconv.uint64pow10", "math/bits.deBruijn32tab", "math/bits.deBruijn64tab", "afterword/date.weekdays", "unicode/utf8.first", "unicode/utf8.acceptRanges", "internal/bytealg.MaxLen"], apart := false, laid := [("math/bits.deBruijn32tab", laid_math_bits_deBruijn32tab), ("math/bits.deBruijn64tab", laid_math_bits_deBruijn64tab), ("internal/strconv.uint64pow10", laid_internal_strconv_uint64pow10), ("unicode/utf8.acceptRanges", laid_unicode_utf8_acceptRanges), ("afterword/date.ahead", laid_afterword_date_ahead), ("afterword/date.weekdays", laid_afterword_date_weekdays), ("unicode/utf8.first", laid_unicode_utf8_first)], narrowed := true }
def DateBackUptoSaid : Prop := dateBackUptoRow.holds Tryz.pinned (OpenSpec.upto dateBackSpec)

/-- 'afterwordlaw01.DateKnown', WHERE WHAT IT READS IS OF BULK AT MOST 1048576: true; the input reads as it did. -/
def dateKnownUptoRow : OpenClaim := { program := "ytfhljcpicdabmaagreatdoor", sum := "fb186efaf55ce07fac00b92e042fd765a7e57f8e3f70bc5331d096c2dbcb78a3", func := "afterword/afterwordlaw01.DateKnown", spec := "dateKnown", inPlace := ["internal/bytealg.CountString", "internal/bytealg.IndexByteString", "internal/bytealg.IndexString", "internal/abi.NoEscape", "internal/bytealg.MakeNoZero"], unfollowed := true, recurses := true, named := ["afterword/date.ahead", "unicode/utf8.first", "unicode/utf8.acceptRanges", "internal/bytealg.MaxLen", "afterword/date.weekdays", "internal/strconv.uint64pow10", "math/bits.deBruijn32tab", "math/bits.deBruijn64tab"], apart := false, laid := [("math/bits.deBruijn32tab", laid_math_bits_deBruijn32tab), ("math/bits.deBruijn64tab", laid_math_bits_deBruijn64tab), ("internal/strconv.uint64pow10", laid_internal_strconv_uint64pow10), ("unicode/utf8.acceptRanges", laid_unicode_utf8_acceptRanges), ("afterword/date.ahead", laid_afterword_date_ahead), ("afterword/date.weekdays", laid_afterword_date_weekdays), ("unicode/utf8.first", laid_unicode_utf8_first)], narrowed := true }
def DateKnownUptoSaid : Prop := dateKnownUptoRow.holds Tryz.pinned (OpenSpec.upto dateKnownSpec)

end Rows
end Go.Proofs.YtfhljcpicdabmaaGreatDoor

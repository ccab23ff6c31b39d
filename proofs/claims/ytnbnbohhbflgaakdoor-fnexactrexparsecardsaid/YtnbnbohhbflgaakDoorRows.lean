/-
  NARROWER THAN 'FOR EVERY INPUT', by the rows' own cells (each row's printed sentence says how): FnExactDecText: ifaces, laid · FnExactDecFront: ifaces, laid · FnExactDecLooks: ifaces, laid · FnExactRexParse: ifaces, laid · FnExactRexOk: loops, ifaces, laid.
  DERIVED. THE GIVEN ROWS OF THIS SEAT. 5 by the template 'for every input the law returns true; each argument reads behind the call as it read before'; 0 by the template 'total and deterministic' (their statements: YtnbnbohhbflgaakDoorTotals.lean).
  GIVEN WITH THE SEED: the statements are not yours to turn. If you find one false, say at which input.
  Laid BY PROGRAM, IN A SANDBOX (cutbox-rows.mjs): the forced cells as the released guide's own fill.sh prints them over the translation 10168fa03ddde4d0… (all of the seat's roots in one cut). By AI agents, Wed Nov 11 2026. No macro, syntax, notation, axiom, sorry.
-/
import Derived.Test.YtnbnbohhbflgaakDoorChecked
import GoSem.PinnedTables
import GoSem.Claim
import GoSem.ClaimJoined
import GoSem.ClaimMapViews
import Derived.JoinedTies
import Derived.KernelRfl
namespace Go.Proofs.YtnbnbohhbflgaakDoor
/- THE CELL 'sum', in the pinned program and in every row, IS THE sha256 OF THE DUMP (.gsa) THAT YtnbnbohhbflgaakDoorProg.lean LOADS. Nothing in Lean hashes anything: it is a label: what it is worth is what the hold of that sum in a sandbox is worth. -/
noncomputable def Tryd.pinned : Pinned := { name := "ytnbnbohhbflgaakdoor", sum := "10168fa03ddde4d0c5d92a2d0ceab8e445dde41fd50606d8f36c31c90c49f703", checked := Tryd.checked }
namespace Rows
def none {H : Type} : Left H := { results := [], args := [] }

/- WHAT THE LISTED PACKAGE-LEVEL VARIABLES READ AS WHEN THE CALL BEGINS. Each datum BY PROGRAM (the guide's laid-datum.mjs) off the statement by which the dump's own 'gosem.cut.vars' lays the variable. In a bare row this is a premise. The card (YtnbnbohhbflgaakDoorCards.lean) ties it to the program's text. -/
def laid_math_bits_deBruijn32tab {H : Type} : DataW H := .agg [.lit (.int .u8 0), .lit (.int .u8 1), .lit (.int .u8 28), .lit (.int .u8 2), .lit (.int .u8 29), .lit (.int .u8 14), .lit (.int .u8 24), .lit (.int .u8 3), .lit (.int .u8 30), .lit (.int .u8 22), .lit (.int .u8 20), .lit (.int .u8 15), .lit (.int .u8 25), .lit (.int .u8 17), .lit (.int .u8 4), .lit (.int .u8 8), .lit (.int .u8 31), .lit (.int .u8 27), .lit (.int .u8 13), .lit (.int .u8 23), .lit (.int .u8 21), .lit (.int .u8 19), .lit (.int .u8 16), .lit (.int .u8 7), .lit (.int .u8 26), .lit (.int .u8 12), .lit (.int .u8 18), .lit (.int .u8 6), .lit (.int .u8 11), .lit (.int .u8 5), .lit (.int .u8 10), .lit (.int .u8 9)]
def laid_math_bits_deBruijn64tab {H : Type} : DataW H := .agg [.lit (.int .u8 0), .lit (.int .u8 1), .lit (.int .u8 56), .lit (.int .u8 2), .lit (.int .u8 57), .lit (.int .u8 49), .lit (.int .u8 28), .lit (.int .u8 3), .lit (.int .u8 61), .lit (.int .u8 58), .lit (.int .u8 42), .lit (.int .u8 50), .lit (.int .u8 38), .lit (.int .u8 29), .lit (.int .u8 17), .lit (.int .u8 4), .lit (.int .u8 62), .lit (.int .u8 47), .lit (.int .u8 59), .lit (.int .u8 36), .lit (.int .u8 45), .lit (.int .u8 43), .lit (.int .u8 51), .lit (.int .u8 22), .lit (.int .u8 53), .lit (.int .u8 39), .lit (.int .u8 33), .lit (.int .u8 30), .lit (.int .u8 24), .lit (.int .u8 18), .lit (.int .u8 12), .lit (.int .u8 5), .lit (.int .u8 63), .lit (.int .u8 55), .lit (.int .u8 48), .lit (.int .u8 27), .lit (.int .u8 60), .lit (.int .u8 41), .lit (.int .u8 37), .lit (.int .u8 16), .lit (.int .u8 46), .lit (.int .u8 35), .lit (.int .u8 44), .lit (.int .u8 21), .lit (.int .u8 52), .lit (.int .u8 32), .lit (.int .u8 23), .lit (.int .u8 11), .lit (.int .u8 54), .lit (.int .u8 26), .lit (.int .u8 40), .lit (.int .u8 15), .lit (.int .u8 34), .lit (.int .u8 20), .lit (.int .u8 31), .lit (.int .u8 10), .lit (.int .u8 25), .lit (.int .u8 14), .lit (.int .u8 19), .lit (.int .u8 9), .lit (.int .u8 13), .lit (.int .u8 8), .lit (.int .u8 7), .lit (.int .u8 6)]
def laid_internal_strconv_uint64pow10 {H : Type} : DataW H := .agg [.lit (.int .u64 1), .lit (.int .u64 10), .lit (.int .u64 100), .lit (.int .u64 1000), .lit (.int .u64 10000), .lit (.int .u64 100000), .lit (.int .u64 1000000), .lit (.int .u64 10000000), .lit (.int .u64 100000000), .lit (.int .u64 1000000000), .lit (.int .u64 10000000000), .lit (.int .u64 100000000000), .lit (.int .u64 1000000000000), .lit (.int .u64 10000000000000), .lit (.int .u64 100000000000000), .lit (.int .u64 1000000000000000), .lit (.int .u64 10000000000000000), .lit (.int .u64 100000000000000000), .lit (.int .u64 1000000000000000000), .lit (.int .u64 10000000000000000000)]
def laid_unicode_utf8_acceptRanges {H : Type} : DataW H := .agg [.agg [.lit (.int .u8 128), .lit (.int .u8 191)], .agg [.lit (.int .u8 160), .lit (.int .u8 191)], .agg [.lit (.int .u8 128), .lit (.int .u8 159)], .agg [.lit (.int .u8 144), .lit (.int .u8 191)], .agg [.lit (.int .u8 128), .lit (.int .u8 143)], .agg [.lit (.int .u8 0), .lit (.int .u8 0)], .agg [.lit (.int .u8 0), .lit (.int .u8 0)], .agg [.lit (.int .u8 0), .lit (.int .u8 0)], .agg [.lit (.int .u8 0), .lit (.int .u8 0)], .agg [.lit (.int .u8 0), .lit (.int .u8 0)], .agg [.lit (.int .u8 0), .lit (.int .u8 0)], .agg [.lit (.int .u8 0), .lit (.int .u8 0)], .agg [.lit (.int .u8 0), .lit (.int .u8 0)], .agg [.lit (.int .u8 0), .lit (.int .u8 0)], .agg [.lit (.int .u8 0), .lit (.int .u8 0)], .agg [.lit (.int .u8 0), .lit (.int .u8 0)]]
def laid_loop_example_g00289_impl_errNotRight {H : Type} : DataW H := .iface "*errors.errorString" (.ptr (.agg [.lit (.string [116, 104, 101, 32, 110, 117, 109, 98, 101, 114, 32, 105, 115, 32, 110, 111, 116, 32, 114, 105, 103, 104, 116])]))
/-- One of Go's own tables, pinned by name: the form's constant. -/
def laid_unicode_utf8_first : DataW Unit := Go.Pinned.utf8First
def laid_loop_example_g00289_impl_errNoPattern {H : Type} : DataW H := .iface "*errors.errorString" (.ptr (.agg [.lit (.string [116, 104, 105, 115, 32, 105, 115, 32, 110, 111, 32, 112, 97, 116, 116, 101, 114, 110])]))

/-- 'laws.FnExactDecText': WHATEVER THE INPUT: true; the input reads as it did. -/
def fnExactDecTextSpec : ChangeSpec := { name := "fnExactDecText", vars := ["loop.example/g00289/impl.errNotRight"], fn := fun _ => fun
  | [d, g1] => { results := [.lit (.bool true)], args := [d], vars := [g1] }
  | _ => none }
def fnExactDecTextRow : OpenClaim := { program := "ytnbnbohhbflgaakdoor", sum := "10168fa03ddde4d0c5d92a2d0ceab8e445dde41fd50606d8f36c31c90c49f703", func := "loop.example/g00289/laws.FnExactDecText", spec := "fnExactDecText", inPlace := ["internal/reflectlite.TypeOf", "internal/bytealg.IndexByteString", "internal/bytealg.IndexString"], unfollowed := true, recurses := true, named := ["loop.example/g00289/impl.errNotRight", "internal/strconv.uint64pow10", "math/bits.deBruijn32tab", "math/bits.deBruijn64tab", "unicode/utf8.first", "unicode/utf8.acceptRanges", "internal/bytealg.MaxLen"], ifaces := true, apart := false, laid := [("math/bits.deBruijn32tab", laid_math_bits_deBruijn32tab), ("math/bits.deBruijn64tab", laid_math_bits_deBruijn64tab), ("internal/strconv.uint64pow10", laid_internal_strconv_uint64pow10), ("unicode/utf8.acceptRanges", laid_unicode_utf8_acceptRanges), ("loop.example/g00289/impl.errNotRight", laid_loop_example_g00289_impl_errNotRight), ("unicode/utf8.first", laid_unicode_utf8_first)] }
def FnExactDecTextSaid : Prop := fnExactDecTextRow.holds Tryd.pinned (OpenSpec.ofChange fnExactDecTextSpec)

/-- ITS FALSE NEIGHBOUR: 'it returns false'. Refute it at one input. -/
def fnExactDecTextWrong : ChangeSpec := { name := "fnExactDecText", vars := ["loop.example/g00289/impl.errNotRight"], fn := fun _ => fun
  | [d, g1] => { results := [.lit (.bool false)], args := [d], vars := [g1] }
  | _ => none }
def FnExactDecTextWrongFalsely : Prop := fnExactDecTextRow.holds Tryd.pinned (OpenSpec.ofChange fnExactDecTextWrong)

/-- 'laws.FnExactDecFront': WHATEVER THE INPUT: true; the input reads as it did. -/
def fnExactDecFrontSpec : ChangeSpec := { name := "fnExactDecFront", vars := ["loop.example/g00289/impl.errNotRight"], fn := fun _ => fun
  | [d, g1] => { results := [.lit (.bool true)], args := [d], vars := [g1] }
  | _ => none }
def fnExactDecFrontRow : OpenClaim := { program := "ytnbnbohhbflgaakdoor", sum := "10168fa03ddde4d0c5d92a2d0ceab8e445dde41fd50606d8f36c31c90c49f703", func := "loop.example/g00289/laws.FnExactDecFront", spec := "fnExactDecFront", inPlace := ["internal/abi.NoEscape", "internal/bytealg.MakeNoZero", "internal/reflectlite.TypeOf"], unfollowed := true, recurses := true, named := ["loop.example/g00289/impl.errNotRight"], ifaces := true, apart := false, laid := [("loop.example/g00289/impl.errNotRight", laid_loop_example_g00289_impl_errNotRight)] }
def FnExactDecFrontSaid : Prop := fnExactDecFrontRow.holds Tryd.pinned (OpenSpec.ofChange fnExactDecFrontSpec)

/-- ITS FALSE NEIGHBOUR: 'it returns false'. Refute it at one input. -/
def fnExactDecFrontWrong : ChangeSpec := { name := "fnExactDecFront", vars := ["loop.example/g00289/impl.errNotRight"], fn := fun _ => fun
  | [d, g1] => { results := [.lit (.bool false)], args := [d], vars := [g1] }
  | _ => none }
def FnExactDecFrontWrongFalsely : Prop := fnExactDecFrontRow.holds Tryd.pinned (OpenSpec.ofChange fnExactDecFrontWrong)

/-- 'laws.FnExactDecLooks': WHATEVER THE INPUT: true; the input reads as it did. -/
def fnExactDecLooksSpec : ChangeSpec := { name := "fnExactDecLooks", vars := ["loop.example/g00289/impl.errNotRight"], fn := fun _ => fun
  | [d, g1] => { results := [.lit (.bool true)], args := [d], vars := [g1] }
  | _ => none }
def fnExactDecLooksRow : OpenClaim := { program := "ytnbnbohhbflgaakdoor", sum := "10168fa03ddde4d0c5d92a2d0ceab8e445dde41fd50606d8f36c31c90c49f703", func := "loop.example/g00289/laws.FnExactDecLooks", spec := "fnExactDecLooks", inPlace := ["internal/abi.NoEscape", "internal/bytealg.MakeNoZero", "internal/reflectlite.TypeOf"], unfollowed := true, recurses := true, named := ["loop.example/g00289/impl.errNotRight"], ifaces := true, apart := false, laid := [("loop.example/g00289/impl.errNotRight", laid_loop_example_g00289_impl_errNotRight)] }
def FnExactDecLooksSaid : Prop := fnExactDecLooksRow.holds Tryd.pinned (OpenSpec.ofChange fnExactDecLooksSpec)

/-- ITS FALSE NEIGHBOUR: 'it returns false'. Refute it at one input. -/
def fnExactDecLooksWrong : ChangeSpec := { name := "fnExactDecLooks", vars := ["loop.example/g00289/impl.errNotRight"], fn := fun _ => fun
  | [d, g1] => { results := [.lit (.bool false)], args := [d], vars := [g1] }
  | _ => none }
def FnExactDecLooksWrongFalsely : Prop := fnExactDecLooksRow.holds Tryd.pinned (OpenSpec.ofChange fnExactDecLooksWrong)

/-- 'laws.FnExactRexParse': WHATEVER THE INPUT: true; the input reads as it did. -/
def fnExactRexParseSpec : ChangeSpec := { name := "fnExactRexParse", vars := ["loop.example/g00289/impl.errNoPattern"], fn := fun _ => fun
  | [d, g1] => { results := [.lit (.bool true)], args := [d], vars := [g1] }
  | _ => none }
def fnExactRexParseRow : OpenClaim := { program := "ytnbnbohhbflgaakdoor", sum := "10168fa03ddde4d0c5d92a2d0ceab8e445dde41fd50606d8f36c31c90c49f703", func := "loop.example/g00289/laws.FnExactRexParse", spec := "fnExactRexParse", unfollowed := true, recurses := true, named := ["loop.example/g00289/impl.errNoPattern"], ifaces := true, apart := false, laid := [("loop.example/g00289/impl.errNoPattern", laid_loop_example_g00289_impl_errNoPattern)] }
def FnExactRexParseSaid : Prop := fnExactRexParseRow.holds Tryd.pinned (OpenSpec.ofChange fnExactRexParseSpec)

/-- ITS FALSE NEIGHBOUR: 'it returns false'. Refute it at one input. -/
def fnExactRexParseWrong : ChangeSpec := { name := "fnExactRexParse", vars := ["loop.example/g00289/impl.errNoPattern"], fn := fun _ => fun
  | [d, g1] => { results := [.lit (.bool false)], args := [d], vars := [g1] }
  | _ => none }
def FnExactRexParseWrongFalsely : Prop := fnExactRexParseRow.holds Tryd.pinned (OpenSpec.ofChange fnExactRexParseWrong)

/-- 'laws.FnExactRexOk': WHATEVER THE INPUT: true; the input reads as it did. -/
def fnExactRexOkSpec : ChangeSpec := { name := "fnExactRexOk", vars := ["loop.example/g00289/impl.errNoPattern"], fn := fun _ => fun
  | [d, g1] => { results := [.lit (.bool true)], args := [d], vars := [g1] }
  | _ => none }
def fnExactRexOkRow : OpenClaim := { program := "ytnbnbohhbflgaakdoor", sum := "10168fa03ddde4d0c5d92a2d0ceab8e445dde41fd50606d8f36c31c90c49f703", func := "loop.example/g00289/laws.FnExactRexOk", spec := "fnExactRexOk", inPlace := ["internal/bytealg.IndexByteString", "internal/bytealg.IndexString"], unfollowed := true, recurses := true, named := ["loop.example/g00289/impl.errNoPattern", "internal/bytealg.MaxLen"], ifaces := true, loops := true, apart := false, laid := [("loop.example/g00289/impl.errNoPattern", laid_loop_example_g00289_impl_errNoPattern)] }
def FnExactRexOkSaid : Prop := fnExactRexOkRow.holds Tryd.pinned (OpenSpec.ofChange fnExactRexOkSpec)

/-- ITS FALSE NEIGHBOUR: 'it returns false'. Refute it at one input. -/
def fnExactRexOkWrong : ChangeSpec := { name := "fnExactRexOk", vars := ["loop.example/g00289/impl.errNoPattern"], fn := fun _ => fun
  | [d, g1] => { results := [.lit (.bool false)], args := [d], vars := [g1] }
  | _ => none }
def FnExactRexOkWrongFalsely : Prop := fnExactRexOkRow.holds Tryd.pinned (OpenSpec.ofChange fnExactRexOkWrong)

/- THE SECOND FORM. 'bulk': how many values and letters a reading holds, each counted each time it is reached (what is shared counts as often as it is met; a slice's spare places count too). A statement '..UptoSaid' is the law's where the arguments, and the package variables that the reading takes, are together of bulk at most 1048576: NARROWER than '..Said'. Prove '..Said' where nothing that the law and all that it calls make is longer than what came in: it says more and counts as full. Else prove '..UptoSaid'. A law counts once. -/
mutual
def uptoBulk {H : Type} : DataW H → Nat
  | .lit (.string bytes) => bytes.length + 1
  | .lit _ => 1
  | .nil => 1
  | .ptr d => uptoBulk d + 1
  | .slice elems spare => uptoBulkAll elems + uptoBulkAll spare + 1
  | .agg parts => uptoBulkAll parts + 1
  | .iface _ d => uptoBulk d + 1
  | .map entries => uptoBulkEntries entries + 1
  | .held _ => 1
def uptoBulkAll {H : Type} : List (DataW H) → Nat
  | [] => 0
  | d :: r => uptoBulk d + uptoBulkAll r
def uptoBulkEntries {H : Type} : List (Lit × DataW H) → Nat
  | [] => 0
  | x :: r => uptoBulkEntry x + uptoBulkEntries r
def uptoBulkEntry {H : Type} : Lit × DataW H → Nat
  | (.string bytes, d) => bytes.length + uptoBulk d + 1
  | (_, d) => uptoBulk d + 1
 end
def uptoSmall : (H : Type) → List (DataW H) → Bool := fun _ ds => decide (uptoBulkAll ds ≤ 1048576)
def OpenSpec.upto (s : _root_.Go.ChangeSpec) : _root_.Go.OpenSpec := { _root_.Go.OpenSpec.ofChange s with cond := some uptoSmall }

/-- 'laws.FnExactDecText', WHERE WHAT IT READS IS OF BULK AT MOST 1048576: true; the input reads as it did. -/
def fnExactDecTextUptoRow : OpenClaim := { program := "ytnbnbohhbflgaakdoor", sum := "10168fa03ddde4d0c5d92a2d0ceab8e445dde41fd50606d8f36c31c90c49f703", func := "loop.example/g00289/laws.FnExactDecText", spec := "fnExactDecText", inPlace := ["internal/reflectlite.TypeOf", "internal/bytealg.IndexByteString", "internal/bytealg.IndexString"], unfollowed := true, recurses := true, named := ["loop.example/g00289/impl.errNotRight", "internal/strconv.uint64pow10", "math/bits.deBruijn32tab", "math/bits.deBruijn64tab", "unicode/utf8.first", "unicode/utf8.acceptRanges", "internal/bytealg.MaxLen"], ifaces := true, apart := false, laid := [("math/bits.deBruijn32tab", laid_math_bits_deBruijn32tab), ("math/bits.deBruijn64tab", laid_math_bits_deBruijn64tab), ("internal/strconv.uint64pow10", laid_internal_strconv_uint64pow10), ("unicode/utf8.acceptRanges", laid_unicode_utf8_acceptRanges), ("loop.example/g00289/impl.errNotRight", laid_loop_example_g00289_impl_errNotRight), ("unicode/utf8.first", laid_unicode_utf8_first)], narrowed := true }
def FnExactDecTextUptoSaid : Prop := fnExactDecTextUptoRow.holds Tryd.pinned (OpenSpec.upto fnExactDecTextSpec)

/-- 'laws.FnExactDecFront', WHERE WHAT IT READS IS OF BULK AT MOST 1048576: true; the input reads as it did. -/
def fnExactDecFrontUptoRow : OpenClaim := { program := "ytnbnbohhbflgaakdoor", sum := "10168fa03ddde4d0c5d92a2d0ceab8e445dde41fd50606d8f36c31c90c49f703", func := "loop.example/g00289/laws.FnExactDecFront", spec := "fnExactDecFront", inPlace := ["internal/abi.NoEscape", "internal/bytealg.MakeNoZero", "internal/reflectlite.TypeOf"], unfollowed := true, recurses := true, named := ["loop.example/g00289/impl.errNotRight"], ifaces := true, apart := false, laid := [("loop.example/g00289/impl.errNotRight", laid_loop_example_g00289_impl_errNotRight)], narrowed := true }
def FnExactDecFrontUptoSaid : Prop := fnExactDecFrontUptoRow.holds Tryd.pinned (OpenSpec.upto fnExactDecFrontSpec)

/-- 'laws.FnExactDecLooks', WHERE WHAT IT READS IS OF BULK AT MOST 1048576: true; the input reads as it did. -/
def fnExactDecLooksUptoRow : OpenClaim := { program := "ytnbnbohhbflgaakdoor", sum := "10168fa03ddde4d0c5d92a2d0ceab8e445dde41fd50606d8f36c31c90c49f703", func := "loop.example/g00289/laws.FnExactDecLooks", spec := "fnExactDecLooks", inPlace := ["internal/abi.NoEscape", "internal/bytealg.MakeNoZero", "internal/reflectlite.TypeOf"], unfollowed := true, recurses := true, named := ["loop.example/g00289/impl.errNotRight"], ifaces := true, apart := false, laid := [("loop.example/g00289/impl.errNotRight", laid_loop_example_g00289_impl_errNotRight)], narrowed := true }
def FnExactDecLooksUptoSaid : Prop := fnExactDecLooksUptoRow.holds Tryd.pinned (OpenSpec.upto fnExactDecLooksSpec)

/-- 'laws.FnExactRexParse', WHERE WHAT IT READS IS OF BULK AT MOST 1048576: true; the input reads as it did. -/
def fnExactRexParseUptoRow : OpenClaim := { program := "ytnbnbohhbflgaakdoor", sum := "10168fa03ddde4d0c5d92a2d0ceab8e445dde41fd50606d8f36c31c90c49f703", func := "loop.example/g00289/laws.FnExactRexParse", spec := "fnExactRexParse", unfollowed := true, recurses := true, named := ["loop.example/g00289/impl.errNoPattern"], ifaces := true, apart := false, laid := [("loop.example/g00289/impl.errNoPattern", laid_loop_example_g00289_impl_errNoPattern)], narrowed := true }
def FnExactRexParseUptoSaid : Prop := fnExactRexParseUptoRow.holds Tryd.pinned (OpenSpec.upto fnExactRexParseSpec)

/-- 'laws.FnExactRexOk', WHERE WHAT IT READS IS OF BULK AT MOST 1048576: true; the input reads as it did. -/
def fnExactRexOkUptoRow : OpenClaim := { program := "ytnbnbohhbflgaakdoor", sum := "10168fa03ddde4d0c5d92a2d0ceab8e445dde41fd50606d8f36c31c90c49f703", func := "loop.example/g00289/laws.FnExactRexOk", spec := "fnExactRexOk", inPlace := ["internal/bytealg.IndexByteString", "internal/bytealg.IndexString"], unfollowed := true, recurses := true, named := ["loop.example/g00289/impl.errNoPattern", "internal/bytealg.MaxLen"], ifaces := true, loops := true, apart := false, laid := [("loop.example/g00289/impl.errNoPattern", laid_loop_example_g00289_impl_errNoPattern)], narrowed := true }
def FnExactRexOkUptoSaid : Prop := fnExactRexOkUptoRow.holds Tryd.pinned (OpenSpec.upto fnExactRexOkSpec)

end Rows
end Go.Proofs.YtnbnbohhbflgaakDoor

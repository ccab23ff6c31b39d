/-
  NARROWER THAN 'FOR EVERY INPUT', by the rows' own cells (each row's printed sentence says how): FnExactDecOk: ifaces, laid · FnExactDecAdd: ifaces, laid · FnExactDecSub: ifaces, laid · FnExactDecMul: ifaces, laid · FnExactDecDiv: ifaces, laid.
  DERIVED. THE GIVEN ROWS OF THIS SEAT. 5 by the template 'for every input the law returns true; each argument reads behind the call as it read before'; 0 by the template 'total and deterministic' (their statements: YtoaahcpmmkngjajDoorTotals.lean).
  GIVEN WITH THE SEED: the statements are not yours to turn. If you find one false, say at which input.
  Laid BY PROGRAM, IN A SANDBOX (cutbox-rows.mjs): the forced cells as the released guide's own fill.sh prints them over the translation 77c812eee486d92b… (all of the seat's roots in one cut). By AI agents, Wed Nov 11 2026. No macro, syntax, notation, axiom, sorry.
-/
import Derived.Test.YtoaahcpmmkngjajDoorChecked
import GoSem.Claim
import GoSem.ClaimJoined
import GoSem.ClaimMapViews
import Derived.JoinedTies
import Derived.KernelRfl
namespace Go.Proofs.YtoaahcpmmkngjajDoor
/- THE CELL 'sum', in the pinned program and in every row, IS THE sha256 OF THE DUMP (.gsa) THAT YtoaahcpmmkngjajDoorProg.lean LOADS. Nothing in Lean hashes anything: it is a label: what it is worth is what the hold of that sum in a sandbox is worth. -/
noncomputable def Tryd.pinned : Pinned := { name := "ytoaahcpmmkngjajdoor", sum := "77c812eee486d92b5485dd4eaaca1eafa1bf1a2bbfdf450cb12c163b97b5749e", checked := Tryd.checked }
namespace Rows
def none {H : Type} : Left H := { results := [], args := [] }

/- WHAT THE LISTED PACKAGE-LEVEL VARIABLES READ AS WHEN THE CALL BEGINS. Each datum BY PROGRAM (the guide's laid-datum.mjs) off the statement by which the dump's own 'gosem.cut.vars' lays the variable. In a bare row this is a premise. The card (YtoaahcpmmkngjajDoorCards.lean) ties it to the program's text. -/
def laid_loop_example_g00289_impl_errNotRight {H : Type} : DataW H := .iface "*errors.errorString" (.ptr (.agg [.lit (.string [116, 104, 101, 32, 110, 117, 109, 98, 101, 114, 32, 105, 115, 32, 110, 111, 116, 32, 114, 105, 103, 104, 116])]))

/-- 'laws.FnExactDecOk': WHATEVER THE INPUT: true; the input reads as it did. -/
def fnExactDecOkSpec : ChangeSpec := { name := "fnExactDecOk", vars := ["loop.example/g00289/impl.errNotRight"], fn := fun _ => fun
  | [d, g1] => { results := [.lit (.bool true)], args := [d], vars := [g1] }
  | _ => none }
def fnExactDecOkRow : OpenClaim := { program := "ytoaahcpmmkngjajdoor", sum := "77c812eee486d92b5485dd4eaaca1eafa1bf1a2bbfdf450cb12c163b97b5749e", func := "loop.example/g00289/laws.FnExactDecOk", spec := "fnExactDecOk", inPlace := ["internal/reflectlite.TypeOf"], unfollowed := true, recurses := true, named := ["loop.example/g00289/impl.errNotRight"], ifaces := true, apart := false, laid := [("loop.example/g00289/impl.errNotRight", laid_loop_example_g00289_impl_errNotRight)] }
def FnExactDecOkSaid : Prop := fnExactDecOkRow.holds Tryd.pinned (OpenSpec.ofChange fnExactDecOkSpec)

/-- ITS FALSE NEIGHBOUR: 'it returns false'. Refute it at one input. -/
def fnExactDecOkWrong : ChangeSpec := { name := "fnExactDecOk", vars := ["loop.example/g00289/impl.errNotRight"], fn := fun _ => fun
  | [d, g1] => { results := [.lit (.bool false)], args := [d], vars := [g1] }
  | _ => none }
def FnExactDecOkWrongFalsely : Prop := fnExactDecOkRow.holds Tryd.pinned (OpenSpec.ofChange fnExactDecOkWrong)

/-- 'laws.FnExactDecAdd': WHATEVER THE INPUT: true; the input reads as it did. -/
def fnExactDecAddSpec : ChangeSpec := { name := "fnExactDecAdd", vars := ["loop.example/g00289/impl.errNotRight"], fn := fun _ => fun
  | [d1, d2, g1] => { results := [.lit (.bool true)], args := [d1, d2], vars := [g1] }
  | _ => none }
def fnExactDecAddRow : OpenClaim := { program := "ytoaahcpmmkngjajdoor", sum := "77c812eee486d92b5485dd4eaaca1eafa1bf1a2bbfdf450cb12c163b97b5749e", func := "loop.example/g00289/laws.FnExactDecAdd", spec := "fnExactDecAdd", inPlace := ["internal/reflectlite.TypeOf"], unfollowed := true, recurses := true, named := ["loop.example/g00289/impl.errNotRight"], ifaces := true, apart := false, laid := [("loop.example/g00289/impl.errNotRight", laid_loop_example_g00289_impl_errNotRight)] }
def FnExactDecAddSaid : Prop := fnExactDecAddRow.holds Tryd.pinned (OpenSpec.ofChange fnExactDecAddSpec)

/-- ITS FALSE NEIGHBOUR: 'it returns false'. Refute it at one input. -/
def fnExactDecAddWrong : ChangeSpec := { name := "fnExactDecAdd", vars := ["loop.example/g00289/impl.errNotRight"], fn := fun _ => fun
  | [d1, d2, g1] => { results := [.lit (.bool false)], args := [d1, d2], vars := [g1] }
  | _ => none }
def FnExactDecAddWrongFalsely : Prop := fnExactDecAddRow.holds Tryd.pinned (OpenSpec.ofChange fnExactDecAddWrong)

/-- 'laws.FnExactDecSub': WHATEVER THE INPUT: true; the input reads as it did. -/
def fnExactDecSubSpec : ChangeSpec := { name := "fnExactDecSub", vars := ["loop.example/g00289/impl.errNotRight"], fn := fun _ => fun
  | [d1, d2, g1] => { results := [.lit (.bool true)], args := [d1, d2], vars := [g1] }
  | _ => none }
def fnExactDecSubRow : OpenClaim := { program := "ytoaahcpmmkngjajdoor", sum := "77c812eee486d92b5485dd4eaaca1eafa1bf1a2bbfdf450cb12c163b97b5749e", func := "loop.example/g00289/laws.FnExactDecSub", spec := "fnExactDecSub", inPlace := ["internal/reflectlite.TypeOf"], unfollowed := true, recurses := true, named := ["loop.example/g00289/impl.errNotRight"], ifaces := true, apart := false, laid := [("loop.example/g00289/impl.errNotRight", laid_loop_example_g00289_impl_errNotRight)] }
def FnExactDecSubSaid : Prop := fnExactDecSubRow.holds Tryd.pinned (OpenSpec.ofChange fnExactDecSubSpec)

/-- ITS FALSE NEIGHBOUR: 'it returns false'. Refute it at one input. -/
def fnExactDecSubWrong : ChangeSpec := { name := "fnExactDecSub", vars := ["loop.example/g00289/impl.errNotRight"], fn := fun _ => fun
  | [d1, d2, g1] => { results := [.lit (.bool false)], args := [d1, d2], vars := [g1] }
  | _ => none }
def FnExactDecSubWrongFalsely : Prop := fnExactDecSubRow.holds Tryd.pinned (OpenSpec.ofChange fnExactDecSubWrong)

/-- 'laws.FnExactDecMul': WHATEVER THE INPUT: true; the input reads as it did. -/
def fnExactDecMulSpec : ChangeSpec := { name := "fnExactDecMul", vars := ["loop.example/g00289/impl.errNotRight"], fn := fun _ => fun
  | [d1, d2, g1] => { results := [.lit (.bool true)], args := [d1, d2], vars := [g1] }
  | _ => none }
def fnExactDecMulRow : OpenClaim := { program := "ytoaahcpmmkngjajdoor", sum := "77c812eee486d92b5485dd4eaaca1eafa1bf1a2bbfdf450cb12c163b97b5749e", func := "loop.example/g00289/laws.FnExactDecMul", spec := "fnExactDecMul", inPlace := ["internal/reflectlite.TypeOf"], unfollowed := true, recurses := true, named := ["loop.example/g00289/impl.errNotRight"], ifaces := true, apart := false, laid := [("loop.example/g00289/impl.errNotRight", laid_loop_example_g00289_impl_errNotRight)] }
def FnExactDecMulSaid : Prop := fnExactDecMulRow.holds Tryd.pinned (OpenSpec.ofChange fnExactDecMulSpec)

/-- ITS FALSE NEIGHBOUR: 'it returns false'. Refute it at one input. -/
def fnExactDecMulWrong : ChangeSpec := { name := "fnExactDecMul", vars := ["loop.example/g00289/impl.errNotRight"], fn := fun _ => fun
  | [d1, d2, g1] => { results := [.lit (.bool false)], args := [d1, d2], vars := [g1] }
  | _ => none }
def FnExactDecMulWrongFalsely : Prop := fnExactDecMulRow.holds Tryd.pinned (OpenSpec.ofChange fnExactDecMulWrong)

/-- 'laws.FnExactDecDiv': WHATEVER THE INPUT: true; the input reads as it did. -/
def fnExactDecDivSpec : ChangeSpec := { name := "fnExactDecDiv", vars := ["loop.example/g00289/impl.errNotRight"], fn := fun _ => fun
  | [d1, d2, g1] => { results := [.lit (.bool true)], args := [d1, d2], vars := [g1] }
  | _ => none }
def fnExactDecDivRow : OpenClaim := { program := "ytoaahcpmmkngjajdoor", sum := "77c812eee486d92b5485dd4eaaca1eafa1bf1a2bbfdf450cb12c163b97b5749e", func := "loop.example/g00289/laws.FnExactDecDiv", spec := "fnExactDecDiv", inPlace := ["internal/reflectlite.TypeOf"], unfollowed := true, recurses := true, named := ["loop.example/g00289/impl.errNotRight"], ifaces := true, apart := false, laid := [("loop.example/g00289/impl.errNotRight", laid_loop_example_g00289_impl_errNotRight)] }
def FnExactDecDivSaid : Prop := fnExactDecDivRow.holds Tryd.pinned (OpenSpec.ofChange fnExactDecDivSpec)

/-- ITS FALSE NEIGHBOUR: 'it returns false'. Refute it at one input. -/
def fnExactDecDivWrong : ChangeSpec := { name := "fnExactDecDiv", vars := ["loop.example/g00289/impl.errNotRight"], fn := fun _ => fun
  | [d1, d2, g1] => { results := [.lit (.bool false)], args := [d1, d2], vars := [g1] }
  | _ => none }
def FnExactDecDivWrongFalsely : Prop := fnExactDecDivRow.holds Tryd.pinned (OpenSpec.ofChange fnExactDecDivWrong)

/- THE SECOND FORM. 'bulk': how many values and letters a reading holds, each counted each time it is reached (what is shared counts as often as it is met; a slice's spare places count too). A statement '..UptoSaid' is the law's where the arguments, and the package variables that the reading takes, are together of bulk at most 1048576: NARROWER than '..Said'. Prove '..Said' where nothing that the law and all that it calls make is longer than what came in: it says more and counts as full. Else prove '..UptoSaid'. A law counts once. -/
mutual
def uptoBulk {H : Type} : DataW H → Nat
  | .lit (.string bytes) => bytes.length + 1
  | .lit _ => 1
  | .nil => 1
  | .ptr d => uptoBulk d + 1
  | .slice elems spare => uptoBulkAll elems + uptoBulkAll spare + 1
  | .agg parts => uptoBulkAll parts + 1
  | .iface _ d => uptoBulk d + 1
  | .map entries => uptoBulkEntries entries + 1
  | .held _ => 1
def uptoBulkAll {H : Type} : List (DataW H) → Nat
  | [] => 0
  | d :: r => uptoBulk d + uptoBulkAll r
def uptoBulkEntries {H : Type} : List (Lit × DataW H) → Nat
  | [] => 0
  | x :: r => uptoBulkEntry x + uptoBulkEntries r
def uptoBulkEntry {H : Type} : Lit × DataW H → Nat
  | (.string bytes, d) => bytes.length + uptoBulk d + 1
  | (_, d) => uptoBulk d + 1
 end
def uptoSmall : (H : Type) → List (DataW H) → Bool := fun _ ds => decide (uptoBulkAll ds ≤ 1048576)
def OpenSpec.upto (s : _root_.Go.ChangeSpec) : _root_.Go.OpenSpec := { _root_.Go.OpenSpec.ofChange s with cond := some uptoSmall }

/-- 'laws.FnExactDecOk', WHERE WHAT IT READS IS OF BULK AT MOST 1048576: true; the input reads as it did. -/
def fnExactDecOkUptoRow : OpenClaim := { program := "ytoaahcpmmkngjajdoor", sum := "77c812eee486d92b5485dd4eaaca1eafa1bf1a2bbfdf450cb12c163b97b5749e", func := "loop.example/g00289/laws.FnExactDecOk", spec := "fnExactDecOk", inPlace := ["internal/reflectlite.TypeOf"], unfollowed := true, recurses := true, named := ["loop.example/g00289/impl.errNotRight"], ifaces := true, apart := false, laid := [("loop.example/g00289/impl.errNotRight", laid_loop_example_g00289_impl_errNotRight)], narrowed := true }
def FnExactDecOkUptoSaid : Prop := fnExactDecOkUptoRow.holds Tryd.pinned (OpenSpec.upto fnExactDecOkSpec)

/-- 'laws.FnExactDecAdd', WHERE WHAT IT READS IS OF BULK AT MOST 1048576: true; the input reads as it did. -/
def fnExactDecAddUptoRow : OpenClaim := { program := "ytoaahcpmmkngjajdoor", sum := "77c812eee486d92b5485dd4eaaca1eafa1bf1a2bbfdf450cb12c163b97b5749e", func := "loop.example/g00289/laws.FnExactDecAdd", spec := "fnExactDecAdd", inPlace := ["internal/reflectlite.TypeOf"], unfollowed := true, recurses := true, named := ["loop.example/g00289/impl.errNotRight"], ifaces := true, apart := false, laid := [("loop.example/g00289/impl.errNotRight", laid_loop_example_g00289_impl_errNotRight)], narrowed := true }
def FnExactDecAddUptoSaid : Prop := fnExactDecAddUptoRow.holds Tryd.pinned (OpenSpec.upto fnExactDecAddSpec)

/-- 'laws.FnExactDecSub', WHERE WHAT IT READS IS OF BULK AT MOST 1048576: true; the input reads as it did. -/
def fnExactDecSubUptoRow : OpenClaim := { program := "ytoaahcpmmkngjajdoor", sum := "77c812eee486d92b5485dd4eaaca1eafa1bf1a2bbfdf450cb12c163b97b5749e", func := "loop.example/g00289/laws.FnExactDecSub", spec := "fnExactDecSub", inPlace := ["internal/reflectlite.TypeOf"], unfollowed := true, recurses := true, named := ["loop.example/g00289/impl.errNotRight"], ifaces := true, apart := false, laid := [("loop.example/g00289/impl.errNotRight", laid_loop_example_g00289_impl_errNotRight)], narrowed := true }
def FnExactDecSubUptoSaid : Prop := fnExactDecSubUptoRow.holds Tryd.pinned (OpenSpec.upto fnExactDecSubSpec)

/-- 'laws.FnExactDecMul', WHERE WHAT IT READS IS OF BULK AT MOST 1048576: true; the input reads as it did. -/
def fnExactDecMulUptoRow : OpenClaim := { program := "ytoaahcpmmkngjajdoor", sum := "77c812eee486d92b5485dd4eaaca1eafa1bf1a2bbfdf450cb12c163b97b5749e", func := "loop.example/g00289/laws.FnExactDecMul", spec := "fnExactDecMul", inPlace := ["internal/reflectlite.TypeOf"], unfollowed := true, recurses := true, named := ["loop.example/g00289/impl.errNotRight"], ifaces := true, apart := false, laid := [("loop.example/g00289/impl.errNotRight", laid_loop_example_g00289_impl_errNotRight)], narrowed := true }
def FnExactDecMulUptoSaid : Prop := fnExactDecMulUptoRow.holds Tryd.pinned (OpenSpec.upto fnExactDecMulSpec)

/-- 'laws.FnExactDecDiv', WHERE WHAT IT READS IS OF BULK AT MOST 1048576: true; the input reads as it did. -/
def fnExactDecDivUptoRow : OpenClaim := { program := "ytoaahcpmmkngjajdoor", sum := "77c812eee486d92b5485dd4eaaca1eafa1bf1a2bbfdf450cb12c163b97b5749e", func := "loop.example/g00289/laws.FnExactDecDiv", spec := "fnExactDecDiv", inPlace := ["internal/reflectlite.TypeOf"], unfollowed := true, recurses := true, named := ["loop.example/g00289/impl.errNotRight"], ifaces := true, apart := false, laid := [("loop.example/g00289/impl.errNotRight", laid_loop_example_g00289_impl_errNotRight)], narrowed := true }
def FnExactDecDivUptoSaid : Prop := fnExactDecDivUptoRow.holds Tryd.pinned (OpenSpec.upto fnExactDecDivSpec)

end Rows
end Go.Proofs.YtoaahcpmmkngjajDoor

/-
  NARROWER THAN 'FOR EVERY INPUT', by the rows' own cells (each row's printed sentence says how): FnFits: ifaces, laid · FnUnions: ifaces, laid.
  DERIVED. THE GIVEN ROWS OF THIS SEAT. 2 by the template 'for every input the law returns true; each argument reads behind the call as it read before'; 0 by the template 'total and deterministic' (their statements: YtgdnlmaacnnfiaaGreatDoorTotals.lean).
  GIVEN WITH THE SEED: the statements are not yours to turn. If you find one false, say at which input.
  Laid BY PROGRAM, IN A SANDBOX (cutbox-rows.mjs): the forced cells as the released guide's own fill.sh prints them over the translation 2f989dfbe8c85cd6… (all of the seat's roots in one cut). By AI agents, Wed Nov 11 2026. No macro, syntax, notation, axiom, sorry.
-/
import Derived.Test.YtgdnlmaacnnfiaaGreatDoorChecked
import GoSem.Claim
import GoSem.ClaimJoined
import GoSem.ClaimMapViews
import Derived.JoinedTies
import Derived.KernelRfl
namespace Go.Proofs.YtgdnlmaacnnfiaaGreatDoor
/- THE CELL 'sum', in the pinned program and in every row, IS THE sha256 OF THE DUMP (.gsa) THAT YtgdnlmaacnnfiaaGreatDoorProg.lean LOADS. Nothing in Lean hashes anything: it is a label: what it is worth is what the hold of that sum in a sandbox is worth. -/
noncomputable def Tryz.pinned : Pinned := { name := "ytgdnlmaacnnfiaagreatdoor", sum := "2f989dfbe8c85cd68872ba184f4afe1e069638d5f568a8c6a5ff353245a912a3", checked := Tryz.checked }
namespace Rows
def none {H : Type} : Left H := { results := [], args := [] }

/- WHAT THE LISTED PACKAGE-LEVEL VARIABLES READ AS WHEN THE CALL BEGINS. Each datum BY PROGRAM (the guide's laid-datum.mjs) off the statement by which the dump's own 'gosem.cut.vars' lays the variable. In a bare row this is a premise. The card (YtgdnlmaacnnfiaaGreatDoorCards.lean) ties it to the program's text. -/
def laid_loop_example_g00289_impl_errNoPattern {H : Type} : DataW H := .iface "*errors.errorString" (.ptr (.agg [.lit (.string [116, 104, 105, 115, 32, 105, 115, 32, 110, 111, 32, 112, 97, 116, 116, 101, 114, 110])]))

/-- 'laws.FnFits': WHATEVER THE INPUT: true; the input reads as it did. -/
def fnFitsSpec : ChangeSpec := { name := "fnFits", vars := ["loop.example/g00289/impl.errNoPattern"], fn := fun _ => fun
  | [d, g1] => { results := [.lit (.bool true)], args := [d], vars := [g1] }
  | _ => none }
def fnFitsRow : OpenClaim := { program := "ytgdnlmaacnnfiaagreatdoor", sum := "2f989dfbe8c85cd68872ba184f4afe1e069638d5f568a8c6a5ff353245a912a3", func := "loop.example/g00289/laws.FnFits", spec := "fnFits", inPlace := ["internal/bytealg.IndexByteString", "internal/bytealg.IndexString"], unfollowed := true, recurses := true, named := ["loop.example/g00289/impl.errNoPattern", "internal/bytealg.MaxLen"], ifaces := true, apart := false, laid := [("loop.example/g00289/impl.errNoPattern", laid_loop_example_g00289_impl_errNoPattern)] }
def FnFitsSaid : Prop := fnFitsRow.holds Tryz.pinned (OpenSpec.ofChange fnFitsSpec)

/-- ITS FALSE NEIGHBOUR: 'it returns false'. Refute it at one input. -/
def fnFitsWrong : ChangeSpec := { name := "fnFits", vars := ["loop.example/g00289/impl.errNoPattern"], fn := fun _ => fun
  | [d, g1] => { results := [.lit (.bool false)], args := [d], vars := [g1] }
  | _ => none }
def FnFitsWrongFalsely : Prop := fnFitsRow.holds Tryz.pinned (OpenSpec.ofChange fnFitsWrong)

/-- 'laws.FnUnions': WHATEVER THE INPUT: true; the input reads as it did. -/
def fnUnionsSpec : ChangeSpec := { name := "fnUnions", vars := ["loop.example/g00289/impl.errNoPattern"], fn := fun _ => fun
  | [d, g1] => { results := [.lit (.bool true)], args := [d], vars := [g1] }
  | _ => none }
def fnUnionsRow : OpenClaim := { program := "ytgdnlmaacnnfiaagreatdoor", sum := "2f989dfbe8c85cd68872ba184f4afe1e069638d5f568a8c6a5ff353245a912a3", func := "loop.example/g00289/laws.FnUnions", spec := "fnUnions", inPlace := ["internal/bytealg.IndexByteString", "internal/bytealg.IndexString"], unfollowed := true, recurses := true, named := ["loop.example/g00289/impl.errNoPattern", "internal/bytealg.MaxLen"], ifaces := true, apart := false, laid := [("loop.example/g00289/impl.errNoPattern", laid_loop_example_g00289_impl_errNoPattern)] }
def FnUnionsSaid : Prop := fnUnionsRow.holds Tryz.pinned (OpenSpec.ofChange fnUnionsSpec)

/-- ITS FALSE NEIGHBOUR: 'it returns false'. Refute it at one input. -/
def fnUnionsWrong : ChangeSpec := { name := "fnUnions", vars := ["loop.example/g00289/impl.errNoPattern"], fn := fun _ => fun
  | [d, g1] => { results := [.lit (.bool false)], args := [d], vars := [g1] }
  | _ => none }
def FnUnionsWrongFalsely : Prop := fnUnionsRow.holds Tryz.pinned (OpenSpec.ofChange fnUnionsWrong)

/- THE SECOND FORM. 'bulk': how many values and letters a reading holds, each counted each time it is reached (what is shared counts as often as it is met; a slice's spare places count too). A statement '..UptoSaid' is the law's where the arguments, and the package variables that the reading takes, are together of bulk at most 1048576: NARROWER than '..Said'. Prove '..Said' where nothing that the law and all that it calls make is longer than what came in: it says more and counts as full. Else prove '..UptoSaid'. A law counts once. -/
mutual
def uptoBulk {H : Type} : DataW H → Nat
  | .lit (.string bytes) => bytes.length + 1
  | .lit _ => 1
  | .nil => 1
  | .ptr d => uptoBulk d + 1
  | .slice elems spare => uptoBulkAll elems + uptoBulkAll spare + 1
  | .agg parts => uptoBulkAll parts + 1
  | .iface _ d => uptoBulk d + 1
  | .map entries => uptoBulkEntries entries + 1
  | .held _ => 1
def uptoBulkAll {H : Type} : List (DataW H) → Nat
  | [] => 0
  | d :: r => uptoBulk d + uptoBulkAll r
def uptoBulkEntries {H : Type} : List (Lit × DataW H) → Nat
  | [] => 0
  | x :: r => uptoBulkEntry x + uptoBulkEntries r
def uptoBulkEntry {H : Type} : Lit × DataW H → Nat
  | (.string bytes, d) => bytes.length + uptoBulk d + 1
  | (_, d) => uptoBulk d + 1
 end
def uptoSmall : (H : Type) → List (DataW H) → Bool := fun _ ds => decide (uptoBulkAll ds ≤ 1048576)
def OpenSpec.upto (s : _root_.Go.ChangeSpec) : _root_.Go.OpenSpec := { _root_.Go.OpenSpec.ofChange s with cond := some uptoSmall }

/-- 'laws.FnFits', WHERE WHAT IT READS IS OF BULK AT MOST 1048576: true; the input reads as it did. -/
def fnFitsUptoRow : OpenClaim := { program := "ytgdnlmaacnnfiaagreatdoor", sum := "2f989dfbe8c85cd68872ba184f4afe1e069638d5f568a8c6a5ff353245a912a3", func := "loop.example/g00289/laws.FnFits", spec := "fnFits", inPlace := ["internal/bytealg.IndexByteString", "internal/bytealg.IndexString"], unfollowed := true, recurses := true, named := ["loop.example/g00289/impl.errNoPattern", "internal/bytealg.MaxLen"], ifaces := true, apart := false, laid := [("loop.example/g00289/impl.errNoPattern", laid_loop_example_g00289_impl_errNoPattern)], narrowed := true }
def FnFitsUptoSaid : Prop := fnFitsUptoRow.holds Tryz.pinned (OpenSpec.upto fnFitsSpec)

/-- 'laws.FnUnions', WHERE WHAT IT READS IS OF BULK AT MOST 1048576: true; the input reads as it did. -/
def fnUnionsUptoRow : OpenClaim := { program := "ytgdnlmaacnnfiaagreatdoor", sum := "2f989dfbe8c85cd68872ba184f4afe1e069638d5f568a8c6a5ff353245a912a3", func := "loop.example/g00289/laws.FnUnions", spec := "fnUnions", inPlace := ["internal/bytealg.IndexByteString", "internal/bytealg.IndexString"], unfollowed := true, recurses := true, named := ["loop.example/g00289/impl.errNoPattern", "internal/bytealg.MaxLen"], ifaces := true, apart := false, laid := [("loop.example/g00289/impl.errNoPattern", laid_loop_example_g00289_impl_errNoPattern)], narrowed := true }
def FnUnionsUptoSaid : Prop := fnUnionsUptoRow.holds Tryz.pinned (OpenSpec.upto fnUnionsSpec)

end Rows
end Go.Proofs.YtgdnlmaacnnfiaaGreatDoor

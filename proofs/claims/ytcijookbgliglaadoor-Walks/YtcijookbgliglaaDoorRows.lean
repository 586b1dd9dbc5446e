/-
  NARROWER THAN 'FOR EVERY INPUT', by the rows' own cells (each row's printed sentence says how): Compiles: laid · Walks: laid · Onward: laid.
  DERIVED. THE GIVEN ROWS OF THIS SEAT. 3 by the template 'for every input the law returns true; each argument reads behind the call as it read before'; 0 by the template 'total and deterministic' (their statements: YtcijookbgliglaaDoorTotals.lean).
  GIVEN WITH THE SEED: the statements are not yours to turn. If you find one false, say at which input.
  Laid BY PROGRAM, IN A SANDBOX (cutbox-rows.mjs): the forced cells as the released guide's own fill.sh prints them over the translation 518d6bcfb2fc912f… (all of the seat's roots in one cut). By AI agents, Wed Nov 11 2026. No macro, syntax, notation, axiom, sorry.
-/
import Derived.Test.YtcijookbgliglaaDoorChecked
import GoSem.Claim
import GoSem.ClaimJoined
import GoSem.ClaimMapViews
import Derived.JoinedTies
import Derived.KernelRfl
namespace Go.Proofs.YtcijookbgliglaaDoor
/- THE CELL 'sum', in the pinned program and in every row, IS THE sha256 OF THE DUMP (.gsa) THAT YtcijookbgliglaaDoorProg.lean LOADS. Nothing in Lean hashes anything: it is a label: what it is worth is what the hold of that sum in a sandbox is worth. -/
noncomputable def Tryd.pinned : Pinned := { name := "ytcijookbgliglaadoor", sum := "518d6bcfb2fc912fe9efbb2c5cc0c029b209fcf69c5f90eb6b051cb63649451a", checked := Tryd.checked }
namespace Rows
def none {H : Type} : Left H := { results := [], args := [] }

/- WHAT THE LISTED PACKAGE-LEVEL VARIABLES READ AS WHEN THE CALL BEGINS. Each datum BY PROGRAM (the guide's laid-datum.mjs) off the statement by which the dump's own 'gosem.cut.vars' lays the variable. In a bare row this is a premise. The card (YtcijookbgliglaaDoorCards.lean) ties it to the program's text. -/
def laid_parley_parley_flawErrno {H : Type} : DataW H := .agg [.lit (.int .i64 0), .lit (.int .i64 2), .lit (.int .i64 3), .lit (.int .i64 4), .lit (.int .i64 5), .lit (.int .i64 6), .lit (.int .i64 7), .lit (.int .i64 8)]

/-- 'parleylaw.Compiles': WHATEVER THE INPUT: true; the input reads as it did. -/
def compilesSpec : ChangeSpec := { name := "compiles", fn := fun _ => fun
  | [d] => { results := [.lit (.bool true)], args := [d] }
  | _ => none }
def compilesRow : OpenClaim := { program := "ytcijookbgliglaadoor", sum := "518d6bcfb2fc912fe9efbb2c5cc0c029b209fcf69c5f90eb6b051cb63649451a", func := "parley/parleylaw.Compiles", spec := "compiles", inPlace := ["internal/bytealg.IndexByteString"], unfollowed := true, recurses := true, named := ["parley/parley.flawErrno"], apart := false, laid := [("parley/parley.flawErrno", laid_parley_parley_flawErrno)] }
def CompilesSaid : Prop := compilesRow.holds Tryd.pinned (OpenSpec.ofChange compilesSpec)

/-- ITS FALSE NEIGHBOUR: 'it returns false'. Refute it at one input. -/
def compilesWrong : ChangeSpec := { name := "compiles", fn := fun _ => fun
  | [d] => { results := [.lit (.bool false)], args := [d] }
  | _ => none }
def CompilesWrongFalsely : Prop := compilesRow.holds Tryd.pinned (OpenSpec.ofChange compilesWrong)

/-- 'parleylaw.Walks': WHATEVER THE INPUT: true; the input reads as it did. -/
def walksSpec : ChangeSpec := { name := "walks", fn := fun _ => fun
  | [d1, d2] => { results := [.lit (.bool true)], args := [d1, d2] }
  | _ => none }
def walksRow : OpenClaim := { program := "ytcijookbgliglaadoor", sum := "518d6bcfb2fc912fe9efbb2c5cc0c029b209fcf69c5f90eb6b051cb63649451a", func := "parley/parleylaw.Walks", spec := "walks", inPlace := ["internal/bytealg.IndexByteString"], unfollowed := true, recurses := true, named := ["parley/parley.flawErrno"], apart := false, laid := [("parley/parley.flawErrno", laid_parley_parley_flawErrno)] }
def WalksSaid : Prop := walksRow.holds Tryd.pinned (OpenSpec.ofChange walksSpec)

/-- ITS FALSE NEIGHBOUR: 'it returns false'. Refute it at one input. -/
def walksWrong : ChangeSpec := { name := "walks", fn := fun _ => fun
  | [d1, d2] => { results := [.lit (.bool false)], args := [d1, d2] }
  | _ => none }
def WalksWrongFalsely : Prop := walksRow.holds Tryd.pinned (OpenSpec.ofChange walksWrong)

/-- 'parleylaw.Onward': WHATEVER THE INPUT: true; the input reads as it did. -/
def onwardSpec : ChangeSpec := { name := "onward", fn := fun _ => fun
  | [d1, d2, d3] => { results := [.lit (.bool true)], args := [d1, d2, d3] }
  | _ => none }
def onwardRow : OpenClaim := { program := "ytcijookbgliglaadoor", sum := "518d6bcfb2fc912fe9efbb2c5cc0c029b209fcf69c5f90eb6b051cb63649451a", func := "parley/parleylaw.Onward", spec := "onward", inPlace := ["internal/bytealg.IndexByteString"], unfollowed := true, recurses := true, named := ["parley/parley.flawErrno"], apart := false, laid := [("parley/parley.flawErrno", laid_parley_parley_flawErrno)] }
def OnwardSaid : Prop := onwardRow.holds Tryd.pinned (OpenSpec.ofChange onwardSpec)

/-- ITS FALSE NEIGHBOUR: 'it returns false'. Refute it at one input. -/
def onwardWrong : ChangeSpec := { name := "onward", fn := fun _ => fun
  | [d1, d2, d3] => { results := [.lit (.bool false)], args := [d1, d2, d3] }
  | _ => none }
def OnwardWrongFalsely : Prop := onwardRow.holds Tryd.pinned (OpenSpec.ofChange onwardWrong)

/- THE SECOND FORM. 'bulk': how many values and letters a reading holds, each counted each time it is reached (what is shared counts as often as it is met; a slice's spare places count too). A statement '..UptoSaid' is the law's where the arguments, and the package variables that the reading takes, are together of bulk at most 1048576: NARROWER than '..Said'. Prove '..Said' where nothing that the law and all that it calls make is longer than what came in: it says more and counts as full. Else prove '..UptoSaid'. A law counts once. -/
mutual
def uptoBulk {H : Type} : DataW H → Nat
  | .lit (.string bytes) => bytes.length + 1
  | .lit _ => 1
  | .nil => 1
  | .ptr d => uptoBulk d + 1
  | .slice elems spare => uptoBulkAll elems + uptoBulkAll spare + 1
  | .agg parts => uptoBulkAll parts + 1
  | .iface _ d => uptoBulk d + 1
  | .map entries => uptoBulkEntries entries + 1
  | .held _ => 1
def uptoBulkAll {H : Type} : List (DataW H) → Nat
  | [] => 0
  | d :: r => uptoBulk d + uptoBulkAll r
def uptoBulkEntries {H : Type} : List (Lit × DataW H) → Nat
  | [] => 0
  | x :: r => uptoBulkEntry x + uptoBulkEntries r
def uptoBulkEntry {H : Type} : Lit × DataW H → Nat
  | (.string bytes, d) => bytes.length + uptoBulk d + 1
  | (_, d) => uptoBulk d + 1
 end
def uptoSmall : (H : Type) → List (DataW H) → Bool := fun _ ds => decide (uptoBulkAll ds ≤ 1048576)
def OpenSpec.upto (s : _root_.Go.ChangeSpec) : _root_.Go.OpenSpec := { _root_.Go.OpenSpec.ofChange s with cond := some uptoSmall }

/-- 'parleylaw.Compiles', WHERE WHAT IT READS IS OF BULK AT MOST 1048576: true; the input reads as it did. -/
def compilesUptoRow : OpenClaim := { program := "ytcijookbgliglaadoor", sum := "518d6bcfb2fc912fe9efbb2c5cc0c029b209fcf69c5f90eb6b051cb63649451a", func := "parley/parleylaw.Compiles", spec := "compiles", inPlace := ["internal/bytealg.IndexByteString"], unfollowed := true, recurses := true, named := ["parley/parley.flawErrno"], apart := false, laid := [("parley/parley.flawErrno", laid_parley_parley_flawErrno)], narrowed := true }
def CompilesUptoSaid : Prop := compilesUptoRow.holds Tryd.pinned (OpenSpec.upto compilesSpec)

/-- 'parleylaw.Walks', WHERE WHAT IT READS IS OF BULK AT MOST 1048576: true; the input reads as it did. -/
def walksUptoRow : OpenClaim := { program := "ytcijookbgliglaadoor", sum := "518d6bcfb2fc912fe9efbb2c5cc0c029b209fcf69c5f90eb6b051cb63649451a", func := "parley/parleylaw.Walks", spec := "walks", inPlace := ["internal/bytealg.IndexByteString"], unfollowed := true, recurses := true, named := ["parley/parley.flawErrno"], apart := false, laid := [("parley/parley.flawErrno", laid_parley_parley_flawErrno)], narrowed := true }
def WalksUptoSaid : Prop := walksUptoRow.holds Tryd.pinned (OpenSpec.upto walksSpec)

/-- 'parleylaw.Onward', WHERE WHAT IT READS IS OF BULK AT MOST 1048576: true; the input reads as it did. -/
def onwardUptoRow : OpenClaim := { program := "ytcijookbgliglaadoor", sum := "518d6bcfb2fc912fe9efbb2c5cc0c029b209fcf69c5f90eb6b051cb63649451a", func := "parley/parleylaw.Onward", spec := "onward", inPlace := ["internal/bytealg.IndexByteString"], unfollowed := true, recurses := true, named := ["parley/parley.flawErrno"], apart := false, laid := [("parley/parley.flawErrno", laid_parley_parley_flawErrno)], narrowed := true }
def OnwardUptoSaid : Prop := onwardUptoRow.holds Tryd.pinned (OpenSpec.upto onwardSpec)

end Rows
end Go.Proofs.YtcijookbgliglaaDoor

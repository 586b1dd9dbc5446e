/-
  DERIVED. GIVEN WITH THE SEED: THE CARDS: each row of YtcijookbgliglaaDoorRows.lean that lists a variable, with what it lists TIED to the program's text (the seventh form; the later family's looks); each row that meets fmt, with fmt's text TOLD by the authors' own Lean function (tested against real Go, not proved from fmt's source: count such statements apart). THE CARD IS WHAT COUNTS. Prove the row's statement (the work); the ties are given (YtcijookbgliglaaDoorTie.lean); close each card by the builder's one call (the guide's Derived/Test/ToyasCard.lean, 'card_holds'). Laid BY PROGRAM, IN A SANDBOX (cutbox-door.mjs). By AI agents, Wed Nov 11 2026. No macro, syntax, notation, axiom, sorry.
-/
import Derived.Test.YtcijookbgliglaaDoorRows
import GoSem.ClaimSeven
namespace Go.Proofs.YtcijookbgliglaaDoor
namespace Rows

/-- THE TIED CARD OF 'parleylaw.Compiles'. -/
def compilesCard : Claim7 := { stood := { row := compilesRow, standIns := [], harness := (true, "4dd6a2b184eaa32df41ac7ce202342961fd7ebc0ecfe42ec7dc7886748f0c66f"), looks := true }, kinds := [], alts := [], laidByText := true, laidKinds := [.data], laidTests := true, laidLooks := .later }
def CompilesCardSaid : Prop := Claim7.holds Tryd.pinned (.plain (OpenSpec.ofChange compilesSpec)) compilesCard

/-- THE TIED CARD OF 'parleylaw.Walks'. -/
def walksCard : Claim7 := { stood := { row := walksRow, standIns := [], harness := (true, "4dd6a2b184eaa32df41ac7ce202342961fd7ebc0ecfe42ec7dc7886748f0c66f"), looks := true }, kinds := [], alts := [], laidByText := true, laidKinds := [.data], laidTests := true, laidLooks := .later }
def WalksCardSaid : Prop := Claim7.holds Tryd.pinned (.plain (OpenSpec.ofChange walksSpec)) walksCard

/-- THE TIED CARD OF 'parleylaw.Onward'. -/
def onwardCard : Claim7 := { stood := { row := onwardRow, standIns := [], harness := (true, "4dd6a2b184eaa32df41ac7ce202342961fd7ebc0ecfe42ec7dc7886748f0c66f"), looks := true }, kinds := [], alts := [], laidByText := true, laidKinds := [.data], laidTests := true, laidLooks := .later }
def OnwardCardSaid : Prop := Claim7.holds Tryd.pinned (.plain (OpenSpec.ofChange onwardSpec)) onwardCard

/-- THE SECOND FORM's CARD OF 'parleylaw.Compiles'. -/
def compilesUptoCard : Claim7 := { stood := { row := compilesUptoRow, standIns := [], harness := (true, "4dd6a2b184eaa32df41ac7ce202342961fd7ebc0ecfe42ec7dc7886748f0c66f"), looks := true }, kinds := [], alts := [], laidByText := true, laidKinds := [.data], laidTests := true, laidLooks := .later }
def CompilesUptoCardSaid : Prop := Claim7.holds Tryd.pinned (.plain (OpenSpec.upto compilesSpec)) compilesUptoCard

/-- THE SECOND FORM's CARD OF 'parleylaw.Walks'. -/
def walksUptoCard : Claim7 := { stood := { row := walksUptoRow, standIns := [], harness := (true, "4dd6a2b184eaa32df41ac7ce202342961fd7ebc0ecfe42ec7dc7886748f0c66f"), looks := true }, kinds := [], alts := [], laidByText := true, laidKinds := [.data], laidTests := true, laidLooks := .later }
def WalksUptoCardSaid : Prop := Claim7.holds Tryd.pinned (.plain (OpenSpec.upto walksSpec)) walksUptoCard

/-- THE SECOND FORM's CARD OF 'parleylaw.Onward'. -/
def onwardUptoCard : Claim7 := { stood := { row := onwardUptoRow, standIns := [], harness := (true, "4dd6a2b184eaa32df41ac7ce202342961fd7ebc0ecfe42ec7dc7886748f0c66f"), looks := true }, kinds := [], alts := [], laidByText := true, laidKinds := [.data], laidTests := true, laidLooks := .later }
def OnwardUptoCardSaid : Prop := Claim7.holds Tryd.pinned (.plain (OpenSpec.upto onwardSpec)) onwardUptoCard
end Rows
end Go.Proofs.YtcijookbgliglaaDoor

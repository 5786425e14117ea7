/-
  DERIVED. GIVEN WITH THE SEED: THE CARDS: each row of YtconcnndghmdfaaGreatDoorRows.lean that lists a variable, with what it lists TIED to the program's text (the seventh form; the later family's looks); each row that meets fmt, with fmt's text TOLD by the authors' own Lean function (tested against real Go, not proved from fmt's source: count such statements apart). THE CARD IS WHAT COUNTS. Prove the row's statement (the work); the ties are given (YtconcnndghmdfaaGreatDoorTie.lean); close each card by the builder's one call (the guide's Derived/Test/ToyasCard.lean, 'card_holds'). Laid BY PROGRAM, IN A SANDBOX (cutbox-door.mjs). By AI agents, Wed Nov 11 2026. No macro, syntax, notation, axiom, sorry.
-/
import Derived.Test.YtconcnndghmdfaaGreatDoorRows
import GoSem.ClaimSeven
namespace Go.Proofs.YtconcnndghmdfaaGreatDoor
namespace Rows

/-- THE TIED CARD OF 'laws.FnBlock'. -/
def fnBlockCard : Claim7 := { stood := { row := fnBlockRow, standIns := [], harness := (true, "f4009e072c1150287cebbd92410d175f978f74f1c13fccc5fba77c560ef29d9c"), looks := true }, kinds := [], alts := [], laidByText := true, laidKinds := [.handle, .data], laidTests := true, laidLooks := .later }
def FnBlockCardSaid : Prop := Claim7.holds Tryz.pinned (.plain (OpenSpec.ofChange fnBlockSpec)) fnBlockCard

/-- THE TIED CARD OF 'laws.FnExactBlockSeal'. -/
def fnExactBlockSealCard : Claim7 := { stood := { row := fnExactBlockSealRow, standIns := [], harness := (true, "f4009e072c1150287cebbd92410d175f978f74f1c13fccc5fba77c560ef29d9c"), looks := true }, kinds := [], alts := [], laidByText := true, laidKinds := [.data], laidTests := true, laidLooks := .later }
def FnExactBlockSealCardSaid : Prop := Claim7.holds Tryz.pinned (.plain (OpenSpec.ofChange fnExactBlockSealSpec)) fnExactBlockSealCard

/-- THE TIED CARD OF 'laws.FnExactBlockOpen'. -/
def fnExactBlockOpenCard : Claim7 := { stood := { row := fnExactBlockOpenRow, standIns := [], harness := (true, "f4009e072c1150287cebbd92410d175f978f74f1c13fccc5fba77c560ef29d9c"), looks := true }, kinds := [], alts := [], laidByText := true, laidKinds := [.handle, .data], laidTests := true, laidLooks := .later }
def FnExactBlockOpenCardSaid : Prop := Claim7.holds Tryz.pinned (.plain (OpenSpec.ofChange fnExactBlockOpenSpec)) fnExactBlockOpenCard

/-- THE SECOND FORM's CARD OF 'laws.FnBlock'. -/
def fnBlockUptoCard : Claim7 := { stood := { row := fnBlockUptoRow, standIns := [], harness := (true, "f4009e072c1150287cebbd92410d175f978f74f1c13fccc5fba77c560ef29d9c"), looks := true }, kinds := [], alts := [], laidByText := true, laidKinds := [.handle, .data], laidTests := true, laidLooks := .later }
def FnBlockUptoCardSaid : Prop := Claim7.holds Tryz.pinned (.plain (OpenSpec.upto fnBlockSpec)) fnBlockUptoCard

/-- THE SECOND FORM's CARD OF 'laws.FnExactBlockSeal'. -/
def fnExactBlockSealUptoCard : Claim7 := { stood := { row := fnExactBlockSealUptoRow, standIns := [], harness := (true, "f4009e072c1150287cebbd92410d175f978f74f1c13fccc5fba77c560ef29d9c"), looks := true }, kinds := [], alts := [], laidByText := true, laidKinds := [.data], laidTests := true, laidLooks := .later }
def FnExactBlockSealUptoCardSaid : Prop := Claim7.holds Tryz.pinned (.plain (OpenSpec.upto fnExactBlockSealSpec)) fnExactBlockSealUptoCard

/-- THE SECOND FORM's CARD OF 'laws.FnExactBlockOpen'. -/
def fnExactBlockOpenUptoCard : Claim7 := { stood := { row := fnExactBlockOpenUptoRow, standIns := [], harness := (true, "f4009e072c1150287cebbd92410d175f978f74f1c13fccc5fba77c560ef29d9c"), looks := true }, kinds := [], alts := [], laidByText := true, laidKinds := [.handle, .data], laidTests := true, laidLooks := .later }
def FnExactBlockOpenUptoCardSaid : Prop := Claim7.holds Tryz.pinned (.plain (OpenSpec.upto fnExactBlockOpenSpec)) fnExactBlockOpenUptoCard
end Rows
end Go.Proofs.YtconcnndghmdfaaGreatDoor

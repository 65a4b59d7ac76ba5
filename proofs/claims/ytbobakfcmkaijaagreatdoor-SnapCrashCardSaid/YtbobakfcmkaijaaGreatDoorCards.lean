/-
  DERIVED. GIVEN WITH THE SEED: THE CARDS: each row of YtbobakfcmkaijaaGreatDoorRows.lean that lists a variable, with what it lists TIED to the program's text (the seventh form; the later family's looks); each row that meets fmt, with fmt's text TOLD by the authors' own Lean function (tested against real Go, not proved from fmt's source: count such statements apart). THE CARD IS WHAT COUNTS. Prove the row's statement (the work); the ties are given (YtbobakfcmkaijaaGreatDoorTie.lean); close each card by the builder's one call (the guide's Derived/Test/ToyasCard.lean, 'card_holds'). Laid BY PROGRAM, IN A SANDBOX (cutbox-door.mjs). By AI agents, Wed Nov 11 2026. No macro, syntax, notation, axiom, sorry.
-/
import Derived.Test.YtbobakfcmkaijaaGreatDoorRows
import GoSem.ClaimSeven
namespace Go.Proofs.YtbobakfcmkaijaaGreatDoor
namespace Rows

/-- THE TIED CARD OF 'berthmasterlaw06.SnapNames'. -/
def snapNamesCard : Claim7 := { stood := { row := snapNamesRow, standIns := [], harness := (true, "c7ea11572b0bcb50b26a8148bacd7dd90b9e5f6d23427a44e76f3432929b5c0e"), looks := true }, kinds := [], alts := [], laidByText := true, laidKinds := [.data, .data, .data, .sentinel, .sentinel], laidTests := true, laidLooks := .later }
def SnapNamesCardSaid : Prop := Claim7.holds Tryz.pinned (.plain (OpenSpec.ofChange snapNamesSpec)) snapNamesCard

/-- THE TIED CARD OF 'berthmasterlaw06.SnapNil'. -/
def snapNilCard : Claim7 := { stood := { row := snapNilRow, standIns := [], harness := (true, "c7ea11572b0bcb50b26a8148bacd7dd90b9e5f6d23427a44e76f3432929b5c0e"), looks := true }, kinds := [], alts := [], laidByText := true, laidKinds := [.data, .data, .data, .sentinel, .sentinel], laidTests := true, laidLooks := .later }
def SnapNilCardSaid : Prop := Claim7.holds Tryz.pinned (.plain (OpenSpec.ofChange snapNilSpec)) snapNilCard

/-- THE TIED CARD OF 'berthmasterlaw06.SnapCrash'. -/
def snapCrashCard : Claim7 := { stood := { row := snapCrashRow, standIns := [], harness := (true, "c7ea11572b0bcb50b26a8148bacd7dd90b9e5f6d23427a44e76f3432929b5c0e"), looks := true }, kinds := [], alts := [], laidByText := true, laidKinds := [.data, .data, .data, .sentinel, .sentinel], laidTests := true, laidLooks := .later }
def SnapCrashCardSaid : Prop := Claim7.holds Tryz.pinned (.plain (OpenSpec.ofChange snapCrashSpec)) snapCrashCard

/-- THE SECOND FORM's CARD OF 'berthmasterlaw06.SnapNames'. -/
def snapNamesUptoCard : Claim7 := { stood := { row := snapNamesUptoRow, standIns := [], harness := (true, "c7ea11572b0bcb50b26a8148bacd7dd90b9e5f6d23427a44e76f3432929b5c0e"), looks := true }, kinds := [], alts := [], laidByText := true, laidKinds := [.data, .data, .data, .sentinel, .sentinel], laidTests := true, laidLooks := .later }
def SnapNamesUptoCardSaid : Prop := Claim7.holds Tryz.pinned (.plain (OpenSpec.upto snapNamesSpec)) snapNamesUptoCard

/-- THE SECOND FORM's CARD OF 'berthmasterlaw06.SnapNil'. -/
def snapNilUptoCard : Claim7 := { stood := { row := snapNilUptoRow, standIns := [], harness := (true, "c7ea11572b0bcb50b26a8148bacd7dd90b9e5f6d23427a44e76f3432929b5c0e"), looks := true }, kinds := [], alts := [], laidByText := true, laidKinds := [.data, .data, .data, .sentinel, .sentinel], laidTests := true, laidLooks := .later }
def SnapNilUptoCardSaid : Prop := Claim7.holds Tryz.pinned (.plain (OpenSpec.upto snapNilSpec)) snapNilUptoCard

/-- THE SECOND FORM's CARD OF 'berthmasterlaw06.SnapCrash'. -/
def snapCrashUptoCard : Claim7 := { stood := { row := snapCrashUptoRow, standIns := [], harness := (true, "c7ea11572b0bcb50b26a8148bacd7dd90b9e5f6d23427a44e76f3432929b5c0e"), looks := true }, kinds := [], alts := [], laidByText := true, laidKinds := [.data, .data, .data, .sentinel, .sentinel], laidTests := true, laidLooks := .later }
def SnapCrashUptoCardSaid : Prop := Claim7.holds Tryz.pinned (.plain (OpenSpec.upto snapCrashSpec)) snapCrashUptoCard
end Rows
end Go.Proofs.YtbobakfcmkaijaaGreatDoor

/-
  DERIVED. GIVEN WITH THE SEED: THE CARDS: each row of YtmodaefcipchpabDoorRows.lean that lists a variable, with what it lists TIED to the program's text (the seventh form; the later family's looks); each row that meets fmt, with fmt's text TOLD by the authors' own Lean function (tested against real Go, not proved from fmt's source: count such statements apart). THE CARD IS WHAT COUNTS. Prove the row's statement (the work); the ties are given (YtmodaefcipchpabDoorTie.lean); close each card by the builder's one call (the guide's Derived/Test/ToyasCard.lean, 'card_holds'). Laid BY PROGRAM, IN A SANDBOX (cutbox-door.mjs). By AI agents, Wed Nov 11 2026. No macro, syntax, notation, axiom, sorry.
-/
import Derived.Test.YtmodaefcipchpabDoorRows
import GoSem.ClaimSeven
namespace Go.Proofs.YtmodaefcipchpabDoor
namespace Rows

/-- THE TIED CARD OF 'tollgatelaw01.WordPlain'. -/
def wordPlainCard : Claim7 := { stood := { row := wordPlainRow, standIns := [], harness := (true, "db60b574c8d4bc1efa3286194b899d63372990790c02bd5d7ecf7975a991093d"), looks := true }, kinds := [], alts := [], laidByText := true, laidKinds := [.data, .data, .data, .sentinel, .sentinel], laidTests := true, laidLooks := .later }
def WordPlainCardSaid : Prop := Claim7.holds Tryd.pinned (.plain (OpenSpec.ofChange wordPlainSpec)) wordPlainCard

/-- THE TIED CARD OF 'tollgatelaw01.WordWalk'. -/
def wordWalkCard : Claim7 := { stood := { row := wordWalkRow, standIns := [], harness := (true, "db60b574c8d4bc1efa3286194b899d63372990790c02bd5d7ecf7975a991093d"), looks := true }, kinds := [], alts := [], laidByText := true, laidKinds := [.data, .data, .data, .sentinel, .sentinel], laidTests := true, laidLooks := .later }
def WordWalkCardSaid : Prop := Claim7.holds Tryd.pinned (.plain (OpenSpec.ofChange wordWalkSpec)) wordWalkCard

/-- THE TIED CARD OF 'tollgatelaw01.WordTogether'. -/
def wordTogetherCard : Claim7 := { stood := { row := wordTogetherRow, standIns := [], harness := (true, "db60b574c8d4bc1efa3286194b899d63372990790c02bd5d7ecf7975a991093d"), looks := true }, kinds := [], alts := [], laidByText := true, laidKinds := [.data, .data, .data, .sentinel, .sentinel], laidTests := true, laidLooks := .later }
def WordTogetherCardSaid : Prop := Claim7.holds Tryd.pinned (.plain (OpenSpec.ofChange wordTogetherSpec)) wordTogetherCard

/-- THE TIED CARD OF 'tollgatelaw01.WordMore'. -/
def wordMoreCard : Claim7 := { stood := { row := wordMoreRow, standIns := [], harness := (true, "db60b574c8d4bc1efa3286194b899d63372990790c02bd5d7ecf7975a991093d"), looks := true }, kinds := [], alts := [], laidByText := true, laidKinds := [.data, .data, .data, .sentinel, .sentinel], laidTests := true, laidLooks := .later }
def WordMoreCardSaid : Prop := Claim7.holds Tryd.pinned (.plain (OpenSpec.ofChange wordMoreSpec)) wordMoreCard

/-- THE SECOND FORM's CARD OF 'tollgatelaw01.WordPlain'. -/
def wordPlainUptoCard : Claim7 := { stood := { row := wordPlainUptoRow, standIns := [], harness := (true, "db60b574c8d4bc1efa3286194b899d63372990790c02bd5d7ecf7975a991093d"), looks := true }, kinds := [], alts := [], laidByText := true, laidKinds := [.data, .data, .data, .sentinel, .sentinel], laidTests := true, laidLooks := .later }
def WordPlainUptoCardSaid : Prop := Claim7.holds Tryd.pinned (.plain (OpenSpec.upto wordPlainSpec)) wordPlainUptoCard

/-- THE SECOND FORM's CARD OF 'tollgatelaw01.WordWalk'. -/
def wordWalkUptoCard : Claim7 := { stood := { row := wordWalkUptoRow, standIns := [], harness := (true, "db60b574c8d4bc1efa3286194b899d63372990790c02bd5d7ecf7975a991093d"), looks := true }, kinds := [], alts := [], laidByText := true, laidKinds := [.data, .data, .data, .sentinel, .sentinel], laidTests := true, laidLooks := .later }
def WordWalkUptoCardSaid : Prop := Claim7.holds Tryd.pinned (.plain (OpenSpec.upto wordWalkSpec)) wordWalkUptoCard

/-- THE SECOND FORM's CARD OF 'tollgatelaw01.WordTogether'. -/
def wordTogetherUptoCard : Claim7 := { stood := { row := wordTogetherUptoRow, standIns := [], harness := (true, "db60b574c8d4bc1efa3286194b899d63372990790c02bd5d7ecf7975a991093d"), looks := true }, kinds := [], alts := [], laidByText := true, laidKinds := [.data, .data, .data, .sentinel, .sentinel], laidTests := true, laidLooks := .later }
def WordTogetherUptoCardSaid : Prop := Claim7.holds Tryd.pinned (.plain (OpenSpec.upto wordTogetherSpec)) wordTogetherUptoCard

/-- THE SECOND FORM's CARD OF 'tollgatelaw01.WordMore'. -/
def wordMoreUptoCard : Claim7 := { stood := { row := wordMoreUptoRow, standIns := [], harness := (true, "db60b574c8d4bc1efa3286194b899d63372990790c02bd5d7ecf7975a991093d"), looks := true }, kinds := [], alts := [], laidByText := true, laidKinds := [.data, .data, .data, .sentinel, .sentinel], laidTests := true, laidLooks := .later }
def WordMoreUptoCardSaid : Prop := Claim7.holds Tryd.pinned (.plain (OpenSpec.upto wordMoreSpec)) wordMoreUptoCard
end Rows
end Go.Proofs.YtmodaefcipchpabDoor

/-
  DERIVED. GIVEN WITH THE SEED: THE CARDS: each row of YtfbdikaaeedeoaaDoorRows.lean that lists a variable, with what it lists TIED to the program's text (the seventh form; the later family's looks); each row that meets fmt, with fmt's text TOLD by the authors' own Lean function (tested against real Go, not proved from fmt's source: count such statements apart). THE CARD IS WHAT COUNTS. Prove the row's statement (the work); the ties are given (YtfbdikaaeedeoaaDoorTie.lean); close each card by the builder's one call (the guide's Derived/Test/ToyasCard.lean, 'card_holds'). Laid BY PROGRAM, IN A SANDBOX (cutbox-door.mjs). By AI agents, Wed Nov 11 2026. No macro, syntax, notation, axiom, sorry.
-/
import Derived.Test.YtfbdikaaeedeoaaDoorRows
import GoSem.ClaimSeven
namespace Go.Proofs.YtfbdikaaeedeoaaDoor
namespace Rows

/-- THE TIED CARD OF 'tollgatelaw06.KeyPacks'. -/
def keyPacksCard : Claim7 := { stood := { row := keyPacksRow, standIns := [], harness := (true, "c909a0117f13a5ccb128d11e586b29b835e8c0cffc21a24601e39a3f238dcb46"), looks := false }, kinds := [], alts := [], laidByText := true, laidKinds := [.data, .pinned], laidTests := true, laidLooks := .later }
def KeyPacksCardSaid : Prop := Claim7.holds Tryd.pinned (.plain (OpenSpec.ofChange keyPacksSpec)) keyPacksCard

/-- THE TIED CARD OF 'tollgatelaw06.KeyRecords'. -/
def keyRecordsCard : Claim7 := { stood := { row := keyRecordsRow, standIns := [], harness := (true, "c909a0117f13a5ccb128d11e586b29b835e8c0cffc21a24601e39a3f238dcb46"), looks := false }, kinds := [], alts := [], laidByText := true, laidKinds := [.data, .pinned], laidTests := true, laidLooks := .later }
def KeyRecordsCardSaid : Prop := Claim7.holds Tryd.pinned (.plain (OpenSpec.ofChange keyRecordsSpec)) keyRecordsCard

/-- THE TIED CARD OF 'tollgatelaw06.KeyNames'. -/
def keyNamesCard : Claim7 := { stood := { row := keyNamesRow, standIns := [], harness := (true, "c909a0117f13a5ccb128d11e586b29b835e8c0cffc21a24601e39a3f238dcb46"), looks := false }, kinds := [], alts := [], laidByText := true, laidKinds := [.data, .pinned], laidTests := true, laidLooks := .later }
def KeyNamesCardSaid : Prop := Claim7.holds Tryd.pinned (.plain (OpenSpec.ofChange keyNamesSpec)) keyNamesCard

/-- THE TIED CARD OF 'tollgatelaw06.KeyOrder'. -/
def keyOrderCard : Claim7 := { stood := { row := keyOrderRow, standIns := [], harness := (true, "c909a0117f13a5ccb128d11e586b29b835e8c0cffc21a24601e39a3f238dcb46"), looks := false }, kinds := [], alts := [], laidByText := true, laidKinds := [.data, .pinned], laidTests := true, laidLooks := .later }
def KeyOrderCardSaid : Prop := Claim7.holds Tryd.pinned (.plain (OpenSpec.ofChange keyOrderSpec)) keyOrderCard

/-- THE TIED CARD OF 'tollgatelaw06.KeyBack'. -/
def keyBackCard : Claim7 := { stood := { row := keyBackRow, standIns := [], harness := (true, "c909a0117f13a5ccb128d11e586b29b835e8c0cffc21a24601e39a3f238dcb46"), looks := false }, kinds := [], alts := [], laidByText := true, laidKinds := [.data, .pinned], laidTests := true, laidLooks := .later }
def KeyBackCardSaid : Prop := Claim7.holds Tryd.pinned (.plain (OpenSpec.ofChange keyBackSpec)) keyBackCard

/-- THE TIED CARD OF 'tollgatelaw06.KeyAfter'. -/
def keyAfterCard : Claim7 := { stood := { row := keyAfterRow, standIns := [], harness := (true, "c909a0117f13a5ccb128d11e586b29b835e8c0cffc21a24601e39a3f238dcb46"), looks := false }, kinds := [], alts := [], laidByText := true, laidKinds := [.data, .pinned], laidTests := true, laidLooks := .later }
def KeyAfterCardSaid : Prop := Claim7.holds Tryd.pinned (.plain (OpenSpec.ofChange keyAfterSpec)) keyAfterCard

/-- THE SECOND FORM's CARD OF 'tollgatelaw06.KeyPacks'. -/
def keyPacksUptoCard : Claim7 := { stood := { row := keyPacksUptoRow, standIns := [], harness := (true, "c909a0117f13a5ccb128d11e586b29b835e8c0cffc21a24601e39a3f238dcb46"), looks := false }, kinds := [], alts := [], laidByText := true, laidKinds := [.data, .pinned], laidTests := true, laidLooks := .later }
def KeyPacksUptoCardSaid : Prop := Claim7.holds Tryd.pinned (.plain (OpenSpec.upto keyPacksSpec)) keyPacksUptoCard

/-- THE SECOND FORM's CARD OF 'tollgatelaw06.KeyRecords'. -/
def keyRecordsUptoCard : Claim7 := { stood := { row := keyRecordsUptoRow, standIns := [], harness := (true, "c909a0117f13a5ccb128d11e586b29b835e8c0cffc21a24601e39a3f238dcb46"), looks := false }, kinds := [], alts := [], laidByText := true, laidKinds := [.data, .pinned], laidTests := true, laidLooks := .later }
def KeyRecordsUptoCardSaid : Prop := Claim7.holds Tryd.pinned (.plain (OpenSpec.upto keyRecordsSpec)) keyRecordsUptoCard

/-- THE SECOND FORM's CARD OF 'tollgatelaw06.KeyNames'. -/
def keyNamesUptoCard : Claim7 := { stood := { row := keyNamesUptoRow, standIns := [], harness := (true, "c909a0117f13a5ccb128d11e586b29b835e8c0cffc21a24601e39a3f238dcb46"), looks := false }, kinds := [], alts := [], laidByText := true, laidKinds := [.data, .pinned], laidTests := true, laidLooks := .later }
def KeyNamesUptoCardSaid : Prop := Claim7.holds Tryd.pinned (.plain (OpenSpec.upto keyNamesSpec)) keyNamesUptoCard

/-- THE SECOND FORM's CARD OF 'tollgatelaw06.KeyOrder'. -/
def keyOrderUptoCard : Claim7 := { stood := { row := keyOrderUptoRow, standIns := [], harness := (true, "c909a0117f13a5ccb128d11e586b29b835e8c0cffc21a24601e39a3f238dcb46"), looks := false }, kinds := [], alts := [], laidByText := true, laidKinds := [.data, .pinned], laidTests := true, laidLooks := .later }
def KeyOrderUptoCardSaid : Prop := Claim7.holds Tryd.pinned (.plain (OpenSpec.upto keyOrderSpec)) keyOrderUptoCard

/-- THE SECOND FORM's CARD OF 'tollgatelaw06.KeyBack'. -/
def keyBackUptoCard : Claim7 := { stood := { row := keyBackUptoRow, standIns := [], harness := (true, "c909a0117f13a5ccb128d11e586b29b835e8c0cffc21a24601e39a3f238dcb46"), looks := false }, kinds := [], alts := [], laidByText := true, laidKinds := [.data, .pinned], laidTests := true, laidLooks := .later }
def KeyBackUptoCardSaid : Prop := Claim7.holds Tryd.pinned (.plain (OpenSpec.upto keyBackSpec)) keyBackUptoCard

/-- THE SECOND FORM's CARD OF 'tollgatelaw06.KeyAfter'. -/
def keyAfterUptoCard : Claim7 := { stood := { row := keyAfterUptoRow, standIns := [], harness := (true, "c909a0117f13a5ccb128d11e586b29b835e8c0cffc21a24601e39a3f238dcb46"), looks := false }, kinds := [], alts := [], laidByText := true, laidKinds := [.data, .pinned], laidTests := true, laidLooks := .later }
def KeyAfterUptoCardSaid : Prop := Claim7.holds Tryd.pinned (.plain (OpenSpec.upto keyAfterSpec)) keyAfterUptoCard
end Rows
end Go.Proofs.YtfbdikaaeedeoaaDoor

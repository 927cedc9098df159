/-
  No cell of these rows narrows 'for every input' (looked for: loops, veiled, ifaces, maps, wideKeys, modest, calm, conditions, laid).
  DERIVED. THE GIVEN ROWS OF THIS SEAT. 3 by the template 'for every input the law returns true; each argument reads behind the call as it read before'; 0 by the template 'total and deterministic' (their statements: YtmodaefcipchpaaTotals.lean).
  GIVEN WITH THE SEED: the statements are not yours to turn. If you find one false, say at which input.
  Laid BY PROGRAM, IN A SANDBOX (cutbox-rows.mjs): the forced cells as the released guide's own fill.sh prints them over the translation 17fc8a4f9d6935eb… (all of the seat's roots in one cut). By AI agents, Wed Nov 11 2026. No macro, syntax, notation, axiom, sorry.
-/
import Derived.Test.YtmodaefcipchpaaChecked
import GoSem.Claim
import GoSem.ClaimJoined
import GoSem.ClaimMapViews
import Derived.JoinedTies
import Derived.KernelRfl
namespace Go.Proofs.Ytmodaefcipchpaa
/- THE CELL 'sum', in the pinned program and in every row, IS THE sha256 OF THE DUMP (.gsa) THAT YtmodaefcipchpaaProg.lean LOADS. Nothing in Lean hashes anything: it is a label: what it is worth is what the hold of that sum in a sandbox is worth. -/
noncomputable def Try.pinned : Pinned := { name := "ytmodaefcipchpaa", sum := "17fc8a4f9d6935ebdb00039679eebcd8e18b2316da7cb80ac7de67a4291729a4", checked := Try.checked }
namespace Rows
def none {H : Type} : Left H := { results := [], args := [] }

/-- 'tollgatelaw01.WordKinds': WHATEVER THE INPUT: true; the input reads as it did. -/
def wordKindsSpec : ChangeSpec := { name := "wordKinds", fn := fun _ => fun
  | [d] => { results := [.lit (.bool true)], args := [d] }
  | _ => none }
def wordKindsRow : OpenClaim := { program := "ytmodaefcipchpaa", sum := "17fc8a4f9d6935ebdb00039679eebcd8e18b2316da7cb80ac7de67a4291729a4", func := "tollgate/tollgatelaw01.WordKinds", spec := "wordKinds", unfollowed := true, recurses := true, apart := false }
def WordKindsSaid : Prop := wordKindsRow.holds Try.pinned (OpenSpec.ofChange wordKindsSpec)

/-- ITS FALSE NEIGHBOUR: 'it returns false'. Refute it at one input. -/
def wordKindsWrong : ChangeSpec := { name := "wordKinds", fn := fun _ => fun
  | [d] => { results := [.lit (.bool false)], args := [d] }
  | _ => none }
def WordKindsWrongFalsely : Prop := wordKindsRow.holds Try.pinned (OpenSpec.ofChange wordKindsWrong)

/-- 'tollgatelaw01.WordChars': WHATEVER THE INPUT: true; the input reads as it did. -/
def wordCharsSpec : ChangeSpec := { name := "wordChars", fn := fun _ => fun
  | [d1, d2, d3] => { results := [.lit (.bool true)], args := [d1, d2, d3] }
  | _ => none }
def wordCharsRow : OpenClaim := { program := "ytmodaefcipchpaa", sum := "17fc8a4f9d6935ebdb00039679eebcd8e18b2316da7cb80ac7de67a4291729a4", func := "tollgate/tollgatelaw01.WordChars", spec := "wordChars", apart := false }
def WordCharsSaid : Prop := wordCharsRow.holds Try.pinned (OpenSpec.ofChange wordCharsSpec)

/-- ITS FALSE NEIGHBOUR: 'it returns false'. Refute it at one input. -/
def wordCharsWrong : ChangeSpec := { name := "wordChars", fn := fun _ => fun
  | [d1, d2, d3] => { results := [.lit (.bool false)], args := [d1, d2, d3] }
  | _ => none }
def WordCharsWrongFalsely : Prop := wordCharsRow.holds Try.pinned (OpenSpec.ofChange wordCharsWrong)

/-- 'tollgatelaw01.WordQuotes': WHATEVER THE INPUT: true; the input reads as it did. -/
def wordQuotesSpec : ChangeSpec := { name := "wordQuotes", fn := fun _ => fun
  | [d1, d2] => { results := [.lit (.bool true)], args := [d1, d2] }
  | _ => none }
def wordQuotesRow : OpenClaim := { program := "ytmodaefcipchpaa", sum := "17fc8a4f9d6935ebdb00039679eebcd8e18b2316da7cb80ac7de67a4291729a4", func := "tollgate/tollgatelaw01.WordQuotes", spec := "wordQuotes", inPlace := ["internal/bytealg.IndexByteString"], unfollowed := true, recurses := true, apart := false }
def WordQuotesSaid : Prop := wordQuotesRow.holds Try.pinned (OpenSpec.ofChange wordQuotesSpec)

/-- ITS FALSE NEIGHBOUR: 'it returns false'. Refute it at one input. -/
def wordQuotesWrong : ChangeSpec := { name := "wordQuotes", fn := fun _ => fun
  | [d1, d2] => { results := [.lit (.bool false)], args := [d1, d2] }
  | _ => none }
def WordQuotesWrongFalsely : Prop := wordQuotesRow.holds Try.pinned (OpenSpec.ofChange wordQuotesWrong)

/- THE SECOND FORM. 'bulk': how many values and letters a reading holds, each counted each time it is reached (what is shared counts as often as it is met; a slice's spare places count too). A statement '..UptoSaid' is the law's where the arguments, and the package variables that the reading takes, are together of bulk at most 1048576: NARROWER than '..Said'. Prove '..Said' where nothing that the law and all that it calls make is longer than what came in: it says more and counts as full. Else prove '..UptoSaid'. A law counts once. -/
mutual
def uptoBulk {H : Type} : DataW H → Nat
  | .lit (.string bytes) => bytes.length + 1
  | .lit _ => 1
  | .nil => 1
  | .ptr d => uptoBulk d + 1
  | .slice elems spare => uptoBulkAll elems + uptoBulkAll spare + 1
  | .agg parts => uptoBulkAll parts + 1
  | .iface _ d => uptoBulk d + 1
  | .map entries => uptoBulkEntries entries + 1
  | .held _ => 1
def uptoBulkAll {H : Type} : List (DataW H) → Nat
  | [] => 0
  | d :: r => uptoBulk d + uptoBulkAll r
def uptoBulkEntries {H : Type} : List (Lit × DataW H) → Nat
  | [] => 0
  | x :: r => uptoBulkEntry x + uptoBulkEntries r
def uptoBulkEntry {H : Type} : Lit × DataW H → Nat
  | (.string bytes, d) => bytes.length + uptoBulk d + 1
  | (_, d) => uptoBulk d + 1
 end
def uptoSmall : (H : Type) → List (DataW H) → Bool := fun _ ds => decide (uptoBulkAll ds ≤ 1048576)
def OpenSpec.upto (s : _root_.Go.ChangeSpec) : _root_.Go.OpenSpec := { _root_.Go.OpenSpec.ofChange s with cond := some uptoSmall }

/-- 'tollgatelaw01.WordKinds', WHERE WHAT IT READS IS OF BULK AT MOST 1048576: true; the input reads as it did. -/
def wordKindsUptoRow : OpenClaim := { program := "ytmodaefcipchpaa", sum := "17fc8a4f9d6935ebdb00039679eebcd8e18b2316da7cb80ac7de67a4291729a4", func := "tollgate/tollgatelaw01.WordKinds", spec := "wordKinds", unfollowed := true, recurses := true, apart := false, narrowed := true }
def WordKindsUptoSaid : Prop := wordKindsUptoRow.holds Try.pinned (OpenSpec.upto wordKindsSpec)

/-- 'tollgatelaw01.WordChars', WHERE WHAT IT READS IS OF BULK AT MOST 1048576: true; the input reads as it did. -/
def wordCharsUptoRow : OpenClaim := { program := "ytmodaefcipchpaa", sum := "17fc8a4f9d6935ebdb00039679eebcd8e18b2316da7cb80ac7de67a4291729a4", func := "tollgate/tollgatelaw01.WordChars", spec := "wordChars", apart := false, narrowed := true }
def WordCharsUptoSaid : Prop := wordCharsUptoRow.holds Try.pinned (OpenSpec.upto wordCharsSpec)

/-- 'tollgatelaw01.WordQuotes', WHERE WHAT IT READS IS OF BULK AT MOST 1048576: true; the input reads as it did. -/
def wordQuotesUptoRow : OpenClaim := { program := "ytmodaefcipchpaa", sum := "17fc8a4f9d6935ebdb00039679eebcd8e18b2316da7cb80ac7de67a4291729a4", func := "tollgate/tollgatelaw01.WordQuotes", spec := "wordQuotes", inPlace := ["internal/bytealg.IndexByteString"], unfollowed := true, recurses := true, apart := false, narrowed := true }
def WordQuotesUptoSaid : Prop := wordQuotesUptoRow.holds Try.pinned (OpenSpec.upto wordQuotesSpec)

end Rows
end Go.Proofs.Ytmodaefcipchpaa

/-
  No cell of these rows narrows 'for every input' (looked for: loops, veiled, ifaces, maps, wideKeys, modest, calm, conditions, laid).
  DERIVED. THE GIVEN ROWS OF THIS SEAT. 4 by the template 'for every input the law returns true; each argument reads behind the call as it read before'; 0 by the template 'total and deterministic' (their statements: YthlmjnlakenmoaaTotals.lean).
  GIVEN WITH THE SEED: the statements are not yours to turn. If you find one false, say at which input.
  Laid BY PROGRAM, IN A SANDBOX (cutbox-rows.mjs): the forced cells as the released guide's own fill.sh prints them over the translation 9d21785862e0eee7… (all of the seat's roots in one cut). By AI agents, Wed Nov 11 2026. No macro, syntax, notation, axiom, sorry.
-/
import Derived.Test.YthlmjnlakenmoaaChecked
import GoSem.Claim
import GoSem.ClaimJoined
import GoSem.ClaimMapViews
import Derived.JoinedTies
import Derived.KernelRfl
namespace Go.Proofs.Ythlmjnlakenmoaa
/- THE CELL 'sum', in the pinned program and in every row, IS THE sha256 OF THE DUMP (.gsa) THAT YthlmjnlakenmoaaProg.lean LOADS. Nothing in Lean hashes anything: it is a label: what it is worth is what the hold of that sum in a sandbox is worth. -/
noncomputable def Try.pinned : Pinned := { name := "ythlmjnlakenmoaa", sum := "9d21785862e0eee74bbf55d4c83f233dafb5fb18c3a103a9e1b9c61e3a6ace7c", checked := Try.checked }
namespace Rows
def none {H : Type} : Left H := { results := [], args := [] }

/-- 'tollgatelaw04.PagerPlays': WHATEVER THE INPUT: true; the input reads as it did. -/
def pagerPlaysSpec : ChangeSpec := { name := "pagerPlays", fn := fun _ => fun
  | [d1, d2] => { results := [.lit (.bool true)], args := [d1, d2] }
  | _ => none }
def pagerPlaysRow : OpenClaim := { program := "ythlmjnlakenmoaa", sum := "9d21785862e0eee74bbf55d4c83f233dafb5fb18c3a103a9e1b9c61e3a6ace7c", func := "tollgate/tollgatelaw04.PagerPlays", spec := "pagerPlays", unfollowed := true, recurses := true, apart := false }
def PagerPlaysSaid : Prop := pagerPlaysRow.holds Try.pinned (OpenSpec.ofChange pagerPlaysSpec)

/-- ITS FALSE NEIGHBOUR: 'it returns false'. Refute it at one input. -/
def pagerPlaysWrong : ChangeSpec := { name := "pagerPlays", fn := fun _ => fun
  | [d1, d2] => { results := [.lit (.bool false)], args := [d1, d2] }
  | _ => none }
def PagerPlaysWrongFalsely : Prop := pagerPlaysRow.holds Try.pinned (OpenSpec.ofChange pagerPlaysWrong)

/-- 'tollgatelaw04.PagerNames': WHATEVER THE INPUT: true; the input reads as it did. -/
def pagerNamesSpec : ChangeSpec := { name := "pagerNames", fn := fun _ => fun
  | [] => { results := [.lit (.bool true)], args := [] }
  | _ => none }
def pagerNamesRow : OpenClaim := { program := "ythlmjnlakenmoaa", sum := "9d21785862e0eee74bbf55d4c83f233dafb5fb18c3a103a9e1b9c61e3a6ace7c", func := "tollgate/tollgatelaw04.PagerNames", spec := "pagerNames", unfollowed := true, recurses := true, apart := false }
def PagerNamesSaid : Prop := pagerNamesRow.holds Try.pinned (OpenSpec.ofChange pagerNamesSpec)

/-- ITS FALSE NEIGHBOUR: 'it returns false'. Refute it at one input. -/
def pagerNamesWrong : ChangeSpec := { name := "pagerNames", fn := fun _ => fun
  | [] => { results := [.lit (.bool false)], args := [] }
  | _ => none }
def PagerNamesWrongFalsely : Prop := pagerNamesRow.holds Try.pinned (OpenSpec.ofChange pagerNamesWrong)

/-- 'tollgatelaw04.PagerCrash': WHATEVER THE INPUT: true; the input reads as it did. -/
def pagerCrashSpec : ChangeSpec := { name := "pagerCrash", fn := fun _ => fun
  | [d1, d2, d3] => { results := [.lit (.bool true)], args := [d1, d2, d3] }
  | _ => none }
def pagerCrashRow : OpenClaim := { program := "ythlmjnlakenmoaa", sum := "9d21785862e0eee74bbf55d4c83f233dafb5fb18c3a103a9e1b9c61e3a6ace7c", func := "tollgate/tollgatelaw04.PagerCrash", spec := "pagerCrash", unfollowed := true, recurses := true, apart := false }
def PagerCrashSaid : Prop := pagerCrashRow.holds Try.pinned (OpenSpec.ofChange pagerCrashSpec)

/-- ITS FALSE NEIGHBOUR: 'it returns false'. Refute it at one input. -/
def pagerCrashWrong : ChangeSpec := { name := "pagerCrash", fn := fun _ => fun
  | [d1, d2, d3] => { results := [.lit (.bool false)], args := [d1, d2, d3] }
  | _ => none }
def PagerCrashWrongFalsely : Prop := pagerCrashRow.holds Try.pinned (OpenSpec.ofChange pagerCrashWrong)

/-- 'tollgatelaw04.PagerApart': WHATEVER THE INPUT: true; the input reads as it did. -/
def pagerApartSpec : ChangeSpec := { name := "pagerApart", fn := fun _ => fun
  | [d1, d2, d3, d4] => { results := [.lit (.bool true)], args := [d1, d2, d3, d4] }
  | _ => none }
def pagerApartRow : OpenClaim := { program := "ythlmjnlakenmoaa", sum := "9d21785862e0eee74bbf55d4c83f233dafb5fb18c3a103a9e1b9c61e3a6ace7c", func := "tollgate/tollgatelaw04.PagerApart", spec := "pagerApart", unfollowed := true, recurses := true, apart := false }
def PagerApartSaid : Prop := pagerApartRow.holds Try.pinned (OpenSpec.ofChange pagerApartSpec)

/-- ITS FALSE NEIGHBOUR: 'it returns false'. Refute it at one input. -/
def pagerApartWrong : ChangeSpec := { name := "pagerApart", fn := fun _ => fun
  | [d1, d2, d3, d4] => { results := [.lit (.bool false)], args := [d1, d2, d3, d4] }
  | _ => none }
def PagerApartWrongFalsely : Prop := pagerApartRow.holds Try.pinned (OpenSpec.ofChange pagerApartWrong)

/- THE SECOND FORM. 'bulk': how many values and letters a reading holds, each counted each time it is reached (what is shared counts as often as it is met; a slice's spare places count too). A statement '..UptoSaid' is the law's where the arguments, and the package variables that the reading takes, are together of bulk at most 1048576: NARROWER than '..Said'. Prove '..Said' where nothing that the law and all that it calls make is longer than what came in: it says more and counts as full. Else prove '..UptoSaid'. A law counts once. -/
mutual
def uptoBulk {H : Type} : DataW H → Nat
  | .lit (.string bytes) => bytes.length + 1
  | .lit _ => 1
  | .nil => 1
  | .ptr d => uptoBulk d + 1
  | .slice elems spare => uptoBulkAll elems + uptoBulkAll spare + 1
  | .agg parts => uptoBulkAll parts + 1
  | .iface _ d => uptoBulk d + 1
  | .map entries => uptoBulkEntries entries + 1
  | .held _ => 1
def uptoBulkAll {H : Type} : List (DataW H) → Nat
  | [] => 0
  | d :: r => uptoBulk d + uptoBulkAll r
def uptoBulkEntries {H : Type} : List (Lit × DataW H) → Nat
  | [] => 0
  | x :: r => uptoBulkEntry x + uptoBulkEntries r
def uptoBulkEntry {H : Type} : Lit × DataW H → Nat
  | (.string bytes, d) => bytes.length + uptoBulk d + 1
  | (_, d) => uptoBulk d + 1
 end
def uptoSmall : (H : Type) → List (DataW H) → Bool := fun _ ds => decide (uptoBulkAll ds ≤ 1048576)
def OpenSpec.upto (s : _root_.Go.ChangeSpec) : _root_.Go.OpenSpec := { _root_.Go.OpenSpec.ofChange s with cond := some uptoSmall }

/-- 'tollgatelaw04.PagerPlays', WHERE WHAT IT READS IS OF BULK AT MOST 1048576: true; the input reads as it did. -/
def pagerPlaysUptoRow : OpenClaim := { program := "ythlmjnlakenmoaa", sum := "9d21785862e0eee74bbf55d4c83f233dafb5fb18c3a103a9e1b9c61e3a6ace7c", func := "tollgate/tollgatelaw04.PagerPlays", spec := "pagerPlays", unfollowed := true, recurses := true, apart := false, narrowed := true }
def PagerPlaysUptoSaid : Prop := pagerPlaysUptoRow.holds Try.pinned (OpenSpec.upto pagerPlaysSpec)

/-- 'tollgatelaw04.PagerNames', WHERE WHAT IT READS IS OF BULK AT MOST 1048576: true; the input reads as it did. -/
def pagerNamesUptoRow : OpenClaim := { program := "ythlmjnlakenmoaa", sum := "9d21785862e0eee74bbf55d4c83f233dafb5fb18c3a103a9e1b9c61e3a6ace7c", func := "tollgate/tollgatelaw04.PagerNames", spec := "pagerNames", unfollowed := true, recurses := true, apart := false, narrowed := true }
def PagerNamesUptoSaid : Prop := pagerNamesUptoRow.holds Try.pinned (OpenSpec.upto pagerNamesSpec)

/-- 'tollgatelaw04.PagerCrash', WHERE WHAT IT READS IS OF BULK AT MOST 1048576: true; the input reads as it did. -/
def pagerCrashUptoRow : OpenClaim := { program := "ythlmjnlakenmoaa", sum := "9d21785862e0eee74bbf55d4c83f233dafb5fb18c3a103a9e1b9c61e3a6ace7c", func := "tollgate/tollgatelaw04.PagerCrash", spec := "pagerCrash", unfollowed := true, recurses := true, apart := false, narrowed := true }
def PagerCrashUptoSaid : Prop := pagerCrashUptoRow.holds Try.pinned (OpenSpec.upto pagerCrashSpec)

/-- 'tollgatelaw04.PagerApart', WHERE WHAT IT READS IS OF BULK AT MOST 1048576: true; the input reads as it did. -/
def pagerApartUptoRow : OpenClaim := { program := "ythlmjnlakenmoaa", sum := "9d21785862e0eee74bbf55d4c83f233dafb5fb18c3a103a9e1b9c61e3a6ace7c", func := "tollgate/tollgatelaw04.PagerApart", spec := "pagerApart", unfollowed := true, recurses := true, apart := false, narrowed := true }
def PagerApartUptoSaid : Prop := pagerApartUptoRow.holds Try.pinned (OpenSpec.upto pagerApartSpec)

end Rows
end Go.Proofs.Ythlmjnlakenmoaa

/-
  No cell of these rows narrows 'for every input' (looked for: loops, veiled, ifaces, maps, wideKeys, modest, calm, conditions, laid).
  DERIVED. THE GIVEN ROWS OF THIS SEAT. 7 by the template 'for every input the law returns true; each argument reads behind the call as it read before'; 0 by the template 'total and deterministic' (their statements: YtnghpklegomaeaaTotals.lean).
  GIVEN WITH THE SEED: the statements are not yours to turn. If you find one false, say at which input.
  Laid BY PROGRAM, IN A SANDBOX (cutbox-rows.mjs): the forced cells as the released guide's own fill.sh prints them over the translation c53937a91467a393… (all of the seat's roots in one cut). By AI agents, Wed Nov 11 2026. No macro, syntax, notation, axiom, sorry.
-/
import Derived.Test.YtnghpklegomaeaaChecked
import GoSem.Claim
import GoSem.ClaimJoined
import GoSem.ClaimMapViews
import Derived.JoinedTies
import Derived.KernelRfl
namespace Go.Proofs.Ytnghpklegomaeaa
/- THE CELL 'sum', in the pinned program and in every row, IS THE sha256 OF THE DUMP (.gsa) THAT YtnghpklegomaeaaProg.lean LOADS. Nothing in Lean hashes anything: it is a label: what it is worth is what the hold of that sum in a sandbox is worth. -/
noncomputable def Try.pinned : Pinned := { name := "ytnghpklegomaeaa", sum := "c53937a91467a393da9889a51bc337c4a0bf559eaf8efbed2b17d7342ffb93ac", checked := Try.checked }
namespace Rows
def none {H : Type} : Left H := { results := [], args := [] }

/-- 'tollgatelaw03.PageNames': WHATEVER THE INPUT: true; the input reads as it did. -/
def pageNamesSpec : ChangeSpec := { name := "pageNames", fn := fun _ => fun
  | [] => { results := [.lit (.bool true)], args := [] }
  | _ => none }
def pageNamesRow : OpenClaim := { program := "ytnghpklegomaeaa", sum := "c53937a91467a393da9889a51bc337c4a0bf559eaf8efbed2b17d7342ffb93ac", func := "tollgate/tollgatelaw03.PageNames", spec := "pageNames", unfollowed := true, recurses := true, apart := false }
def PageNamesSaid : Prop := pageNamesRow.holds Try.pinned (OpenSpec.ofChange pageNamesSpec)

/-- ITS FALSE NEIGHBOUR: 'it returns false'. Refute it at one input. -/
def pageNamesWrong : ChangeSpec := { name := "pageNames", fn := fun _ => fun
  | [] => { results := [.lit (.bool false)], args := [] }
  | _ => none }
def PageNamesWrongFalsely : Prop := pageNamesRow.holds Try.pinned (OpenSpec.ofChange pageNamesWrong)

/-- 'tollgatelaw03.PageWrites': WHATEVER THE INPUT: true; the input reads as it did. -/
def pageWritesSpec : ChangeSpec := { name := "pageWrites", fn := fun _ => fun
  | [d1, d2] => { results := [.lit (.bool true)], args := [d1, d2] }
  | _ => none }
def pageWritesRow : OpenClaim := { program := "ytnghpklegomaeaa", sum := "c53937a91467a393da9889a51bc337c4a0bf559eaf8efbed2b17d7342ffb93ac", func := "tollgate/tollgatelaw03.PageWrites", spec := "pageWrites", unfollowed := true, recurses := true, apart := false }
def PageWritesSaid : Prop := pageWritesRow.holds Try.pinned (OpenSpec.ofChange pageWritesSpec)

/-- ITS FALSE NEIGHBOUR: 'it returns false'. Refute it at one input. -/
def pageWritesWrong : ChangeSpec := { name := "pageWrites", fn := fun _ => fun
  | [d1, d2] => { results := [.lit (.bool false)], args := [d1, d2] }
  | _ => none }
def PageWritesWrongFalsely : Prop := pageWritesRow.holds Try.pinned (OpenSpec.ofChange pageWritesWrong)

/-- 'tollgatelaw03.PageReads': WHATEVER THE INPUT: true; the input reads as it did. -/
def pageReadsSpec : ChangeSpec := { name := "pageReads", fn := fun _ => fun
  | [d1, d2] => { results := [.lit (.bool true)], args := [d1, d2] }
  | _ => none }
def pageReadsRow : OpenClaim := { program := "ytnghpklegomaeaa", sum := "c53937a91467a393da9889a51bc337c4a0bf559eaf8efbed2b17d7342ffb93ac", func := "tollgate/tollgatelaw03.PageReads", spec := "pageReads", unfollowed := true, recurses := true, apart := false }
def PageReadsSaid : Prop := pageReadsRow.holds Try.pinned (OpenSpec.ofChange pageReadsSpec)

/-- ITS FALSE NEIGHBOUR: 'it returns false'. Refute it at one input. -/
def pageReadsWrong : ChangeSpec := { name := "pageReads", fn := fun _ => fun
  | [d1, d2] => { results := [.lit (.bool false)], args := [d1, d2] }
  | _ => none }
def PageReadsWrongFalsely : Prop := pageReadsRow.holds Try.pinned (OpenSpec.ofChange pageReadsWrong)

/-- 'tollgatelaw03.PageBack': WHATEVER THE INPUT: true; the input reads as it did. -/
def pageBackSpec : ChangeSpec := { name := "pageBack", fn := fun _ => fun
  | [d1, d2, d3] => { results := [.lit (.bool true)], args := [d1, d2, d3] }
  | _ => none }
def pageBackRow : OpenClaim := { program := "ytnghpklegomaeaa", sum := "c53937a91467a393da9889a51bc337c4a0bf559eaf8efbed2b17d7342ffb93ac", func := "tollgate/tollgatelaw03.PageBack", spec := "pageBack", unfollowed := true, recurses := true, apart := false }
def PageBackSaid : Prop := pageBackRow.holds Try.pinned (OpenSpec.ofChange pageBackSpec)

/-- ITS FALSE NEIGHBOUR: 'it returns false'. Refute it at one input. -/
def pageBackWrong : ChangeSpec := { name := "pageBack", fn := fun _ => fun
  | [d1, d2, d3] => { results := [.lit (.bool false)], args := [d1, d2, d3] }
  | _ => none }
def PageBackWrongFalsely : Prop := pageBackRow.holds Try.pinned (OpenSpec.ofChange pageBackWrong)

/-- 'tollgatelaw03.PageByte': WHATEVER THE INPUT: true; the input reads as it did. -/
def pageByteSpec : ChangeSpec := { name := "pageByte", fn := fun _ => fun
  | [d1, d2, d3, d4] => { results := [.lit (.bool true)], args := [d1, d2, d3, d4] }
  | _ => none }
def pageByteRow : OpenClaim := { program := "ytnghpklegomaeaa", sum := "c53937a91467a393da9889a51bc337c4a0bf559eaf8efbed2b17d7342ffb93ac", func := "tollgate/tollgatelaw03.PageByte", spec := "pageByte", unfollowed := true, recurses := true, apart := false }
def PageByteSaid : Prop := pageByteRow.holds Try.pinned (OpenSpec.ofChange pageByteSpec)

/-- ITS FALSE NEIGHBOUR: 'it returns false'. Refute it at one input. -/
def pageByteWrong : ChangeSpec := { name := "pageByte", fn := fun _ => fun
  | [d1, d2, d3, d4] => { results := [.lit (.bool false)], args := [d1, d2, d3, d4] }
  | _ => none }
def PageByteWrongFalsely : Prop := pageByteRow.holds Try.pinned (OpenSpec.ofChange pageByteWrong)

/-- 'tollgatelaw03.PageNumber': WHATEVER THE INPUT: true; the input reads as it did. -/
def pageNumberSpec : ChangeSpec := { name := "pageNumber", fn := fun _ => fun
  | [d1, d2, d3, d4] => { results := [.lit (.bool true)], args := [d1, d2, d3, d4] }
  | _ => none }
def pageNumberRow : OpenClaim := { program := "ytnghpklegomaeaa", sum := "c53937a91467a393da9889a51bc337c4a0bf559eaf8efbed2b17d7342ffb93ac", func := "tollgate/tollgatelaw03.PageNumber", spec := "pageNumber", unfollowed := true, recurses := true, apart := false }
def PageNumberSaid : Prop := pageNumberRow.holds Try.pinned (OpenSpec.ofChange pageNumberSpec)

/-- ITS FALSE NEIGHBOUR: 'it returns false'. Refute it at one input. -/
def pageNumberWrong : ChangeSpec := { name := "pageNumber", fn := fun _ => fun
  | [d1, d2, d3, d4] => { results := [.lit (.bool false)], args := [d1, d2, d3, d4] }
  | _ => none }
def PageNumberWrongFalsely : Prop := pageNumberRow.holds Try.pinned (OpenSpec.ofChange pageNumberWrong)

/-- 'tollgatelaw03.PageSteps': WHATEVER THE INPUT: true; the input reads as it did. -/
def pageStepsSpec : ChangeSpec := { name := "pageSteps", fn := fun _ => fun
  | [d1, d2, d3, d4] => { results := [.lit (.bool true)], args := [d1, d2, d3, d4] }
  | _ => none }
def pageStepsRow : OpenClaim := { program := "ytnghpklegomaeaa", sum := "c53937a91467a393da9889a51bc337c4a0bf559eaf8efbed2b17d7342ffb93ac", func := "tollgate/tollgatelaw03.PageSteps", spec := "pageSteps", unfollowed := true, recurses := true, apart := false }
def PageStepsSaid : Prop := pageStepsRow.holds Try.pinned (OpenSpec.ofChange pageStepsSpec)

/-- ITS FALSE NEIGHBOUR: 'it returns false'. Refute it at one input. -/
def pageStepsWrong : ChangeSpec := { name := "pageSteps", fn := fun _ => fun
  | [d1, d2, d3, d4] => { results := [.lit (.bool false)], args := [d1, d2, d3, d4] }
  | _ => none }
def PageStepsWrongFalsely : Prop := pageStepsRow.holds Try.pinned (OpenSpec.ofChange pageStepsWrong)

/- THE SECOND FORM. 'bulk': how many values and letters a reading holds, each counted each time it is reached (what is shared counts as often as it is met; a slice's spare places count too). A statement '..UptoSaid' is the law's where the arguments, and the package variables that the reading takes, are together of bulk at most 1048576: NARROWER than '..Said'. Prove '..Said' where nothing that the law and all that it calls make is longer than what came in: it says more and counts as full. Else prove '..UptoSaid'. A law counts once. -/
mutual
def uptoBulk {H : Type} : DataW H → Nat
  | .lit (.string bytes) => bytes.length + 1
  | .lit _ => 1
  | .nil => 1
  | .ptr d => uptoBulk d + 1
  | .slice elems spare => uptoBulkAll elems + uptoBulkAll spare + 1
  | .agg parts => uptoBulkAll parts + 1
  | .iface _ d => uptoBulk d + 1
  | .map entries => uptoBulkEntries entries + 1
  | .held _ => 1
def uptoBulkAll {H : Type} : List (DataW H) → Nat
  | [] => 0
  | d :: r => uptoBulk d + uptoBulkAll r
def uptoBulkEntries {H : Type} : List (Lit × DataW H) → Nat
  | [] => 0
  | x :: r => uptoBulkEntry x + uptoBulkEntries r
def uptoBulkEntry {H : Type} : Lit × DataW H → Nat
  | (.string bytes, d) => bytes.length + uptoBulk d + 1
  | (_, d) => uptoBulk d + 1
 end
def uptoSmall : (H : Type) → List (DataW H) → Bool := fun _ ds => decide (uptoBulkAll ds ≤ 1048576)
def OpenSpec.upto (s : _root_.Go.ChangeSpec) : _root_.Go.OpenSpec := { _root_.Go.OpenSpec.ofChange s with cond := some uptoSmall }

/-- 'tollgatelaw03.PageNames', WHERE WHAT IT READS IS OF BULK AT MOST 1048576: true; the input reads as it did. -/
def pageNamesUptoRow : OpenClaim := { program := "ytnghpklegomaeaa", sum := "c53937a91467a393da9889a51bc337c4a0bf559eaf8efbed2b17d7342ffb93ac", func := "tollgate/tollgatelaw03.PageNames", spec := "pageNames", unfollowed := true, recurses := true, apart := false, narrowed := true }
def PageNamesUptoSaid : Prop := pageNamesUptoRow.holds Try.pinned (OpenSpec.upto pageNamesSpec)

/-- 'tollgatelaw03.PageWrites', WHERE WHAT IT READS IS OF BULK AT MOST 1048576: true; the input reads as it did. -/
def pageWritesUptoRow : OpenClaim := { program := "ytnghpklegomaeaa", sum := "c53937a91467a393da9889a51bc337c4a0bf559eaf8efbed2b17d7342ffb93ac", func := "tollgate/tollgatelaw03.PageWrites", spec := "pageWrites", unfollowed := true, recurses := true, apart := false, narrowed := true }
def PageWritesUptoSaid : Prop := pageWritesUptoRow.holds Try.pinned (OpenSpec.upto pageWritesSpec)

/-- 'tollgatelaw03.PageReads', WHERE WHAT IT READS IS OF BULK AT MOST 1048576: true; the input reads as it did. -/
def pageReadsUptoRow : OpenClaim := { program := "ytnghpklegomaeaa", sum := "c53937a91467a393da9889a51bc337c4a0bf559eaf8efbed2b17d7342ffb93ac", func := "tollgate/tollgatelaw03.PageReads", spec := "pageReads", unfollowed := true, recurses := true, apart := false, narrowed := true }
def PageReadsUptoSaid : Prop := pageReadsUptoRow.holds Try.pinned (OpenSpec.upto pageReadsSpec)

/-- 'tollgatelaw03.PageBack', WHERE WHAT IT READS IS OF BULK AT MOST 1048576: true; the input reads as it did. -/
def pageBackUptoRow : OpenClaim := { program := "ytnghpklegomaeaa", sum := "c53937a91467a393da9889a51bc337c4a0bf559eaf8efbed2b17d7342ffb93ac", func := "tollgate/tollgatelaw03.PageBack", spec := "pageBack", unfollowed := true, recurses := true, apart := false, narrowed := true }
def PageBackUptoSaid : Prop := pageBackUptoRow.holds Try.pinned (OpenSpec.upto pageBackSpec)

/-- 'tollgatelaw03.PageByte', WHERE WHAT IT READS IS OF BULK AT MOST 1048576: true; the input reads as it did. -/
def pageByteUptoRow : OpenClaim := { program := "ytnghpklegomaeaa", sum := "c53937a91467a393da9889a51bc337c4a0bf559eaf8efbed2b17d7342ffb93ac", func := "tollgate/tollgatelaw03.PageByte", spec := "pageByte", unfollowed := true, recurses := true, apart := false, narrowed := true }
def PageByteUptoSaid : Prop := pageByteUptoRow.holds Try.pinned (OpenSpec.upto pageByteSpec)

/-- 'tollgatelaw03.PageNumber', WHERE WHAT IT READS IS OF BULK AT MOST 1048576: true; the input reads as it did. -/
def pageNumberUptoRow : OpenClaim := { program := "ytnghpklegomaeaa", sum := "c53937a91467a393da9889a51bc337c4a0bf559eaf8efbed2b17d7342ffb93ac", func := "tollgate/tollgatelaw03.PageNumber", spec := "pageNumber", unfollowed := true, recurses := true, apart := false, narrowed := true }
def PageNumberUptoSaid : Prop := pageNumberUptoRow.holds Try.pinned (OpenSpec.upto pageNumberSpec)

/-- 'tollgatelaw03.PageSteps', WHERE WHAT IT READS IS OF BULK AT MOST 1048576: true; the input reads as it did. -/
def pageStepsUptoRow : OpenClaim := { program := "ytnghpklegomaeaa", sum := "c53937a91467a393da9889a51bc337c4a0bf559eaf8efbed2b17d7342ffb93ac", func := "tollgate/tollgatelaw03.PageSteps", spec := "pageSteps", unfollowed := true, recurses := true, apart := false, narrowed := true }
def PageStepsUptoSaid : Prop := pageStepsUptoRow.holds Try.pinned (OpenSpec.upto pageStepsSpec)

end Rows
end Go.Proofs.Ytnghpklegomaeaa

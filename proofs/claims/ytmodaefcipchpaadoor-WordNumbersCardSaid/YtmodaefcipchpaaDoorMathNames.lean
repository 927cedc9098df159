/-
  Closed facts: texts that are no numbers, no UTF-8, no quoted texts; numbers that are no characters.
-/
import Derived.Test.YtmodaefcipchpaaDoorWorks
import Derived.Test.YtmodaefcipchpaaDoorMathBack
namespace Go.Proofs.YtmodaefcipchpaaDoor
open Go.RowKit

/-- a number's form, reckoned by digits -/
def itoaC (v : Int) : List UInt8 := if v < 0 then 45 :: dF 19 v.natAbs else dF 19 v.toNat
theorem itoa_c (v : Int) (h0 : -9223372036854775808 ≤ v) (h1 : v ≤ 9223372036854775807) : Lib.itoa v = itoaC v := by
  unfold Lib.itoa itoaC
  by_cases hn : v < 0
  · rw [if_pos hn, if_pos hn, dF_eq 19 _ (by omega)]
  · rw [if_neg hn, if_neg hn, dF_eq 19 _ (by omega)]
def parseC (l : List UInt8) : Option Int := match Lib.parseIntB 64 l with
  | .ok v => if itoaC v = l then some v else none
  | _ => none
theorem parse_c (l : List UInt8) : Sp.parse l = parseC l := by
  unfold Sp.parse parseC
  cases hp : Lib.parseIntB 64 l
  case ok v =>
    obtain ⟨h0, h1⟩ := Sp.parse_bounds l v hp
    show (if Lib.itoa v = l then some v else none) = if itoaC v = l then some v else none
    rw [itoa_c v h0 h1]
  all_goals rfl

def badNums : List (List UInt8) := ["9223372036854775808", "-9223372036854775809", "-0", "01", "+1", "", "-", "1 ", "00"].map fun s => s.toUTF8.data.toList
def badNum (k : Nat) : ByteArray := ⟨(badNums.getD k []).toArray⟩
theorem bad_parse : ∀ k : Fin 9, parseC (badNums.getD k.val []) = none := by decide +kernel
theorem bad_num (k : Nat) (h : k < 9) : Sp.parse (badNum k).data.toList = none := by
  rw [parse_c]
  show parseC ((badNums.getD k []).toArray.toList) = none
  rw [List.toList_toArray]
  exact bad_parse ⟨k, h⟩
def badChars : List Int := [-1, 55296, 57343, 1114112, 1099511627776]
theorem bad_char : ∀ k : Fin 5, Sp.charOk (badChars.getD k.val 0) = false ∧ Sp.charBytes (badChars.getD k.val 0) = [] := by decide +kernel
def badUtfs : List (List UInt8) := [[0xc0, 0x80], [0xed, 0xa0, 0x80], [0xe9], [0xf4, 0x90, 0x80, 0x80], [0x80], [97, 0xff]]
def badUtf (k : Nat) : ByteArray := ⟨(badUtfs.getD k []).toArray⟩
theorem bad_utf : ∀ k : Fin 6, Sp.utf8 (badUtf k.val) = false := by decide +kernel
def badQuotes : List (List UInt8) := [[34, 92, 120, 48, 97, 34], [34, 97], [97], [34, 92, 113, 34], [34, 92, 120, 52, 34], [34, 92, 120, 52, 49, 34], [34, 92, 120, 70, 70, 34], [34, 34, 34], [34], [34, 92, 34], [34, 10, 34]]
def badQuote (k : Nat) : ByteArray := ⟨(badQuotes.getD k []).toArray⟩
theorem bad_quote : ∀ k : Fin 11, Sp.unquote (badQuote k.val) = none := by decide +kernel
def least : ByteArray := "-9223372036854775808".toUTF8
def most : ByteArray := "9223372036854775807".toUTF8
theorem least_parse : Sp.parse least.data.toList = some (-9223372036854775808) := by rw [parse_c]; decide +kernel
theorem most_parse : Sp.parse most.data.toList = some 9223372036854775807 := by rw [parse_c]; decide +kernel
theorem least_form : Lib.itoa (-9223372036854775808) = least.data.toList := by rw [itoa_c _ (by decide) (by decide)]; decide +kernel
end Go.Proofs.YtmodaefcipchpaaDoor

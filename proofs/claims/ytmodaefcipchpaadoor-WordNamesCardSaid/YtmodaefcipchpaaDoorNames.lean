/-
  WordNames (closed): the limits are where the document has them. The library's table and its two errors are as its own text lays them (the card ties them).
-/
import Derived.Test.YtmodaefcipchpaaDoorWorks
import Derived.Test.YtmodaefcipchpaaDoorLaid
import Derived.Test.YtmodaefcipchpaaDoorMathNames
import Derived.ShutString
namespace Go.Proofs.YtmodaefcipchpaaDoor.names
open Go.ChangeShapes Go.WideShapes Go.ChangeAt Go.RowKit
open Go.ChangeMaps (open_string shut_string)

theorem nm (s : ByteArray) (b : Bool) (h : Sp.nameB s = b) (hs : s.size ≤ maxLen) (w : World) :
    Calls Tryd.prog 7 #[.string s] w fun e w' => e = .returned (.bool b) ∧ Below w.heap.size w w' := by
  subst h; exact name_any s w hs
theorem keep {w wx w' : World} (h : Below w.heap.size w wx) (hb : Below wx.heap.size wx w') : Below w.heap.size w w' := h.trans (hb.mono h.size)

def rowNum : Array Value := #[.string ⟨#[57, 50, 50, 51, 51, 55, 50, 48, 51, 54, 56, 53, 52, 55, 55, 53, 56, 48, 56]⟩, .string ⟨#[45, 57, 50, 50, 51, 51, 55, 50, 48, 51, 54, 56, 53, 52, 55, 55, 53, 56, 48, 57]⟩, .string ⟨#[45, 48]⟩, .string ⟨#[48, 49]⟩, .string ⟨#[43, 49]⟩, .string ⟨#[]⟩, .string ⟨#[45]⟩, .string ⟨#[49, 32]⟩, .string ⟨#[48, 48]⟩]
def rowChar : Array Value := #[.int .i64 (-1), .int .i64 55296, .int .i64 57343, .int .i64 1114112, .int .i64 1099511627776]
def rowUtf : Array Value := #[.string ⟨#[192, 128]⟩, .string ⟨#[237, 160, 128]⟩, .string ⟨#[233]⟩, .string ⟨#[244, 144, 128, 128]⟩, .string ⟨#[128]⟩, .string ⟨#[97, 255]⟩]
def rowQuote : Array Value := #[.string ⟨#[34, 92, 120, 48, 97, 34]⟩, .string ⟨#[34, 97]⟩, .string ⟨#[97]⟩, .string ⟨#[34, 92, 113, 34]⟩, .string ⟨#[34, 92, 120, 52, 34]⟩, .string ⟨#[34, 92, 120, 52, 49, 34]⟩, .string ⟨#[34, 92, 120, 70, 70, 34]⟩, .string ⟨#[34, 34, 34]⟩, .string ⟨#[34]⟩, .string ⟨#[34, 92, 34]⟩, .string ⟨#[34, 10, 34]⟩]
theorem row_num : rowNum = ((List.range 9).map fun k => Value.string (badNum k)).toArray := by kernel_rfl
theorem row_char : rowChar = ((List.range 5).map fun k => Value.int .i64 (badChars.getD k 0)).toArray := by kernel_rfl
theorem row_utf : rowUtf = ((List.range 6).map fun k => Value.string (badUtf k)).toArray := by kernel_rfl
theorem row_quote : rowQuote = ((List.range 11).map fun k => Value.string (badQuote k)).toArray := by kernel_rfl
theorem at_row (f : Nat → Value) (n k : Nat) (h : k < n) : (((List.range n).map f).toArray)[k]? = some (f k) := by
  rw [List.getElem?_toArray, List.getElem?_map, List.getElem?_range h]; rfl
theorem cell_in (wr : World) (B n k : Nat) (cs : Array Value) (t : TypeId) (f : Nat → Value) (h : wr.heap[B]? = some (.cells cs t (0, 0))) (hc : cs = ((List.range n).map f).toArray) (hk : k < n) : wr.cell? ⟨B, k, none⟩ = some (f k) := by
  rw [cell_of_row wr B k cs t (0, 0) h, hc, at_row f n k hk]
theorem row_kept {wx w' : World} {B : Nat} {o : Obj} (h : wx.heap[B]? = some o) (hb : Below wx.heap.size wx w') : w'.heap[B]? = some o := (hb.block B (lt_of_block h)).trans h

theorem c_num (k : Nat) (hk : k < 9) (w : World) (hL : Laid w) : Calls Tryd.prog 8 #[.string (badNum k)] w fun e w' => e = .returned (.tuple #[.int .i64 0, .bool false]) ∧ Below w.heap.size w w' := by
  have hs : ∀ k : Fin 9, (badNum k.val).size ≤ 140737488355328 := by decide +kernel
  have := parse_any (badNum k) w (hs ⟨k, hk⟩) hL
  rw [bad_num k hk] at this
  exact this
theorem c_char (k : Nat) (hk : k < 5) (w : World) : Calls Tryd.prog 10 #[.int .i64 (badChars.getD k 0)] w fun e w' => e = .returned (.tuple #[.string ⟨#[]⟩, .bool false]) ∧ Below w.heap.size w w' := by
  have := char_any (badChars.getD k 0) w
  rw [(bad_char ⟨k, hk⟩).1, (bad_char ⟨k, hk⟩).2] at this
  exact this
theorem c_utf (k : Nat) (hk : k < 6) (w : World) : Calls Tryd.prog 11 #[.string (badUtf k)] w fun e w' => e = .returned (.bool false) ∧ Below w.heap.size w w' := by
  have hs : ∀ k : Fin 6, (badUtf k.val).size ≤ 140737488355328 := by decide +kernel
  have := utf_any (badUtf k) w (hs ⟨k, hk⟩)
  rw [bad_utf ⟨k, hk⟩] at this
  exact this
theorem c_quote (k : Nat) (hk : k < 11) (w : World) : Calls Tryd.prog 12 #[.string (badQuote k)] w fun e w' => e = .returned (.tuple #[.string ⟨#[]⟩, .bool false]) ∧ Below w.heap.size w w' := by
  have hs : ∀ k : Fin 11, (badQuote k.val).size ≤ 140737488355328 := by decide +kernel
  have := unq_any (badQuote k) w (hs ⟨k, hk⟩)
  rw [bad_quote ⟨k, hk⟩] at this
  exact this
theorem c_least (w : World) (hL : Laid w) : Calls Tryd.prog 8 #[.string ⟨#[45, 57, 50, 50, 51, 51, 55, 50, 48, 51, 54, 56, 53, 52, 55, 55, 53, 56, 48, 56]⟩] w fun e w' => e = .returned (.tuple #[.int .i64 (-9223372036854775808), .bool true]) ∧ Below w.heap.size w w' := by
  have h : Sp.parse (ByteArray.mk #[45, 57, 50, 50, 51, 51, 55, 50, 48, 51, 54, 56, 53, 52, 55, 55, 53, 56, 48, 56]).data.toList = some (-9223372036854775808) := by rw [parse_c]; decide +kernel
  have := parse_any ⟨#[45, 57, 50, 50, 51, 51, 55, 50, 48, 51, 54, 56, 53, 52, 55, 55, 53, 56, 48, 56]⟩ w (by decide +kernel) hL
  rw [h] at this
  exact this
theorem c_most (w : World) (hL : Laid w) : Calls Tryd.prog 8 #[.string ⟨#[57, 50, 50, 51, 51, 55, 50, 48, 51, 54, 56, 53, 52, 55, 55, 53, 56, 48, 55]⟩] w fun e w' => e = .returned (.tuple #[.int .i64 9223372036854775807, .bool true]) ∧ Below w.heap.size w w' := by
  have h : Sp.parse (ByteArray.mk #[57, 50, 50, 51, 51, 55, 50, 48, 51, 54, 56, 53, 52, 55, 55, 53, 56, 48, 55]).data.toList = some 9223372036854775807 := by rw [parse_c]; decide +kernel
  have := parse_any ⟨#[57, 50, 50, 51, 51, 55, 50, 48, 51, 54, 56, 53, 52, 55, 55, 53, 56, 48, 55]⟩ w (by decide +kernel) hL
  rw [h] at this
  exact this
theorem c_form (w : World) (hL : Laid w) : Calls Tryd.prog 9 #[.int .i64 (-9223372036854775808)] w fun e w' => e = .returned (.string ⟨#[45, 57, 50, 50, 51, 51, 55, 50, 48, 51, 54, 56, 53, 52, 55, 55, 53, 56, 48, 56]⟩) ∧ Below w.heap.size w w' := by
  have h : Lib.itoa (-9223372036854775808) = [45, 57, 50, 50, 51, 51, 55, 50, 48, 51, 54, 56, 53, 52, 55, 55, 53, 56, 48, 56] := by rw [itoa_c _ (by decide) (by decide)]; decide +kernel
  have := number_any (-9223372036854775808) w (by decide) (by decide) hL
  rw [h] at this
  exact this
theorem c_far (w : World) : Calls Tryd.prog 13 #[.string ⟨#[97]⟩, .int .i64 1] w fun e w' => e = .returned (.tuple #[.int .i64 0, .int .i64 0, .bool false]) ∧ Below w.heap.size w w' := by
  have h : Sp.decAt ⟨#[97]⟩ 1 = none := by decide +kernel
  have := at_any ⟨#[97]⟩ 1 w (by decide +kernel)
  rw [h] at this
  exact this
theorem c_ahead (w : World) : Calls Tryd.prog 13 #[.string ⟨#[97]⟩, .int .i64 (-1)] w fun e w' => e = .returned (.tuple #[.int .i64 0, .int .i64 0, .bool false]) ∧ Below w.heap.size w w' := by
  have h : Sp.decAt ⟨#[97]⟩ (-1) = none := by decide +kernel
  have := at_any ⟨#[97]⟩ (-1) w (by decide +kernel)
  rw [h] at this
  exact this
theorem c_there (w : World) : Calls Tryd.prog 13 #[.string ⟨#[239, 191, 189]⟩, .int .i64 0] w fun e w' => e = .returned (.tuple #[.int .i64 65533, .int .i64 3, .bool true]) ∧ Below w.heap.size w w' := by
  have h : Sp.decAt ⟨#[239, 191, 189]⟩ 0 = some (65533, 3) := by decide +kernel
  have := at_any ⟨#[239, 191, 189]⟩ 0 w (by decide +kernel)
  rw [h] at this
  exact this
theorem c_quoted (w : World) : Calls Tryd.prog 14 #[.string ⟨#[97, 34, 10, 0]⟩] w fun e w' => e = .returned (.string ⟨#[34, 97, 92, 34, 92, 110, 92, 120, 48, 48, 34]⟩) ∧ Below w.heap.size w w' := by
  have h : strOfNums (Sp.quote ⟨#[97, 34, 10, 0]⟩) = ⟨#[34, 97, 92, 34, 92, 110, 92, 120, 48, 48, 34]⟩ := by decide +kernel
  have := quote_any ⟨#[97, 34, 10, 0]⟩ w (by decide +kernel)
  rw [h] at this
  exact this

set_option maxHeartbeats 1600000 in
set_option maxRecDepth 100000 in
theorem names_any (w : World) (hL : Laid w) :
    Calls Tryd.prog 3 #[] w fun e w' => e = .returned (.bool true) ∧ Below w.heap.size w w' := by
  have HL := Lib.hid hL
  clear hL
  go_enter Tryd.func3, Tryd.ntmps3
  go_wp2_with fail
  refine (works_any _ HL.out).mono ?_
  rintro e w1 ⟨rfl, hb⟩
  have Hb := Lib.hid hb
  clear hb
  go_wp2_with fail
  refine (nm _ true (by decide +kernel) (by unfold maxLen; decide +kernel) _).mono ?_
  rintro e w2 ⟨rfl, hb⟩
  have Hb := Lib.hid (keep Hb.out hb)
  clear hb
  go_wp2_with fail
  refine (nm _ false (by decide +kernel) (by unfold maxLen; decide +kernel) _).mono ?_
  rintro e w3 ⟨rfl, hb⟩
  have Hb := Lib.hid (keep Hb.out hb)
  clear hb
  go_wp2_with fail
  refine (nm _ false (by decide +kernel) (by unfold maxLen; decide +kernel) _).mono ?_
  rintro e w4 ⟨rfl, hb⟩
  have Hb := Lib.hid (keep Hb.out hb)
  clear hb
  go_wp2_with fail
  refine (nm _ false (by decide +kernel) (by unfold maxLen; decide +kernel) _).mono ?_
  rintro e w5 ⟨rfl, hb⟩
  have Hb := Lib.hid (keep Hb.out hb)
  clear hb
  go_wp2_with fail
  refine (nm _ false (by decide +kernel) (by unfold maxLen; decide +kernel) _).mono ?_
  rintro e w6 ⟨rfl, hb⟩
  have Hb := Lib.hid (keep Hb.out hb)
  clear hb
  go_wp2_with fail
  refine (nm _ true (by decide +kernel) (by unfold maxLen; decide +kernel) _).mono ?_
  rintro e w7 ⟨rfl, hb⟩
  have Hb := Lib.hid (keep Hb.out hb)
  clear hb
  go_wp2_with fail
  go_loopw [56] (fun i wr1 => ∃ k : Nat, k ≤ 9 ∧ i = .int .i64 k ∧ Below w.heap.size w wr1 ∧ wr1.heap[w7.heap.size]? = some (.cells rowNum 9 (0, 0))) (fun i _ => 9 - (intOf i).toNat)
  case atStart => exact ⟨0, Nat.zero_le _, rfl, Hb.out.alloc Hb.out.size _, heap_alloc_last w7 _⟩
  case round =>
    rename World => wr1
    obtain ⟨k, hk, rfl, hb, hrow⟩ := hrel
    have Hb := Lib.hid hb
    have Hrow := Lib.hid hrow
    clear hb hrow
    by_cases hlt : k < 9
    · have hc : wr1.cell? ⟨w7.heap.size, k, none⟩ = some (Value.string (badNum k)) := cell_in wr1 w7.heap.size 9 k rowNum _ (fun k => Value.string (badNum k)) Hrow.out row_num hlt
      have hcall := c_num k hlt
      generalize badNum k = v at hc hcall
      have Hcall := Lib.hid hcall
      clear hcall
      have hi0 : (0 : Int) ≤ (k : Int) := by omega
      have hi1 : (k : Int) < 9 := by omega
      go_wp2_with fail
      refine (Hcall.out _ (HL.out.below Hb.out)).mono ?_
      rintro e wq ⟨rfl, hb⟩
      have hrow := row_kept Hrow.out hb
      have Hrow := Lib.hid hrow
      have Hb := Lib.hid (keep Hb.out hb)
      clear hb hrow
      go_wp2_with fail
      go_roundw
      case rel => exact ⟨k + 1, by omega, by go_num, Hb.out, Hrow.out⟩
      case measure => simp [intOf]; omega
    · clear Hrow
      go_wp2_with fail
      refine (c_least _ (HL.out.below Hb.out)).mono ?_
      rintro e w8 ⟨rfl, hb⟩
      have Hb := Lib.hid (keep Hb.out hb)
      clear hb
      go_wp2_with fail
      refine (c_most _ (HL.out.below Hb.out)).mono ?_
      rintro e w9 ⟨rfl, hb⟩
      have Hb := Lib.hid (keep Hb.out hb)
      clear hb
      go_wp2_with fail
      refine (c_form _ (HL.out.below Hb.out)).mono ?_
      rintro e w10 ⟨rfl, hb⟩
      have Hb := Lib.hid (keep Hb.out hb)
      clear hb
      go_wp2_with fail
      go_loopw [96] (fun i wr2 => ∃ k : Nat, k ≤ 5 ∧ i = .int .i64 k ∧ Below w.heap.size w wr2 ∧ wr2.heap[w10.heap.size]? = some (.cells rowChar 3 (0, 0))) (fun i _ => 5 - (intOf i).toNat)
      case atStart => exact ⟨0, Nat.zero_le _, rfl, Hb.out.alloc Hb.out.size _, heap_alloc_last w10 _⟩
      case round =>
        rename World => wr2
        obtain ⟨k, hk, rfl, hb, hrow⟩ := hrel
        have Hb := Lib.hid hb
        have Hrow := Lib.hid hrow
        clear hb hrow
        by_cases hlt : k < 5
        · have hc : wr2.cell? ⟨w10.heap.size, k, none⟩ = some (Value.int .i64 (badChars.getD k 0)) := cell_in wr2 w10.heap.size 5 k rowChar _ (fun k => Value.int .i64 (badChars.getD k 0)) Hrow.out row_char hlt
          have hcall := c_char k hlt
          generalize badChars.getD k 0 = v at hc hcall
          have Hcall := Lib.hid hcall
          clear hcall
          have hi0 : (0 : Int) ≤ (k : Int) := by omega
          have hi1 : (k : Int) < 5 := by omega
          go_wp2_with fail
          refine (Hcall.out _).mono ?_
          rintro e wq ⟨rfl, hb⟩
          have hrow := row_kept Hrow.out hb
          have Hrow := Lib.hid hrow
          have Hb := Lib.hid (keep Hb.out hb)
          clear hb hrow
          go_wp2_with fail
          go_roundw
          case rel => exact ⟨k + 1, by omega, by go_num, Hb.out, Hrow.out⟩
          case measure => simp [intOf]; omega
        · clear Hrow
          go_wp2_with fail
          go_loopw [109] (fun i wr3 => ∃ k : Nat, k ≤ 6 ∧ i = .int .i64 k ∧ Below w.heap.size w wr3 ∧ wr3.heap[wr2.heap.size]? = some (.cells rowUtf 9 (0, 0))) (fun i _ => 6 - (intOf i).toNat)
          case atStart => exact ⟨0, Nat.zero_le _, rfl, Hb.out.alloc Hb.out.size _, heap_alloc_last wr2 _⟩
          case round =>
            rename World => wr3
            obtain ⟨k, hk, rfl, hb, hrow⟩ := hrel
            have Hb := Lib.hid hb
            have Hrow := Lib.hid hrow
            clear hb hrow
            by_cases hlt : k < 6
            · have hc : wr3.cell? ⟨wr2.heap.size, k, none⟩ = some (Value.string (badUtf k)) := cell_in wr3 wr2.heap.size 6 k rowUtf _ (fun k => Value.string (badUtf k)) Hrow.out row_utf hlt
              have hcall := c_utf k hlt
              generalize badUtf k = v at hc hcall
              have Hcall := Lib.hid hcall
              clear hcall
              have hi0 : (0 : Int) ≤ (k : Int) := by omega
              have hi1 : (k : Int) < 6 := by omega
              go_wp2_with fail
              refine (Hcall.out _).mono ?_
              rintro e wq ⟨rfl, hb⟩
              have hrow := row_kept Hrow.out hb
              have Hrow := Lib.hid hrow
              have Hb := Lib.hid (keep Hb.out hb)
              clear hb hrow
              go_wp2_with fail
              go_roundw
              case rel => exact ⟨k + 1, by omega, by go_num, Hb.out, Hrow.out⟩
              case measure => simp [intOf]; omega
            · clear Hrow
              go_wp2_with fail
              go_loopw [118] (fun i wr4 => ∃ k : Nat, k ≤ 11 ∧ i = .int .i64 k ∧ Below w.heap.size w wr4 ∧ wr4.heap[wr3.heap.size]? = some (.cells rowQuote 9 (0, 0))) (fun i _ => 11 - (intOf i).toNat)
              case atStart => exact ⟨0, Nat.zero_le _, rfl, Hb.out.alloc Hb.out.size _, heap_alloc_last wr3 _⟩
              case round =>
                rename World => wr4
                obtain ⟨k, hk, rfl, hb, hrow⟩ := hrel
                have Hb := Lib.hid hb
                have Hrow := Lib.hid hrow
                clear hb hrow
                by_cases hlt : k < 11
                · have hc : wr4.cell? ⟨wr3.heap.size, k, none⟩ = some (Value.string (badQuote k)) := cell_in wr4 wr3.heap.size 11 k rowQuote _ (fun k => Value.string (badQuote k)) Hrow.out row_quote hlt
                  have hcall := c_quote k hlt
                  generalize badQuote k = v at hc hcall
                  have Hcall := Lib.hid hcall
                  clear hcall
                  have hi0 : (0 : Int) ≤ (k : Int) := by omega
                  have hi1 : (k : Int) < 11 := by omega
                  go_wp2_with fail
                  refine (Hcall.out _).mono ?_
                  rintro e wq ⟨rfl, hb⟩
                  have hrow := row_kept Hrow.out hb
                  have Hrow := Lib.hid hrow
                  have Hb := Lib.hid (keep Hb.out hb)
                  clear hb hrow
                  go_wp2_with fail
                  go_roundw
                  case rel => exact ⟨k + 1, by omega, by go_num, Hb.out, Hrow.out⟩
                  case measure => simp [intOf]; omega
                · clear Hrow
                  go_wp2_with fail
                  refine (c_far _).mono ?_
                  rintro e w11 ⟨rfl, hb⟩
                  have Hb := Lib.hid (keep Hb.out hb)
                  clear hb
                  go_wp2_with fail
                  refine (c_ahead _).mono ?_
                  rintro e w12 ⟨rfl, hb⟩
                  have Hb := Lib.hid (keep Hb.out hb)
                  clear hb
                  go_wp2_with fail
                  refine (c_there _).mono ?_
                  rintro e w13 ⟨rfl, hb⟩
                  have Hb := Lib.hid (keep Hb.out hb)
                  clear hb
                  go_wp2_with fail
                  refine (c_quoted _).mono ?_
                  rintro e w14 ⟨rfl, hb⟩
                  have Hb := Lib.hid (keep Hb.out hb)
                  clear hb
                  go_wp2_with fail
                  go_ret
                  exact ⟨by first | rfl | simp, Hb.out⟩

theorem contract (H : Type) (enc : TypeId × Value → H) (W : World) (base : Nat) (args : Array Value) (ds gs : List (DataW H)) (before : List MemPlace)
    (hval : ∀ (j : Nat) t v, Tryd.f3.params[j]? = some t → args[j]? = some v → Value.okWide Tryd.prog W .any base t v)
    (hW : DataW.Whole enc Tryd.prog Tryd.f3.params.toList Rows.wordNamesSpec.vars false W args.toList ds gs before) (hL : laidMetH Tryd.prog laidList W) :
    Calls Tryd.prog 3 args W fun e W' => ∃ v, e = .returned v ∧ Rows.wordNamesSpec.post enc Tryd.prog Tryd.f3 false true false false W args v W' := by
  have hW' := hW
  obtain ⟨p, q, hA0, hV, rfl, hfz, hnd⟩ := hW
  have hA : DataW.TrodAll enc Tryd.prog W 0 (fun _ => true) true Tryd.f3.params.toList args.toList ds p := hA0
  rw [Tryd.params3] at hA
  obtain ⟨hz, rfl, rfl⟩ := trodAll_nil hA
  obtain rfl : args = #[] := by cases args; simp_all
  obtain ⟨rfl, rfl⟩ := trodVars_none hV
  clear hA0
  skip
  refine (names_any W (laid_of hL)).mono fun e W' ⟨he, hnx⟩ => ?_
  subst he
  refine ⟨_, rfl, _, _, _, [], [], [], hW', ?_, ?_, rfl, hnx.frame _, fun h => by cases h⟩
  · exact trodAll_cons_mk (shut_bool Tryd.underlying4 _) trodAll_mk0
  · exact trodAll_mk0

theorem reads (os : Os) {H : Type} (enc : TypeId × Value → H) : ∃ places, DataW.whole enc Tryd.prog ((laidWorld os).forCall (fun _ _ => 0) ⟨#[], #[], []⟩).memory Tryd.f3.params.toList Rows.wordNamesSpec.vars false (Array.toList #[]) 8 = some ([], [], places) :=
  ⟨[], by kernel_rfl⟩

set_option maxRecDepth 100000 in
theorem lifted (os : Os) (started : os.Started) (H : Type) (enc : TypeId × Value → H) (F : Stop.Interp) :
    ReturnsInHanded {} Tryd.checked os 3 .any ((OpenSpec.ofChange Rows.wordNamesSpec).preRow enc Tryd.prog Tryd.f3 Rows.wordNamesRow.domain false Rows.wordNamesRow.laid) (((OpenSpec.ofChange Rows.wordNamesSpec).at F).post enc Tryd.prog Tryd.f3 false true false false) := by
  obtain ⟨places, hx⟩ := reads os enc
  refine returnsInHanded_of_row (C := Tryd.checked) (s := (OpenSpec.ofChange Rows.wordNamesSpec)) own started (by kernel_rfl) Tryd.func3
    (witness_row_atRef (enc := enc) (C := Tryd.checked) false (laidWorld os) #[] rfl (by kernel_rfl) (by kernel_rfl) (by kernel_rfl)
      (OpenSpec.preRow_of_cond 8 hx (by kernel_rfl) (fun k hk => by cases hk) (by kernel_rfl) (laid_met os _))) ?_
  intro W base args ds gs before hval hW _ hcond hsz hL _ _
  exact contract H enc W base args ds gs before hval hW hL

theorem said : Rows.WordNamesSaid :=
  OpenClaim.holds_of_cond 3 Tryd.f3 rfl rfl rfl rfl rfl rfl rfl ⟨rfl, rfl, rfl, rfl, rfl⟩ rfl rfl rfl rfl rfl (by kernel_rfl) Tryd.func3 (by kernel_rfl)
    (of_decide_eq_true (by kernel_rfl)) (by unfold Func.isWrapper; first | (rw [if_pos (by decide +kernel)]; kernel_rfl) | (rw [if_neg (by decide +kernel)]; exact ⟨rfl, rfl⟩))
    (fun os started H enc _ F => by rw [OpenClaim.pre_eq_preRow]; exact lifted os started H enc F)

theorem plain (f : FuncId) (fn : Func) (hf : Tryd.pinned.checked.prog.funcNamed ("tollgate/tollgatelaw01.WordNames") = some f) (hfn : Tryd.pinned.checked.prog.funcs[f]? = some fn) :
    true = Tryd.pinned.checked.prog.looks [] ∧ ∀ (j : Nat) t, fn.params[j]? = some t → Tryd.pinned.checked.prog.wantsStandIn t = false := by
  obtain rfl : f = 3 := Option.some.inj ((show Tryd.prog.funcNamed ("tollgate/tollgatelaw01.WordNames") = some 3 by kernel_rfl).symm.trans hf) |>.symm
  obtain rfl : fn = Tryd.f3 := (Option.some.inj (Tryd.func3.symm.trans hfn)).symm
  refine ⟨by kernel_rfl, fun j t ht => ?_⟩
  rw [Tryd.params3] at ht
  have hm := Array.mem_of_getElem? ht
  simp at hm

theorem card : Rows.WordNamesCardSaid :=
  Claim7.holds_tied_plain_at .later [] _ _ _ _ said (fun _ h => by cases h) (by kernel_rfl) (fun _ h => by cases h) wordNames_row_tie rfl ⟨rfl, rfl⟩ (by kernel_rfl) rfl plain (by kernel_rfl)
end Go.Proofs.YtmodaefcipchpaaDoor.names

/-
  What Char answers: the program's, and the document's.
-/
import Derived.Test.YtmodaefcipchpaaChar
namespace Go.Proofs.Ytmodaefcipchpaa
open Go.RowKit

def str (l : List UInt8) : Value := .string ⟨l.toArray⟩

theorem under37 : Try.prog.underlying 37 = some (.slice 5) := by kernel_rfl
theorem underStr : Try.prog.underlying 9 = some .string := by kernel_rfl
theorem underU8 : Try.prog.underlying 5 = some (.int .u8) := by kernel_rfl

/-- bytes of the block that was made last, as a string -/
theorem conv_new (w : World) (cells : Array Value) (t : TypeId) (n cap : Nat) (xs : List Int) (hn : xs.length = n) (hc : ∀ i, i < n → cells[i]? = some (.int .u8 (xs.getD i 0))) :
    (convert 37 9 (.slice (some ⟨w.heap.size, 0, none⟩) n cap)).run Try.prog (w.alloc (.cells cells t)) = .ok (.string (strOfNums xs)) (w.alloc (.cells cells t)) :=
  run_convert_bytes_arg _ 37 5 under37 underU8 w.heap.size 0 n cap xs hn (fun i hi => by
    rw [cell_of_row _ _ _ cells t (0, 0) (heap_alloc_last w _), Nat.zero_add]; exact hc i hi) 9 underStr
theorem conv1 (w : World) (a : Int) (cap : Nat) (t : TypeId) :
    (convert 37 9 (.slice (some ⟨w.heap.size, 0, none⟩) 1 cap)).run Try.prog (w.alloc (.cells #[.int .u8 a] t)) = .ok (.string (strOfNums [a])) (w.alloc (.cells #[.int .u8 a] t)) :=
  conv_new w _ t 1 cap [a] rfl (fun i hi => by match i, hi with | 0, _ => rfl)
theorem conv2 (w : World) (a b : Int) (cap : Nat) (t : TypeId) :
    (convert 37 9 (.slice (some ⟨w.heap.size, 0, none⟩) 2 cap)).run Try.prog (w.alloc (.cells #[.int .u8 a, .int .u8 b] t)) = .ok (.string (strOfNums [a, b])) (w.alloc (.cells #[.int .u8 a, .int .u8 b] t)) :=
  conv_new w _ t 2 cap [a, b] rfl (fun i hi => by match i, hi with | 0, _ => rfl | 1, _ => rfl)
theorem conv3 (w : World) (a b c : Int) (cap : Nat) (t : TypeId) :
    (convert 37 9 (.slice (some ⟨w.heap.size, 0, none⟩) 3 cap)).run Try.prog (w.alloc (.cells #[.int .u8 a, .int .u8 b, .int .u8 c] t)) = .ok (.string (strOfNums [a, b, c])) (w.alloc (.cells #[.int .u8 a, .int .u8 b, .int .u8 c] t)) :=
  conv_new w _ t 3 cap [a, b, c] rfl (fun i hi => by match i, hi with | 0, _ => rfl | 1, _ => rfl | 2, _ => rfl)
theorem conv4 (w : World) (a b c d : Int) (cap : Nat) (t : TypeId) :
    (convert 37 9 (.slice (some ⟨w.heap.size, 0, none⟩) 4 cap)).run Try.prog (w.alloc (.cells #[.int .u8 a, .int .u8 b, .int .u8 c, .int .u8 d] t)) = .ok (.string (strOfNums [a, b, c, d])) (w.alloc (.cells #[.int .u8 a, .int .u8 b, .int .u8 c, .int .u8 d] t)) :=
  conv_new w _ t 4 cap [a, b, c, d] rfl (fun i hi => by match i, hi with | 0, _ => rfl | 1, _ => rfl | 2, _ => rfl | 3, _ => rfl)

set_option maxHeartbeats 800000 in
set_option maxRecDepth 100000 in
theorem rchar_no (c : Int) (w : World) (h : Sp.sizeOf c = 0) :
    Calls Try.prog 11 #[.int .i64 c] w fun e w' => e = .returned (.tuple #[str (Sp.charBytes c), .bool (Sp.charOk c)]) ∧ Below w.heap.size w w' := by
  rw [(Sp.bytes_0 h).1, (Sp.bytes_0 h).2]
  have hh := Sp.size_none h
  clear h
  rcases hh with h0 | h0 | ⟨h0, h1⟩
  all_goals
    go_enter Try.func11, Try.ntmps11
    go_wp2
    all_goals (go_ret2; exact ⟨rfl, Below.refl _ _⟩)

set_option maxHeartbeats 800000 in
set_option maxRecDepth 100000 in
theorem rchar_1 (c : Int) (w : World) (h : Sp.sizeOf c = 1) (h0 : 0 ≤ c) (h1 : c < 128) :
    Calls Try.prog 11 #[.int .i64 c] w fun e w' => e = .returned (.tuple #[str (Sp.charBytes c), .bool (Sp.charOk c)]) ∧ Below w.heap.size w w' := by
  rw [(Sp.bytes_1 h).1, (Sp.bytes_1 h).2]
  clear h
  have kc := fun (w : World) (a : Int) (cap : Nat) (t : TypeId) => conv1 w a cap t
  go_enter Try.func11, Try.ntmps11
  go_wp2
  all_goals (go_ret2; exact ⟨rfl, (Below.refl _ _).alloc (Nat.le_refl _) _⟩)

set_option maxHeartbeats 800000 in
set_option maxRecDepth 100000 in
theorem rchar_2 (c : Int) (w : World) (h : Sp.sizeOf c = 2) (h0 : 128 ≤ c) (h1 : c < 2048) :
    Calls Try.prog 11 #[.int .i64 c] w fun e w' => e = .returned (.tuple #[str (Sp.charBytes c), .bool (Sp.charOk c)]) ∧ Below w.heap.size w w' := by
  rw [(Sp.bytes_2 h).1, (Sp.bytes_2 h).2]
  clear h
  have kc := fun (w : World) (a b : Int) (cap : Nat) (t : TypeId) => conv2 w a b cap t
  go_enter Try.func11, Try.ntmps11
  go_wp2
  all_goals (go_ret2; exact ⟨rfl, (Below.refl _ _).alloc (Nat.le_refl _) _⟩)

set_option maxHeartbeats 800000 in
set_option maxRecDepth 100000 in
theorem rchar_3 (c : Int) (w : World) (h : Sp.sizeOf c = 3) (h0 : 2048 ≤ c) (h1 : c < 65536) (h2 : c < 55296 ∨ 57343 < c) :
    Calls Try.prog 11 #[.int .i64 c] w fun e w' => e = .returned (.tuple #[str (Sp.charBytes c), .bool (Sp.charOk c)]) ∧ Below w.heap.size w w' := by
  rw [(Sp.bytes_3 h).1, (Sp.bytes_3 h).2]
  clear h
  have kc := fun (w : World) (a b c : Int) (cap : Nat) (t : TypeId) => conv3 w a b c cap t
  rcases h2 with h2 | h2
  all_goals
    go_enter Try.func11, Try.ntmps11
    go_wp2
    all_goals (go_ret2; exact ⟨rfl, (Below.refl _ _).alloc (Nat.le_refl _) _⟩)

set_option maxHeartbeats 800000 in
set_option maxRecDepth 100000 in
theorem rchar_4 (c : Int) (w : World) (h : Sp.sizeOf c = 4) (h0 : 65536 ≤ c) (h1 : c ≤ 1114111) :
    Calls Try.prog 11 #[.int .i64 c] w fun e w' => e = .returned (.tuple #[str (Sp.charBytes c), .bool (Sp.charOk c)]) ∧ Below w.heap.size w w' := by
  rw [(Sp.bytes_4 h).1, (Sp.bytes_4 h).2]
  clear h
  have kc := fun (w : World) (a b c d : Int) (cap : Nat) (t : TypeId) => conv4 w a b c d cap t
  go_enter Try.func11, Try.ntmps11
  go_wp2
  all_goals (go_ret2; exact ⟨rfl, (Below.refl _ _).alloc (Nat.le_refl _) _⟩)

theorem rchar_any (c : Int) (w : World) :
    Calls Try.prog 11 #[.int .i64 c] w fun e w' => e = .returned (.tuple #[str (Sp.charBytes c), .bool (Sp.charOk c)]) ∧ Below w.heap.size w w' := by
  rcases Sp.size_cases c with ⟨h, _⟩ | ⟨h, h0, h1⟩ | ⟨h, h0, h1⟩ | ⟨h, h0, h1⟩ | ⟨h, h0, h1⟩ | ⟨h, h0, h1⟩
  · exact rchar_no c w h
  · exact rchar_1 c w h h0 h1
  · exact rchar_2 c w h h0 h1
  · exact rchar_3 c w h h0 (by omega) (.inl h1)
  · exact rchar_3 c w h (by omega) h1 (.inr (by omega))
  · exact rchar_4 c w h h0 h1
end Go.Proofs.Ytmodaefcipchpaa

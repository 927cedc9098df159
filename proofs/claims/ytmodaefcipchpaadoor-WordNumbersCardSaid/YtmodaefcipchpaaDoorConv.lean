/-
  Bytes that were just made, as strings.
-/
import Derived.Test.YtmodaefcipchpaaDoorChar
namespace Go.Proofs.YtmodaefcipchpaaDoor
open Go.RowKit

def str (l : List UInt8) : Value := .string ⟨l.toArray⟩

theorem under37 : Tryd.prog.underlying 48 = some (.slice 5) := by kernel_rfl
theorem underStr : Tryd.prog.underlying 9 = some .string := by kernel_rfl
theorem underU8 : Tryd.prog.underlying 5 = some (.int .u8) := by kernel_rfl

/-- bytes of the block that was made last, as a string -/
theorem conv_new (w : World) (cells : Array Value) (t : TypeId) (n cap : Nat) (xs : List Int) (hn : xs.length = n) (hc : ∀ i, i < n → cells[i]? = some (.int .u8 (xs.getD i 0))) :
    (convert 48 9 (.slice (some ⟨w.heap.size, 0, none⟩) n cap)).run Tryd.prog (w.alloc (.cells cells t)) = .ok (.string (strOfNums xs)) (w.alloc (.cells cells t)) :=
  run_convert_bytes_arg _ 48 5 under37 underU8 w.heap.size 0 n cap xs hn (fun i hi => by
    rw [cell_of_row _ _ _ cells t (0, 0) (heap_alloc_last w _), Nat.zero_add]; exact hc i hi) 9 underStr
theorem conv1 (w : World) (a : Int) (cap : Nat) (t : TypeId) :
    (convert 48 9 (.slice (some ⟨w.heap.size, 0, none⟩) 1 cap)).run Tryd.prog (w.alloc (.cells #[.int .u8 a] t)) = .ok (.string (strOfNums [a])) (w.alloc (.cells #[.int .u8 a] t)) :=
  conv_new w _ t 1 cap [a] rfl (fun i hi => by match i, hi with | 0, _ => rfl)
theorem conv2 (w : World) (a b : Int) (cap : Nat) (t : TypeId) :
    (convert 48 9 (.slice (some ⟨w.heap.size, 0, none⟩) 2 cap)).run Tryd.prog (w.alloc (.cells #[.int .u8 a, .int .u8 b] t)) = .ok (.string (strOfNums [a, b])) (w.alloc (.cells #[.int .u8 a, .int .u8 b] t)) :=
  conv_new w _ t 2 cap [a, b] rfl (fun i hi => by match i, hi with | 0, _ => rfl | 1, _ => rfl)
theorem conv3 (w : World) (a b c : Int) (cap : Nat) (t : TypeId) :
    (convert 48 9 (.slice (some ⟨w.heap.size, 0, none⟩) 3 cap)).run Tryd.prog (w.alloc (.cells #[.int .u8 a, .int .u8 b, .int .u8 c] t)) = .ok (.string (strOfNums [a, b, c])) (w.alloc (.cells #[.int .u8 a, .int .u8 b, .int .u8 c] t)) :=
  conv_new w _ t 3 cap [a, b, c] rfl (fun i hi => by match i, hi with | 0, _ => rfl | 1, _ => rfl | 2, _ => rfl)
theorem conv4 (w : World) (a b c d : Int) (cap : Nat) (t : TypeId) :
    (convert 48 9 (.slice (some ⟨w.heap.size, 0, none⟩) 4 cap)).run Tryd.prog (w.alloc (.cells #[.int .u8 a, .int .u8 b, .int .u8 c, .int .u8 d] t)) = .ok (.string (strOfNums [a, b, c, d])) (w.alloc (.cells #[.int .u8 a, .int .u8 b, .int .u8 c, .int .u8 d] t)) :=
  conv_new w _ t 4 cap [a, b, c, d] rfl (fun i hi => by match i, hi with | 0, _ => rfl | 1, _ => rfl | 2, _ => rfl | 3, _ => rfl)

end Go.Proofs.YtmodaefcipchpaaDoor

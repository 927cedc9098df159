/-
  What Char answers: the program's.
-/
import Derived.Test.YtmodaefcipchpaaDoorConv
namespace Go.Proofs.YtmodaefcipchpaaDoor
open Go.RowKit

theorem i32_and63 (x : Int) (h0 : 0 ≤ x) (h1 : x < 2147483648) : bits .and .i32 x 63 = x % 64 := bits_mask .i32 31 (by decide) wraps_i32 6 (by decide) x h0 h1
theorem tail_byte (c : Int) (h0 : 0 ≤ c) (h1 : c < 2147483648) : bits BinOp.or IntKind.u8 128 (bits BinOp.and IntKind.i32 c 63 % 256) = 128 + c % 64 := by
  rw [i32_and63 c h0 h1]
  have := u8_or128 (y := c % 64 % 256) (by omega) (by omega)
  rw [this]; omega
theorem or0_all : ∀ b : Fin 128, bits BinOp.or IntKind.u8 0 (b.val : Int) = (b.val : Int) := by decide +kernel
theorem head1 (c : Int) (h0 : 0 ≤ c) (h1 : c < 128) : bits BinOp.or IntKind.u8 0 c = c := by
  have := or0_all ⟨c.toNat, by omega⟩
  simp only at this
  rw [show ((c.toNat : Nat) : Int) = c from by omega] at this
  exact this

theorem conv42 (w : World) (a b x y : Int) (cap : Nat) (t : TypeId) :
    (convert 48 9 (.slice (some ⟨w.heap.size, 0, none⟩) 2 cap)).run Tryd.prog (w.alloc (.cells #[.int .u8 a, .int .u8 b, .int .u8 x, .int .u8 y] t)) = .ok (.string (strOfNums [a, b])) (w.alloc (.cells #[.int .u8 a, .int .u8 b, .int .u8 x, .int .u8 y] t)) :=
  conv_new w _ t 2 cap [a, b] rfl (fun i hi => by match i, hi with | 0, _ => rfl | 1, _ => rfl)
theorem conv41 (w : World) (a b x y : Int) (cap : Nat) (t : TypeId) :
    (convert 48 9 (.slice (some ⟨w.heap.size, 0, none⟩) 1 cap)).run Tryd.prog (w.alloc (.cells #[.int .u8 a, .int .u8 b, .int .u8 x, .int .u8 y] t)) = .ok (.string (strOfNums [a])) (w.alloc (.cells #[.int .u8 a, .int .u8 b, .int .u8 x, .int .u8 y] t)) :=
  conv_new w _ t 1 cap [a] rfl (fun i hi => by match i, hi with | 0, _ => rfl)
theorem conv43 (w : World) (a b x y : Int) (cap : Nat) (t : TypeId) :
    (convert 48 9 (.slice (some ⟨w.heap.size, 0, none⟩) 3 cap)).run Tryd.prog (w.alloc (.cells #[.int .u8 a, .int .u8 b, .int .u8 x, .int .u8 y] t)) = .ok (.string (strOfNums [a, b, x])) (w.alloc (.cells #[.int .u8 a, .int .u8 b, .int .u8 x, .int .u8 y] t)) :=
  conv_new w _ t 3 cap [a, b, x] rfl (fun i hi => by match i, hi with | 0, _ => rfl | 1, _ => rfl | 2, _ => rfl)

theorem ret_str {a b : List Int} {v : Value} (h : a = b) : Ending.returned (.tuple #[.string (strOfNums a), v]) = .returned (.tuple #[str (b.map Sp.u8), v]) := by subst h; rfl

set_option maxHeartbeats 800000 in
set_option maxRecDepth 100000 in
theorem char_no (c : Int) (w : World) (h : Sp.sizeOf c = 0) :
    Calls Tryd.prog 10 #[.int .i64 c] w fun e w' => e = .returned (.tuple #[str (Sp.charBytes c), .bool (Sp.charOk c)]) ∧ Below w.heap.size w w' := by
  rw [(Sp.bytes_0 h).1, (Sp.bytes_0 h).2]
  have hh := Sp.size_none h
  have H := Lib.hid h
  clear h
  rcases hh with h0 | h0 | ⟨h0, h1⟩
  · go_enter Tryd.func10, Tryd.ntmps10
    go_wp2_with fail
    all_goals (go_ret2; exact ⟨rfl, Below.refl _ _⟩)
  · go_enter Tryd.func10, Tryd.ntmps10
    go_wp2_with fail
    all_goals (go_ret2; exact ⟨rfl, Below.refl _ _⟩)
  · go_enter Tryd.func10, Tryd.ntmps10
    go_wp2_with fail
    refine (size_any c w).mono ?_
    rintro e w' ⟨rfl, rfl⟩
    rw [H.out]
    go_wp2_with fail
    all_goals (go_ret2; exact ⟨rfl, Below.refl _ _⟩)

set_option maxHeartbeats 800000 in
set_option maxRecDepth 100000 in
theorem char_1 (c : Int) (w : World) (h : Sp.sizeOf c = 1) (h0 : 0 ≤ c) (h1 : c < 128) :
    Calls Tryd.prog 10 #[.int .i64 c] w fun e w' => e = .returned (.tuple #[str (Sp.charBytes c), .bool (Sp.charOk c)]) ∧ Below w.heap.size w w' := by
  rw [(Sp.bytes_1 h).1, (Sp.bytes_1 h).2]
  have H := Lib.hid h
  clear h
  have kc := fun (w : World) (a b x y : Int) (cap : Nat) (t : TypeId) => conv41 w a b x y cap t
  go_enter Tryd.func10, Tryd.ntmps10
  go_wp2_with fail
  refine (size_any c w).mono ?_
  rintro e w' ⟨rfl, rfl⟩
  rw [H.out]
  go_wp2_with fail
  refine wp_loop_rounds 1 ?_
  rw [rounds_succ]
  go_wp2_with fail
  refine (mark1 _).mono ?_
  rintro e w' ⟨rfl, rfl⟩
  go_wp2_with fail
  go_ret2
  exact ⟨ret_str (b := [c]) (by rw [head1 c h0 h1]), (Below.refl _ _).alloc (Nat.le_refl _) _⟩

theorem conv44 (w : World) (a b x y : Int) (cap : Nat) (t : TypeId) :
    (convert 48 9 (.slice (some ⟨w.heap.size, 0, none⟩) 4 cap)).run Tryd.prog (w.alloc (.cells #[.int .u8 a, .int .u8 b, .int .u8 x, .int .u8 y] t)) = .ok (.string (strOfNums [a, b, x, y])) (w.alloc (.cells #[.int .u8 a, .int .u8 b, .int .u8 x, .int .u8 y] t)) :=
  conv4 w a b x y cap t
set_option maxHeartbeats 800000 in
set_option maxRecDepth 100000 in
theorem char_2 (c : Int) (w : World) (h : Sp.sizeOf c = 2) (h0 : 128 ≤ c) (h1 : c < 2048) :
    Calls Tryd.prog 10 #[.int .i64 c] w fun e w' => e = .returned (.tuple #[str (Sp.charBytes c), .bool (Sp.charOk c)]) ∧ Below w.heap.size w w' := by
  rw [(Sp.bytes_2 h).1, (Sp.bytes_2 h).2]
  have H := Lib.hid h
  clear h
  have hsg : IntKind.u8.signed = false := rfl
  have kc := fun (w : World) (a b x y : Int) (cap : Nat) (t : TypeId) => conv42 w a b x y cap t
  go_enter Tryd.func10, Tryd.ntmps10
  go_wp2_with fail
  refine (size_any c w).mono ?_
  rintro e w' ⟨rfl, rfl⟩
  rw [H.out]
  go_wp2_with fail
  refine wp_loop_rounds 2 ?_
  rw [rounds_succ]
  go_wp2_with fail
  rw [rounds_succ]
  go_wp2_with fail
  refine (mark2 _).mono ?_
  rintro e w' ⟨rfl, rfl⟩
  go_wp2_with fail
  go_ret2
  exact ⟨ret_str (b := [192 + c / 64, 128 + c % 64]) (by rw [tail_byte c (by omega) (by omega)]), (Below.refl _ _).alloc (Nat.le_refl _) _⟩

set_option maxHeartbeats 800000 in
set_option maxRecDepth 100000 in
theorem char_3 (c : Int) (w : World) (h : Sp.sizeOf c = 3) (h0 : 2048 ≤ c) (h1 : c < 65536) :
    Calls Tryd.prog 10 #[.int .i64 c] w fun e w' => e = .returned (.tuple #[str (Sp.charBytes c), .bool (Sp.charOk c)]) ∧ Below w.heap.size w w' := by
  rw [(Sp.bytes_3 h).1, (Sp.bytes_3 h).2]
  have H := Lib.hid h
  clear h
  have hsg : IntKind.u8.signed = false := rfl
  have kc := fun (w : World) (a b x y : Int) (cap : Nat) (t : TypeId) => conv43 w a b x y cap t
  go_enter Tryd.func10, Tryd.ntmps10
  go_wp2_with fail
  refine (size_any c w).mono ?_
  rintro e w' ⟨rfl, rfl⟩
  rw [H.out]
  go_wp2_with fail
  refine wp_loop_rounds 3 ?_
  rw [rounds_succ]
  go_wp2_with fail
  rw [rounds_succ]
  go_wp2_with fail
  rw [rounds_succ]
  go_wp2_with fail
  refine (mark3 _).mono ?_
  rintro e w' ⟨rfl, rfl⟩
  go_wp2_with fail
  go_ret2
  exact ⟨ret_str (b := [224 + c / 4096, 128 + c / 64 % 64, 128 + c % 64]) (by rw [tail_byte c (by omega) (by omega), tail_byte (c / 64) (by omega) (by omega), show c / 64 / 64 = c / 4096 from by omega]), (Below.refl _ _).alloc (Nat.le_refl _) _⟩

set_option maxHeartbeats 800000 in
set_option maxRecDepth 100000 in
theorem char_4 (c : Int) (w : World) (h : Sp.sizeOf c = 4) (h0 : 65536 ≤ c) (h1 : c ≤ 1114111) :
    Calls Tryd.prog 10 #[.int .i64 c] w fun e w' => e = .returned (.tuple #[str (Sp.charBytes c), .bool (Sp.charOk c)]) ∧ Below w.heap.size w w' := by
  rw [(Sp.bytes_4 h).1, (Sp.bytes_4 h).2]
  have H := Lib.hid h
  clear h
  have hsg : IntKind.u8.signed = false := rfl
  have kc := fun (w : World) (a b x y : Int) (cap : Nat) (t : TypeId) => conv44 w a b x y cap t
  go_enter Tryd.func10, Tryd.ntmps10
  go_wp2_with fail
  refine (size_any c w).mono ?_
  rintro e w' ⟨rfl, rfl⟩
  rw [H.out]
  go_wp2_with fail
  refine wp_loop_rounds 4 ?_
  rw [rounds_succ]
  go_wp2_with fail
  rw [rounds_succ]
  go_wp2_with fail
  rw [rounds_succ]
  go_wp2_with fail
  rw [rounds_succ]
  go_wp2_with fail
  refine (mark4 _).mono ?_
  rintro e w' ⟨rfl, rfl⟩
  go_wp2_with fail
  go_ret2
  exact ⟨ret_str (b := [240 + c / 262144, 128 + c / 4096 % 64, 128 + c / 64 % 64, 128 + c % 64]) (by rw [tail_byte c (by omega) (by omega), tail_byte (c / 64) (by omega) (by omega), tail_byte (c / 64 / 64) (by omega) (by omega), show c / 64 / 64 / 64 = c / 262144 from by omega, show c / 64 / 64 = c / 4096 from by omega]), (Below.refl _ _).alloc (Nat.le_refl _) _⟩

theorem char_any (c : Int) (w : World) :
    Calls Tryd.prog 10 #[.int .i64 c] w fun e w' => e = .returned (.tuple #[str (Sp.charBytes c), .bool (Sp.charOk c)]) ∧ Below w.heap.size w w' := by
  rcases Sp.size_cases c with ⟨h, _⟩ | ⟨h, h0, h1⟩ | ⟨h, h0, h1⟩ | ⟨h, h0, h1⟩ | ⟨h, h0, h1⟩ | ⟨h, h0, h1⟩
  · exact char_no c w h
  · exact char_1 c w h h0 h1
  · exact char_2 c w h h0 h1
  · exact char_3 c w h h0 (by omega)
  · exact char_3 c w h (by omega) h1
  · exact char_4 c w h h0 h1
end Go.Proofs.YtmodaefcipchpaaDoor

/-
  Bytes of constants, bytes as strings.
-/
import Derived.Test.YtfbdikaaeedeoaaDoorGCode
import Derived.Lib.SlBytesConst
import Derived.Lib.ConvBytes
import Derived.Lib.AtoiErrMem
namespace Go.Proofs.YtfbdikaaeedeoaaDoor
open Go.RowKit
set_option maxRecDepth 100000

theorem Gives.rd {w w' : World} {l : List UInt8} {e : Ending} (h : Gives w l e w') (hm : l.length ≤ 140737488355328) : ∃ g, e = .returned (.tuple #[.slice (some ⟨g, 0, none⟩) l.length l.length, .int .i64 0]) ∧ Has w' g 5 (bytCells l).toArray ∧ Rd w' w'.heap.size (some ⟨g, 0, none⟩) l ∧ w.heap.size ≤ g ∧ Below w.heap.size w w' := by
  obtain ⟨g, he, hg, h1, h2⟩ := h
  exact ⟨g, he, hg, Rd.of_has hg (by rw [List.drop_zero, ← bytCells_len, List.take_length]) hm, h1, h2⟩

/-- the bytes of a constant string -/
def konst (w : World) (l : List UInt8) : World := w.alloc (.cells (bytCells l).toArray 5 (l.length, l.length + 1))
theorem konst_size (w : World) (l : List UInt8) : (konst w l).heap.size = w.heap.size + 1 := by simp [konst]
theorem konst_below (w : World) (l : List UInt8) : Below w.heap.size w (konst w l) := (Below.refl _ _).alloc (Nat.le_refl _) _
theorem konst_rd (w : World) (l : List UInt8) (hm : l.length ≤ 140737488355328) : Rd (konst w l) (konst w l).heap.size (some ⟨w.heap.size, 0, none⟩) l :=
  ⟨hm, fun _ => ⟨_, 0, rfl, by rw [konst_size]; omega, fun j u hj => by
    unfold konst
    rw [Nat.zero_add, cell_of_row _ _ j (bytCells l).toArray 5 (l.length, l.length + 1) (heap_alloc_last w _), List.getElem?_toArray]
    exact hj⟩⟩
theorem run_konst1 (w : World) (a : UInt8) : (convert 65 65 (.slice (some ⟨w.heap.size, 0, none⟩) 1 1)).run Tryd.prog (w.alloc (.cells #[.int .u8 (a.toNat : Int)] 5)) = .ok (.slice (some ⟨w.heap.size, 0, none⟩) 1 1) (konst w [a]) :=
  Lib.run_convert_bytes_const w _ _ #[.int .u8 (a.toNat : Int)] 1 1 und_bytes und_u8
theorem run_konst2 (w : World) (a b : UInt8) : (convert 65 65 (.slice (some ⟨w.heap.size, 0, none⟩) 2 2)).run Tryd.prog (w.alloc (.cells #[.int .u8 (a.toNat : Int), .int .u8 (b.toNat : Int)] 5)) = .ok (.slice (some ⟨w.heap.size, 0, none⟩) 2 2) (konst w [a, b]) :=
  Lib.run_convert_bytes_const w _ _ #[.int .u8 (a.toNat : Int), .int .u8 (b.toNat : Int)] 2 2 und_bytes und_u8

/-- bytes that are read, as a string -/
theorem conv_rd (w : World) (B : Nat) (A : Option Addr) (l : List UInt8) (c : Nat) (h : Rd w B A l) : (convert 65 9 (.slice A l.length c)).run Tryd.prog w = .ok (bstr l) w := by
  cases l with
  | nil =>
    cases A with
    | none => exact run_convert_bytes_nil w _ _ und_bytes und_u8 0 c _ und_str
    | some a =>
      show (convert 65 9 (.slice (some a) 0 c)).run Tryd.prog w = _
      rw [run_convert_bytes_string w _ _ _ _ 0 c und_bytes und_u8 und_str, run_bytesToString w a 0 c [] (run_loadCells_list (P := Tryd.prog) w a [] (fun j v hj => by simp at hj))]
      rfl
  | cons x l =>
    obtain ⟨g, o, rfl, _, hc⟩ := h.2 (by simp)
    have := run_convert_bytes_arg (P := Tryd.prog) w _ _ und_bytes und_u8 g o (x :: l).length c ((x :: l).map fun y => (y.toNat : Int)) (by simp) (fun i hi => by
      refine hc i _ ?_
      rw [bytCells_get, List.getElem?_eq_getElem hi]
      simp only [Option.map_some, byt]
      rw [List.getD_eq_getElem?_getD, List.getElem?_map, List.getElem?_eq_getElem hi]
      rfl) _ und_str
    rw [this]
    congr 1
    unfold bstr strOfNums
    rw [List.map_map]
    congr 2
    exact congrArg List.toArray (List.map_id'' (fun y => by simp) _)
end Go.Proofs.YtfbdikaaeedeoaaDoor
/-
  A text as bytes.
-/
namespace Go.Proofs.YtfbdikaaeedeoaaDoor
open Go.RowKit Go.Maps
set_option maxRecDepth 100000

theorem und_str2 : Tryd.prog.underlying 9 = some .string := by kernel_rfl
/-- the bytes of a text are new memory -/
theorem run_text (w : World) (b : List UInt8) (hm : b.length ≤ 140737488355328) : ∃ cap wx, (convert 9 65 (bstr b)).run Tryd.prog w = .ok (.slice (some ⟨w.heap.size, 0, none⟩) b.length cap) wx ∧ Rd wx wx.heap.size (some ⟨w.heap.size, 0, none⟩) b ∧ Below w.heap.size w wx := by
  have h := Lib.run_convert_string_bytes (P := Tryd.prog) w 9 65 5 ⟨b.toArray⟩ und_str2 und_bytes und_u8
  refine ⟨_, _, h, ⟨hm, fun _ => ⟨_, 0, rfl, by rw [Lib.bytesWorld_size]; omega, fun j u hj => ?_⟩⟩, Lib.bytesWorld_below w _ _⟩
  have hlt : j < b.length := by have := (List.getElem?_eq_some_iff.1 hj).1; rwa [bytCells_len] at this
  rw [Nat.zero_add, Lib.bytesWorld_cell w _ _ j (by show j < b.toArray.size; simpa using hlt)]
  rw [bytCells_get, List.getElem?_eq_getElem hlt] at hj
  have hj := Option.some.inj hj
  rw [← hj]
  simp [byt, hlt]
end Go.Proofs.YtfbdikaaeedeoaaDoor
/-
  PagerCrash: what a page is told to say.
-/
namespace Go.Proofs.YtfbdikaaeedeoaaDoor
open Go.RowKit Go.Maps
set_option maxRecDepth 100000

def pay (a : UInt8) (n k : Nat) : List UInt8 := [a, UInt8.ofNat n, UInt8.ofNat k, a, a]
end Go.Proofs.YtfbdikaaeedeoaaDoor

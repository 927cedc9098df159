/-
  What each statement asks first: a page is made, and read under its own number alone.
-/
import Derived.Test.YtnghpklegomaeaaGDec
import Derived.Lib.SlBytesConst
namespace Go.Proofs.Ytnghpklegomaeaa
open Go.RowKit

theorem Gives.rd {w w' : World} {l : List UInt8} {e : Ending} (h : Gives w l e w') (hm : l.length ≤ 140737488355328) : ∃ g, e = .returned (.tuple #[.slice (some ⟨g, 0, none⟩) l.length l.length, .int .i64 0]) ∧ Has w' g 5 (bytCells l).toArray ∧ Rd w' w'.heap.size (some ⟨g, 0, none⟩) l ∧ w.heap.size ≤ g ∧ Below w.heap.size w w' := by
  obtain ⟨g, he, hg, h1, h2⟩ := h
  exact ⟨g, he, hg, Rd.of_has hg (by rw [List.drop_zero, ← bytCells_len, List.take_length]) hm, h1, h2⟩

/-- the bytes of a constant string -/
def konst (w : World) (l : List UInt8) : World := w.alloc (.cells (bytCells l).toArray 5 (l.length, l.length + 1))
theorem konst_size (w : World) (l : List UInt8) : (konst w l).heap.size = w.heap.size + 1 := by simp [konst]
theorem konst_below (w : World) (l : List UInt8) : Below w.heap.size w (konst w l) := (Below.refl _ _).alloc (Nat.le_refl _) _
theorem konst_rd (w : World) (l : List UInt8) (hm : l.length ≤ 140737488355328) : Rd (konst w l) (konst w l).heap.size (some ⟨w.heap.size, 0, none⟩) l :=
  ⟨hm, fun _ => ⟨_, 0, rfl, by rw [konst_size]; omega, fun j u hj => by
    unfold konst
    rw [Nat.zero_add, cell_of_row _ _ j (bytCells l).toArray 5 (l.length, l.length + 1) (heap_alloc_last w _), List.getElem?_toArray]
    exact hj⟩⟩
theorem run_konst1 (w : World) (a : UInt8) : (convert 25 25 (.slice (some ⟨w.heap.size, 0, none⟩) 1 1)).run Try.prog (w.alloc (.cells #[.int .u8 (a.toNat : Int)] 5)) = .ok (.slice (some ⟨w.heap.size, 0, none⟩) 1 1) (konst w [a]) :=
  Lib.run_convert_bytes_const w _ _ #[.int .u8 (a.toNat : Int)] 1 1 und_bytes und_u8
theorem run_konst2 (w : World) (a b : UInt8) : (convert 25 25 (.slice (some ⟨w.heap.size, 0, none⟩) 2 2)).run Try.prog (w.alloc (.cells #[.int .u8 (a.toNat : Int), .int .u8 (b.toNat : Int)] 5)) = .ok (.slice (some ⟨w.heap.size, 0, none⟩) 2 2) (konst w [a, b]) :=
  Lib.run_convert_bytes_const w _ _ #[.int .u8 (a.toNat : Int), .int .u8 (b.toNat : Int)] 2 2 und_bytes und_u8

/-- bytes that are read, as a string -/
theorem conv_rd (w : World) (B : Nat) (A : Option Addr) (l : List UInt8) (c : Nat) (h : Rd w B A l) : (convert 25 9 (.slice A l.length c)).run Try.prog w = .ok (bstr l) w := by
  cases l with
  | nil =>
    cases A with
    | none => exact run_convert_bytes_nil w _ _ und_bytes und_u8 0 c _ und_str
    | some a =>
      show (convert 25 9 (.slice (some a) 0 c)).run Try.prog w = _
      rw [run_convert_bytes_string w _ _ _ _ 0 c und_bytes und_u8 und_str, run_bytesToString w a 0 c [] (run_loadCells_list (P := Try.prog) w a [] (fun j v hj => by simp at hj))]
      rfl
  | cons x l =>
    obtain ⟨g, o, rfl, _, hc⟩ := h.2 (by simp)
    have := run_convert_bytes_arg (P := Try.prog) w _ _ und_bytes und_u8 g o (x :: l).length c ((x :: l).map fun y => (y.toNat : Int)) (by simp) (fun i hi => by
      refine hc i _ ?_
      rw [bytCells_get, List.getElem?_eq_getElem hi]
      simp only [Option.map_some, byt]
      rw [List.getD_eq_getElem?_getD, List.getElem?_map, List.getElem?_eq_getElem hi]
      rfl) _ und_str
    rw [this]
    congr 1
    unfold bstr strOfNums
    rw [List.map_map]
    congr 2
    exact congrArg List.toArray (List.map_id'' (fun y => by simp) _)

set_option maxHeartbeats 1600000 in
set_option maxRecDepth 100000 in
theorem works_any (w : World) : Calls Try.prog 10 #[] w fun e w' => e = .returned (.bool true) ∧ Below w.heap.size w w' := by
  have hk : ∀ w : World, (convert 25 25 (.slice (some ⟨w.heap.size, 0, none⟩) 2 2)).run Try.prog (w.alloc (.cells #[.int .u8 97, .int .u8 98] 5)) = .ok (.slice (some ⟨w.heap.size, 0, none⟩) 2 2) (konst w [97, 98]) := fun w => run_konst2 w 97 98
  go_enter Try.func10, Try.ntmps10
  go_wp2_with fail
  refine (encode_ok (konst w [97, 98]) 5 (by omega) _ [97, 98] 2 (by simp) (konst_rd w _ (by simp))).mono ?_
  rintro e w1 hg
  obtain ⟨g, rfl, hg1, hr1, hge, hb1⟩ := hg.rd (by rw [Pg.made_length _ _ (by simp)]; omega)
  have hl : (Pg.made 5 [97, 98]).length = 512 := Pg.made_length _ _ (by simp)
  have B1 : Hid (Below w.heap.size w w1) := Lib.hid ((konst_below w _).trans (hb1.mono (by rw [konst_size]; omega)))
  have d5 := decode_ok w1 5 (by omega) (some ⟨g, 0, none⟩) _ 512 hl hr1
  have R1 := Lib.hid hr1
  rw [hl]
  have HL := Lib.hid hl
  have D5 := Lib.hid d5
  clear hg hg1 hr1 hb1 hl d5 hk
  go_wp2_with fail
  refine D5.out.mono ?_
  rintro e w2 hd
  have hs5 : Pg.sound 5 (Pg.made 5 [97, 98]) = true := Pg.sound_made _ _ (by simp)
  rcases hd with ⟨_, hd⟩ | ⟨hd, _⟩
  · rw [Pg.payload_made _ _ (by simp)] at hd
    obtain ⟨g2, rfl, _, hr2, hge2, hb2⟩ := hd.rd (by simp)
    have B2 : Hid (Below w.heap.size w w2) := Lib.hid (B1.out.trans (hb2.mono B1.out.size))
    have R2 : Hid (Rd w2 w2.heap.size (some ⟨g, 0, none⟩) (Pg.made 5 [97, 98])) := Lib.hid ((R1.out.below hb2).more hb2.size)
    have C2 := Lib.hid hr2
    have d6 := decode_ok w2 6 (by omega) (some ⟨g, 0, none⟩) _ 512 HL.out R2.out
    have D6 := Lib.hid d6
    clear hd hr2 hb2 hs5 d6 D5 R1 B1
    go_wp2_with fail
    refine D6.out.mono ?_
    rintro e w3 hd
    have hs6 : Pg.sound 6 (Pg.made 5 [97, 98]) = false := Pg.number_told 5 6 _ (Pg.sound_made _ _ (by simp)) [0, 0, 0, 0, 0, 0, 0] [] 5 6 (by decide) (by decide) (by decide)
    rcases hd with ⟨hd, _⟩ | ⟨_, rfl, hb3⟩
    · rw [hs6] at hd; cases hd
    · have B3 : Hid (Below w.heap.size w w3) := Lib.hid (B2.out.trans (hb3.mono B2.out.size))
      have C3 : Hid (Rd w3 w3.heap.size (some ⟨g2, 0, none⟩) [97, 98]) := Lib.hid ((C2.out.below hb3).more hb3.size)
      have hcv := conv_rd w3 _ _ _ 2 C3.out
      have hk : ∀ w : World, (convert 25 25 (.slice (some ⟨w.heap.size, 0, none⟩) 1 1)).run Try.prog (w.alloc (.cells #[.int .u8 97] 5)) = .ok (.slice (some ⟨w.heap.size, 0, none⟩) 1 1) (konst w [97]) := fun w => run_konst1 w 97
      have hsum := sum_any (konst w3 [97]) _ [97] 1 (konst_rd w3 [97] (by simp))
      have HSum := Lib.hid hsum
      have hcv : (convert 25 9 (.slice (some ⟨g2, 0, none⟩) 2 2)).run Try.prog w3 = .ok (.string ⟨#[97, 98]⟩) w3 := hcv
      clear hb3 hs6 hsum B2 C2 R2 D6
      go_wp2_with fail
      refine HSum.out.mono ?_
      rintro e w4 ⟨rfl, hb4⟩
      have e97 : Pg.sum [97] = 12638187200555641996 := by decide
      rw [e97]
      have B4 : Hid (Below w.heap.size w w4) := Lib.hid ((B3.out.trans ((konst_below w3 [97]).mono B3.out.size)).trans (hb4.mono (by have := B3.out.size; rw [konst_size]; omega)))
      clear hb4 e97 hcv hk
      go_wp2_with fail
      go_ret
      exact ⟨rfl, B4.out⟩
  · rw [hs5] at hd; cases hd
end Go.Proofs.Ytnghpklegomaeaa

/-
  PageNames: the limits and the errors are where the document has them. No condition.
-/
import Derived.Test.YtnghpklegomaeaaGApp
import Derived.ProofKit
import Derived.SizedLaws
import Derived.OpenShut
namespace Go.Proofs.Ytnghpklegomaeaa.pnames
open Go.ChangeShapes Go.WideShapes Go.ChangeAt Go.RowKit

theorem own : ownKnob Try.prog.godebug = none := by kernel_rfl

/-! ### the long page -/
def tail (x : UInt8) : List UInt8 := [1, x] ++ zs 502
theorem tail_len (x : UInt8) : (tail x).length = 504 := by simp [tail, zs_len]
theorem be_zero (n : Nat) : Pg.be n 0 = zs n := by
  induction n with
  | zero => rfl
  | succ n ih => rw [Pg.be, Nat.zero_div, ih, zs, zs, List.replicate_succ']; rfl
theorem zs_split (a b : Nat) : zs (a + b) = zs a ++ zs b := List.replicate_append_replicate.symm
theorem long_first : ((zs 512).set 8 1).set 9 247 = zs 8 ++ tail 247 := by
  have e : zs 512 = zs 8 ++ (0 :: 0 :: zs 502) := by rw [show (512 : Nat) = 8 + (2 + 502) from rfl, zs_split, zs_split]; rfl
  rw [e, List.set_append_right _ _ (by rw [zs_len]; omega), zs_len, List.set_append_right _ _ (by rw [zs_len]; omega), zs_len]
  rfl
theorem long_next (a : List UInt8) (ha : a.length = 8) : (a ++ tail 247).set 9 246 = a ++ tail 246 := by
  rw [List.set_append_right _ _ (by omega), ha]
  rfl
theorem long_drop (a : List UInt8) (ha : a.length = 8) (x : UInt8) : (a ++ tail x).drop 8 = tail x := by
  rw [List.drop_append_of_le_length (by omega), List.drop_eq_nil_of_le (by omega), List.nil_append]
theorem drop8 (a : List UInt8) (ha : a.length = 8) (x : UInt8) : ((bytCells (a ++ tail x)).toArray.toList.drop 8).take 504 = bytCells (tail x) := by
  have e : (bytCells (a ++ tail x)).toArray.toList.drop 8 = bytCells (tail x) := by
    show (bytCells (a ++ tail x)).drop 8 = _
    rw [bytCells, ← List.map_drop, long_drop a ha]
    rfl
  rw [e, List.take_of_length_le (by rw [bytCells_len, tail_len]; omega)]
theorem rest502 : Pg.rest (zs 502) = tail 246 := by
  unfold Pg.rest tail
  rw [zs_len, Nat.sub_self, List.replicate_zero, List.append_nil]
  rfl
theorem made502 : Pg.be 8 (Pg.sum (zs 8 ++ tail 246)) ++ tail 246 = Pg.made 0 (zs 502) := by
  unfold Pg.made
  rw [rest502, be_zero]
theorem size_long (a : List UInt8) (ha : a.length = 8) (x : UInt8) : Pg.sizeOf (a ++ tail x) = 256 + x.toNat := by
  unfold Pg.sizeOf
  rw [List.getD_eq_getElem?_getD, List.getD_eq_getElem?_getD, List.getElem?_append_right (by omega), List.getElem?_append_right (by omega), ha]
  have e1 : (tail x)[8 - 8]? = some 1 := rfl
  have e2 : (tail x)[9 - 8]? = some x := rfl
  rw [e1, e2]
  show (1 : UInt8).toNat * 256 + x.toNat = 256 + x.toNat
  rw [show (1 : UInt8).toNat = 1 from rfl]
theorem unsound247 (a : List UInt8) (ha : a.length = 8) : Pg.sound 0 (a ++ tail 247) = false := by
  rw [Bool.eq_false_iff]
  intro h
  have := (Pg.sound_iff.1 h).1
  rw [size_long a ha] at this
  have e : (247 : UInt8).toNat = 247 := rfl
  omega
theorem zero_behind (i : Nat) (h8 : 8 ≤ i) (hi : i < 512) : (bytCells (Pg.made 0 []))[i]? = some (.int .u8 0) := by
  have e : Pg.rest [] = zs 504 := by
    show zs 2 ++ [] ++ zs 502 = zs 504
    rw [List.append_nil, ← zs_split]
  rw [bytCells_get, Pg.made, List.getElem?_append_right (by rw [Pg.be_length]; omega), Pg.be_length, e, zs, List.getElem?_replicate, if_pos (by omega)]
  rfl

theorem put_room {w wr : World} {g : Nat} {t : TypeId} {cs : Array Value} {v q : Nat} (h : PutRel w g t cs 0 8 v q wr) (hq : q < 8) (hs : 8 ≤ cs.size) : ∃ u, wr.cell? ⟨g, 7 - q, none⟩ = some u ∧ wr.frozen? ⟨g, 7 - q, none⟩ = false := by
  have hp := putCells_size cs 0 8 v q (by omega) (by omega)
  exact ⟨(PutCells cs 0 8 v q)[7 - q]'(by omega), by rw [h.has.cell, Array.getElem?_eq_getElem (by omega)], h.has.free _⟩
theorem rd_zero (w : World) : Rd (w.alloc (.cells #[.int .u8 0] 5)) (w.alloc (.cells #[.int .u8 0] 5)).heap.size (some ⟨w.heap.size, 0, none⟩) [0] :=
  Rd.of_has (Has.of_alloc _ _ _) rfl (by simp)
theorem reads_yes {w w' : World} {n : Nat} {l : List UInt8} {e : Ending} (h : Reads w n l e w') (hs : Pg.sound n l = true) : Gives w (Pg.payload l) e w' := by
  rcases h with ⟨_, h⟩ | ⟨h, _⟩
  · exact h
  · rw [hs] at h; cases h
theorem shift_byte (s q : Nat) : Value.int .u8 ((s : Int) / 2 ^ (8 * q) % 256) = byt (UInt8.ofNat (s / 256 ^ q % 256)) := by
  unfold byt
  rw [UInt8.toNat_ofNat', Nat.mod_eq_of_lt (a := s / 256 ^ q % 256) (Nat.mod_lt _ (by decide))]
  have h : (2 : Nat) ^ (8 * q) = 256 ^ q := by rw [Nat.pow_mul]
  have e : (2 : Int) ^ (8 * q) = ((2 ^ (8 * q) : Nat) : Int) := by simp
  rw [e, h]
  rfl
theorem put_next {w wr : World} {g : Nat} {t : TypeId} {cs : Array Value} {v q : Nat} (h : PutRel w g t cs 0 8 v q wr) (hq : q < 8) (hs : 8 ≤ cs.size) :
    PutRel w g t cs 0 8 v (q + 1) (wr.setCell ⟨g, 7 - q, none⟩ (.int .u8 ((v : Int) / 2 ^ (8 * q) % 256))) := by
  have := h.next hq (by omega) _ (shift_byte v q)
  rw [show 0 + (8 - 1 - q) = 7 - q by omega] at this
  exact this
theorem put_end {w wr : World} {g : Nat} {t : TypeId} {a : List UInt8} {x : UInt8} {v : Nat} (h : PutRel w g t (bytCells (a ++ tail x)).toArray 0 8 v 8 wr) (ha : a.length = 8) : Has wr g t (bytCells (Pg.be 8 v ++ tail x)).toArray := by
  have := h.has
  unfold PutCells at this
  rw [List.take_zero, List.nil_append] at this
  have e : (bytCells (a ++ tail x)).toArray.toList.drop (0 + 8) = bytCells (tail x) := by
    show (bytCells (a ++ tail x)).drop 8 = _
    rw [bytCells, ← List.map_drop, long_drop a ha]
    rfl
  rw [e, ← bytCells_append] at this
  exact this
theorem nine {w : World} {g : Nat} {t : TypeId} {a : List UInt8} {x : UInt8} (h : Has w g t (bytCells (a ++ tail x)).toArray) (ha : a.length = 8) : ∃ u, w.cell? ⟨g, 9, none⟩ = some u ∧ w.frozen? ⟨g, 9, none⟩ = false := by
  have hl : 9 < (bytCells (a ++ tail x)).toArray.size := by rw [List.size_toArray, bytCells_len, List.length_append, ha, tail_len]; omega
  exact ⟨(bytCells (a ++ tail x)).toArray[9], by rw [h.cell, Array.getElem?_eq_getElem hl], h.free _⟩
theorem nine_set {w : World} {g : Nat} {t : TypeId} {a : List UInt8} (h : Has w g t (bytCells (a ++ tail 247)).toArray) (ha : a.length = 8) : Has (w.setCell ⟨g, 9, none⟩ (.int .u8 246)) g t (bytCells (a ++ tail 246)).toArray := by
  have := h.set 9 (.int .u8 246)
  rw [List.setIfInBounds_toArray] at this
  rw [← long_next a ha, bytCells, List.map_set]
  exact this
set_option maxHeartbeats 3200000 in
set_option maxRecDepth 200000 in
theorem walk (W : World) : Calls Try.prog 3 #[] W fun e w' => e = .returned (.bool true) ∧ Below W.heap.size W w' := by
  have hmk := fun w => run_make_zs w 512 (by omega)
  have hmk : ∀ w, (Instr.makeSlice 25 (.int .i64 512) (.int .i64 512)).run Try.prog w = .ok (.slice (some ⟨w.heap.size, 0, none⟩) 512 512) (w.alloc (.cells (bytCells (zs 512)).toArray 5)) := hmk
  have HMK := Lib.hid hmk
  clear hmk
  go_enter Try.func3, Try.ntmps3
  go_wp2_with fail
  refine (works_any _).mono ?_
  rintro e w1 ⟨rfl, hb1⟩
  have B1 := Lib.hid hb1
  clear hb1
  go_wp2_with fail
  refine (sum_any w1 none [] 0 (Rd.nil _ _ _)).mono ?_
  rintro e w2 ⟨rfl, hb2⟩
  have B2 : Hid (Below W.heap.size W w2) := Lib.hid (B1.out.trans (hb2.mono B1.out.size))
  have e0 : Pg.sum [] = 14695981039346656037 := rfl
  rw [e0]
  clear hb2 e0
  go_wp2_with fail
  refine (encode_ok w2 0 (by omega) none [] 0 (by simp) (Rd.nil _ _ _)).mono ?_
  rintro e w3 hd
  have hml : (Pg.made 0 []).length = 512 := Pg.made_length 0 [] (by simp)
  obtain ⟨g3, rfl, hg3, hr3, hge3, hb3⟩ := hd.rd (by rw [hml]; omega)
  rw [hml]
  have B3 : Hid (Below W.heap.size W w3) := Lib.hid (B2.out.trans (hb3.mono B2.out.size))
  have G3 := Lib.hid hg3
  have HML := Lib.hid hml
  have hlt3 := hg3.lt
  clear hd hg3 hr3 hb3 hml
  go_wp2_with fail
  go_loop [3] (fun i => ∃ q : Nat, 8 ≤ q ∧ q ≤ 512 ∧ i = .int .i64 q) (fun i => 512 - (intOf i).toNat)
  case atStart => exact ⟨8, by omega, by omega, rfl⟩
  case round =>
    obtain ⟨q, hq8, hq, rfl⟩ := hrel
    by_cases hlt : q < 512
    · have hcell : w3.cell? ⟨g3, q, none⟩ = some (.int .u8 0) := by rw [G3.out.cell, List.getElem?_toArray]; exact zero_behind q hq8 hlt
      have hlt' : (q : Int) < 512 := by omega
      go_wp2_with fail
      go_round
      case rel => exact ⟨q + 1, by omega, by omega, by go_num⟩
      case measure => simp [intOf]; omega
    · obtain rfl : q = 512 := by omega
      clear hlt hq hq8
      have hmk := HMK.out
      go_wp2_with fail
      clear hmk
      have hw4 : Has (w3.alloc (.cells (((bytCells (zs 512)).set 8 (.int .u8 1)).set 9 (.int .u8 247)).toArray 5)) w3.heap.size 5 (bytCells (zs 8 ++ tail 247)).toArray := by
        have h := Has.of_alloc w3 5 (((bytCells (zs 512)).set 8 (.int .u8 1)).set 9 (.int .u8 247)).toArray
        have e : ((bytCells (zs 512)).set 8 (.int .u8 1)).set 9 (.int .u8 247) = bytCells (zs 8 ++ tail 247) := by
          rw [← long_first]
          simp only [bytCells, List.map_set]
          rfl
        show _ = some (Obj.cells (bytCells (zs 8 ++ tail 247)).toArray 5 (0, 0))
        rw [← e]
        exact h
      have hb4 : Below W.heap.size W (w3.alloc (.cells (((bytCells (zs 512)).set 8 (.int .u8 1)).set 9 (.int .u8 247)).toArray 5)) := B3.out.alloc B3.out.size _
      have hg4 : Has (w3.alloc (.cells (((bytCells (zs 512)).set 8 (.int .u8 1)).set 9 (.int .u8 247)).toArray 5)) g3 5 (bytCells (Pg.made 0 [])).toArray := G3.out.alloc _
      have hlg : W.heap.size ≤ w3.heap.size := B3.out.size
      have hne : g3 ≠ w3.heap.size := by omega
      generalize (w3.alloc (.cells (((bytCells (zs 512)).set 8 (.int .u8 1)).set 9 (.int .u8 247)).toArray 5)) = w4 at *
      generalize w3.heap.size = lg at *
      have L4 := Lib.hid hw4
      have B4 := Lib.hid hb4
      have P4 := Lib.hid hg4
      have hmk8 : ∀ w, (Instr.makeSlice 25 (.int .i64 8) (.int .i64 8)).run Try.prog w = .ok (.slice (some ⟨w.heap.size, 0, none⟩) 8 8) (w.alloc (.cells (bytCells (zs 8)).toArray 5)) := fun w => run_make_zs w 8 (by omega)
      have HM8 := Lib.hid hmk8
      have hltlg := hw4.lt
      clear hw4 hb4 hg4 hmk8 B1 B2 B3 G3 hlt3
      refine wp_region_held (S := fun w' => Has w' lg 5 (bytCells (zs 8 ++ tail 247)).toArray) (by kernel_rfl) ?_
      change wpAnyH _ _ _ _ _ _ _ _ (World.drew _)
      refine held_yield (i := 1) 69 (.slice (some ⟨lg, 0, none⟩) 512 512) rfl rfl (by kernel_rfl) (by kernel_rfl) (by kernel_rfl) (fun _ _ _ h => h) rfl ?_ L4.out ?_
      · intro w' hw'; go_simp
      simp only [Act.put, List.setIfInBounds_toArray, List.set_cons_succ, List.set_cons_zero]
      refine held_yield (i := 2) 70 (.slice (some ⟨lg, 8, none⟩) 504 504) rfl rfl (by kernel_rfl) (by kernel_rfl) (by kernel_rfl) (fun _ _ _ h => h) rfl ?_ L4.out ?_
      · intro w' hw'; go_simp
      simp only [Act.put, List.setIfInBounds_toArray, List.set_cons_succ, List.set_cons_zero]
      refine held_one (i := 0) (by kernel_rfl) rfl rfl ?_
      intro K hK
      have hmk8 := HM8.out
      go_simp
      clear hmk8
      have o5 : Own (w4.alloc (.cells (bytCells (zs 8)).toArray 5)).drew W.heap.size w4.heap.size 8 (zs 8) := Own.of_has (w := (w4.alloc (.cells (bytCells (zs 8)).toArray 5)).drew) (Has.of_alloc w4 5 _) _ B4.out.size (zs_len 8).symm (by rw [zs_len]; omega)
      have b5 : Below W.heap.size W (w4.alloc (.cells (bytCells (zs 8)).toArray 5)).drew := Below.drew (B4.out.alloc B4.out.size _)
      have l5 : Has (w4.alloc (.cells (bytCells (zs 8)).toArray 5)).drew lg 5 (bytCells (zs 8 ++ tail 247)).toArray := Has.alloc (w := w4) L4.out _
      have p5 : Has (w4.alloc (.cells (bytCells (zs 8)).toArray 5)).drew g3 5 (bytCells (Pg.made 0 [])).toArray := Has.alloc (w := w4) P4.out _
      refine hK _ _ l5 ?_
      clear hK K
      have hltw : w4.heap.size < (w4.alloc (.cells (bytCells (zs 8)).toArray 5)).drew.heap.size := o5.base.2
      have hltg : g3 < w4.heap.size := P4.out.lt
      have hltl : lg < w4.heap.size := L4.out.lt
      generalize ((w4.alloc (.cells (bytCells (zs 8)).toArray 5)).drew) = w5 at *
      generalize w4.heap.size = g5 at *
      have O5 := Lib.hid o5
      have B5 := Lib.hid b5
      have L5 := Lib.hid l5
      have P5 := Lib.hid p5
      have R5 : Hid (Rd w5 w5.heap.size (some ⟨lg, 8, none⟩) (tail 247)) := Lib.hid (Rd.of_has l5 (by rw [tail_len]; exact drop8 _ (zs_len 8) _) (by rw [tail_len]; omega))
      clear o5 b5 l5 p5
      refine held_one (i := 3) (by kernel_rfl) rfl rfl ?_
      intro K hK
      refine wp_append_rd (.tmp 68) (.tmp 70) rfl W.heap.size g5 8 8 512 (zs 8) (zs_len 8).symm rfl O5.out _ _ (tail 247) 504 (by rw [tail_len]; rfl) R5.out (fun e => by cases e) (by rw [zs_len, tail_len]) (by omega) B5.out.size W B5.out ?_
      intro g6 c6 w6 o6 b6 f6
      have l6 : Has w6 lg 5 (bytCells (zs 8 ++ tail 247)).toArray := L5.out.keep f6.1 (by show ¬ lg = g5; omega)
      have p6 : Has w6 g3 5 (bytCells (Pg.made 0 [])).toArray := P5.out.keep f6.1 (by show ¬ g3 = g5; omega)
      refine wp_of_dst (some 71) rfl _ ?_
      refine hK _ _ l6 ?_
      clear hK K
      simp only [Act.put, List.setIfInBounds_toArray, List.set_cons_succ, List.set_cons_zero]
      have hN6 : (zs 8 ++ tail 247).length = 512 := by rw [List.length_append, zs_len, tail_len]
      have hs6 := sum_any w6 _ (zs 8 ++ tail 247) c6 (o6.rd (by rw [hN6]; omega))
      rw [hN6] at hs6
      have HS6 := Lib.hid hs6
      have B6 := Lib.hid b6
      have L6 := Lib.hid l6
      have P6 := Lib.hid p6
      have hsl4 := Pg.sum_lt (zs 8 ++ tail 247)
      clear hs6 b6 l6 p6 o6 f6 hN6 O5 B5 L5 P5 R5 L4 P4 B4
      generalize hsum : Pg.sum (zs 8 ++ tail 247) = s4 at *
      have HSUM4 := Lib.hid hsum
      clear hsum
      refine held_one (i := 4) (by kernel_rfl) rfl rfl ?_
      intro K hK
      go_simp
      refine HS6.out.mono ?_
      rintro e w7 ⟨rfl, hb7⟩
      have B7 : Hid (Below W.heap.size W w7) := Lib.hid (B6.out.trans (hb7.mono B6.out.size))
      have L7 : Hid (Has w7 lg 5 (bytCells (zs 8 ++ tail 247)).toArray) := Lib.hid (L6.out.keep (Fr.of_below hb7 noB) (fun h => h))
      have P7 : Hid (Has w7 g3 5 (bytCells (Pg.made 0 [])).toArray) := Lib.hid (P6.out.keep (Fr.of_below hb7 noB) (fun h => h))
      refine hK _ _ L7.out ?_
      clear hK K hb7 HS6 B6 L6 P6
      refine held_yield (i := 5) 5 (.int .u64 (s4 : Int)) rfl rfl (by kernel_rfl) (by kernel_rfl) (by kernel_rfl) (fun _ _ _ h => h) rfl ?_ L7.out ?_
      · intro w' hw'; go_simp
      simp only [Act.put, List.setIfInBounds_toArray, List.set_cons_succ, List.set_cons_zero]
      refine wpAnyH_done (by kernel_rfl) ?_ 0
      go_wp2_with fail
      go_loopw [6] (fun i wr => ∃ q : Nat, q ≤ 8 ∧ i = .int .i64 q ∧ PutRel w7 lg 5 (bytCells (zs 8 ++ tail 247)).toArray 0 8 s4 q wr) (fun i _ => 8 - (intOf i).toNat)
      case atStart => exact ⟨0, Nat.zero_le _, rfl, by rw [putCells_zero]; exact L7.out, Fr.refl _ _, rfl⟩
      case round =>
        rename_i wr
        obtain ⟨q, hq, rfl, hr⟩ := hrel
        have HR := Lib.hid hr
        clear hr
        have hsz8 : (bytCells (zs 8 ++ tail 247)).toArray.size = 512 := by rw [List.size_toArray, bytCells_len, List.length_append, zs_len 8, tail_len]
        have HSZ8 := Lib.hid hsz8
        clear hsz8
        by_cases hlt : q < 8
        · have hlt' : (q : Int) < 8 := by omega
          obtain ⟨u, hcu, hfu⟩ := put_room HR.out hlt (by rw [HSZ8.out]; omega)
          have h7 : (7 : Int) - (q : Int) = ((7 - q : Nat) : Int) := by omega
          have h7' : ((7 - q : Nat) : Int) < 512 := by omega
          go_wp2_with fail
          go_roundw
          case rel => exact ⟨q + 1, by omega, by go_num, put_next HR.out hlt (by rw [HSZ8.out]; omega)⟩
          case measure => (simp [intOf]) <;> omega
        · obtain rfl : q = 8 := by omega
          have hl8 : Has wr lg 5 (bytCells (Pg.be 8 s4 ++ tail 247)).toArray := put_end HR.out (zs_len 8)
          have hp8 : Has wr g3 5 (bytCells (Pg.made 0 [])).toArray := P7.out.keep HR.out.fr (by show ¬ g3 = lg; omega)
          have B8 : Hid (Below W.heap.size W wr) := Lib.hid (below_one B7.out HR.out.fr hlg)
          have L8 := Lib.hid hl8
          have P8 := Lib.hid hp8
          clear hlt hq hl8 hp8 HR HSZ8 B7 L7 P7
          generalize wr = w8 at *
          have hN8 : (Pg.be 8 s4 ++ tail 247).length = 512 := by rw [List.length_append, Pg.be_length, tail_len]
          have hd8 := decode_ok w8 0 (by omega) (some ⟨lg, 0, none⟩) _ 512 hN8 (Rd.of_has L8.out (by rw [List.drop_zero, ← bytCells_len, List.take_length]) (by rw [hN8]; omega))
          have HD8 := Lib.hid hd8
          have hun := unsound247 (Pg.be 8 s4) (Pg.be_length 8 s4)
          clear hd8 hN8
          go_wp2_with fail
          refine HD8.out.mono ?_
          rintro e w9 hd
          rcases hd with ⟨hd, _⟩ | ⟨_, rfl, hb9⟩
          · rw [hun] at hd; cases hd
          have B9 : Hid (Below W.heap.size W w9) := Lib.hid (B8.out.trans (hb9.mono B8.out.size))
          have L9 : Hid (Has w9 lg 5 (bytCells (Pg.be 8 s4 ++ tail 247)).toArray) := Lib.hid (L8.out.keep (Fr.of_below hb9 noB) (fun h => h))
          have P9 : Hid (Has w9 g3 5 (bytCells (Pg.made 0 [])).toArray) := Lib.hid (P8.out.keep (Fr.of_below hb9 noB) (fun h => h))
          clear hb9 hun HD8 B8 L8 P8
          obtain ⟨u9, hcu9, hfu9⟩ := nine L9.out (Pg.be_length 8 s4)
          go_wp2_with fail
          have l10 : Has (w9.setCell ⟨lg, 9, none⟩ (.int .u8 246)) lg 5 (bytCells (Pg.be 8 s4 ++ tail 246)).toArray := nine_set L9.out (Pg.be_length 8 s4)
          have p10 : Has (w9.setCell ⟨lg, 9, none⟩ (.int .u8 246)) g3 5 (bytCells (Pg.made 0 [])).toArray := P9.out.far (p := ⟨lg, 9, none⟩) hne _
          have b10 : Below W.heap.size W (w9.setCell ⟨lg, 9, none⟩ (.int .u8 246)) := B9.out.setCell hlg _
          generalize (w9.setCell ⟨lg, 9, none⟩ (.int .u8 246)) = w10 at *
          have L10 := Lib.hid l10
          have P10 := Lib.hid p10
          have B10 := Lib.hid b10
          clear l10 p10 b10 L9 P9 B9 hcu9 hfu9
          have ha8 := Pg.be_length 8 s4
          generalize Pg.be 8 s4 = a8 at *
          have HA8 := Lib.hid ha8
          clear ha8
          refine wp_region_held (S := fun w' => Has w' lg 5 (bytCells (a8 ++ tail 246)).toArray) (by kernel_rfl) ?_
          change wpAnyH _ _ _ _ _ _ _ _ (World.drew _)
          refine held_yield (i := 1) 94 (.slice (some ⟨lg, 0, none⟩) 512 512) rfl rfl (by kernel_rfl) (by kernel_rfl) (by kernel_rfl) (fun _ _ _ h => h) rfl ?_ L10.out ?_
          · intro w' hw'; go_simp
          simp only [Act.put, List.setIfInBounds_toArray, List.set_cons_succ, List.set_cons_zero]
          refine held_yield (i := 2) 95 (.slice (some ⟨lg, 8, none⟩) 504 504) rfl rfl (by kernel_rfl) (by kernel_rfl) (by kernel_rfl) (fun _ _ _ h => h) rfl ?_ L10.out ?_
          · intro w' hw'; go_simp
          simp only [Act.put, List.setIfInBounds_toArray, List.set_cons_succ, List.set_cons_zero]
          refine held_one (i := 0) (by kernel_rfl) rfl rfl ?_
          intro K hK
          have hmk8 := HM8.out
          go_simp
          clear hmk8
          have o5 : Own (w10.alloc (.cells (bytCells (zs 8)).toArray 5)).drew W.heap.size w10.heap.size 8 (zs 8) := Own.of_has (w := (w10.alloc (.cells (bytCells (zs 8)).toArray 5)).drew) (Has.of_alloc w10 5 _) _ B10.out.size (zs_len 8).symm (by rw [zs_len]; omega)
          have b5 : Below W.heap.size W (w10.alloc (.cells (bytCells (zs 8)).toArray 5)).drew := Below.drew (B10.out.alloc B10.out.size _)
          have l5 : Has (w10.alloc (.cells (bytCells (zs 8)).toArray 5)).drew lg 5 (bytCells (a8 ++ tail 246)).toArray := Has.alloc (w := w10) L10.out _
          have p5 : Has (w10.alloc (.cells (bytCells (zs 8)).toArray 5)).drew g3 5 (bytCells (Pg.made 0 [])).toArray := Has.alloc (w := w10) P10.out _
          refine hK _ _ l5 ?_
          clear hK K
          have hltw : w10.heap.size < (w10.alloc (.cells (bytCells (zs 8)).toArray 5)).drew.heap.size := o5.base.2
          have hltg : g3 < w10.heap.size := P10.out.lt
          have hltl : lg < w10.heap.size := L10.out.lt
          generalize ((w10.alloc (.cells (bytCells (zs 8)).toArray 5)).drew) = w5 at *
          generalize w10.heap.size = g5 at *
          have O5 := Lib.hid o5
          have B5 := Lib.hid b5
          have L5 := Lib.hid l5
          have P5 := Lib.hid p5
          have R5 : Hid (Rd w5 w5.heap.size (some ⟨lg, 8, none⟩) (tail 246)) := Lib.hid (Rd.of_has l5 (by rw [tail_len]; exact drop8 _ HA8.out _) (by rw [tail_len]; omega))
          clear o5 b5 l5 p5
          refine held_one (i := 3) (by kernel_rfl) rfl rfl ?_
          intro K hK
          refine wp_append_rd (.tmp 93) (.tmp 95) rfl W.heap.size g5 8 8 512 (zs 8) (zs_len 8).symm rfl O5.out _ _ (tail 246) 504 (by rw [tail_len]; rfl) R5.out (fun e => by cases e) (by rw [zs_len, tail_len]) (by omega) B5.out.size W B5.out ?_
          intro g6 c6 w6 o6 b6 f6
          have l6 : Has w6 lg 5 (bytCells (a8 ++ tail 246)).toArray := L5.out.keep f6.1 (by show ¬ lg = g5; omega)
          have p6 : Has w6 g3 5 (bytCells (Pg.made 0 [])).toArray := P5.out.keep f6.1 (by show ¬ g3 = g5; omega)
          refine wp_of_dst (some 96) rfl _ ?_
          refine hK _ _ l6 ?_
          clear hK K
          simp only [Act.put, List.setIfInBounds_toArray, List.set_cons_succ, List.set_cons_zero]
          have hN6 : (zs 8 ++ tail 246).length = 512 := by rw [List.length_append, zs_len, tail_len]
          have hs6 := sum_any w6 _ (zs 8 ++ tail 246) c6 (o6.rd (by rw [hN6]; omega))
          rw [hN6] at hs6
          have HS6 := Lib.hid hs6
          have B6 := Lib.hid b6
          have L6 := Lib.hid l6
          have P6 := Lib.hid p6
          have hsl10 := Pg.sum_lt (zs 8 ++ tail 246)
          clear hs6 b6 l6 p6 o6 f6 hN6 O5 B5 L5 P5 R5 L10 P10 B10
          generalize hsum : Pg.sum (zs 8 ++ tail 246) = s10 at *
          have HSUM10 := Lib.hid hsum
          clear hsum
          refine held_one (i := 4) (by kernel_rfl) rfl rfl ?_
          intro K hK
          go_simp
          refine HS6.out.mono ?_
          rintro e w7 ⟨rfl, hb7⟩
          have B7 : Hid (Below W.heap.size W w7) := Lib.hid (B6.out.trans (hb7.mono B6.out.size))
          have L7 : Hid (Has w7 lg 5 (bytCells (a8 ++ tail 246)).toArray) := Lib.hid (L6.out.keep (Fr.of_below hb7 noB) (fun h => h))
          have P7 : Hid (Has w7 g3 5 (bytCells (Pg.made 0 [])).toArray) := Lib.hid (P6.out.keep (Fr.of_below hb7 noB) (fun h => h))
          refine hK _ _ L7.out ?_
          clear hK K hb7 HS6 B6 L6 P6
          refine held_yield (i := 5) 5 (.int .u64 (s10 : Int)) rfl rfl (by kernel_rfl) (by kernel_rfl) (by kernel_rfl) (fun _ _ _ h => h) rfl ?_ L7.out ?_
          · intro w' hw'; go_simp
          simp only [Act.put, List.setIfInBounds_toArray, List.set_cons_succ, List.set_cons_zero]
          refine wpAnyH_done (by kernel_rfl) ?_ 0
          go_wp2_with fail
          go_loopw [9] (fun i wr => ∃ q : Nat, q ≤ 8 ∧ i = .int .i64 q ∧ PutRel w7 lg 5 (bytCells (a8 ++ tail 246)).toArray 0 8 s10 q wr) (fun i _ => 8 - (intOf i).toNat)
          case atStart => exact ⟨0, Nat.zero_le _, rfl, by rw [putCells_zero]; exact L7.out, Fr.refl _ _, rfl⟩
          case round =>
            rename_i wr
            obtain ⟨q, hq, rfl, hr⟩ := hrel
            have HR := Lib.hid hr
            clear hr
            have hsz8 : (bytCells (a8 ++ tail 246)).toArray.size = 512 := by rw [List.size_toArray, bytCells_len, List.length_append, HA8.out, tail_len]
            have HSZ8 := Lib.hid hsz8
            clear hsz8
            by_cases hlt : q < 8
            · have hlt' : (q : Int) < 8 := by omega
              obtain ⟨u, hcu, hfu⟩ := put_room HR.out hlt (by rw [HSZ8.out]; omega)
              have h7 : (7 : Int) - (q : Int) = ((7 - q : Nat) : Int) := by omega
              have h7' : ((7 - q : Nat) : Int) < 512 := by omega
              go_wp2_with fail
              go_roundw
              case rel => exact ⟨q + 1, by omega, by go_num, put_next HR.out hlt (by rw [HSZ8.out]; omega)⟩
              case measure => (simp [intOf]) <;> omega
            · obtain rfl : q = 8 := by omega
              have hl8 : Has wr lg 5 (bytCells (Pg.be 8 s10 ++ tail 246)).toArray := put_end HR.out (HA8.out)
              have hp8 : Has wr g3 5 (bytCells (Pg.made 0 [])).toArray := P7.out.keep HR.out.fr (by show ¬ g3 = lg; omega)
              have B8 : Hid (Below W.heap.size W wr) := Lib.hid (below_one B7.out HR.out.fr hlg)
              have L8 := Lib.hid hl8
              have P8 := Lib.hid hp8
              clear hlt hq hl8 hp8 HR HSZ8 B7 L7 P7
              generalize wr = w11 at *
              rw [← HSUM10.out, made502] at L8
              have hN11 : (Pg.made 0 (zs 502)).length = 512 := Pg.made_length 0 _ (by rw [zs_len]; omega)
              have hd11 := decode_ok w11 0 (by omega) (some ⟨lg, 0, none⟩) _ 512 hN11 (Rd.of_has L8.out (by rw [List.drop_zero, ← bytCells_len, List.take_length]) (by rw [hN11]; omega))
              have HD11 := Lib.hid hd11
              have hsn : Hid (Pg.sound 0 (Pg.made 0 (zs 502)) = true) := Lib.hid (Pg.sound_made 0 _ (by rw [zs_len]; omega))
              have hpy : Pg.payload (Pg.made 0 (zs 502)) = zs 502 := Pg.payload_made 0 _ (by rw [zs_len]; omega)
              have HPY := Lib.hid hpy
              clear hd11 hN11 hpy
              go_wp2_with fail
              refine HD11.out.mono ?_
              rintro e w12 hd
              have hd := reads_yes hd hsn.out
              rw [HPY.out] at hd
              obtain ⟨g12, rfl, _, _, _, hb12⟩ := hd.rd (by rw [zs_len]; omega)
              rw [zs_len]
              have B12 : Hid (Below W.heap.size W w12) := Lib.hid (B8.out.trans (hb12.mono B8.out.size))
              have hp12 : Has w12 g3 5 (bytCells (Pg.made 0 [])).toArray := P8.out.keep (Fr.of_below hb12 noB) (fun h => h)
              have P12 := Lib.hid hp12
              clear hd hb12 hp12 hsn HD11 B8 L8 P8 HPY HSUM4 HSUM10
              have hrp : Rd w12 w12.heap.size (some ⟨g3, 0, none⟩) (Pg.made 0 []) := Rd.of_has P12.out (by rw [List.drop_zero, ← bytCells_len, List.take_length]) (by rw [HML.out]; omega)
              have hd13 := decode_ok w12 0 (by omega) (some ⟨g3, 0, none⟩) _ 512 HML.out hrp
              have HD13 := Lib.hid hd13
              clear hd13 hrp
              go_wp2_with fail
              refine HD13.out.mono ?_
              rintro e w13 hd
              have hd := reads_yes hd (Pg.sound_made 0 [] (by simp))
              rw [Pg.payload_made 0 [] (by simp)] at hd
              obtain ⟨g13, rfl, _, _, _, hb13⟩ := hd.rd (by simp)
              have B13 : Hid (Below W.heap.size W w13) := Lib.hid (B12.out.trans (hb13.mono B12.out.size))
              have P13 : Hid (Has w13 g3 5 (bytCells (Pg.made 0 [])).toArray) := Lib.hid (P12.out.keep (Fr.of_below hb13 noB) (fun h => h))
              clear hd hb13 HD13 B12 P12
              have hmk502 : ∀ w, (Instr.makeSlice 25 (.int .i64 502) (.int .i64 502)).run Try.prog w = .ok (.slice (some ⟨w.heap.size, 0, none⟩) 502 502) (w.alloc (.cells (bytCells (zs 502)).toArray 5)) := fun w => run_make_zs w 502 (by omega)
              go_wp2_with fail
              clear hmk502
              have hz502 : (zs 502).length = 502 := zs_len 502
              have he14 := encode_ok (w13.alloc (.cells (bytCells (zs 502)).toArray 5)) 7 (by omega) (some ⟨w13.heap.size, 0, none⟩) (zs 502) 502 (by omega) (Rd.of_has (Has.of_alloc _ _ _) (by rw [List.drop_zero, ← bytCells_len, List.take_length]) (by omega))
              rw [hz502] at he14
              refine he14.mono ?_
              rintro e w14 hd
              obtain ⟨g14, rfl, _, _, _, hb14⟩ := hd.rd (by rw [Pg.made_length 7 _ (by rw [zs_len]; omega)]; omega)
              have B14 : Hid (Below W.heap.size W w14) := Lib.hid ((B13.out.alloc B13.out.size _).trans (hb14.mono (by have := B13.out.size; simp; omega)))
              have P14 : Hid (Has w14 g3 5 (bytCells (Pg.made 0 [])).toArray) := Lib.hid ((P13.out.alloc _).keep (Fr.of_below hb14 noB) (fun h => h))
              generalize (Pg.made 7 (zs 502)).length = m14 at *
              clear hd hb14 he14 hz502 B13 P13
              have hmk503 : ∀ w, (Instr.makeSlice 25 (.int .i64 503) (.int .i64 503)).run Try.prog w = .ok (.slice (some ⟨w.heap.size, 0, none⟩) 503 503) (w.alloc (.cells (bytCells (zs 503)).toArray 5)) := fun w => run_make_zs w 503 (by omega)
              go_wp2_with fail
              clear hmk503
              refine (encode_bad (w14.alloc (.cells (bytCells (zs 503)).toArray 5)) 7 _ 503 503 (by omega) (by omega)).mono ?_
              rintro e w15 ⟨rfl, rfl⟩
              have b15 : Below W.heap.size W (w14.alloc (.cells (bytCells (zs 503)).toArray 5)) := B14.out.alloc B14.out.size _
              have p15 : Has (w14.alloc (.cells (bytCells (zs 503)).toArray 5)) g3 5 (bytCells (Pg.made 0 [])).toArray := P14.out.alloc _
              generalize (w14.alloc (.cells (bytCells (zs 503)).toArray 5)) = w15 at *
              have B15 := Lib.hid b15
              have P15 := Lib.hid p15
              clear b15 p15 B14 P14
              go_wp2_with fail
              refine (encode_bad w15 16384 _ 0 0 (by omega) (by omega)).mono ?_
              rintro e w' ⟨rfl, rfl⟩
              go_wp2_with fail
              refine (encode_bad w15 (-1) _ 0 0 (by omega) (by omega)).mono ?_
              rintro e w' ⟨rfl, rfl⟩
              go_wp2_with fail
              refine (decode_bad w15 0 _ 511 _ (by omega)).mono ?_
              rintro e w' ⟨rfl, rfl⟩
              go_wp2_with fail
              refine (decode_bad w15 16384 _ 512 _ (by omega)).mono ?_
              rintro e w' ⟨rfl, rfl⟩
              have R15 : Hid (Rd (w15.alloc (.cells #[] 5)) (w15.alloc (.cells #[] 5)).heap.size (some ⟨g3, 0, none⟩) (Pg.made 0 [])) := Lib.hid (Rd.of_has (P15.out.alloc _) (by rw [List.drop_zero, ← bytCells_len, List.take_length]) (by rw [HML.out]; omega))
              go_wp2_with (first
                | (refine wpList_append_rd rfl (.tmp 162) (.tmp 163) rfl W.heap.size w15.heap.size 0 0 512 [] rfl rfl (Own.none_ w15 _ B15.out.size) _ (some ⟨g3, 0, none⟩) (Pg.made 0 []) 512 (by rw [HML.out]; rfl) R15.out (fun e => by cases e) (by rw [HML.out]; rfl) (by omega) (by have := B15.out.size; simp; omega) W (B15.out.alloc B15.out.size _) ?_; intro g16 c16 w16 O16 B16 F16)
                | (refine wpList_append_rd rfl (.tmp 164) (.tmp 165) rfl W.heap.size g16 c16 512 513 ([] ++ Pg.made 0 []) (by rw [List.nil_append, HML.out]) rfl (O16.out.alloc _) _ (some ⟨w16.heap.size, 0, none⟩) [0] 1 rfl (rd_zero w16) (fun e => by cases e) (by rw [List.nil_append, HML.out]; rfl) (by omega) (by have := B16.out.size; simp; omega) W (B16.out.alloc B16.out.size _) ?_; intro g17 c17 w17 O17 B17 F17))
              refine (decode_bad w17 0 _ 513 _ (by omega)).mono ?_
              rintro e w' ⟨rfl, rfl⟩
              go_wp2_with fail
              refine (decode_bad w17 (-1) _ 0 0 (by omega)).mono ?_
              rintro e w' ⟨rfl, rfl⟩
              go_wp2_with fail
              refine (encode_ok w17 16383 (by omega) none [] 0 (by simp) (Rd.nil _ _ _)).mono ?_
              rintro e w18 hd
              obtain ⟨g18, rfl, _, _, _, hb18⟩ := hd.rd (by rw [Pg.made_length 16383 [] (by simp)]; omega)
              have B18 : Hid (Below W.heap.size W w18) := Lib.hid (B17.out.trans (hb18.mono B17.out.size))
              generalize (Pg.made 16383 []).length = m18 at *
              clear hd hb18
              go_wp2_with fail
              go_ret
              exact ⟨rfl, B18.out⟩
-- END OF THE WALK

set_option maxRecDepth 100000 in
theorem lifted (os : Os) (started : os.Started) (H : Type) (enc : TypeId × Value → H) :
    ReturnsInHanded {} Try.checked os 3 .any (Rows.pageNamesSpec.pre6 enc Try.prog Try.f3 Rows.pageNamesRow.domain false) (Rows.pageNamesSpec.post enc Try.prog Try.f3 false true false false) := by
  refine returnsInHanded_of_change_sized (C := Try.checked) own started (by kernel_rfl) Try.func3
    (ChangeSpec.witness6 (enc := enc) (C := Try.checked) false ⟨#[], #[], []⟩ 8 (by kernel_rfl) (by kernel_rfl) (by kernel_rfl) (by kernel_rfl)) ?_
  intro W base args ds gs before _ hW _ _ _
  have hW' := hW
  obtain ⟨p, q, hA0, hV, rfl, hfz, hnd⟩ := hW
  have hA : DataW.TrodAll enc Try.prog W 0 (fun _ => true) true Try.f3.params.toList args.toList ds p := hA0
  rw [Try.params3] at hA
  obtain ⟨hz, rfl, rfl⟩ := trodAll_nil hA
  obtain rfl : args = #[] := by cases args; simp_all
  obtain ⟨rfl, rfl⟩ := trodVars_none hV
  clear hA0
  refine (walk W).mono fun e W' ⟨he, hnx⟩ => ?_
  subst he
  refine ⟨_, rfl, _, _, _, [], [], [], hW', ?_, ?_, rfl, hnx.frame _, fun h => by cases h⟩
  · exact trodAll_cons_mk (shut_bool Try.underlying4 _) trodAll_mk0
  · exact trodAll_mk0

theorem proved : Rows.PageNamesSaid :=
  OpenClaim.holds_of_wide 3 Try.f3 rfl rfl rfl rfl rfl rfl rfl ⟨rfl, rfl, rfl, rfl, rfl⟩ rfl rfl rfl rfl rfl (by kernel_rfl) Try.func3 (by kernel_rfl)
    (of_decide_eq_true (by kernel_rfl)) (by unfold Func.isWrapper; first | (rw [if_pos (by decide +kernel)]; kernel_rfl) | (rw [if_neg (by decide +kernel)]; exact ⟨rfl, rfl⟩))
    (fun os started H enc _ => lifted os started H enc)
end Go.Proofs.Ytnghpklegomaeaa.pnames

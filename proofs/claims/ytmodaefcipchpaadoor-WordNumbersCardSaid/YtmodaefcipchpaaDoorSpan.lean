/-
  The table of the bytes' kinds: the closure that fills a span of it (byteKinds$1), by its own contract.
-/
import Derived.Test.YtmodaefcipchpaaDoorRows
import Derived.WalkKit
import Derived.WalkSpells
import Derived.WalkLawsBesides
import Derived.Lib.Hide
import Derived.Deep.WholeRow
namespace Go.Proofs.YtmodaefcipchpaaDoor
open Go.RowKit

/-- n cells from lo on hold v -/
def fillN (cs : Array Value) (v : Value) (lo : Nat) : Nat → Array Value
  | 0 => cs
  | n + 1 => (fillN cs v lo n).setIfInBounds (lo + n) v

theorem fillN_size (cs : Array Value) (v : Value) (lo n : Nat) : (fillN cs v lo n).size = cs.size := by
  induction n with
  | zero => rfl
  | succ n ih => simp [fillN, ih]

theorem setRow_twice (w : World) (B : Nat) (a b : Array Value) : (w.setRow B a).setRow B b = w.setRow B b := by
  simp only [World.setRow]
  congr 1
  apply Array.ext_getElem?
  intro i
  simp only [Array.getElem?_modify]
  split
  · cases w.heap[i]? with
    | none => rfl
    | some o => cases o <;> rfl
  · rfl

theorem setRow_same (w : World) (B : Nat) (cs : Array Value) (t : TypeId) (fr : Nat × Nat) (h : w.heap[B]? = some (.cells cs t fr)) : w.setRow B cs = w := by
  unfold World.setRow
  cases w with
  | mk heap tape drawn os output =>
    simp only [World.mk.injEq, and_true]
    apply Array.ext_getElem?
    intro i
    rw [Array.getElem?_modify]
    split
    · subst_vars; simp only at h; rw [h]; rfl
    · rfl

theorem fill_step (w : World) (B : Nat) (cs : Array Value) (t : TypeId) (v : Value) (a : Int) (n : Nat) (ha : 0 ≤ a) (hB : w.heap[B]? = some (.cells cs t (0, 0))) :
    (w.setRow B (fillN cs v a.toNat n)).setCell ⟨B, (a + n).toNat, none⟩ v = w.setRow B (fillN cs v a.toNat (n + 1)) := by
  rw [setCell_eq_setRow _ B (a + n).toNat _ _ (0, 0) v (setRow_heap w B cs _ _ _ hB), setRow_twice]
  congr 1
  simp only [fillN]
  congr 1
  omega

theorem fill_cell (w : World) (B : Nat) (cs : Array Value) (t : TypeId) (v : Value) (lo n i : Nat) (hB : w.heap[B]? = some (.cells cs t (0, 0))) (h : i < cs.size) :
    ∃ x, (w.setRow B (fillN cs v lo n)).cell? ⟨B, i, none⟩ = some x := by
  rw [cell_of_row _ B i _ _ _ (setRow_heap w B cs _ _ _ hB)]
  exact ⟨(fillN cs v lo n)[i]'(by rw [fillN_size]; exact h), Array.getElem?_eq_getElem _⟩

theorem fill_free (w : World) (B : Nat) (cs : Array Value) (t : TypeId) (v : Value) (lo n i : Nat) (hB : w.heap[B]? = some (.cells cs t (0, 0))) :
    (w.setRow B (fillN cs v lo n)).frozen? ⟨B, i, none⟩ = false :=
  frozen_of_row _ B i _ _ (setRow_heap w B cs _ _ _ hB)

set_option maxHeartbeats 400000 in
theorem span_any (k a b : Int) (ha : 0 ≤ a) (hab : a ≤ b) (hb : b ≤ 255) (B : Nat) (cs : Array Value) (w : World)
    (hB : w.heap[B]? = some (.cells cs 37 (0, 0))) (hs : cs.size = 256) :
    Calls Tryd.prog 25 #[.int .u8 k, .int .u8 a, .int .u8 b, .pointer (some ⟨B, 0, none⟩)] w fun e w' =>
      e = .returned (.tuple #[]) ∧ w' = w.setRow B (fillN cs (.int .u8 k) a.toNat (b.toNat + 1 - a.toNat)) := by
  go_enter Tryd.func25, Tryd.ntmps25
  go_wp2
  go_loopw [13] (fun i wr => ∃ n : Nat, (n : Int) ≤ b - a + 1 ∧ i = .int .i64 n ∧ wr = w.setRow B (fillN cs (.int .u8 k) a.toNat n)) (fun i _ => 300 - (intOf i).toNat)
  case atStart => exact ⟨0, by omega, rfl, (setRow_same w B cs _ _ hB).symm⟩
  case round =>
    obtain ⟨n, hn, rfl, rfl⟩ := hrel
    by_cases hlt : (n : Int) < b - a + 1
    · obtain ⟨x, hx⟩ := fill_cell w B cs _ (.int .u8 k) a.toNat n (a + n).toNat hB (by omega)
      have hf := fill_free w B cs _ (.int .u8 k) a.toNat n (a + n).toNat hB
      go_wp2_with fail
      go_roundw
      case rel => exact ⟨n + 1, by omega, by go_num, fill_step w B cs _ _ a n ha hB⟩
      case measure => simp [intOf]; omega
    · have hx : (b.toNat + 1 - a.toNat) = n := by omega
      have Hx := Lib.hid hx
      clear hx
      go_wp2_with fail
      go_end0
      exact ⟨rfl, by rw [Hx.out]⟩

/-- the same, over the block that was made last -/
theorem span_new (k a b : Int) (ha : 0 ≤ a) (hab : a ≤ b) (hb : b ≤ 255) (cs : Array Value) (w : World) (N : Nat) (hN : N = w.heap.size) (hs : cs.size = 256) :
    Calls Tryd.prog 25 #[.int .u8 k, .int .u8 a, .int .u8 b, .pointer (some ⟨N, 0, none⟩)] (w.alloc (.cells cs 37)) fun e w' =>
      e = .returned (.tuple #[]) ∧ w' = w.alloc (.cells (fillN cs (.int .u8 k) a.toNat (b.toNat + 1 - a.toNat)) 37) := by
  subst hN
  refine (span_any k a b ha hab hb w.heap.size cs _ (heap_alloc_last w _) hs).mono ?_
  rintro e w' ⟨rfl, rfl⟩
  exact ⟨rfl, World.setRow_alloc_new _ _ _ _⟩

def zeros : Array Value := Array.replicate 256 (.int .u8 0)
theorem zeros_size : zeros.size = 256 := by simp [zeros]
/-- the table of the bytes' kinds, as it is filled -/
def kinds1 : Array Value := fillN zeros (.int .u8 3) 32 95
def kinds2 : Array Value := fillN kinds1 (.int .u8 5) 97 26
def kinds3 : Array Value := fillN kinds2 (.int .u8 5) 65 26
def kinds4 : Array Value := fillN kinds3 (.int .u8 4) 48 10
def kinds5 : Array Value := fillN kinds4 (.int .u8 4) 45 2
def kinds6 : Array Value := fillN kinds5 (.int .u8 4) 95 1
def kinds7 : Array Value := fillN kinds6 (.int .u8 2) 34 1
def kinds8 : Array Value := fillN kinds7 (.int .u8 2) 92 1
def kindsArr : Array Value := fillN kinds8 (.int .u8 1) 10 1
theorem kinds_size : kinds1.size = 256 ∧ kinds2.size = 256 ∧ kinds3.size = 256 ∧ kinds4.size = 256 ∧ kinds5.size = 256 ∧ kinds6.size = 256 ∧ kinds7.size = 256 ∧ kinds8.size = 256 ∧ kindsArr.size = 256 := by
  simp [kindsArr, kinds8, kinds7, kinds6, kinds5, kinds4, kinds3, kinds2, kinds1, fillN_size, zeros_size]

theorem info256 : (Tryd.prog.info? 37).map (fun i => (i.zero, i.size)) = some (some (.agg zeros), 256) := by kernel_rfl
theorem under256 : Tryd.prog.underlying 37 = some (.array 256 5) := by kernel_rfl

theorem span1 (w : World) (N : Nat) (hN : N = w.heap.size) :
    Calls Tryd.prog 25 #[.int .u8 3, .int .u8 32, .int .u8 126, .pointer (some ⟨N, 0, none⟩)] (w.alloc (.cells zeros 37)) fun e w' =>
      e = .returned (.tuple #[]) ∧ w' = w.alloc (.cells kinds1 37) :=
  span_new 3 32 126 (by decide) (by decide) (by decide) zeros w N hN zeros_size
theorem span2 (w : World) (N : Nat) (hN : N = w.heap.size) :
    Calls Tryd.prog 25 #[.int .u8 5, .int .u8 97, .int .u8 122, .pointer (some ⟨N, 0, none⟩)] (w.alloc (.cells kinds1 37)) fun e w' =>
      e = .returned (.tuple #[]) ∧ w' = w.alloc (.cells kinds2 37) :=
  span_new 5 97 122 (by decide) (by decide) (by decide) kinds1 w N hN (by simp [kinds_size])
theorem span3 (w : World) (N : Nat) (hN : N = w.heap.size) :
    Calls Tryd.prog 25 #[.int .u8 5, .int .u8 65, .int .u8 90, .pointer (some ⟨N, 0, none⟩)] (w.alloc (.cells kinds2 37)) fun e w' =>
      e = .returned (.tuple #[]) ∧ w' = w.alloc (.cells kinds3 37) :=
  span_new 5 65 90 (by decide) (by decide) (by decide) kinds2 w N hN (by simp [kinds_size])
theorem span4 (w : World) (N : Nat) (hN : N = w.heap.size) :
    Calls Tryd.prog 25 #[.int .u8 4, .int .u8 48, .int .u8 57, .pointer (some ⟨N, 0, none⟩)] (w.alloc (.cells kinds3 37)) fun e w' =>
      e = .returned (.tuple #[]) ∧ w' = w.alloc (.cells kinds4 37) :=
  span_new 4 48 57 (by decide) (by decide) (by decide) kinds3 w N hN (by simp [kinds_size])
theorem span5 (w : World) (N : Nat) (hN : N = w.heap.size) :
    Calls Tryd.prog 25 #[.int .u8 4, .int .u8 45, .int .u8 46, .pointer (some ⟨N, 0, none⟩)] (w.alloc (.cells kinds4 37)) fun e w' =>
      e = .returned (.tuple #[]) ∧ w' = w.alloc (.cells kinds5 37) :=
  span_new 4 45 46 (by decide) (by decide) (by decide) kinds4 w N hN (by simp [kinds_size])
theorem span6 (w : World) (N : Nat) (hN : N = w.heap.size) :
    Calls Tryd.prog 25 #[.int .u8 4, .int .u8 95, .int .u8 95, .pointer (some ⟨N, 0, none⟩)] (w.alloc (.cells kinds5 37)) fun e w' =>
      e = .returned (.tuple #[]) ∧ w' = w.alloc (.cells kinds6 37) :=
  span_new 4 95 95 (by decide) (by decide) (by decide) kinds5 w N hN (by simp [kinds_size])
theorem span7 (w : World) (N : Nat) (hN : N = w.heap.size) :
    Calls Tryd.prog 25 #[.int .u8 2, .int .u8 34, .int .u8 34, .pointer (some ⟨N, 0, none⟩)] (w.alloc (.cells kinds6 37)) fun e w' =>
      e = .returned (.tuple #[]) ∧ w' = w.alloc (.cells kinds7 37) :=
  span_new 2 34 34 (by decide) (by decide) (by decide) kinds6 w N hN (by simp [kinds_size])
theorem span8 (w : World) (N : Nat) (hN : N = w.heap.size) :
    Calls Tryd.prog 25 #[.int .u8 2, .int .u8 92, .int .u8 92, .pointer (some ⟨N, 0, none⟩)] (w.alloc (.cells kinds7 37)) fun e w' =>
      e = .returned (.tuple #[]) ∧ w' = w.alloc (.cells kinds8 37) :=
  span_new 2 92 92 (by decide) (by decide) (by decide) kinds7 w N hN (by simp [kinds_size])
theorem span9 (w : World) (N : Nat) (hN : N = w.heap.size) :
    Calls Tryd.prog 25 #[.int .u8 1, .int .u8 10, .int .u8 10, .pointer (some ⟨N, 0, none⟩)] (w.alloc (.cells kinds8 37)) fun e w' =>
      e = .returned (.tuple #[]) ∧ w' = w.alloc (.cells kindsArr 37) :=
  span_new 1 10 10 (by decide) (by decide) (by decide) kinds8 w N hN (by simp [kinds_size])

theorem size256 : (Tryd.prog.info? 37).map (·.size) = some kindsArr.size := by
  rw [kinds_size.2.2.2.2.2.2.2.2]; exact (zero_of_info info256).2
theorem kinds_one : kindsArr.all (·.oneCell') = true := by kernel_rfl

theorem below_setRow {B : Nat} {w w' : World} (h : Below B w w') (g : Nat) (cs : Array Value) (hg : B ≤ g) : Below B w (w'.setRow g cs) :=
  ⟨h.os, h.tape, h.output, by simpa using h.size, fun i hi => (setRow_other w' g i cs (by omega)).trans (h.block i hi)⟩

set_option maxHeartbeats 400000 in
theorem byteKinds_any (w : World) : Calls Tryd.prog 17 #[] w fun e w' => e = .returned (.agg kindsArr) ∧ Below w.heap.size w w' := by
  have hmf : ∀ (fn : Fn) (first cap : Array Value) (w : World), (Instr.makeFunc fn first cap).run Tryd.prog w = .ok (.func fn first cap) w := fun _ _ _ _ => rfl
  have hz := (zero_of_info info256).1
  go_enter Tryd.func17, Tryd.ntmps17
  go_wp2_with fail
  refine (span1 _ _ (by simp)).mono ?_
  rintro e w' ⟨rfl, rfl⟩
  go_wp2_with fail
  refine (span2 _ _ (by simp)).mono ?_
  rintro e w' ⟨rfl, rfl⟩
  go_wp2_with fail
  refine (span3 _ _ (by simp)).mono ?_
  rintro e w' ⟨rfl, rfl⟩
  go_wp2_with fail
  refine (span4 _ _ (by simp)).mono ?_
  rintro e w' ⟨rfl, rfl⟩
  go_wp2_with fail
  refine (span5 _ _ (by simp)).mono ?_
  rintro e w' ⟨rfl, rfl⟩
  go_wp2_with fail
  refine (span6 _ _ (by simp)).mono ?_
  rintro e w' ⟨rfl, rfl⟩
  go_wp2_with fail
  refine (span7 _ _ (by simp)).mono ?_
  rintro e w' ⟨rfl, rfl⟩
  go_wp2_with fail
  refine (span8 _ _ (by simp)).mono ?_
  rintro e w' ⟨rfl, rfl⟩
  go_wp2_with fail
  refine (span9 _ _ (by simp)).mono ?_
  rintro e w' ⟨rfl, rfl⟩
  go_wp2_with (first
    | (refine wpList_load_row rfl 37 (.tmp 1) rfl (w.heap.size + 1) rfl 37 kindsArr (0, 0) _ (heap_alloc2_new w _ _) under256 rfl size256 ?_)
    | (refine wpList_store_row rfl 37 (.tmp 0) (.tmp 22) rfl w.heap.size kindsArr rfl rfl 37 zeros (heap_alloc2_old w _ _) size256 (by simp [kinds_size, zeros_size]) kinds_one ?_))
  refine bodyPost_ret (v := .agg kindsArr) (results_cell_row rfl _ _ w.heap.size 37 kindsArr (0, 0) _ rfl (setRow_heap _ _ _ _ _ _ (heap_alloc2_old w _ _)) under256 rfl size256) rfl ⟨rfl, ?_⟩
  exact below_setRow (((Below.refl _ _).alloc (Nat.le_refl _) _).alloc (by simp) _) _ _ (Nat.le_refl _)
end Go.Proofs.YtmodaefcipchpaaDoor

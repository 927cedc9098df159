/-
  What is asked of a disk and changes nothing: Len, Waits, Done, Dead; refuse, has, mayBe.
-/
import Derived.Test.YthlmjnlakenmoaaDMem
namespace Go.Proofs.Ythlmjnlakenmoaa
open Go.RowKit Go.Maps

def ptr (b : Nat) : Value := .pointer (some ⟨b, 0, none⟩)

structure Cells10 (w : World) (b : Nat) (lv wv mv dv ev tv fv kv nv cv : Value) : Prop where
  c0 : w.cell? ⟨b, 0, none⟩ = some lv
  c1 : w.cell? ⟨b, 1, none⟩ = some wv
  c2 : w.cell? ⟨b, 2, none⟩ = some mv
  c3 : w.cell? ⟨b, 3, none⟩ = some dv
  c4 : w.cell? ⟨b, 4, none⟩ = some ev
  c5 : w.cell? ⟨b, 5, none⟩ = some tv
  c6 : w.cell? ⟨b, 6, none⟩ = some fv
  c7 : w.cell? ⟨b, 7, none⟩ = some kv
  c8 : w.cell? ⟨b, 8, none⟩ = some nv
  c9 : w.cell? ⟨b, 9, none⟩ = some cv
  free : ∀ i, w.frozen? ⟨b, i, none⟩ = false
theorem cells_of_has {w : World} {b : Nat} {t : TypeId} {lv wv mv dv ev tv fv kv nv cv : Value} (h : Has w b t #[lv, wv, mv, dv, ev, tv, fv, kv, nv, cv]) : Cells10 w b lv wv mv dv ev tv fv kv nv cv :=
  ⟨h.cell 0, h.cell 1, h.cell 2, h.cell 3, h.cell 4, h.cell 5, h.cell 6, h.cell 7, h.cell 8, h.cell 9, h.free⟩

theorem refuse_nil (w : World) : Calls Try.prog 58 #[.pointer none] w fun e w' => e = .returned (.int .i64 2) ∧ w = w' := by
  go_enter Try.func58, Try.ntmps58
  go_wp2
  go_ret
  exact ⟨rfl, rfl⟩
theorem refuse_any (w : World) (b : Nat) (dead : Bool) (hc : w.cell? ⟨b, 4, none⟩ = some (.bool dead)) :
    Calls Try.prog 58 #[.pointer (some ⟨b, 0, none⟩)] w fun e w' => e = .returned (.int .i64 (if dead then 20 else 0)) ∧ w = w' := by
  cases dead
  all_goals
    go_enter Try.func58, Try.ntmps58
    go_wp2
    go_ret
    exact ⟨rfl, rfl⟩
theorem has_any (w : World) (b : Nat) (a : Option Addr) (n cap : Nat) (i : Int) (hc : w.cell? ⟨b, 0, none⟩ = some (.slice a n cap)) :
    Calls Try.prog 77 #[.pointer (some ⟨b, 0, none⟩), .int .i64 i] w fun e w' => e = .returned (.bool (decide (0 ≤ i ∧ i < n))) ∧ w = w' := by
  by_cases h0 : 0 ≤ i
  · by_cases h1 : i < n
    all_goals
      go_enter Try.func77, Try.ntmps77
      go_wp2
      go_ret
      exact ⟨ret_bool (by simp <;> omega), rfl⟩
  · have h1 : decide (0 ≤ i) = false := by simpa using h0
    go_enter Try.func77, Try.ntmps77
    go_wp2
    go_ret
    exact ⟨ret_bool (by simp <;> omega), rfl⟩
theorem len_nil (w : World) : Calls Try.prog 61 #[.pointer none] w fun e w' => e = .returned (.int .i64 0) ∧ w = w' := by
  go_enter Try.func61, Try.ntmps61
  go_wp2
  go_ret
  exact ⟨rfl, rfl⟩
theorem len_any (w : World) (b : Nat) (a : Option Addr) (n cap : Nat) (hc : w.cell? ⟨b, 0, none⟩ = some (.slice a n cap)) :
    Calls Try.prog 61 #[.pointer (some ⟨b, 0, none⟩)] w fun e w' => e = .returned (.int .i64 n) ∧ w = w' := by
  go_enter Try.func61, Try.ntmps61
  go_wp2
  go_ret
  exact ⟨rfl, rfl⟩
theorem waits_nil (w : World) : Calls Try.prog 15 #[.pointer none] w fun e w' => e = .returned (.int .i64 0) ∧ w = w' := by
  go_enter Try.func15, Try.ntmps15
  go_wp2
  go_ret
  exact ⟨rfl, rfl⟩
theorem waits_any (w : World) (b : Nat) (a : Option Addr) (n cap : Nat) (hc : w.cell? ⟨b, 1, none⟩ = some (.slice a n cap)) :
    Calls Try.prog 15 #[.pointer (some ⟨b, 0, none⟩)] w fun e w' => e = .returned (.int .i64 n) ∧ w = w' := by
  go_enter Try.func15, Try.ntmps15
  go_wp2
  go_ret
  exact ⟨rfl, rfl⟩
theorem dead_nil (w : World) : Calls Try.prog 30 #[.pointer none] w fun e w' => e = .returned (.bool false) ∧ w = w' := by
  go_enter Try.func30, Try.ntmps30
  go_wp2
  go_ret
  exact ⟨rfl, rfl⟩
theorem dead_any (w : World) (b : Nat) (x : Bool) (hc : w.cell? ⟨b, 4, none⟩ = some (.bool x)) :
    Calls Try.prog 30 #[.pointer (some ⟨b, 0, none⟩)] w fun e w' => e = .returned (.bool x) ∧ w = w' := by
  go_enter Try.func30, Try.ntmps30
  go_wp2
  go_ret
  exact ⟨rfl, rfl⟩
/-- a plan by value -/
def planV (kv : Value) (p : Dk.Pl) : Value := .agg #[kv, .int .i64 p.torn, .int .i64 p.cut]
theorem mayBe_any (w : World) (kv : Value) (t c : Int) : Calls Try.prog 59 #[.agg #[kv, .int .i64 t, .int .i64 c]] w fun e w' => e = .returned (.bool (decide (0 ≤ c ∧ c ≤ 128))) ∧ Below w.heap.size w w' := by
  by_cases h0 : 0 ≤ c
  · by_cases h1 : c ≤ 128
    all_goals
      go_enter Try.func59, Try.ntmps59
      go_wp2
      go_ret
      exact ⟨ret_bool (by simp <;> omega), (Below.refl _ _).alloc (Nat.le_refl _) _⟩
  · have h1 : decide (0 ≤ c) = false := by simpa using h0
    go_enter Try.func59, Try.ntmps59
    go_wp2
    go_ret
    exact ⟨ret_bool (by simp <;> omega), (Below.refl _ _).alloc (Nat.le_refl _) _⟩
end Go.Proofs.Ythlmjnlakenmoaa

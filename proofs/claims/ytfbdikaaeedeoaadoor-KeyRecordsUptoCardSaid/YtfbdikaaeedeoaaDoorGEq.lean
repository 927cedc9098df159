/-
  Two pages by value are the same just if their bytes are.
-/
import Derived.Test.YtfbdikaaeedeoaaDoorGMade
import Derived.Laws.StructEq
namespace Go.Proofs.YtfbdikaaeedeoaaDoor
open Go.RowKit
set_option maxRecDepth 100000

theorem run_isAgg_u8 (w : World) : (isAgg 5).run Tryd.prog w = .ok false w := by
  unfold isAgg
  simp [Sem.run_bind, run_underlying und_u8]
theorem run_part_u8 (w : World) (l : List UInt8) (i : Nat) (h : i < l.length) : (part 5 (bytCells l).toArray i).run Tryd.prog w = .ok (byt l[i]) w := by
  unfold part
  have e : (bytCells l).toArray[i]? = some (byt l[i]) := by
    rw [List.getElem?_toArray, bytCells_get, List.getElem?_eq_getElem h]; rfl
  simp only [Sem.run_bind, run_isAgg_u8, Result.andThen_ok, Bool.false_eq_true, if_false, e, Sem.run_pure]
theorem run_eq_u8 (d : Nat) (w : World) (a b : UInt8) : (Op.equalIn (d + 1) 5 (byt a) (byt b)).run Tryd.prog w = .ok (decide (a = b)) w := by
  unfold byt
  rw [run_equalIn_int w d _ .u8 .u8 _ _ und_u8]
  congr 1
  rw [Bool.eq_iff_iff]
  simp only [beq_iff_eq, decide_eq_true_eq]
  constructor
  · intro h; exact UInt8.toNat_inj.1 (by omega)
  · rintro rfl; rfl
theorem drop_eq_iff (xs ys : List UInt8) (k : Nat) (hx : k < xs.length) (hy : k < ys.length) : xs.drop k = ys.drop k ↔ xs[k] = ys[k] ∧ xs.drop (k + 1) = ys.drop (k + 1) := by
  rw [List.drop_eq_getElem_cons hx, List.drop_eq_getElem_cons hy, List.cons.injEq]
theorem run_loop (d n : Nat) (xs ys : List UInt8) (hx : xs.length = n) (hy : ys.length = n) (w : World) : ∀ (m k : Nat), k + m = n →
    (forIn (List.range' k m) ((none, ()) : Option Bool × Unit) fun i (_ : Option Bool × Unit) => do
        let a ← part 5 (bytCells xs).toArray (i * 1)
        let b ← part 5 (bytCells ys).toArray (i * 1)
        let r ← Op.equalIn (d + 1) 5 a b
        if (!r) = true then pure (ForInStep.done (some false, ())) else pure (ForInStep.yield (none, ()))).run Tryd.prog w
      = .ok (if xs.drop k = ys.drop k then (none, ()) else (some false, ())) w := by
  intro m
  induction m with
  | zero =>
    intro k hk
    rw [if_pos (by rw [List.drop_eq_nil_of_le (by omega), List.drop_eq_nil_of_le (by omega)])]
    rfl
  | succ m ih =>
    intro k hk
    have ih := ih (k + 1) (by omega)
    have hd := drop_eq_iff xs ys k (by omega) (by omega)
    rw [List.range'_succ, List.forIn_cons]
    simp only [Sem.run_bind, Nat.mul_one, run_part_u8 w xs k (by omega), run_part_u8 w ys k (by omega), Result.andThen_ok, run_eq_u8]
    by_cases h : xs[k]'(by omega) = ys[k]'(by omega)
    · rw [decide_eq_true h]
      simp only [Bool.not_true, Bool.false_eq_true, if_false, Sem.run_pure, Result.andThen_ok]
      simp only [Nat.mul_one] at ih
      rw [ih]
      by_cases h2 : xs.drop (k + 1) = ys.drop (k + 1)
      · rw [if_pos h2, if_pos (hd.2 ⟨h, h2⟩)]
      · rw [if_neg h2, if_neg (fun e => h2 (hd.1 e).2)]
    · rw [decide_eq_false h, if_neg (fun e => h (hd.1 e).1)]
      simp only [Bool.not_false, if_true, Sem.run_pure, Result.andThen_ok]
end Go.Proofs.YtfbdikaaeedeoaaDoor

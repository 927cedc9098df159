/-
  Two pages by value are the same just if their bytes are.
-/
import Derived.Test.YthlmjnlakenmoaaGMade
import Derived.Laws.StructEq
namespace Go.Proofs.Ythlmjnlakenmoaa
open Go.RowKit
set_option maxRecDepth 100000

theorem run_isAgg_u8 (w : World) : (isAgg 5).run Try.prog w = .ok false w := by
  unfold isAgg
  simp [Sem.run_bind, run_underlying und_u8]
theorem run_part_u8 (w : World) (l : List UInt8) (i : Nat) (h : i < l.length) : (part 5 (bytCells l).toArray i).run Try.prog w = .ok (byt l[i]) w := by
  unfold part
  have e : (bytCells l).toArray[i]? = some (byt l[i]) := by
    rw [List.getElem?_toArray, bytCells_get, List.getElem?_eq_getElem h]; rfl
  simp only [Sem.run_bind, run_isAgg_u8, Result.andThen_ok, Bool.false_eq_true, if_false, e, Sem.run_pure]
theorem run_eq_u8 (d : Nat) (w : World) (a b : UInt8) : (Op.equalIn (d + 1) 5 (byt a) (byt b)).run Try.prog w = .ok (decide (a = b)) w := by
  unfold byt
  rw [run_equalIn_int w d _ .u8 .u8 _ _ und_u8]
  congr 1
  rw [Bool.eq_iff_iff]
  simp only [beq_iff_eq, decide_eq_true_eq]
  constructor
  · intro h; exact UInt8.toNat_inj.1 (by omega)
  · rintro rfl; rfl
theorem drop_eq_iff (xs ys : List UInt8) (k : Nat) (hx : k < xs.length) (hy : k < ys.length) : xs.drop k = ys.drop k ↔ xs[k] = ys[k] ∧ xs.drop (k + 1) = ys.drop (k + 1) := by
  rw [List.drop_eq_getElem_cons hx, List.drop_eq_getElem_cons hy, List.cons.injEq]
theorem run_loop (d n : Nat) (xs ys : List UInt8) (hx : xs.length = n) (hy : ys.length = n) (w : World) : ∀ (m k : Nat), k + m = n →
    (forIn (List.range' k m) ((none, ()) : Option Bool × Unit) fun i (_ : Option Bool × Unit) => do
        let a ← part 5 (bytCells xs).toArray (i * 1)
        let b ← part 5 (bytCells ys).toArray (i * 1)
        let r ← Op.equalIn (d + 1) 5 a b
        if (!r) = true then pure (ForInStep.done (some false, ())) else pure (ForInStep.yield (none, ()))).run Try.prog w
      = .ok (if xs.drop k = ys.drop k then (none, ()) else (some false, ())) w := by
  intro m
  induction m with
  | zero =>
    intro k hk
    rw [if_pos (by rw [List.drop_eq_nil_of_le (by omega), List.drop_eq_nil_of_le (by omega)])]
    rfl
  | succ m ih =>
    intro k hk
    have ih := ih (k + 1) (by omega)
    have hd := drop_eq_iff xs ys k (by omega) (by omega)
    rw [List.range'_succ, List.forIn_cons]
    simp only [Sem.run_bind, Nat.mul_one, run_part_u8 w xs k (by omega), run_part_u8 w ys k (by omega), Result.andThen_ok, run_eq_u8]
    by_cases h : xs[k]'(by omega) = ys[k]'(by omega)
    · rw [decide_eq_true h]
      simp only [Bool.not_true, Bool.false_eq_true, if_false, Sem.run_pure, Result.andThen_ok]
      simp only [Nat.mul_one] at ih
      rw [ih]
      by_cases h2 : xs.drop (k + 1) = ys.drop (k + 1)
      · rw [if_pos h2, if_pos (hd.2 ⟨h, h2⟩)]
      · rw [if_neg h2, if_neg (fun e => h2 (hd.1 e).2)]
    · rw [decide_eq_false h, if_neg (fun e => h (hd.1 e).1)]
      simp only [Bool.not_false, if_true, Sem.run_pure, Result.andThen_ok]
theorem run_arr (d : Nat) (xs ys : List UInt8) (hx : xs.length = 512) (hy : ys.length = 512) (w : World) :
    (Op.equalIn (d + 2) 121 (.agg (bytCells xs).toArray) (.agg (bytCells ys).toArray)).run Try.prog w = .ok (decide (xs = ys)) w := by
  have hs : ∀ w, (Go.sizeOf 5).run Try.prog w = .ok 1 w := by
    intro w
    obtain ⟨i0, hi, hz0, hz1, hz2⟩ := info_parts inf_u8
    simp [Go.sizeOf, typeInfo, hi, hz1]
  rw [Op.equalIn]
  simp only [Sem.run_bind, run_underlying und_page, Result.andThen_ok, hs]
  simp only [Std.Legacy.Range.forIn_eq_forIn_range', Std.Legacy.Range.size, Nat.sub_zero, Nat.add_one_sub_one, Nat.div_one]
  rw [run_loop d 512 xs ys hx hy w 512 0 rfl]
  by_cases h : xs = ys
  · subst h
    simp
  · simp [h]
theorem guard_page (op : BinOp) (x y : Operand) (xs ys : Array Value) (w : World) : (eqGuard op 121 x y (.agg xs) (.agg ys)).run Try.prog w = .ok () w :=
  run_eqGuard_agg w op _ x y xs ys (by kernel_rfl)
theorem run_neq_pages (xs ys : List UInt8) (hx : xs.length = 512) (hy : ys.length = 512) (w : World) :
    (binOp .neq 121 (.agg (bytCells xs).toArray) (.agg (bytCells ys).toArray)).run Try.prog w = .ok (.bool (!decide (xs = ys))) w := by
  rw [run_neq_struct, show (10000 : Nat) = 9998 + 2 from rfl, run_arr 9998 xs ys hx hy w]
  rfl
end Go.Proofs.Ythlmjnlakenmoaa

/-
  Rows of cells that are written in their middle, plain mathematics.
-/
import Derived.Test.YtjbiaomkbgfgfaaDMath
namespace Go.Proofs.Ytjbiaomkbgfgfaa.Dk

theorem splice_take {α : Type} {cur xs : List α} {N : Nat} (h : cur.take N = xs) (o : Nat) (y : List α) (ho : o + y.length ≤ N) :
    (cur.take o ++ y ++ cur.drop (o + y.length)).take N = xs.take o ++ y ++ xs.drop (o + y.length) := by
  subst h
  by_cases hl : o ≤ cur.length
  · have e1 : (cur.take o ++ y).length = o + y.length := by simp; omega
    rw [List.take_append, e1, List.take_of_length_le (by omega), List.take_take, Nat.min_eq_left (by omega), List.drop_take]
  · rw [List.take_of_length_le (by omega : cur.length ≤ o), List.drop_eq_nil_of_le (by omega), List.append_nil, List.take_of_length_le (by simp; omega), List.take_of_length_le (by omega : cur.length ≤ N), List.take_of_length_le (by omega : cur.length ≤ o),
      List.drop_eq_nil_of_le (by omega), List.append_nil]
theorem store_row {l : List Sec} (h : Full l) {i : Nat} (hi : i < l.length) (s : Sec) (hs : s.length = 128) :
    (secs l).take (i * 128) ++ secCells s ++ (secs l).drop (i * 128 + (secCells s).length) = secs (l.set i s) := by
  rw [secCells_len, hs]
  exact (flat_set h.cells i s hi).symm
theorem tear_row {l : List Sec} (h : Full l) {i : Nat} (hi : i < l.length) (x : Sec) (hx : x.length = 128) (c : Nat) (hc : c ≤ 128) :
    (secs l).take (i * 128) ++ (secCells x).take c ++ (secs l).drop (i * 128 + ((secCells x).take c).length) = secs (l.set i (tear (l.getD i []) x c)) := by
  have hlen : ((secCells x).take c).length = c := by rw [List.length_take, secCells_len, hx]; omega
  rw [hlen]
  have e : secs (l.set i (tear (l.getD i []) x c)) = _ := flat_set h.cells i (tear (l.getD i []) x c) hi
  rw [e, tear, secCells_append, secCells_take, secCells_drop]
  have e2 : secCells (l.getD i []) = ((secs l).drop (i * 128)).take 128 := by
    rw [List.getD_eq_getElem?_getD, List.getElem?_eq_getElem hi]
    exact (flat_at h.cells i hi).symm
  rw [e2, List.append_assoc, List.append_assoc, List.append_assoc]
  congr 2
  have e3 : (secs l).drop (i * 128 + c) = (((secs l).drop (i * 128)).drop c) := by rw [List.drop_drop]
  have e4 : (secs l).drop (i * 128 + 128) = ((secs l).drop (i * 128)).drop 128 := by rw [List.drop_drop]
  show (secs l).drop (i * 128 + c) = (((secs l).drop (i * 128)).take 128).drop c ++ (secs l).drop (i * 128 + 128)
  rw [e3, e4]
  generalize (secs l).drop (i * 128) = r
  have e5 : r.drop 128 = (r.drop c).drop (128 - c) := by rw [List.drop_drop, show c + (128 - c) = 128 by omega]
  rw [List.drop_take, e5, List.take_append_drop]
end Go.Proofs.Ytjbiaomkbgfgfaa.Dk

/-
  Plain mathematics: quoted texts, read byte by byte.
-/
import Derived.Test.YtmodaefcipchpaaDoorMathUr
import Derived.Test.YtmodaefcipchpaaDoorMathRat
namespace Go.Proofs.YtmodaefcipchpaaDoor

theorem readQ_congr {m b0 b1 b2 b3 c1 c2 c3 : Nat} (h1 : 1 < m → b1 = c1) (h2 : 3 < m → b2 = c2) (h3 : 3 < m → b3 = c3) : readQ m b0 b1 b2 b3 = readQ m b0 c1 c2 c3 := by
  unfold readQ
  by_cases h0 : b0 ≠ 92
  · rw [if_pos h0, if_pos h0]
  · rw [if_neg h0, if_neg h0]
    by_cases hm : 1 < m
    · rw [h1 hm]
      by_cases hm3 : 3 < m
      · rw [h2 hm3, h3 hm3]
      · by_cases ha : 1 < m ∧ c1 = 110
        · rw [if_pos ha, if_pos ha]
        · rw [if_neg ha, if_neg ha]
          by_cases hb : 1 < m ∧ Sp.kind c1 = 2
          · rw [if_pos hb, if_pos hb]
          · rw [if_neg hb, if_neg hb, if_neg (by omega), if_neg (by omega)]
    · rw [if_neg (by omega), if_neg (by omega), if_neg (by omega), if_neg (by omega), if_neg (by omega), if_neg (by omega)]

theorem readQ_size {m b0 b1 b2 b3 c n : Nat} (hm : 1 ≤ m) (h : readQ m b0 b1 b2 b3 = some (c, n)) : 1 ≤ n ∧ n ≤ m := by
  unfold readQ at h
  by_cases h92 : b0 ≠ 92
  · rw [if_pos h92] at h
    by_cases h3 : 3 ≤ Sp.kind b0
    · rw [if_pos h3] at h; simp only [Option.some.injEq, Prod.mk.injEq] at h; omega
    · rw [if_neg h3] at h; cases h
  · rw [if_neg h92] at h
    by_cases ha : 1 < m ∧ b1 = 110
    · rw [if_pos ha] at h; simp only [Option.some.injEq, Prod.mk.injEq] at h; omega
    · rw [if_neg ha] at h
      by_cases hb : 1 < m ∧ Sp.kind b1 = 2
      · rw [if_pos hb] at h; simp only [Option.some.injEq, Prod.mk.injEq] at h; omega
      · rw [if_neg hb] at h
        by_cases hx : 3 < m ∧ b1 = 120 ∧ hexv b2 < 16 ∧ hexv b3 < 16 ∧ Sp.kind (hexv b2 * 16 + hexv b3) = 0
        · rw [if_pos hx] at h; simp only [Option.some.injEq, Prod.mk.injEq] at h; omega
        · rw [if_neg hx] at h; cases h

/-- the byte that stands quoted at a place, ahead of an end -/
def rdAt (s : ByteArray) (i e : Nat) : Option (Nat × Nat) := readQ (e - i) (Sp.bt s i) (Sp.bt s (i + 1)) (Sp.bt s (i + 2)) (Sp.bt s (i + 3))

theorem bt_ext (s : ByteArray) (i e k : Nat) (h : i + k < e) : Sp.bt (s.extract i e) k = Sp.bt s (i + k) := by
  unfold Sp.bt
  rw [Lib.extract_data]
  congr 1
  simp only [List.getD_eq_getElem?_getD, List.getElem?_take, List.getElem?_drop]
  rw [if_pos (by omega)]
theorem rdAt_ext (s : ByteArray) (i e : Nat) (h : i < e) : readQ (e - i) (Sp.bt (s.extract i e) 0) (Sp.bt (s.extract i e) 1) (Sp.bt (s.extract i e) 2) (Sp.bt (s.extract i e) 3) = rdAt s i e := by
  unfold rdAt
  rw [bt_ext s i e 0 (by omega), Nat.add_zero]
  exact readQ_congr (fun hm => bt_ext s i e 1 (by omega)) (fun hm => bt_ext s i e 2 (by omega)) (fun hm => bt_ext s i e 3 (by omega))

/-- from a place on, to the end e -/
def unqW (s : ByteArray) (e : Nat) : Nat → Nat → List Int → Option (List Int)
  | 0, i, acc => if e ≤ i then some acc else none
  | f + 1, i, acc => if e ≤ i then some acc else match rdAt s i e with
    | none => none
    | some (c, n) => unqW s e f (i + n) (acc ++ [(c : Int)])
def Sp.unquote (s : ByteArray) : Option (List Int) :=
  if s.size < 2 ∨ Sp.bt s 0 ≠ 34 ∨ Sp.bt s (s.size - 1) ≠ 34 then none else unqW s (s.size - 1) s.size 1 []
theorem unqW_end (s : ByteArray) (e f i : Nat) (acc : List Int) (h : e ≤ i) : unqW s e f i acc = some acc := by
  cases f with
  | zero => unfold unqW; rw [if_pos h]
  | succ f => unfold unqW; rw [if_pos h]
theorem unqW_none (s : ByteArray) (e f i : Nat) (acc : List Int) (h : i < e) (hd : rdAt s i e = none) : unqW s e f i acc = none := by
  cases f with
  | zero => unfold unqW; rw [if_neg (by omega)]
  | succ f => unfold unqW; rw [if_neg (by omega), hd]
theorem unqW_some (s : ByteArray) (e f i c n : Nat) (acc : List Int) (h : i < e) (hf : e ≤ i + f) (hd : rdAt s i e = some (c, n)) :
    ∃ g, e ≤ i + n + g ∧ unqW s e f i acc = unqW s e g (i + n) (acc ++ [(c : Int)]) := by
  have hn := readQ_size (by omega) hd
  cases f with
  | zero => omega
  | succ f => exact ⟨f, by omega, by conv => lhs; unfold unqW
                                     rw [if_neg (by omega), hd]⟩
end Go.Proofs.YtmodaefcipchpaaDoor

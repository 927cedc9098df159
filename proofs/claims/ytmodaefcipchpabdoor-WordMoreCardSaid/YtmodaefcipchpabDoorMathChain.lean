/-
  Plain mathematics: texts that are UTF-8 are so together, and cut just where a character begins.
-/
import Derived.Test.YtmodaefcipchpabDoorMathUtf
namespace Go.Proofs.YtmodaefcipchpabDoor.Sp

/-- the same character begins where the same bytes stand -/
theorem dec_move {a b : ByteArray} {i j : Nat} {c : Int} {n : Nat} (h : dec a i = some (c, n)) (hb : ∀ d, d < n → bt b (j + d) = bt a (i + d)) (hj : j + n ≤ b.size) : dec b j = some (c, n) := by
  rcases dec_some h with ⟨rfl, k, rfl⟩ | ⟨rfl, k, rfl⟩ | ⟨rfl, k, rfl⟩ | ⟨rfl, k, rfl⟩
  · have b0 := hb 0 (by omega)
    simp only [Nat.add_zero] at b0
    obtain ⟨hr, h1⟩ := k
    rw [← b0] at h1 ⊢
    exact dec_1 ⟨hj, h1⟩
  · have b0 := hb 0 (by omega)
    have b1 := hb 1 (by omega)
    simp only [Nat.add_zero] at b0
    obtain ⟨hr, h0, h1, k1, hz⟩ := k
    unfold cont at k1
    unfold c2 at hz ⊢
    rw [← b0, ← b1] at *
    exact dec_2 ⟨hj, h0, h1, k1, hz⟩
  · have b0 := hb 0 (by omega)
    have b1 := hb 1 (by omega)
    have b2 := hb 2 (by omega)
    simp only [Nat.add_zero] at b0
    obtain ⟨hr, h0, h1, k1, k2, hz⟩ := k
    unfold cont at k1 k2
    unfold c3 at hz ⊢
    rw [← b0, ← b1, ← b2] at *
    exact dec_3 ⟨hj, h0, h1, k1, k2, hz⟩
  · have b0 := hb 0 (by omega)
    have b1 := hb 1 (by omega)
    have b2 := hb 2 (by omega)
    have b3 := hb 3 (by omega)
    simp only [Nat.add_zero] at b0
    obtain ⟨hr, h0, h1, k1, k2, k3, hz⟩ := k
    unfold cont at k1 k2 k3
    unfold c4 at hz ⊢
    rw [← b0, ← b1, ← b2, ← b3] at *
    exact dec_4 ⟨hj, h0, h1, k1, k2, k3, hz⟩

/-- within a character none begins -/
theorem dec_inner {a : ByteArray} {i k : Nat} {c : Int} {n : Nat} (h : dec a i = some (c, n)) (h0 : i < k) (h1 : k < i + n) : dec a k = none := by
  apply dec_none0
  left
  rcases dec_some h with ⟨rfl, q, -⟩ | ⟨rfl, q, -⟩ | ⟨rfl, q, -⟩ | ⟨rfl, q, -⟩
  · omega
  · obtain ⟨hr, -, -, k1, -⟩ := q
    obtain rfl : k = i + 1 := by omega
    exact k1
  · obtain ⟨hr, -, -, k1, k2, -⟩ := q
    rcases (by omega : k = i + 1 ∨ k = i + 2) with rfl | rfl
    · exact k1
    · exact k2
  · obtain ⟨hr, -, -, k1, k2, k3, -⟩ := q
    rcases (by omega : k = i + 1 ∨ k = i + 2 ∨ k = i + 3) with rfl | rfl | rfl
    · exact k1
    · exact k2
    · exact k3

/-- from character to character -/
inductive Chain (s : ByteArray) : Nat → Nat → Prop
  | nil (i : Nat) : Chain s i i
  | cons {i j n : Nat} {c : Int} (h : dec s i = some (c, n)) (t : Chain s (i + n) j) : Chain s i j

theorem Chain.le {s : ByteArray} {i j : Nat} (h : Chain s i j) : i ≤ j := by
  induction h with
  | nil => exact Nat.le_refl _
  | cons h _ ih => omega
theorem Chain.trans {s : ByteArray} {i j k : Nat} (h : Chain s i j) (h' : Chain s j k) : Chain s i k := by
  induction h with
  | nil => exact h'
  | cons h _ ih => exact .cons h (ih h')
theorem Chain.of_from {s : ByteArray} : ∀ (f i : Nat), i ≤ s.size → utf8From s f i = true → Chain s i s.size
  | 0, i, hi, h => by
    simp only [utf8From, decide_eq_true_eq] at h
    obtain rfl : i = s.size := by omega
    exact .nil _
  | f + 1, i, hi, h => by
    by_cases he : s.size ≤ i
    · obtain rfl : i = s.size := by omega
      exact .nil _
    · cases hd : dec s i with
      | none => rw [from_none s _ i (by omega) hd] at h; cases h
      | some p =>
        obtain ⟨c, n⟩ := p
        have hr := dec_room hd
        simp only [utf8From] at h
        rw [if_neg he, hd] at h
        exact .cons hd (Chain.of_from f (i + n) (by omega) h)
theorem Chain.to_from {s : ByteArray} {i j : Nat} (h : Chain s i j) (hj : j = s.size) : ∀ f, s.size ≤ i + f → utf8From s f i = true := by
  induction h with
  | nil i => intro f _; exact from_end s f i (by omega)
  | @cons i j n c hd _ ih =>
    intro f hf
    have hr := dec_room hd
    obtain ⟨g, hg, he⟩ := from_some s f i c n (by omega) hf hd
    rw [he]
    exact ih hj g hg
theorem utf8_chain (s : ByteArray) : utf8 s = true ↔ Chain s 0 s.size :=
  ⟨fun h => Chain.of_from s.size 0 (by omega) h, fun h => h.to_from rfl s.size (by omega)⟩
theorem Chain.move {a b : ByteArray} {p q : Nat} (h : Chain a p q) : ∀ p', (∀ d, p + d < q → bt b (p' + d) = bt a (p + d)) → p' + (q - p) ≤ b.size → Chain b p' (p' + (q - p)) := by
  induction h with
  | nil i => intro p' _ _; rw [Nat.sub_self, Nat.add_zero]; exact .nil _
  | @cons i j n c hd ht ih =>
    intro p' hb hl
    have hle := ht.le
    have hr := dec_room hd
    have hd' : dec b p' = some (c, n) := dec_move hd (fun d hd1 => hb d (by omega)) (by omega)
    have := ih (p' + n) (fun d hd1 => by have := hb (n + d) (by omega); rw [← Nat.add_assoc, ← Nat.add_assoc] at this; exact this) (by omega)
    rw [show p' + n + (j - (i + n)) = p' + (j - i) by omega] at this
    exact .cons hd' this
theorem Chain.cut {a : ByteArray} {p q : Nat} (h : Chain a p q) : ∀ k, p ≤ k → k < q → dec a k ≠ none → Chain a p k ∧ Chain a k q := by
  induction h with
  | nil i => intro k h0 h1; omega
  | @cons i j n c hd ht ih =>
    intro k h0 h1 hk
    by_cases he : k = i
    · subst he; exact ⟨.nil _, .cons hd ht⟩
    · by_cases hin : k < i + n
      · exact absurd (dec_inner hd (by omega) hin) hk
      · obtain ⟨x, y⟩ := ih k (by omega) h1 hk
        exact ⟨.cons hd x, y⟩
theorem Chain.first {a : ByteArray} {p q : Nat} (h : Chain a p q) (hlt : p < q) : dec a p ≠ none := by
  cases h with
  | nil => omega
  | cons hd _ => rw [hd]; simp

theorem bt_append (s t : ByteArray) (i : Nat) : bt (s ++ t) i = if i < s.size then bt s i else bt t (i - s.size) := by
  have e : (s ++ t).data.toList = s.data.toList ++ t.data.toList := by simp
  have hl : s.data.toList.length = s.size := Array.length_toList
  unfold bt
  rw [e]
  by_cases h : i < s.size
  · rw [if_pos h, List.getD_eq_getElem?_getD, List.getD_eq_getElem?_getD, List.getElem?_append_left (by omega)]
  · rw [if_neg h, List.getD_eq_getElem?_getD, List.getD_eq_getElem?_getD, List.getElem?_append_right (by omega), hl]
theorem bt_extract (s : ByteArray) (a e i : Nat) (h : a + i < e) : bt (s.extract a e) i = bt s (a + i) := by
  have x : (s.extract a e).data.toList = (s.data.toList.take e).drop a := by simp [ByteArray.data_extract, List.take_drop, Array.toList_extract, List.extract]; rw [show a + (e - a) = e by omega]
  unfold bt
  rw [x, List.getD_eq_getElem?_getD, List.getD_eq_getElem?_getD, List.getElem?_drop, List.getElem?_take_of_lt h]

/-- texts that are UTF-8 are so together -/
theorem utf8_append {s t : ByteArray} (hs : utf8 s = true) (ht : utf8 t = true) : utf8 (s ++ t) = true := by
  rw [utf8_chain] at hs ht ⊢
  have hz : (s ++ t).size = s.size + t.size := by simp
  have h1 := hs.move (b := s ++ t) 0 (fun d hd => by rw [bt_append, if_pos (by omega)]) (by omega)
  have h2 := ht.move (b := s ++ t) s.size (fun d hd => by rw [bt_append, if_neg (by omega), show s.size + d - s.size = 0 + d by omega]) (by omega)
  rw [show 0 + (s.size - 0) = s.size by omega] at h1
  rw [show s.size + (t.size - 0) = (s ++ t).size by omega] at h2
  exact h1.trans h2

/-- cut where a character begins, both parts are UTF-8 -/
theorem utf8_cut {a : ByteArray} (h : utf8 a = true) (k : Nat) (hk : k < a.size) (hd : dec a k ≠ none) : utf8 (a.extract 0 k) = true ∧ utf8 (a.extract k a.size) = true := by
  rw [utf8_chain] at h
  obtain ⟨h1, h2⟩ := h.cut k (by omega) hk hd
  have z1 : (a.extract 0 k).size = k := by simp; omega
  have z2 : (a.extract k a.size).size = a.size - k := by simp
  rw [utf8_chain, utf8_chain, z1, z2]
  have m1 := h1.move (b := a.extract 0 k) 0 (fun d hd => by rw [bt_extract a 0 k (0 + d) (by omega)]; simp) (by omega)
  have m2 := h2.move (b := a.extract k a.size) 0 (fun d hd => by rw [bt_extract a k a.size (0 + d) (by omega)]; simp) (by omega)
  rw [show 0 + (k - 0) = k by omega] at m1
  rw [show 0 + (a.size - k) = a.size - k by omega] at m2
  exact ⟨m1, m2⟩
/-- where none begins, what stands behind is not UTF-8 -/
theorem utf8_uncut {a : ByteArray} (k : Nat) (hk : k < a.size) (hd : dec a k = none) : utf8 (a.extract k a.size) = false := by
  cases hu : utf8 (a.extract k a.size) with
  | false => rfl
  | true =>
    exfalso
    rw [utf8_chain] at hu
    have z2 : (a.extract k a.size).size = a.size - k := by simp
    have hf := hu.first (by omega)
    cases hx : dec (a.extract k a.size) 0 with
    | none => exact hf hx
    | some p =>
      obtain ⟨c, n⟩ := p
      have hr := dec_room hx
      have := dec_move (b := a) (j := k) hx (fun d hd => by rw [bt_extract a k a.size (0 + d) (by omega)]; simp) (by omega)
      rw [hd] at this
      cases this
theorem utf8_none (s : ByteArray) (h : s.size = 0) : utf8 s = true := from_end s _ 0 (by omega)
end Go.Proofs.YtmodaefcipchpabDoor.Sp

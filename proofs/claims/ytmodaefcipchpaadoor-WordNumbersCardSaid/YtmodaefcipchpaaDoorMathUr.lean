/-
  Plain mathematics: a byte is read where its quoted form stands, and nowhere else.
-/
import Derived.Test.YtmodaefcipchpaaDoorMathUq
namespace Go.Proofs.YtmodaefcipchpaaDoor

theorem kind_small : ∀ b : Fin 256, (Sp.kind b.val = 1 → b.val = 10) ∧ (Sp.kind b.val = 2 → b.val = 34 ∨ b.val = 92) ∧ (3 ≤ Sp.kind b.val → b.val ≠ 92 ∧ b.val ≠ 34) := by decide +kernel
theorem hex_back : ∀ n : Fin 16, hexv (hexd n.val).toNat = n.val := by decide +kernel
theorem hex_forth : ∀ b : Fin 256, hexv b.val < 16 → hexd (hexv b.val) = (b.val : Int) := by decide +kernel

/-- do the bytes begin with the quoted form of c? -/
def begins (m b0 b1 b2 b3 c : Nat) : Prop := (Sp.qb c).length ≤ m ∧ ([(b0 : Int), (b1 : Int), (b2 : Int), (b3 : Int)].take (Sp.qb c).length) = Sp.qb c

theorem begins_read {m b0 b1 b2 b3 c : Nat} (hc : c < 256) (h : begins m b0 b1 b2 b3 c) : readQ m b0 b1 b2 b3 = some (c, (Sp.qb c).length) := by
  obtain ⟨k1, k2, k3⟩ := kind_small ⟨c, hc⟩
  simp only at k1 k2 k3
  unfold begins Sp.qb at h
  unfold readQ
  by_cases h0 : Sp.kind c = 0
  · rw [if_pos h0] at h
    obtain ⟨hl, he⟩ := h
    simp only [List.length_cons, List.length_nil, List.take_succ_cons, List.take_zero, List.cons.injEq, and_true] at hl he
    obtain ⟨e0, e1, e2, e3⟩ := he
    have x1 := hex_back ⟨c / 16, by omega⟩
    have x2 := hex_back ⟨c % 16, by omega⟩
    simp only at x1 x2
    rw [← e2] at x1
    rw [← e3] at x2
    rw [Int.toNat_natCast] at x1 x2
    have d1 : b1 = 120 := by omega
    subst d1
    have hz : Sp.kind (c / 16 * 16 + c % 16) = 0 := by rw [show c / 16 * 16 + c % 16 = c from by omega]; exact h0
    rw [if_neg (by omega), if_neg (by omega), if_neg (by rintro ⟨-, h⟩; revert h; decide), if_pos ⟨by omega, rfl, by omega, by omega, by rw [x1, x2]; exact hz⟩, x1, x2]
    have : Sp.qb c = [92, 120, hexd (c / 16), hexd (c % 16)] := by unfold Sp.qb; rw [if_pos h0]
    rw [this, show c / 16 * 16 + c % 16 = c from by omega]; rfl
  · rw [if_neg h0] at h
    by_cases h1 : Sp.kind c = 1
    · rw [if_pos h1] at h
      obtain ⟨hl, he⟩ := h
      simp only [List.length_cons, List.length_nil, List.take_succ_cons, List.take_zero, List.cons.injEq, and_true] at hl he
      have hc10 := k1 h1
      subst hc10
      rw [if_neg (by omega), if_pos (by omega)]; rfl
    · rw [if_neg h1] at h
      by_cases h2 : Sp.kind c = 2
      · rw [if_pos h2] at h
        obtain ⟨hl, he⟩ := h
        simp only [List.length_cons, List.length_nil, List.take_succ_cons, List.take_zero, List.cons.injEq, and_true] at hl he
        have hb1 : b1 = c := by omega
        subst hb1
        have := k2 h2
        rw [if_neg (by omega), if_neg (by omega), if_pos ⟨by omega, h2⟩]
        have : Sp.qb b1 = [92, (b1 : Int)] := by unfold Sp.qb; rw [if_neg h0, if_neg h1, if_pos h2]
        rw [this]; rfl
      · rw [if_neg h2] at h
        obtain ⟨hl, he⟩ := h
        simp only [List.length_cons, List.length_nil, List.take_succ_cons, List.take_zero, List.cons.injEq, and_true] at hl he
        have hb0 : b0 = c := by omega
        subst hb0
        have h3 : 3 ≤ Sp.kind b0 := by omega
        have := k3 h3
        rw [if_pos (by omega), if_pos h3]
        have : Sp.qb b0 = [(b0 : Int)] := by unfold Sp.qb; rw [if_neg h0, if_neg h1, if_neg h2]
        rw [this]; rfl

theorem read_begins {m b0 b1 b2 b3 c n : Nat} (hm : 1 ≤ m) (l0 : b0 < 256) (l1 : b1 < 256) (l2 : b2 < 256) (l3 : b3 < 256) (h : readQ m b0 b1 b2 b3 = some (c, n)) :
    c < 256 ∧ n = (Sp.qb c).length ∧ begins m b0 b1 b2 b3 c := by
  unfold readQ at h
  by_cases h92 : b0 ≠ 92
  · rw [if_pos h92] at h
    by_cases h3 : 3 ≤ Sp.kind b0
    · rw [if_pos h3] at h
      simp only [Option.some.injEq, Prod.mk.injEq] at h
      obtain ⟨rfl, rfl⟩ := h
      have : Sp.qb b0 = [(b0 : Int)] := by unfold Sp.qb; rw [if_neg (by omega), if_neg (by omega), if_neg (by omega)]
      unfold begins
      rw [this]
      exact ⟨l0, rfl, hm, rfl⟩
    · rw [if_neg h3] at h; cases h
  · rw [if_neg h92] at h
    have e92 : b0 = 92 := by omega
    subst e92
    by_cases ha : 1 < m ∧ b1 = 110
    · rw [if_pos ha] at h
      simp only [Option.some.injEq, Prod.mk.injEq] at h
      obtain ⟨rfl, rfl⟩ := h
      obtain ⟨hm1, rfl⟩ := ha
      exact ⟨by omega, rfl, hm1, rfl⟩
    · rw [if_neg ha] at h
      by_cases hb : 1 < m ∧ Sp.kind b1 = 2
      · rw [if_pos hb] at h
        simp only [Option.some.injEq, Prod.mk.injEq] at h
        obtain ⟨rfl, rfl⟩ := h
        have : Sp.qb b1 = [92, (b1 : Int)] := by unfold Sp.qb; rw [if_neg (by omega), if_neg (by omega), if_pos hb.2]
        unfold begins
        rw [this]
        exact ⟨l1, rfl, hb.1, rfl⟩
      · rw [if_neg hb] at h
        by_cases hx : 3 < m ∧ b1 = 120 ∧ hexv b2 < 16 ∧ hexv b3 < 16 ∧ Sp.kind (hexv b2 * 16 + hexv b3) = 0
        · rw [if_pos hx] at h
          simp only [Option.some.injEq, Prod.mk.injEq] at h
          obtain ⟨rfl, rfl⟩ := h
          obtain ⟨hm3, rfl, hx2, hx3, hz⟩ := hx
          have y2 := hex_forth ⟨b2, l2⟩ hx2
          have y3 := hex_forth ⟨b3, l3⟩ hx3
          simp only at y2 y3
          have : Sp.qb (hexv b2 * 16 + hexv b3) = [92, 120, (b2 : Int), (b3 : Int)] := by
            unfold Sp.qb
            rw [if_pos hz, show (hexv b2 * 16 + hexv b3) / 16 = hexv b2 from by omega, show (hexv b2 * 16 + hexv b3) % 16 = hexv b3 from by omega, y2, y3]
          unfold begins
          rw [this]
          exact ⟨by omega, rfl, hm3, rfl⟩
        · rw [if_neg hx] at h; cases h
end Go.Proofs.YtmodaefcipchpaaDoor

/-
  Bytes are read as items, as plain mathematics: counts, items, and the way back.
-/
import Derived.Test.YtfbdikaaeedeoaaDoorKCount
namespace Go.Proofs.YtfbdikaaeedeoaaDoor.Ky
set_option maxRecDepth 100000

theorem bitLen_le : ∀ (y : Fin 128) (j : Fin 8), y.val < 2 ^ j.val → Lib.bitLen y.val ≤ j.val := by decide +kernel
theorem room {y k : Nat} (hy : y < 128) (h : y * 2 ^ k < 18446744073709551616) (hk : y ≠ 0 ∨ k = 0) : k + Lib.bitLen y ≤ 64 := by
  have h7 := (bitLen_lt ⟨y, hy⟩).2
  simp only at h7
  by_cases hk57 : k ≤ 57
  · omega
  · have hy0 : y ≠ 0 := by omega
    have hk64 : k < 64 := by
      apply Nat.lt_of_not_le
      intro hle
      have h1 : (2 : Nat) ^ 64 ≤ 2 ^ k := Nat.pow_le_pow_right (by decide) hle
      have h2 : 1 * 2 ^ k ≤ y * 2 ^ k := Nat.mul_le_mul_right _ (by omega)
      have h3 : (2 : Nat) ^ 64 = 18446744073709551616 := by decide
      omega
    have hj := bitLen_le ⟨y, hy⟩ ⟨64 - k, by omega⟩ (by
      show y < 2 ^ (64 - k)
      apply Nat.lt_of_not_le
      intro hle
      have h1 : 2 ^ (64 - k) * 2 ^ k ≤ y * 2 ^ k := Nat.mul_le_mul_right _ hle
      rw [← Nat.pow_add, show 64 - k + k = 64 by omega] at h1
      have h3 : (2 : Nat) ^ 64 = 18446744073709551616 := by decide
      omega)
    simp only at hj
    omega
theorem readC_cnt : ∀ (N y k x : Nat) (r : List UInt8), y < N → y * 2 ^ k < 18446744073709551616 → (y ≠ 0 ∨ k = 0) → readC k x (cnt y ++ r) = some (x + y * 2 ^ k, r) := by
  intro N
  induction N with
  | zero => intro y k x r h; omega
  | succ N ih =>
    intro y k x r hN hm hk
    by_cases h128 : y < 128
    · rw [cnt_small h128]
      have hb : (UInt8.ofNat y).toNat = y := by rw [UInt8.toNat_ofNat', Nat.mod_eq_of_lt (by omega)]
      have hr := room h128 hm hk
      show readC k x (UInt8.ofNat y :: r) = _
      rw [readC, hb, Nat.mod_eq_of_lt h128, if_neg (by omega), if_pos h128, if_pos ?_]
      rcases hk with hk | hk
      · left
        intro e
        rw [e] at hb
        exact hk hb.symm
      · exact .inr hk
    · rw [cnt_more h128]
      have hb : (UInt8.ofNat (y % 128 + 128)).toNat = y % 128 + 128 := by rw [UInt8.toNat_ofNat', Nat.mod_eq_of_lt (by omega)]
      have hk57 : k < 57 := by
        apply Nat.lt_of_not_le
        intro hle
        have h1 : (2 : Nat) ^ 57 ≤ 2 ^ k := Nat.pow_le_pow_right (by decide) hle
        have h2 : 128 * 2 ^ k ≤ y * 2 ^ k := Nat.mul_le_mul_right _ (by omega)
        have h3 : (2 : Nat) ^ 57 = 144115188075855872 := by decide
        omega
      have h7 := (bitLen_lt ⟨y % 128, Nat.mod_lt _ (by decide)⟩).2
      simp only at h7
      have hp : (2 : Nat) ^ (k + 7) = 2 ^ k * 128 := by rw [Nat.pow_add]
      have hyd : y % 128 * 2 ^ k + y / 128 * 2 ^ (k + 7) = y * 2 ^ k := by
        have e := Nat.mod_add_div y 128
        rw [hp]
        conv => rhs; rw [← e]
        rw [Nat.add_mul, Nat.mul_comm (2 ^ k) 128, ← Nat.mul_assoc, Nat.mul_comm (y / 128) 128]
      show readC k x (UInt8.ofNat (y % 128 + 128) :: (cnt (y / 128) ++ r)) = _
      rw [readC, hb, show (y % 128 + 128) % 128 = y % 128 by omega, if_neg (by omega), if_neg (by omega), ih (y / 128) (k + 7) _ r (by omega) (by omega) (.inl (by omega)), Nat.add_assoc, hyd]
theorem readC_back : ∀ (l : List UInt8) (k x v : Nat) (r : List UInt8), readC k x l = some (v, r) → ∃ y, l = cnt y ++ r ∧ v = x + y * 2 ^ k ∧ (y ≠ 0 ∨ k = 0)
  | [], _, _, _, _, h => by simp [readC] at h
  | b :: l, k, x, v, r, h => by
    rw [readC] at h
    split at h
    · cases h
    · split at h
      · rename_i h128
        split at h
        · rename_i hb0
          simp only [Option.some.injEq, Prod.mk.injEq] at h
          obtain ⟨rfl, rfl⟩ := h
          refine ⟨b.toNat, ?_, by rw [Nat.mod_eq_of_lt h128], ?_⟩
          · rw [cnt_small h128]
            simp
          · rcases hb0 with hb0 | hb0
            · exact .inl fun e => hb0 (UInt8.toNat_inj.1 (by rw [e]; rfl))
            · exact .inr hb0
        · cases h
      · rename_i h128
        obtain ⟨y', e1, e2, e3⟩ := readC_back l _ _ _ _ h
        have hy : y' ≠ 0 := by omega
        have hb := b.toNat_lt
        refine ⟨b.toNat % 128 + 128 * y', ?_, ?_, .inl (by omega)⟩
        · rw [cnt_more (by omega), e1, show (b.toNat % 128 + 128 * y') % 128 + 128 = b.toNat by omega, show (b.toNat % 128 + 128 * y') / 128 = y' by omega]
          simp
        · rw [e2, Nat.add_mul, Nat.pow_add, Nat.add_assoc]
          congr 2
          rw [Nat.mul_comm 128, Nat.mul_assoc, Nat.mul_comm 128]
/-! ### items -/
def readL (f : List UInt8 → Except Int ((UInt8 × Int × List UInt8 × Its) × List UInt8)) : Nat → List UInt8 → Except Int (Its × List UInt8)
  | 0, s => .ok (.nil, s)
  | n + 1, s => match f s with
    | .error e => .error e
    | .ok ((k, m, a, sub), r) => match readL f n r with
      | .error e => .error e
      | .ok (t, r') => .ok (.cons k m a sub t, r')
/-- an item, where lists may go q deeper -/
def readIt : Nat → List UInt8 → Except Int ((UInt8 × Int × List UInt8 × Its) × List UInt8)
  | _, [] => .error 4
  | 0, k :: r => match readC 0 0 r with
    | none => .error 4
    | some (x, r2) => if k = 1 then .ok ((1, unfolded x, [], .nil), r2) else if k = 2 then (if r2.length < x then .error 4 else .ok ((2, 0, r2.take x, .nil), r2.drop x)) else if k = 3 then .error 84 else .error 4
  | q + 1, k :: r => match readC 0 0 r with
    | none => .error 4
    | some (x, r2) => if k = 1 then .ok ((1, unfolded x, [], .nil), r2) else if k = 2 then (if r2.length < x then .error 4 else .ok ((2, 0, r2.take x, .nil), r2.drop x)) else if k = 3 then (match readL (readIt q) x r2 with
      | .error e => .error e
      | .ok (t, r3) => .ok ((3, 0, [], t), r3)) else .error 4
/-- an item that may be, where it is no list -/
theorem readIt_flat (q : Nat) (k : UInt8) (n : Int) (s : List UInt8) (sub : Its) (r : List UInt8) (ho : ok1 k n s sub.len = true) (hk : k ≠ 3) (h1 : -9223372036854775808 ≤ n) (h2 : n ≤ 9223372036854775807) (hs : s.length < 18446744073709551616) :
    readIt q (k :: (body k n s sub.len (encB sub) ++ r)) = .ok ((k, n, s, .nil), r) ∧ sub = .nil := by
  have hsub : sub.len = 0 → sub = .nil := fun h => by
    cases sub with
    | nil => rfl
    | cons => simp [Its.len] at h
  unfold ok1 at ho
  by_cases e1 : k = 1
  · subst e1
    rw [if_pos rfl] at ho
    simp only [Bool.and_eq_true, List.isEmpty_iff, beq_iff_eq] at ho
    obtain ⟨rfl, h0⟩ := ho
    have hc := readC_cnt (folded n + 1) (folded n) 0 0 r (by omega) (by have := folded_lt n h1 h2; omega) (.inr rfl)
    rw [Nat.zero_add, Nat.pow_zero, Nat.mul_one] at hc
    refine ⟨?_, hsub h0⟩
    unfold body
    rw [if_pos rfl]
    cases q <;> rw [readIt, hc] <;> simp [unfolded_folded]
  · rw [if_neg e1] at ho
    by_cases e2 : k = 2
    · subst e2
      rw [if_pos rfl] at ho
      simp only [Bool.and_eq_true, beq_iff_eq] at ho
      obtain ⟨rfl, h0⟩ := ho
      have hc := readC_cnt (s.length + 1) s.length 0 0 (s ++ r) (by omega) (by omega) (.inr rfl)
      rw [Nat.zero_add, Nat.pow_zero, Nat.mul_one] at hc
      refine ⟨?_, hsub h0⟩
      unfold body
      rw [if_neg (by decide), if_pos rfl, List.append_assoc]
      cases q <;> rw [readIt, hc] <;> simp
    · rw [if_neg e2, if_neg hk] at ho
      cases ho
theorem readL_cons {f : List UInt8 → Except Int ((UInt8 × Int × List UInt8 × Its) × List UInt8)} {n : Nat} {s r r' : List UInt8} {k : UInt8} {m : Int} {a : List UInt8} {sub t : Its} (h1 : f s = .ok ((k, m, a, sub), r)) (h2 : readL f n r = .ok (t, r')) : readL f (n + 1) s = .ok (.cons k m a sub t, r') := by
  rw [readL, h1]
  simp only
  rw [h2]
theorem readL_enc : ∀ (t : Its) (q : Nat) (r : List UInt8), q ≤ 16 → encE (17 - q) t = 0 → t.fits → t.weight ≤ 10000000 → readL (readIt q) t.len (encB t ++ r) = .ok (t, r)
  | .nil, _, _, _, _, _, _ => rfl
  | .cons k n s sub rr, q, r, hq, he, hf, hw => by
    simp only [Its.weight] at hw
    have hlw : sub.len ≤ 10000000 := by have := Its.len_size sub; have := Its.size_weight sub; omega
    cases ho : ok1 k n s sub.len with
    | false => rw [encE_bad ho] at he; cases he
    | true =>
      rw [encB, List.cons_append, List.append_assoc, Its.len]
      by_cases h3 : k = 3
      · subst h3
        have h16 : ¬ 16 < 17 - q := fun h => by rw [encE_deep ho h] at he; cases he
        rw [encE_sub ho h16] at he
        by_cases hs : encE (17 - q + 1) sub = 0
        · rw [if_pos hs] at he
          obtain ⟨q', rfl⟩ : ∃ q', q = q' + 1 := ⟨q - 1, by omega⟩
          rw [show 17 - (q' + 1) + 1 = 17 - q' by omega] at hs
          have hi := readL_enc sub q' (encB rr ++ r) (by omega) hs hf.2.1 (by omega)
          have hc := readC_cnt (sub.len + 1) sub.len 0 0 (encB sub ++ (encB rr ++ r)) (by omega) (by omega) (.inr rfl)
          rw [Nat.zero_add, Nat.pow_zero, Nat.mul_one] at hc
          have hn : n = 0 ∧ s = [] := by
            unfold ok1 at ho
            rw [if_neg (by decide), if_neg (by decide), if_pos rfl] at ho
            simpa using ho
          obtain ⟨rfl, rfl⟩ := hn
          refine readL_cons (r := encB rr ++ r) ?_ (readL_enc rr (q' + 1) r hq he hf.2.2 (by omega))
          unfold body
          rw [if_neg (by decide), if_neg (by decide), if_pos rfl, List.append_assoc, readIt, hc]
          simp only
          rw [if_neg (by decide), if_neg (by decide), if_pos trivial, hi]
        · rw [if_neg hs] at he
          exact absurd he hs
      · rw [encE_flat ho h3] at he
        obtain ⟨h1, rfl⟩ := readIt_flat q k n s sub (encB rr ++ r) ho h3 hf.1.1 hf.1.2 (by omega)
        exact readL_cons h1 (readL_enc rr q r hq he hf.2.2 (by omega))
theorem encE_join {d : Nat} {k : UInt8} {n : Int} {s : List UInt8} {sub r : Its} (h : encE d (.cons k n s sub .nil) = 0) (hr : encE d r = 0) : encE d (.cons k n s sub r) = 0 := by
  rw [encE] at h ⊢
  split at h
  · split at h
    · split at h
      · cases h
      · split at h
        · rename_i a b c e
          rw [if_pos a, if_pos b, if_neg c, if_pos e]
          exact hr
        · rename_i e
          exact absurd h e
    · rename_i a b
      rw [if_pos a, if_neg b]
      exact hr
  · cases h
theorem readC_lt : ∀ (l : List UInt8) (k x v : Nat) (r : List UInt8), readC k x l = some (v, r) → ∃ y, v = x + y * 2 ^ k ∧ y * 2 ^ k < 18446744073709551616 ∧ (y ≠ 0 ∨ k = 0)
  | [], _, _, _, _, h => by simp [readC] at h
  | b :: l, k, x, v, r, h => by
    rw [readC] at h
    have hb := bitLen_lt ⟨b.toNat % 128, Nat.mod_lt _ (by decide)⟩
    simp only at hb
    split at h
    · cases h
    · rename_i h64
      split at h
      · rename_i h128
        split at h
        · rename_i hb0
          simp only [Option.some.injEq, Prod.mk.injEq] at h
          obtain ⟨rfl, rfl⟩ := h
          refine ⟨b.toNat % 128, rfl, ?_, ?_⟩
          · have h1 : b.toNat % 128 * 2 ^ k < 2 ^ Lib.bitLen (b.toNat % 128) * 2 ^ k := Nat.mul_lt_mul_of_pos_right hb.1 (Nat.pow_pos (by decide))
            rw [← Nat.pow_add] at h1
            have h3 : (2 : Nat) ^ (Lib.bitLen (b.toNat % 128) + k) ≤ 2 ^ 64 := Nat.pow_le_pow_right (by decide) (by omega)
            have h4 : (2 : Nat) ^ 64 = 18446744073709551616 := by decide
            omega
          · rcases hb0 with hb0 | hb0
            · exact .inl fun e => hb0 (UInt8.toNat_inj.1 (by rw [Nat.mod_eq_of_lt h128] at e; rw [e]; rfl))
            · exact .inr hb0
        · cases h
      · rename_i h128
        obtain ⟨y', e2, e4, e3⟩ := readC_lt l _ _ _ _ h
        have hy : y' ≠ 0 := by omega
        have hp : (2 : Nat) ^ (k + 7) = 128 * 2 ^ k := by rw [Nat.pow_add, Nat.mul_comm]
        have hj : k + 7 < 64 := by
          apply Nat.lt_of_not_le
          intro hle
          have h1 : (2 : Nat) ^ 64 ≤ 2 ^ (k + 7) := Nat.pow_le_pow_right (by decide) hle
          have h2 : 1 * 2 ^ (k + 7) ≤ y' * 2 ^ (k + 7) := Nat.mul_le_mul_right _ (by omega)
          have h3 : (2 : Nat) ^ 64 = 18446744073709551616 := by decide
          omega
        have hyl : y' < 2 ^ (64 - (k + 7)) := by
          apply Nat.lt_of_not_le
          intro hle
          have h1 : 2 ^ (64 - (k + 7)) * 2 ^ (k + 7) ≤ y' * 2 ^ (k + 7) := Nat.mul_le_mul_right _ hle
          rw [← Nat.pow_add, show 64 - (k + 7) + (k + 7) = 64 by omega] at h1
          have h3 : (2 : Nat) ^ 64 = 18446744073709551616 := by decide
          omega
        have hys : (y' + 1) * 2 ^ (k + 7) ≤ 18446744073709551616 := by
          have h1 : (y' + 1) * 2 ^ (k + 7) ≤ 2 ^ (64 - (k + 7)) * 2 ^ (k + 7) := Nat.mul_le_mul_right _ hyl
          rw [← Nat.pow_add, show 64 - (k + 7) + (k + 7) = 64 by omega] at h1
          have h3 : (2 : Nat) ^ 64 = 18446744073709551616 := by decide
          omega
        have hs : (b.toNat % 128 + 128 * y') * 2 ^ k = b.toNat % 128 * 2 ^ k + y' * 2 ^ (k + 7) := by
          rw [Nat.add_mul, hp, Nat.mul_comm 128 y', Nat.mul_assoc]
        have hm : b.toNat % 128 * 2 ^ k < 2 ^ (k + 7) := by
          rw [hp]
          exact Nat.mul_lt_mul_of_pos_right (Nat.mod_lt _ (by decide)) (Nat.pow_pos (by decide))
        rw [Nat.add_mul, Nat.one_mul] at hys
        refine ⟨b.toNat % 128 + 128 * y', by rw [hs, e2]; omega, by rw [hs]; omega, .inl (by omega)⟩
theorem readC_whole {l r : List UInt8} {v : Nat} (h : readC 0 0 l = some (v, r)) : l = cnt v ++ r ∧ v < 18446744073709551616 := by
  obtain ⟨y, e1, e2, _⟩ := readC_back l 0 0 v r h
  obtain ⟨y2, e3, e4, _⟩ := readC_lt l 0 0 v r h
  rw [Nat.pow_zero, Nat.mul_one, Nat.zero_add] at e2 e3
  rw [Nat.pow_zero, Nat.mul_one] at e4
  rw [e2]
  exact ⟨e1, by omega⟩
theorem unfolded_fits (u : Nat) (h : u < 18446744073709551616) : -9223372036854775808 ≤ unfolded u ∧ unfolded u ≤ 9223372036854775807 := by
  unfold unfolded
  split <;> omega
def Item1 (d : Nat) (s : List UInt8) (k : UInt8) (n : Int) (a : List UInt8) (sub : Its) (r : List UInt8) : Prop :=
  s = k :: (body k n a sub.len (encB sub) ++ r) ∧ encE d (.cons k n a sub .nil) = 0 ∧ (-9223372036854775808 ≤ n ∧ n ≤ 9223372036854775807) ∧ sub.fits
theorem readL_back {f : List UInt8 → Except Int ((UInt8 × Int × List UInt8 × Its) × List UInt8)} {d : Nat} (hf : ∀ s k n a sub r, f s = .ok ((k, n, a, sub), r) → Item1 d s k n a sub r) :
    ∀ (m : Nat) (s : List UInt8) (t : Its) (r : List UInt8), readL f m s = .ok (t, r) → s = encB t ++ r ∧ t.len = m ∧ encE d t = 0 ∧ t.fits := by
  intro m
  induction m with
  | zero =>
    intro s t r h
    rw [readL] at h
    simp only [Except.ok.injEq, Prod.mk.injEq] at h
    obtain ⟨rfl, rfl⟩ := h
    exact ⟨rfl, rfl, rfl, trivial⟩
  | succ m ih =>
    intro s t r h
    rw [readL] at h
    split at h
    · cases h
    · rename_i k n a sub r1 h1
      split at h
      · cases h
      · rename_i t2 r2 h2
        simp only [Except.ok.injEq, Prod.mk.injEq] at h
        obtain ⟨rfl, rfl⟩ := h
        obtain ⟨e1, e2, e3, e4⟩ := hf _ _ _ _ _ _ h1
        obtain ⟨g1, g2, g3, g4⟩ := ih _ _ _ h2
        exact ⟨by rw [e1, g1, encB]; simp, by rw [Its.len, g2], encE_join e2 g3, e3, e4, g4⟩
theorem readIt_back : ∀ (q : Nat), q ≤ 16 → ∀ s k n a sub r, readIt q s = .ok ((k, n, a, sub), r) → Item1 (17 - q) s k n a sub r
  | q, _, [], k, n, a, sub, r, h => by cases q <;> simp [readIt] at h
  | q, hq, b :: s, k, n, a, sub, r, h => by
    have key : ∀ x r2, readC 0 0 s = some (x, r2) → (if b = 1 then (Except.ok ((1, unfolded x, [], Its.nil), r2) : Except Int ((UInt8 × Int × List UInt8 × Its) × List UInt8)) else if b = 2 then (if r2.length < x then .error 4 else .ok ((2, 0, r2.take x, .nil), r2.drop x)) else .error 4) = .ok ((k, n, a, sub), r) → Item1 (17 - q) (b :: s) k n a sub r := by
      intro x r2 hc h
      obtain ⟨e1, e2⟩ := readC_whole hc
      split at h
      · rename_i hb
        simp only [Except.ok.injEq, Prod.mk.injEq] at h
        obtain ⟨⟨rfl, rfl, rfl, rfl⟩, rfl⟩ := h
        refine ⟨by rw [hb, e1]; unfold body; rw [if_pos rfl, folded_unfolded], ?_, unfolded_fits x e2, trivial⟩
        rw [encE_flat (by unfold ok1; rfl) (by decide)]
        rfl
      · split at h
        · rename_i hb
          split at h
          · cases h
          · rename_i hl
            simp only [Except.ok.injEq, Prod.mk.injEq] at h
            obtain ⟨⟨rfl, rfl, rfl, rfl⟩, rfl⟩ := h
            refine ⟨by rw [hb, e1]; unfold body; rw [if_neg (by decide), if_pos rfl, List.length_take, Nat.min_eq_left (by omega), List.append_assoc, List.take_append_drop], ?_, ⟨by decide, by decide⟩, trivial⟩
            rw [encE_flat (by unfold ok1; rfl) (by decide)]
            rfl
        · cases h
    cases q with
    | zero =>
      rw [readIt] at h
      split at h
      · cases h
      · rename_i x r2 hc
        refine key x r2 hc ?_
        by_cases h3 : b = 3
        · subst h3
          simp at h
        · rw [if_neg h3] at h
          exact h
    | succ q =>
      rw [readIt] at h
      split at h
      · cases h
      · rename_i x r2 hc
        by_cases h3 : b = 3
        · subst h3
          rw [if_neg (by decide), if_neg (by decide), if_pos rfl] at h
          split at h
          · cases h
          · rename_i t r3 hl
            simp only [Except.ok.injEq, Prod.mk.injEq] at h
            obtain ⟨⟨rfl, rfl, rfl, rfl⟩, rfl⟩ := h
            obtain ⟨g1, g2, g3, g4⟩ := readL_back (d := 17 - q) (readIt_back q (by omega)) _ _ _ _ hl
            obtain ⟨e1, e2⟩ := readC_whole hc
            refine ⟨by rw [e1, g1, ← g2]; unfold body; rw [if_neg (by decide), if_neg (by decide), if_pos rfl, List.append_assoc], ?_, ⟨by decide, by decide⟩, g4⟩
            rw [encE_sub (by unfold ok1; rfl) (by omega), show 17 - (q + 1) + 1 = 17 - q by omega, if_pos g3]
            rfl
        · refine key x r2 hc ?_
          rw [if_neg h3] at h
          exact h
end Go.Proofs.YtfbdikaaeedeoaaDoor.Ky

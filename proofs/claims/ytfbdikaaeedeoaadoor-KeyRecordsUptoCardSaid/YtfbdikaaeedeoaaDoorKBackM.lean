/-
  Records there and back, as plain mathematics.
-/
import Derived.Test.YtfbdikaaeedeoaaDoorKDecode
import Derived.Test.YtfbdikaaeedeoaaDoorKSame
namespace Go.Proofs.YtfbdikaaeedeoaaDoor.Ky
set_option maxRecDepth 100000

theorem encE_part {d : Nat} {k : UInt8} {n : Int} {s : List UInt8} {sub r : Its} (h : encE d (.cons k n s sub r) = 0) : encE d (.cons k n s sub .nil) = 0 ∧ encE d r = 0 := by
  rw [encE] at h ⊢
  split at h
  · rename_i a
    rw [if_pos a]
    split at h
    · rename_i b
      rw [if_pos b]
      split at h
      · cases h
      · rename_i c
        rw [if_neg c]
        split at h
        · rename_i e
          rw [if_pos e]
          exact ⟨rfl, h⟩
        · rename_i e
          exact absurd h e
    · rename_i b
      rw [if_neg b]
      exact ⟨rfl, h⟩
  · cases h
theorem readL_one {f : List UInt8 → Except Int ((UInt8 × Int × List UInt8 × Its) × List UInt8)} {s r a : List UInt8} {k : UInt8} {n : Int} {sub : Its} (h : readL f 1 s = .ok (.cons k n a sub .nil, r)) : f s = .ok ((k, n, a, sub), r) := by
  rw [readL] at h
  cases hf : f s with
  | error e => rw [hf] at h; cases h
  | ok y =>
    obtain ⟨⟨k', n', a', sub'⟩, r'⟩ := y
    rw [hf] at h
    simp only [readL, Except.ok.injEq, Prod.mk.injEq, Its.cons.injEq, and_true] at h
    obtain ⟨⟨rfl, rfl, rfl, rfl⟩, rfl⟩ := h
    rfl
theorem encB_cons (k : UInt8) (n : Int) (s : List UInt8) (sub r : Its) : encB (.cons k n s sub r) = encB (.cons k n s sub .nil) ++ encB r := by
  simp [encB]
theorem dec_enc : ∀ t : Its, encE 1 t = 0 → t.fits → t.weight ≤ 10000000 → dec (encB t) = .ok t
  | .nil, _, _, _ => rfl
  | .cons k n s sub r, he, hf, hw => by
    obtain ⟨h1, h2⟩ := encE_part he
    simp only [Its.weight] at hw
    have h3 := readL_enc (.cons k n s sub .nil) 16 (encB r) (Nat.le_refl _) h1 ⟨hf.1, hf.2.1, trivial⟩ (by simp only [Its.weight]; omega)
    have h4 := readL_one h3
    rw [← encB_cons] at h4
    rw [dec_step h4, dec_enc r h2 hf.2.2 (by omega)]
theorem dec_back : ∀ (N : Nat) (s : List UInt8) (t : Its), s.length ≤ N → dec s = .ok t → s = encB t ∧ encE 1 t = 0 ∧ t.fits := by
  intro N
  induction N with
  | zero =>
    intro s t hs h
    obtain rfl : s = [] := List.eq_nil_of_length_eq_zero (by omega)
    rw [dec_nil] at h
    cases h
    exact ⟨rfl, rfl, trivial⟩
  | succ N ih =>
    intro s t hs h
    by_cases h0 : s = []
    · subst h0
      rw [dec_nil] at h
      cases h
      exact ⟨rfl, rfl, trivial⟩
    · cases hi : readIt 16 s with
      | error c => rw [dec_bad h0 hi] at h; cases h
      | ok y =>
        obtain ⟨⟨k, n, a, sub⟩, r⟩ := y
        have hl := readIt_shorter hi
        rw [dec_step hi] at h
        cases hr : dec r with
        | error c => rw [hr] at h; cases h
        | ok t2 =>
          rw [hr] at h
          simp only [Except.ok.injEq] at h
          subst h
          obtain ⟨e1, e2, e3, e4⟩ := readIt_back 16 (by omega) _ _ _ _ _ _ hi
          obtain ⟨g1, g2, g3⟩ := ih r t2 (by omega) hr
          refine ⟨?_, encE_join e2 g2, e3, e4, g3⟩
          rw [e1, encB, ← g1]
theorem sub_nil {k : UInt8} {n : Int} {s : List UInt8} {sub : Its} (h : ok1 k n s sub.len = true) (hk : k ≠ 3) : sub = .nil := by
  have hz : sub.len = 0 := by
    unfold ok1 at h
    split at h
    · simp only [Bool.and_eq_true, beq_iff_eq] at h; exact h.2
    · split at h
      · simp only [Bool.and_eq_true, beq_iff_eq] at h; exact h.2
      · cases h
  cases sub with
  | nil => rfl
  | cons => simp [Its.len] at hz
theorem ok1_of {d : Nat} {k : UInt8} {n : Int} {s : List UInt8} {sub r : Its} (h : encE d (.cons k n s sub r) = 0) : ok1 k n s sub.len = true := by
  cases ho : ok1 k n s sub.len with
  | true => rfl
  | false => rw [encE_bad ho] at h; cases h
theorem enc_deeper {d : Nat} {n : Int} {s : List UInt8} {sub r : Its} (h : encE d (.cons 3 n s sub r) = 0) : d ≤ 16 ∧ encE (d + 1) sub = 0 := by
  have ho := ok1_of h
  by_cases hd : 16 < d
  · rw [encE_deep ho hd] at h; cases h
  · rw [encE_sub ho hd] at h
    split at h
    · exact ⟨by omega, by assumption⟩
    · rename_i e
      exact absurd h e
theorem weight_enc : ∀ (t : Its) (d : Nat), encE d t = 0 → t.weight ≤ (encB t).length
  | .nil, _, _ => Nat.le_refl _
  | .cons k n s sub r, d, h => by
    have hr := weight_enc r d (encE_part h).2
    have ho := ok1_of h
    rw [encB, List.length_cons, List.length_append, Its.weight]
    suffices hb : s.length + sub.weight ≤ (body k n s sub.len (encB sub)).length by omega
    by_cases h3 : k = 3
    · subst h3
      have hs := weight_enc sub (d + 1) (enc_deeper h).2
      have hn : s = [] := by
        unfold ok1 at ho
        rw [if_neg (by decide), if_neg (by decide), if_pos rfl] at ho
        simp only [Bool.and_eq_true, List.isEmpty_iff] at ho
        exact ho.2
      subst hn
      unfold body
      rw [if_neg (by decide), if_neg (by decide), if_pos rfl, List.length_append]
      simp only [List.length_nil]
      omega
    · obtain rfl := sub_nil ho h3
      unfold ok1 at ho
      split at ho
      · simp only [Bool.and_eq_true, List.isEmpty_iff] at ho
        rw [ho.1]
        simp [Its.weight]
      · split at ho
        · rename_i h1 h2
          subst h2
          unfold body
          rw [if_neg (by decide), if_pos rfl, List.length_append]
          simp only [Its.weight]
          omega
        · cases ho
theorem sameD_eq : ∀ (a b : Its) (d deep : Nat), encE d a = 0 → deep ≤ d → d ≤ 17 → (sameD deep a b = true ↔ a = b)
  | .nil, .nil, _, _, _, _, _ => by simp [sameD]
  | .nil, .cons _ _ _ _ _, _, _, _, _, _ => by simp [sameD]
  | .cons _ _ _ _ _, .nil, _, _, _, _, _ => by simp [sameD]
  | .cons k n s sub r, .cons k' n' s' sub' r', d, deep, h, hd, h17 => by
    have hr := sameD_eq r r' d deep (encE_part h).2 hd h17
    have hs : sameD (deep + 1) sub sub' = true ↔ sub = sub' := by
      by_cases h3 : k = 3
      · subst h3
        obtain ⟨h1, h2⟩ := enc_deeper h
        exact sameD_eq sub sub' (d + 1) (deep + 1) h2 (by omega) (by omega)
      · obtain rfl := sub_nil (ok1_of h) h3
        cases sub' <;> simp [sameD]
    rw [sameD, if_neg (by omega)]
    simp only [Bool.and_eq_true, decide_eq_true_eq, hs, hr, Its.cons.injEq]
    constructor
    · rintro ⟨⟨⟨⟨h1, h2⟩, h3⟩, h4⟩, h5⟩
      exact ⟨h1, h2, h3, h4, h5⟩
    · rintro ⟨h1, h2, h3, h4, h5⟩
      exact ⟨⟨⟨⟨h1, h2⟩, h3⟩, h4⟩, h5⟩
theorem same_bytes (a b : Its) (ha : encE 1 a = 0) (hb : encE 1 b = 0) (fa : a.fits) (fb : b.fits) (wa : a.weight ≤ 10000000) (wb : b.weight ≤ 10000000) : sameA 0 a b = (encB a == encB b) := by
  unfold sameA
  rw [if_neg (by decide), Bool.eq_iff_iff, sameD_eq a b 1 0 ha (by decide) (by decide)]
  simp only [beq_iff_eq]
  constructor
  · rintro rfl; rfl
  · intro h
    have h1 := dec_enc a ha fa wa
    rw [h, dec_enc b hb fb wb] at h1
    exact (Except.ok.inj h1).symm
/-- what Encode tells of items, in two cases -/
theorem recE_cases (t : Its) : encodeE t ≠ 0 ∨ (encodeE t = 0 ∧ encodeS t = encB t ∧ encE 1 t = 0 ∧ (encB t).length ≤ 100000) := by
  by_cases h : encE 1 t = 0
  · by_cases hf : 100000 < (encB t).length
    · left; rw [(Ky.encode_full h hf).2]; decide
    · right; exact ⟨(Ky.encode_ok h hf).2, (Ky.encode_ok h hf).1, h, by omega⟩
  · left; rw [(Ky.encode_bad h).2]; exact h
theorem decT_enc (t : Its) (h : encE 1 t = 0) (f : t.fits) (w : t.weight ≤ 10000000) (hl : (encB t).length ≤ 100000) : decT (encB t) = t ∧ decE (encB t) = 0 := by
  unfold decT decE
  rw [if_neg (by omega), if_neg (by omega), dec_enc t h f w]
  exact ⟨rfl, rfl⟩
/-- what Decode tells of bytes, in two cases -/
theorem recD_cases (s : List UInt8) : (decE s ≠ 0 ∧ decT s = .nil) ∨ (decE s = 0 ∧ encB (decT s) = s ∧ encE 1 (decT s) = 0 ∧ (decT s).fits ∧ (decT s).weight ≤ 100000 ∧ s.length ≤ 100000) := by
  unfold decE decT
  by_cases hl : 100000 < s.length
  · rw [if_pos hl, if_pos hl]
    exact .inl ⟨by decide, rfl⟩
  · rw [if_neg hl, if_neg hl]
    cases h : dec s with
    | error c =>
      left
      refine ⟨?_, rfl⟩
      have key : ∀ (N : Nat) (s : List UInt8), s.length ≤ N → dec s = .error c → c ≠ 0 := by
        intro N
        induction N with
        | zero =>
          intro s hs h
          obtain rfl : s = [] := List.eq_nil_of_length_eq_zero (by omega)
          rw [dec_nil] at h
          cases h
        | succ N ih =>
          intro s hs h
          by_cases h0 : s = []
          · subst h0; rw [dec_nil] at h; cases h
          · cases hi : readIt 16 s with
            | error e =>
              rw [dec_bad h0 hi] at h
              cases h
              exact readIt_err 16 s _ hi
            | ok y =>
              obtain ⟨⟨k, n, a, sub⟩, r⟩ := y
              have := readIt_shorter hi
              rw [dec_step hi] at h
              cases hr : dec r with
              | error e => rw [hr] at h; cases h; exact ih r (by omega) hr
              | ok t => rw [hr] at h; cases h
      exact key _ s (Nat.le_refl _) h
    | ok t =>
      right
      obtain ⟨h1, h2, h3⟩ := dec_back _ s t (Nat.le_refl _) h
      have := weight_enc t 1 h2
      rw [← h1] at this
      exact ⟨rfl, h1.symm, h2, h3, by simp only; omega, by omega⟩
/-- what Unpack tells of what Pack wrote -/
theorem unpacked_bytes (l : List Part) (h : Ok l) (hl : l.length ≤ 16) : unpacked (bytes l) = some l := by
  unfold unpacked
  rw [unpack_bytes l h]
  simp only
  rw [if_pos hl]
theorem bytes_part {p : Part} {l : List Part} (h : p ∈ l) : p.bytes.length ≤ (bytes l).length := by
  induction l with
  | nil => cases h
  | cons q l ih =>
    rw [bytes_cons, List.length_append]
    rcases List.mem_cons.1 h with rfl | h
    · omega
    · have := ih h
      omega
theorem say_bytes (p : Part) (h : p.ok = true) : p.say.length ≤ p.bytes.length := by
  unfold Part.bytes
  split
  · have := (esc_len p.say).2
    simp
    omega
  · rename_i ht
    unfold Part.ok at h
    rw [if_neg ht] at h
    simp at h
    rw [h]
    simp
end Go.Proofs.YtfbdikaaeedeoaaDoor.Ky

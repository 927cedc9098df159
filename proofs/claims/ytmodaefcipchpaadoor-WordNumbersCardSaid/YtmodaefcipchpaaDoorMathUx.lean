/-
  Plain mathematics: the document's way through a quoted text comes to the same as the program's.
-/
import Derived.Test.YtmodaefcipchpaaDoorMathUw
namespace Go.Proofs.YtmodaefcipchpaaDoor

theorem Sp.bt_get' (s : ByteArray) (i : Nat) (h : i < s.size) : (s[i]'h).toNat = Sp.bt s i := (Sp.bt_get s i h).symm

/-- the document's way: on to the first quote -/
def unqR (s : ByteArray) : Nat → Nat → List Int → Option (List Int)
  | 0, i, acc => if i = s.size - 1 then some acc else none
  | f + 1, i, acc => if i < s.size ∧ Sp.bt s i ≠ 34 then (match rdAt s i s.size with
    | none => none
    | some (c, n) => unqR s f (i + n) (acc ++ [(c : Int)])) else if i = s.size - 1 then some acc else none
theorem unqR_stop (s : ByteArray) (f i : Nat) (acc : List Int) (h : ¬ (i < s.size ∧ Sp.bt s i ≠ 34)) : unqR s f i acc = if i = s.size - 1 then some acc else none := by
  cases f with
  | zero => rfl
  | succ f => conv => lhs; unfold unqR
              rw [if_neg h]
theorem unqR_none (s : ByteArray) (f i : Nat) (acc : List Int) (h : i < s.size ∧ Sp.bt s i ≠ 34) (hf : s.size ≤ i + f) (hd : rdAt s i s.size = none) : unqR s f i acc = none := by
  cases f with
  | zero => omega
  | succ f => unfold unqR; rw [if_pos h, hd]
theorem unqR_some (s : ByteArray) (f i c n : Nat) (acc : List Int) (h : i < s.size ∧ Sp.bt s i ≠ 34) (hf : s.size ≤ i + f) (hd : rdAt s i s.size = some (c, n)) :
    ∃ g, s.size ≤ i + n + g ∧ unqR s f i acc = unqR s g (i + n) (acc ++ [(c : Int)]) := by
  have hn := readQ_size (by omega) hd
  cases f with
  | zero => omega
  | succ f => exact ⟨f, by omega, by conv => lhs; unfold unqR
                                     rw [if_pos h, hd]⟩

theorem rd_quote (s : ByteArray) (i e : Nat) (h : Sp.bt s i = 34) : rdAt s i e = none := by
  unfold rdAt readQ
  rw [h, if_pos (by omega), if_neg (by decide)]
/-- a byte that is read to the nearer end is read to the farther one -/
theorem rd_mono (s : ByteArray) (i e e' : Nat) (c n : Nat) (h : rdAt s i e = some (c, n)) (hi : i < e) (he : e ≤ e') : rdAt s i e' = some (c, n) := by
  obtain ⟨hc, hn, hb⟩ := read_begins (by omega) (Sp.bt_lt _ _) (Sp.bt_lt _ _) (Sp.bt_lt _ _) (Sp.bt_lt _ _) h
  rw [hn]
  exact begins_read hc ⟨by have := hb.1; omega, hb.2⟩
/-- a byte that is read to the farther end alone goes to it -/
theorem rd_less (s : ByteArray) (i : Nat) (c n : Nat) (hi : i < s.size - 1) (h : rdAt s i s.size = some (c, n)) (hno : rdAt s i (s.size - 1) = none) : i + n = s.size := by
  obtain ⟨hc, hn, hb⟩ := read_begins (by omega) (Sp.bt_lt _ _) (Sp.bt_lt _ _) (Sp.bt_lt _ _) (Sp.bt_lt _ _) h
  have h1 := hb.1
  rcases Nat.lt_or_ge (s.size - 1 - i) n with h' | h'
  · omega
  · have := begins_read (m := s.size - 1 - i) hc ⟨by omega, hb.2⟩
    unfold rdAt at hno
    rw [hno] at this
    cases this

theorem unq_same (s : ByteArray) (hl : Sp.bt s (s.size - 1) = 34) (hz : 2 ≤ s.size) : ∀ (f i g : Nat) (acc : List Int), i ≤ s.size - 1 → s.size ≤ i + f → s.size ≤ i + g → unqW s (s.size - 1) g i acc = unqR s f i acc := by
  intro f
  induction f with
  | zero => intro i g acc hi hf hg; omega
  | succ f ih =>
    intro i g acc hi hf hg
    by_cases he : i = s.size - 1
    · subst he
      rw [unqW_end s _ g _ acc (Nat.le_refl _), unqR_stop s _ _ acc (fun h => h.2 hl), if_pos rfl]
    · by_cases hq : Sp.bt s i = 34
      · rw [unqW_none s _ g i acc (by omega) (rd_quote s i _ hq), unqR_stop s _ _ acc (fun h => h.2 hq), if_neg he]
      · cases hd : rdAt s i (s.size - 1) with
        | some p =>
          obtain ⟨c, n⟩ := p
          have hn := readQ_size (by omega) hd
          obtain ⟨g', hg', e1⟩ := unqW_some s (s.size - 1) g i c n acc (by omega) (by omega) hd
          have hd' := rd_mono s i _ s.size c n hd (by omega) (by omega)
          rw [e1]
          conv => rhs; unfold unqR
          rw [if_pos ⟨by omega, hq⟩, hd']
          cases g with
          | zero => omega
          | succ g =>
            have e2 : unqW s (s.size - 1) (g + 1) i acc = unqW s (s.size - 1) g (i + n) (acc ++ [(c : Int)]) := by
              conv => lhs; unfold unqW
              rw [if_neg (by omega), hd]
            rw [← e1, e2]
            exact ih (i + n) g _ (by omega) (by omega) (by omega)
        | none =>
          rw [unqW_none s _ g i acc (by omega) hd]
          cases hd' : rdAt s i s.size with
          | none => rw [unqR_none s _ i acc ⟨by omega, hq⟩ hf hd']
          | some p =>
            obtain ⟨c, n⟩ := p
            have hx := rd_less s i c n (by omega) hd' hd
            obtain ⟨g', hg', e1⟩ := unqR_some s (f + 1) i c n acc ⟨by omega, hq⟩ hf hd'
            rw [e1, unqR_stop s _ _ _ (by omega), if_neg (by omega)]

/-- without a quote at its end a text is read by neither -/
theorem unqR_open (s : ByteArray) (hl : Sp.bt s (s.size - 1) ≠ 34) (hz : 2 ≤ s.size) : ∀ (f i : Nat) (acc : List Int), s.size ≤ i + f → unqR s f i acc = none ∨ (f = 0 ∧ i = s.size - 1) := by
  intro f
  induction f with
  | zero =>
    intro i acc hf
    left
    rw [unqR_stop s _ _ _ (by omega), if_neg (by omega)]
  | succ f ih =>
    intro i acc hf
    left
    by_cases h : i < s.size ∧ Sp.bt s i ≠ 34
    · cases hd : rdAt s i s.size with
      | none => exact unqR_none s _ i acc h hf hd
      | some p =>
        obtain ⟨c, n⟩ := p
        have hn := readQ_size (by omega) hd
        conv => lhs; unfold unqR
        rw [if_pos h, hd]
        rcases ih (i + n) (acc ++ [(c : Int)]) (by omega) with e | ⟨e1, e2⟩
        · exact e
        · omega
    · rw [unqR_stop s _ _ _ h]
      by_cases he : i = s.size - 1
      · subst he; exact absurd ⟨by omega, hl⟩ h
      · rw [if_neg he]

theorem unquote_doc (s : ByteArray) : Sp.unquote s = if s.size < 2 ∨ Sp.bt s 0 ≠ 34 then none else unqR s s.size 1 [] := by
  unfold Sp.unquote
  by_cases h : s.size < 2 ∨ Sp.bt s 0 ≠ 34
  · rw [if_pos h, if_pos (by omega)]
  · rw [if_neg h]
    by_cases hl : Sp.bt s (s.size - 1) = 34
    · rw [if_neg (by omega)]
      exact unq_same s hl (by omega) s.size 1 s.size [] (by omega) (by omega) (by omega)
    · rw [if_pos (by omega)]
      rcases unqR_open s hl (by omega) s.size 1 [] (by omega) with e | ⟨e, -⟩
      · rw [e]
      · omega
end Go.Proofs.YtmodaefcipchpaaDoor

/-
  Keys as plain mathematics: parts, their bytes, bytes read as parts, the keys' order, what stands behind a beginning.
-/
import Derived.Test.YtfbdikaaeedeoaaDoorTMath
import Derived.Test.YtfbdikaaeedeoaaDoorPMath
namespace Go.Proofs.YtfbdikaaeedeoaaDoor.Ky
open Tr (lt)

structure Part where
  text : Bool
  n : Int
  say : List UInt8
def Part.ok (p : Part) : Bool := if p.text then p.n == 0 else p.say.isEmpty
def Part.fits (p : Part) : Prop := -9223372036854775808 ≤ p.n ∧ p.n ≤ 9223372036854775807
def esc : List UInt8 → List UInt8
  | [] => []
  | b :: r => if b = 0 then 0 :: 255 :: esc r else b :: esc r
def shift (n : Int) : Nat := (n + 9223372036854775808).toNat
def unshift (v : Nat) : Int := (v : Int) - 9223372036854775808
def Part.bytes (p : Part) : List UInt8 := if p.text then 2 :: (esc p.say ++ [0, 0]) else 1 :: Pg.be 8 (shift p.n)
def bytes (l : List Part) : List UInt8 := l.flatMap Part.bytes
theorem bytes_nil : bytes [] = [] := rfl
theorem bytes_cons (p : Part) (l : List Part) : bytes (p :: l) = p.bytes ++ bytes l := List.flatMap_cons
theorem bytes_append (l m : List Part) : bytes (l ++ m) = bytes l ++ bytes m := List.flatMap_append
theorem esc_append (a b : List UInt8) : esc (a ++ b) = esc a ++ esc b := by
  induction a with
  | nil => rfl
  | cons x a ih =>
    rw [List.cons_append, esc, esc, ih]
    split <;> rfl
theorem esc_len (a : List UInt8) : (esc a).length ≤ 2 * a.length ∧ a.length ≤ (esc a).length := by
  induction a with
  | nil => exact ⟨Nat.le_refl _, Nat.le_refl _⟩
  | cons x a ih =>
    rw [esc]
    split <;> simp only [List.length_cons] <;> omega

/-! ### reading -/
def readText : List UInt8 → Option (List UInt8 × List UInt8)
  | [] => none
  | [b] => if b = 0 then none else none
  | b :: c :: r =>
    if b = 0 then (if c = 0 then some ([], r) else if c = 255 then (readText r).map fun x => (0 :: x.1, x.2) else none)
    else (readText (c :: r)).map fun x => (b :: x.1, x.2)
theorem readText_other {b : UInt8} (hb : b ≠ 0) (r : List UInt8) : readText (b :: r) = (readText r).map fun x => (b :: x.1, x.2) := by
  cases r with
  | nil => simp [readText]
  | cons c r => rw [readText, if_neg hb]
theorem readText_zero (r : List UInt8) : readText (0 :: r) = match r with
    | [] => none
    | c :: r => if c = 0 then some ([], r) else if c = 255 then (readText r).map fun x => (0 :: x.1, x.2) else none := by
  cases r with
  | nil => simp [readText]
  | cons c r => rw [readText, if_pos rfl]
theorem readText_nozero (a r : List UInt8) (h : ∀ b ∈ a, b ≠ 0) : readText (a ++ r) = (readText r).map fun x => (a ++ x.1, x.2) := by
  induction a with
  | nil => simp
  | cons b a ih =>
    rw [List.cons_append, readText_other (h b (by simp)), ih (fun x hx => h x (by simp [hx])), Option.map_map]
    rfl
theorem readText_none (a : List UInt8) (h : ∀ b ∈ a, b ≠ 0) : readText a = none := by
  have := readText_nozero a [] h
  rw [List.append_nil] at this
  rw [this]
  rfl
theorem readText_esc (a r : List UInt8) : readText (esc a ++ 0 :: 0 :: r) = some (a, r) := by
  induction a with
  | nil => rw [esc, List.nil_append, readText_zero]; rfl
  | cons b a ih =>
    rw [esc]
    split
    · rename_i hb
      subst hb
      rw [List.cons_append, List.cons_append, readText_zero]
      simp only [ih]
      rfl
    · rename_i hb
      rw [List.cons_append, readText_other hb, ih]
      rfl
theorem readText_back : ∀ (k : Nat) (s a r : List UInt8), s.length ≤ k → readText s = some (a, r) → s = esc a ++ 0 :: 0 :: r
  | _, [], a, r, _, h => by simp [readText] at h
  | 0, _ :: _, a, r, hk, h => by simp at hk
  | k + 1, b :: s, a, r, hk, h => by
    by_cases hb : b = 0
    · subst hb
      rw [readText_zero] at h
      cases s with
      | nil => cases h
      | cons c s =>
        simp only at h
        by_cases hc : c = 0
        · subst hc
          rw [if_pos rfl] at h
          simp only [Option.some.injEq, Prod.mk.injEq] at h
          obtain ⟨rfl, rfl⟩ := h
          rfl
        · rw [if_neg hc] at h
          by_cases hc2 : c = 255
          · subst hc2
            rw [if_pos rfl] at h
            obtain ⟨⟨a', r'⟩, h1, h2⟩ := Option.map_eq_some_iff.1 h
            simp only [Prod.mk.injEq] at h2
            obtain ⟨rfl, rfl⟩ := h2
            rw [readText_back k s a' r' (by simp at hk; omega) h1, esc, if_pos rfl]
            rfl
          · rw [if_neg hc2] at h
            cases h
    · rw [readText_other hb] at h
      obtain ⟨⟨a', r'⟩, h1, h2⟩ := Option.map_eq_some_iff.1 h
      simp only [Prod.mk.injEq] at h2
      obtain ⟨rfl, rfl⟩ := h2
      rw [readText_back k s a' r' (by simp at hk; omega) h1, esc, if_neg hb]
      rfl
def readPart : List UInt8 → Option (Part × List UInt8)
  | [] => none
  | b :: r => if b = 1 then (if r.length < 8 then none else some (⟨false, unshift (Pr.toN (r.take 8)), []⟩, r.drop 8))
    else if b = 2 then (readText r).map fun x => (⟨true, 0, x.1⟩, x.2) else none
theorem readPart_bytes (p : Part) (r : List UInt8) (ho : p.ok = true) (hf : p.fits) : readPart (p.bytes ++ r) = some (p, r) := by
  obtain ⟨t, n, s⟩ := p
  unfold Part.ok at ho
  unfold Part.fits at hf
  unfold Part.bytes
  cases t with
  | true =>
    simp only [if_true, beq_iff_eq] at ho
    subst ho
    simp only [if_true, List.cons_append, List.append_assoc, List.nil_append]
    rw [readPart, if_neg (by decide), if_pos rfl, readText_esc]
    rfl
  | false =>
    simp only [Bool.false_eq_true, if_false, List.isEmpty_iff] at ho
    subst ho
    simp only [Bool.false_eq_true, if_false, List.cons_append]
    have hl : (Pg.be 8 (shift n)).length = 8 := Pg.be_length _ _
    rw [readPart, if_pos rfl, if_neg (by rw [List.length_append, hl]; omega), List.take_append_of_le_length (by omega), List.take_of_length_le (by omega), List.drop_append_of_le_length (by omega), List.drop_of_length_le (by omega), Pr.toN_be]
    have hs : shift n < 256 ^ 8 := by unfold shift; simp only at hf; omega
    rw [Nat.mod_eq_of_lt hs]
    simp only [List.nil_append, Option.some.injEq, Prod.mk.injEq, Part.mk.injEq, and_true, true_and]
    unfold unshift shift
    simp only at hf
    omega
theorem toN8_lt (l : List UInt8) (h : l.length = 8) : Pr.toN l < 18446744073709551616 := by
  have := Pr.toN_lt l
  rw [h] at this
  simpa using this
theorem be_toN (l : List UInt8) : Pg.be l.length (Pr.toN l) = l := by
  suffices ∀ r : List UInt8, Pg.be r.length (Pr.toN r.reverse) = r.reverse by simpa using this l.reverse
  intro r
  induction r with
  | nil => rfl
  | cons c r ih =>
    have hc := c.toNat_lt
    rw [List.reverse_cons, Pr.toN_snoc, List.length_cons, Pg.be, show (Pr.toN r.reverse * 256 + c.toNat) / 256 = Pr.toN r.reverse by omega, ih, show (Pr.toN r.reverse * 256 + c.toNat) % 256 = c.toNat by omega]
    simp
theorem readPart_back (s : List UInt8) (p : Part) (r : List UInt8) (h : readPart s = some (p, r)) : s = p.bytes ++ r ∧ p.ok = true ∧ p.fits ∧ r.length < s.length := by
  cases s with
  | nil => simp [readPart] at h
  | cons b s =>
    rw [readPart] at h
    by_cases h1 : b = 1
    · subst h1
      rw [if_pos rfl] at h
      by_cases h8 : s.length < 8
      · rw [if_pos h8] at h
        cases h
      · rw [if_neg h8] at h
        simp only [Option.some.injEq, Prod.mk.injEq] at h
        obtain ⟨rfl, rfl⟩ := h
        have hl : (s.take 8).length = 8 := by rw [List.length_take]; omega
        have hlt := toN8_lt _ hl
        refine ⟨?_, rfl, ?_, ?_⟩
        · unfold Part.bytes
          simp only [Bool.false_eq_true, if_false, List.cons_append]
          have e : shift (unshift (Pr.toN (s.take 8))) = Pr.toN (s.take 8) := by unfold shift unshift; omega
          have hb := be_toN (s.take 8)
          rw [hl] at hb
          rw [e, hb, List.take_append_drop]
        · unfold Part.fits unshift
          simp only
          omega
        · simp
          omega
    · rw [if_neg h1] at h
      by_cases h2 : b = 2
      · subst h2
        rw [if_pos rfl] at h
        obtain ⟨⟨a, r'⟩, h3, h4⟩ := Option.map_eq_some_iff.1 h
        simp only [Prod.mk.injEq] at h4
        obtain ⟨rfl, rfl⟩ := h4
        have hb := readText_back _ s a r' (Nat.le_refl _) h3
        refine ⟨?_, rfl, ?_, ?_⟩
        · unfold Part.bytes
          simp only [if_true, List.cons_append, List.append_assoc, List.nil_append]
          rw [hb]
        · unfold Part.fits
          simp only
          omega
        · rw [hb]
          simp
          omega
      · rw [if_neg h2] at h
        cases h
def readAll : Nat → List UInt8 → Option (List Part)
  | _, [] => some []
  | 0, _ :: _ => none
  | k + 1, b :: s => match readPart (b :: s) with
    | none => none
    | some (p, r) => (readAll k r).map (p :: ·)
theorem readAll_more (k : Nat) : ∀ (s : List UInt8) (j : Nat), s.length ≤ k → k ≤ j → readAll j s = readAll k s := by
  induction k with
  | zero =>
    intro s j hs _
    obtain rfl : s = [] := List.eq_nil_of_length_eq_zero (by omega)
    cases j <;> rfl
  | succ k ih =>
    intro s j hs hj
    obtain ⟨j, rfl⟩ : ∃ i, j = i + 1 := ⟨j - 1, by omega⟩
    cases s with
    | nil => rfl
    | cons b s =>
      rw [readAll, readAll]
      cases h : readPart (b :: s) with
      | none => rfl
      | some x =>
        obtain ⟨p, r⟩ := x
        have := (readPart_back _ _ _ h).2.2.2
        simp only
        rw [ih r j (by simp at this hs; omega) (by omega)]
/-- the parts that bytes are -/
def unpack (s : List UInt8) : Option (List Part) := readAll s.length s
theorem unpack_nil : unpack [] = some [] := rfl
theorem unpack_step (s : List UInt8) (hs : s ≠ []) : unpack s = match readPart s with
    | none => none
    | some (p, r) => (unpack r).map (p :: ·) := by
  cases s with
  | nil => exact absurd rfl hs
  | cons b s =>
    unfold unpack
    rw [List.length_cons, readAll]
    cases h : readPart (b :: s) with
    | none => rfl
    | some x =>
      obtain ⟨p, r⟩ := x
      have := (readPart_back _ _ _ h).2.2.2
      simp only
      rw [readAll_more r.length r s.length (Nat.le_refl _) (by simp at this; omega)]
/-- .. of at most 16 parts -/
def unpacked (s : List UInt8) : Option (List Part) := match unpack s with
  | none => none
  | some l => if l.length ≤ 16 then some l else none
theorem bytes_ne (p : Part) : p.bytes ≠ [] := by unfold Part.bytes; split <;> simp
theorem unpack_bytes (l : List Part) (h : ∀ p ∈ l, p.ok = true ∧ p.fits) : unpack (bytes l) = some l := by
  induction l with
  | nil => rfl
  | cons p l ih =>
    have hp := h p (by simp)
    rw [bytes_cons, unpack_step _ (by simp [bytes_ne]), readPart_bytes p _ hp.1 hp.2]
    simp only
    rw [ih (fun q hq => h q (by simp [hq]))]
    rfl
theorem unpack_back : ∀ (k : Nat) (s : List UInt8) (l : List Part), s.length ≤ k → unpack s = some l → bytes l = s ∧ ∀ p ∈ l, p.ok = true ∧ p.fits := by
  intro k
  induction k with
  | zero =>
    intro s l hs h
    obtain rfl : s = [] := List.eq_nil_of_length_eq_zero (by omega)
    rw [unpack_nil] at h
    obtain rfl := Option.some.inj h
    exact ⟨rfl, by simp⟩
  | succ k ih =>
    intro s l hs h
    by_cases h0 : s = []
    · subst h0
      rw [unpack_nil] at h
      obtain rfl := Option.some.inj h
      exact ⟨rfl, by simp⟩
    · rw [unpack_step s h0] at h
      cases hp : readPart s with
      | none => rw [hp] at h; cases h
      | some x =>
        obtain ⟨p, r⟩ := x
        rw [hp] at h
        simp only at h
        obtain ⟨m, h1, rfl⟩ := Option.map_eq_some_iff.1 h
        obtain ⟨e, h2, h3, h4⟩ := readPart_back s p r hp
        obtain ⟨e2, h5⟩ := ih r m (by omega) h1
        refine ⟨by rw [bytes_cons, e2, ← e], fun q hq => ?_⟩
        rcases List.mem_cons.1 hq with rfl | hq
        · exact ⟨h2, h3⟩
        · exact h5 q hq

/-! ### the order -/
def cmpS (a b : List UInt8) : Int := if lt a b then -1 else if lt b a then 1 else 0
def cmpI (a b : Int) : Int := if a < b then -1 else if b < a then 1 else 0
def cmpPart (p q : Part) : Int := if p.text then (if q.text then cmpS p.say q.say else 1) else if q.text then -1 else cmpI p.n q.n
def cmp : List Part → List Part → Int
  | [], [] => 0
  | [], _ :: _ => -1
  | _ :: _, [] => 1
  | p :: l, q :: m => if cmpPart p q = 0 then cmp l m else cmpPart p q
theorem lt_append_left (a x y : List UInt8) : lt (a ++ x) (a ++ y) = lt x y := by
  induction a with
  | nil => rfl
  | cons b a ih =>
    rw [List.cons_append, List.cons_append, Tr.lt_cons, ih]
    simp
theorem lt_append_right (a y : List UInt8) (hy : y ≠ []) : lt a (a ++ y) = true := by
  cases y with
  | nil => exact absurd rfl hy
  | cons b y =>
    have := lt_append_left a [] (b :: y)
    rw [List.append_nil] at this
    rw [this]
    rfl
/-- whatever stands behind them -/
def Ahead (a b : List UInt8) : Prop := ∀ x y, lt (a ++ x) (b ++ y) = true
theorem Ahead.cons {a b : List UInt8} (h : Ahead a b) (c : UInt8) : Ahead (c :: a) (c :: b) := fun x y => by
  rw [List.cons_append, List.cons_append, Tr.lt_cons, h x y]
  simp
theorem Ahead.less {a b : UInt8} (h : a < b) (x y : List UInt8) : Ahead (a :: x) (b :: y) := fun u v => by
  rw [List.cons_append, List.cons_append, Tr.lt_cons]
  simp [h]
theorem esc_ahead : ∀ a b : List UInt8, lt a b = true → Ahead (esc a ++ [0, 0]) (esc b ++ [0, 0])
  | _, [], h => by rw [Tr.lt_nil_right] at h; cases h
  | [], b :: y, _ => by
    rw [esc, esc]
    split
    · exact (Ahead.less (by decide) _ _).cons 0
    · rename_i hb
      exact Ahead.less (UInt8.lt_iff_toNat_lt.2 (by
        have : b.toNat ≠ 0 := fun e => hb (UInt8.toNat_inj.1 (by rw [e]; rfl))
        have h0 : (0 : UInt8).toNat = 0 := rfl
        omega)) _ _
  | a :: x, b :: y, h => by
    rw [Tr.lt_cons] at h
    simp only [Bool.or_eq_true, Bool.and_eq_true, decide_eq_true_eq, beq_iff_eq] at h
    rcases h with h | ⟨rfl, h⟩
    · have hb : b ≠ 0 := fun e => by
        subst e
        have := UInt8.lt_iff_toNat_lt.1 h
        have h0 : (0 : UInt8).toNat = 0 := rfl
        omega
      rw [esc, esc, if_neg hb]
      split
      · rename_i ha
        subst ha
        exact Ahead.less h _ _
      · exact Ahead.less h _ _
    · have ih := esc_ahead x y h
      rw [esc, esc]
      split
      · exact (ih.cons 255).cons 0
      · exact ih.cons a
theorem be_ahead (k : Nat) : ∀ (u v : Nat), u < v → v < 256 ^ k → Ahead (Pg.be k u) (Pg.be k v) := by
  induction k with
  | zero => intro u v h1 h2; simp at h2; omega
  | succ k ih =>
    intro u v h1 h2
    rw [Pr.be_lo, Pr.be_lo]
    have hp : 0 < 256 ^ k := Nat.pow_pos (by decide)
    have hv : v / 256 ^ k < 256 := by rw [Nat.div_lt_iff_lt_mul hp, Nat.mul_comm, ← Nat.pow_succ]; exact h2
    have hle : u / 256 ^ k ≤ v / 256 ^ k := Nat.div_le_div_right (by omega)
    have hmod : ∀ n, Pg.be k n = Pg.be k (n % 256 ^ k) := by
      intro n
      have h1 : ∀ j m, Pg.be j m = Pg.be j (m % 256 ^ j) := by
        intro j
        induction j with
        | zero => intro m; rfl
        | succ j ihj =>
          intro m
          have e1 : m % 256 ^ (j + 1) / 256 = m / 256 % 256 ^ j := by rw [Nat.pow_succ, Nat.mul_comm, Nat.mod_mul_right_div_self]
          have e2 : m % 256 ^ (j + 1) % 256 = m % 256 := by rw [Nat.pow_succ, Nat.mul_comm]; exact Nat.mod_mul_right_mod _ _ _
          rw [Pg.be, Pg.be, e1, e2, ← ihj]
      exact h1 k n
    rcases Nat.lt_or_ge (u / 256 ^ k) (v / 256 ^ k) with hl | hg
    · refine Ahead.less (UInt8.lt_iff_toNat_lt.2 ?_) _ _
      rw [UInt8.toNat_ofNat', UInt8.toNat_ofNat']
      generalize u / 256 ^ k = x at *
      generalize v / 256 ^ k = y at *
      omega
    · have he : u / 256 ^ k = v / 256 ^ k := by omega
      rw [he]
      refine Ahead.cons ?_ _
      rw [hmod u, hmod v]
      refine ih _ _ ?_ (Nat.mod_lt _ hp)
      have d1 := Nat.div_add_mod u (256 ^ k)
      have d2 := Nat.div_add_mod v (256 ^ k)
      rw [he] at d1
      omega
theorem part_ahead (p q : Part) (hp : p.ok = true) (hq : q.ok = true) (fp : p.fits) (fq : q.fits) (h : cmpPart p q < 0) : Ahead p.bytes q.bytes := by
  obtain ⟨t, n, s⟩ := p
  obtain ⟨u, m, r⟩ := q
  unfold cmpPart at h
  unfold Part.bytes
  unfold Part.fits at fp fq
  simp only at h fp fq
  cases t <;> cases u <;> simp only [if_true, if_false, Bool.false_eq_true] at h ⊢
  · unfold cmpI at h
    split at h
    · exact (be_ahead 8 _ _ (by unfold shift; omega) (by unfold shift; omega)).cons 1
    · split at h <;> omega
  · exact Ahead.less (by decide) _ _
  · omega
  · unfold cmpS at h
    split at h
    · rename_i hl
      exact (esc_ahead _ _ hl).cons 2
    · split at h <;> omega
theorem part_same (p q : Part) (hp : p.ok = true) (hq : q.ok = true) (h : cmpPart p q = 0) : p = q := by
  obtain ⟨t, n, s⟩ := p
  obtain ⟨u, m, r⟩ := q
  unfold cmpPart at h
  unfold Part.ok at hp hq
  cases t <;> cases u <;> simp only [if_true, if_false, Bool.false_eq_true, List.isEmpty_iff, beq_iff_eq] at h hp hq
  · subst hp hq
    unfold cmpI at h
    have : n = m := by
      split at h
      · omega
      · split at h <;> omega
    rw [this]
  · omega
  · omega
  · subst hp hq
    unfold cmpS at h
    rcases Tr.lt_total s r with h1 | h1 | h1
    · rw [h1] at h; simp at h
    · rw [h1]
    · rw [Tr.lt_asymm h1, h1] at h; simp at h
theorem cmpPart_self (p : Part) : cmpPart p p = 0 := by
  unfold cmpPart cmpS cmpI
  rw [Tr.lt_irrefl]
  split <;> simp
theorem cmpS_anti (a b : List UInt8) : cmpS b a = - cmpS a b := by
  unfold cmpS
  rcases Tr.lt_total a b with h | h | h
  · rw [h, Tr.lt_asymm h]; simp
  · subst h; rw [Tr.lt_irrefl]; simp
  · rw [h, Tr.lt_asymm h]; simp
theorem cmpI_anti (a b : Int) : cmpI b a = - cmpI a b := by
  unfold cmpI
  split <;> split <;> omega
theorem cmpPart_anti (p q : Part) : cmpPart q p = - cmpPart p q := by
  obtain ⟨t, n, s⟩ := p
  obtain ⟨u, m, r⟩ := q
  unfold cmpPart
  cases t <;> cases u
  · exact cmpI_anti n m
  · rfl
  · rfl
  · exact cmpS_anti s r
theorem cmp_anti : ∀ l m : List Part, cmp m l = - cmp l m
  | [], [] => rfl
  | [], _ :: _ => rfl
  | _ :: _, [] => rfl
  | p :: l, q :: m => by
    rw [cmp, cmp, cmpPart_anti, cmp_anti l m]
    split <;> split <;> omega
def Ok (l : List Part) : Prop := ∀ p ∈ l, p.ok = true ∧ p.fits
theorem Ok.head {p : Part} {l : List Part} (h : Ok (p :: l)) : p.ok = true ∧ p.fits := h p (by simp)
theorem Ok.tail {p : Part} {l : List Part} (h : Ok (p :: l)) : Ok l := fun q hq => h q (by simp [hq])
theorem cmp_same : ∀ l m : List Part, Ok l → Ok m → cmp l m = 0 → l = m
  | [], [], _, _, _ => rfl
  | [], _ :: _, _, _, h => by simp [cmp] at h
  | _ :: _, [], _, _, h => by simp [cmp] at h
  | p :: l, q :: m, hl, hm, h => by
    rw [cmp] at h
    split at h
    · rename_i he
      rw [part_same p q hl.head.1 hm.head.1 he, cmp_same l m hl.tail hm.tail h]
    · exact absurd h ‹_›
theorem cmp_less : ∀ l m : List Part, Ok l → Ok m → cmp l m < 0 → lt (bytes l) (bytes m) = true
  | [], [], _, _, h => by simp [cmp] at h
  | [], q :: m, _, _, _ => by
    rw [bytes_nil, bytes_cons]
    exact lt_append_right [] _ (by simp [bytes_ne])
  | _ :: _, [], _, _, h => by simp [cmp] at h
  | p :: l, q :: m, hl, hm, h => by
    rw [cmp] at h
    rw [bytes_cons, bytes_cons]
    split at h
    · rename_i he
      rw [part_same p q hl.head.1 hm.head.1 he, lt_append_left]
      exact cmp_less l m hl.tail hm.tail h
    · exact part_ahead p q hl.head.1 hm.head.1 hl.head.2 hm.head.2 h _ _
theorem cmp_self : ∀ l : List Part, cmp l l = 0
  | [] => rfl
  | p :: l => by rw [cmp, cmpPart_self, if_pos rfl, cmp_self l]
/-- the bytes stand as the keys do -/
theorem cmp_lt (l m : List Part) (hl : Ok l) (hm : Ok m) : lt (bytes l) (bytes m) = decide (cmp l m < 0) := by
  rcases Int.lt_trichotomy (cmp l m) 0 with h | h | h
  · rw [cmp_less l m hl hm h, decide_eq_true h]
  · rw [cmp_same l m hl hm h, cmp_self, Tr.lt_irrefl]; rfl
  · have h2 : cmp m l < 0 := by rw [cmp_anti]; omega
    rw [Tr.lt_asymm (cmp_less m l hm hl h2), decide_eq_false (by omega)]
theorem cmp_eq (l m : List Part) (hl : Ok l) (hm : Ok m) : bytes l = bytes m ↔ cmp l m = 0 := by
  constructor
  · intro h
    have h1 := unpack_bytes l hl
    have h2 := unpack_bytes m hm
    rw [h, h2] at h1
    obtain rfl := Option.some.inj h1
    exact cmp_self _
  · intro h
    rw [cmp_same l m hl hm h]
/-- a key begins with another one just if its bytes do -/
theorem bytes_prefix : ∀ l m : List Part, Ok l → Ok m → (bytes l <+: bytes m ↔ l <+: m)
  | [], m, _, _ => ⟨fun _ => List.nil_prefix, fun _ => List.nil_prefix⟩
  | p :: l, [], _, _ => by
    rw [bytes_cons, bytes_nil]
    constructor
    · intro h
      have := List.prefix_nil.1 h
      exact absurd (List.append_eq_nil_iff.1 this).1 (bytes_ne p)
    · intro h
      cases List.prefix_nil.1 h
  | p :: l, q :: m, hl, hm => by
    constructor
    · rintro ⟨r, h⟩
      rw [bytes_cons, bytes_cons, List.append_assoc] at h
      have h1 := readPart_bytes p (bytes l ++ r) hl.head.1 hl.head.2
      rw [h, readPart_bytes q _ hm.head.1 hm.head.2] at h1
      simp only [Option.some.injEq, Prod.mk.injEq] at h1
      obtain ⟨rfl, h2⟩ := h1
      exact List.cons_prefix_cons.2 ⟨rfl, (bytes_prefix l m hl.tail hm.tail).1 ⟨r, h2.symm⟩⟩
    · rintro ⟨r, h⟩
      rw [← h, bytes_append]
      exact List.prefix_append _ _
theorem prefix_cmp (l m : List Part) (hl : Ok l) (hm : Ok m) : l <+: m ↔ (l.length ≤ m.length ∧ cmp (m.take l.length) l = 0) := by
  constructor
  · rintro ⟨r, rfl⟩
    refine ⟨by simp, ?_⟩
    rw [List.take_append_of_le_length (Nat.le_refl _), List.take_length]
    exact cmp_self _
  · rintro ⟨h1, h2⟩
    have := cmp_same _ _ (fun p hp => hm p (List.mem_of_mem_take hp)) hl h2
    exact ⟨m.drop l.length, by
      conv => lhs; lhs; rw [← this]
      exact List.take_append_drop _ _⟩

/-! ### what stands behind a beginning -/
def strip (s : List UInt8) : List UInt8 := (s.reverse.dropWhile (· == 255)).reverse
def after (s : List UInt8) : List UInt8 := match (strip s).getLast? with
  | none => []
  | some b => (strip s).dropLast ++ [b + 1]
theorem strip_snoc (s : List UInt8) (b : UInt8) : strip (s ++ [b]) = if b = 255 then strip s else s ++ [b] := by
  unfold strip
  rw [List.reverse_append, List.reverse_singleton, List.singleton_append, List.dropWhile_cons]
  split
  · rename_i h; rw [if_pos (by simpa using h)]
  · rename_i h; rw [if_neg (by simpa using h)]; simp
theorem strip_nil : strip [] = [] := rfl
theorem strip_form (s : List UInt8) : ∃ k, s = strip s ++ List.replicate k 255 := by
  suffices ∀ r : List UInt8, ∃ k, r.reverse = strip r.reverse ++ List.replicate k 255 by
    have := this s.reverse
    rwa [List.reverse_reverse] at this
  intro r
  induction r with
  | nil => exact ⟨0, rfl⟩
  | cons b r ih =>
    rw [List.reverse_cons, strip_snoc]
    split
    · rename_i h
      subst h
      obtain ⟨k, hk⟩ := ih
      refine ⟨k + 1, ?_⟩
      conv => lhs; rw [hk]
      rw [List.append_assoc, List.replicate_succ', ]
    · exact ⟨0, by simp⟩
theorem strip_last (s : List UInt8) (p : List UInt8) (b : UInt8) (h : strip s = p ++ [b]) : b ≠ 255 := by
  suffices ∀ r : List UInt8, strip r.reverse = p ++ [b] → b ≠ 255 by
    have := this s.reverse
    rw [List.reverse_reverse] at this
    exact this h
  intro r
  induction r with
  | nil => intro h; simp [strip] at h
  | cons c r ih =>
    rw [List.reverse_cons, strip_snoc]
    split
    · exact ih
    · rename_i hc
      intro h
      have := List.append_inj_right' h rfl
      injection this with this
      rw [← this]
      exact hc
theorem after_form (s : List UInt8) : (after s = [] ∧ ∃ k, s = List.replicate k 255) ∨ ∃ p b k, b ≠ 255 ∧ s = p ++ b :: List.replicate k 255 ∧ after s = p ++ [b + 1] := by
  obtain ⟨k, hk⟩ := strip_form s
  rcases List.eq_nil_or_concat (strip s) with h | ⟨p, b, h⟩
  · left
    refine ⟨by unfold after; rw [h]; rfl, k, by rw [h] at hk; simpa using hk⟩
  · right
    rw [List.concat_eq_append] at h
    refine ⟨p, b, k, strip_last s p b h, ?_, ?_⟩
    · rw [h, List.append_assoc] at hk
      exact hk
    · unfold after
      rw [h]
      simp
theorem prefix_of_ge (k : Nat) : ∀ g : List UInt8, lt g (List.replicate k 255) = false → List.replicate k (255 : UInt8) <+: g := by
  induction k with
  | zero => intro g _; exact List.nil_prefix
  | succ k ih =>
    intro g h
    cases g with
    | nil => simp [List.replicate_succ, Tr.lt_nil_left] at h
    | cons c g =>
      rw [List.replicate_succ, Tr.lt_cons] at h
      simp only [Bool.or_eq_false_iff, decide_eq_false_iff_not, Bool.and_eq_false_iff] at h
      have hc : c = 255 := UInt8.toNat_inj.1 (by
        have h1 : ¬ c.toNat < (255 : UInt8).toNat := fun e => h.1 (UInt8.lt_iff_toNat_lt.2 e)
        have h2 := c.toNat_lt
        have h3 : (255 : UInt8).toNat = 255 := rfl
        omega)
      subst hc
      rw [List.replicate_succ]
      refine List.cons_prefix_cons.2 ⟨rfl, ih g ?_⟩
      rcases h.2 with h2 | h2
      · simp at h2
      · exact h2
theorem u8_succ (b : UInt8) (h : b ≠ 255) : b < b + 1 ∧ ∀ c : UInt8, c < b + 1 → ¬ b < c → (c < b ∨ c = b) := by
  have h1 : b.toNat ≠ 255 := fun e => h (UInt8.toNat_inj.1 (by rw [e]; rfl))
  have h2 := b.toNat_lt
  have h3 : (b + 1).toNat = b.toNat + 1 := by rw [UInt8.toNat_add]; show (b.toNat + 1) % 256 = _; omega
  refine ⟨UInt8.lt_iff_toNat_lt.2 (by omega), fun c h4 h5 => ?_⟩
  rcases Nat.lt_trichotomy c.toNat b.toNat with h6 | h6 | h6
  · exact .inl (UInt8.lt_iff_toNat_lt.2 h6)
  · exact .inr (UInt8.toNat_inj.1 h6)
  · exact absurd (UInt8.lt_iff_toNat_lt.2 h6) h5
theorem after_behind (s : List UInt8) (h : after s ≠ []) : lt s (after s) = true := by
  rcases after_form s with ⟨h1, _⟩ | ⟨p, b, k, hb, hs, ha⟩
  · exact absurd h1 h
  · rw [ha, hs, lt_append_left, Tr.lt_cons]
    simp [(u8_succ b hb).1]
theorem after_prefix (s t : List UInt8) (h : after s ≠ []) (hp : s <+: t) : lt t (after s) = true := by
  rcases after_form s with ⟨h1, _⟩ | ⟨p, b, k, hb, hs, ha⟩
  · exact absurd h1 h
  · obtain ⟨x, rfl⟩ := hp
    rw [ha, hs, List.append_assoc, List.cons_append, lt_append_left, Tr.lt_cons]
    simp [(u8_succ b hb).1]
theorem after_between (s t : List UInt8) (h : after s ≠ []) (h1 : lt t s = false) (h2 : lt t (after s) = true) : s <+: t := by
  rcases after_form s with ⟨h3, _⟩ | ⟨p, b, k, hb, hs, ha⟩
  · exact absurd h3 h
  · rw [ha] at h2
    rw [hs] at h1 ⊢
    clear hs ha h
    induction p generalizing t with
    | nil =>
      cases t with
      | nil => simp [Tr.lt_nil_left] at h1
      | cons c g =>
        rw [List.nil_append, Tr.lt_cons] at h1 h2
        simp only [Bool.or_eq_false_iff, Bool.or_eq_true, Bool.and_eq_true, decide_eq_false_iff_not, decide_eq_true_eq, Tr.lt_nil_right, Bool.false_eq_true, and_false, or_false] at h1 h2
        have hcb : c = b := by
          rcases Nat.lt_trichotomy c.toNat b.toNat with h6 | h6 | h6
          · exact absurd (UInt8.lt_iff_toNat_lt.2 h6) h1.1
          · exact UInt8.toNat_inj.1 h6
          · have h4 := UInt8.lt_iff_toNat_lt.1 h2
            have h5 : (b + 1).toNat = b.toNat + 1 := by
              have h1 : b.toNat ≠ 255 := fun e => hb (UInt8.toNat_inj.1 (by rw [e]; rfl))
              have h2 := b.toNat_lt
              rw [UInt8.toNat_add]; show (b.toNat + 1) % 256 = _; omega
            omega
        subst hcb
        rw [List.nil_append]
        refine List.cons_prefix_cons.2 ⟨rfl, prefix_of_ge k g ?_⟩
        have := h1.2
        simpa using this
    | cons a p ih =>
      cases t with
      | nil => simp [Tr.lt_nil_left] at h1
      | cons c g =>
        rw [List.cons_append, Tr.lt_cons] at h1 h2
        simp only [Bool.or_eq_false_iff, Bool.or_eq_true, Bool.and_eq_true, decide_eq_false_iff_not, decide_eq_true_eq, beq_iff_eq] at h1 h2
        rcases h2 with h2 | ⟨rfl, h2⟩
        · exact absurd h2 h1.1
        · have h3 : lt g (p ++ b :: List.replicate k 255) = false := by simpa using h1.2
          exact List.cons_prefix_cons.2 ⟨rfl, ih g h2 h3⟩
theorem after_bytes (p : Part) (l : List Part) : after (bytes (p :: l)) ≠ [] := by
  intro h
  rcases after_form (bytes (p :: l)) with ⟨_, k, hk⟩ | ⟨q, b, k, _, _, ha⟩
  · rw [bytes_cons] at hk
    have : (255 : UInt8) = 1 ∨ (255 : UInt8) = 2 := by
      cases k with
      | zero => exact absurd (List.append_eq_nil_iff.1 hk).1 (bytes_ne p)
      | succ k =>
        unfold Part.bytes at hk
        split at hk
        · rw [List.cons_append, List.replicate_succ] at hk
          injection hk with hk _
          exact .inr hk.symm
        · rw [List.cons_append, List.replicate_succ] at hk
          injection hk with hk _
          exact .inl hk.symm
    revert this
    decide
  · rw [ha] at h
    simp at h
end Go.Proofs.YtfbdikaaeedeoaaDoor.Ky

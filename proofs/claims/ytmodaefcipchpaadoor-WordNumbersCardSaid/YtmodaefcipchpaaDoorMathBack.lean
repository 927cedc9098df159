/-
  Plain mathematics: a quoted text is read as what it quotes, and no beginning of it is read; what is read is quoted so.
-/
import Derived.Test.YtmodaefcipchpaaDoorMathUx
namespace Go.Proofs.YtmodaefcipchpaaDoor

/-- a text's bytes, as numbers -/
def nums (s : ByteArray) : List Int := s.data.toList.map fun b => (b.toNat : Int)
theorem nums_len (s : ByteArray) : (nums s).length = s.size := by unfold nums; rw [List.length_map, Array.length_toList]; rfl
theorem nums_at (s : ByteArray) (i : Nat) : (nums s).getD i 0 = (Sp.bt s i : Int) := by
  unfold nums Sp.bt
  rw [List.getD_eq_getElem?_getD, List.getElem?_map, List.getD_eq_getElem?_getD]
  cases s.data.toList[i]? with
  | none => rfl
  | some b => rfl
theorem nums_byte (s : ByteArray) : ∀ x ∈ nums s, 0 ≤ x ∧ x < 256 := by
  intro x hx
  unfold nums at hx
  simp only [List.mem_map] at hx
  obtain ⟨b, -, rfl⟩ := hx
  have := UInt8.toNat_lt b
  omega
theorem of_nums (s : ByteArray) : strOfNums (nums s) = s := by
  apply ByteArray.ext
  apply Array.ext'
  rw [strOfNums_data]
  unfold nums
  rw [List.map_map]
  refine (List.map_congr_left (fun b _ => ?_)).trans (List.map_id _)
  show UInt8.ofNat ((b.toNat : Int).toNat) = id b
  rw [Int.toNat_natCast]
  exact UInt8.ofNat_toNat
theorem nums_of (l : List Int) (h : ∀ x ∈ l, 0 ≤ x ∧ x < 256) : nums (strOfNums l) = l := by
  unfold nums
  rw [strOfNums_data, List.map_map]
  refine (List.map_congr_left (fun x hx => ?_)).trans (List.map_id _)
  obtain ⟨a, b⟩ := h x hx
  show ((UInt8.ofNat x.toNat).toNat : Int) = id x
  rw [UInt8.toNat_ofNat']
  show _ = x
  omega

theorem qb_plain : ∀ b : Fin 256, (∀ x ∈ Sp.qb b.val, 32 ≤ x ∧ x ≤ 126) ∧ 1 ≤ (Sp.qb b.val).length ∧ (Sp.qb b.val).getD 0 0 ≠ 34 := by decide +kernel
theorem qs_plain (s : ByteArray) (k : Nat) : ∀ x ∈ Sp.qs s k, 32 ≤ x ∧ x ≤ 126 := by
  induction k with
  | zero => intro x hx; simp only [Sp.qs, List.mem_cons, List.not_mem_nil, or_false] at hx; omega
  | succ k ih =>
    intro x hx
    simp only [Sp.qs] at hx
    rcases List.mem_append.1 hx with hx | hx
    · exact ih x hx
    · exact (qb_plain ⟨Sp.bt s k, Sp.bt_lt s k⟩).1 x hx
theorem quote_plain (s : ByteArray) : ∀ x ∈ Sp.quote s, 32 ≤ x ∧ x ≤ 126 := by
  intro x hx
  unfold Sp.quote at hx
  rcases List.mem_append.1 hx with hx | hx
  · exact qs_plain s _ x hx
  · simp only [List.mem_cons, List.not_mem_nil, or_false] at hx; omega
theorem quote_byte (s : ByteArray) : ∀ x ∈ Sp.quote s, 0 ≤ x ∧ x < 256 := fun x hx => by have := quote_plain s x hx; omega
theorem qs_head (s : ByteArray) (k : Nat) : ∃ T, Sp.qs s k = 34 :: T := by
  induction k with
  | zero => exact ⟨[], rfl⟩
  | succ k ih => obtain ⟨T, h⟩ := ih; exact ⟨T ++ Sp.qb (Sp.bt s k), by simp only [Sp.qs]; rw [h]; rfl⟩
theorem qs_split (s : ByteArray) : ∀ (d j : Nat), j + d = s.size → ∃ T, Sp.quote s = Sp.qs s j ++ T := by
  intro d
  induction d with
  | zero => intro j h; exact ⟨[34], by unfold Sp.quote; rw [show j = s.size from by omega]⟩
  | succ d ih =>
    intro j h
    obtain ⟨T, hT⟩ := ih (j + 1) (by omega)
    exact ⟨Sp.qb (Sp.bt s j) ++ T, by rw [hT]; simp only [Sp.qs]; rw [List.append_assoc]⟩

/-- the bytes at a place of a list -/
theorem bt_take (L : List Int) (m i : Nat) (h : ∀ x ∈ L, 0 ≤ x ∧ x < 256) (hi : i < m) : (Sp.bt (strOfNums (L.take m)) i : Int) = L.getD i 0 := by
  rw [← nums_at, nums_of _ (fun x hx => h x (List.mem_of_mem_take hx))]
  rw [List.getD_eq_getElem?_getD, List.getD_eq_getElem?_getD, List.getElem?_take, if_pos hi]
theorem getD_mid (P q T : List Int) (i : Nat) (hi : i < q.length) : (P ++ q ++ T).getD (P.length + i) 0 = q.getD i 0 := by
  rw [List.getD_eq_getElem?_getD, List.getD_eq_getElem?_getD, List.append_assoc, List.getElem?_append_right (by omega), show P.length + i - P.length = i from by omega, List.getElem?_append_left hi]
theorem take_four (q : List Int) (a b c d : Int) (hl : 1 ≤ q.length) (hu : q.length ≤ 4) (h0 : a = q.getD 0 0) (h1 : 1 < q.length → b = q.getD 1 0) (h2 : 2 < q.length → c = q.getD 2 0) (h3 : 3 < q.length → d = q.getD 3 0) :
    [a, b, c, d].take q.length = q := by
  match q, hl, hu with
  | [x], _, _ => simp at h0; subst h0; rfl
  | [x, y], _, _ => simp at h0 h1; subst h0 h1; rfl
  | [x, y, z], _, _ => simp at h0 h1 h2; subst h0 h1 h2; rfl
  | [x, y, z, u], _, _ => simp at h0 h1 h2 h3; subst h0 h1 h2 h3; rfl

/-- a quoted byte that stands whole is read -/
theorem rd_whole (P T : List Int) (c m : Nat) (hc : c < 256) (hb : ∀ x ∈ P ++ Sp.qb c ++ T, 0 ≤ x ∧ x < 256) (hm : P.length + (Sp.qb c).length ≤ m) :
    rdAt (strOfNums ((P ++ Sp.qb c ++ T).take m)) P.length m = some (c, (Sp.qb c).length) := by
  obtain ⟨-, hl, -⟩ := qb_plain ⟨c, hc⟩
  have hu := Sp.qb_len c
  refine begins_read hc ⟨by simp only at hl; omega, ?_⟩
  refine take_four _ _ _ _ _ hl hu ?_ (fun h => ?_) (fun h => ?_) (fun h => ?_)
  · rw [bt_take _ _ _ hb (by simp only at hl; omega)]; exact getD_mid P _ T 0 (by simp only at hl; omega)
  · rw [bt_take _ _ _ hb (by omega)]; exact getD_mid P _ T 1 h
  · rw [bt_take _ _ _ hb (by omega)]; exact getD_mid P _ T 2 h
  · rw [bt_take _ _ _ hb (by omega)]; exact getD_mid P _ T 3 h
/-- one that is cut is not -/
theorem rd_cut (P T : List Int) (c m : Nat) (hc : c < 256) (hb : ∀ x ∈ P ++ Sp.qb c ++ T, 0 ≤ x ∧ x < 256) (h0 : P.length < m) (hm : m < P.length + (Sp.qb c).length) :
    rdAt (strOfNums ((P ++ Sp.qb c ++ T).take m)) P.length m = none := by
  cases hd : rdAt (strOfNums ((P ++ Sp.qb c ++ T).take m)) P.length m with
  | none => rfl
  | some p =>
    obtain ⟨d, n⟩ := p
    obtain ⟨hd1, hd2, hd3⟩ := read_begins (by omega) (Sp.bt_lt _ _) (Sp.bt_lt _ _) (Sp.bt_lt _ _) (Sp.bt_lt _ _) hd
    have hw := rd_whole P T c (P.length + (Sp.qb c).length) hc hb (Nat.le_refl _)
    obtain ⟨hl, he⟩ := hd3
    obtain ⟨-, hpos, -⟩ := qb_plain ⟨d, hd1⟩
    simp only at hpos
    have hu := Sp.qb_len d
    have same : ∀ i, i < (Sp.qb d).length → (Sp.bt (strOfNums ((P ++ Sp.qb c ++ T).take (P.length + (Sp.qb c).length))) (P.length + i) : Int) = (Sp.qb d).getD i 0 := by
      intro i hi
      rw [bt_take _ _ _ hb (by omega), ← bt_take _ m _ hb (by omega)]
      rw [← he]
      have hi4 : i = 0 ∨ i = 1 ∨ i = 2 ∨ i = 3 := by omega
      rw [List.getD_eq_getElem?_getD, List.getElem?_take, if_pos hi]
      rcases hi4 with rfl | rfl | rfl | rfl <;> rfl
    have hb2 : rdAt (strOfNums ((P ++ Sp.qb c ++ T).take (P.length + (Sp.qb c).length))) P.length (P.length + (Sp.qb c).length) = some (d, (Sp.qb d).length) := by
      refine begins_read hd1 ⟨by omega, take_four _ _ _ _ _ hpos hu ?_ (fun h => ?_) (fun h => ?_) (fun h => ?_)⟩
      · exact same 0 (by omega)
      · exact same 1 h
      · exact same 2 h
      · exact same 3 h
    rw [hw] at hb2
    simp only [Option.some.injEq, Prod.mk.injEq] at hb2
    obtain ⟨e1, e2⟩ := hb2
    omega

theorem nums_drop (s : ByteArray) (j : Nat) (h : j < s.size) : (nums s).drop j = (Sp.bt s j : Int) :: (nums s).drop (j + 1) := by
  have hj : j < (nums s).length := by rw [nums_len]; exact h
  rw [List.drop_eq_getElem_cons hj]
  congr 1
  rw [← nums_at, List.getD_eq_getElem?_getD, List.getElem?_eq_getElem hj]; rfl

theorem unq_walk (s : ByteArray) (m : Nat) (hm : m ≤ (Sp.quote s).length) : ∀ (d j f : Nat) (acc : List Int), j + d = s.size → (Sp.qs s j).length ≤ m → m ≤ (Sp.qs s j).length + f →
    unqR (strOfNums ((Sp.quote s).take m)) f (Sp.qs s j).length acc = if m = (Sp.quote s).length then some (acc ++ (nums s).drop j) else none := by
  have hsz : (strOfNums ((Sp.quote s).take m)).size = m := by rw [strOfNums_size, List.length_take]; omega
  intro d
  induction d with
  | zero =>
    intro j f acc hj hp hf
    have ej : j = s.size := by omega
    subst ej
    have hp1 : 1 ≤ (Sp.qs s s.size).length := by obtain ⟨T, h⟩ := qs_head s s.size; rw [h]; simp
    have hq : (Sp.quote s).length = (Sp.qs s s.size).length + 1 := by unfold Sp.quote; rw [List.length_append]; rfl
    have hdrop : (nums s).drop s.size = [] := by rw [List.drop_eq_nil_iff, nums_len]; exact Nat.le_refl _
    by_cases he : m = (Sp.quote s).length
    · rw [if_pos he]
      have h34 : Sp.bt (strOfNums ((Sp.quote s).take m)) (Sp.qs s s.size).length = 34 := by
        have := bt_take (Sp.quote s) m (Sp.qs s s.size).length (quote_byte s) (by omega)
        have e : (Sp.quote s).getD (Sp.qs s s.size).length 0 = 34 := by
          unfold Sp.quote
          rw [List.getD_eq_getElem?_getD, List.getElem?_append_right (Nat.le_refl _), Nat.sub_self]; rfl
        omega
      rw [unqR_stop _ _ _ _ (fun h => h.2 h34), hsz, if_pos (by omega), hdrop, List.append_nil]
    · rw [if_neg he, unqR_stop (strOfNums ((Sp.quote s).take m)) f (Sp.qs s s.size).length acc (fun h => by have := h.1; rw [hsz] at this; omega), hsz, if_neg (show ¬ (Sp.qs s s.size).length = m - 1 by omega)]
  | succ d ih =>
    intro j f acc hj hp hf
    obtain ⟨T, hT⟩ := qs_split s d (j + 1) (by omega)
    have hq : Sp.quote s = Sp.qs s j ++ Sp.qb (Sp.bt s j) ++ T := by rw [hT]; rfl
    have hbyte : ∀ x ∈ Sp.qs s j ++ Sp.qb (Sp.bt s j) ++ T, 0 ≤ x ∧ x < 256 := by rw [← hq]; exact quote_byte s
    have hp1 : 1 ≤ (Sp.qs s j).length := by obtain ⟨T, h⟩ := qs_head s j; rw [h]; simp
    obtain ⟨-, hpos, hne⟩ := qb_plain ⟨Sp.bt s j, Sp.bt_lt s j⟩
    simp only at hpos hne
    have hlen : (Sp.quote s).length = (Sp.qs s j).length + (Sp.qb (Sp.bt s j)).length + T.length := by rw [hq, List.length_append, List.length_append]
    rcases Nat.lt_or_ge (Sp.qs s j).length m with hlt | hge
    · have h34 : Sp.bt (strOfNums ((Sp.quote s).take m)) (Sp.qs s j).length ≠ 34 := by
        have h1 := bt_take (Sp.quote s) m (Sp.qs s j).length (quote_byte s) hlt
        have h2 : (Sp.quote s).getD (Sp.qs s j).length 0 = (Sp.qb (Sp.bt s j)).getD 0 0 := by rw [hq]; exact getD_mid _ _ T 0 (by omega)
        intro e
        rw [e] at h1
        exact hne (by omega)
      rcases Nat.lt_or_ge m ((Sp.qs s j).length + (Sp.qb (Sp.bt s j)).length) with hcut | hwhole
      · have hr : rdAt (strOfNums ((Sp.quote s).take m)) (Sp.qs s j).length m = none := by rw [hq]; exact rd_cut _ T _ m (Sp.bt_lt s j) hbyte hlt hcut
        rw [if_neg (by omega), unqR_none _ _ _ _ ⟨by rw [hsz]; exact hlt, h34⟩ (by rw [hsz]; exact hf) (by rw [hsz]; exact hr)]
      · have hr : rdAt (strOfNums ((Sp.quote s).take m)) (Sp.qs s j).length m = some (Sp.bt s j, (Sp.qb (Sp.bt s j)).length) := by rw [hq]; exact rd_whole _ T _ m (Sp.bt_lt s j) hbyte hwhole
        cases f with
        | zero => omega
        | succ f =>
          have hstep : unqR (strOfNums ((Sp.quote s).take m)) (f + 1) (Sp.qs s j).length acc = unqR (strOfNums ((Sp.quote s).take m)) f (Sp.qs s (j + 1)).length (acc ++ [(Sp.bt s j : Int)]) := by
            conv => lhs; unfold unqR
            rw [if_pos ⟨by rw [hsz]; exact hlt, h34⟩, hsz, hr]
            simp only [Sp.qs, List.length_append]
          have hlj : (Sp.qs s (j + 1)).length = (Sp.qs s j).length + (Sp.qb (Sp.bt s j)).length := by simp only [Sp.qs, List.length_append]
          rw [hstep, ih (j + 1) f _ (by omega) (by omega) (by omega), nums_drop s j (by omega), List.append_assoc]
          rfl
    · rw [if_neg (by omega), unqR_stop (strOfNums ((Sp.quote s).take m)) f (Sp.qs s j).length acc (fun h => by have := h.1; rw [hsz] at this; omega), hsz, if_neg (show ¬ (Sp.qs s j).length = m - 1 by omega)]

theorem quote_len (s : ByteArray) : 2 ≤ (Sp.quote s).length := by
  obtain ⟨T, h⟩ := qs_head s s.size
  unfold Sp.quote
  rw [h]; simp
theorem quote_first (s : ByteArray) (m : Nat) (hm : 1 ≤ m) : Sp.bt (strOfNums ((Sp.quote s).take m)) 0 = 34 := by
  have h1 := bt_take (Sp.quote s) m 0 (quote_byte s) (by omega)
  obtain ⟨T, h⟩ := qs_head s s.size
  have h2 : (Sp.quote s).getD 0 0 = 34 := by unfold Sp.quote; rw [h]; rfl
  omega

/-- what is quoted is read back -/
theorem unquote_quote (s : ByteArray) : Sp.unquote (strOfNums (Sp.quote s)) = some (nums s) := by
  have h2 := quote_len s
  have ht : (Sp.quote s).take (Sp.quote s).length = Sp.quote s := List.take_length
  have h0 := quote_first s (Sp.quote s).length (by omega)
  have hw := unq_walk s (Sp.quote s).length (Nat.le_refl _) s.size 0 (Sp.quote s).length [] (by omega) (by simp only [Sp.qs]; simp; omega) (by omega)
  rw [ht] at h0 hw
  rw [unquote_doc, if_neg (by rw [strOfNums_size]; omega), strOfNums_size]
  rw [if_pos rfl] at hw
  exact hw
/-- no beginning of a quoted text is read -/
theorem unquote_part (s : ByteArray) (m : Nat) (hm : m < (Sp.quote s).length) : Sp.unquote (strOfNums ((Sp.quote s).take m)) = none := by
  have hsz : (strOfNums ((Sp.quote s).take m)).size = m := by rw [strOfNums_size, List.length_take]; omega
  rw [unquote_doc, hsz]
  by_cases h2 : m < 2
  · rw [if_pos (.inl h2)]
  · rw [if_neg (by have := quote_first s m (by omega); omega)]
    have hw := unq_walk s m (by omega) s.size 0 m [] (by omega) (by simp only [Sp.qs]; simp; omega) (by omega)
    rw [if_neg (by omega)] at hw
    exact hw

/-! What is read is quoted so. -/
theorem begins_take (t : ByteArray) (i e c : Nat) (hie : i < e) (he : e ≤ t.size) (hb : begins (e - i) (Sp.bt t i) (Sp.bt t (i + 1)) (Sp.bt t (i + 2)) (Sp.bt t (i + 3)) c) :
    ((nums t).drop i).take (Sp.qb c).length = Sp.qb c := by
  obtain ⟨hl, ht⟩ := hb
  conv => rhs; rw [← ht]
  apply List.ext_getElem?
  intro k
  rw [List.getElem?_take, List.getElem?_take]
  by_cases hk : k < (Sp.qb c).length
  · rw [if_pos hk, if_pos hk, List.getElem?_drop]
    have hu := Sp.qb_len c
    have hlt : i + k < (nums t).length := by rw [nums_len]; omega
    have hx : (nums t)[i + k]? = some (Sp.bt t (i + k) : Int) := by
      rw [← nums_at, List.getD_eq_getElem?_getD, List.getElem?_eq_getElem hlt]; rfl
    rw [hx]
    have h4 : k = 0 ∨ k = 1 ∨ k = 2 ∨ k = 3 := by omega
    rcases h4 with rfl | rfl | rfl | rfl <;> rfl
  · rw [if_neg hk, if_neg hk]

/-- the quoted forms, one behind the other -/
def qall : List Int → List Int
  | [] => []
  | c :: l => Sp.qb c.toNat ++ qall l
theorem qall_append (a b : List Int) : qall (a ++ b) = qall a ++ qall b := by
  induction a with
  | nil => rfl
  | cons c a ih => simp only [List.cons_append, qall, ih, List.append_assoc]

theorem unqW_back (t : ByteArray) (e : Nat) (he : e ≤ t.size) : ∀ (f i : Nat) (acc l : List Int), i ≤ e → (∀ x ∈ acc, 0 ≤ x ∧ x < 256) → unqW t e f i acc = some l →
    ∃ r, l = acc ++ r ∧ (∀ x ∈ r, 0 ≤ x ∧ x < 256) ∧ ((nums t).drop i).take (e - i) = qall r := by
  intro f
  induction f with
  | zero =>
    intro i acc l hi _ h
    unfold unqW at h
    by_cases h' : e ≤ i
    · rw [if_pos h'] at h
      simp only [Option.some.injEq] at h
      exact ⟨[], by rw [List.append_nil]; exact h.symm, by simp, by rw [show e - i = 0 from by omega]; rfl⟩
    · rw [if_neg h'] at h; cases h
  | succ f ih =>
    intro i acc l hi hacc h
    by_cases h' : e ≤ i
    · rw [unqW_end t e _ i acc h'] at h
      simp only [Option.some.injEq] at h
      exact ⟨[], by rw [List.append_nil]; exact h.symm, by simp, by rw [show e - i = 0 from by omega]; rfl⟩
    · cases hd : rdAt t i e with
      | none => rw [unqW_none t e _ i acc (by omega) hd] at h; cases h
      | some p =>
        obtain ⟨c, n⟩ := p
        have hn := readQ_size (by omega) hd
        obtain ⟨hc, hnl, hb⟩ := read_begins (by omega) (Sp.bt_lt _ _) (Sp.bt_lt _ _) (Sp.bt_lt _ _) (Sp.bt_lt _ _) hd
        have ht := begins_take t i e c (by omega) he hb
        unfold unqW at h
        rw [if_neg h', hd] at h
        have hc' : ∀ x ∈ [(c : Int)], 0 ≤ x ∧ x < 256 := by
          intro x hx
          simp only [List.mem_cons, List.not_mem_nil, or_false] at hx
          omega
        obtain ⟨r, h1, h2, h3⟩ := ih (i + n) (acc ++ [(c : Int)]) l (by omega) (fun x hx => by
          rcases List.mem_append.1 hx with hx | hx
          · exact hacc x hx
          · exact hc' x hx) h
        refine ⟨(c : Int) :: r, by rw [h1, List.append_assoc]; rfl, fun x hx => by
          rcases List.mem_cons.1 hx with hx | hx
          · omega
          · exact h2 x hx, ?_⟩
        simp only [qall, Int.toNat_natCast]
        rw [← h3, show e - i = n + (e - (i + n)) from by omega, List.take_add, ← hnl] at *
        rw [ht, List.drop_drop]

theorem qs_nums (l : List Int) (hl : ∀ x ∈ l, 0 ≤ x ∧ x < 256) : ∀ k, k ≤ l.length → Sp.qs (strOfNums l) k = 34 :: qall (l.take k) := by
  intro k
  induction k with
  | zero => intro _; rfl
  | succ k ih =>
    intro hk
    have hb : (Sp.bt (strOfNums l) k : Int) = l.getD k 0 := by rw [← nums_at, nums_of l hl]
    have htk : l.take (k + 1) = l.take k ++ [l.getD k 0] := by
      rw [List.take_succ_eq_append_getElem (by omega), List.getD_eq_getElem?_getD, List.getElem?_eq_getElem (by omega)]; rfl
    simp only [Sp.qs]
    rw [ih (by omega), htk, qall_append, ← hb]
    simp only [qall, Int.toNat_natCast, List.append_nil]
    rfl

/-- what is read is quoted so -/
theorem quote_unquote (t : ByteArray) (l : List Int) (h : Sp.unquote t = some l) : Sp.quote (strOfNums l) = nums t ∧ l.length ≤ t.size := by
  unfold Sp.unquote at h
  by_cases hf : t.size < 2 ∨ Sp.bt t 0 ≠ 34 ∨ Sp.bt t (t.size - 1) ≠ 34
  · rw [if_pos hf] at h; cases h
  · rw [if_neg hf] at h
    obtain ⟨r, h1, h2, h3⟩ := unqW_back t (t.size - 1) (by omega) t.size 1 [] l (by omega) (by simp) h
    rw [List.nil_append] at h1
    subst h1
    have e1 : nums t = (Sp.bt t 0 : Int) :: (nums t).drop 1 := by
      have := nums_drop t 0 (by omega)
      rw [List.drop_zero] at this; exact this
    have e2 : (nums t).drop 1 = ((nums t).drop 1).take (t.size - 1 - 1) ++ ((nums t).drop (t.size - 1)) := by
      conv => lhs; rw [← List.take_append_drop (t.size - 1 - 1) ((nums t).drop 1)]
      rw [List.drop_drop, show 1 + (t.size - 1 - 1) = t.size - 1 from by omega]
    have e3 : (nums t).drop (t.size - 1) = [(Sp.bt t (t.size - 1) : Int)] := by
      rw [nums_drop t (t.size - 1) (by omega), List.drop_of_length_le (by rw [nums_len]; omega)]
    have hq : Sp.quote (strOfNums l) = nums t := by
      unfold Sp.quote
      rw [strOfNums_size, qs_nums l h2 _ (Nat.le_refl _), List.take_length, e1, e2, h3, e3]
      have a0 : Sp.bt t 0 = 34 := by omega
      have a1 : Sp.bt t (t.size - 1) = 34 := by omega
      rw [a0, a1]
      rfl
    refine ⟨hq, ?_⟩
    have := congrArg List.length hq
    rw [nums_len] at this
    have hs : ∀ k, k ≤ (Sp.qs (strOfNums l) k).length := by
      intro k
      induction k with
      | zero => omega
      | succ k ih =>
        have := (qb_plain ⟨Sp.bt (strOfNums l) k, Sp.bt_lt _ k⟩).2.1
        simp only [Sp.qs, List.length_append] at this ⊢
        omega
    have := hs (strOfNums l).size
    unfold Sp.quote at *
    rw [List.length_append] at *
    rw [strOfNums_size] at *
    omega
end Go.Proofs.YtmodaefcipchpaaDoor

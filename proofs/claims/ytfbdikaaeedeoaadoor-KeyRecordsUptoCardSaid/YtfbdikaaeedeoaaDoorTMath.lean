/-
  The tree as plain mathematics: keys' order; a node as bytes, and bytes as a node.
-/
import Derived.Lib.Bytealg
import GoSem.Op.String
namespace Go.Proofs.YtfbdikaaeedeoaaDoor.Tr

/-! ### keys' order -/
abbrev Key := List UInt8
def lt (a b : Key) : Bool := Go.Op.bytesLess a b
theorem lt_nil_right (a : Key) : lt a [] = false := by cases a <;> rfl
theorem lt_nil_left (b : UInt8) (y : Key) : lt [] (b :: y) = true := rfl
theorem lt_cons (a : UInt8) (x : Key) (b : UInt8) (y : Key) : lt (a :: x) (b :: y) = (decide (a < b) || (a == b && lt x y)) := rfl
theorem lt_irrefl : ∀ a : Key, lt a a = false
  | [] => rfl
  | a :: x => by
    rw [lt_cons, lt_irrefl x]
    simp
theorem lt_trans : ∀ {a b c : Key}, lt a b = true → lt b c = true → lt a c = true
  | _, [], _, h, _ => by rw [lt_nil_right] at h; cases h
  | _, _ :: _, [], _, h => by rw [lt_nil_right] at h; cases h
  | [], _ :: _, _ :: _, _, _ => rfl
  | a :: x, b :: y, c :: z, h1, h2 => by
    rw [lt_cons] at *
    simp only [Bool.or_eq_true, Bool.and_eq_true, decide_eq_true_eq, beq_iff_eq] at *
    rcases h1 with h1 | ⟨rfl, h1⟩
    · rcases h2 with h2 | ⟨rfl, h2⟩
      · left; have := UInt8.lt_iff_toNat_lt.1 h1; have := UInt8.lt_iff_toNat_lt.1 h2; exact UInt8.lt_iff_toNat_lt.2 (by omega)
      · exact .inl h1
    · rcases h2 with h2 | ⟨rfl, h2⟩
      · exact .inl h2
      · exact .inr ⟨rfl, lt_trans h1 h2⟩
theorem lt_total : ∀ a b : Key, lt a b = true ∨ a = b ∨ lt b a = true
  | [], [] => .inr (.inl rfl)
  | [], _ :: _ => .inl rfl
  | _ :: _, [] => .inr (.inr rfl)
  | a :: x, b :: y => by
    rw [lt_cons, lt_cons]
    simp only [Bool.or_eq_true, Bool.and_eq_true, decide_eq_true_eq, beq_iff_eq]
    by_cases h : a = b
    · subst h
      rcases lt_total x y with h | h | h
      · exact .inl (.inr ⟨rfl, h⟩)
      · exact .inr (.inl (by rw [h]))
      · exact .inr (.inr (.inr ⟨rfl, h⟩))
    · have hn : a.toNat ≠ b.toNat := fun e => h (UInt8.toNat_inj.1 e)
      rcases Nat.lt_or_gt_of_ne hn with h | h
      · exact .inl (.inl (UInt8.lt_iff_toNat_lt.2 h))
      · exact .inr (.inr (.inl (UInt8.lt_iff_toNat_lt.2 h)))
theorem lt_asymm {a b : Key} (h : lt a b = true) : lt b a = false := by
  cases hb : lt b a
  · rfl
  · have := lt_trans h hb
    rw [lt_irrefl] at this
    cases this
/-- three ways -/
theorem cmp_eq : ∀ a b : Key, Lib.compareBytes a b = if lt a b then -1 else if lt b a then 1 else 0
  | [], [] => rfl
  | [], _ :: _ => rfl
  | _ :: _, [] => rfl
  | a :: x, b :: y => by
    rw [Lib.compareBytes, cmp_eq x y, lt_cons, lt_cons]
    by_cases h1 : a < b
    · have h2 : ¬ b < a := fun h => by have := UInt8.lt_iff_toNat_lt.1 h1; have := UInt8.lt_iff_toNat_lt.1 h; omega
      simp [h1]
    · by_cases h2 : b < a
      · have hne : (a == b) = false := beq_false_of_ne fun e => by subst e; exact h1 h2
        simp [h1, h2, hne]
      · have he : a = b := UInt8.toNat_inj.1 (by
          have k1 : ¬ a.toNat < b.toNat := fun h => h1 (UInt8.lt_iff_toNat_lt.2 h)
          have k2 : ¬ b.toNat < a.toNat := fun h => h2 (UInt8.lt_iff_toNat_lt.2 h)
          omega)
        subst he
        simp [h1]
/-- below an end; the empty end stands behind all keys -/
def under (k e : Key) : Bool := e.isEmpty || lt k e

/-! ### nodes -/
structure Cel where
  key : Key
  val : List UInt8
structure Kd where
  low : Key
  page : Nat
/-- a node that stands on a page -/
structure Nd where
  level : Nat
  cells : List Cel
  kids : List Kd
def Cel.bytes (c : Cel) : List UInt8 := UInt8.ofNat c.key.length :: UInt8.ofNat c.val.length :: (c.key ++ c.val)
def Kd.bytes (k : Kd) : List UInt8 := UInt8.ofNat (k.page / 256 % 256) :: UInt8.ofNat (k.page % 256) :: UInt8.ofNat k.low.length :: k.low
def Nd.bytes (n : Nd) : List UInt8 := 116 :: 114 :: UInt8.ofNat n.level :: (n.cells.flatMap Cel.bytes ++ n.kids.flatMap Kd.bytes)
def Cel.size (c : Cel) : Nat := 2 + c.key.length + c.val.length
def Kd.size (k : Kd) : Nat := 3 + k.low.length
def Nd.size (n : Nd) : Nat := (n.cells.map Cel.size).sum + (n.kids.map Kd.size).sum
def Nd.keys (n : Nd) : List Key := n.cells.map (·.key) ++ n.kids.map (·.low)

/-! ### the reader -/
structure Rs where
  rest : List UInt8
  bad : Bool
def Rs.text (s : Rs) (n : Nat) : List UInt8 := if s.rest.length < n then [] else s.rest.take n
def Rs.on (s : Rs) (n : Nat) : Rs := if s.rest.length < n then ⟨s.rest, true⟩ else ⟨s.rest.drop n, s.bad⟩
def Rs.number (s : Rs) : Nat := match s.text 1 with
  | [] => 0
  | c :: _ => c.toNat
def Rs.mark (s : Rs) (b : Bool) : Rs := ⟨s.rest, b⟩
/-- a cell: what comes behind its two numbers -/
def Rs.celS (s : Rs) : Rs :=
  let s2 := (s.on 1).on 1
  s2.mark (s2.bad || s.number == 0 || decide (40 < s.number) || decide (100 < (s.on 1).number))
def Rs.cel (s : Rs) : Cel := ⟨s.celS.text s.number, (s.celS.on s.number).text (s.on 1).number⟩
def Rs.celOn (s : Rs) : Rs := (s.celS.on s.number).on (s.on 1).number
def Rs.kdS (s : Rs) : Rs :=
  let s3 := ((s.on 1).on 1).on 1
  s3.mark (s3.bad || decide (40 < ((s.on 1).on 1).number))
def Rs.kd (s : Rs) : Kd := ⟨s.kdS.text ((s.on 1).on 1).number, s.number * 256 + (s.on 1).number⟩
def Rs.kdOn (s : Rs) : Rs := s.kdS.on ((s.on 1).on 1).number
theorem number_lt (s : Rs) : s.number < 256 := by
  unfold Rs.number
  split
  · omega
  · rename_i c _ _; exact c.toNat_lt
theorem Rs.on_len (s : Rs) (n : Nat) : (s.on n).rest.length ≤ s.rest.length := by
  unfold Rs.on
  split
  · exact Nat.le_refl _
  · simp
end Go.Proofs.YtfbdikaaeedeoaaDoor.Tr

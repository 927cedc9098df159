/-
  Plain mathematics: what the document says of names, bytes and characters, on lists of bytes. No program.
-/
import Derived.Test.YtmodaefcipchpaaDoorRows
namespace Go.Proofs.YtmodaefcipchpaaDoor.Sp

/-- the byte at a place, as a number -/
def bt (s : ByteArray) (i : Nat) : Nat := (s.data.toList.getD i 0).toNat
theorem bt_get (s : ByteArray) (i : Nat) (h : i < s.size) : bt s i = (s[i]'h).toNat := by
  have h' : i < s.data.size := h
  have e : s.data.toList.getD i 0 = s.data[i] := by
    rw [List.getD_eq_getElem?_getD, Array.getElem?_toList, Array.getElem?_eq_getElem h']; rfl
  unfold bt
  rw [e]
  rfl
theorem bt_lt (s : ByteArray) (i : Nat) : bt s i < 256 := UInt8.toNat_lt _

/-- the kind of a byte -/
def kind (b : Nat) : Nat :=
  if (97 ≤ b ∧ b ≤ 122) ∨ (65 ≤ b ∧ b ≤ 90) then 5
  else if (48 ≤ b ∧ b ≤ 57) ∨ b = 45 ∨ b = 46 ∨ b = 95 then 4
  else if 32 ≤ b ∧ b ≤ 126 ∧ b ≠ 34 ∧ b ≠ 92 then 3
  else if b = 34 ∨ b = 92 then 2
  else if b = 10 then 1 else 0

/-- may the byte stand at this place of a name? -/
def okAt (i b : Nat) : Prop := kind b = 5 ∨ (kind b = 4 ∧ i ≠ 0)
instance (i b : Nat) : Decidable (okAt i b) := by unfold okAt; infer_instance
def nameB (s : ByteArray) : Bool := decide (1 ≤ s.size ∧ s.size ≤ 32 ∧ ∀ i, i < s.size → okAt i (bt s i))

theorem okAt_iff (i b : Nat) : okAt i b ↔ (97 ≤ b ∧ b ≤ 122) ∨ (65 ≤ b ∧ b ≤ 90) ∨ (i ≠ 0 ∧ ((48 ≤ b ∧ b ≤ 57) ∨ b = 45 ∨ b = 46 ∨ b = 95)) := by
  unfold okAt kind
  by_cases h1 : (97 ≤ b ∧ b ≤ 122) ∨ (65 ≤ b ∧ b ≤ 90)
  · rw [if_pos h1]; omega
  · rw [if_neg h1]
    by_cases h2 : (48 ≤ b ∧ b ≤ 57) ∨ b = 45 ∨ b = 46 ∨ b = 95
    · rw [if_pos h2]; omega
    · rw [if_neg h2]
      by_cases h3 : 32 ≤ b ∧ b ≤ 126 ∧ b ≠ 34 ∧ b ≠ 92
      · rw [if_pos h3]; omega
      · rw [if_neg h3]
        by_cases h4 : b = 34 ∨ b = 92
        · rw [if_pos h4]; omega
        · rw [if_neg h4]
          by_cases h5 : b = 10
          · rw [if_pos h5]; omega
          · rw [if_neg h5]; omega
theorem nameB_no (s : ByteArray) (i : Nat) (hi : i < s.size) (h : ¬ okAt i (bt s i)) : nameB s = false := by
  unfold nameB
  rw [decide_eq_false_iff_not]
  exact fun hh => h (hh.2.2 i hi)
theorem nameB_yes (s : ByteArray) (h1 : 1 ≤ s.size) (h2 : s.size ≤ 32) (h : ∀ i, i < s.size → okAt i (bt s i)) : nameB s = true := by
  unfold nameB
  rw [decide_eq_true_eq]
  exact ⟨h1, h2, h⟩
theorem okAt_snoc (s : ByteArray) (k : Nat) (hall : ∀ j, j < k → okAt j (bt s j)) (h : okAt k (bt s k)) : ∀ j, j < k + 1 → okAt j (bt s j) := fun j hj => by
  by_cases e : j = k
  · subst e; exact h
  · exact hall j (by omega)
theorem kind_le (b : Nat) : kind b ≤ 5 := by
  unfold kind
  by_cases h1 : (97 ≤ b ∧ b ≤ 122) ∨ (65 ≤ b ∧ b ≤ 90)
  · rw [if_pos h1]; omega
  · rw [if_neg h1]
    by_cases h2 : (48 ≤ b ∧ b ≤ 57) ∨ b = 45 ∨ b = 46 ∨ b = 95
    · rw [if_pos h2]; omega
    · rw [if_neg h2]
      by_cases h3 : 32 ≤ b ∧ b ≤ 126 ∧ b ≠ 34 ∧ b ≠ 92
      · rw [if_pos h3]; omega
      · rw [if_neg h3]
        by_cases h4 : b = 34 ∨ b = 92
        · rw [if_pos h4]; omega
        · rw [if_neg h4]
          by_cases h5 : b = 10
          · rw [if_pos h5]; omega
          · rw [if_neg h5]; omega

/-! Characters. -/
/-- how many bytes a character has; 0, if the number is none -/
def sizeOf (c : Int) : Nat :=
  if c < 0 ∨ 1114111 < c ∨ (55296 ≤ c ∧ c ≤ 57343) then 0 else if c < 128 then 1 else if c < 2048 then 2 else if c < 65536 then 3 else 4
/-- how many bytes the first byte announces -/
def ann (b : Nat) : Nat := if b < 128 then 1 else if b < 192 then 0 else if b < 224 then 2 else if b < 240 then 3 else if b < 248 then 4 else 0
theorem size_0 {c : Int} (h : c < 0 ∨ 1114111 < c ∨ (55296 ≤ c ∧ c ≤ 57343)) : sizeOf c = 0 := by unfold sizeOf; rw [if_pos h]
theorem size_1 {c : Int} (h0 : 0 ≤ c) (h : c < 128) : sizeOf c = 1 := by unfold sizeOf; rw [if_neg (by omega), if_pos h]
theorem size_2 {c : Int} (h0 : 128 ≤ c) (h : c < 2048) : sizeOf c = 2 := by unfold sizeOf; rw [if_neg (by omega), if_neg (by omega), if_pos h]
theorem size_3 {c : Int} (h0 : 2048 ≤ c) (h : c < 65536) (hs : ¬ (55296 ≤ c ∧ c ≤ 57343)) : sizeOf c = 3 := by
  unfold sizeOf; rw [if_neg (by omega), if_neg (by omega), if_neg (by omega), if_pos h]
theorem size_4 {c : Int} (h0 : 65536 ≤ c) (h : c ≤ 1114111) : sizeOf c = 4 := by
  unfold sizeOf; rw [if_neg (by omega), if_neg (by omega), if_neg (by omega), if_neg (by omega)]

def u8 (x : Int) : UInt8 := UInt8.ofNat x.toNat
/-- a character's bytes (none, if the number is none) -/
def charBytes (c : Int) : List UInt8 :=
  if sizeOf c = 1 then [u8 c] else if sizeOf c = 2 then [u8 (192 + c / 64), u8 (128 + c % 64)]
  else if sizeOf c = 3 then [u8 (224 + c / 4096), u8 (128 + c / 64 % 64), u8 (128 + c % 64)]
  else if sizeOf c = 4 then [u8 (240 + c / 262144), u8 (128 + c / 4096 % 64), u8 (128 + c / 64 % 64), u8 (128 + c % 64)] else []
def charOk (c : Int) : Bool := decide (sizeOf c ≠ 0)
theorem bytes_0 {c : Int} (h : sizeOf c = 0) : charBytes c = [] ∧ charOk c = false := by simp [charBytes, charOk, h]
theorem bytes_1 {c : Int} (h : sizeOf c = 1) : charBytes c = [u8 c] ∧ charOk c = true := by simp [charBytes, charOk, h]
theorem bytes_2 {c : Int} (h : sizeOf c = 2) : charBytes c = [u8 (192 + c / 64), u8 (128 + c % 64)] ∧ charOk c = true := by simp [charBytes, charOk, h]
theorem bytes_3 {c : Int} (h : sizeOf c = 3) : charBytes c = [u8 (224 + c / 4096), u8 (128 + c / 64 % 64), u8 (128 + c % 64)] ∧ charOk c = true := by simp [charBytes, charOk, h]
theorem bytes_4 {c : Int} (h : sizeOf c = 4) : charBytes c = [u8 (240 + c / 262144), u8 (128 + c / 4096 % 64), u8 (128 + c / 64 % 64), u8 (128 + c % 64)] ∧ charOk c = true := by simp [charBytes, charOk, h]
theorem size_none {c : Int} (h : sizeOf c = 0) : c < 0 ∨ 1114111 < c ∨ (55296 ≤ c ∧ c ≤ 57343) := by
  unfold sizeOf at h
  by_cases h0 : c < 0 ∨ 1114111 < c ∨ (55296 ≤ c ∧ c ≤ 57343)
  · exact h0
  · rw [if_neg h0] at h
    by_cases h1 : c < 128
    · rw [if_pos h1] at h; omega
    · rw [if_neg h1] at h
      by_cases h2 : c < 2048
      · rw [if_pos h2] at h; omega
      · rw [if_neg h2] at h
        by_cases h3 : c < 65536
        · rw [if_pos h3] at h; omega
        · rw [if_neg h3] at h; omega
/-- every number is of one of these -/
theorem size_cases (c : Int) : (sizeOf c = 0 ∧ (c < 0 ∨ 1114111 < c ∨ (55296 ≤ c ∧ c ≤ 57343))) ∨ (sizeOf c = 1 ∧ 0 ≤ c ∧ c < 128) ∨ (sizeOf c = 2 ∧ 128 ≤ c ∧ c < 2048)
    ∨ (sizeOf c = 3 ∧ 2048 ≤ c ∧ c < 55296) ∨ (sizeOf c = 3 ∧ 57344 ≤ c ∧ c < 65536) ∨ (sizeOf c = 4 ∧ 65536 ≤ c ∧ c ≤ 1114111) := by
  by_cases h0 : c < 0 ∨ 1114111 < c ∨ (55296 ≤ c ∧ c ≤ 57343)
  · exact .inl ⟨size_0 h0, h0⟩
  · by_cases h1 : c < 128
    · exact .inr (.inl ⟨size_1 (by omega) h1, by omega, h1⟩)
    · by_cases h2 : c < 2048
      · exact .inr (.inr (.inl ⟨size_2 (by omega) h2, by omega, h2⟩))
      · by_cases h3 : c < 55296
        · exact .inr (.inr (.inr (.inl ⟨size_3 (by omega) (by omega) (by omega), by omega, h3⟩)))
        · by_cases h4 : c < 65536
          · exact .inr (.inr (.inr (.inr (.inl ⟨size_3 (by omega) h4 (by omega), by omega, h4⟩))))
          · exact .inr (.inr (.inr (.inr (.inr ⟨size_4 (by omega) (by omega), by omega, by omega⟩))))
end Go.Proofs.YtmodaefcipchpaaDoor.Sp

/-
  Plain mathematics: a character's bytes stand at a place just if they can be read there.
-/
import Derived.Test.YtmodaefcipchpaaDoorMathAt
import Derived.Lib.Strings
namespace Go.Proofs.YtmodaefcipchpaaDoor.Sp

theorem u8_toNat (x : Int) (h0 : 0 ≤ x) (h1 : x < 256) : ((u8 x).toNat : Int) = x := by
  unfold u8
  rw [UInt8.toNat_ofNat']
  omega
theorem u8_eq (x : Int) (b : UInt8) (h0 : 0 ≤ x) (h1 : x < 256) : u8 x = b ↔ x = b.toNat := by
  constructor
  · intro h; rw [← h, u8_toNat x h0 h1]
  · intro h
    apply UInt8.toNat_inj.1
    have := u8_toNat x h0 h1
    omega
theorem bytes_len (c : Int) : (charBytes c).length = sizeOf c := by
  rcases size_cases c with ⟨h, _⟩ | ⟨h, _⟩ | ⟨h, _⟩ | ⟨h, _⟩ | ⟨h, _⟩ | ⟨h, _⟩
  · rw [(bytes_0 h).1, h]; rfl
  · rw [(bytes_1 h).1, h]; rfl
  · rw [(bytes_2 h).1, h]; rfl
  · rw [(bytes_3 h).1, h]; rfl
  · rw [(bytes_3 h).1, h]; rfl
  · rw [(bytes_4 h).1, h]; rfl
theorem size_2_iff {c : Int} (h : sizeOf c = 2) : 128 ≤ c ∧ c < 2048 := by
  rcases size_cases c with ⟨h', _⟩ | ⟨h', _⟩ | ⟨h', k⟩ | ⟨h', _⟩ | ⟨h', _⟩ | ⟨h', _⟩ <;> first | exact k | omega
theorem size_3_iff {c : Int} (h : sizeOf c = 3) : 2048 ≤ c ∧ c < 65536 := by
  rcases size_cases c with ⟨h', _⟩ | ⟨h', _⟩ | ⟨h', _⟩ | ⟨h', k⟩ | ⟨h', k⟩ | ⟨h', _⟩ <;> omega
theorem size_4_iff {c : Int} (h : sizeOf c = 4) : 65536 ≤ c ∧ c ≤ 1114111 := by
  rcases size_cases c with ⟨h', _⟩ | ⟨h', _⟩ | ⟨h', _⟩ | ⟨h', _⟩ | ⟨h', _⟩ | ⟨h', k⟩ <;> omega

theorem take_1 (s : ByteArray) (j : Nat) (n : Nat) (h : j < s.size) : (s.data.toList.drop j).take (n + 1) = s[j] :: (s.data.toList.drop (j + 1)).take n := by
  have h' : j < s.data.toList.length := by rw [Array.length_toList]; exact h
  rw [List.drop_eq_getElem_cons h', List.take_succ_cons]
  rfl
theorem ext_1 (s : ByteArray) (j : Nat) (h : j + 1 ≤ s.size) : (s.extract j (j + 1)).toList = [s[j]] := by
  rw [Lib.extract_toList, show j + 1 - j = 0 + 1 from by omega, take_1 s j 0 (by omega)]; simp
theorem ext_2 (s : ByteArray) (j : Nat) (h : j + 2 ≤ s.size) : (s.extract j (j + 2)).toList = [s[j], s[j + 1]] := by
  rw [Lib.extract_toList, show j + 2 - j = 1 + 1 from by omega, take_1 s j 1 (by omega), take_1 s (j + 1) 0 (by omega)]; simp
theorem ext_3 (s : ByteArray) (j : Nat) (h : j + 3 ≤ s.size) : (s.extract j (j + 3)).toList = [s[j], s[j + 1], s[j + 2]] := by
  rw [Lib.extract_toList, show j + 3 - j = 2 + 1 from by omega, take_1 s j 2 (by omega), take_1 s (j + 1) 1 (by omega), take_1 s (j + 1 + 1) 0 (by omega)]; simp
theorem ext_4 (s : ByteArray) (j : Nat) (h : j + 4 ≤ s.size) : (s.extract j (j + 4)).toList = [s[j], s[j + 1], s[j + 2], s[j + 3]] := by
  rw [Lib.extract_toList, show j + 4 - j = 3 + 1 from by omega, take_1 s j 3 (by omega), take_1 s (j + 1) 2 (by omega), take_1 s (j + 1 + 1) 1 (by omega), take_1 s (j + 1 + 1 + 1) 0 (by omega)]; simp

/-- one byte -/
theorem read_1 (s : ByteArray) (j : Nat) (h : j + 1 ≤ s.size) (hb : (s[j]'(by omega)).toNat < 192) :
    ((charOk (s[j]'(by omega)).toNat = true ∧ charBytes (s[j]'(by omega)).toNat = (s.extract j (j + 1)).toList) → dec s j = some (((s[j]'(by omega)).toNat : Int), 1)) ∧
    (¬ (charOk (s[j]'(by omega)).toNat = true ∧ charBytes (s[j]'(by omega)).toNat = (s.extract j (j + 1)).toList) → dec s j = none) := by
  have hg := bt_get s j (by omega)
  rw [ext_1 s j h]
  by_cases hlt : (s[j]'(by omega)).toNat < 128
  · have hd := dec_1 (s := s) (j := j) ⟨h, by omega⟩
    rw [hg] at hd
    have hz := size_1 (c := ((s[j]'(by omega)).toNat : Int)) (by omega) (by omega)
    refine ⟨fun _ => hd, fun hn => absurd ⟨(bytes_1 hz).2, ?_⟩ hn⟩
    rw [(bytes_1 hz).1, (u8_eq _ _ (by omega) (by omega)).2 rfl]
  · refine ⟨fun hh => ?_, fun _ => dec_none0 (by omega)⟩
    have hz := size_2 (c := ((s[j]'(by omega)).toNat : Int)) (by omega) (by omega)
    have := bytes_len ((s[j]'(by omega)).toNat : Int)
    rw [hh.2, hz] at this
    simp at this

theorem read_2 (s : ByteArray) (j : Nat) (h : j + 2 ≤ s.size) (h0 : 192 ≤ (s[j]'(by omega)).toNat) (h1 : (s[j]'(by omega)).toNat < 224) (c : Int)
    (hc : c = (((s[j]'(by omega)).toNat : Int) - 192) * 64 + (s[j + 1]'(by omega)).toNat - 128) :
    ((charOk c = true ∧ charBytes c = (s.extract j (j + 2)).toList) → dec s j = some (c, 2)) ∧
    (¬ (charOk c = true ∧ charBytes c = (s.extract j (j + 2)).toList) → dec s j = none) := by
  have g0 := bt_get s j (by omega)
  have g1 := bt_get s (j + 1) (by omega)
  rw [ext_2 s j h]
  have hb1 : (s[j + 1]'(by omega)).toNat < 256 := UInt8.toNat_lt _
  have hc2 : c2 s j = c := by unfold c2; rw [g0, g1]; omega
  constructor
  · rintro ⟨ho, hh⟩
    have hz : sizeOf c = 2 := by rw [← bytes_len, hh]; rfl
    obtain ⟨k0, k1⟩ := size_2_iff hz
    rw [(bytes_2 hz).1] at hh
    simp only [List.cons.injEq, and_true] at hh
    rw [u8_eq _ _ (by omega) (by omega), u8_eq _ _ (by omega) (by omega)] at hh
    rw [← hc2]
    exact dec_2 ⟨h, by omega, by omega, by unfold cont; rw [g1]; omega, by rw [hc2]; exact hz⟩
  · intro hn
    refine dec_none2 (by omega) (by omega) (fun hh => hn ?_)
    obtain ⟨-, hk, hz⟩ := hh
    rw [hc2] at hz
    unfold cont at hk
    rw [g1] at hk
    refine ⟨(bytes_2 hz).2, ?_⟩
    rw [(bytes_2 hz).1]
    simp only [List.cons.injEq, and_true]
    rw [u8_eq _ _ (by omega) (by omega), u8_eq _ _ (by omega) (by omega)]
    omega

theorem read_3 (s : ByteArray) (j : Nat) (h : j + 3 ≤ s.size) (h0 : 224 ≤ (s[j]'(by omega)).toNat) (h1 : (s[j]'(by omega)).toNat < 240) (c : Int)
    (hc : c = ((((s[j]'(by omega)).toNat : Int) - 224) * 64 + (s[j + 1]'(by omega)).toNat - 128) * 64 + (s[j + 2]'(by omega)).toNat - 128) :
    ((charOk c = true ∧ charBytes c = (s.extract j (j + 3)).toList) → dec s j = some (c, 3)) ∧
    (¬ (charOk c = true ∧ charBytes c = (s.extract j (j + 3)).toList) → dec s j = none) := by
  have g0 := bt_get s j (by omega)
  have g1 := bt_get s (j + 1) (by omega)
  have g2 := bt_get s (j + 2) (by omega)
  rw [ext_3 s j h]
  have hb1 : (s[j + 1]'(by omega)).toNat < 256 := UInt8.toNat_lt _
  have hb2 : (s[j + 2]'(by omega)).toNat < 256 := UInt8.toNat_lt _
  have hc2 : c3 s j = c := by unfold c3; rw [g0, g1, g2]; omega
  constructor
  · rintro ⟨ho, hh⟩
    have hz : sizeOf c = 3 := by rw [← bytes_len, hh]; rfl
    obtain ⟨k0, k1⟩ := size_3_iff hz
    rw [(bytes_3 hz).1] at hh
    simp only [List.cons.injEq, and_true] at hh
    rw [u8_eq _ _ (by omega) (by omega), u8_eq _ _ (by omega) (by omega), u8_eq _ _ (by omega) (by omega)] at hh
    rw [← hc2]
    exact dec_3 ⟨h, by omega, by omega, by unfold cont; rw [g1]; omega, by unfold cont; rw [g2]; omega, by rw [hc2]; exact hz⟩
  · intro hn
    refine dec_none3 (by omega) (by omega) (fun hh => hn ?_)
    obtain ⟨-, hk1, hk2, hz⟩ := hh
    rw [hc2] at hz
    unfold cont at hk1 hk2
    rw [g1] at hk1
    rw [g2] at hk2
    refine ⟨(bytes_3 hz).2, ?_⟩
    rw [(bytes_3 hz).1]
    simp only [List.cons.injEq, and_true]
    rw [u8_eq _ _ (by omega) (by omega), u8_eq _ _ (by omega) (by omega), u8_eq _ _ (by omega) (by omega)]
    omega

theorem read_4 (s : ByteArray) (j : Nat) (h : j + 4 ≤ s.size) (h0 : 240 ≤ (s[j]'(by omega)).toNat) (c : Int)
    (hc : c = (((((s[j]'(by omega)).toNat : Int) - 240) * 64 + (s[j + 1]'(by omega)).toNat - 128) * 64 + (s[j + 2]'(by omega)).toNat - 128) * 64 + (s[j + 3]'(by omega)).toNat - 128) :
    ((charOk c = true ∧ charBytes c = (s.extract j (j + 4)).toList) → dec s j = some (c, 4)) ∧
    (¬ (charOk c = true ∧ charBytes c = (s.extract j (j + 4)).toList) → dec s j = none) := by
  have g0 := bt_get s j (by omega)
  have g1 := bt_get s (j + 1) (by omega)
  have g2 := bt_get s (j + 2) (by omega)
  have g3 := bt_get s (j + 3) (by omega)
  rw [ext_4 s j h]
  have hb0 : (s[j]'(by omega)).toNat < 256 := UInt8.toNat_lt _
  have hb1 : (s[j + 1]'(by omega)).toNat < 256 := UInt8.toNat_lt _
  have hb2 : (s[j + 2]'(by omega)).toNat < 256 := UInt8.toNat_lt _
  have hb3 : (s[j + 3]'(by omega)).toNat < 256 := UInt8.toNat_lt _
  have hc2 : c4 s j = c := by unfold c4; rw [g0, g1, g2, g3]; omega
  constructor
  · rintro ⟨ho, hh⟩
    have hz : sizeOf c = 4 := by rw [← bytes_len, hh]; rfl
    obtain ⟨k0, k1⟩ := size_4_iff hz
    rw [(bytes_4 hz).1] at hh
    simp only [List.cons.injEq, and_true] at hh
    rw [u8_eq _ _ (by omega) (by omega), u8_eq _ _ (by omega) (by omega), u8_eq _ _ (by omega) (by omega), u8_eq _ _ (by omega) (by omega)] at hh
    rw [← hc2]
    exact dec_4 ⟨h, by omega, by omega, by unfold cont; rw [g1]; omega, by unfold cont; rw [g2]; omega, by unfold cont; rw [g3]; omega, by rw [hc2]; exact hz⟩
  · intro hn
    by_cases h248 : (s[j]'(by omega)).toNat < 248
    · refine dec_none4 (by omega) (by omega) (fun hh => hn ?_)
      obtain ⟨-, hk1, hk2, hk3, hz⟩ := hh
      rw [hc2] at hz
      unfold cont at hk1 hk2 hk3
      rw [g1] at hk1
      rw [g2] at hk2
      rw [g3] at hk3
      obtain ⟨k0, k1⟩ := size_4_iff hz
      refine ⟨(bytes_4 hz).2, ?_⟩
      rw [(bytes_4 hz).1]
      simp only [List.cons.injEq, and_true]
      rw [u8_eq _ _ (by omega) (by omega), u8_eq _ _ (by omega) (by omega), u8_eq _ _ (by omega) (by omega), u8_eq _ _ (by omega) (by omega)]
      omega
    · exact dec_none0 (by omega)
end Go.Proofs.YtmodaefcipchpaaDoor.Sp

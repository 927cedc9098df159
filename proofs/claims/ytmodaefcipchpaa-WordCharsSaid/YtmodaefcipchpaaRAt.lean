/-
  What the document's At answers.
-/
import Derived.Test.YtmodaefcipchpaaAt
import Derived.Test.YtmodaefcipchpaaMathRat
namespace Go.Proofs.Ytmodaefcipchpaa
open Go.RowKit

set_option maxHeartbeats 1600000 in
set_option maxRecDepth 100000 in
theorem rat_1 (s : ByteArray) (j : Nat) (w : World) (hs : s.size ≤ 140737488355328) (hroom : j + 1 ≤ s.size) (h1 : (s[j]'(by omega)).toNat < 192) :
    Calls Try.prog 13 #[.string s, .int .i64 j] w fun e w' => e = .returned (atV (Sp.dec s j)) ∧ Below w.heap.size w w' := by
  have hb0 : ((s[j]'(by omega)).toNat : Int) ≤ 255 := by have := UInt8.toNat_lt (s[j]'(by omega)); omega
  have hr := Sp.read_1 s j hroom h1
  by_cases ho : Sp.charOk (((s[j]'(by omega)).toNat : Int)) = true
  · by_cases he : Sp.charBytes (((s[j]'(by omega)).toNat : Int)) = (s.extract j (j + 1)).toList
    · have Hn := Lib.hid (hr.1 ⟨ho, he⟩)
      have hq : (Sp.charBytes (((s[j]'(by omega)).toNat : Int)) == (s.extract j (j + 1)).toList) = true := beq_iff_eq.2 he
      clear hr he
      go_enter Try.func13, Try.ntmps13
      go_wp2_with fail
      refine wp_loop_rounds 1 ?_
      rw [rounds_succ]
      go_wp2_with fail
      refine (rchar_any _ _).mono ?_
      rintro e w1 ⟨rfl, hb⟩
      have Hb := Lib.hid hb
      clear hb
      unfold str
      go_wp2_with fail
      go_ret3
      exact ⟨by rw [Hn.out]; rfl, Hb.out⟩
    · have Hn := Lib.hid (hr.2 (fun hh => he hh.2))
      have hq : (Sp.charBytes (((s[j]'(by omega)).toNat : Int)) == (s.extract j (j + 1)).toList) = false := beq_eq_false_iff_ne.2 he
      clear hr he
      go_enter Try.func13, Try.ntmps13
      go_wp2_with fail
      refine wp_loop_rounds 1 ?_
      rw [rounds_succ]
      go_wp2_with fail
      refine (rchar_any _ _).mono ?_
      rintro e w1 ⟨rfl, hb⟩
      have Hb := Lib.hid hb
      clear hb
      unfold str
      go_wp2_with fail
      go_ret3
      exact ⟨by rw [Hn.out]; rfl, Hb.out⟩
  · have Hn := Lib.hid (hr.2 (fun hh => ho hh.1))
    have hq : Sp.charOk (((s[j]'(by omega)).toNat : Int)) = false := by simpa using ho
    clear hr ho
    go_enter Try.func13, Try.ntmps13
    go_wp2_with fail
    refine wp_loop_rounds 1 ?_
    rw [rounds_succ]
    go_wp2_with fail
    refine (rchar_any _ _).mono ?_
    rintro e w1 ⟨rfl, hb⟩
    have Hb := Lib.hid hb
    clear hb
    unfold str
    go_wp2_with fail
    go_ret3
    exact ⟨by rw [Hn.out]; rfl, Hb.out⟩

set_option maxHeartbeats 1600000 in
set_option maxRecDepth 100000 in
theorem rat_2 (s : ByteArray) (j : Nat) (w : World) (hs : s.size ≤ 140737488355328) (hroom : j + 2 ≤ s.size) (h0 : 192 ≤ (s[j]'(by omega)).toNat) (h1 : (s[j]'(by omega)).toNat < 224) :
    Calls Try.prog 13 #[.string s, .int .i64 j] w fun e w' => e = .returned (atV (Sp.dec s j)) ∧ Below w.heap.size w w' := by
  have hb0 : ((s[j]'(by omega)).toNat : Int) ≤ 255 := by have := UInt8.toNat_lt (s[j]'(by omega)); omega
  have hb1 : ((s[j + 1]'(by omega)).toNat : Int) ≤ 255 := by have := UInt8.toNat_lt (s[j + 1]'(by omega)); omega
  have hr := Sp.read_2 s j hroom h0 h1 ((((s[j]'(by omega)).toNat : Int) - 192) * 64 + ((s[j + 1]'(by omega)).toNat : Int) - 128) rfl
  by_cases ho : Sp.charOk ((((s[j]'(by omega)).toNat : Int) - 192) * 64 + ((s[j + 1]'(by omega)).toNat : Int) - 128) = true
  · by_cases he : Sp.charBytes ((((s[j]'(by omega)).toNat : Int) - 192) * 64 + ((s[j + 1]'(by omega)).toNat : Int) - 128) = (s.extract j (j + 2)).toList
    · have Hn := Lib.hid (hr.1 ⟨ho, he⟩)
      have hq : (Sp.charBytes ((((s[j]'(by omega)).toNat : Int) - 192) * 64 + ((s[j + 1]'(by omega)).toNat : Int) - 128) == (s.extract j (j + 2)).toList) = true := beq_iff_eq.2 he
      clear hr he
      go_enter Try.func13, Try.ntmps13
      go_wp2_with fail
      refine wp_loop_rounds 2 ?_
      rw [rounds_succ]
      go_wp2_with fail
      rw [rounds_succ]
      go_wp2_with fail
      refine (rchar_any _ _).mono ?_
      rintro e w1 ⟨rfl, hb⟩
      have Hb := Lib.hid hb
      clear hb
      unfold str
      go_wp2_with fail
      go_ret3
      exact ⟨by rw [Hn.out]; rfl, Hb.out⟩
    · have Hn := Lib.hid (hr.2 (fun hh => he hh.2))
      have hq : (Sp.charBytes ((((s[j]'(by omega)).toNat : Int) - 192) * 64 + ((s[j + 1]'(by omega)).toNat : Int) - 128) == (s.extract j (j + 2)).toList) = false := beq_eq_false_iff_ne.2 he
      clear hr he
      go_enter Try.func13, Try.ntmps13
      go_wp2_with fail
      refine wp_loop_rounds 2 ?_
      rw [rounds_succ]
      go_wp2_with fail
      rw [rounds_succ]
      go_wp2_with fail
      refine (rchar_any _ _).mono ?_
      rintro e w1 ⟨rfl, hb⟩
      have Hb := Lib.hid hb
      clear hb
      unfold str
      go_wp2_with fail
      go_ret3
      exact ⟨by rw [Hn.out]; rfl, Hb.out⟩
  · have Hn := Lib.hid (hr.2 (fun hh => ho hh.1))
    have hq : Sp.charOk ((((s[j]'(by omega)).toNat : Int) - 192) * 64 + ((s[j + 1]'(by omega)).toNat : Int) - 128) = false := by simpa using ho
    clear hr ho
    go_enter Try.func13, Try.ntmps13
    go_wp2_with fail
    refine wp_loop_rounds 2 ?_
    rw [rounds_succ]
    go_wp2_with fail
    rw [rounds_succ]
    go_wp2_with fail
    refine (rchar_any _ _).mono ?_
    rintro e w1 ⟨rfl, hb⟩
    have Hb := Lib.hid hb
    clear hb
    unfold str
    go_wp2_with fail
    go_ret3
    exact ⟨by rw [Hn.out]; rfl, Hb.out⟩

set_option maxHeartbeats 1600000 in
set_option maxRecDepth 100000 in
theorem rat_3 (s : ByteArray) (j : Nat) (w : World) (hs : s.size ≤ 140737488355328) (hroom : j + 3 ≤ s.size) (h0 : 224 ≤ (s[j]'(by omega)).toNat) (h1 : (s[j]'(by omega)).toNat < 240) :
    Calls Try.prog 13 #[.string s, .int .i64 j] w fun e w' => e = .returned (atV (Sp.dec s j)) ∧ Below w.heap.size w w' := by
  have hb0 : ((s[j]'(by omega)).toNat : Int) ≤ 255 := by have := UInt8.toNat_lt (s[j]'(by omega)); omega
  have hb1 : ((s[j + 1]'(by omega)).toNat : Int) ≤ 255 := by have := UInt8.toNat_lt (s[j + 1]'(by omega)); omega
  have hb2 : ((s[j + 2]'(by omega)).toNat : Int) ≤ 255 := by have := UInt8.toNat_lt (s[j + 2]'(by omega)); omega
  have hr := Sp.read_3 s j hroom h0 h1 (((((s[j]'(by omega)).toNat : Int) - 224) * 64 + ((s[j + 1]'(by omega)).toNat : Int) - 128) * 64 + ((s[j + 2]'(by omega)).toNat : Int) - 128) rfl
  by_cases ho : Sp.charOk (((((s[j]'(by omega)).toNat : Int) - 224) * 64 + ((s[j + 1]'(by omega)).toNat : Int) - 128) * 64 + ((s[j + 2]'(by omega)).toNat : Int) - 128) = true
  · by_cases he : Sp.charBytes (((((s[j]'(by omega)).toNat : Int) - 224) * 64 + ((s[j + 1]'(by omega)).toNat : Int) - 128) * 64 + ((s[j + 2]'(by omega)).toNat : Int) - 128) = (s.extract j (j + 3)).toList
    · have Hn := Lib.hid (hr.1 ⟨ho, he⟩)
      have hq : (Sp.charBytes (((((s[j]'(by omega)).toNat : Int) - 224) * 64 + ((s[j + 1]'(by omega)).toNat : Int) - 128) * 64 + ((s[j + 2]'(by omega)).toNat : Int) - 128) == (s.extract j (j + 3)).toList) = true := beq_iff_eq.2 he
      clear hr he
      go_enter Try.func13, Try.ntmps13
      go_wp2_with fail
      refine wp_loop_rounds 3 ?_
      rw [rounds_succ]
      go_wp2_with fail
      rw [rounds_succ]
      go_wp2_with fail
      rw [rounds_succ]
      go_wp2_with fail
      refine (rchar_any _ _).mono ?_
      rintro e w1 ⟨rfl, hb⟩
      have Hb := Lib.hid hb
      clear hb
      unfold str
      go_wp2_with fail
      go_ret3
      exact ⟨by rw [Hn.out]; rfl, Hb.out⟩
    · have Hn := Lib.hid (hr.2 (fun hh => he hh.2))
      have hq : (Sp.charBytes (((((s[j]'(by omega)).toNat : Int) - 224) * 64 + ((s[j + 1]'(by omega)).toNat : Int) - 128) * 64 + ((s[j + 2]'(by omega)).toNat : Int) - 128) == (s.extract j (j + 3)).toList) = false := beq_eq_false_iff_ne.2 he
      clear hr he
      go_enter Try.func13, Try.ntmps13
      go_wp2_with fail
      refine wp_loop_rounds 3 ?_
      rw [rounds_succ]
      go_wp2_with fail
      rw [rounds_succ]
      go_wp2_with fail
      rw [rounds_succ]
      go_wp2_with fail
      refine (rchar_any _ _).mono ?_
      rintro e w1 ⟨rfl, hb⟩
      have Hb := Lib.hid hb
      clear hb
      unfold str
      go_wp2_with fail
      go_ret3
      exact ⟨by rw [Hn.out]; rfl, Hb.out⟩
  · have Hn := Lib.hid (hr.2 (fun hh => ho hh.1))
    have hq : Sp.charOk (((((s[j]'(by omega)).toNat : Int) - 224) * 64 + ((s[j + 1]'(by omega)).toNat : Int) - 128) * 64 + ((s[j + 2]'(by omega)).toNat : Int) - 128) = false := by simpa using ho
    clear hr ho
    go_enter Try.func13, Try.ntmps13
    go_wp2_with fail
    refine wp_loop_rounds 3 ?_
    rw [rounds_succ]
    go_wp2_with fail
    rw [rounds_succ]
    go_wp2_with fail
    rw [rounds_succ]
    go_wp2_with fail
    refine (rchar_any _ _).mono ?_
    rintro e w1 ⟨rfl, hb⟩
    have Hb := Lib.hid hb
    clear hb
    unfold str
    go_wp2_with fail
    go_ret3
    exact ⟨by rw [Hn.out]; rfl, Hb.out⟩

set_option maxHeartbeats 1600000 in
set_option maxRecDepth 100000 in
theorem rat_4 (s : ByteArray) (j : Nat) (w : World) (hs : s.size ≤ 140737488355328) (hroom : j + 4 ≤ s.size) (h0 : 240 ≤ (s[j]'(by omega)).toNat) :
    Calls Try.prog 13 #[.string s, .int .i64 j] w fun e w' => e = .returned (atV (Sp.dec s j)) ∧ Below w.heap.size w w' := by
  have hb0 : ((s[j]'(by omega)).toNat : Int) ≤ 255 := by have := UInt8.toNat_lt (s[j]'(by omega)); omega
  have hb1 : ((s[j + 1]'(by omega)).toNat : Int) ≤ 255 := by have := UInt8.toNat_lt (s[j + 1]'(by omega)); omega
  have hb2 : ((s[j + 2]'(by omega)).toNat : Int) ≤ 255 := by have := UInt8.toNat_lt (s[j + 2]'(by omega)); omega
  have hb3 : ((s[j + 3]'(by omega)).toNat : Int) ≤ 255 := by have := UInt8.toNat_lt (s[j + 3]'(by omega)); omega
  have hr := Sp.read_4 s j hroom h0 ((((((s[j]'(by omega)).toNat : Int) - 240) * 64 + ((s[j + 1]'(by omega)).toNat : Int) - 128) * 64 + ((s[j + 2]'(by omega)).toNat : Int) - 128) * 64 + ((s[j + 3]'(by omega)).toNat : Int) - 128) rfl
  by_cases ho : Sp.charOk ((((((s[j]'(by omega)).toNat : Int) - 240) * 64 + ((s[j + 1]'(by omega)).toNat : Int) - 128) * 64 + ((s[j + 2]'(by omega)).toNat : Int) - 128) * 64 + ((s[j + 3]'(by omega)).toNat : Int) - 128) = true
  · by_cases he : Sp.charBytes ((((((s[j]'(by omega)).toNat : Int) - 240) * 64 + ((s[j + 1]'(by omega)).toNat : Int) - 128) * 64 + ((s[j + 2]'(by omega)).toNat : Int) - 128) * 64 + ((s[j + 3]'(by omega)).toNat : Int) - 128) = (s.extract j (j + 4)).toList
    · have Hn := Lib.hid (hr.1 ⟨ho, he⟩)
      have hq : (Sp.charBytes ((((((s[j]'(by omega)).toNat : Int) - 240) * 64 + ((s[j + 1]'(by omega)).toNat : Int) - 128) * 64 + ((s[j + 2]'(by omega)).toNat : Int) - 128) * 64 + ((s[j + 3]'(by omega)).toNat : Int) - 128) == (s.extract j (j + 4)).toList) = true := beq_iff_eq.2 he
      clear hr he
      go_enter Try.func13, Try.ntmps13
      go_wp2_with fail
      refine wp_loop_rounds 4 ?_
      rw [rounds_succ]
      go_wp2_with fail
      rw [rounds_succ]
      go_wp2_with fail
      rw [rounds_succ]
      go_wp2_with fail
      rw [rounds_succ]
      go_wp2_with fail
      refine (rchar_any _ _).mono ?_
      rintro e w1 ⟨rfl, hb⟩
      have Hb := Lib.hid hb
      clear hb
      unfold str
      go_wp2_with fail
      go_ret3
      exact ⟨by rw [Hn.out]; rfl, Hb.out⟩
    · have Hn := Lib.hid (hr.2 (fun hh => he hh.2))
      have hq : (Sp.charBytes ((((((s[j]'(by omega)).toNat : Int) - 240) * 64 + ((s[j + 1]'(by omega)).toNat : Int) - 128) * 64 + ((s[j + 2]'(by omega)).toNat : Int) - 128) * 64 + ((s[j + 3]'(by omega)).toNat : Int) - 128) == (s.extract j (j + 4)).toList) = false := beq_eq_false_iff_ne.2 he
      clear hr he
      go_enter Try.func13, Try.ntmps13
      go_wp2_with fail
      refine wp_loop_rounds 4 ?_
      rw [rounds_succ]
      go_wp2_with fail
      rw [rounds_succ]
      go_wp2_with fail
      rw [rounds_succ]
      go_wp2_with fail
      rw [rounds_succ]
      go_wp2_with fail
      refine (rchar_any _ _).mono ?_
      rintro e w1 ⟨rfl, hb⟩
      have Hb := Lib.hid hb
      clear hb
      unfold str
      go_wp2_with fail
      go_ret3
      exact ⟨by rw [Hn.out]; rfl, Hb.out⟩
  · have Hn := Lib.hid (hr.2 (fun hh => ho hh.1))
    have hq : Sp.charOk ((((((s[j]'(by omega)).toNat : Int) - 240) * 64 + ((s[j + 1]'(by omega)).toNat : Int) - 128) * 64 + ((s[j + 2]'(by omega)).toNat : Int) - 128) * 64 + ((s[j + 3]'(by omega)).toNat : Int) - 128) = false := by simpa using ho
    clear hr ho
    go_enter Try.func13, Try.ntmps13
    go_wp2_with fail
    refine wp_loop_rounds 4 ?_
    rw [rounds_succ]
    go_wp2_with fail
    rw [rounds_succ]
    go_wp2_with fail
    rw [rounds_succ]
    go_wp2_with fail
    rw [rounds_succ]
    go_wp2_with fail
    refine (rchar_any _ _).mono ?_
    rintro e w1 ⟨rfl, hb⟩
    have Hb := Lib.hid hb
    clear hb
    unfold str
    go_wp2_with fail
    go_ret3
    exact ⟨by rw [Hn.out]; rfl, Hb.out⟩

set_option maxHeartbeats 1600000 in
set_option maxRecDepth 100000 in
theorem rat_short2 (s : ByteArray) (j : Nat) (w : World) (hs : s.size ≤ 140737488355328) (hj : j < s.size) (hroom : ¬ j + 2 ≤ s.size) (h0 : 192 ≤ (s[j]'hj).toNat) (h1 : (s[j]'hj).toNat < 224) :
    Calls Try.prog 13 #[.string s, .int .i64 j] w fun e w' => e = .returned (atV (Sp.dec s j)) ∧ Below w.heap.size w w' := by
  have Hn := Lib.hid (p := Sp.dec s j = none) (Sp.dec_none2 (by rw [Sp.bt_get s j hj]; exact h0) (by rw [Sp.bt_get s j hj]; exact h1) (fun hh => hroom hh.1))
  go_enter Try.func13, Try.ntmps13
  go_wp2_with fail
  go_ret3
  exact ⟨by rw [Hn.out]; rfl, Below.refl _ _⟩

set_option maxHeartbeats 1600000 in
set_option maxRecDepth 100000 in
theorem rat_short3 (s : ByteArray) (j : Nat) (w : World) (hs : s.size ≤ 140737488355328) (hj : j < s.size) (hroom : ¬ j + 3 ≤ s.size) (h0 : 224 ≤ (s[j]'hj).toNat) (h1 : (s[j]'hj).toNat < 240) :
    Calls Try.prog 13 #[.string s, .int .i64 j] w fun e w' => e = .returned (atV (Sp.dec s j)) ∧ Below w.heap.size w w' := by
  have Hn := Lib.hid (p := Sp.dec s j = none) (Sp.dec_none3 (by rw [Sp.bt_get s j hj]; exact h0) (by rw [Sp.bt_get s j hj]; exact h1) (fun hh => hroom hh.1))
  go_enter Try.func13, Try.ntmps13
  go_wp2_with fail
  go_ret3
  exact ⟨by rw [Hn.out]; rfl, Below.refl _ _⟩

set_option maxHeartbeats 1600000 in
set_option maxRecDepth 100000 in
theorem rat_short4 (s : ByteArray) (j : Nat) (w : World) (hs : s.size ≤ 140737488355328) (hj : j < s.size) (hroom : ¬ j + 4 ≤ s.size) (h0 : 240 ≤ (s[j]'hj).toNat) :
    Calls Try.prog 13 #[.string s, .int .i64 j] w fun e w' => e = .returned (atV (Sp.dec s j)) ∧ Below w.heap.size w w' := by
  have Hn := Lib.hid (p := Sp.dec s j = none) ((by
    by_cases h248 : (s[j]'hj).toNat < 248
    · exact Sp.dec_none4 (by rw [Sp.bt_get s j hj]; exact h0) (by rw [Sp.bt_get s j hj]; exact h248) (fun hh => hroom hh.1)
    · exact Sp.dec_none0 (.inr (by rw [Sp.bt_get s j hj]; omega))))
  go_enter Try.func13, Try.ntmps13
  go_wp2_with fail
  go_ret3
  exact ⟨by rw [Hn.out]; rfl, Below.refl _ _⟩

set_option maxHeartbeats 1600000 in
set_option maxRecDepth 100000 in
theorem rat_out (s : ByteArray) (i : Int) (w : World) (hs : s.size ≤ 140737488355328) (h : i < 0 ∨ (s.size : Int) ≤ i) :
    Calls Try.prog 13 #[.string s, .int .i64 i] w fun e w' => e = .returned (atV none) ∧ Below w.heap.size w w' := by
  rcases h with h | h
  · go_enter Try.func13, Try.ntmps13
    go_wp2_with fail
    go_ret3
    exact ⟨rfl, Below.refl _ _⟩
  · have h' : 0 ≤ i := by omega
    go_enter Try.func13, Try.ntmps13
    go_wp2_with fail
    go_ret3
    exact ⟨rfl, Below.refl _ _⟩

theorem rat_in (s : ByteArray) (j : Nat) (w : World) (hs : s.size ≤ 140737488355328) (hj : j < s.size) :
    Calls Try.prog 13 #[.string s, .int .i64 j] w fun e w' => e = .returned (atV (Sp.dec s j)) ∧ Below w.heap.size w w' := by
  by_cases h1 : (s[j]'hj).toNat < 192
  · exact rat_1 s j w hs hj h1
  · by_cases h3 : (s[j]'hj).toNat < 224
    · by_cases hr : j + 2 ≤ s.size
      · exact rat_2 s j w hs hr (by omega) h3
      · exact rat_short2 s j w hs hj hr (by omega) h3
    · by_cases h4 : (s[j]'hj).toNat < 240
      · by_cases hr : j + 3 ≤ s.size
        · exact rat_3 s j w hs hr (by omega) h4
        · exact rat_short3 s j w hs hj hr (by omega) h4
      · by_cases hr : j + 4 ≤ s.size
        · exact rat_4 s j w hs hr (by omega)
        · exact rat_short4 s j w hs hj hr (by omega)

theorem rat_any (s : ByteArray) (i : Int) (w : World) (hs : s.size ≤ 140737488355328) :
    Calls Try.prog 13 #[.string s, .int .i64 i] w fun e w' => e = .returned (atV (Sp.decAt s i)) ∧ Below w.heap.size w w' := by
  by_cases h : i < 0 ∨ (s.size : Int) ≤ i
  · have : Sp.decAt s i = none := by
      unfold Sp.decAt
      by_cases h0 : i < 0
      · rw [if_pos h0]
      · rw [if_neg h0]; exact Sp.dec_out (by omega)
    rw [this]; exact rat_out s i w hs h
  · obtain ⟨j, rfl⟩ : ∃ j : Nat, i = j := ⟨i.toNat, by omega⟩
    have : Sp.decAt s (j : Int) = Sp.dec s j := by unfold Sp.decAt; rw [if_neg (by omega)]; rfl
    rw [this]; exact rat_in s j w hs (by omega)
end Go.Proofs.Ytmodaefcipchpaa

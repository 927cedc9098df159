/-
  What the document's Parse answers.
-/
import Derived.Test.YtmodaefcipchpaaDoorMathRParse
namespace Go.Proofs.YtmodaefcipchpaaDoor
open Go.RowKit

theorem parse_get (s : ByteArray) (k : Nat) (h : k < s.size) : s[k] ∈ s.data.toList := by
  have : s[k] = s.data.toList[k]'(by rw [Array.length_toList]; exact h) := rfl
  rw [this]; exact List.getElem_mem _
theorem parse_take (s : ByteArray) (k : Nat) (h : k < s.size) : s.data.toList.take (k + 1) = s.data.toList.take k ++ [s[k]] := by
  have : s[k] = s.data.toList[k]'(by rw [Array.length_toList]; exact h) := rfl
  rw [this, List.take_append_getElem]
theorem rp_round (s : ByteArray) (k : Nat) (h : k < s.size) (N : Int) (hN : N = lf (s.data.toList.take k)) : wrap64 (wrap64 (10 * wr64 N) + (((s[k]'h).toNat : Int) - 48)) = wr64 (lf (s.data.toList.take (k + 1))) := by
  rw [parse_take s k h, lf_snoc, ← hN]
  unfold wr64 wrap64
  simp only [IntKind.wrap_i64]
  omega
theorem take_all (s : ByteArray) : s.data.toList.take s.size = s.data.toList := List.take_of_length_le (by rw [Array.length_toList]; exact Nat.le_refl _)
theorem eq_text (N : Int) (s : ByteArray) (h : Lib.itoa N = s.data.toList) : (Lib.itoa N == s.toList) = true := by rw [ByteArray.toList_eq]; exact beq_iff_eq.2 h
theorem ne_text (N : Int) (s : ByteArray) (h : ¬ Lib.itoa N = s.data.toList) : (Lib.itoa N == s.toList) = false := by rw [ByteArray.toList_eq]; exact beq_eq_false_iff_ne.2 h

set_option maxHeartbeats 1600000 in
set_option maxRecDepth 100000 in
theorem rparse_plain (s : ByteArray) (w : World) (hs : s.size ≤ 20) (hh : s.data.toList.head? ≠ some 45) (h0 : ∀ h : 0 < s.size, (s[0]'h).toNat ≠ 45) :
    Calls Tryd.prog 15 #[.string s] w fun e w' => e = .returned (parseV (Sp.parse s.data.toList)) ∧ Below w.heap.size w w' := by
  have Hend := Lib.hid (parse_end_plain _ hh)
  have Hno := Lib.hid (parse_plain_no _ hh)
  have hf : ∀ h : 0 < s.size, (((s[0]'h).toNat : Int) == 45) = false := fun h => by have := h0 h; rw [beq_eq_false_iff_ne]; omega
  clear hh h0
  by_cases hz : 0 < s.size
  · have hzi : (0 : Int) < (s.size : Int) := by omega
    have hf0 := hf hz
    clear hf
    go_enter Tryd.func15, Tryd.ntmps15
    go_wp2_with fail
    go_loop [4, 6] (fun n i => ∃ k : Nat, k ≤ s.size ∧ i = .int .i64 k ∧ n = .int .i64 (wr64 (lf (s.data.toList.take k)))) (fun _ i => s.size - (intOf i).toNat)
    case atStart => exact ⟨0, Nat.zero_le _, rfl, by rw [List.take_zero, lf_nil]; exact congrArg (Value.int .i64) (by decide)⟩
    case round =>
      obtain ⟨k, hk, rfl, rfl⟩ := hrel
      by_cases hlt : k < s.size
      · obtain ⟨N, hN⟩ : ∃ N, N = lf (s.data.toList.take k) := ⟨_, rfl⟩
        have Hn := Lib.hid hN
        rw [← hN]
        clear hN
        by_cases hk0 : k = 0
        · have fk : ((k : Int) == 0) = true := by rw [beq_iff_eq]; omega
          clear hk0
          by_cases h48 : 48 ≤ (s[k]'hlt).toNat
          · have j48 : (48 : Int) ≤ ((s[k]'hlt).toNat : Int) := by omega
            by_cases h57 : (s[k]'hlt).toNat ≤ 57
            · have j57 : ((s[k]'hlt).toNat : Int) ≤ 57 := by omega
              clear h48 h57
              go_wp2_with fail
              exact ⟨⟨k + 1, by omega, congrArg (Value.int .i64) (by omega), congrArg (Value.int .i64) (rp_round s k hlt N Hn.out)⟩, by simp [intOf]; omega⟩
            · have j57 : (57 : Int) < ((s[k]'hlt).toNat : Int) := by omega
              have Hnone := Lib.hid (Hno.out _ (parse_get s k hlt) (by omega))
              clear h48 h57
              go_wp2_with fail
              go_ret2
              exact ⟨by rw [Hnone.out]; rfl, Below.refl _ _⟩
          · have j48 : ((s[k]'hlt).toNat : Int) < 48 := by omega
            have Hnone := Lib.hid (Hno.out _ (parse_get s k hlt) (by omega))
            clear h48
            go_wp2_with fail
            go_ret2
            exact ⟨by rw [Hnone.out]; rfl, Below.refl _ _⟩
        · have fk : ((k : Int) == 0) = false := by rw [beq_eq_false_iff_ne]; omega
          clear hk0
          by_cases h48 : 48 ≤ (s[k]'hlt).toNat
          · have j48 : (48 : Int) ≤ ((s[k]'hlt).toNat : Int) := by omega
            by_cases h57 : (s[k]'hlt).toNat ≤ 57
            · have j57 : ((s[k]'hlt).toNat : Int) ≤ 57 := by omega
              clear h48 h57
              go_wp2_with fail
              exact ⟨⟨k + 1, by omega, congrArg (Value.int .i64) (by omega), congrArg (Value.int .i64) (rp_round s k hlt N Hn.out)⟩, by simp [intOf]; omega⟩
            · have j57 : (57 : Int) < ((s[k]'hlt).toNat : Int) := by omega
              have Hnone := Lib.hid (Hno.out _ (parse_get s k hlt) (by omega))
              clear h48 h57
              go_wp2_with fail
              go_ret2
              exact ⟨by rw [Hnone.out]; rfl, Below.refl _ _⟩
          · have j48 : ((s[k]'hlt).toNat : Int) < 48 := by omega
            have Hnone := Lib.hid (Hno.out _ (parse_get s k hlt) (by omega))
            clear h48
            go_wp2_with fail
            go_ret2
            exact ⟨by rw [Hnone.out]; rfl, Below.refl _ _⟩
      · obtain rfl : k = s.size := by omega
        obtain ⟨N, hN⟩ : ∃ N, N = wr64 (lf (s.data.toList.take s.size)) := ⟨_, rfl⟩
        rw [← hN]
        rw [take_all] at hN
        have hb := wr64_in (lf s.data.toList)
        rw [← hN] at hb
        obtain ⟨hb0, hb1⟩ := hb
        have hend := Hend.out
        rw [← hN] at hend
        have Hq := Lib.hid hend
        clear hN hend
        by_cases hq : Lib.itoa N = s.data.toList
        · have fq := eq_text N s hq
          have Hr : Hid (Sp.parse s.data.toList = some N) := Lib.hid (by rw [Hq.out, if_pos hq])
          clear hq
          go_wp2_with fail
          refine (rnumber_any N w hb0 hb1).mono ?_
          rintro e w1 ⟨rfl, hw1⟩
          have Hw1 := Lib.hid hw1
          clear hw1
          go_wp2_with fail
          go_ret2
          exact ⟨by rw [Hr.out]; rfl, Hw1.out⟩
        · have fq := ne_text N s hq
          have Hr : Hid (Sp.parse s.data.toList = none) := Lib.hid (by rw [Hq.out, if_neg hq])
          clear hq
          go_wp2_with fail
          refine (rnumber_any N w hb0 hb1).mono ?_
          rintro e w1 ⟨rfl, hw1⟩
          have Hw1 := Lib.hid hw1
          clear hw1
          go_wp2_with fail
          go_ret2
          exact ⟨by rw [Hr.out]; rfl, Hw1.out⟩
  · have hzi : ¬ (0 : Int) < (s.size : Int) := by omega
    clear hf
    go_enter Tryd.func15, Tryd.ntmps15
    go_wp2_with fail
    go_loop [4, 6] (fun n i => ∃ k : Nat, k ≤ s.size ∧ i = .int .i64 k ∧ n = .int .i64 (wr64 (lf (s.data.toList.take k)))) (fun _ i => s.size - (intOf i).toNat)
    case atStart => exact ⟨0, Nat.zero_le _, rfl, by rw [List.take_zero, lf_nil]; exact congrArg (Value.int .i64) (by decide)⟩
    case round =>
      obtain ⟨k, hk, rfl, rfl⟩ := hrel
      by_cases hlt : k < s.size
      · exact absurd hlt (by omega)
      · obtain rfl : k = s.size := by omega
        obtain ⟨N, hN⟩ : ∃ N, N = wr64 (lf (s.data.toList.take s.size)) := ⟨_, rfl⟩
        rw [← hN]
        rw [take_all] at hN
        have hb := wr64_in (lf s.data.toList)
        rw [← hN] at hb
        obtain ⟨hb0, hb1⟩ := hb
        have hend := Hend.out
        rw [← hN] at hend
        have Hq := Lib.hid hend
        clear hN hend
        by_cases hq : Lib.itoa N = s.data.toList
        · have fq := eq_text N s hq
          have Hr : Hid (Sp.parse s.data.toList = some N) := Lib.hid (by rw [Hq.out, if_pos hq])
          clear hq
          go_wp2_with fail
          refine (rnumber_any N w hb0 hb1).mono ?_
          rintro e w1 ⟨rfl, hw1⟩
          have Hw1 := Lib.hid hw1
          clear hw1
          go_wp2_with fail
          go_ret2
          exact ⟨by rw [Hr.out]; rfl, Hw1.out⟩
        · have fq := ne_text N s hq
          have Hr : Hid (Sp.parse s.data.toList = none) := Lib.hid (by rw [Hq.out, if_neg hq])
          clear hq
          go_wp2_with fail
          refine (rnumber_any N w hb0 hb1).mono ?_
          rintro e w1 ⟨rfl, hw1⟩
          have Hw1 := Lib.hid hw1
          clear hw1
          go_wp2_with fail
          go_ret2
          exact ⟨by rw [Hr.out]; rfl, Hw1.out⟩

theorem rp_round_sign (s : ByteArray) (k : Nat) (h : k < s.size) (h1 : 1 ≤ k) (N : Int) (hN : N = lf ((s.data.toList.drop 1).take (k - 1))) : wrap64 (wrap64 (10 * wr64 (-N)) - (((s[k]'h).toNat : Int) - 48)) = wr64 (-lf ((s.data.toList.drop 1).take (k + 1 - 1))) := by
  have e : (s.data.toList.drop 1).take (k + 1 - 1) = (s.data.toList.drop 1).take (k - 1) ++ [s[k]'h] := by
    have hl : s.data.toList.length = s.size := Array.length_toList
    have g : s[k]'h = (s.data.toList.drop 1)[k - 1]'(by rw [List.length_drop]; omega) := by
      rw [List.getElem_drop]
      have : s[k]'h = s.data.toList[k]'(by omega) := rfl
      rw [this]; congr 1; omega
    rw [g, List.take_append_getElem]
    congr 1; omega
  rw [e, lf_snoc, ← hN]
  unfold wr64 wrap64
  simp only [IntKind.wrap_i64]
  omega
theorem parse_get_sign (s : ByteArray) (k : Nat) (h : k < s.size) (h1 : 1 ≤ k) : s[k]'h ∈ s.data.toList.drop 1 := by
  have hl : s.data.toList.length = s.size := Array.length_toList
  have g : s[k]'h = (s.data.toList.drop 1)[k - 1]'(by rw [List.length_drop]; omega) := by
    rw [List.getElem_drop]
    have : s[k]'h = s.data.toList[k]'(by omega) := rfl
    rw [this]; congr 1; omega
  rw [g]; exact List.getElem_mem _
theorem take_all_sign (s : ByteArray) : (s.data.toList.drop 1).take (s.size - 1) = s.data.toList.drop 1 := List.take_of_length_le (by rw [List.length_drop, Array.length_toList]; exact Nat.le_refl _)
theorem head_sign (s : ByteArray) (h : 0 < s.size) (h0 : (s[0]'h).toNat = 45) : s.data.toList = 45 :: s.data.toList.drop 1 := by
  have hl : s.data.toList.length = s.size := Array.length_toList
  have g : s[0]'h = s.data.toList[0]'(by omega) := rfl
  have e : s.data.toList[0]'(by omega) = 45 := by rw [← g]; exact UInt8.toNat_inj.1 h0
  rw [← e]
  exact (List.getElem_cons_drop (by omega : 0 < s.data.toList.length)).symm
theorem head_plain (s : ByteArray) (h0 : ∀ h : 0 < s.size, (s[0]'h).toNat ≠ 45) : s.data.toList.head? ≠ some 45 := by
  intro hh
  have hl : s.data.toList.length = s.size := Array.length_toList
  cases hd : s.data.toList with
  | nil => rw [hd] at hh; cases hh
  | cons c r =>
    rw [hd] at hh hl
    have hc : c = 45 := by simpa using hh
    have hp : 0 < s.size := by rw [← hl]; simp
    have g : s[0]'hp = s.data.toList[0]'(by rw [hd]; simp) := rfl
    apply h0 hp
    rw [g]
    simp only [hd, List.getElem_cons_zero, hc]
    rfl

set_option maxHeartbeats 1600000 in
set_option maxRecDepth 100000 in
theorem rparse_sign (s : ByteArray) (w : World) (hs : s.size ≤ 20) (hz : 0 < s.size) (h0 : (s[0]'hz).toNat = 45) :
    Calls Tryd.prog 15 #[.string s] w fun e w' => e = .returned (parseV (Sp.parse s.data.toList)) ∧ Below w.heap.size w w' := by
  have hd := head_sign s hz h0
  have hend := parse_end_sign (s.data.toList.drop 1)
  have hno := parse_sign_no (s.data.toList.drop 1)
  rw [← hd] at hend hno
  have Hend := Lib.hid hend
  have Hno := Lib.hid hno
  have hf0 : (((s[0]'hz).toNat : Int) == 45) = true := by rw [beq_iff_eq]; omega
  have hzi : (0 : Int) < (s.size : Int) := by omega
  clear h0 hd hend hno
  go_enter Tryd.func15, Tryd.ntmps15
  go_wp2_with fail
  go_loop [4, 6] (fun n i => ∃ k : Nat, k ≤ s.size ∧ i = .int .i64 k ∧ n = .int .i64 (wr64 (-lf ((s.data.toList.drop 1).take (k - 1))))) (fun _ i => s.size - (intOf i).toNat)
  case atStart => exact ⟨0, Nat.zero_le _, rfl, by rw [Nat.zero_sub, List.take_zero, lf_nil]; exact congrArg (Value.int .i64) (by decide)⟩
  case round =>
    obtain ⟨k, hk, rfl, rfl⟩ := hrel
    by_cases hlt : k < s.size
    · obtain ⟨N, hN⟩ : ∃ N, N = lf ((s.data.toList.drop 1).take (k - 1)) := ⟨_, rfl⟩
      have Hn := Lib.hid hN
      rw [← hN]
      clear hN
      by_cases hk0 : k = 0
      · have fk : ((k : Int) == 0) = true := by rw [beq_iff_eq]; omega
        obtain rfl : k = 0 := hk0
        go_wp2_with fail
        exact ⟨⟨1, by omega, rfl, by rw [Hn.out]⟩, by simp [intOf]; omega⟩
      · have fk : ((k : Int) == 0) = false := by rw [beq_eq_false_iff_ne]; omega
        have hk1 : 1 ≤ k := by omega
        clear hk0
        by_cases h48 : 48 ≤ (s[k]'hlt).toNat
        · have j48 : (48 : Int) ≤ ((s[k]'hlt).toNat : Int) := by omega
          by_cases h57 : (s[k]'hlt).toNat ≤ 57
          · have j57 : ((s[k]'hlt).toNat : Int) ≤ 57 := by omega
            clear h48 h57
            go_wp2_with fail
            exact ⟨⟨k + 1, by omega, congrArg (Value.int .i64) (by omega), congrArg (Value.int .i64) (rp_round_sign s k hlt (by omega) N Hn.out)⟩, by simp [intOf]; omega⟩
          · have j57 : (57 : Int) < ((s[k]'hlt).toNat : Int) := by omega
            have Hnone := Lib.hid (Hno.out _ (parse_get_sign s k hlt (by omega)) (by omega))
            clear h48 h57
            go_wp2_with fail
            go_ret2
            exact ⟨by rw [Hnone.out]; rfl, Below.refl _ _⟩
        · have j48 : ((s[k]'hlt).toNat : Int) < 48 := by omega
          have Hnone := Lib.hid (Hno.out _ (parse_get_sign s k hlt (by omega)) (by omega))
          clear h48
          go_wp2_with fail
          go_ret2
          exact ⟨by rw [Hnone.out]; rfl, Below.refl _ _⟩
    · obtain rfl : k = s.size := by omega
      obtain ⟨N, hN⟩ : ∃ N, N = wr64 (-lf ((s.data.toList.drop 1).take (s.size - 1))) := ⟨_, rfl⟩
      rw [← hN]
      rw [take_all_sign] at hN
      have hb := wr64_in (-lf (s.data.toList.drop 1))
      rw [← hN] at hb
      obtain ⟨hb0, hb1⟩ := hb
      have hend := Hend.out
      rw [← hN] at hend
      have Hq := Lib.hid hend
      clear hN hend
      by_cases hq : Lib.itoa N = s.data.toList
      · have fq := eq_text N s hq
        have Hr : Hid (Sp.parse s.data.toList = some N) := Lib.hid (by rw [Hq.out, if_pos hq])
        clear hq
        go_wp2_with fail
        refine (rnumber_any N w hb0 hb1).mono ?_
        rintro e w1 ⟨rfl, hw1⟩
        have Hw1 := Lib.hid hw1
        clear hw1
        go_wp2_with fail
        go_ret2
        exact ⟨by rw [Hr.out]; rfl, Hw1.out⟩
      · have fq := ne_text N s hq
        have Hr : Hid (Sp.parse s.data.toList = none) := Lib.hid (by rw [Hq.out, if_neg hq])
        clear hq
        go_wp2_with fail
        refine (rnumber_any N w hb0 hb1).mono ?_
        rintro e w1 ⟨rfl, hw1⟩
        have Hw1 := Lib.hid hw1
        clear hw1
        go_wp2_with fail
        go_ret2
        exact ⟨by rw [Hr.out]; rfl, Hw1.out⟩

set_option maxHeartbeats 1600000 in
set_option maxRecDepth 100000 in
theorem rparse_any (s : ByteArray) (w : World) :
    Calls Tryd.prog 15 #[.string s] w fun e w' => e = .returned (parseV (Sp.parse s.data.toList)) ∧ Below w.heap.size w w' := by
  by_cases hs : s.size ≤ 20
  · by_cases hz : 0 < s.size
    · by_cases h0 : (s[0]'hz).toNat = 45
      · exact rparse_sign s w hs hz h0
      · exact rparse_plain s w hs (head_plain s fun _ => h0) fun _ => h0
    · exact rparse_plain s w hs (head_plain s fun h => absurd h hz) fun h => absurd h hz
  · rw [parse_long _ (by rw [Array.length_toList]; show 20 < s.size; omega)]
    have hl : (20 : Int) < (s.size : Int) := by omega
    clear hs
    go_enter Tryd.func15, Tryd.ntmps15
    go_wp2_with fail
    go_ret2
    exact ⟨rfl, Below.refl _ _⟩
end Go.Proofs.YtmodaefcipchpaaDoor

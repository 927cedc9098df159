/-
  How the document quotes a byte, and a text.
-/
import Derived.Test.YtmodaefcipchpaaQuote
import Derived.Lib.AppendStr
namespace Go.Proofs.Ytmodaefcipchpaa
open Go.RowKit

theorem below_drewN' {B : Nat} {w w' : World} (h : Below B w w') (n : Nat) : Below B w (w'.drewN n) := ⟨h.os, h.tape, h.output, h.size, h.block⟩

theorem qb_of (b : Nat) : (b = 34 ∨ b = 92 → Sp.qb b = [92, (b : Int)]) ∧ (b = 10 → Sp.qb b = [92, 110]) ∧ ((32 ≤ b ∧ b ≤ 126) → b ≠ 34 → b ≠ 92 → Sp.qb b = [(b : Int)])
    ∧ (b ≠ 10 → (b < 32 ∨ 126 < b) → Sp.qb b = [92, 120, hexd (b / 16), hexd (b % 16)]) := by
  unfold Sp.qb Sp.kind
  refine ⟨fun h => ?_, fun h => ?_, fun h h1 h2 => ?_, fun h h1 => ?_⟩
  · rw [if_neg (c := (97 ≤ b ∧ b ≤ 122) ∨ (65 ≤ b ∧ b ≤ 90)) (by omega), if_neg (c := (48 ≤ b ∧ b ≤ 57) ∨ b = 45 ∨ b = 46 ∨ b = 95) (by omega), if_neg (c := 32 ≤ b ∧ b ≤ 126 ∧ b ≠ 34 ∧ b ≠ 92) (by omega), if_pos (c := b = 34 ∨ b = 92) h]
    rfl
  · subst h; rfl
  · by_cases a1 : (97 ≤ b ∧ b ≤ 122) ∨ (65 ≤ b ∧ b ≤ 90)
    · rw [if_pos a1]; rfl
    · by_cases a2 : (48 ≤ b ∧ b ≤ 57) ∨ b = 45 ∨ b = 46 ∨ b = 95
      · rw [if_neg a1, if_pos a2]; rfl
      · rw [if_neg a1, if_neg a2, if_pos (c := 32 ≤ b ∧ b ≤ 126 ∧ b ≠ 34 ∧ b ≠ 92) (by omega)]; rfl
  · rw [if_neg (c := (97 ≤ b ∧ b ≤ 122) ∨ (65 ≤ b ∧ b ≤ 90)) (by omega), if_neg (c := (48 ≤ b ∧ b ≤ 57) ∨ b = 45 ∨ b = 46 ∨ b = 95) (by omega), if_neg (c := 32 ≤ b ∧ b ≤ 126 ∧ b ≠ 34 ∧ b ≠ 92) (by omega), if_neg (c := b = 34 ∨ b = 92) (by omega), if_neg (c := b = 10) h]
    rfl

theorem coded_all : ∀ m n : Fin 16, ((ByteArray.mk #[92, 120]) ++ (ByteArray.mk #[48, 49, 50, 51, 52, 53, 54, 55, 56, 57, 97, 98, 99, 100, 101, 102]).extract m.val (m.val + 1) ++ (ByteArray.mk #[48, 49, 50, 51, 52, 53, 54, 55, 56, 57, 97, 98, 99, 100, 101, 102]).extract n.val (n.val + 1)) = strOfNums [92, 120, hexd m.val, hexd n.val] := by decide +kernel
theorem coded_at (b : Int) (h0 : 0 ≤ b) (h1 : b < 256) : ((ByteArray.mk #[92, 120]) ++ (ByteArray.mk #[48, 49, 50, 51, 52, 53, 54, 55, 56, 57, 97, 98, 99, 100, 101, 102]).extract (b / 16).toNat (b / 16 + 1).toNat ++ (ByteArray.mk #[48, 49, 50, 51, 52, 53, 54, 55, 56, 57, 97, 98, 99, 100, 101, 102]).extract (b % 16).toNat (b % 16 + 1).toNat) = strOfNums [92, 120, hexd (b.toNat / 16), hexd (b.toNat % 16)] := by
  have := coded_all ⟨b.toNat / 16, by omega⟩ ⟨b.toNat % 16, by omega⟩
  rw [show (b / 16).toNat = b.toNat / 16 from by omega, show (b / 16 + 1).toNat = b.toNat / 16 + 1 from by omega, show (b % 16).toNat = b.toNat % 16 from by omega, show (b % 16 + 1).toNat = b.toNat % 16 + 1 from by omega]
  exact this

theorem ret_string {a b : ByteArray} (h : a = b) : Ending.returned (.string a) = .returned (.string b) := by rw [h]

set_option maxHeartbeats 800000 in
set_option maxRecDepth 100000 in
theorem rbyte_any (b : Int) (w : World) (hb0 : 0 ≤ b) (hb1 : b < 256) :
    Calls Try.prog 23 #[.int .u8 b] w fun e w' => e = .returned (.string (strOfNums (Sp.qb b.toNat))) ∧ Below w.heap.size w w' := by
  obtain ⟨q1, q2, q3, q4⟩ := qb_of b.toNat
  by_cases h34 : b = 34
  · subst h34
    have Q := Lib.hid (q1 (.inl rfl))
    clear q1 q2 q3 q4
    go_enter Try.func23, Try.ntmps23
    go_wp2_with fail
    go_ret
    exact ⟨by rw [Q.out]; rfl, Below.refl _ _⟩
  by_cases h92 : b = 92
  · subst h92
    have Q := Lib.hid (q1 (.inr rfl))
    clear q1 q2 q3 q4
    go_enter Try.func23, Try.ntmps23
    go_wp2_with fail
    go_ret
    exact ⟨by rw [Q.out]; rfl, Below.refl _ _⟩
  by_cases h10 : b = 10
  · subst h10
    have Q := Lib.hid (q2 rfl)
    clear q1 q2 q3 q4
    go_enter Try.func23, Try.ntmps23
    go_wp2_with fail
    go_ret
    exact ⟨by rw [Q.out]; rfl, Below.refl _ _⟩
  have t34 : (b == 34) = false := beq_eq_false_iff_ne.2 h34
  have t92 : (b == 92) = false := beq_eq_false_iff_ne.2 h92
  have t10 : (b == 10) = false := beq_eq_false_iff_ne.2 h10
  by_cases hp : 32 ≤ b ∧ b ≤ 126
  · have Q := Lib.hid (q3 (by omega) (by omega) (by omega))
    obtain ⟨hp1, hp2⟩ := hp
    have kc := fun (w : World) (a : Int) (cap : Nat) (t : TypeId) => conv1 w a cap t
    clear q1 q2 q3 q4 h34 h92 h10
    go_enter Try.func23, Try.ntmps23
    go_wp2_with fail
    go_ret
    exact ⟨by rw [Q.out]; simp [Int.toNat_of_nonneg hb0], (Below.refl _ _).alloc (Nat.le_refl _) _⟩
  · have Q := Lib.hid (q4 (by omega) (by omega))
    clear q1 q2 q3 q4 h34 h92 h10
    have l15 : b % 16 < 16 := by omega
    have l16 : b / 16 < 16 := by omega
    rcases (show b < 32 ∨ 126 < b by omega) with hp | hp
    all_goals
      go_enter Try.func23, Try.ntmps23
      go_wp2_with fail
      go_quiet (fail)
      go_wp2_with fail
      go_ret
      exact ⟨ret_string (by rw [Q.out]; exact coded_at b hb0 hb1), below_drewN' (Below.refl _ _) _⟩

theorem cells_nums (l : List Int) (h : ∀ x ∈ l, 0 ≤ x ∧ x < 256) : Lib.strCells (strOfNums l) = l.map (Value.int .u8) := by
  unfold Lib.strCells
  rw [strOfNums_data, List.map_map]
  apply List.map_congr_left
  intro x hx
  obtain ⟨h0, h1⟩ := h x hx
  simp only [Function.comp_apply, UInt8.toNat_ofNat']
  congr 1
  omega
theorem hexd_byte (n : Nat) (h : n < 16) : 0 ≤ hexd n ∧ hexd n < 256 := by
  unfold hexd
  by_cases h' : n < 10
  · rw [if_pos h']; omega
  · rw [if_neg h']; omega
theorem Sp.qb_byte (b : Nat) (h : b < 256) : ∀ x ∈ Sp.qb b, 0 ≤ x ∧ x < 256 := by
  have h1 := hexd_byte (b / 16) (by omega)
  have h2 := hexd_byte (b % 16) (by omega)
  unfold Sp.qb
  intro x hx
  by_cases k0 : Sp.kind b = 0
  · rw [if_pos k0] at hx; simp only [List.mem_cons, List.not_mem_nil, or_false] at hx; omega
  · rw [if_neg k0] at hx
    by_cases k1 : Sp.kind b = 1
    · rw [if_pos k1] at hx; simp only [List.mem_cons, List.not_mem_nil, or_false] at hx; omega
    · rw [if_neg k1] at hx
      by_cases k2 : Sp.kind b = 2
      · rw [if_pos k2] at hx; simp only [List.mem_cons, List.not_mem_nil, or_false] at hx; omega
      · rw [if_neg k2] at hx; simp only [List.mem_cons, List.not_mem_nil, or_false] at hx; omega

/-- a row of the call's own is kept where only new blocks are made -/
theorem ownsRow_below {w w' : World} {B : Nat} {e : TypeId} {size : Nat} {v : Value} {n : Nat} {xs : List Value} (h : w.ownsRow B e size v n xs) (hb : Below w.heap.size w w') : w'.ownsRow B e size v n xs := by
  refine ⟨h.1, ?_⟩
  rcases h.2 with h2 | ⟨g, cap, cur, hv, hg, hh, r⟩
  · exact .inl h2
  · exact .inr ⟨g, cap, cur, hv, hg, by rw [hb.block g (lt_of_block hh)]; exact hh, r⟩

/-- the text that the document quotes, byte by byte -/
theorem append_room (s : ByteArray) (k : Nat) : (Sp.qs s k).length + 4 ≤ 4 * k + 5 := by have := Sp.qs_len s k; omega

set_option maxHeartbeats 800000 in
set_option maxRecDepth 100000 in
theorem rquote_any (s : ByteArray) (w : World) (hs : s.size ≤ 16777216) :
    Calls Try.prog 17 #[.string s] w fun e w' => e = .returned (.string (strOfNums (Sp.quote s))) ∧ Below w.heap.size w w' := by
  obtain ⟨i0, hi, hz0, hz1, hz2⟩ := info_parts info8
  go_enter Try.func17, Try.ntmps17
  go_wp2_with fail
  have h0 : (w.alloc (.cells #[.int .u8 34] 5)).ownsRow w.heap.size 5 1 (.slice (some ⟨w.heap.size, 0, none⟩) 1 1) (Sp.qs s 0).length ((Sp.qs s 0).map (Value.int .u8)) :=
    ⟨rfl, .inr ⟨w.heap.size, 1, _, rfl, Nat.le_refl _, heap_alloc_last w _, Nat.le_refl _, by unfold maxLen; omega, rfl, rfl⟩⟩
  have H0 := Lib.hid h0
  clear h0
  go_loopw [3, 4] (fun v i wr => ∃ k : Nat, k ≤ s.size ∧ i = .int .i64 k ∧ wr.ownsRow w.heap.size 5 1 v (Sp.qs s k).length ((Sp.qs s k).map (Value.int .u8)) ∧ Below w.heap.size w wr) (fun _ i _ => s.size - (intOf i).toNat)
  case atStart => exact ⟨0, by omega, rfl, H0.out, (Below.refl _ _).alloc (Nat.le_refl _) _⟩
  case round =>
    obtain ⟨k, hk, rfl, hown, hb⟩ := hrel
    clear H0
    obtain ⟨va, vk, vc, rfl⟩ := owns_slice hown
    have hql := Sp.qs_len s k
    have hqb := Sp.qb_len (Sp.bt s k)
    have hsz := hb.size
    have Hb := Lib.hid hb
    clear hb
    by_cases hlt : k < s.size
    · have Hg := Lib.hid (Sp.bt_get s k hlt)
      have hlt8 : ((s[k]'hlt).toNat : Int) < 256 := by have := UInt8.toNat_lt (s[k]'hlt); omega
      have Ho := Lib.hid hown
      clear hown
      go_wp2_with fail
      refine (rbyte_any _ _ (by omega) hlt8).mono ?_
      rintro e w1 ⟨rfl, hb1⟩
      have hsz1 := hb1.size
      have hown1 := ownsRow_below Ho.out hb1
      have Hb1 := Lib.hid (Hb.out.trans (hb1.mono hsz))
      rw [Int.toNat_natCast, ← Hg.out]
      clear hb1
      go_wp2_with (first
        | (at_builtin; go_loud (refine Lib.wpList_append_own_string _ rfl (.tmp 12) (.tmp 16) 37 9 rfl w.heap.size 5 i0 under37 underStr hi hz0 hz1 hz2 (.slice va vk vc) (Sp.qs s k).length _ rfl hown1 (strOfNums (Sp.qb (Sp.bt s k))) rfl ?c1 ?c2 ?c3 ?_))
        | fail)
      case c1 => unfold maxLen; rw [strOfNums_size]; omega
      case c2 => rw [strOfNums_size]; omega
      case c3 => omega
      intro v2 w2 hown2 hg2 _
      obtain ⟨ua, uk, uc, rfl⟩ := owns_slice hown2
      rw [strOfNums_size, cells_nums _ (Sp.qb_byte _ (Sp.bt_lt s k)), ← List.map_append, ← List.length_append] at hown2
      have Hown2 := Lib.hid hown2
      have Hb2 := Lib.hid (Hb1.out.grown hg2 (by omega) (fun j hj => (hown1.lt j hj).1))
      clear hown2 hg2 hown1
      go_wp2_with fail
      go_roundw
      case rel => exact ⟨k + 1, by omega, by go_num, Hown2.out, Hb2.out⟩
      case measure => simp [intOf]; omega
    · have Hks : Hid (k = s.size) := by show _ = _; omega
      have Hfin : Hid (Sp.qs s k ++ [34] = Sp.quote s) := by
        show _ = _
        rw [Hks.out]; rfl
      have hownA := hown.alloc (.cells #[.int .u8 34] 5)
      have hva : ∀ j, (Value.slice va vk vc).ownBlock = some j → w.heap.size ≤ j := fun j hj => (hown.lt j hj).1
      have Ho := Lib.hid hownA
      clear hown hownA
      go_wp2_with (first
        | (at_builtin; go_loud (refine wpList_append_own _ rfl (.tmp 18) (.tmp 19) 37 rfl w.heap.size 5 i0 (.int .u8 0) 1 1 under37 hi hz0 hz1 hz2 rfl (by decide) (.slice va vk vc) (Sp.qs s k).length _ rfl Ho.out ⟨_, 0, none⟩ 1 1 [.int .u8 34] rfl rfl ?d1 ?d2 ?d3 ?d4 ?d5 ?_))
        | fail)
      case d1 =>
        intro j u hj
        have hj0 : j = 0 := by
          rcases Nat.eq_zero_or_pos j with h | h
          · exact h
          · rw [List.getElem?_eq_none (by simp; omega)] at hj; cases hj
        subst hj0
        simp only [List.getElem?_cons_zero, Option.some.injEq] at hj
        subst hj
        have hadd : (⟨wr.heap.size, 0, none⟩ : Addr).add 0 = ⟨wr.heap.size, 0, none⟩ := rfl
        rw [hadd, World.cell?_alloc_at _ _ _ _ rfl]; rfl
      case d2 => intro u hu; simp only [List.mem_cons, List.not_mem_nil, or_false] at hu; subst hu; rfl
      case d3 => unfold maxLen; omega
      case d4 => omega
      case d5 => simp; omega
      intro v2 w2 hown2 hg2 _
      obtain ⟨ua, uk, uc, rfl⟩ := owns_slice hown2
      have hcv := conv_owned w2 w.heap.size (.slice ua uk uc) (Sp.qs s k ++ [34]) (by rw [List.map_append, List.length_append]; exact hown2)
      rw [Hfin.out] at hcv
      have Hb2 := Lib.hid ((Hb.out.alloc hsz (.cells #[.int .u8 34] 5)).grown hg2 (by simp; omega) hva)
      clear hown2 hg2 hva
      go_wp2_with fail
      go_ret
      exact ⟨rfl, Hb2.out⟩
end Go.Proofs.Ytmodaefcipchpaa

/-
  The document's answers on keys: what stands behind, which stands ahead.
-/
import Derived.Test.YtfbdikaaeedeoaaDoorKLaw
namespace Go.Proofs.YtfbdikaaeedeoaaDoor
open Go.RowKit Go.Maps
set_option maxRecDepth 100000

theorem take_last (s : List UInt8) (k : Nat) (h : k < s.length) : s.take (k + 1) = s.take k ++ [s[k]] := List.take_succ_eq_append_getElem h
theorem byte_at (s : List UInt8) (k : Nat) (h : k < s.length) (b : UInt8) (hb : s[k] = b) (h' : k < (ByteArray.mk s.toArray).size) : (ByteArray.mk s.toArray)[k]'h' = b := by
  rw [← hb]
  show s.toArray[k] = s[k]
  rw [List.getElem_toArray]
set_option maxHeartbeats 1600000 in
theorem rafter_any (w : World) (s : List UInt8) (hm : s.length ≤ 900000000) :
    Calls Tryd.prog 19 #[bstr s] w fun e w' => e = .returned (bstr (Ky.after s)) ∧ Below w.heap.size w w' := by
  have hm' : (s.length : Int) ≤ 900000000 := by omega
  unfold bstr
  go_enter Tryd.func19, Tryd.ntmps19
  go_wp2_with fail
  go_loop [3] (fun x => ∃ n : Nat, n ≤ s.length ∧ x = .int .i64 n ∧ Hid (Ky.strip s = Ky.strip (s.take n))) (fun x => (intOf x).toNat)
  case atStart => exact ⟨s.length, Nat.le_refl _, rfl, Lib.hid (by rw [List.take_length])⟩
  case round =>
    obtain ⟨n, hn, rfl, hst⟩ := hrel
    rcases Nat.eq_zero_or_pos n with h0 | h0
    · subst h0
      have ha : Hid (Ky.after s = []) := Lib.hid (by unfold Ky.after; rw [hst.out]; rfl)
      go_wp2_with fail
      go_ret
      exact ⟨by rw [ha.out]; rfl, Below.refl _ _⟩
    · obtain ⟨k, rfl⟩ : ∃ k, n = k + 1 := ⟨n - 1, by omega⟩
      have hk : k < s.length := by omega
      obtain ⟨b, hb⟩ : ∃ b, s[k] = b := ⟨_, rfl⟩
      have hix := byte_at s k hk b hb
      have hst2 := hst.out
      rw [take_last s k hk, hb, Ky.strip_snoc] at hst2
      have hk' : (k : Int) < (s.length : Int) := by omega
      rw [show ((k + 1 : Nat) : Int) = (k : Int) + 1 by omega]
      clear hb hn h0
      by_cases hb : b = 255
      · subst hb
        rw [if_pos rfl] at hst2
        have HST := Lib.hid hst2
        clear hst2 hst
        go_wp2_with fail
        go_round
        case rel => exact ⟨k, by omega, rfl, HST⟩
        case measure => (simp [intOf]) <;> omega
      · rw [if_neg hb] at hst2
        have HA : Hid (Ky.after s = s.take k ++ [b + 1]) := Lib.hid (by unfold Ky.after; rw [hst2]; simp)
        have hb1 : ((b.toNat : Int) == 255) = false := (u8_eq' b 255).trans (decide_eq_false hb)
        have hb2 : (b.toNat : Int) < 255 := by
          have h1 := b.toNat_lt
          have h2 : b.toNat ≠ 255 := fun e => hb (UInt8.toNat_inj.1 (by rw [e]; rfl))
          omega
        have hn1 : (b.toNat : Int) + 1 = ((b + 1).toNat : Int) := by
          rw [UInt8.toNat_add, show (1 : UInt8).toNat = 1 from rfl]
          omega
        have hcv := conv_rd (w.alloc (.cells #[.int .u8 ((b.toNat : Int) + 1)] 5)).drew _ (some ⟨w.heap.size, 0, none⟩) [b + 1] 1 (rd_one w ((b.toNat : Int) + 1) (b + 1) hn1)
        rw [show ([b + 1] : List UInt8).length = 1 from rfl] at hcv
        have htk := str_take s k
        clear hst hst2 hb hn1
        unfold bstr at hcv
        go_upto_region 6 with fail
        clear hb1
        go_region
        all_goals (go_wp2; go_ret; exact ⟨by rw [HA.out, show (ByteArray.mk (s.take k ++ [b + 1]).toArray) = ByteArray.mk (s.take k).toArray ++ ByteArray.mk #[b + 1] from (str_app (s.take k) [b + 1]).symm]; rfl, ((Below.refl _ _).alloc (Nat.le_refl _) _).drew⟩)
set_option maxHeartbeats 3200000 in
theorem rcmp_any (w : World) (A1 A2 : Option Addr) (c1 c2 : Nat) (a b : List Ky.Part) (ha : RdP w w.heap.size A1 a) (hb : RdP w w.heap.size A2 b) (la : a.length ≤ 1048576) (lb : b.length ≤ 1048576) :
    Calls Tryd.prog 15 #[.slice A1 a.length c1, .slice A2 b.length c2] w fun e w' => e = .returned (.int .i64 (Ky.cmp a b)) ∧ Below w.heap.size w w' := by
  have HA := Lib.hid ha
  have HB := Lib.hid hb
  have la' : (a.length : Int) ≤ 1048576 := by omega
  have lb' : (b.length : Int) ≤ 1048576 := by omega
  clear ha hb
  go_enter Tryd.func15, Tryd.ntmps15
  go_wp2_with fail
  go_loopw [5] (fun i wr => ∃ k : Nat, k ≤ a.length ∧ k ≤ b.length ∧ i = .int .i64 k ∧ Hid (Ky.cmp a b = Ky.cmp (a.drop k) (b.drop k)) ∧ Hid (Below w.heap.size w wr)) (fun i _ => a.length - (intOf i).toNat)
  case atStart => exact ⟨0, by omega, by omega, rfl, Lib.hid rfl, Lib.hid (Below.refl _ _)⟩
  case round =>
    rename World => wr
    obtain ⟨k, hka, hkb, rfl, HC, HW⟩ := hrel
    by_cases hboth : k < a.length ∧ k < b.length
    · obtain ⟨hlt, hlb⟩ := hboth
      obtain ⟨g, o, rfl, hg, hcell⟩ := HA.out.below HW.out (Nat.le_refl _) (fun e => by rw [e] at hlt; exact absurd hlt (by simp))
      obtain ⟨p, hp⟩ : ∃ p, a[k]? = some p := ⟨_, List.getElem?_eq_getElem hlt⟩
      obtain ⟨x0, x1, x2⟩ := hcell k p hp
      obtain ⟨g2, o2, rfl, hg2, hcell2⟩ := HB.out.below HW.out (Nat.le_refl _) (fun e => by rw [e] at hlb; exact absurd hlb (by simp))
      obtain ⟨q, hq⟩ : ∃ q, b[k]? = some q := ⟨_, List.getElem?_eq_getElem hlb⟩
      obtain ⟨y0, y1, y2⟩ := hcell2 k q hq
      have HCD := Lib.hid (cmp_drop a b k p q hp hq)
      have hlt' : (k : Int) < (a.length : Int) := by omega
      have hlb' : (k : Int) < (b.length : Int) := by omega
      clear hcell hcell2 hp hq
      have HR : ∀ c : Int, c ≠ 0 → Ky.cmpPart p q = c → Hid (Ky.cmp a b = c) := fun c h0 hc => Lib.hid (by rw [HC.out, HCD.out, hc, if_neg h0])
      have HZ : Ky.cmpPart p q = 0 → Hid (Ky.cmp a b = Ky.cmp (a.drop (k + 1)) (b.drop (k + 1))) := fun hc => Lib.hid (by rw [HC.out, HCD.out, if_pos hc])
      have HRR := Lib.hid HR
      have HZZ := Lib.hid HZ
      have HKA := Lib.hid (And.intro hlt hlb)
      clear HR HZ hlt hlb
      obtain ⟨t, n, s⟩ := p
      obtain ⟨u, m, r⟩ := q
      unfold bstr at *
      simp only at x0 x1 x2 y0 y1 y2
      go_upto_region 4 with fail
      go_region_held3 (fun w' => (w'.cell? ⟨g, o + k * 3, none⟩ = some (.bool t) ∧ w'.cell? ⟨g, o + k * 3 + 1, none⟩ = some (.int .i64 n) ∧ w'.cell? ⟨g, o + k * 3 + 2, none⟩ = some (.string ⟨s.toArray⟩)) ∧ (w'.cell? ⟨g2, o2 + k * 3, none⟩ = some (.bool u) ∧ w'.cell? ⟨g2, o2 + k * 3 + 1, none⟩ = some (.int .i64 m) ∧ w'.cell? ⟨g2, o2 + k * 3 + 2, none⟩ = some (.string ⟨r.toArray⟩))) (go_keep) (fail)
      all_goals
        cases t <;> cases u
        · rcases Int.lt_trichotomy n m with h | h | h
          · have HE := HRR.out (-1) (by decide) (by unfold Ky.cmpPart Ky.cmpI; simp [h])
            go_wp2_with fail
            go_ret
            exact ⟨by rw [HE.out]; rfl, ((HW.out.alloc HW.out.size _).alloc (by have := HW.out.size; simp; omega) _).drew⟩
          · subst h
            have HE := HZZ.out (by unfold Ky.cmpPart Ky.cmpI; simp)
            go_wp2_with fail
            go_roundw
            case rel => exact ⟨k + 1, by have := HKA.out; omega, by have := HKA.out; omega, by go_num, HE, Lib.hid ((HW.out.alloc HW.out.size _).alloc (by have := HW.out.size; simp; omega) _).drew⟩
            case measure => (simp [intOf]) <;> omega
          · have h2 : ¬ n < m := by omega
            have HE := HRR.out 1 (by decide) (by unfold Ky.cmpPart Ky.cmpI; simp [h, h2])
            go_wp2_with fail
            go_ret
            exact ⟨by rw [HE.out]; rfl, ((HW.out.alloc HW.out.size _).alloc (by have := HW.out.size; simp; omega) _).drew⟩
        · have HE := HRR.out (-1) (by decide) (by unfold Ky.cmpPart; simp)
          go_wp2_with fail
          go_ret
          exact ⟨by rw [HE.out]; rfl, ((HW.out.alloc HW.out.size _).alloc (by have := HW.out.size; simp; omega) _).drew⟩
        · have HE := HRR.out 1 (by decide) (by unfold Ky.cmpPart; simp)
          go_wp2_with fail
          go_ret
          exact ⟨by rw [HE.out]; rfl, ((HW.out.alloc HW.out.size _).alloc (by have := HW.out.size; simp; omega) _).drew⟩
        · rcases Tr.lt_total s r with h | h | h
          · have HE := HRR.out (-1) (by decide) (by unfold Ky.cmpPart Ky.cmpS; simp [h])
            have h1 : Op.bytesLess s r = true := h
            clear h
            go_wp2_with fail
            go_ret
            exact ⟨by rw [HE.out]; rfl, ((HW.out.alloc HW.out.size _).alloc (by have := HW.out.size; simp; omega) _).drew⟩
          · subst h
            have HE := HZZ.out (by unfold Ky.cmpPart Ky.cmpS; simp [Tr.lt_irrefl])
            have h1 : Op.bytesLess s s = false := Tr.lt_irrefl s
            go_wp2_with fail
            go_roundw
            case rel => exact ⟨k + 1, by have := HKA.out; omega, by have := HKA.out; omega, by go_num, HE, Lib.hid ((HW.out.alloc HW.out.size _).alloc (by have := HW.out.size; simp; omega) _).drew⟩
            case measure => (simp [intOf]) <;> omega
          · have h1 : Op.bytesLess s r = false := Tr.lt_asymm h
            have h2 : Op.bytesLess r s = true := h
            have hn : (s == r) = false := beq_false_of_ne fun e => by subst e; rw [Tr.lt_irrefl] at h; cases h
            have HE := HRR.out 1 (by decide) (by unfold Ky.cmpPart Ky.cmpS; simp [h, show Tr.lt s r = false from h1])
            clear h
            go_wp2_with fail
            go_ret
            exact ⟨by rw [HE.out]; rfl, ((HW.out.alloc HW.out.size _).alloc (by have := HW.out.size; simp; omega) _).drew⟩
    · by_cases hlt : k < a.length
      · have hlb : ¬ k < b.length := fun h => hboth ⟨hlt, h⟩
        have HE : Hid (Ky.cmp a b = 1) := Lib.hid (by
          rw [HC.out, show b.drop k = [] from List.drop_eq_nil_of_le (by omega), List.drop_eq_getElem_cons hlt]
          rfl)
        have h1 : (k : Int) < (a.length : Int) := by omega
        have h2 : ¬ ((k : Int) < (b.length : Int)) := by omega
        have h3 : ¬ ((a.length : Int) < (b.length : Int)) := by omega
        have h4 : (b.length : Int) < (a.length : Int) := by omega
        clear hboth
        go_wp2_with fail
        go_ret
        exact ⟨by rw [HE.out]; rfl, HW.out⟩
      · have h1 : ¬ ((k : Int) < (a.length : Int)) := by omega
        by_cases hll : a.length < b.length
        · have HE : Hid (Ky.cmp a b = -1) := Lib.hid (by
            rw [HC.out, show a.drop k = [] from List.drop_eq_nil_of_le (by omega), List.drop_eq_getElem_cons (show k < b.length by omega)]
            rfl)
          clear hboth
          go_wp2_with fail
          go_ret
          exact ⟨by rw [HE.out]; rfl, HW.out⟩
        · have HE : Hid (Ky.cmp a b = 0) := Lib.hid (by
            rw [HC.out, show a.drop k = [] from List.drop_eq_nil_of_le (by omega), show b.drop k = [] from List.drop_eq_nil_of_le (by omega)]
            rfl)
          have h2 : ¬ ((b.length : Int) < (a.length : Int)) := by omega
          clear hboth
          go_wp2_with fail
          go_ret
          exact ⟨by rw [HE.out]; rfl, HW.out⟩
end Go.Proofs.YtfbdikaaeedeoaaDoor

/-
  Keys are held against each other.
-/
import Derived.Test.YtfbdikaaeedeoaaDoorKPack
namespace Go.Proofs.YtfbdikaaeedeoaaDoor
open Go.RowKit Go.Maps
set_option maxRecDepth 100000

theorem cmpStr_any (w : World) (a b : List UInt8) : Calls Tryd.prog 49 #[bstr a, bstr b] w fun e w' => e = .returned (.int .i64 (Ky.cmpS a b)) ∧ w = w' := by
  unfold bstr Ky.cmpS
  rcases Tr.lt_total a b with h | h | h
  · have h1 : Op.bytesLess a b = true := h
    rw [if_pos h]
    clear h
    go_enter Tryd.func49, Tryd.ntmps49
    go_wp2
    go_ret
    exact ⟨rfl, rfl⟩
  · subst h
    have h1 : Op.bytesLess a a = false := Tr.lt_irrefl a
    rw [if_neg (by rw [Tr.lt_irrefl]; decide), if_neg (by rw [Tr.lt_irrefl]; decide)]
    go_enter Tryd.func49, Tryd.ntmps49
    go_wp2
    go_ret
    exact ⟨rfl, rfl⟩
  · have h1 : Op.bytesLess a b = false := Tr.lt_asymm h
    have h2 : Op.bytesLess b a = true := h
    have hn : (a == b) = false := beq_false_of_ne fun e => by subst e; rw [Tr.lt_irrefl] at h; cases h
    rw [if_neg (by rw [show Tr.lt a b = Op.bytesLess a b from rfl, h1]; decide), if_pos h]
    clear h
    go_enter Tryd.func49, Tryd.ntmps49
    go_wp2
    go_ret
    exact ⟨rfl, rfl⟩
theorem cmpInt_any (w : World) (a b : Int) : Calls Tryd.prog 50 #[.int .i64 a, .int .i64 b] w fun e w' => e = .returned (.int .i64 (Ky.cmpI a b)) ∧ w = w' := by
  unfold Ky.cmpI
  by_cases h : a < b
  · rw [if_pos h]
    go_enter Tryd.func50, Tryd.ntmps50
    go_wp2
    go_ret
    exact ⟨rfl, rfl⟩
  · rw [if_neg h]
    by_cases h2 : b < a
    · rw [if_pos h2]
      go_enter Tryd.func50, Tryd.ntmps50
      go_wp2
      go_ret
      exact ⟨rfl, rfl⟩
    · rw [if_neg h2]
      go_enter Tryd.func50, Tryd.ntmps50
      go_wp2
      go_ret
      exact ⟨rfl, rfl⟩
set_option maxHeartbeats 800000 in
theorem against_any (w : World) (p q : Ky.Part) : Calls Tryd.prog 38 #[partV p, partV q] w fun e w' => e = .returned (.int .i64 (Ky.cmpPart p q)) ∧ Below w.heap.size w w' := by
  obtain ⟨t, n, s⟩ := p
  obtain ⟨u, m, r⟩ := q
  have HB := Lib.hid (((Below.refl w.heap.size w).alloc (Nat.le_refl _) (.cells #[.bool t, .int .i64 n, bstr s] 38)).alloc (by simp) (.cells #[.bool u, .int .i64 m, bstr r] 38))
  have HS := Lib.hid (fun W => cmpStr_any W s r)
  have HI := Lib.hid (fun W => cmpInt_any W n m)
  unfold partV Ky.cmpPart bstr at *
  cases t <;> cases u
  all_goals
    go_enter Tryd.func38, Tryd.ntmps38
    go_wp2_with fail
  · refine (HI.out _).mono ?_
    rintro e w' ⟨rfl, rfl⟩
    go_wp2_with fail
    go_ret
    exact ⟨rfl, HB.out⟩
  · go_ret
    exact ⟨rfl, HB.out⟩
  · go_ret
    exact ⟨rfl, HB.out⟩
  · refine (HS.out _).mono ?_
    rintro e w' ⟨rfl, rfl⟩
    go_wp2_with fail
    go_ret
    exact ⟨rfl, HB.out⟩
theorem cmp_drop (a b : List Ky.Part) (k : Nat) (p q : Ky.Part) (h1 : a[k]? = some p) (h2 : b[k]? = some q) : Ky.cmp (a.drop k) (b.drop k) = if Ky.cmpPart p q = 0 then Ky.cmp (a.drop (k + 1)) (b.drop (k + 1)) else Ky.cmpPart p q := by
  obtain ⟨l1, e1⟩ := List.getElem?_eq_some_iff.1 h1
  obtain ⟨l2, e2⟩ := List.getElem?_eq_some_iff.1 h2
  rw [List.drop_eq_getElem_cons l1, List.drop_eq_getElem_cons l2, e1, e2, Ky.cmp]
set_option maxHeartbeats 1600000 in
theorem compareFunc_any (w : World) (A1 A2 : Option Addr) (c1 c2 : Nat) (a b : List Ky.Part) (ha : RdP w w.heap.size A1 a) (hb : RdP w w.heap.size A2 b) (la : a.length ≤ 1000000) (lb : b.length ≤ 1000000) :
    Calls Tryd.prog 37 #[.slice A1 a.length c1, .slice A2 b.length c2, .func (.func 38) #[] #[]] w fun e w' => e = .returned (.int .i64 (Ky.cmp a b)) ∧ Below w.heap.size w w' := by
  have HA := Lib.hid ha
  have HB := Lib.hid hb
  have la' : (a.length : Int) ≤ 1000000 := by omega
  have lb' : (b.length : Int) ≤ 1000000 := by omega
  clear ha hb
  go_enter Tryd.func37, Tryd.ntmps37
  go_wp2_with fail
  go_loopw [13] (fun i wr => ∃ k : Nat, k ≤ a.length ∧ k ≤ b.length ∧ i = .int .i64 k ∧ Hid (Ky.cmp a b = Ky.cmp (a.drop k) (b.drop k)) ∧ Hid (Below w.heap.size w wr)) (fun i _ => a.length - (intOf i).toNat)
  case atStart => exact ⟨0, by omega, by omega, rfl, Lib.hid rfl, Lib.hid (Below.refl _ _)⟩
  case round =>
    rename World => wr
    obtain ⟨k, hka, hkb, rfl, HC, HW⟩ := hrel
    by_cases hlt : k < a.length
    · obtain ⟨g, o, rfl, hg, hcell⟩ := HA.out.below HW.out (Nat.le_refl _) (fun e => by rw [e] at hlt; exact absurd hlt (by simp))
      obtain ⟨p, hp⟩ : ∃ p, a[k]? = some p := ⟨_, List.getElem?_eq_getElem hlt⟩
      obtain ⟨x0, x1, x2⟩ := hcell k p hp
      have HP := Lib.hid hp
      have HW1 : Hid (Below w.heap.size w (wr.alloc (.cells #[.bool p.text, .int .i64 p.n, bstr p.say] 38))) := Lib.hid (HW.out.alloc HW.out.size _)
      have hh1 := Has.of_alloc wr 38 #[.bool p.text, .int .i64 p.n, bstr p.say]
      have HZ1 : Hid ((wr.alloc (.cells #[.bool p.text, .int .i64 p.n, bstr p.say] 38)).heap.size = wr.heap.size + 1) := Lib.hid (by simp)
      clear hcell hp
      unfold bstr at *
      by_cases hlb : k < b.length
      · obtain ⟨g2, o2, rfl, hg2, hcell2⟩ := HB.out.below HW1.out (Nat.le_refl _) (fun e => by rw [e] at hlb; exact absurd hlb (by simp))
        obtain ⟨q, hq⟩ : ∃ q, b[k]? = some q := ⟨_, List.getElem?_eq_getElem hlb⟩
        obtain ⟨y0, y1, y2⟩ := hcell2 k q hq
        have HQ := Lib.hid hq
        have HH1 := Lib.hid hh1
        have HLB := Lib.hid hlb
        have hlb' : decide (b.length ≤ k) = false := decide_eq_false (by omega)
        clear hcell2 hq hh1 hlb
        unfold bstr at *
        have hh2 := Has.of_alloc (wr.alloc (.cells #[.bool p.text, .int .i64 p.n, .string ⟨p.say.toArray⟩] 38)) 38 #[.bool q.text, .int .i64 q.n, .string ⟨q.say.toArray⟩]
        have HW2 : Hid (Below w.heap.size w ((wr.alloc (.cells #[.bool p.text, .int .i64 p.n, .string ⟨p.say.toArray⟩] 38)).alloc (.cells #[.bool q.text, .int .i64 q.n, .string ⟨q.say.toArray⟩] 38))) := Lib.hid (HW1.out.alloc HW1.out.size _)
        have HG := Lib.hid (against_any ((wr.alloc (.cells #[.bool p.text, .int .i64 p.n, .string ⟨p.say.toArray⟩] 38)).alloc (.cells #[.bool q.text, .int .i64 q.n, .string ⟨q.say.toArray⟩] 38)) p q)
        unfold partV bstr at HG
        have HCD := Lib.hid (cmp_drop a b k p q HP.out HQ.out)
        clear hh2
        go_wp2_with fail
        refine HG.out.mono ?_
        rintro e w3 ⟨rfl, hb3⟩
        have HW3 : Hid (Below w.heap.size w w3) := Lib.hid (HW2.out.trans (hb3.mono HW2.out.size))
        clear hb3
        by_cases hc : Ky.cmpPart p q = 0
        · have HE : Hid (Ky.cmp a b = Ky.cmp (a.drop (k + 1)) (b.drop (k + 1))) := Lib.hid (by rw [HC.out, HCD.out, if_pos hc])
          rw [hc]
          clear hc
          go_wp2_with fail
          go_roundw
          case rel => exact ⟨k + 1, by omega, by have := HLB.out; omega, by go_num, HE, HW3⟩
          case measure => (simp [intOf]) <;> omega
        · have HE : Hid (Ky.cmp a b = Ky.cmpPart p q) := Lib.hid (by rw [HC.out, HCD.out, if_neg hc])
          have hne : (Ky.cmpPart p q != 0) = true := by simpa using hc
          clear hc
          go_wp2_with fail
          go_ret
          exact ⟨by rw [HE.out]; rfl, HW3.out⟩
      · have hlb' : decide (b.length ≤ k) = true := decide_eq_true (by omega)
        have HE : Hid (Ky.cmp a b = 1) := Lib.hid (by
          rw [HC.out, show b.drop k = [] from List.drop_eq_nil_of_le (by omega), List.drop_eq_getElem_cons hlt]
          rfl)
        clear hlb hh1
        go_wp2_with fail
        go_ret
        exact ⟨by rw [HE.out]; rfl, HW1.out⟩
    · by_cases hll : a.length < b.length
      · have HE : Hid (Ky.cmp a b = -1) := Lib.hid (by
          rw [HC.out, show a.drop k = [] from List.drop_eq_nil_of_le (by omega), List.drop_eq_getElem_cons (show k < b.length by omega)]
          rfl)
        go_wp2_with fail
        go_ret
        exact ⟨by rw [HE.out]; rfl, HW.out⟩
      · have HE : Hid (Ky.cmp a b = 0) := Lib.hid (by
          rw [HC.out, show a.drop k = [] from List.drop_eq_nil_of_le (by omega), show b.drop k = [] from List.drop_eq_nil_of_le (by omega)]
          rfl)
        go_wp2_with fail
        go_ret
        exact ⟨by rw [HE.out]; rfl, HW.out⟩
theorem kcmp_any (w : World) (A1 A2 : Option Addr) (c1 c2 : Nat) (a b : List Ky.Part) (ha : RdP w w.heap.size A1 a) (hb : RdP w w.heap.size A2 b) (la : a.length ≤ 1000000) (lb : b.length ≤ 1000000) :
    Calls Tryd.prog 14 #[.slice A1 a.length c1, .slice A2 b.length c2] w fun e w' => e = .returned (.int .i64 (Ky.cmp a b)) ∧ Below w.heap.size w w' := by
  have H := Lib.hid (compareFunc_any w A1 A2 c1 c2 a b ha hb la lb)
  go_enter Tryd.func14, Tryd.ntmps14
  go_wp2_with fail
  refine H.out.mono ?_
  rintro e w2 ⟨rfl, hb2⟩
  have HB2 := Lib.hid hb2
  clear hb2
  go_wp2_with fail
  go_ret
  exact ⟨rfl, HB2.out⟩
end Go.Proofs.YtfbdikaaeedeoaaDoor

/-
  Are two lists of items the same, as the program has it?
-/
import Derived.Test.YtfbdikaaeedeoaaDoorKGiven
namespace Go.Proofs.YtfbdikaaeedeoaaDoor
open Go.RowKit Go.Maps
open Ky (Its)
set_option maxRecDepth 100000

/-- the same items, where no list is deeper than the program looks -/
def Ky.sameD (deep : Nat) : Its → Its → Bool
  | .nil, .nil => true
  | .cons k n s sub r, .cons k' n' s' sub' r' => (decide (k = k') && decide (n = n') && decide (s = s') && (if 65536 < deep + 1 then false else Ky.sameD (deep + 1) sub sub')) && Ky.sameD deep r r'
  | .nil, .cons _ _ _ _ _ => false
  | .cons _ _ _ _ _, .nil => false
def Ky.sameA (deep : Nat) (a b : Its) : Bool := if 65536 < deep then false else Ky.sameD deep a b
theorem Ky.sameD_len (deep : Nat) : ∀ a b : Its, a.len ≠ b.len → Ky.sameD deep a b = false
  | .nil, .nil, h => absurd rfl h
  | .nil, .cons _ _ _ _ _, _ => rfl
  | .cons _ _ _ _ _, .nil, _ => rfl
  | .cons k n s sub r, .cons k' n' s' sub' r', h => by
    rw [Ky.sameD, Ky.sameD_len deep r r' (fun e => h (by simp only [Its.len]; omega)), Bool.and_false]
set_option maxHeartbeats 1600000 in
theorem same1_any (w : World) (D deep : Nat) (k k' : UInt8) (n n' : Int) (s s' : List UInt8) (A A' : Option Addr) (m c m' c' : Nat) (b : Bool) (hD : w.cell? ⟨D, 0, none⟩ = some (.int .i64 (deep : Int))) (hdl : D < w.heap.size) (hd : deep ≤ 65536)
    (H : ∀ W, Below w.heap.size w W → Calls Tryd.prog 43 #[.slice A m c, .slice A' m' c', .int .i64 ((deep : Int) + 1)] W fun e W' => e = .returned (.bool b) ∧ Below W.heap.size W W') :
    Calls Tryd.prog 58 #[itemV k n s A m c, itemV k' n' s' A' m' c', .pointer (some ⟨D, 0, none⟩)] w fun e w' => e = .returned (.bool (decide (k = k') && decide (n = n') && decide (s = s') && b)) ∧ Below w.heap.size w w' := by
  have hd' : (deep : Int) ≤ 65536 := by omega
  have hB1 : Below w.heap.size w (w.alloc (.cells #[.int .u8 (k.toNat : Int), .int .i64 n, bstr s, .slice A m c] 62)) := (Below.refl _ _).alloc (Nat.le_refl _) _
  have HB := Lib.hid (hB1.alloc hB1.size (.cells #[.int .u8 (k'.toNat : Int), .int .i64 n', bstr s', .slice A' m' c'] 62))
  have hDD := HB.out.cell (p := ⟨D, 0, none⟩) hdl
  rw [hD] at hDD
  have HH := Lib.hid H
  clear H hB1
  have e1 := u8_eq k k'
  unfold itemV bstr at *
  by_cases h1 : k = k'
  · rw [decide_eq_true h1] at e1 ⊢
    by_cases h2 : n = n'
    · rw [decide_eq_true h2]
      by_cases h3 : s = s'
      · rw [decide_eq_true h3]
        subst h3 h2
        clear h1
        go_enter Tryd.func58, Tryd.ntmps58
        go_wp2_with fail
        refine (HH.out _ HB.out).mono ?_
        rintro e w2 ⟨rfl, hb⟩
        have HB2 := Lib.hid (HB.out.trans (hb.mono HB.out.size))
        clear hb
        go_wp2_with fail
        go_ret
        exact ⟨by simp, HB2.out⟩
      · rw [decide_eq_false h3]
        have e3 : (s == s') = false := beq_false_of_ne h3
        subst h2
        clear h1 h3
        go_enter Tryd.func58, Tryd.ntmps58
        go_wp2_with fail
        go_ret
        exact ⟨by simp, HB.out⟩
    · rw [decide_eq_false h2]
      have e2 : (n == n') = false := beq_false_of_ne h2
      clear h1 h2
      go_enter Tryd.func58, Tryd.ntmps58
      go_wp2_with fail
      go_ret
      exact ⟨by simp, HB.out⟩
  · rw [decide_eq_false h1] at e1 ⊢
    clear h1
    go_enter Tryd.func58, Tryd.ntmps58
    go_wp2_with fail
    go_ret
    exact ⟨by simp, HB.out⟩
set_option maxHeartbeats 3200000 in
theorem equalFunc_any (w : World) (D deep : Nat) (a b : Its) (A A' : Option Addr) (c c' : Nat) (hD : w.cell? ⟨D, 0, none⟩ = some (.int .i64 (deep : Int))) (hdl : D < w.heap.size) (hd : deep ≤ 65536) (ha : SlAt w w.heap.size A a) (hb : SlAt w w.heap.size A' b) (la : a.len ≤ 10000000) (lb : b.len ≤ 10000000)
    (H : ∀ (sub sub' : Its) (A A' : Option Addr) (c c' : Nat) (W : World), sub.size < a.size → sub.weight ≤ a.weight → sub'.weight ≤ b.weight → SlAt W W.heap.size A sub → SlAt W W.heap.size A' sub' → Calls Tryd.prog 43 #[.slice A sub.len c, .slice A' sub'.len c', .int .i64 ((deep : Int) + 1)] W fun e W' => e = .returned (.bool (Ky.sameA (deep + 1) sub sub')) ∧ Below W.heap.size W W') :
    Calls Tryd.prog 57 #[.slice A a.len c, .slice A' b.len c', .func (.func 58) #[] #[.pointer (some ⟨D, 0, none⟩)]] w fun e w' => e = .returned (.bool (Ky.sameD deep a b)) ∧ Below w.heap.size w w' := by
  have la' : (a.len : Int) ≤ 10000000 := by omega
  have lb' : (b.len : Int) ≤ 10000000 := by omega
  have HH := Lib.hid H
  have HA := Lib.hid (IRel.start ha)
  have HB := Lib.hid (IRel.start hb)
  have HD := Lib.hid hD
  have HDL := Lib.hid hdl
  have HDD := Lib.hid hd
  clear ha hb hD H hdl hd
  by_cases hl : a.len = b.len
  · have HL := Lib.hid hl
    rw [← hl]
    clear hl lb'
    go_enter Tryd.func57, Tryd.ntmps57
    go_wp2_with fail
    go_loopw [17] (fun i wr => ∃ (j : Nat) (r r' : Its), i = .int .i64 j ∧ Hid (IRel w.heap.size wr A a j r) ∧ Hid (IRel w.heap.size wr A' b j r') ∧ Hid (Ky.sameD deep a b = Ky.sameD deep r r') ∧ Hid (Below w.heap.size w wr)) (fun i _ => a.len - (intOf i).toNat)
    case atStart => exact ⟨0, a, b, rfl, HA, HB, Lib.hid rfl, Lib.hid (Below.refl _ _)⟩
    case round =>
      rename World => wr
      obtain ⟨j, r, r', rfl, hr, hr', HE, HW⟩ := hrel
      cases r with
      | nil =>
        have hj : j = a.len := by have := hr.out.1; simpa [Its.len] using this
        have hrn : r' = .nil := by
          cases r' with
          | nil => rfl
          | cons k n s sub r => have := hr'.out.1; have := HL.out; simp only [Its.len] at *; omega
        subst hj
        have HF : Hid (Ky.sameD deep a b = true) := Lib.hid (by rw [HE.out, hrn]; rfl)
        clear hrn
        go_wp2_with fail
        go_ret
        exact ⟨by rw [HF.out]; rfl, HW.out⟩
      | cons k n s sub r =>
        have hlt : (j : Int) < (a.len : Int) := by have := hr.out.1; simp only [Its.len] at this; omega
        cases r' with
        | nil =>
          have h1 := hr.out.1
          have h2 := hr'.out.1
          have h3 := HL.out
          simp only [Its.len] at h1 h2
          omega
        | cons k' n' s' sub' r' =>
          obtain ⟨g, o, rfl, hg, x0, x1, x2, ⟨As, cs, x3, hsub⟩, hat⟩ := hr.out.2.2.2 (by simp)
          have HW1 : Hid (Below w.heap.size w (wr.alloc (.cells #[.int .u8 (k.toNat : Int), .int .i64 n, bstr s, .slice As sub.len cs] 62))) := Lib.hid (HW.out.alloc HW.out.size _)
          have HW1' : Hid (Below wr.heap.size wr (wr.alloc (.cells #[.int .u8 (k.toNat : Int), .int .i64 n, bstr s, .slice As sub.len cs] 62))) := Lib.hid ((Below.refl _ _).alloc (Nat.le_refl _) _)
          have hr2 := hr'.out.below HW1'.out HW.out.size
          obtain ⟨g2, o2, rfl, hg2, y0, y1, y2, ⟨As2, cs2, y3, hsub2⟩, hat2⟩ := hr2.2.2.2 (by simp)
          have HR2 := Lib.hid hr2
          clear hr2
          have HW2' : Hid (Below wr.heap.size wr ((wr.alloc (.cells #[.int .u8 (k.toNat : Int), .int .i64 n, bstr s, .slice As sub.len cs] 62)).alloc (.cells #[.int .u8 (k'.toNat : Int), .int .i64 n', bstr s', .slice As2 sub'.len cs2] 62))) := Lib.hid (HW1'.out.alloc HW1'.out.size _)
          have HW2 : Hid (Below w.heap.size w ((wr.alloc (.cells #[.int .u8 (k.toNat : Int), .int .i64 n, bstr s, .slice As sub.len cs] 62)).alloc (.cells #[.int .u8 (k'.toNat : Int), .int .i64 n', bstr s', .slice As2 sub'.len cs2] 62))) := Lib.hid (HW1.out.alloc HW1.out.size _)
          have HSUB : Hid (SlAt wr w.heap.size As sub) := Lib.hid hsub
          have HSUB2 : Hid (SlAt (wr.alloc (.cells #[.int .u8 (k.toNat : Int), .int .i64 n, bstr s, .slice As sub.len cs] 62)) w.heap.size As2 sub') := Lib.hid hsub2
          have HAT := Lib.hid hat
          have HAT2 := Lib.hid hat2
          clear hsub hsub2 hat hat2
          have HG := Lib.hid (same1_any _ D deep k k' n n' s s' As As2 sub.len cs sub'.len cs2 (Ky.sameA (deep + 1) sub sub') ((HW2.out.cell (p := ⟨D, 0, none⟩) HDL.out).trans HD.out) (by have := HW2.out.size; have := HDL.out; omega) HDD.out (fun W hW => HH.out sub sub' As As2 cs cs2 W (by have := hr.out.2.1; simp only [Its.size] at this; omega) (by have := hr.out.2.2.1; simp only [Its.weight] at this; omega) (by have := hr'.out.2.2.1; simp only [Its.weight] at this; omega) ((HSUB.out.below (HW2'.out.trans (hW.mono HW2'.out.size)) HW.out.size).more (by have := HW2.out.size; have := hW.size; omega)) ((HSUB2.out.below (((Below.refl _ _).alloc (Nat.le_refl _) _).trans (hW.mono (by simp))) HW1.out.size).more (by have := HW2.out.size; have := hW.size; omega))))
          unfold itemV bstr at *
          have HSD : Hid (Ky.sameD deep (.cons k n s sub r) (.cons k' n' s' sub' r') = ((decide (k = k') && decide (n = n') && decide (s = s') && Ky.sameA (deep + 1) sub sub') && Ky.sameD deep r r')) := Lib.hid rfl
          generalize (decide (k = k') && decide (n = n') && decide (s = s') && Ky.sameA (deep + 1) sub sub') = v at *
          have hjb : (j : Int) ≤ 10000000 := by omega
          go_wp2_with fail
          refine HG.out.mono ?_
          rintro e w3 ⟨rfl, hb3⟩
          have HW3' : Hid (Below wr.heap.size wr w3) := Lib.hid (HW2'.out.trans (hb3.mono HW2'.out.size))
          have HW3 : Hid (Below w.heap.size w w3) := Lib.hid (HW2.out.trans (hb3.mono HW2.out.size))
          have HB23 : Hid (Below (wr.alloc (.cells #[.int .u8 (k.toNat : Int), .int .i64 n, .string ⟨s.toArray⟩, .slice As sub.len cs] 62)).heap.size (wr.alloc (.cells #[.int .u8 (k.toNat : Int), .int .i64 n, .string ⟨s.toArray⟩, .slice As sub.len cs] 62)) w3) := Lib.hid (((Below.refl _ _).alloc (Nat.le_refl _) _).trans (hb3.mono (by simp)))
          clear hb3
          cases v with
          | true =>
            have HX := Lib.hid (IRel.next hr.out hg (HAT.out.below hg HW3'.out HW.out.size))
            have HX2 := Lib.hid (IRel.next HR2.out hg2 (HAT2.out.below hg2 (HB23.out.mono (Nat.le_refl _)) HW1.out.size))
            go_wp2_with fail
            go_roundw
            case rel => exact ⟨j + 1, r, r', by go_num, HX, HX2, Lib.hid (by rw [HE.out, HSD.out]; rfl), HW3⟩
            case measure => (simp [intOf]) <;> omega
          | false =>
            have HF : Hid (Ky.sameD deep a b = false) := Lib.hid (by rw [HE.out, HSD.out]; rfl)
            go_wp2_with fail
            go_ret
            exact ⟨by rw [HF.out]; rfl, HW3.out⟩
  · have hl' : ((a.len : Int) == (b.len : Int)) = false := by simp; omega
    have HE := Lib.hid (Ky.sameD_len deep a b hl)
    clear hl
    go_enter Tryd.func57, Tryd.ntmps57
    go_wp2_with fail
    go_ret
    exact ⟨by rw [HE.out]; rfl, Below.refl _ _⟩
theorem sameAll_any (N : Nat) : ∀ (a b : Its) (w : World) (A A' : Option Addr) (c c' deep : Nat), a.size < N → a.weight ≤ 10000000 → b.weight ≤ 10000000 → deep ≤ 65537 → SlAt w w.heap.size A a → SlAt w w.heap.size A' b →
    Calls Tryd.prog 43 #[.slice A a.len c, .slice A' b.len c', .int .i64 (deep : Int)] w fun e w' => e = .returned (.bool (Ky.sameA deep a b)) ∧ Below w.heap.size w w' := by
  induction N with
  | zero => intro a b w A A' c c' deep hN; omega
  | succ N ih =>
    intro a b w A A' c c' deep hN hwa hwb hd ha hb
    have HB1 : Hid (Below w.heap.size w (w.alloc (.cells #[.int .i64 (deep : Int)] 3))) := Lib.hid ((Below.refl _ _).alloc (Nat.le_refl _) _)
    have c0 : (w.alloc (.cells #[.int .i64 (deep : Int)] 3)).cell? ⟨w.heap.size, 0, none⟩ = some (.int .i64 (deep : Int)) := (Has.of_alloc w 3 #[.int .i64 (deep : Int)]).cell 0
    have HIH := Lib.hid ih
    have HN := Lib.hid hN
    have HA := Lib.hid ha
    have HB := Lib.hid hb
    have HWA := Lib.hid hwa
    have HWB := Lib.hid hwb
    clear ih hN ha hb hwa hwb
    by_cases hdp : 65536 < deep
    · have hdp' : decide ((65536 : Int) < (deep : Int)) = true := decide_eq_true (by omega)
      have HE : Hid (Ky.sameA deep a b = false) := Lib.hid (by unfold Ky.sameA; rw [if_pos hdp])
      clear hdp hd
      go_enter Tryd.func43, Tryd.ntmps43
      go_wp2_with fail
      go_ret
      exact ⟨by rw [HE.out]; rfl, HB1.out⟩
    · have hdp' : decide ((65536 : Int) < (deep : Int)) = false := decide_eq_false (by omega)
      have HE : Hid (Ky.sameA deep a b = Ky.sameD deep a b) := Lib.hid (by unfold Ky.sameA; rw [if_neg hdp])
      have HQ := Lib.hid (equalFunc_any (w.alloc (.cells #[.int .i64 (deep : Int)] 3)) w.heap.size deep a b A A' c c' c0 (by simp) (by omega) ((HA.out.below HB1.out (Nat.le_refl _)).more HB1.out.size) ((HB.out.below HB1.out (Nat.le_refl _)).more HB1.out.size) (by have := Its.len_size a; have := Its.size_weight a; have := HWA.out; omega) (by have := Its.len_size b; have := Its.size_weight b; have := HWB.out; omega) (fun sub sub' A A' c c' W h1 h2 h3 h4 h5 => HIH.out sub sub' W A A' c c' (deep + 1) (by have := HN.out; omega) (by have := HWA.out; omega) (by have := HWB.out; omega) (by omega) h4 h5))
      clear hdp hd
      go_enter Tryd.func43, Tryd.ntmps43
      go_wp2_with fail
      refine HQ.out.mono ?_
      rintro e w2 ⟨rfl, hb2⟩
      have HB2 := Lib.hid (HB1.out.trans (hb2.mono HB1.out.size))
      clear hb2
      go_wp2_with fail
      go_ret
      exact ⟨by rw [HE.out]; rfl, HB2.out⟩
theorem same_any (w : World) (a b : Its) (A A' : Option Addr) (c c' : Nat) (hwa : a.weight ≤ 10000000) (hwb : b.weight ≤ 10000000) (ha : SlAt w w.heap.size A a) (hb : SlAt w w.heap.size A' b) :
    Calls Tryd.prog 25 #[.slice A a.len c, .slice A' b.len c'] w fun e w' => e = .returned (.bool (Ky.sameA 0 a b)) ∧ Below w.heap.size w w' := by
  have H := Lib.hid (sameAll_any (a.size + 1) a b w A A' c c' 0 (by omega) hwa hwb (by omega) ha hb)
  rw [show ((0 : Nat) : Int) = 0 from rfl] at H
  clear ha hb hwa hwb
  go_enter Tryd.func25, Tryd.ntmps25
  go_wp2_with fail
  refine H.out.mono ?_
  rintro e w2 ⟨rfl, hb2⟩
  have HB2 := Lib.hid hb2
  clear hb2
  go_wp2_with fail
  go_ret
  exact ⟨rfl, HB2.out⟩
end Go.Proofs.YtfbdikaaeedeoaaDoor

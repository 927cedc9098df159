/-
  Items in memory; an item that may be; counts.
-/
import Derived.Test.YtfbdikaaeedeoaaDoorKPack
import Derived.Test.YtfbdikaaeedeoaaDoorKRec
namespace Go.Proofs.YtfbdikaaeedeoaaDoor
open Go.RowKit Go.Maps
open Ky (Its)
set_option maxRecDepth 100000

/-- the items lie in block g from o on, what they hold below B -/
def At (w : World) (B : Nat) (g : Nat) : Nat → Its → Prop
  | _, .nil => True
  | o, .cons k n s sub r => w.cell? ⟨g, o, none⟩ = some (.int .u8 (k.toNat : Int)) ∧ w.cell? ⟨g, o + 1, none⟩ = some (.int .i64 n) ∧ w.cell? ⟨g, o + 2, none⟩ = some (bstr s) ∧
      (∃ A c, w.cell? ⟨g, o + 3, none⟩ = some (.slice A sub.len c) ∧ (sub ≠ .nil → ∃ g' o', A = some ⟨g', o', none⟩ ∧ g' < B ∧ At w B g' o' sub)) ∧ At w B g (o + 4) r
/-- the slice at A (of so many) reads these items, which lie below B -/
def SlAt (w : World) (B : Nat) (A : Option Addr) (t : Its) : Prop := t ≠ .nil → ∃ g o, A = some ⟨g, o, none⟩ ∧ g < B ∧ At w B g o t
theorem SlAt.nil (w : World) (B : Nat) (A : Option Addr) : SlAt w B A .nil := fun h => absurd rfl h
theorem At.keep {w w' : World} {B M : Nat} (hB : B ≤ M) (hk : ∀ g i, g < B → w'.cell? ⟨g, i, none⟩ = w.cell? ⟨g, i, none⟩) : ∀ (t : Its) {g o : Nat}, g < B → At w B g o t → At w' M g o t
  | .nil, _, _, _, _ => trivial
  | .cons k n s sub r, g, o, hg, h => by
    obtain ⟨h0, h1, h2, ⟨A, c, h3, h4⟩, h5⟩ := h
    refine ⟨(hk g _ hg).trans h0, (hk g _ hg).trans h1, (hk g _ hg).trans h2, ⟨A, c, (hk g _ hg).trans h3, fun hn => ?_⟩, At.keep hB hk r hg h5⟩
    obtain ⟨g', o', hA, hg', hat⟩ := h4 hn
    exact ⟨g', o', hA, by omega, At.keep hB hk sub hg' hat⟩
theorem SlAt.keep {w w' : World} {B M : Nat} {A : Option Addr} {t : Its} (h : SlAt w B A t) (hB : B ≤ M) (hk : ∀ g i, g < B → w'.cell? ⟨g, i, none⟩ = w.cell? ⟨g, i, none⟩) : SlAt w' M A t := fun hn => by
  obtain ⟨g, o, hA, hg, hat⟩ := h hn
  exact ⟨g, o, hA, by omega, At.keep hB hk t hg hat⟩
theorem SlAt.below {w w' : World} {B M : Nat} {A : Option Addr} {t : Its} (h : SlAt w B A t) (hb : Below M w w') (hB : B ≤ M) : SlAt w' B A t :=
  h.keep (Nat.le_refl _) fun g i hg => hb.cell (p := ⟨g, i, none⟩) (Nat.lt_of_lt_of_le hg hB)
theorem SlAt.more {w : World} {B M : Nat} {A : Option Addr} {t : Its} (h : SlAt w B A t) (hB : B ≤ M) : SlAt w M A t := h.keep hB fun _ _ _ => rfl
theorem At.below {w w' : World} {B M : Nat} {g o : Nat} {t : Its} (h : At w B g o t) (hg : g < B) (hb : Below M w w') (hB : B ≤ M) : At w' B g o t :=
  At.keep (Nat.le_refl _) (fun g i hg => hb.cell (p := ⟨g, i, none⟩) (Nat.lt_of_lt_of_le hg hB)) t hg h
theorem u8_eq (k c : UInt8) : ((k.toNat : Int) == (c.toNat : Int)) = decide (k = c) := by
  by_cases h : k = c
  · subst h; simp
  · rw [decide_eq_false h]
    exact beq_eq_false_iff_ne.2 fun e => h (UInt8.toNat_inj.1 (by omega))
/-- what an item is by value -/
abbrev itemV (k : UInt8) (n : Int) (s : List UInt8) (A : Option Addr) (m c : Nat) : Value := .agg #[.int .u8 (k.toNat : Int), .int .i64 n, bstr s, .slice A m c]
set_option maxHeartbeats 800000 in
theorem imayBe_any (w : World) (k : UInt8) (n : Int) (s : List UInt8) (A : Option Addr) (m c : Nat) :
    Calls Tryd.prog 53 #[itemV k n s A m c] w fun e w' => e = .returned (.bool (Ky.ok1 k n s m)) ∧ Below w.heap.size w w' := by
  have HB := Lib.hid ((Below.refl w.heap.size w).alloc (Nat.le_refl _) (.cells #[.int .u8 (k.toNat : Int), .int .i64 n, bstr s, .slice A m c] 62))
  unfold Ky.ok1 itemV bstr at *
  by_cases h1 : k = 1
  · subst h1
    rw [if_pos rfl]
    by_cases hs : s = []
    · subst hs
      go_enter Tryd.func53, Tryd.ntmps53
      go_wp2
      go_ret
      exact ⟨by cases m <;> rfl, HB.out⟩
    · go_enter Tryd.func53, Tryd.ntmps53
      go_wp2
      go_ret
      exact ⟨by cases s <;> simp_all, HB.out⟩
  · rw [if_neg h1]
    have e1 : ((k.toNat : Int) == 1) = false := (u8_eq k 1).trans (decide_eq_false h1)
    by_cases h2 : k = 2
    · subst h2
      rw [if_pos rfl]
      by_cases hn : n = 0
      · subst hn
        go_enter Tryd.func53, Tryd.ntmps53
        go_wp2
        go_ret
        exact ⟨by cases m <;> rfl, HB.out⟩
      · have hn' : (n == 0) = false := beq_eq_false_iff_ne.2 hn
        go_enter Tryd.func53, Tryd.ntmps53
        go_wp2
        go_ret
        exact ⟨by simp [hn'], HB.out⟩
    · rw [if_neg h2]
      have e2 : ((k.toNat : Int) == 2) = false := (u8_eq k 2).trans (decide_eq_false h2)
      by_cases h3 : k = 3
      · subst h3
        rw [if_pos rfl]
        by_cases hn : n = 0
        · subst hn
          go_enter Tryd.func53, Tryd.ntmps53
          go_wp2
          go_ret
          exact ⟨by cases s <;> rfl, HB.out⟩
        · have hn' : (n == 0) = false := beq_eq_false_iff_ne.2 hn
          go_enter Tryd.func53, Tryd.ntmps53
          go_wp2
          go_ret
          exact ⟨by simp [hn'], HB.out⟩
      · rw [if_neg h3]
        have e3 : ((k.toNat : Int) == 3) = false := (u8_eq k 3).trans (decide_eq_false h3)
        go_enter Tryd.func53, Tryd.ntmps53
        go_wp2
        go_ret
        exact ⟨rfl, HB.out⟩
theorem or128 : ∀ x : Fin 256, x.val ||| 128 = x.val % 128 + 128 := by decide +kernel
theorem folded_any (w : World) (n : Int) (h1 : -9223372036854775808 ≤ n) (h2 : n ≤ 9223372036854775807) :
    Calls Tryd.prog 55 #[.int .i64 n] w fun e w' => e = .returned (.int .u64 (Ky.folded n : Int)) ∧ w = w' := by
  unfold Ky.folded
  by_cases h0 : n < 0
  · rw [if_pos h0]
    go_enter Tryd.func55, Tryd.ntmps55
    go_wp2_with fail
    go_ret
    refine ⟨ret_int ?_, rfl⟩
    rw [IntKind.wrap_u64, IntKind.wrap_u64, show (n % 18446744073709551616 * 2 % 18446744073709551616 : Int) = (((2 * n + 18446744073709551616).toNat : Nat) : Int) by omega, Ky.not_u64 _ (by omega)]
    omega
  · rw [if_neg h0]
    go_enter Tryd.func55, Tryd.ntmps55
    go_wp2_with fail
    go_ret
    refine ⟨ret_int ?_, rfl⟩
    omega
set_option maxHeartbeats 800000 in
theorem count_any (w : World) (n : Nat) (hn : n < 18446744073709551616) :
    Calls Tryd.prog 54 #[.int .u64 (n : Int)] w fun e w' => e = .returned (bstr (Ky.cnt n)) ∧ Below w.heap.size w w' := by
  have HN := Lib.hid hn
  go_enter Tryd.func54, Tryd.ntmps54
  go_wp2_with fail
  go_loopw [0, 3] (fun x v wr => ∃ (u : Nat) (d : List UInt8), u ≤ n ∧ x = .int .u64 (u : Int) ∧ Hid (OwnV wr w.heap.size v d) ∧ Hid (Ky.cnt n = d ++ Ky.cnt u) ∧ Hid (Below w.heap.size w wr)) (fun x _ _ => (intOf x).toNat)
  case atStart => exact ⟨n, [], by omega, rfl, Lib.hid (OwnV.nil _ _), Lib.hid rfl, Lib.hid (Below.refl _ _)⟩
  case round =>
    rename World => wr
    obtain ⟨u, d, hu, rfl, hO, hC, hB⟩ := hrel
    by_cases h : u < 128
    · have hcn := hC.out
      rw [Ky.cnt_small h] at hcn
      have hb : (u : Int) = ((UInt8.ofNat u).toNat : Int) := by
        rw [UInt8.toNat_ofNat']
        omega
      have HCN := Lib.hid hcn
      have HBX := Lib.hid hb
      have hd : Hid (d.length ≤ 10) := Lib.hid (by have := Ky.cnt_len64 n HN.out; rw [hC.out, List.length_append] at this; omega)
      clear hcn hb hC
      go_wp2_with (refine wpList_append_v rfl (.tmp 14) (.tmp 17) rfl w.heap.size _ d rfl (hO.out.alloc _) _ (some ⟨wr.heap.size, 0, none⟩) [UInt8.ofNat u] 1 rfl (rd_one wr _ _ HBX.out) (fun e => by cases e) (by have := hd.out; simp only [List.length_cons, List.length_nil]; omega) (by have := hB.out.size; simp; omega) w (hB.out.alloc hB.out.size _) ?_; intro v2 w2 O2 B2; obtain ⟨A2, c2, rfl, _, hrd⟩ := O2.out.form; have hcv := conv_rd w2 _ A2 (d ++ [UInt8.ofNat u]) c2 (hrd (by have := hd.out; simp; omega)); clear hrd; simp only [List.length_append, List.length_cons, List.length_nil, Nat.zero_add] at hcv)
      go_ret
      exact ⟨by rw [HCN.out]; rfl, B2.out⟩
    · have hcn := hC.out
      rw [Ky.cnt_more h] at hcn
      have hb : bits .or .u8 ((u : Int) % 256) 128 = ((UInt8.ofNat (u % 128 + 128)).toNat : Int) := by
        have e := or128 ⟨u % 256, Nat.mod_lt _ (by decide)⟩
        simp only at e
        rw [show (u : Int) % 256 = ((u % 256 : Nat) : Int) by omega, show (128 : Int) = ((128 : Nat) : Int) from rfl, u8_or_nat _ _ (by omega) (by omega), e, UInt8.toNat_ofNat']
        omega
      have HCN := Lib.hid hcn
      have HBX := Lib.hid hb
      have hd : Hid (d.length ≤ 10) := Lib.hid (by have := Ky.cnt_len64 n HN.out; rw [hC.out, List.length_append] at this; omega)
      clear hcn hb hC
      go_wp2_with (refine wpList_append_v rfl (.tmp 6) (.tmp 10) rfl w.heap.size _ d rfl (hO.out.alloc _) _ (some ⟨wr.heap.size, 0, none⟩) [UInt8.ofNat (u % 128 + 128)] 1 rfl (rd_one wr _ _ HBX.out) (fun e => by cases e) (by have := hd.out; simp only [List.length_cons, List.length_nil]; omega) (by have := hB.out.size; simp; omega) w (hB.out.alloc hB.out.size _) ?_; intro v2 w2 O2 B2)
      go_roundw
      case rel => exact ⟨u / 128, d ++ [UInt8.ofNat (u % 128 + 128)], by omega, by go_num, O2, Lib.hid (by rw [HCN.out, List.append_assoc]; rfl), B2⟩
      case measure => (simp [intOf]) <;> omega
end Go.Proofs.YtfbdikaaeedeoaaDoor

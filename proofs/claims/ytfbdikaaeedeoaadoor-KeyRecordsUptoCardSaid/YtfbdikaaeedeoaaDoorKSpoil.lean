/-
  What KeyRecords asks besides: how deep items are, the document's Same, items that are written over.
-/
import Derived.Test.YtfbdikaaeedeoaaDoorKSame
namespace Go.Proofs.YtfbdikaaeedeoaaDoor
open Go.RowKit Go.Maps
open Ky (Its)
set_option maxRecDepth 100000

/-- no list is deeper than the law bears -/
def Ky.Dp : Nat → Its → Prop
  | d, .nil => d ≤ 40
  | d, .cons _ _ _ sub r => Ky.Dp (d + 1) sub ∧ Ky.Dp d r
theorem Ky.Dp_le : ∀ (t : Its) (d : Nat), Ky.Dp d t → d ≤ 40
  | .nil, _, h => h
  | .cons _ _ _ _ r, d, h => Ky.Dp_le r d h.2
def Ky.eqI : Its → Its → Bool
  | .nil, .nil => true
  | .cons k n s sub r, .cons k' n' s' sub' r' => (decide (k = k') && decide (n = n') && decide (s = s') && Ky.eqI sub sub') && Ky.eqI r r'
  | .nil, .cons _ _ _ _ _ => false
  | .cons _ _ _ _ _, .nil => false
theorem Ky.eqI_self : ∀ t : Its, Ky.eqI t t = true
  | .nil => rfl
  | .cons k n s sub r => by rw [Ky.eqI, Ky.eqI_self sub, Ky.eqI_self r]; simp
theorem Ky.eqI_len : ∀ a b : Its, a.len ≠ b.len → Ky.eqI a b = false
  | .nil, .nil, h => absurd rfl h
  | .nil, .cons _ _ _ _ _, _ => rfl
  | .cons _ _ _ _ _, .nil, _ => rfl
  | .cons k n s sub r, .cons k' n' s' sub' r', h => by
    rw [Ky.eqI, Ky.eqI_len r r' (fun e => h (by simp only [Its.len]; omega)), Bool.and_false]
theorem Ky.sameD_deep : ∀ (a b : Its) (d deep : Nat), Ky.Dp d a → deep ≤ d → Ky.sameD deep a b = Ky.eqI a b
  | .nil, .nil, _, _, _, _ => rfl
  | .nil, .cons _ _ _ _ _, _, _, _, _ => rfl
  | .cons _ _ _ _ _, .nil, _, _, _, _ => rfl
  | .cons k n s sub r, .cons k' n' s' sub' r', d, deep, h, hd => by
    have h1 := Ky.Dp_le r d h.2
    rw [Ky.sameD, Ky.eqI, if_neg (by omega), Ky.sameD_deep sub sub' (d + 1) (deep + 1) h.1 (by omega), Ky.sameD_deep r r' d deep h.2 hd]
theorem Ky.same_deep (a b : Its) (h : Ky.Dp 0 a) : Ky.sameA 0 a b = Ky.eqI a b := by
  unfold Ky.sameA
  rw [if_neg (by decide), Ky.sameD_deep a b 0 0 h (Nat.le_refl _)]
set_option maxHeartbeats 1600000 in
theorem small_deep (N : Nat) : ∀ (t : Its) (w : World) (A : Option Addr) (c B : Nat) (left : Int) (deep : Nat), t.size < N → t.weight ≤ 1048576 → SlAt w B A t → 0 ≤ left + 1 → left ≤ 2000 → deep ≤ 41 →
    Calls Tryd.prog 20 #[.slice A t.len c, .int .i64 left, .int .i64 (deep : Int)] w fun e w' => (∃ n : Int, e = .returned (.int .i64 n) ∧ 0 ≤ n + 1 ∧ n ≤ 2000 ∧ (0 ≤ n → Ky.Dp deep t)) ∧ w = w' := by
  induction N with
  | zero => intro t w A c B left deep hN; omega
  | succ N ih =>
    intro t w A c B left deep hN hw hsl h0 h1 hd
    have HR := Lib.hid (IRel.start hsl)
    have HN := Lib.hid hN
    have HW := Lib.hid hw
    have HIH := Lib.hid ih
    have hlm : (t.len : Int) ≤ 1048576 := by have := Its.len_size t; have := Its.size_weight t; omega
    have HD := Lib.hid hd
    clear ih hsl hN hw hd
    by_cases hdp : 40 < deep
    · have hdp' : decide ((40 : Int) < (deep : Int)) = true := decide_eq_true (by omega)
      clear hdp
      go_enter Tryd.func20, Tryd.ntmps20
      go_wp2_with fail
      go_ret
      exact ⟨⟨-1, rfl, by omega, by omega, fun h => by omega⟩, rfl⟩
    · have hdp' : decide ((40 : Int) < (deep : Int)) = false := decide_eq_false (by omega)
      have HDP := Lib.hid hdp
      clear hdp
      go_enter Tryd.func20, Tryd.ntmps20
      go_wp2_with fail
      clear hdp'
      have hd40 : (deep : Int) ≤ 100 := by have := HDP.out; omega
      go_loop [1, 7] (fun x i => ∃ (lf : Int) (j : Nat) (r : Its), 0 ≤ lf + 1 ∧ lf ≤ 2000 ∧ x = .int .i64 lf ∧ i = .int .i64 j ∧ Hid (IRel B w A t j r) ∧ Hid (0 ≤ lf → Ky.Dp deep r → Ky.Dp deep t)) (fun _ i => t.len - (intOf i).toNat)
      case atStart => exact ⟨left, 0, t, h0, h1, rfl, rfl, HR, Lib.hid (fun _ h => h)⟩
      case round =>
        obtain ⟨lf, j, r, hl0, hl1, rfl, rfl, hr, hdp⟩ := hrel
        by_cases hneg : lf < 0
        · obtain rfl : lf = -1 := by omega
          by_cases hjl : j < t.len
          · have hjl' : (j : Int) < (t.len : Int) := by omega
            go_wp2_with fail
            go_ret
            exact ⟨⟨-1, rfl, by omega, by omega, fun h => by omega⟩, rfl⟩
          · have hjl' : ¬ ((j : Int) < (t.len : Int)) := by omega
            go_wp2_with fail
            go_ret
            exact ⟨⟨-1, rfl, by omega, by omega, fun h => by omega⟩, rfl⟩
        · have hlf : 0 ≤ lf := by omega
          cases r with
          | nil =>
            have hj : j = t.len := by have := hr.out.1; simpa [Its.len] using this
            subst hj
            go_wp2_with fail
            go_ret
            exact ⟨⟨lf, rfl, hl0, hl1, fun h => hdp.out h (by have := HDP.out; show deep ≤ 40; omega)⟩, rfl⟩
          | cons k n s sub r =>
            have hlt : (j : Int) < (t.len : Int) := by have := hr.out.1; simp only [Its.len] at this; omega
            obtain ⟨g, o, rfl, hg, c0, c1, c2, ⟨As, cs, c3, hsub⟩, hat⟩ := hr.out.2.2.2 (by simp)
            have HI := Lib.hid (HIH.out sub w As cs B (lf - 1) (deep + 1) (by have := hr.out.2.1; have := HN.out; simp only [Its.size] at *; omega) (by have := hr.out.2.2.1; have := HW.out; simp only [Its.weight] at *; omega) (fun hn => hsub hn) (by omega) (by omega) (by have := HDP.out; omega))
            rw [show ((deep + 1 : Nat) : Int) = (deep : Int) + 1 by omega] at HI
            have HX := Lib.hid (IRel.next hr.out hg hat)
            clear hsub hat hneg
            go_wp2_with fail
            refine HI.out.mono ?_
            rintro e w' ⟨⟨m, rfl, hm0, hm1, hmd⟩, rfl⟩
            have HMD := Lib.hid hmd
            have HLF := Lib.hid hlf
            clear hmd
            go_wp2_with fail
            go_round
            case rel => exact ⟨m, j + 1, r, hm0, hm1, rfl, by go_num, HX, Lib.hid (fun h0 hr => hdp.out HLF.out ⟨HMD.out h0, hr⟩)⟩
            case measure => (simp [intOf]) <;> omega
set_option maxHeartbeats 3200000 in
theorem rsame_any (N : Nat) : ∀ (a b : Its) (w : World) (A1 A2 : Option Addr) (c1 c2 B1 B2 : Nat), a.size < N → a.weight ≤ 1048576 → b.weight ≤ 1048576 → SlAt w B1 A1 a → SlAt w B2 A2 b →
    Calls Tryd.prog 26 #[.slice A1 a.len c1, .slice A2 b.len c2] w fun e w' => e = .returned (.bool (Ky.eqI a b)) ∧ ∃ n, w' = w.drewN n := by
  induction N with
  | zero => intro a b w A1 A2 c1 c2 B1 B2 hN; omega
  | succ N ih =>
    intro a b w A1 A2 c1 c2 B1 B2 hN hwa hwb h1 h2
    have HR1 := Lib.hid (IRel.start h1)
    have HR2 := Lib.hid (IRel.start h2)
    have HN := Lib.hid hN
    have HWA := Lib.hid hwa
    have HWB := Lib.hid hwb
    have HIH := Lib.hid ih
    have hla : (a.len : Int) ≤ 1048576 := by have := Its.len_size a; have := Its.size_weight a; omega
    have hlb : (b.len : Int) ≤ 1048576 := by have := Its.len_size b; have := Its.size_weight b; omega
    clear ih h1 h2 hN hwa hwb
    by_cases hl : a.len = b.len
    · have HL := Lib.hid hl
      rw [← hl]
      clear hl hlb
      go_enter Tryd.func26, Tryd.ntmps26
      go_wp2_with fail
      go_loopw [5] (fun i wr => ∃ (j : Nat) (r r' : Its), i = .int .i64 j ∧ Hid (IRel B1 wr A1 a j r) ∧ Hid (IRel B2 wr A2 b j r') ∧ Hid (Ky.eqI a b = Ky.eqI r r') ∧ Hid (∃ n, wr = w.drewN n)) (fun i _ => a.len - (intOf i).toNat)
      case atStart => exact ⟨0, a, b, rfl, HR1, HR2, Lib.hid rfl, Lib.hid ⟨0, rfl⟩⟩
      case round =>
        rename World => wr
        obtain ⟨j, r, r', rfl, hr1, hr2, hE, hD⟩ := hrel
        cases r with
        | nil =>
          have hj : j = a.len := by have := hr1.out.1; simpa [Its.len] using this
          have hrn : r' = .nil := by
            cases r' with
            | nil => rfl
            | cons k n s sub r => have := hr2.out.1; have := HL.out; simp only [Its.len] at *; omega
          subst hj
          have HF : Hid (Ky.eqI a b = true) := Lib.hid (by rw [hE.out, hrn]; rfl)
          clear hrn
          go_wp2_with fail
          go_ret
          exact ⟨by rw [HF.out]; rfl, hD.out⟩
        | cons k n s sub r =>
          have hlt : (j : Int) < (a.len : Int) := by have := hr1.out.1; simp only [Its.len] at this; omega
          cases r' with
          | nil =>
            have h1 := hr1.out.1
            have h2 := hr2.out.1
            have h3 := HL.out
            simp only [Its.len] at h1 h2
            omega
          | cons k' n' s' sub' r' =>
            have hlt2 : (j : Int) < (b.len : Int) := by have := hr2.out.1; simp only [Its.len] at this; omega
            obtain ⟨g, o, rfl, hg, x0, x1, x2, ⟨As, cs, x3, hsub⟩, hat⟩ := hr1.out.2.2.2 (by simp)
            obtain ⟨g2, o2, rfl, hg2, y0, y1, y2, ⟨As2, cs2, y3, hsub2⟩, hat2⟩ := hr2.out.2.2.2 (by simp)
            have HI := Lib.hid (fun q => HIH.out sub sub' (wr.drewN q) As As2 cs cs2 B1 B2 (by have := hr1.out.2.1; have := HN.out; simp only [Its.size] at *; omega) (by have := hr1.out.2.2.1; have := HWA.out; simp only [Its.weight] at *; omega) (by have := hr2.out.2.2.1; have := HWB.out; simp only [Its.weight] at *; omega) (SlAt.keep (w := wr) hsub (Nat.le_refl _) (fun _ _ _ => rfl)) (SlAt.keep (w := wr) hsub2 (Nat.le_refl _) (fun _ _ _ => rfl)))
            have HX1 := Lib.hid (fun q => IRel.next (w' := wr.drewN q) hr1.out hg (At.keep (w := wr) (w' := wr.drewN q) (Nat.le_refl _) (fun _ _ _ => rfl) r hg hat))
            have HX2 := Lib.hid (fun q => IRel.next (w' := wr.drewN q) hr2.out hg2 (At.keep (w := wr) (w' := wr.drewN q) (Nat.le_refl _) (fun _ _ _ => rfl) r' hg2 hat2))
            have HQ : Hid (Ky.eqI a b = ((decide (k = k') && decide (n = n') && decide (s = s') && Ky.eqI sub sub') && Ky.eqI r r')) := Lib.hid (by rw [hE.out, Ky.eqI])
            clear hsub hsub2 hat hat2
            unfold bstr at *
            by_cases e1 : k = k'
            · subst e1
              by_cases e2 : n = n'
              · subst e2
                by_cases e3 : s = s'
                · subst e3
                  cases hv : Ky.eqI sub sub' with
                  | true =>
                    rw [hv] at HI
                    have HN2 : Hid (Ky.eqI a b = Ky.eqI r r') := Lib.hid (by rw [HQ.out, hv]; simp)
                    clear hv
                    go_wp2_with fail
                    go_quiet ((go_at_call 26; exact Calls.quiet_of (HI.out _)))
                    go_wp2_with fail
                    go_roundw
                    case rel => exact ⟨j + 1, r, r', by go_num, Lib.hid (HX1.out _), Lib.hid (HX2.out _), HN2, Lib.hid (by obtain ⟨n, h⟩ := hD.out; exact ⟨n + nq, by rw [h, World.drewN_drewN]⟩)⟩
                    case measure => (simp [intOf]) <;> omega
                  | false =>
                    rw [hv] at HI
                    have HF : Hid (Ky.eqI a b = false) := Lib.hid (by rw [HQ.out, hv]; simp)
                    clear hv
                    go_wp2_with fail
                    go_quiet ((go_at_call 26; exact Calls.quiet_of (HI.out _)))
                    go_wp2_with fail
                    go_ret
                    exact ⟨by rw [HF.out]; rfl, by obtain ⟨n, h⟩ := hD.out; exact ⟨n + nq, by rw [h, World.drewN_drewN]⟩⟩
                · have HF : Hid (Ky.eqI a b = false) := Lib.hid (by rw [HQ.out, decide_eq_false e3]; simp)
                  have h3 : (s == s') = false := beq_false_of_ne e3
                  have h3' : (s != s') = true := by simpa using e3
                  clear e3
                  go_wp2_with fail
                  go_quiet ((go_at_call 26; exact Calls.quiet_of (HI.out _)))
                  go_wp2_with fail
                  go_ret
                  exact ⟨by rw [HF.out]; rfl, by obtain ⟨n, h⟩ := hD.out; exact ⟨n + nq, by rw [h, World.drewN_drewN]⟩⟩
              · have HF : Hid (Ky.eqI a b = false) := Lib.hid (by rw [HQ.out, decide_eq_false e2]; simp)
                have h2 : (n == n') = false := beq_false_of_ne e2
                have h2' : (n != n') = true := by simpa using e2
                clear e2
                go_wp2_with fail
                go_quiet ((go_at_call 26; exact Calls.quiet_of (HI.out _)))
                go_wp2_with fail
                go_ret
                exact ⟨by rw [HF.out]; rfl, by obtain ⟨n, h⟩ := hD.out; exact ⟨n + nq, by rw [h, World.drewN_drewN]⟩⟩
            · have HF : Hid (Ky.eqI a b = false) := Lib.hid (by rw [HQ.out, decide_eq_false e1]; simp)
              have h1 : ((k.toNat : Int) == (k'.toNat : Int)) = false := (u8_eq k k').trans (decide_eq_false e1)
              have h1' : ((k.toNat : Int) != (k'.toNat : Int)) = true := by rw [bne, h1]; rfl
              clear e1
              go_wp2_with fail
              go_quiet ((go_at_call 26; exact Calls.quiet_of (HI.out _)))
              go_wp2_with fail
              go_ret
              exact ⟨by rw [HF.out]; rfl, by obtain ⟨n, h⟩ := hD.out; exact ⟨n + nq, by rw [h, World.drewN_drewN]⟩⟩
    · have hl' : ((a.len : Int) != (b.len : Int)) = true := by simp; omega
      have HE := Lib.hid (Ky.eqI_len a b hl)
      clear hl
      go_enter Tryd.func26, Tryd.ntmps26
      go_wp2_with fail
      go_ret
      exact ⟨by rw [HE.out]; rfl, 0, rfl⟩
/-! ### items that are written over -/
def ShX (w : World) (X : Nat → Prop) (g : Nat) : Nat → Its → Prop
  | _, .nil => True
  | o, .cons _ _ _ sub r => (∃ n, w.cell? ⟨g, o + 1, none⟩ = some (.int .i64 n)) ∧ (∃ A c, w.cell? ⟨g, o + 3, none⟩ = some (.slice A sub.len c) ∧ (sub ≠ .nil → ∃ g' o', A = some ⟨g', o', none⟩ ∧ (X g' ∧ Fz w g') ∧ ShX w X g' o' sub)) ∧ ShX w X g (o + 4) r
theorem AtX.sh {w : World} {X : Nat → Prop} : ∀ (t : Its) {g o : Nat}, AtX w X g o t → ShX w X g o t
  | .nil, _, _, _ => trivial
  | .cons _ _ _ sub r, _, _, ⟨_, h1, _, ⟨A, c, h3, h4⟩, h5⟩ => ⟨⟨_, h1⟩, ⟨A, c, h3, fun hn => by
    obtain ⟨g', o', hA, hg', hat⟩ := h4 hn
    exact ⟨g', o', hA, hg', AtX.sh sub hat⟩⟩, AtX.sh r h5⟩
/-- whole numbers alone were turned -/
def Sp (w w' : World) : Prop := (∀ g i, w'.cell? ⟨g, i, none⟩ = w.cell? ⟨g, i, none⟩ ∨ ∃ n, w.cell? ⟨g, i, none⟩ = some (.int .i64 n) ∧ w'.cell? ⟨g, i, none⟩ = some (.int .i64 77)) ∧ ∀ g i, w'.frozen? ⟨g, i, none⟩ = w.frozen? ⟨g, i, none⟩
theorem Sp.refl (w : World) : Sp w w := ⟨fun _ _ => .inl rfl, fun _ _ => rfl⟩
theorem Sp.trans {a b c : World} (h : Sp a b) (k : Sp b c) : Sp a c := ⟨fun g i => by
  rcases h.1 g i with h1 | ⟨n, h1, h2⟩ <;> rcases k.1 g i with k1 | ⟨m, k1, k2⟩
  · exact .inl (k1.trans h1)
  · exact .inr ⟨m, h1 ▸ k1, k2⟩
  · exact .inr ⟨n, h1, k1.trans h2⟩
  · exact .inr ⟨n, h1, k2⟩, fun g i => (k.2 g i).trans (h.2 g i)⟩
theorem Sp.set {w : World} {g o : Nat} {n : Int} (h : w.cell? ⟨g, o, none⟩ = some (.int .i64 n)) : Sp w (w.setCell ⟨g, o, none⟩ (.int .i64 77)) := ⟨fun g' i => by
  by_cases e : (⟨g, o, none⟩ : Addr) = ⟨g', i, none⟩
  · rw [← e]
    exact .inr ⟨n, h, World.cell?_setCell_same _ _ _ h⟩
  · exact .inl (World.cell?_setCell_other _ _ _ _ e), fun _ _ => World.frozen?_setCell _ _ _ _⟩
theorem Sp.fz {w w' : World} {g : Nat} (h : Sp w w') (f : Fz w g) : Fz w' g := fun i => (h.2 g i).trans (f i)
theorem Sp.int {w w' : World} {g i : Nat} (h : Sp w w') (k : ∃ n, w.cell? ⟨g, i, none⟩ = some (.int .i64 n)) : ∃ n, w'.cell? ⟨g, i, none⟩ = some (.int .i64 n) := by
  obtain ⟨n, k⟩ := k
  rcases h.1 g i with h1 | ⟨m, _, h2⟩
  · exact ⟨n, h1.trans k⟩
  · exact ⟨77, h2⟩
theorem Sp.sl {w w' : World} {g i m c : Nat} {A : Option Addr} (h : Sp w w') (k : w.cell? ⟨g, i, none⟩ = some (.slice A m c)) : w'.cell? ⟨g, i, none⟩ = some (.slice A m c) := by
  rcases h.1 g i with h1 | ⟨n, h1, _⟩
  · exact h1.trans k
  · rw [k] at h1; cases h1
theorem ShX.sp {w w' : World} {X : Nat → Prop} (h : Sp w w') : ∀ (t : Its) {g o : Nat}, ShX w X g o t → ShX w' X g o t
  | .nil, _, _, _ => trivial
  | .cons _ _ _ sub r, _, _, ⟨h1, ⟨A, c, h3, h4⟩, h5⟩ => ⟨h.int h1, ⟨A, c, h.sl h3, fun hn => by
    obtain ⟨g', o', hA, hg', hat⟩ := h4 hn
    exact ⟨g', o', hA, ⟨hg'.1, h.fz hg'.2⟩, ShX.sp h sub hat⟩⟩, ShX.sp h r h5⟩
def SpIn (w : World) (X : Nat → Prop) (A : Option Addr) (j : Nat) (r : Its) : Prop := r ≠ .nil → ∃ g o, A = some ⟨g, o, none⟩ ∧ (X g ∧ Fz w g) ∧ ShX w X g (o + j * 4) r
theorem SlX.sp {w : World} {X : Nat → Prop} {A : Option Addr} {t : Its} (h : SlX w X A t) : SpIn w X A 0 t := fun hn => by
  obtain ⟨g, o, hA, hg, hat⟩ := h hn
  exact ⟨g, o, hA, hg, by simpa using hat.sh t⟩
set_option maxHeartbeats 1600000 in
theorem spoil_any (X : Nat → Prop) (N : Nat) : ∀ (t : Its) (w : World) (A : Option Addr) (c : Nat), t.size < N → t.weight ≤ 1048576 → SpIn w X A 0 t →
    Calls Tryd.prog 29 #[.slice A t.len c] w fun e w' => e = .returned (.tuple #[]) ∧ Fr X w w' ∧ Sp w w' := by
  induction N with
  | zero => intro t w A c hN; omega
  | succ N ih =>
    intro t w A c hN hw hsl
    have HR : Hid (0 + t.len = t.len ∧ t.size ≤ t.size ∧ t.weight ≤ t.weight ∧ SpIn w X A 0 t) := Lib.hid ⟨by simp, Nat.le_refl _, Nat.le_refl _, hsl⟩
    have HN := Lib.hid hN
    have HW := Lib.hid hw
    have HIH := Lib.hid ih
    have hlm : (t.len : Int) ≤ 1048576 := by have := Its.len_size t; have := Its.size_weight t; omega
    clear ih hsl hN hw
    go_enter Tryd.func29, Tryd.ntmps29
    go_wp2_with fail
    go_loopw [2] (fun i wr => ∃ (j : Nat) (r : Its), i = .int .i64 j ∧ Hid (j + r.len = t.len ∧ r.size ≤ t.size ∧ r.weight ≤ t.weight ∧ SpIn wr X A j r) ∧ Hid (Fr X w wr) ∧ Hid (Sp w wr)) (fun i _ => t.len - (intOf i).toNat)
    case atStart => exact ⟨0, t, rfl, HR, Lib.hid (Fr.refl _ _), Lib.hid (Sp.refl _)⟩
    case round =>
      rename World => wr
      obtain ⟨j, r, rfl, hr, hF, hS⟩ := hrel
      cases r with
      | nil =>
        have hj : j = t.len := by have := hr.out.1; simpa [Its.len] using this
        subst hj
        go_wp2_with fail
        go_end0
        exact ⟨rfl, hF.out, hS.out⟩
      | cons k n s sub r =>
        have hlt : (j : Int) < (t.len : Int) := by have := hr.out.1; simp only [Its.len] at this; omega
        obtain ⟨g, o, rfl, hg, ⟨n1, c1⟩, ⟨As, cs, c3, hsub⟩, hat⟩ := hr.out.2.2.2 (by simp)
        have HG := Lib.hid hg
        have HC1 : Hid (∃ n, wr.cell? ⟨g, o + j * 4 + 1, none⟩ = some (.int .i64 n)) := Lib.hid ⟨n1, c1⟩
        have HAT := Lib.hid hat
        have HI := Lib.hid (HIH.out sub wr As cs (by have := hr.out.2.1; have := HN.out; simp only [Its.size] at *; omega) (by have := hr.out.2.2.1; have := HW.out; simp only [Its.weight] at *; omega) (fun hn => by
          obtain ⟨g', o', hA, hg', hx⟩ := hsub hn
          exact ⟨g', o', hA, hg', by simpa using hx⟩))
        clear hsub hat hg c1
        go_wp2_with fail
        refine HI.out.mono ?_
        rintro e w2 ⟨rfl, hf2, hs2⟩
        obtain ⟨n2, d1⟩ := hs2.int HC1.out
        have d2 := hs2.fz HG.out.2 (o + j * 4 + 1)
        have HF2 := Lib.hid (hF.out.trans hf2 (fun _ _ h => h))
        have HS2 := Lib.hid hs2
        have HS3 : Hid (Sp w2 (w2.setCell ⟨g, o + j * 4 + 1, none⟩ (.int .i64 77))) := Lib.hid (Sp.set d1)
        clear hf2 hs2
        go_wp2_with fail
        go_roundw
        case rel =>
          refine ⟨j + 1, r, by go_num, Lib.hid ⟨by have := hr.out.1; simp only [Its.len] at this; omega, by have := hr.out.2.1; simp only [Its.size] at this; omega, by have := hr.out.2.2.1; simp only [Its.weight] at this; omega, fun _ => ⟨g, o, rfl, ⟨HG.out.1, HS3.out.fz (HS2.out.fz HG.out.2)⟩, ?_⟩⟩, Lib.hid (HF2.out.setCell (.inl HG.out.1) _), Lib.hid ((hS.out.trans HS2.out).trans HS3.out)⟩
          rw [show o + (j + 1) * 4 = o + j * 4 + 4 by omega]
          exact ShX.sp HS3.out r (ShX.sp HS2.out r HAT.out)
        case measure => (simp [intOf]) <;> omega
end Go.Proofs.YtfbdikaaeedeoaaDoor

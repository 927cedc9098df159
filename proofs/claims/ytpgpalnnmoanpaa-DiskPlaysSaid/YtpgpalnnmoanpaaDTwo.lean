/-
  A disk and the disk by its words, side by side in memory; each call's whole contract, refused or not.
-/
import Derived.Test.YtpgpalnnmoanpaaDTold
namespace Go.Proofs.Ytpgpalnnmoanpaa
open Go.RowKit Go.Maps

namespace Dk
def St.wErr (d : St) (i : Int) (s : List UInt8) : Int := if d.dead then 20 else if 0 ≤ i ∧ i < d.lasts.length ∧ s.length = 128 then (d.wait i.toNat s).stepErr else 1
def St.wTo (d : St) (i : Int) (s : List UInt8) : St := if d.dead then d else if 0 ≤ i ∧ i < d.lasts.length ∧ s.length = 128 then d.write i.toNat s else d
def St.fErr (d : St) : Int := if d.dead then 20 else d.stepErr
def St.fTo (d : St) : St := if d.dead then d else d.flush
def St.cErr (d : St) (p : Pl) : Int := if d.dead then 20 else if 0 ≤ p.cut ∧ p.cut ≤ 128 then 0 else 1
def St.cTo (d : St) (p : Pl) : St := if d.dead then d else if 0 ≤ p.cut ∧ p.cut ≤ 128 then d.crash p else d
def St.uErr (d : St) (k : Int) (p : Pl) : Int := if d.dead then 20 else if (0 ≤ p.cut ∧ p.cut ≤ 128) ∧ 0 ≤ k then 0 else 1
def St.uTo (d : St) (k : Int) (p : Pl) : St := if d.dead then d else if (0 ≤ p.cut ∧ p.cut ≤ 128) ∧ 0 ≤ k then d.fuse k.toNat p else d
/-- few writes wait: a plan is asked of its first hundred alone -/
def Pl.first (p : Pl) : Pl := ⟨p.keep.take 100, p.torn, p.cut⟩
theorem Pl.first_kept (p : Pl) (k : Nat) (hk : k < 100) : p.first.kept k = p.kept k := by
  unfold Pl.kept Pl.first
  simp only [List.getElem?_take_of_lt hk]
theorem crashed_first (p : Pl) (ws : List Wr) (l : List Sec) : ∀ k, k ≤ 100 → crashed p.first ws l k = crashed p ws l k
  | 0, _ => rfl
  | k + 1, h => by
    rw [crashed, crashed, crashed_first p ws l k (by omega), p.first_kept k (by omega)]
theorem St.crash_first (d : St) (p : Pl) (h : d.waits.length ≤ 100) : d.crash p.first = d.crash p := by
  unfold St.crash
  rw [crashed_first p _ _ _ h]
theorem St.cTo_first (d : St) (p : Pl) (h : d.waits.length ≤ 100) : d.cTo p.first = d.cTo p := by
  unfold St.cTo
  rw [St.crash_first d p h]
  rfl
theorem St.cErr_first (d : St) (p : Pl) : d.cErr p.first = d.cErr p := rfl
end Dk

theorem Goes.same {w w' : World} {S R : Nat → Prop} {b : Nat} {d : Dk.St} (h : DiskAt w S R b d) (hb : Below w.heap.size w w') : Goes S R b d w w' :=
  ⟨S, h.keep (Fr.of_below hb noB) (fun _ e => e.elim), Fr.of_below hb S, fun _ e => .inl e⟩
theorem RGoes.same {w w' : World} {S I : Nat → Prop} {x : Nat} {d : Dk.St} (h : RefAt w S I x d) (hb : Below w.heap.size w w') : RGoes S I x d w w' :=
  ⟨S, I, h.keep (Fr.of_below hb noB) (fun _ e => e.elim), Fr.of_below hb S, fun _ e => .inl e, fun _ e => .inl e⟩
theorem DiskAt.c4 {w : World} {S R : Nat → Prop} {b : Nat} {d : Dk.St} (h : DiskAt w S R b d) : w.cell? ⟨b, 4, none⟩ = some (.bool d.dead) := by
  obtain ⟨L, cap, wv, M, kv, h⟩ := h
  exact h.cells.c4
theorem DiskAt.c0 {w : World} {S R : Nat → Prop} {b : Nat} {d : Dk.St} (h : DiskAt w S R b d) : ∃ A c, w.cell? ⟨b, 0, none⟩ = some (.slice A d.lasts.length c) := by
  obtain ⟨L, cap, wv, M, kv, h⟩ := h
  exact ⟨_, _, h.cells.c0⟩
theorem DiskAt.low {w : World} {S R : Nat → Prop} {b : Nat} {d : Dk.St} (h : DiskAt w S R b d) (k : Nat) (hk : R k) : k < w.heap.size := by
  obtain ⟨L, cap, wv, M, kv, h⟩ := h
  exact h.low k hk
theorem DiskAt.apart {w : World} {S R : Nat → Prop} {b : Nat} {d : Dk.St} (h : DiskAt w S R b d) (k : Nat) (hk : R k) : ¬ S k := by
  obtain ⟨L, cap, wv, M, kv, h⟩ := h
  exact h.apart k hk
theorem RefAt.c3 {w : World} {S I : Nat → Prop} {x : Nat} {d : Dk.St} (h : RefAt w S I x d) : w.cell? ⟨x, 3, none⟩ = some (.bool d.dead) := by
  obtain ⟨lv, wv, kv, ls, vs, lit, left, p, h⟩ := h
  exact h.c3
theorem RefAt.c0 {w : World} {S I : Nat → Prop} {x : Nat} {d : Dk.St} (h : RefAt w S I x d) : ∃ A c, w.cell? ⟨x, 0, none⟩ = some (.slice A d.lasts.length c) := by
  obtain ⟨lv, wv, kv, ls, vs, lit, left, p, h⟩ := h
  obtain ⟨A, c, rfl⟩ := h.lform
  exact ⟨_, _, h.c0⟩
theorem RefAt.lt {w : World} {S I : Nat → Prop} {x : Nat} {d : Dk.St} (h : RefAt w S I x d) (k : Nat) (hk : S k) : k < w.heap.size := by
  obtain ⟨lv, wv, kv, ls, vs, lit, left, p, h⟩ := h
  exact h.lt k hk
theorem RefAt.low {w : World} {S I : Nat → Prop} {x : Nat} {d : Dk.St} (h : RefAt w S I x d) (k : Nat) (hk : I k) : k < w.heap.size := by
  obtain ⟨lv, wv, kv, ls, vs, lit, left, p, h⟩ := h
  exact h.low k hk
theorem RefAt.own {w : World} {S I : Nat → Prop} {x : Nat} {d : Dk.St} (h : RefAt w S I x d) : S x := by
  obtain ⟨lv, wv, kv, ls, vs, lit, left, p, h⟩ := h
  exact (h.own x).2 (.inl rfl)

/-! ### each call, refused or not -/
structure Few (d : Dk.St) : Prop where
  waits : d.waits.length < 100
  done : d.done < 4611686018427387904
  left : d.left ≤ 9223372036854775807
theorem write_full (w : World) (S R : Nat → Prop) (b : Nat) (d : Dk.St) (h : DiskAt w S R b d) (hf : Few d) (i : Int) (g n c : Nat) (s : List UInt8) (hn : n = s.length) (hsrc : w.rangeAt g 0 (Dk.secCells s)) (hgS : ¬ S g) :
    Calls Try.prog 15 #[.pointer (some ⟨b, 0, none⟩), .int .i64 i, .slice (some ⟨g, 0, none⟩) n c] w fun e w' => e = .returned (.int .i64 (d.wErr i s)) ∧ Goes S R b (d.wTo i s) w w' := by
  subst hn
  have c4 := h.c4
  unfold Dk.St.wErr Dk.St.wTo
  cases hd : d.dead with
  | true =>
    rw [hd] at c4
    refine (write_dead w b i _ c4).mono ?_
    rintro e w' ⟨rfl, rfl⟩
    exact ⟨rfl, Goes.same h (Below.refl _ _)⟩
  | false =>
    rw [hd] at c4
    by_cases hi : 0 ≤ i ∧ i < d.lasts.length ∧ s.length = 128
    · obtain ⟨k, rfl⟩ := Int.eq_ofNat_of_zero_le hi.1
      obtain ⟨L, cap, wv, M, kv, h0⟩ := h
      rw [hi.2.2]
      refine (write_any w S R b L cap wv M kv d h0 hd (by have := hf.waits; omega) hf.done hf.left k (by omega) g 0 c s hi.2.2 hsrc hgS).mono ?_
      rintro e w' ⟨rfl, hg⟩
      have hi' : 0 ≤ (k : Int) ∧ (k : Int) < d.lasts.length ∧ True := ⟨hi.1, hi.2.1, trivial⟩
      simp only [Bool.false_eq_true, if_false, if_pos hi', Int.toNat_natCast]
      exact ⟨trivial, hg⟩
    · obtain ⟨A, c0, h0⟩ := h.c0
      refine (write_bad w b i A _ c0 _ _ c c4 h0 (by
        by_cases h1 : 0 ≤ i ∧ i < d.lasts.length
        · exact .inr fun e => hi ⟨h1.1, h1.2, e⟩
        · exact .inl h1)).mono ?_
      rintro e w' ⟨rfl, rfl⟩
      simp only [Bool.false_eq_true, if_false, if_neg hi]
      exact ⟨trivial, Goes.same h (Below.refl _ _)⟩
theorem flush_full (w : World) (S R : Nat → Prop) (b : Nat) (d : Dk.St) (h : DiskAt w S R b d) (hf : Few d) :
    Calls Try.prog 17 #[.pointer (some ⟨b, 0, none⟩)] w fun e w' => e = .returned (.int .i64 d.fErr) ∧ Goes S R b d.fTo w w' := by
  have c4 := h.c4
  unfold Dk.St.fErr Dk.St.fTo
  cases hd : d.dead with
  | true =>
    rw [hd] at c4
    refine (flush_dead w b c4).mono ?_
    rintro e w' ⟨rfl, rfl⟩
    exact ⟨rfl, Goes.same h (Below.refl _ _)⟩
  | false => exact flush_at w S R b d h hd (by have := hf.waits; omega) hf.done hf.left
theorem crash_full (w : World) (S R R' : Nat → Prop) (b : Nat) (d : Dk.St) (h : DiskAt w S R b d) (hf : Few d) (pv : Value) (p : Dk.Pl) (hp : KeepAt w R' pv p.keep) (hR : ∀ k, R' k → ¬ S k) :
    Calls Try.prog 16 #[.pointer (some ⟨b, 0, none⟩), planV pv p] w fun e w' => e = .returned (.int .i64 (d.cErr p)) ∧ Goes S R b (d.cTo p) w w' := by
  have c4 := h.c4
  unfold Dk.St.cErr Dk.St.cTo
  cases hd : d.dead with
  | true =>
    rw [hd] at c4
    refine (crash_dead w b pv p.torn p.cut c4).mono ?_
    rintro e w' ⟨rfl, hb⟩
    exact ⟨rfl, Goes.same h hb⟩
  | false =>
    rw [hd] at c4
    by_cases hi : 0 ≤ p.cut ∧ p.cut ≤ 128
    · refine (crash_ok w S R R' b d h hd pv p hp hi.1 hi.2 hR (by have := hf.waits; omega)).mono ?_
      rintro e w' ⟨rfl, hg⟩
      simp only [Bool.false_eq_true, if_false, if_pos hi]
      exact ⟨trivial, hg.widen (fun k hk => ⟨h.apart k hk, h.low k hk⟩)⟩
    · refine (crash_bad w b pv p.torn p.cut c4 hi).mono ?_
      rintro e w' ⟨rfl, hb⟩
      simp only [Bool.false_eq_true, if_false, if_neg hi]
      exact ⟨trivial, Goes.same h hb⟩
theorem rwrite_full (w : World) (S I : Nat → Prop) (x : Nat) (d : Dk.St) (h : RefAt w S I x d) (hf : Few d) (i : Int) (g n c : Nat) (s : List UInt8) (hn : n = s.length) (hsrc : Rd w w.heap.size (some ⟨g, 0, none⟩) s) (hgS : ¬ S g) :
    Calls Try.prog 28 #[.pointer (some ⟨x, 0, none⟩), .int .i64 i, .slice (some ⟨g, 0, none⟩) n c] w fun e w' => e = .returned (.int .i64 (d.wErr i s)) ∧ RGoes S I x (d.wTo i s) w w' := by
  subst hn
  have c3 := h.c3
  unfold Dk.St.wErr Dk.St.wTo
  cases hd : d.dead with
  | true =>
    rw [hd] at c3
    refine (rwrite_dead w x i _ c3).mono ?_
    rintro e w' ⟨rfl, rfl⟩
    exact ⟨rfl, RGoes.same h (Below.refl _ _)⟩
  | false =>
    rw [hd] at c3
    by_cases hi : 0 ≤ i ∧ i < d.lasts.length ∧ s.length = 128
    · obtain ⟨k, rfl⟩ := Int.eq_ofNat_of_zero_le hi.1
      rw [hi.2.2]
      refine (rwrite_ok w S I x d h hd (by have := hf.waits; omega) hf.done hf.left k (by omega) _ c s hi.2.2 hsrc (fun e => by cases e) (fun g' o e => by injection e with e; injection e with e; subst e; exact hgS)).mono ?_
      rintro e w' ⟨rfl, hg⟩
      have hi' : 0 ≤ (k : Int) ∧ (k : Int) < d.lasts.length ∧ True := ⟨hi.1, hi.2.1, trivial⟩
      simp only [Bool.false_eq_true, if_false, if_pos hi', Int.toNat_natCast]
      exact ⟨trivial, hg⟩
    · obtain ⟨A, c0, h0⟩ := h.c0
      refine (rwrite_bad w x i A _ _ c0 _ c c3 h0 (by
        by_cases h1 : 0 ≤ i ∧ i < d.lasts.length
        · exact .inr fun e => hi ⟨h1.1, h1.2, e⟩
        · exact .inl h1)).mono ?_
      rintro e w' ⟨rfl, rfl⟩
      simp only [Bool.false_eq_true, if_false, if_neg hi]
      exact ⟨trivial, RGoes.same h (Below.refl _ _)⟩
theorem rflush_full (w : World) (S I : Nat → Prop) (x : Nat) (d : Dk.St) (h : RefAt w S I x d) (hf : Few d) :
    Calls Try.prog 29 #[.pointer (some ⟨x, 0, none⟩)] w fun e w' => e = .returned (.int .i64 d.fErr) ∧ RGoes S I x d.fTo w w' := by
  have c3 := h.c3
  unfold Dk.St.fErr Dk.St.fTo
  cases hd : d.dead with
  | true =>
    rw [hd] at c3
    refine (rflush_dead w x c3).mono ?_
    rintro e w' ⟨rfl, rfl⟩
    exact ⟨rfl, RGoes.same h (Below.refl _ _)⟩
  | false => exact rflush_any w S I x d h hd (by have := hf.waits; omega) hf.done hf.left
theorem rcrash_full (w : World) (S I R0 : Nat → Prop) (x : Nat) (d : Dk.St) (h : RefAt w S I x d) (hf : Few d) (pv : Value) (p : Dk.Pl) (hp : KeepAt w R0 pv p.keep) (hR : ∀ k, R0 k → ¬ S k) :
    Calls Try.prog 30 #[.pointer (some ⟨x, 0, none⟩), planV pv p] w fun e w' => e = .returned (.int .i64 (d.cErr p)) ∧ RGoes S I x (d.cTo p) w w' := by
  have c3 := h.c3
  unfold Dk.St.cErr Dk.St.cTo
  cases hd : d.dead with
  | true =>
    rw [hd] at c3
    refine (rcrash_dead w x pv p.torn p.cut c3).mono ?_
    rintro e w' ⟨rfl, hb⟩
    exact ⟨rfl, RGoes.same h hb⟩
  | false =>
    rw [hd] at c3
    by_cases hi : 0 ≤ p.cut ∧ p.cut ≤ 128
    · refine (rcrash_ok w S I R0 x d h hd pv p hp hR hi.1 hi.2 (by have := hf.waits; omega)).mono ?_
      rintro e w' ⟨rfl, hg⟩
      simp only [Bool.false_eq_true, if_false, if_pos hi]
      exact ⟨trivial, hg⟩
    · refine (rcrash_bad w x pv p.torn p.cut c3 hi).mono ?_
      rintro e w' ⟨rfl, hb⟩
      simp only [Bool.false_eq_true, if_false, if_neg hi]
      exact ⟨trivial, RGoes.same h hb⟩
theorem fuse_full (w : World) (S R R0 : Nat → Prop) (b : Nat) (d : Dk.St) (h : DiskAt w S R b d) (k : Int) (hk : k ≤ 9223372036854775807) (pv : Value) (p : Dk.Pl) (hp : KeepAt w R0 pv p.keep) :
    Calls Try.prog 18 #[.pointer (some ⟨b, 0, none⟩), .int .i64 k, planV pv p] w fun e w' => e = .returned (.int .i64 (d.uErr k p)) ∧ ∃ R', DiskAt w' S R' b (d.uTo k p) ∧ Fr (oneB b) w w' ∧ ∀ j, R' j → R j ∨ w.heap.size ≤ j := by
  have c4 := h.c4
  unfold Dk.St.uErr Dk.St.uTo
  cases hd : d.dead with
  | true =>
    rw [hd] at c4
    refine (fuse_dead w b k pv p.torn p.cut c4).mono ?_
    rintro e w' ⟨rfl, hb⟩
    exact ⟨rfl, R, h.keep (Fr.of_below hb noB) (fun _ e => e.elim), Fr.of_below hb _, fun _ e => .inl e⟩
  | false =>
    rw [hd] at c4
    by_cases hi : (0 ≤ p.cut ∧ p.cut ≤ 128) ∧ 0 ≤ k
    · obtain ⟨m, rfl⟩ := Int.eq_ofNat_of_zero_le hi.2
      refine (fuse_ok w S R R0 b d h hd m (by omega) pv p hp hi.1.1 hi.1.2).mono ?_
      rintro e w' ⟨rfl, R', h1, h2, h3⟩
      simp only [Bool.false_eq_true, if_false, if_pos hi, Int.toNat_natCast]
      exact ⟨trivial, R', h1, h2, fun j e => .inr (h3 j e)⟩
    · refine (fuse_bad w b k pv p.torn p.cut c4 (by
        by_cases h1 : 0 ≤ p.cut ∧ p.cut ≤ 128
        · exact .inr (by
            by_cases h2 : 0 ≤ k
            · exact absurd ⟨h1, h2⟩ hi
            · omega)
        · exact .inl h1)).mono ?_
      rintro e w' ⟨rfl, hb⟩
      simp only [Bool.false_eq_true, if_false, if_neg hi]
      exact ⟨trivial, R, h.keep (Fr.of_below hb noB) (fun _ e => e.elim), Fr.of_below hb _, fun _ e => .inl e⟩
theorem rfuse_full (w : World) (S I R0 : Nat → Prop) (x : Nat) (d : Dk.St) (h : RefAt w S I x d) (k : Int) (pv : Value) (p : Dk.Pl) (hp : KeepAt w R0 pv p.keep) (hR : ∀ k, R0 k → ¬ S k) :
    Calls Try.prog 31 #[.pointer (some ⟨x, 0, none⟩), .int .i64 k, planV pv p] w fun e w' => e = .returned (.int .i64 (d.uErr k p)) ∧ RGoes S I x (d.uTo k p) w w' := by
  have c3 := h.c3
  unfold Dk.St.uErr Dk.St.uTo
  cases hd : d.dead with
  | true =>
    rw [hd] at c3
    refine (rfuse_dead w x k pv p.torn p.cut c3).mono ?_
    rintro e w' ⟨rfl, hb⟩
    exact ⟨rfl, RGoes.same h hb⟩
  | false =>
    rw [hd] at c3
    by_cases hi : (0 ≤ p.cut ∧ p.cut ≤ 128) ∧ 0 ≤ k
    · obtain ⟨m, rfl⟩ := Int.eq_ofNat_of_zero_le hi.2
      refine (rfuse_ok w S I R0 x d h hd m pv p hp hR hi.1.1 hi.1.2).mono ?_
      rintro e w' ⟨rfl, hg⟩
      simp only [Bool.false_eq_true, if_false, if_pos hi, Int.toNat_natCast]
      exact ⟨trivial, hg⟩
    · refine (rfuse_bad w x k pv p.torn p.cut c3 (by
        by_cases h1 : 0 ≤ p.cut ∧ p.cut ≤ 128
        · exact .inr (by
            by_cases h2 : 0 ≤ k
            · exact absurd ⟨h1, h2⟩ hi
            · omega)
        · exact .inl h1)).mono ?_
      rintro e w' ⟨rfl, hb⟩
      simp only [Bool.false_eq_true, if_false, if_neg hi]
      exact ⟨trivial, RGoes.same h hb⟩
end Go.Proofs.Ytpgpalnnmoanpaa

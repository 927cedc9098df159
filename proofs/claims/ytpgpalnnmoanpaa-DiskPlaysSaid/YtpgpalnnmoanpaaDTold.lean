/-
  The statement's told: of a disk and the disk by its words, if they are the same in plain maths, all is told alike.
-/
import Derived.Test.YtpgpalnnmoanpaaDSector
import Derived.Deep.QuietTactic
namespace Go.Proofs.Ytpgpalnnmoanpaa
open Go.RowKit Go.Maps

/-- what a read answers -/
def Dk.St.errOf (d : Dk.St) (i : Int) : Int := if d.dead then 20 else if 0 ≤ i ∧ i < d.lasts.length then 0 else 1
def Dk.St.bytesOf (d : Dk.St) (i : Int) : List UInt8 := if d.dead then [] else if 0 ≤ i ∧ i < d.lasts.length then d.read i.toNat else []
/-- nil, or a new block of just these bytes -/
def GaveD (w : World) (bs : List UInt8) (v : Value) (w' : World) : Prop :=
  (v = .slice none 0 0 ∧ bs = []) ∨ (v = .slice (some ⟨w.heap.size, 0, none⟩) 128 128 ∧ Has w' w.heap.size 78 (Dk.secCells bs).toArray ∧ bs.length = 128)
theorem GaveD.bytes {w w' : World} {bs : List UInt8} {v : Value} (h : GaveD w bs v w') : BytesAt w' v bs := by
  rcases h with ⟨rfl, rfl⟩ | ⟨rfl, h, hl⟩
  · exact BytesAt.nil _ 0
  · have := BytesAt.of_has h (by omega) 128
    rw [hl] at this
    exact this
theorem read_full (w : World) (S R : Nat → Prop) (b : Nat) (d : Dk.St) (h : DiskAt w S R b d) (i : Int) :
    Calls Try.prog 13 #[.pointer (some ⟨b, 0, none⟩), .int .i64 i] w fun e w' => ∃ v, e = .returned (.tuple #[v, .int .i64 (d.errOf i)]) ∧ GaveD w (d.bytesOf i) v w' ∧ Below w.heap.size w w' := by
  obtain ⟨L, cap, wv, M, kv, h0⟩ := id h
  cases hd : d.dead with
  | true =>
    have c4 := h0.cells.c4
    rw [hd] at c4
    refine (read_dead w b i c4).mono ?_
    rintro e w' ⟨rfl, rfl⟩
    exact ⟨_, by rw [Dk.St.errOf, if_pos hd], .inl ⟨rfl, by rw [Dk.St.bytesOf, if_pos hd]⟩, Below.refl _ _⟩
  | false =>
    by_cases hi : 0 ≤ i ∧ i < d.lasts.length
    · obtain ⟨k, rfl⟩ := Int.eq_ofNat_of_zero_le hi.1
      have hk : k < d.lasts.length := by omega
      refine (read_at w S R b d h hd k hk).mono ?_
      rintro e w' ⟨rfl, h1, h2⟩
      have hfull : (d.read k).length = 128 := Dk.St.read_len h0.ok hk
      exact ⟨_, by rw [Dk.St.errOf, if_neg (by rw [hd]; decide), if_pos hi], .inr ⟨rfl, by rw [Dk.St.bytesOf, if_neg (by rw [hd]; decide), if_pos hi]; exact h1, by rw [Dk.St.bytesOf, if_neg (by rw [hd]; decide), if_pos hi]; exact hfull⟩, h2⟩
    · have c4 := h0.cells.c4
      rw [hd] at c4
      refine (read_out w b i _ _ _ c4 h0.cells.c0 hi).mono ?_
      rintro e w' ⟨rfl, rfl⟩
      exact ⟨_, by rw [Dk.St.errOf, if_neg (by rw [hd]; decide), if_neg hi], .inl ⟨rfl, by rw [Dk.St.bytesOf, if_neg (by rw [hd]; decide), if_neg hi]⟩, Below.refl _ _⟩
theorem rread_full (w : World) (S I : Nat → Prop) (x : Nat) (d : Dk.St) (h : RefAt w S I x d) (hm : d.waits.length ≤ 1000000) (i : Int) :
    Calls Try.prog 26 #[.pointer (some ⟨x, 0, none⟩), .int .i64 i] w fun e w' => ∃ v, e = .returned (.tuple #[v, .int .i64 (d.errOf i)]) ∧ BytesAt w' v (d.bytesOf i) ∧ Below w.heap.size w w' := by
  obtain ⟨lv, wv, kv, ls, vs, lit, left, p, h0⟩ := id h
  cases hd : d.dead with
  | true =>
    have c3 := h0.c3
    rw [hd] at c3
    refine (rread_dead w x i c3).mono ?_
    rintro e w' ⟨rfl, rfl⟩
    exact ⟨_, by rw [Dk.St.errOf, if_pos hd], by rw [Dk.St.bytesOf, if_pos hd]; exact BytesAt.nil _ 0, Below.refl _ _⟩
  | false =>
    by_cases hi : 0 ≤ i ∧ i < d.lasts.length
    · obtain ⟨k, rfl⟩ := Int.eq_ofNat_of_zero_le hi.1
      have hk : k < d.lasts.length := by omega
      refine (rread_at w S I x d h hd hm k hk).mono ?_
      rintro e w' ⟨V, cap, rfl, _, h1, h2⟩
      exact ⟨_, by rw [Dk.St.errOf, if_neg (by rw [hd]; decide), if_pos hi], by rw [Dk.St.bytesOf, if_neg (by rw [hd]; decide), if_pos hi]; exact h1, h2⟩
    · have c3 := h0.c3
      rw [hd] at c3
      obtain ⟨A, c, rfl⟩ := h0.lform
      refine (rread_out w x i _ _ _ c3 h0.c0 hi).mono ?_
      rintro e w' ⟨rfl, rfl⟩
      exact ⟨_, by rw [Dk.St.errOf, if_neg (by rw [hd]; decide), if_neg hi], by rw [Dk.St.bytesOf, if_neg (by rw [hd]; decide), if_neg hi]; exact BytesAt.nil _ 0, Below.refl _ _⟩
theorem Lies.wvform {w : World} {S R : Nat → Prop} {b L cap : Nat} {wv : Value} {M : Nat} {kv : Value} {d : Dk.St} (h : Lies w S R b L cap wv M kv d) : ∃ A c, wv = .slice A d.waits.length c := by
  rcases h.waits.2 with ⟨rfl, h0⟩ | ⟨V, cap, cur, rfl, _⟩
  · exact ⟨_, _, by rw [h0]⟩
  · exact ⟨_, _, rfl⟩
theorem quiet_same {f : FuncId} {args : Array Value} {w : World} {n : Nat} {v : Value} (h : Calls Try.prog f args (w.drewN n) fun e w' => e = .returned v ∧ w.drewN n = w') : Calls Try.prog f args (w.drewN n) fun e w'' => e = .returned v ∧ ∃ m, w'' = w.drewN m :=
  h.mono fun _ _ ⟨he, hm⟩ => ⟨he, n, hm.symm⟩
theorem told_any (w : World) (S R S' I : Nat → Prop) (b x : Nat) (d : Dk.St) (h : DiskAt w S R b d) (h' : RefAt w S' I x d) (hm : d.waits.length ≤ 1000000) :
    Calls Try.prog 12 #[.pointer (some ⟨b, 0, none⟩), .pointer (some ⟨x, 0, none⟩)] w fun e w' => e = .returned (.bool true) ∧ Below w.heap.size w w' := by
  obtain ⟨L, cap, wv, M, kv, h0⟩ := id h
  obtain ⟨lv', wv', kv', ls, vs, lit, left, p, h1⟩ := id h'
  have c0 := h0.cells.c0
  have c3 := h0.cells.c3
  have c4 := h0.cells.c4
  obtain ⟨Aw, cw, hwf⟩ := h0.wvform
  have c1 := h0.cells.c1
  rw [hwf] at c1
  have q2 := h1.c2
  have q3 := h1.c3
  have H := Lib.hid h
  have H' := Lib.hid h'
  clear h h' h0 h1 hwf
  go_enter Try.func12, Try.ntmps12
  go_wp2_with fail
  go_quiet (first
    | (go_at_call 9; exact quiet_same (len_any _ _ _ _ _ c0))
    | (go_at_call 19; exact quiet_same (waits_any _ _ _ _ _ c1))
    | (go_at_call 20; exact quiet_same (done_any _ _ _ c3))
    | (go_at_call 21; exact quiet_same (dead_any _ _ _ c4))
    | (go_at_call 34; exact quiet_same (rlen_any _ S' I x d (H'.out.keep ((Fr.refl noB w).drewN _) (fun _ e => e.elim))))
    | (go_at_call 35; exact quiet_same (rwaits_any _ S' I x d (H'.out.keep ((Fr.refl noB w).drewN _) (fun _ e => e.elim)))))
  have HB0 : Hid (Below w.heap.size w (w.drewN nq)) := Lib.hid ⟨rfl, rfl, rfl, Nat.le_refl _, fun _ _ => rfl⟩
  clear c0 c1 c3 c4 q2 q3
  generalize w.drewN nq = w0 at *
  go_wp2_with fail
  go_loopw [5] (fun v wr => ∃ i : Int, v = .int .i64 i ∧ -1 ≤ i ∧ i ≤ 40 ∧ Hid (Below w.heap.size w wr)) (fun v _ => (41 - intOf v).toNat)
  case atStart => exact ⟨-1, rfl, by omega, by omega, HB0⟩
  case round =>
    rename World => wr
    obtain ⟨i, rfl, hi0, hi1, HB⟩ := hrel
    have Hd := Lib.hid (H.out.keep (Fr.of_below HB.out noB) (fun _ e => e.elim))
    have Hx := Lib.hid (H'.out.keep (Fr.of_below HB.out noB) (fun _ e => e.elim))
    by_cases hl : i ≤ d.lasts.length
    · by_cases h40 : i < 40
      · go_wp2_with (first
          | (go_at_call 34; refine (rlen_any wr S' I x d Hx.out).mono ?_; rintro e w' ⟨rfl, rfl⟩)
          | fail)
        refine (read_full wr S R b d Hd.out i).mono ?_
        rintro e w2 ⟨v2, rfl, g2, b2⟩
        have hx2 := Hx.out.keep (Fr.of_below b2 noB) (fun _ e => e.elim)
        have B2 := Lib.hid b2
        have G2 := Lib.hid g2.bytes
        have HX2 := Lib.hid hx2
        clear g2 b2 hx2
        go_wp2_with fail
        refine (rread_full w2 S' I x d HX2.out hm i).mono ?_
        rintro e w3 ⟨v3, rfl, g3, b3⟩
        have hby := bytes_any w3 v2 v3 _ _ (G2.out.keep (Fr.of_below b3 noB) (fun _ _ _ _ e => e)) g3
        rw [decide_eq_true rfl] at hby
        have HBY := Lib.hid hby
        have B3 : Hid (Below w.heap.size w w3) := Lib.hid (HB.out.trans ((B2.out.mono HB.out.size).trans (b3.mono (by have := HB.out.size; have := B2.out.size; omega))))
        clear g3 b3 hby
        generalize d.errOf i = er at *
        go_wp2_with fail
        refine HBY.out.mono ?_
        rintro e w4 ⟨rfl, f4⟩
        have B4 : Hid (Below w.heap.size w w4) := Lib.hid (B3.out.trans (f4.below B3.out.size (fun _ e => e.elim)))
        clear f4
        go_wp2_with fail
        exact ⟨⟨i + 1, rfl, by omega, by omega, B4⟩, by simp only [intOf]; omega⟩
      · go_wp2_with (first
          | (go_at_call 34; refine (rlen_any wr S' I x d Hx.out).mono ?_; rintro e w' ⟨rfl, rfl⟩)
          | fail)
        go_ret
        exact ⟨rfl, HB.out⟩
    · go_wp2_with (first
        | (go_at_call 34; refine (rlen_any wr S' I x d Hx.out).mono ?_; rintro e w' ⟨rfl, rfl⟩)
        | fail)
      go_ret
      exact ⟨rfl, HB.out⟩
end Go.Proofs.Ytpgpalnnmoanpaa

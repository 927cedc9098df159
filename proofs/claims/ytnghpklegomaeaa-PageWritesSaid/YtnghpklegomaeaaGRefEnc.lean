/-
  The document's own Encode.
-/
import Derived.Test.YtnghpklegomaeaaGRefEight
namespace Go.Proofs.Ytnghpklegomaeaa
open Go.RowKit Go.Maps

theorem OwnV.low {w : World} {B B' : Nat} {v : Value} {L : List UInt8} (h : OwnV w B v L) (hb : B' ≤ B) : OwnV w B' v L := by
  refine ⟨h.1, ?_⟩
  rcases h.2 with hn | ⟨g, cap, cur, hv, hg, rest⟩
  · exact .inl hn
  · exact .inr ⟨g, cap, cur, hv, by omega, rest⟩
theorem OwnV.at_ {w : World} {B : Nat} {v : Value} {L : List UInt8} (h : OwnV w B v L) (N : Nat) (hN : L.length = N) : ∃ A c, v = .slice A N c ∧ (A = none → c = 0) ∧ (L.length ≤ 140737488355328 → Rd w w.heap.size A L) := by
  subst hN
  exact h.form
theorem OwnV.two (w : World) (B : Nat) (hB : B ≤ w.heap.size) (n m : Int) (x y : UInt8) (hn : n = (x.toNat : Int)) (hm : m = (y.toNat : Int)) : OwnV (w.alloc (.cells #[.int .u8 n, .int .u8 m] 5)) B (.slice (some ⟨w.heap.size, 0, none⟩) 2 2) [x, y] := by
  subst hn hm
  exact (Own.of_has (L := [x, y]) (Has.of_alloc _ _ _) B hB rfl (by simp)).row
def REnc (w : World) (L : List UInt8) (e : Ending) (w' : World) : Prop := ∃ v, e = .returned (.tuple #[v, .int .i64 0]) ∧ OwnV w' w.heap.size v L ∧ Below w.heap.size w w'

theorem rencode_bad (w : World) (n : Int) (A : Option Addr) (k c : Nat) (hk : k ≤ 140737488355328) (h : ¬ (0 ≤ n ∧ n ≤ 16383) ∨ 502 < k) :
    Calls Try.prog 14 #[.int .i64 n, .slice A k c] w fun e w' => e = .returned (.tuple #[.slice none 0 0, .int .i64 1]) ∧ w = w' := by
  by_cases h0 : n < 0
  · clear h
    go_enter Try.func14, Try.ntmps14
    go_wp2_with fail
    go_ret2
    exact ⟨rfl, rfl⟩
  · have h0' : decide (n < 0) = false := decide_eq_false h0
    by_cases h1 : 16383 < n
    · clear h h0
      go_enter Try.func14, Try.ntmps14
      go_wp2_with fail
      go_ret2
      exact ⟨rfl, rfl⟩
    · have h1' : decide (16383 < n) = false := decide_eq_false h1
      have h2 : (502 : Int) < (k : Int) := by omega
      clear h h0 h1
      go_enter Try.func14, Try.ntmps14
      go_wp2_with fail
      go_ret2
      exact ⟨rfl, rfl⟩

def RestRel (w : World) (l : List UInt8) (r : Nat) (v : Value) (wr : World) : Prop := OwnV wr w.heap.size v (Pg.be 2 l.length ++ l ++ List.replicate r 0) ∧ Below w.heap.size w wr
def lenV : Value → Nat
  | .slice _ n _ => n
  | _ => 0

set_option maxHeartbeats 1600000 in
theorem rencode_ok (w : World) (n : Nat) (hn : n ≤ 16383) (A : Option Addr) (l : List UInt8) (c : Nat) (hl : l.length ≤ 502) (h : Rd w w.heap.size A l) (hA : A = none → c = 0) :
    Calls Try.prog 14 #[.int .i64 n, .slice A l.length c] w (REnc w (Pg.made n l)) := by
  have H := Lib.hid h
  have HA := Lib.hid hA
  clear h hA
  have hl' : (l.length : Int) ≤ 502 := by omega
  have b1 : ((l.length : Int) / 256) = ((UInt8.ofNat (l.length / 256 % 256)).toNat : Int) := by
    rw [UInt8.toNat_ofNat', Nat.mod_eq_of_lt (a := l.length / 256 % 256) (Nat.mod_lt _ (by decide))]; omega
  have b2 : ((l.length : Int) % 256) = ((UInt8.ofNat (l.length % 256)).toNat : Int) := by
    rw [UInt8.toNat_ofNat', Nat.mod_eq_of_lt (a := l.length % 256) (Nat.mod_lt _ (by decide))]; omega
  have HB1 := Lib.hid b1
  have HB2 := Lib.hid b2
  clear b1 b2
  go_enter Try.func14, Try.ntmps14
  go_wp2_with (refine wpList_append_v rfl (.tmp 28) (.tmp 29) rfl w.heap.size (.slice (some ⟨w.heap.size, 0, none⟩) 2 2) (Pg.be 2 l.length) rfl (by rw [Pg.be2]; exact OwnV.two w _ (Nat.le_refl _) _ _ _ _ HB1.out HB2.out) w.heap.size A l c rfl (H.out.below ((Below.refl _ _).alloc (Nat.le_refl _) _)) HA.out (by rw [Pg.be_length]; omega) (by simp) w ((Below.refl _ _).alloc (Nat.le_refl _) _) ?_; intro v1 w1 O1 B1)
  go_loopw [6] (fun v wr => ∃ r : Nat, 2 + l.length + r ≤ 504 ∧ RestRel w l r v wr) (fun v _ => 504 - lenV v)
  case atStart => exact ⟨0, by omega, by simpa using O1.out, B1.out⟩
  case round =>
    rename_i wr
    obtain ⟨r, hr, hrel⟩ := hrel
    obtain ⟨Ar, cr, rfl, hAr, hRr⟩ := hrel.1.at_ (2 + l.length + r) (by simp [Pg.be_length]; omega)
    have HR := Lib.hid hrel
    have HRr := Lib.hid hRr
    have HAr := Lib.hid hAr
    clear hrel hRr hAr
    by_cases hlt : 2 + l.length + r < 504
    · have hlt' : ((2 + l.length + r : Nat) : Int) < 504 := by omega
      have hll : (Pg.be 2 l.length ++ l ++ List.replicate r 0).length = 2 + l.length + r := by simp [Pg.be_length]; omega
      have HLL := Lib.hid hll
      clear hll
      generalize hM : 2 + l.length + r = M at *
      have HM := Lib.hid hM
      clear hM
      go_wp2_with (refine wpList_append_v rfl (.tmp 34) (.tmp 35) rfl w.heap.size _ (Pg.be 2 l.length ++ l ++ List.replicate r 0) rfl (HR.out.1.alloc _) _ (some ⟨wr.heap.size, 0, none⟩) [0] 1 rfl (rd_one wr 0 0 rfl) (fun e => by cases e) (by rw [HLL.out]; simp only [List.length_cons, List.length_nil]; omega) (by have := HR.out.2.size; simp; omega) w (HR.out.2.alloc HR.out.2.size _) ?_; intro v2 w2 O2 B2)
      have hnx : RestRel w l (r + 1) v2 w2 := ⟨by
        have := O2.out
        rw [List.append_assoc, ← List.replicate_succ'] at this
        exact this, B2.out⟩
      obtain ⟨A2, c2, hv2, _⟩ := hnx.1.at_ (M + 1) (by simp [Pg.be_length]; have := HM.out; omega)
      have HN := Lib.hid hnx
      have HV := Lib.hid hv2
      clear hnx hv2
      go_roundw
      case rel => exact ⟨r + 1, by have := HM.out; omega, HN.out⟩
      case measure => rw [HV.out]; simp [lenV]; omega
    · have hrr : r = 502 - l.length := by omega
      subst hrr
      have h504 : 2 + l.length + (502 - l.length) = 504 := by omega
      have hll : (Pg.rest l).length = 504 := Pg.rest_length l hl
      have hO : OwnV wr w.heap.size (.slice Ar (2 + l.length + (502 - l.length)) cr) (Pg.rest l) := HR.out.1
      have hRd : Rd wr wr.heap.size Ar (Pg.rest l) := HRr.out (by have : (Pg.rest l).length = 504 := hll; unfold Pg.rest at this; omega)
      rw [h504] at hO ⊢
      have BW : Hid (Below w.heap.size w wr) := Lib.hid HR.out.2
      have RW := Lib.hid hRd
      have HLL := Lib.hid hll
      have hmk : Pg.made n l = Pg.be 8 (Pg.sum (Pg.be 8 n ++ Pg.rest l)) ++ Pg.rest l := rfl
      have hsl := Pg.sum_lt (Pg.be 8 n ++ Pg.rest l)
      have hl12 : (Pg.be 8 n ++ Pg.rest l).length = 512 := by rw [List.length_append, Pg.be_length, hll]
      have HL12 := Lib.hid hl12
      have HMK := Lib.hid hmk
      clear hO hRd hll hmk hl12 HR HRr hlt hr h504
      generalize Pg.rest l = R at *
      go_wp2_with fail
      refine (eight_any wr n (by omega)).mono ?_
      rintro e w3 ⟨v3, rfl, o3, b3⟩
      obtain ⟨A3, c3, rfl, _⟩ := o3.at_ 8 (Pg.be_length 8 n)
      have O3 := Lib.hid o3
      have B3 := Lib.hid b3
      clear o3 b3
      go_wp2_with (refine wpList_append_v rfl (.tmp 39) (.tmp 40) rfl wr.heap.size _ (Pg.be 8 n) rfl O3.out wr.heap.size Ar R cr (by rw [HLL.out]; rfl) (RW.out.below B3.out) HAr.out (by rw [HLL.out, Pg.be_length]; omega) B3.out.size wr B3.out ?_; intro v4 w4 O4 B4)
      obtain ⟨A4, c4, rfl, _, h4⟩ := O4.out.at_ 512 HL12.out
      have hs4 := rsum_any w4 A4 (Pg.be 8 n ++ R) c4 _ (h4 (by rw [HL12.out]; omega))
      rw [HL12.out] at hs4
      generalize Pg.sum (Pg.be 8 n ++ R) = s at *
      refine hs4.mono ?_
      rintro e w5 ⟨rfl, rfl⟩
      clear h4 hs4
      go_wp2_with fail
      refine (eight_any w4 s hsl).mono ?_
      rintro e w6 ⟨v6, rfl, o6, b6⟩
      have O6 := Lib.hid o6
      have B6 : Hid (Below wr.heap.size wr w6) := Lib.hid (B4.out.trans (b6.mono B4.out.size))
      have W6 : Hid (Below w4.heap.size w4 w6) := Lib.hid b6
      have V4 : Hid (Below w.heap.size w w4) := Lib.hid (BW.out.trans (B4.out.mono BW.out.size))
      clear o6 b6
      go_wp2_with (refine wpList_append_v rfl (.tmp 44) (.tmp 45) rfl w4.heap.size _ (Pg.be 8 s) rfl O6.out wr.heap.size Ar R cr (by rw [HLL.out]; rfl) (RW.out.below B6.out) HAr.out (by rw [HLL.out, Pg.be_length]; omega) W6.out.size w4 W6.out ?_; intro v7 w7 O7 B7)
      go_ret2
      refine ⟨v7, rfl, ?_, V4.out.trans (B7.out.mono V4.out.size)⟩
      rw [HMK.out]
      exact O7.out.low V4.out.size
end Go.Proofs.Ytnghpklegomaeaa

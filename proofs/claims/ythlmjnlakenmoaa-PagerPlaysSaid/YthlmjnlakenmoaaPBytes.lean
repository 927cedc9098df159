/-
  A number in eight bytes, written behind others and read; a meta's payload.
-/
import Derived.Test.YthlmjnlakenmoaaPMath
import Derived.Test.YthlmjnlakenmoaaOwn
import Derived.Test.YthlmjnlakenmoaaGPut
import Derived.Laws.Bits64b
namespace Go.Proofs.Ythlmjnlakenmoaa
open Go.RowKit Go.Maps
set_option maxRecDepth 100000

theorem shr_byte (x q : Nat) (hq : q ≤ 7) : (Pr.sint x / 2 ^ (8 * q)) % 256 = ((UInt8.ofNat (x / 256 ^ q % 256)).toNat : Int) := by
  rw [UInt8.toNat_ofNat', Nat.mod_eq_of_lt (a := x / 256 ^ q % 256) (Nat.mod_lt _ (by decide))]
  unfold Pr.sint
  split
  · have : q = 0 ∨ q = 1 ∨ q = 2 ∨ q = 3 ∨ q = 4 ∨ q = 5 ∨ q = 6 ∨ q = 7 := by omega
    rcases this with rfl | rfl | rfl | rfl | rfl | rfl | rfl | rfl <;> simp <;> omega
  · have : q = 0 ∨ q = 1 ∨ q = 2 ∨ q = 3 ∨ q = 4 ∨ q = 5 ∨ q = 6 ∨ q = 7 := by omega
    rcases this with rfl | rfl | rfl | rfl | rfl | rfl | rfl | rfl <;> simp <;> omega

def AppRel (w : World) (B : Nat) (L : List UInt8) (x r : Nat) (v : Value) (wr : World) : Prop := OwnV wr B v (L ++ (Pg.be 8 x).take r) ∧ Below B w wr
theorem appended_any (w : World) (B : Nat) (hB : B ≤ w.heap.size) (v : Value) (L : List UInt8) (h : OwnV w B v L) (hL : L.length ≤ 1000000) (x : Nat) :
    Calls Try.prog 68 #[v, .int .i64 (Pr.sint x)] w fun e w' => ∃ v', e = .returned v' ∧ OwnV w' B v' (L ++ Pg.be 8 x) ∧ Below B w w' := by
  have H := Lib.hid h
  clear h
  go_enter Try.func68, Try.ntmps68
  go_wp2_with fail
  go_loopw [0, 5] (fun v i wr => ∃ (r : Nat) (z : Int), r ≤ 8 ∧ z = 56 - 8 * (r : Int) ∧ i = .int .i64 z ∧ AppRel w B L x r v wr) (fun _ i _ => (intOf i + 8).toNat)
  case atStart => exact ⟨0, 56, by omega, by omega, rfl, by simpa using H.out, Below.refl _ _⟩
  case round =>
    rename_i wr
    obtain ⟨r, z, hr, hz, rfl, hrel⟩ := hrel
    have HR := Lib.hid hrel
    clear hrel
    by_cases hlt : r < 8
    · obtain ⟨q, hq⟩ : ∃ q : Nat, q = 7 - r := ⟨_, rfl⟩
      obtain rfl : z = 8 * (q : Int) := by omega
      have hq7 : q ≤ 7 := by omega
      have hqz : 8 * (q : Int) ≤ 56 := by omega
      have HQ := Lib.hid hq
      clear hq hz
      have hlen : (L ++ (Pg.be 8 x).take r).length ≤ 1000008 := by rw [List.length_append, List.length_take]; omega
      have HB := Lib.hid (shr_byte x q hq7)
      go_wp2_with (refine wpList_append_v rfl (.tmp 10) (.tmp 15) rfl B _ (L ++ (Pg.be 8 x).take r) rfl (HR.out.1.alloc _) _ (some ⟨wr.heap.size, 0, none⟩) [UInt8.ofNat (x / 256 ^ q % 256)] 1 rfl (rd_one wr _ _ HB.out) (fun e => by cases e) (by simp only [List.length_cons, List.length_nil]; omega) (by have := HR.out.2.size; simp; omega) w (HR.out.2.alloc (by have := HR.out.2.size; omega) _) ?_; intro v2 w2 O2 B2)
      go_roundw
      case rel => exact ⟨r + 1, 8 * (q : Int) - 8, by omega, by have := HQ.out; omega, rfl, by
        have := HQ.out
        unfold AppRel
        rw [Pr.be_next 8 x r hlt, ← List.append_assoc, show 8 - 1 - r = q by omega]
        exact ⟨O2.out, B2.out⟩⟩
      case measure => (simp [intOf]) <;> omega
    · have hr8 : r = 8 := by omega
      subst hr8
      obtain rfl : z = -8 := by omega
      clear hz
      go_wp2_with fail
      go_ret
      have := HR.out.1
      rw [List.take_of_length_le (by rw [Pg.be_length]; omega)] at this
      exact ⟨_, rfl, this, HR.out.2⟩

theorem toN_mid (l : List UInt8) (k : Nat) (hk : k < l.length) : Pr.toN (l.take (k + 1)) = Pr.toN (l.take k) * 256 + l[k].toNat := by
  rw [List.take_succ_eq_append_getElem hk, Pr.toN_snoc]
theorem u64_cat (a : Nat) (ha : a < 72057594037927936) (c : UInt8) : bits .or .u64 ((a : Int) * 256) (c.toNat : Int) = ((a * 256 + c.toNat : Nat) : Int) := by
  have h2 := c.toNat_lt
  have e : a * 256 + c.toNat = a * 256 ||| c.toNat := by
    have := Nat.two_pow_add_eq_or_of_lt (i := 8) h2 a
    rwa [show 2 ^ 8 = 256 from rfl, Nat.mul_comm 256] at this
  rw [e, show ((a : Int) * 256) = ((a * 256 : Nat) : Int) by omega]
  exact bits_or_u64_nat _ _ (by omega) (by omega)
theorem wrap_u8 (c : UInt8) : IntKind.u64.wrap (c.toNat : Int) = (c.toNat : Int) := by
  have := c.toNat_lt
  rw [IntKind.wrap_u64]; omega
theorem conv_sint (x : Nat) (hx : x < 18446744073709551616) : IntKind.i64.wrap (x : Int) = Pr.sint x := by
  rw [IntKind.wrap_i64]; unfold Pr.sint; split <;> omega
theorem number_any (w : World) (B : Nat) (A : Option Addr) (l : List UInt8) (c : Nat) (hl : l.length = 8) (h : Rd w B A l) :
    Calls Try.prog 64 #[.slice A 8 c] w fun e w' => e = .returned (.int .i64 (Pr.sint (Pr.toN l))) ∧ w = w' := by
  have H := Lib.hid h
  have HL := Lib.hid hl
  clear h hl
  go_enter Try.func64, Try.ntmps64
  go_wp2_with fail
  go_loop [3, 8] (fun v i => ∃ k : Nat, k ≤ 8 ∧ i = .int .i64 k ∧ v = .int .u64 (Pr.toN (l.take k) : Int)) (fun _ i => 8 - (intOf i).toNat)
  case atStart => exact ⟨0, by omega, rfl, rfl⟩
  case round =>
    obtain ⟨k, hk, rfl, rfl⟩ := hrel
    by_cases hlt : k < 8
    · have hkl : k < l.length := by rw [HL.out]; exact hlt
      obtain ⟨g, o, rfl, hg, hc⟩ := H.out.at_ hkl
      have hb : Pr.toN (l.take k) < 72057594037927936 := by
        have := Pr.toN_lt (l.take k)
        rw [List.length_take, Nat.min_eq_left (by omega)] at this
        exact Nat.lt_of_lt_of_le this (Nat.le_trans (Nat.pow_le_pow_right (by decide) (by omega : k ≤ 7)) (by decide))
      have hcat := u64_cat _ hb l[k]
      have hn := toN_mid l k hkl
      have HN := Lib.hid hn
      unfold byt at hc
      clear hn
      generalize Pr.toN (l.take k) = a at *
      go_wp2_with fail
      go_round
      case rel => exact ⟨k + 1, by omega, rfl, by rw [HN.out, wrap_u8 l[k], hcat]⟩
      case measure => simp [intOf]; omega
    · have hk8 : k = 8 := by omega
      subst hk8
      have hx : Pr.toN (l.take 8) < 18446744073709551616 := by
        have := Pr.toN_lt (l.take 8)
        rw [List.length_take, HL.out] at this
        exact this
      have hcv := conv_sint _ hx
      have ht : l.take 8 = l := List.take_of_length_le (by rw [HL.out]; omega)
      rw [ht] at hcv hx ⊢
      generalize hX : Pr.toN l = x at *
      have HX := Lib.hid hX
      clear hX
      go_wp2_with fail
      go_ret
      exact ⟨by rw [HX.out]; rfl, rfl⟩
end Go.Proofs.Ythlmjnlakenmoaa

/-
  A number in eight bytes, as the document's own Encode makes it.
-/
import Derived.Test.YtnghpklegomaeaaGRefSum
namespace Go.Proofs.Ytnghpklegomaeaa
open Go.RowKit Go.Maps

def EightRel (w : World) (n r : Nat) (v : Value) (wr : World) : Prop := OwnV wr w.heap.size v ((Pg.be 8 n).take r) ∧ Below w.heap.size w wr

def EightPost (w : World) (n : Nat) (e : Ending) (w' : World) : Prop := ∃ v, e = .returned v ∧ OwnV w' w.heap.size v (Pg.be 8 n) ∧ Below w.heap.size w w'
set_option maxHeartbeats 800000 in
theorem eight_any (w : World) (n : Nat) (hn : n < 18446744073709551616) :
    Calls Try.prog 22 #[.int .u64 (n : Int)] w (EightPost w n) := by
  go_enter Try.func22, Try.ntmps22
  go_wp2_with fail
  go_loopw [3, 4] (fun v i wr => ∃ (r : Nat) (z : Int), r ≤ 8 ∧ z = 7 - (r : Int) ∧ i = .int .i64 z ∧ EightRel w n r v wr) (fun _ i _ => (intOf i + 1).toNat)
  case atStart => exact ⟨0, 7, by omega, by omega, rfl, OwnV.nil _ _, Below.refl _ _⟩
  case round =>
    rename_i wr
    obtain ⟨r, z, hr, hz, rfl, hrel⟩ := hrel
    have HR := Lib.hid hrel
    clear hrel
    by_cases hlt : r < 8
    · obtain ⟨i, rfl⟩ : ∃ i : Nat, z = (i : Int) := ⟨7 - r, by omega⟩
      have hi : i ≤ 7 := by omega
      have hz7 : (i : Int) ≤ 7 := by omega
      have HZ : Hid (i = 8 - 1 - r) := Lib.hid (by omega)
      clear hz
      go_wp2_with fail
      go_loop [5, 6] (fun x k => ∃ q : Nat, q ≤ i ∧ k = .int .i64 q ∧ x = .int .u64 ((n / 256 ^ q : Nat) : Int)) (fun _ k => i - (intOf k).toNat)
      case atStart => exact ⟨0, by omega, rfl, by simp⟩
      case round =>
        obtain ⟨q, hq, rfl, rfl⟩ := hrel
        have hv1 : n / 256 ^ q < 18446744073709551616 := Nat.lt_of_le_of_lt (Nat.div_le_self _ _) hn
        generalize hx : n / 256 ^ q = x at *
        have HX := Lib.hid hx
        clear hx
        by_cases hqi : q < i
        · go_wp2_with fail
          go_round
          case rel => exact ⟨q + 1, by omega, by go_num, by rw [Nat.pow_succ, ← Nat.div_div_eq_div_mul, HX.out]; rfl⟩
          case measure => simp [intOf]; omega
        · have hqq : q = i := by omega
          subst hqq
          have hbx : ((x : Int) % 256) = ((UInt8.ofNat (n / 256 ^ q % 256)).toNat : Int) := by
            rw [HX.out, UInt8.toNat_ofNat', Nat.mod_eq_of_lt (a := x % 256) (Nat.mod_lt _ (by decide))]
            rfl
          have HBX := Lib.hid hbx
          clear hbx
          have hlen : ((Pg.be 8 n).take r).length ≤ 8 := by rw [List.length_take]; omega
          go_wp2_with (refine wpList_append_v rfl (.tmp 19) (.tmp 23) rfl w.heap.size _ ((Pg.be 8 n).take r) rfl (HR.out.1.alloc _) _ (some ⟨wr.heap.size, 0, none⟩) [UInt8.ofNat (n / 256 ^ q % 256)] 1 rfl (rd_one wr _ _ HBX.out) (fun e => by cases e) (by simp only [List.length_cons, List.length_nil]; omega) (by have := HR.out.2.size; simp; omega) w (HR.out.2.alloc HR.out.2.size _) ?_; intro v2 w2 O2 B2)
          go_roundw
          case rel => exact ⟨r + 1, (q : Int) - 1, by omega, by have := HZ.out; omega, rfl, by have := HZ.out; unfold EightRel; rw [be_take 8 n r hlt, ← this]; exact ⟨O2.out, B2.out⟩⟩
          case measure => (simp [intOf]) <;> omega
    · have hr8 : r = 8 := by omega
      subst hr8
      obtain rfl : z = -1 := by omega
      clear hz
      go_wp2_with fail
      go_ret
      refine ⟨_, rfl, ?_⟩
      have h := HR.out
      unfold EightRel at h
      rw [List.take_of_length_le (by rw [Pg.be_length]; omega)] at h
      exact h
end Go.Proofs.Ytnghpklegomaeaa

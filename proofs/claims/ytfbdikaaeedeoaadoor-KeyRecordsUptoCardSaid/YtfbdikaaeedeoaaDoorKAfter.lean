/-
  What stands behind a beginning, as the program has it.
-/
import Derived.Test.YtfbdikaaeedeoaaDoorKPart
import Derived.Deep.CutRange
import Derived.Deep.CutBlock
namespace Go.Proofs.YtfbdikaaeedeoaaDoor
open Go.RowKit Go.Maps
set_option maxRecDepth 100000

theorem str_take (l : List UInt8) (n : Nat) : (ByteArray.mk l.toArray).extract 0 n = ⟨(l.take n).toArray⟩ := by
  apply ByteArray.ext
  rw [ByteArray.data_extract]
  simp
theorem str_drop (l : List UInt8) (n : Nat) : (ByteArray.mk l.toArray).extract n l.length = ⟨(l.drop n).toArray⟩ := by
  apply ByteArray.ext
  rw [ByteArray.data_extract]
  simp [List.take_of_length_le]
theorem str_app (a b : List UInt8) : ByteArray.mk a.toArray ++ ByteArray.mk b.toArray = ⟨(a ++ b).toArray⟩ := by
  apply ByteArray.ext
  simp
theorem u8_eq' (k c : UInt8) : ((k.toNat : Int) == (c.toNat : Int)) = decide (k = c) := by
  by_cases h : k = c
  · subst h; simp
  · rw [decide_eq_false h]
    exact beq_eq_false_iff_ne.2 fun e => h (UInt8.toNat_inj.1 (by omega))
def vlen : Value → Nat
  | .string b => b.size
  | _ => 0
theorem idx_last (q : List UInt8) (b : UInt8) (h : q.length < (ByteArray.mk (q ++ [b]).toArray).size) : (ByteArray.mk (q ++ [b]).toArray)[q.length]'h = b := by
  show (q ++ [b]).toArray[q.length] = b
  simp
set_option maxHeartbeats 1600000 in
theorem after_any (w : World) (s : List UInt8) (hm : s.length ≤ 900000000) :
    Calls Tryd.prog 18 #[bstr s] w fun e w' => e = .returned (bstr (Ky.after s)) ∧ Below w.heap.size w w' := by
  have hm' : (s.length : Int) ≤ 900000000 := by omega
  unfold bstr
  go_enter Tryd.func18, Tryd.ntmps18
  go_wp2_with fail
  go_loop [0] (fun x => ∃ r : List UInt8, r.length ≤ s.length ∧ x = .string ⟨r.toArray⟩ ∧ Hid (Ky.strip s = Ky.strip r)) (fun x => vlen x)
  case atStart => exact ⟨s, Nat.le_refl _, rfl, Lib.hid rfl⟩
  case round =>
    obtain ⟨r, hr, rfl, hst⟩ := hrel
    have hrm : (r.length : Int) ≤ 900000000 := by omega
    rcases List.eq_nil_or_concat r with rfl | ⟨q, b, rfl⟩
    · have ha : Hid (Ky.after s = []) := Lib.hid (by unfold Ky.after; rw [hst.out]; rfl)
      go_wp2_with fail
      go_ret
      exact ⟨by rw [ha.out]; rfl, Below.refl _ _⟩
    · rw [List.concat_eq_append] at *
      have hq : (q ++ [b]).length = q.length + 1 := by simp
      have hst2 := hst.out
      rw [Ky.strip_snoc] at hst2
      have hsz : q.length < (ByteArray.mk (q ++ [b]).toArray).size := by simp [ByteArray.size]
      have hix := idx_last q b hsz
      by_cases hb : b = 255
      · subst hb
        rw [if_pos rfl] at hst2
        have HST := Lib.hid hst2
        have HQ : Hid (q.length ≤ s.length) := Lib.hid (by omega)
        have HVL : Hid (vlen (.string ⟨q.toArray⟩) < vlen (.string ⟨(q ++ [255]).toArray⟩)) := Lib.hid (by simp [vlen, ByteArray.size])
        clear hst2 hst
        go_wp2_with fail
        rw [str_take, List.take_append_of_le_length (Nat.le_refl _), List.take_length]
        refine ⟨⟨q, HQ.out, rfl, HST⟩, HVL.out⟩
      · rw [if_neg hb] at hst2
        have HA : Hid (Ky.after s = q ++ [b + 1]) := Lib.hid (by unfold Ky.after; rw [hst2]; simp)
        have hb1 : ((b.toNat : Int) == 255) = false := (u8_eq' b 255).trans (decide_eq_false hb)
        have hb2 : (b.toNat : Int) < 255 := by
          have h1 := b.toNat_lt
          have h2 : b.toNat ≠ 255 := fun e => hb (UInt8.toNat_inj.1 (by rw [e]; rfl))
          omega
        clear hst hst2 hb
        have hie : (q ++ [b]).isEmpty = false := by simp
        have hn1 : (b.toNat : Int) + 1 = ((b + 1).toNat : Int) := by
          rw [UInt8.toNat_add, show (1 : UInt8).toNat = 1 from rfl]
          omega
        have hcv := conv_rd (w.alloc (.cells #[.int .u8 ((b.toNat : Int) + 1)] 5)).drew _ (some ⟨w.heap.size, 0, none⟩) [b + 1] 1 (rd_one w ((b.toNat : Int) + 1) (b + 1) hn1)
        rw [show ([b + 1] : List UInt8).length = 1 from rfl] at hcv
        clear hn1
        unfold bstr at hcv
        go_upto_region 6 with fail
        clear hb1 hie
        go_region
        all_goals (go_wp2; go_ret; rw [str_take, List.take_append_of_le_length (Nat.le_refl _), List.take_length]; exact ⟨by rw [HA.out, show (ByteArray.mk (q ++ [b + 1]).toArray) = ByteArray.mk q.toArray ++ ByteArray.mk #[b + 1] from (str_app q [b + 1]).symm]; rfl, ((Below.refl _ _).alloc (Nat.le_refl _) _).drew⟩)
end Go.Proofs.YtfbdikaaeedeoaaDoor

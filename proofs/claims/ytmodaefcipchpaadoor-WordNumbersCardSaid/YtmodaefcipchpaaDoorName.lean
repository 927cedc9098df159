/-
  What Name answers: the program's.
-/
import Derived.Test.YtmodaefcipchpaaDoorSpan
import Derived.Test.YtmodaefcipchpaaDoorMath
namespace Go.Proofs.YtmodaefcipchpaaDoor
open Go.RowKit

theorem kinds_list : kindsArr.toList = (List.range 256).map fun b => Value.int .u8 (Sp.kind b) := by kernel_rfl
theorem kinds_at (b : Nat) (h : b < 256) : kindsArr[b]? = some (.int .u8 (Sp.kind b)) := by
  rw [← Array.getElem?_toList, kinds_list]
  simp [h]

theorem ret_bool {a b : Bool} (h : a = b) : Ending.returned (.bool a) = .returned (.bool b) := by rw [h]

/-- the world in which the table lies in the block N -/
def tabWorld (w : World) : World := w.alloc (.cells kindsArr 37)
theorem tab_cell (w : World) (b : Nat) (h : b < 256) : (tabWorld w).cell? ⟨w.heap.size, b, none⟩ = some (.int .u8 (Sp.kind b)) := by
  unfold tabWorld
  rw [World.cell?_alloc_at _ _ _ _ rfl]; exact kinds_at b h
theorem tab_store (w : World) : (w.alloc (.cells zeros 37)).setRow w.heap.size kindsArr = tabWorld w := World.setRow_alloc_new _ _ _ _
theorem tab_below {B : Nat} {w w' : World} (h : Below B w w') (hB : B ≤ w'.heap.size) : Below B w (tabWorld w') := h.alloc hB _

theorem zeros_new (w : World) : (w.alloc (.cells zeros 37)).heap[w.heap.size]? = some (.cells zeros 37 (0, 0)) := heap_alloc_new w _

theorem beq5 (n : Nat) : ((n : Int) == 5) = (n == 5) := by rw [Bool.eq_iff_iff]; simp; omega

theorem nameB_iff (s : ByteArray) (h1 : 1 ≤ s.size) (h2 : s.size ≤ 32) (h : ∀ j, j < s.size → 4 ≤ Sp.kind (Sp.bt s j)) (hl : ∀ j, Sp.kind (Sp.bt s j) ≤ 5) : Sp.nameB s = (Sp.kind (Sp.bt s 0) == 5) := by
  by_cases h0 : Sp.kind (Sp.bt s 0) = 5
  · rw [Sp.nameB_yes s h1 h2 (fun i hi => ?_), h0]; rfl
    have := h i hi; have := hl i
    unfold Sp.okAt
    by_cases e : i = 0
    · subst e; exact .inl h0
    · by_cases e5 : Sp.kind (Sp.bt s i) = 5
      · exact .inl e5
      · exact .inr ⟨by omega, e⟩
  · rw [Sp.nameB_no s 0 (by omega) (fun hh => by unfold Sp.okAt at hh; omega)]
    simp [h0]

set_option maxHeartbeats 800000 in
set_option maxRecDepth 100000 in
theorem name_any (s : ByteArray) (w : World) (hs : s.size ≤ maxLen) :
    Calls Tryd.prog 7 #[.string s] w fun e w' => e = .returned (.bool (Sp.nameB s)) ∧ Below w.heap.size w w' := by
  unfold maxLen at hs
  have hz := (zero_of_info info256).1
  by_cases h0 : s.size < 1 ∨ 32 < s.size
  · have hn : Sp.nameB s = false := by
      unfold Sp.nameB; simp; intro a b; omega
    rw [hn]; clear hn
    rcases h0 with h0 | h0
    · go_enter Tryd.func7, Tryd.ntmps7
      go_wp2_with fail
      all_goals (go_ret; exact ⟨rfl, Below.refl _ _⟩)
    · have h1 : 1 ≤ s.size := by omega
      go_enter Tryd.func7, Tryd.ntmps7
      go_wp2_with fail
      all_goals (go_ret; exact ⟨rfl, Below.refl _ _⟩)
  · have h1 : 1 ≤ s.size := by omega
    have h2 : s.size ≤ 32 := by omega
    clear h0
    go_enter Tryd.func7, Tryd.ntmps7
    go_wp2_with fail
    refine (byteKinds_any w).mono ?_
    rintro e w1 ⟨rfl, hb⟩
    have Hb := Lib.hid hb
    have hsz := hb.size
    clear hb
    go_wp2_with (first
      | (refine wpList_store_row rfl 37 (.tmp 3) (.tmp 13) rfl w1.heap.size kindsArr rfl rfl 37 zeros ?_ size256 (by simp [kinds_size, zeros_size]) kinds_one ?_; (· exact zeros_new w1); rw [tab_store w1])
      | fail)
    have Hw := Lib.hid (tab_below Hb.out (by omega))
    clear Hb hz
    go_loop [16] (fun i => ∃ k : Nat, k ≤ s.size ∧ i = .int .i64 k ∧ ∀ j, j < k → 4 ≤ Sp.kind (Sp.bt s j)) (fun i => s.size - (intOf i).toNat)
    case atStart => exact ⟨0, Nat.zero_le _, rfl, fun j hj => absurd hj (Nat.not_lt_zero j)⟩
    case round =>
      obtain ⟨k, hk, rfl, hall⟩ := hrel
      have Hall := Lib.hid hall
      clear hall
      by_cases hlt : k < s.size
      · have hb := Sp.bt_get s k hlt
        have hc := tab_cell w1 (s[k]'hlt).toNat (UInt8.toNat_lt _)
        have Hb := Lib.hid hb
        clear hb
        have hlt8 : ((s[k]'hlt).toNat : Int) < 256 := by have := UInt8.toNat_lt (s[k]'hlt); omega
        go_wp2
        all_goals first
          | (go_round
             case rel => exact ⟨k + 1, by omega, by go_num, fun j hj => by
               by_cases e : j = k
               · subst e; rw [Hb.out]; omega
               · exact Hall.out j (by omega)⟩
             case measure => simp [intOf]; omega)
          | (go_ret; exact ⟨ret_bool (Sp.nameB_no s k hlt (by rw [Hb.out]; unfold Sp.okAt; omega)).symm, Hw.out⟩)
      · have hx : k = s.size := by omega
        have Hx := Lib.hid hx
        clear hx
        have hb := Sp.bt_get s 0 (by omega)
        have hc := tab_cell w1 (s[0]'(by omega)).toNat (UInt8.toNat_lt _)
        have Hb := Lib.hid hb
        clear hb
        have hlt8 : ((s[0]'(by omega)).toNat : Int) < 256 := by have := UInt8.toNat_lt (s[0]'(by omega)); omega
        have hfin := nameB_iff s h1 h2 (by rw [← Hx.out]; exact Hall.out) (fun j => Sp.kind_le _)
        rw [Hb.out] at hfin
        have Hfin := Lib.hid hfin
        clear hfin
        go_wp2
        go_ret
        exact ⟨ret_bool (by rw [Hfin.out]; exact beq5 _), Hw.out⟩
end Go.Proofs.YtmodaefcipchpaaDoor

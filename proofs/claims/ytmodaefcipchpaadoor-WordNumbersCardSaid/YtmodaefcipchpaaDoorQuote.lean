/-
  What Quote answers: the program's.
-/
import Derived.Test.YtmodaefcipchpaaDoorPut
import Derived.StillTailTactics
import Derived.Deep.QuietTactic
import Derived.BigQuiet
namespace Go.Proofs.YtmodaefcipchpaaDoor
open Go.RowKit

/-- the two digits' letters -/
def hexd (n : Nat) : Int := if n < 10 then 48 + n else 87 + n
/-- how a byte is quoted -/
def Sp.qb (b : Nat) : List Int :=
  if Sp.kind b = 0 then [92, 120, hexd (b / 16), hexd (b % 16)] else if Sp.kind b = 1 then [92, 110] else if Sp.kind b = 2 then [92, (b : Int)] else [(b : Int)]
/-- the quoted text of the first k bytes, without its end -/
def Sp.qs (s : ByteArray) : Nat → List Int
  | 0 => [34]
  | k + 1 => Sp.qs s k ++ Sp.qb (Sp.bt s k)
def Sp.quote (s : ByteArray) : List Int := Sp.qs s s.size ++ [34]
theorem Sp.qb_len (b : Nat) : (Sp.qb b).length ≤ 4 := by
  unfold Sp.qb
  by_cases h0 : Sp.kind b = 0
  · rw [if_pos h0]; simp
  · by_cases h1 : Sp.kind b = 1
    · rw [if_neg h0, if_pos h1]; simp
    · by_cases h2 : Sp.kind b = 2
      · rw [if_neg h0, if_neg h1, if_pos h2]; simp
      · rw [if_neg h0, if_neg h1, if_neg h2]; simp
theorem Sp.qs_len (s : ByteArray) (k : Nat) : (Sp.qs s k).length ≤ 4 * k + 1 := by
  induction k with
  | zero => simp [Sp.qs]
  | succ k ih => have := Sp.qb_len (Sp.bt s k); simp only [Sp.qs, List.length_append]; omega

theorem hexd_byte (n : Nat) (h : n < 16) : 0 ≤ hexd n ∧ hexd n < 256 := by
  unfold hexd
  by_cases h' : n < 10
  · rw [if_pos h']; omega
  · rw [if_neg h']; omega
theorem Sp.qb_byte (b : Nat) (h : b < 256) : ∀ x ∈ Sp.qb b, 0 ≤ x ∧ x < 256 := by
  have h1 := hexd_byte (b / 16) (by omega)
  have h2 := hexd_byte (b % 16) (by omega)
  unfold Sp.qb
  intro x hx
  by_cases k0 : Sp.kind b = 0
  · rw [if_pos k0] at hx; simp only [List.mem_cons, List.not_mem_nil, or_false] at hx; omega
  · rw [if_neg k0] at hx
    by_cases k1 : Sp.kind b = 1
    · rw [if_pos k1] at hx; simp only [List.mem_cons, List.not_mem_nil, or_false] at hx; omega
    · rw [if_neg k1] at hx
      by_cases k2 : Sp.kind b = 2
      · rw [if_pos k2] at hx; simp only [List.mem_cons, List.not_mem_nil, or_false] at hx; omega
      · rw [if_neg k2] at hx; simp only [List.mem_cons, List.not_mem_nil, or_false] at hx; omega

/-- what holds at each round: the text, the table, and what was there before -/
structure QInv (w wr : World) (K T B : Nat) (l : List Int) : Prop where
  text : Holds wr T B l
  table : wr.heap[K]? = some (.cells kindsArr 37 (0, 0))
  below : Below w.heap.size w wr
  base : K < B
  old : w.heap.size ≤ K
  size : B ≤ wr.heap.size
  far : B ≤ T

theorem QInv.alloc {w wr : World} {K T B : Nat} {l : List Int} (h : QInv w wr K T B l) (o : Obj) : QInv w (wr.alloc o) K T B l :=
  ⟨h.text.alloc o, (Below.heap_alloc wr o K (by have := h.base; have := h.size; omega)).trans h.table, h.below.alloc (by have := h.old; have := h.base; have := h.size; omega) o, h.base, h.old, by have := h.size; show B ≤ (wr.heap.push o).size; simp; omega, h.far⟩
theorem QInv.drewN {w wr : World} {K T B : Nat} {l : List Int} (h : QInv w wr K T B l) (n : Nat) : QInv w (wr.drewN n) K T B l :=
  ⟨h.text.drewN n, h.table, ⟨h.below.os, h.below.tape, h.below.output, h.below.size, h.below.block⟩, h.base, h.old, h.size, h.far⟩
theorem QInv.put {w wa wb : World} {K T B : Nat} {l l' : List Int} (h : QInv w wa K T B l) (ht : Holds wb T B l') (hk : KeptBut B T wa wb) : QInv w wb K T B l' :=
  ⟨ht, (hk.block K h.base (by have := h.base; have := h.far; omega)).trans h.table,
   ⟨hk.os.trans h.below.os, hk.tape.trans h.below.tape, hk.output.trans h.below.output, Nat.le_trans h.below.size hk.size, fun k hk' => (hk.block k (by have := h.base; have := h.old; omega) (by have := h.base; have := h.old; have := h.far; omega)).trans (h.below.block k hk')⟩,
   h.base, h.old, Nat.le_trans h.size hk.size, h.far⟩

/-- parts that were just made are put behind the text -/
theorem put_new (w wr : World) (K T B m c : Nat) (l news : List Int) (cells : Array Value) (t : TypeId) (N : Nat) (hN : N = wr.heap.size) (h : QInv w wr K T B l) (hm : news.length = m)
    (hc : ∀ j, j < m → cells[j]? = some (.int .u8 (news.getD j 0))) (hroom : l.length + m ≤ 70368744177664) :
    Calls Tryd.prog 24 #[.slice (some ⟨N, 0, none⟩) m c, .pointer (some ⟨T, 0, none⟩)] (wr.alloc (.cells cells t)) fun e w' =>
      e = .returned (.tuple #[]) ∧ QInv w w' K T B (l ++ news) := by
  subst hN
  have ha := h.alloc (.cells cells t)
  refine (put_any _ T B wr.heap.size m c l news ha.text ha.size hm (fun j hj => ?_) hroom).mono ?_
  · rw [World.cell?_alloc_at _ _ _ _ rfl]; exact hc j hj
  · rintro e w' ⟨he, ht, hk⟩
    exact ⟨he, ha.put ht hk⟩

theorem hex_all : ∀ n : Fin 16, ∀ h : n.val < ByteArray.size { data := #[48, 49, 50, 51, 52, 53, 54, 55, 56, 57, 97, 98, 99, 100, 101, 102] }, (((ByteArray.mk #[48, 49, 50, 51, 52, 53, 54, 55, 56, 57, 97, 98, 99, 100, 101, 102])[n.val]'h).toNat : Int) = hexd n.val := by decide +kernel
theorem hex_cell (d : Int) (n : Nat) (hd : d.toNat = n) (hn : n < 16) (h : d.toNat < ByteArray.size { data := #[48, 49, 50, 51, 52, 53, 54, 55, 56, 57, 97, 98, 99, 100, 101, 102] }) :
    some (Value.int .u8 (((ByteArray.mk #[48, 49, 50, 51, 52, 53, 54, 55, 56, 57, 97, 98, 99, 100, 101, 102])[d.toNat]'h).toNat : Int)) = some (Value.int .u8 (hexd n)) := by
  subst hd
  exact congrArg (fun x => some (Value.int .u8 x)) (hex_all ⟨d.toNat, hn⟩ h)

set_option maxHeartbeats 1600000 in
set_option maxRecDepth 100000 in
theorem quote_any (s : ByteArray) (w : World) (hs : s.size ≤ 16777216) :
    Calls Tryd.prog 14 #[.string s] w fun e w' => e = .returned (.string (strOfNums (Sp.quote s))) ∧ Below w.heap.size w w' := by
  have hz := (zero_of_info info256).1
  obtain ⟨i0, hi, hz0, hz1, hz2⟩ := info_parts info8
  have hmf : ∀ (fn : Fn) (first cap : Array Value) (w : World), (Instr.makeFunc fn first cap).run Tryd.prog w = .ok (.func fn first cap) w := fun _ _ _ _ => rfl
  go_enter Tryd.func14, Tryd.ntmps14
  go_wp2_with fail
  refine (byteKinds_any w).mono ?_
  rintro e w1 ⟨rfl, hb⟩
  have Hb := Lib.hid hb
  have hsz := hb.size
  clear hb
  go_wp2_with (first
    | (refine wpList_store_row rfl 37 (.tmp 3) (.tmp 8) rfl w1.heap.size kindsArr rfl rfl 37 zeros ?_ size256 (by simp [kinds_size, zeros_size]) kinds_one ?_; (· exact zeros_new w1); rw [tab_store w1])
    | (at_make; go_loud (refine wpList_make_own _ rfl _ _ 48 rfl (w1.heap.size + 1) 5 i0 (.int .u8 0) 1 under37 hi hz0 hz1 .i64 .i64 _ (s.size + 2) rfl rfl (by omega) (by rw [hz2]; omega) (by unfold maxLen; omega) (by unfold tabWorld; simp) ?_); intro w2 hown2 hg2))
  have hK2 : w2.heap[w1.heap.size]? = some (.cells kindsArr 37 (0, 0)) := by
    rw [hg2.block w1.heap.size (by unfold tabWorld; simp) (by simp)]; exact heap_alloc_last w1 _
  have hz2' : w1.heap.size + 1 ≤ w2.heap.size := by have := hg2.size; unfold tabWorld at this; simp at this; omega
  have hI : QInv w (w2.alloc (.cells #[.slice (some ⟨(tabWorld w1).heap.size, 0, none⟩) 0 (s.size + 2)] 48)) w1.heap.size w2.heap.size (w1.heap.size + 1) [] :=
    ⟨⟨_, heap_alloc_last w2 _, hown2.alloc _⟩, (Below.heap_alloc w2 _ _ (by omega)).trans hK2,
      ((tab_below Hb.out hsz).grown hg2 (by unfold tabWorld; simp; omega) (fun k hk => by simp at hk)).alloc (by omega) _, by omega, hsz, by simp; omega, by omega⟩
  have HI := Lib.hid hI
  clear hI hK2 hown2 hg2 Hb hz
  refine (put_new w _ w1.heap.size w2.heap.size (w1.heap.size + 1) 1 _ [] [34] _ _ _ (by simp) HI.out rfl (fun j hj => by match j, hj with | 0, _ => rfl) (by simp)).mono ?_
  rintro e w3 ⟨rfl, hI⟩
  have HI3 := Lib.hid hI
  clear hI HI
  go_wp2_with fail
  go_loopw [19] (fun i wr => ∃ k : Nat, k ≤ s.size ∧ i = .int .i64 k ∧ QInv w wr w1.heap.size w2.heap.size (w1.heap.size + 1) (Sp.qs s k)) (fun i _ => s.size - (intOf i).toNat)
  case atStart => exact ⟨0, by omega, rfl, HI3.out⟩
  case round =>
    rename_i wr _
    obtain ⟨k, hk, rfl, hI⟩ := hrel
    have HI := Lib.hid hI
    clear hI HI3
    by_cases hlt : k < s.size
    · have hg := Sp.bt_get s k hlt
      have Hg := Lib.hid hg
      clear hg
      have hlt8 : ((s[k]'hlt).toNat : Int) < 256 := by have := UInt8.toNat_lt (s[k]'hlt); omega
      have hc : wr.cell? ⟨w1.heap.size, (s[k]'hlt).toNat, none⟩ = some (.int .u8 (Sp.kind (s[k]'hlt).toNat)) := by
        rw [cell_of_row _ _ _ _ _ _ HI.out.table]; exact kinds_at _ (by omega)
      have hql := Sp.qs_len s k
      by_cases k0 : Sp.kind (s[k]'hlt).toNat = 0
      · have Hq : Hid (Sp.qb (Sp.bt s k) = [92, 120, hexd ((s[k]'hlt).toNat / 16), hexd ((s[k]'hlt).toNat % 16)]) := by
          show _ = _
          rw [Hg.out]; unfold Sp.qb; rw [if_pos k0]
        have f0 : ((Sp.kind (s[k]'hlt).toNat : Int) == 0) = true := by rw [beq_iff_eq]; omega
        clear k0
        go_wp2_with fail
        have e15 : bits .and .u8 ((s[k]'hlt).toNat : Int) 15 = ((s[k]'hlt).toNat : Int) % 16 := u8_and15 _ (by omega) hlt8
        have l15 : ((s[k]'hlt).toNat : Int) % 16 < 16 := by omega
        have l16 : ((s[k]'hlt).toNat : Int) / 16 < 16 := by omega
        go_region_with (go_at_call 24; refine (put_new w _ w1.heap.size w2.heap.size (w1.heap.size + 1) 4 _ (Sp.qs s k) [92, 120, hexd ((s[k]'hlt).toNat / 16), hexd ((s[k]'hlt).toNat % 16)] _ _ _ rfl (HI.out.drewN 1) rfl (fun j hj => by match j, hj with | 0, _ => rfl | 1, _ => rfl | 2, _ => exact hex_cell _ _ (by omega) (by omega) _ | 3, _ => exact hex_cell _ _ (by omega) (by omega) _) (by omega)).mono ?_; rintro e w4 ⟨rfl, hI4⟩)
        all_goals
          have HI4 := Lib.hid hI4
          clear hI4
          go_wp2_with fail
          go_roundw
          case rel => exact ⟨k + 1, by omega, by go_num, by simp only [Sp.qs]; rw [Hq.out]; exact HI4.out⟩
          case measure => simp [intOf]; omega
      by_cases k1 : Sp.kind (s[k]'hlt).toNat = 1
      · have Hq : Hid (Sp.qb (Sp.bt s k) = [92, 110]) := by
          show _ = _
          rw [Hg.out]; unfold Sp.qb; rw [if_neg k0, if_pos k1]
        have f0 : ((Sp.kind (s[k]'hlt).toNat : Int) == 0) = false := by rw [beq_eq_false_iff_ne]; omega
        have f1 : ((Sp.kind (s[k]'hlt).toNat : Int) == 1) = true := by rw [beq_iff_eq]; omega
        clear k0 k1
        go_wp2_with fail
        refine (put_new w wr w1.heap.size w2.heap.size (w1.heap.size + 1) 2 _ (Sp.qs s k) [92, 110] _ _ _ rfl HI.out rfl (fun j hj => by match j, hj with | 0, _ => rfl | 1, _ => rfl) (by omega)).mono ?_
        rintro e w4 ⟨rfl, hI4⟩
        have HI4 := Lib.hid hI4
        clear hI4
        go_wp2_with fail
        go_roundw
        case rel => exact ⟨k + 1, by omega, by go_num, by simp only [Sp.qs]; rw [Hq.out]; exact HI4.out⟩
        case measure => simp [intOf]; omega
      by_cases k2 : Sp.kind (s[k]'hlt).toNat = 2
      · have Hq : Hid (Sp.qb (Sp.bt s k) = [92, ((s[k]'hlt).toNat : Int)]) := by
          show _ = _
          rw [Hg.out]; unfold Sp.qb; rw [if_neg k0, if_neg k1, if_pos k2]
        have f0 : ((Sp.kind (s[k]'hlt).toNat : Int) == 0) = false := by rw [beq_eq_false_iff_ne]; omega
        have f1 : ((Sp.kind (s[k]'hlt).toNat : Int) == 1) = false := by rw [beq_eq_false_iff_ne]; omega
        have f2 : ((Sp.kind (s[k]'hlt).toNat : Int) == 2) = true := by rw [beq_iff_eq]; omega
        clear k0 k1 k2
        go_wp2_with fail
        refine (put_new w wr w1.heap.size w2.heap.size (w1.heap.size + 1) 2 _ (Sp.qs s k) [92, ((s[k]'hlt).toNat : Int)] _ _ _ rfl HI.out rfl (fun j hj => by match j, hj with | 0, _ => rfl | 1, _ => rfl) (by omega)).mono ?_
        rintro e w4 ⟨rfl, hI4⟩
        have HI4 := Lib.hid hI4
        clear hI4
        go_wp2_with fail
        go_roundw
        case rel => exact ⟨k + 1, by omega, by go_num, by simp only [Sp.qs]; rw [Hq.out]; exact HI4.out⟩
        case measure => simp [intOf]; omega
      · have Hq : Hid (Sp.qb (Sp.bt s k) = [((s[k]'hlt).toNat : Int)]) := by
          show _ = _
          rw [Hg.out]; unfold Sp.qb; rw [if_neg k0, if_neg k1, if_neg k2]
        have f0 : ((Sp.kind (s[k]'hlt).toNat : Int) == 0) = false := by rw [beq_eq_false_iff_ne]; omega
        have f1 : ((Sp.kind (s[k]'hlt).toNat : Int) == 1) = false := by rw [beq_eq_false_iff_ne]; omega
        have f2 : ((Sp.kind (s[k]'hlt).toNat : Int) == 2) = false := by rw [beq_eq_false_iff_ne]; omega
        clear k0 k1 k2
        go_wp2_with fail
        refine (put_new w wr w1.heap.size w2.heap.size (w1.heap.size + 1) 1 _ (Sp.qs s k) [((s[k]'hlt).toNat : Int)] _ _ _ rfl HI.out rfl (fun j hj => by match j, hj with | 0, _ => rfl) (by omega)).mono ?_
        rintro e w4 ⟨rfl, hI4⟩
        have HI4 := Lib.hid hI4
        clear hI4
        go_wp2_with fail
        go_roundw
        case rel => exact ⟨k + 1, by omega, by go_num, by simp only [Sp.qs]; rw [Hq.out]; exact HI4.out⟩
        case measure => simp [intOf]; omega
    · have hks : k = s.size := by omega
      have Hks := Lib.hid hks
      have hql := Sp.qs_len s k
      clear hks
      go_wp2_with fail
      refine (put_new w wr w1.heap.size w2.heap.size (w1.heap.size + 1) 1 _ (Sp.qs s k) [34] _ _ _ rfl HI.out rfl (fun j hj => by match j, hj with | 0, _ => rfl) (by omega)).mono ?_
      rintro e w4 ⟨rfl, hI4⟩
      obtain ⟨a, n, c, hT, hcv⟩ := holds_conv hI4.text
      have Hfin : Hid (Sp.qs s k ++ [34] = Sp.quote s) := by
        show _ = _
        rw [Hks.out]; rfl
      rw [Hfin.out] at hcv
      have HI4 := Lib.hid hI4.below
      clear hI4
      have hc4 := cell_of_one hT
      clear hT
      go_wp2_with fail
      go_ret
      exact ⟨rfl, HI4.out⟩
end Go.Proofs.YtmodaefcipchpaaDoor

/-
  What Unquote answers: the program's.
-/
import Derived.Test.YtmodaefcipchpaaDoorUnit
import Derived.Test.YtmodaefcipchpaaDoorMathUw
namespace Go.Proofs.YtmodaefcipchpaaDoor
open Go.RowKit

theorem unit_any (t : ByteArray) (K : Nat) (w : World) (hs : t.size ≤ maxLen) (h1 : 1 ≤ t.size) (hK : w.heap[K]? = some (.cells kindsArr 37 (0, 0))) :
    Calls Tryd.prog 22 #[.string t, .pointer (some ⟨K, 0, none⟩)] w fun e w' => e = .returned (unitV (readQ t.size (Sp.bt t 0) (Sp.bt t 1) (Sp.bt t 2) (Sp.bt t 3))) ∧ Below w.heap.size w w' := by
  have g0 := Sp.bt_get t 0 (by omega)
  by_cases h92 : (t[0]'(by omega)).toNat = 92
  · by_cases hm1 : 1 < t.size
    · have g1 := Sp.bt_get t 1 (by omega)
      by_cases h110 : (t[1]'(by omega)).toNat = 110
      · have e : readQ t.size (Sp.bt t 0) (Sp.bt t 1) (Sp.bt t 2) (Sp.bt t 3) = some (10, 2) := by
          unfold readQ; rw [if_neg (by omega), if_pos (by omega)]
        rw [e]; exact unit_n t K w hs hm1 h92 h110
      · by_cases hk : Sp.kind (t[1]'(by omega)).toNat = 2
        · have e : readQ t.size (Sp.bt t 0) (Sp.bt t 1) (Sp.bt t 2) (Sp.bt t 3) = some ((t[1]'(by omega)).toNat, 2) := by
            unfold readQ; rw [if_neg (by omega), if_neg (by omega), g1, if_pos ⟨hm1, hk⟩]
          rw [e]; exact unit_marked t K w hs hm1 h92 hK h110 hk
        · by_cases h3 : 3 < t.size
          · have g2 := Sp.bt_get t 2 (by omega)
            have g3 := Sp.bt_get t 3 (by omega)
            have e : readQ t.size (Sp.bt t 0) (Sp.bt t 1) (Sp.bt t 2) (Sp.bt t 3) = (if 3 < t.size ∧ (t[1]'(by omega)).toNat = 120 ∧ hexv (t[2]'(by omega)).toNat < 16 ∧ hexv (t[3]'(by omega)).toNat < 16 ∧ Sp.kind (hexv (t[2]'(by omega)).toNat * 16 + hexv (t[3]'(by omega)).toNat) = 0 then some (hexv (t[2]'(by omega)).toNat * 16 + hexv (t[3]'(by omega)).toNat, 4) else none) := by
              unfold readQ; rw [if_neg (by omega), g1, if_neg (by omega), if_neg (by omega), g2, g3]
            rw [e]
            by_cases h120 : (t[1]'(by omega)).toNat = 120
            · by_cases hx : hexv (t[2]'(by omega)).toNat < 16
              · by_cases hy : hexv (t[3]'(by omega)).toNat < 16
                · by_cases hz : Sp.kind (hexv (t[2]'(by omega)).toNat * 16 + hexv (t[3]'(by omega)).toNat) = 0
                  · rw [if_pos ⟨h3, h120, hx, hy, hz⟩]; exact unit_x t K w hs h3 h92 hK h120 _ _ rfl rfl hx hy hz
                  · rw [if_neg (fun h => hz h.2.2.2.2)]; exact unit_xplain t K w hs h3 h92 hK h120 _ _ rfl rfl hx hy hz
                · rw [if_neg (fun h => hy h.2.2.2.1)]; exact unit_xlow t K w hs h3 h92 hK h120 _ rfl hx hy
              · rw [if_neg (fun h => hx h.2.2.1)]; exact unit_xhigh t K w hs h3 h92 hK h120 hx
            · rw [if_neg (fun h => h120 h.2.1)]; exact unit_other t K w hs h3 h92 hK h110 hk h120
          · have e : readQ t.size (Sp.bt t 0) (Sp.bt t 1) (Sp.bt t 2) (Sp.bt t 3) = none := by
              unfold readQ; rw [if_neg (by omega), g1, if_neg (by omega), if_neg (by omega), if_neg (by omega)]
            rw [e]; exact unit_few t K w hs hm1 (by omega) h92 hK h110 hk
    · have e : readQ t.size (Sp.bt t 0) (Sp.bt t 1) (Sp.bt t 2) (Sp.bt t 3) = none := by
        unfold readQ; rw [if_neg (by omega), if_neg (by omega), if_neg (by omega), if_neg (by omega)]
      rw [e]; exact unit_short t K w hs h1 (by omega) h92
  · have e : readQ t.size (Sp.bt t 0) (Sp.bt t 1) (Sp.bt t 2) (Sp.bt t 3) = (if 3 ≤ Sp.kind (t[0]'(by omega)).toNat then some ((t[0]'(by omega)).toNat, 1) else none) := by
      unfold readQ; rw [g0, if_pos h92]
    rw [e]; exact unit_plain t K w hs h1 hK h92

def unqV : Option (List Int) → Value
  | some l => .tuple #[.string (strOfNums l), .bool true]
  | none => .tuple #[.string ⟨#[]⟩, .bool false]

set_option maxHeartbeats 1600000 in
set_option maxRecDepth 100000 in
theorem unq_form (s : ByteArray) (w : World) (hs : s.size ≤ 140737488355328) (h : s.size < 2 ∨ Sp.bt s 0 ≠ 34 ∨ Sp.bt s (s.size - 1) ≠ 34) :
    Calls Tryd.prog 12 #[.string s] w fun e w' => e = .returned (unqV none) ∧ Below w.heap.size w w' := by
  by_cases hz : s.size < 2
  · go_enter Tryd.func12, Tryd.ntmps12
    go_wp2_with fail
    all_goals (go_ret2; exact ⟨rfl, Below.refl _ _⟩)
  · have g0 := Sp.bt_get s 0 (by omega)
    have g1 := Sp.bt_get s (s.size - 1) (by omega)
    have h2 : 2 ≤ s.size := by omega
    by_cases h0 : (s[0]'(by omega)).toNat = 34
    · have f0 : (((s[0]'(by omega)).toNat : Int) != 34) = false := by rw [show ((s[0]'(by omega)).toNat : Int) = 34 from by omega]; rfl
      have f1 : (((s[s.size - 1]'(by omega)).toNat : Int) != 34) = true := by rw [bne_iff_ne]; omega
      clear h h0 g0 g1
      go_enter Tryd.func12, Tryd.ntmps12
      go_wp2_with fail
      all_goals (go_ret2; exact ⟨rfl, Below.refl _ _⟩)
    · have f0 : (((s[0]'(by omega)).toNat : Int) != 34) = true := by rw [bne_iff_ne]; omega
      clear h h0 g0 g1
      go_enter Tryd.func12, Tryd.ntmps12
      go_wp2_with fail
      all_goals (go_ret2; exact ⟨rfl, Below.refl _ _⟩)

/-- a row that was made, and the table, behind what makes new blocks alone -/
theorem table_below {w w' : World} {K : Nat} {c : Array Value} {t : TypeId} (h : w.heap[K]? = some (.cells c t (0, 0))) (hb : Below w.heap.size w w') : w'.heap[K]? = some (.cells c t (0, 0)) := by
  rw [hb.block K (lt_of_block h)]; exact h

set_option maxHeartbeats 1600000 in
set_option maxRecDepth 100000 in
theorem unq_go (s : ByteArray) (w : World) (hs : s.size ≤ 140737488355328) (h2 : 2 ≤ s.size) (h0 : Sp.bt s 0 = 34) (hl : Sp.bt s (s.size - 1) = 34) :
    Calls Tryd.prog 12 #[.string s] w fun e w' => e = .returned (unqV (unqW s (s.size - 1) s.size 1 [])) ∧ Below w.heap.size w w' := by
  have g0 := Sp.bt_get s 0 (by omega)
  have g1 := Sp.bt_get s (s.size - 1) (by omega)
  have f0 : (((s[0]'(by omega)).toNat : Int) != 34) = false := by rw [show ((s[0]'(by omega)).toNat : Int) = 34 from by omega]; rfl
  have f1 : (((s[s.size - 1]'(by omega)).toNat : Int) != 34) = false := by rw [show ((s[s.size - 1]'(by omega)).toNat : Int) = 34 from by omega]; rfl
  clear h0 hl g0 g1
  have hz := (zero_of_info info256).1
  obtain ⟨i0, hi, hz0, hz1, hz2⟩ := info_parts info8
  go_enter Tryd.func12, Tryd.ntmps12
  go_wp2_with fail
  refine (byteKinds_any w).mono ?_
  rintro e w1 ⟨rfl, hb⟩
  have Hb := Lib.hid hb
  have hsz := hb.size
  clear hb
  go_wp2_with (first
    | (refine wpList_store_row rfl 37 (.tmp 5) (.tmp 26) rfl w1.heap.size kindsArr rfl rfl 37 zeros ?_ size256 (by simp [kinds_size, zeros_size]) kinds_one ?_; (· exact zeros_new w1); rw [tab_store w1])
    | (at_make; go_loud (refine wpList_make_own _ rfl _ _ 48 rfl (w1.heap.size + 1) 5 i0 (.int .u8 0) 1 under37 hi hz0 hz1 .i64 .i64 _ (s.size - 1) rfl rfl (by omega) (by rw [hz2]; omega) (by unfold maxLen; omega) (by unfold tabWorld; simp) ?_); intro w2 hown2 hg2))
  have hK2 : w2.heap[w1.heap.size]? = some (.cells kindsArr 37 (0, 0)) := by
    rw [hg2.block w1.heap.size (by unfold tabWorld; simp) (by simp)]; exact heap_alloc_last w1 _
  have Hw2 := Lib.hid ((tab_below Hb.out hsz).grown hg2 (by unfold tabWorld; simp; omega) (fun k hk => by simp at hk))
  have Hown2 := Lib.hid hown2
  have HK2 := Lib.hid hK2
  have hB2 : w1.heap.size + 1 ≤ w2.heap.size := by have := lt_of_block hK2; omega
  clear hown2 hK2 hg2 Hb hz
  go_wp2_with fail
  go_loopw [6, 7] (fun v i wr => ∃ (j f : Nat) (acc : List Int), j ≤ s.size - 1 ∧ i = .int .i64 j ∧ s.size - 1 ≤ j + f ∧ acc.length ≤ j ∧ unqW s (s.size - 1) s.size 1 [] = unqW s (s.size - 1) f j acc ∧
      wr.ownsRow (w1.heap.size + 1) 5 1 v acc.length (acc.map (Value.int .u8)) ∧ wr.heap[w1.heap.size]? = some (.cells kindsArr 37 (0, 0)) ∧ Below w.heap.size w wr ∧ w1.heap.size + 1 ≤ wr.heap.size) (fun _ i _ => s.size - (intOf i).toNat)
  case atStart => exact ⟨1, s.size, [], by omega, rfl, by omega, by simp, rfl, Hown2.out, HK2.out, Hw2.out, hB2⟩
  case round =>
    obtain ⟨j, f, acc, hj, rfl, hf, hal, hu, hown, hK, hb, hB⟩ := hrel
    clear Hown2 HK2 Hw2
    obtain ⟨va, vk, vc, rfl⟩ := owns_slice hown
    have Hu := Lib.hid hu
    have Hb := Lib.hid hb
    have Hown := Lib.hid hown
    have HK := Lib.hid hK
    have hszr := hb.size
    clear hu hb hown hK
    by_cases hlt : j < s.size - 1
    · have hext : (s.extract j (s.size - 1)).size = s.size - 1 - j := by simp
      have Hext := Lib.hid hext
      clear hext
      have hunit := unit_any (s.extract j (s.size - 1)) w1.heap.size
      rw [Hext.out, rdAt_ext s j (s.size - 1) hlt] at hunit
      cases hd : rdAt s j (s.size - 1) with
      | none =>
        rw [hd] at hunit
        have Hunit := Lib.hid hunit
        have Hd := Lib.hid hd
        clear hunit hd
        go_wp2_with fail
        refine (Hunit.out _ (by unfold maxLen; omega) (by omega) HK.out).mono ?_
        rintro e w3 ⟨rfl, hb3⟩
        have Hb3 := Lib.hid (Hb.out.trans (hb3.mono hszr))
        clear hb3
        unfold unitV
        go_wp2_with fail
        go_ret2
        exact ⟨by rw [Hu.out, unqW_none s _ f j acc hlt Hd.out]; rfl, Hb3.out⟩
      | some p =>
        obtain ⟨c, n⟩ := p
        rw [hd] at hunit
        have hn : 1 ≤ n ∧ n ≤ s.size - 1 - j := readQ_size (by omega) hd
        obtain ⟨hn1, hn2⟩ := hn
        have hn0 : ((n : Int) == 0) = false := by rw [beq_eq_false_iff_ne]; omega
        have Hunit := Lib.hid hunit
        have Hd := Lib.hid hd
        clear hunit hd
        go_wp2_with fail
        refine (Hunit.out _ (by unfold maxLen; omega) (by omega) HK.out).mono ?_
        rintro e w3 ⟨rfl, hb3⟩
        have hown3 := (ownsRow_below Hown.out hb3).alloc (.cells #[.int .u8 (c : Int)] 5)
        have hK3 := table_below HK.out hb3
        have hva : ∀ k, (Value.slice va vk vc).ownBlock = some k → w1.heap.size + 1 ≤ k := fun k hk => (hown3.lt k hk).1
        have HK3 := Lib.hid hK3
        have Hown3 := Lib.hid hown3
        have hsz3 := hb3.size
        have Hb3 := Lib.hid (Hb.out.trans (hb3.mono hszr))
        clear hb3 hown3 hK3
        unfold unitV
        go_wp2_with (first
          | (at_builtin; go_loud (refine wpList_append_own _ rfl (.tmp 42) (.tmp 44) 48 rfl (w1.heap.size + 1) 5 i0 (.int .u8 0) 1 1 under37 hi hz0 hz1 hz2 rfl (by decide) (.slice va vk vc) acc.length _ rfl Hown3.out ⟨w3.heap.size, 0, none⟩ 1 1 [.int .u8 (c : Int)] rfl rfl ?d1 ?d2 ?d3 ?d4 ?d5 ?_))
          | fail)
        case d1 =>
          intro k u hk
          have hj0 : k = 0 := by
            rcases Nat.eq_zero_or_pos k with h | h
            · exact h
            · rw [List.getElem?_eq_none (by simp; omega)] at hk; cases hk
          subst hj0
          simp only [List.getElem?_cons_zero, Option.some.injEq] at hk
          subst hk
          have hadd : (⟨w3.heap.size, 0, none⟩ : Addr).add 0 = ⟨w3.heap.size, 0, none⟩ := rfl
          rw [hadd, World.cell?_alloc_at _ _ _ _ rfl]; rfl
        case d2 => intro u hu; simp only [List.mem_cons, List.not_mem_nil, or_false] at hu; subst hu; rfl
        case d3 => unfold maxLen; omega
        case d4 => omega
        case d5 => simp; omega
        intro v4 w4 hown4 hg4 _
        obtain ⟨ua, uk, uc, rfl⟩ := owns_slice hown4
        have hK4 : w4.heap[w1.heap.size]? = some (.cells kindsArr 37 (0, 0)) := by
          rw [hg4.block w1.heap.size (by simp; omega) (fun e => by have := hva _ e.symm; omega)]
          exact (Below.heap_alloc w3 _ _ (by omega)).trans HK3.out
        have Hb4 := Lib.hid ((Hb3.out.alloc (by omega) (.cells #[.int .u8 (c : Int)] 5)).grown hg4 (by simp; omega) (fun k hk => by have := hva k hk; omega))
        have hB4 : w1.heap.size + 1 ≤ w4.heap.size := by have := hg4.size; simp at this; omega
        have Hown4 := Lib.hid hown4
        have HK4 := Lib.hid hK4
        clear hown4 hg4 hK4 hva
        go_wp2_with fail
        go_roundw
        case rel =>
          obtain ⟨g, hg, he⟩ := unqW_some s (s.size - 1) f j c n acc hlt hf Hd.out
          exact ⟨j + n, g, acc ++ [(c : Int)], by omega, by go_num, hg, by simp; omega, by rw [Hu.out, he], by rw [List.map_append, List.length_append]; exact Hown4.out, HK4.out, Hb4.out, hB4⟩
        case measure => simp [intOf]; omega
    · have hcv := conv_owned wr (w1.heap.size + 1) (.slice va vk vc) acc Hown.out
      go_wp2_with fail
      go_ret2
      exact ⟨by rw [Hu.out, unqW_end s _ f j acc (by omega)]; rfl, Hb.out⟩

theorem unq_any (s : ByteArray) (w : World) (hs : s.size ≤ 140737488355328) :
    Calls Tryd.prog 12 #[.string s] w fun e w' => e = .returned (unqV (Sp.unquote s)) ∧ Below w.heap.size w w' := by
  by_cases h : s.size < 2 ∨ Sp.bt s 0 ≠ 34 ∨ Sp.bt s (s.size - 1) ≠ 34
  · have e : Sp.unquote s = none := by unfold Sp.unquote; rw [if_pos h]
    rw [e]; exact unq_form s w hs h
  · have e : Sp.unquote s = unqW s (s.size - 1) s.size 1 [] := by unfold Sp.unquote; rw [if_neg h]
    rw [e]; exact unq_go s w hs (by omega) (by omega) (by omega)
end Go.Proofs.YtmodaefcipchpaaDoor

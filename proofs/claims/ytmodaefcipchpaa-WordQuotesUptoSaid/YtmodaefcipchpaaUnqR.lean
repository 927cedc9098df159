/-
  What the document's Unquote answers.
-/
import Derived.Test.YtmodaefcipchpaaUnqW
import Derived.Test.YtmodaefcipchpaaMathUx
namespace Go.Proofs.Ytmodaefcipchpaa
open Go.RowKit

/-- does the quoted form of c stand there? -/
theorem stands_iff (s : ByteArray) (j c : Nat) (hc : c < 256) (hj : j < s.size) :
    (j + (Sp.qb c).length ≤ s.size ∧ (s.extract j (j + (Sp.qb c).length)).toList = (strOfNums (Sp.qb c)).toList) ↔ rdAt s j s.size = some (c, (Sp.qb c).length) := by
  have hlen := Sp.qb_len c
  have hbyte := Sp.qb_byte c hc
  have hpos : 1 ≤ (Sp.qb c).length := by
    unfold Sp.qb
    by_cases h0 : Sp.kind c = 0
    · rw [if_pos h0]; simp
    · rw [if_neg h0]
      by_cases h1 : Sp.kind c = 1
      · rw [if_pos h1]; simp
      · rw [if_neg h1]
        by_cases h2 : Sp.kind c = 2
        · rw [if_pos h2]; simp
        · rw [if_neg h2]; simp
  have hmap : (strOfNums (Sp.qb c)).toList = (Sp.qb c).map fun n => UInt8.ofNat n.toNat := by rw [ByteArray.toList_eq, strOfNums_data]
  have key : j + (Sp.qb c).length ≤ s.size → ((s.extract j (j + (Sp.qb c).length)).toList = (strOfNums (Sp.qb c)).toList ↔ ([(Sp.bt s j : Int), (Sp.bt s (j + 1) : Int), (Sp.bt s (j + 2) : Int), (Sp.bt s (j + 3) : Int)].take (Sp.qb c).length) = Sp.qb c) := by
    intro hr
    have hto : (s.extract j (j + (Sp.qb c).length)).toList.map (fun b => (b.toNat : Int)) = [(Sp.bt s j : Int), (Sp.bt s (j + 1) : Int), (Sp.bt s (j + 2) : Int), (Sp.bt s (j + 3) : Int)].take (Sp.qb c).length := by
      have h4 : (Sp.qb c).length = 1 ∨ (Sp.qb c).length = 2 ∨ (Sp.qb c).length = 3 ∨ (Sp.qb c).length = 4 := by omega
      rcases h4 with h | h | h | h
      · rw [h] at hr; rw [h, Sp.ext_1 s j hr, Sp.bt_get s j (by omega)]; rfl
      · rw [h] at hr; rw [h, Sp.ext_2 s j hr, Sp.bt_get s j (by omega), Sp.bt_get s (j + 1) (by omega)]; rfl
      · rw [h] at hr; rw [h, Sp.ext_3 s j hr, Sp.bt_get s j (by omega), Sp.bt_get s (j + 1) (by omega), Sp.bt_get s (j + 2) (by omega)]; rfl
      · rw [h] at hr; rw [h, Sp.ext_4 s j hr, Sp.bt_get s j (by omega), Sp.bt_get s (j + 1) (by omega), Sp.bt_get s (j + 2) (by omega), Sp.bt_get s (j + 3) (by omega)]; rfl
    rw [← hto, hmap]
    constructor
    · intro h
      rw [h, List.map_map]
      exact (List.map_congr_left (fun x hx => by
        obtain ⟨a, b⟩ := hbyte x hx
        show ((UInt8.ofNat x.toNat).toNat : Int) = id x
        rw [UInt8.toNat_ofNat']
        show _ = x
        omega)).trans (List.map_id _)
    · intro h
      conv => rhs; rw [← h, List.map_map]
      refine ((List.map_congr_left (fun x hx => ?_)).trans (List.map_id _)).symm
      show UInt8.ofNat ((x.toNat : Int).toNat) = id x
      rw [Int.toNat_natCast]
      exact UInt8.ofNat_toNat
  constructor
  · rintro ⟨hr, he⟩
    exact begins_read hc ⟨by omega, (key hr).1 he⟩
  · intro h
    obtain ⟨-, -, hb⟩ := read_begins (by omega) (Sp.bt_lt _ _) (Sp.bt_lt _ _) (Sp.bt_lt _ _) (Sp.bt_lt _ _) h
    have hr : j + (Sp.qb c).length ≤ s.size := by have := hb.1; omega
    exact ⟨hr, (key hr).2 hb.2⟩

set_option maxHeartbeats 1600000 in
set_option maxRecDepth 100000 in
theorem runq_form (s : ByteArray) (w : World) (hs : s.size ≤ 140737488355328) (h : s.size < 2 ∨ Sp.bt s 0 ≠ 34) :
    Calls Try.prog 15 #[.string s] w fun e w' => e = .returned (unqV none) ∧ Below w.heap.size w w' := by
  by_cases hz : s.size < 2
  · go_enter Try.func15, Try.ntmps15
    go_wp2_with fail
    all_goals (go_ret2; exact ⟨rfl, Below.refl _ _⟩)
  · have g0 := Sp.bt_get s 0 (by omega)
    have h2 : 2 ≤ s.size := by omega
    have f0 : (((s[0]'(by omega)).toNat : Int) != 34) = true := by rw [bne_iff_ne]; omega
    clear h g0
    go_enter Try.func15, Try.ntmps15
    go_wp2_with fail
    all_goals (go_ret2; exact ⟨rfl, Below.refl _ _⟩)

set_option maxHeartbeats 1600000 in
set_option maxRecDepth 100000 in
theorem runq_go (s : ByteArray) (w : World) (hs : s.size ≤ 140737488355328) (h2 : 2 ≤ s.size) (h0 : Sp.bt s 0 = 34) :
    Calls Try.prog 15 #[.string s] w fun e w' => e = .returned (unqV (unqR s s.size 1 [])) ∧ Below w.heap.size w w' := by
  have g0 := Sp.bt_get s 0 (by omega)
  have f0 : (((s[0]'(by omega)).toNat : Int) != 34) = false := by rw [show ((s[0]'(by omega)).toNat : Int) = 34 from by omega]; rfl
  clear h0 g0
  obtain ⟨i0, hi, hz0, hz1, hz2⟩ := info_parts info8
  go_enter Try.func15, Try.ntmps15
  go_wp2_with fail
  go_loopw [4, 5] (fun v i wr => ∃ (j f : Nat) (acc : List Int), i = .int .i64 j ∧ j ≤ s.size ∧ s.size ≤ j + f ∧ acc.length ≤ j ∧ unqR s s.size 1 [] = unqR s f j acc ∧
      wr.ownsRow w.heap.size 5 1 v acc.length (acc.map (Value.int .u8)) ∧ Below w.heap.size w wr) (fun _ i _ => s.size - (intOf i).toNat)
  case atStart => exact ⟨1, s.size, [], rfl, by omega, by omega, by simp, rfl, World.ownsRow_nil _ _ _ _, Below.refl _ _⟩
  case round =>
    obtain ⟨j, f, acc, rfl, hj, hf, hal, hu, hown, hb⟩ := hrel
    obtain ⟨va, vk, vc, rfl⟩ := owns_slice hown
    have Hu := Lib.hid hu
    have Hb := Lib.hid hb
    have Hown := Lib.hid hown
    have hszr := hb.size
    clear hu hb hown
    by_cases hlt : j < s.size
    · have gj := Sp.bt_get s j hlt
      by_cases hq : (s[j]'hlt).toNat = 34
      · have Hstop := Lib.hid (unqR_stop s f j acc (by omega))
        have fj : (((s[j]'hlt).toNat : Int) != 34) = false := by rw [show ((s[j]'hlt).toNat : Int) = 34 from by omega]; rfl
        clear hq gj
        by_cases he : j = s.size - 1
        · have fe : ((j : Int) != (s.size : Int) - 1) = false := by rw [show (j : Int) = (s.size : Int) - 1 from by omega]; simp
          have Hfin : Hid (unqR s f j acc = some acc) := by show _ = _; rw [Hstop.out, if_pos (by omega)]
          have hcv := conv_owned _ w.heap.size (.slice va vk vc) acc Hown.out
          clear he
          go_wp2_with fail
          go_ret2
          exact ⟨by rw [Hu.out, Hfin.out]; rfl, Hb.out⟩
        · have fe : ((j : Int) != (s.size : Int) - 1) = true := by rw [bne_iff_ne]; omega
          have Hfin : Hid (unqR s f j acc = none) := by show _ = _; rw [Hstop.out, if_neg (by omega)]
          clear he
          go_wp2_with fail
          go_ret2
          exact ⟨by rw [Hu.out, Hfin.out]; rfl, Hb.out⟩
      · have fj : (((s[j]'hlt).toNat : Int) != 34) = true := by rw [bne_iff_ne]; omega
        have Hstep : Hid (j < s.size ∧ Sp.bt s j ≠ 34) := by show _ ∧ _; omega
        clear hq gj
        go_wp2_with fail
        go_loopw [4, 5, 6, 7] (fun v i q c wi => ∃ (k : Nat) (fnd : Bool) (j' : Nat) (acc' : List Int), c = .int .i64 k ∧ k ≤ 256 ∧ q = .bool fnd ∧ i = .int .i64 j' ∧
            wi.ownsRow w.heap.size 5 1 v acc'.length (acc'.map (Value.int .u8)) ∧ Below w.heap.size w wi ∧
            (fnd = false → j' = j ∧ acc' = acc ∧ ∀ d, d < k → rdAt s j s.size ≠ some (d, (Sp.qb d).length)) ∧
            (fnd = true → ∃ d n, rdAt s j s.size = some (d, n) ∧ j' = j + n ∧ acc' = acc ++ [(d : Int)])) (fun _ _ _ c _ => 300 - (intOf c).toNat)
        case atStart => exact ⟨0, false, j, acc, rfl, by omega, rfl, rfl, Hown.out, Hb.out, fun _ => ⟨rfl, rfl, fun d hd => absurd hd (Nat.not_lt_zero d)⟩, fun h => by cases h⟩
        case round =>
          obtain ⟨k, fnd, j', acc', rfl, hk, rfl, rfl, howni, hbi, hno, hyes⟩ := hrel
          obtain ⟨ua, uk, uc, rfl⟩ := owns_slice howni
          clear Hown Hb
          have Hown := Lib.hid howni
          have Hb := Lib.hid hbi
          have hszi := hbi.size
          clear howni hbi
          cases fnd with
          | true =>
            obtain ⟨d, n, hd, rfl, rfl⟩ := hyes rfl
            clear hno hyes
            have hn : 1 ≤ n ∧ n ≤ s.size - j := readQ_size (by omega) hd
            have Hd := Lib.hid hd
            clear hd
            go_wp2_with fail
            all_goals
              go_roundw
              case rel =>
                obtain ⟨g, hg, he⟩ := unqR_some s f j d n acc Hstep.out hf Hd.out
                exact ⟨j + n, g, acc ++ [(d : Int)], by go_num, by omega, hg, by simp; omega, by rw [Hu.out, he], Hown.out, Hb.out⟩
              case measure => simp [intOf]; omega
          | false =>
            obtain ⟨rfl, rfl, hno2⟩ := hno rfl
            have Hno := Lib.hid hno2
            clear hyes hno hno2
            by_cases hk2 : k < 256
            · have hqb := Sp.qb_len k
              have hstand := stands_iff s j' k hk2 hlt
              have Hst := Lib.hid hstand
              clear hstand
              go_wp2_with fail
              refine (rbyte_any _ _ (by omega) (by omega)).mono ?_
              rintro e w1 ⟨rfl, hb1⟩
              rw [Int.toNat_natCast]
              have hown1 := ownsRow_below Hown.out hb1
              have hsz1 := hb1.size
              have Hown1 := Lib.hid hown1
              have Hb1 := Lib.hid (Hb.out.trans (hb1.mono hszi))
              clear hb1 hown1
              have hsn := strOfNums_size (Sp.qb k)
              by_cases hr : j' + (Sp.qb k).length ≤ s.size
              · by_cases heq : (s.extract j' (j' + (Sp.qb k).length)).toList = (strOfNums (Sp.qb k)).toList
                · have Hd := Lib.hid (Hst.out.1 ⟨hr, heq⟩)
                  have fq : ((s.extract j' (j' + (Sp.qb k).length)).toList == (strOfNums (Sp.qb k)).toList) = true := beq_iff_eq.2 heq
                  clear heq
                  have Hown2 := Lib.hid (Hown1.out.alloc (.cells #[.int .u8 (k : Int)] 5))
                  have hva : ∀ x, (Value.slice ua uk uc).ownBlock = some x → w.heap.size ≤ x := fun x hx => (Hown1.out.lt x hx).1
                  go_wp2_with (first
                    | (at_builtin; go_loud (refine wpList_append_own _ rfl (.tmp 56) (.tmp 59) 37 rfl w.heap.size 5 i0 (.int .u8 0) 1 1 under37 hi hz0 hz1 hz2 rfl (by decide) (.slice ua uk uc) acc'.length _ rfl Hown2.out ⟨w1.heap.size, 0, none⟩ 1 1 [.int .u8 (k : Int)] rfl rfl ?d1 ?d2 ?d3 ?d4 ?d5 ?_))
                    | fail)
                  case d1 =>
                    intro x u hx
                    have hj0 : x = 0 := by
                      rcases Nat.eq_zero_or_pos x with h | h
                      · exact h
                      · rw [List.getElem?_eq_none (by simp; omega)] at hx; cases hx
                    subst hj0
                    simp only [List.getElem?_cons_zero, Option.some.injEq] at hx
                    subst hx
                    have hadd : (⟨w1.heap.size, 0, none⟩ : Addr).add 0 = ⟨w1.heap.size, 0, none⟩ := rfl
                    rw [hadd, World.cell?_alloc_at _ _ _ _ rfl]; rfl
                  case d2 => intro u hu; simp only [List.mem_cons, List.not_mem_nil, or_false] at hu; subst hu; rfl
                  case d3 => unfold maxLen; omega
                  case d4 => omega
                  case d5 => simp; omega
                  intro v4 w4 hown4 hg4 _
                  obtain ⟨xa, xk, xc, rfl⟩ := owns_slice hown4
                  have Hb4 := Lib.hid ((Hb1.out.alloc (by omega) (.cells #[.int .u8 (k : Int)] 5)).grown hg4 (by simp; omega) hva)
                  have Hown4 := Lib.hid hown4
                  clear hown4 hg4 hva
                  go_wp2_with fail
                  go_roundw
                  case rel =>
                    exact ⟨k + 1, true, j' + (Sp.qb k).length, acc' ++ [(k : Int)], by go_num, by omega, rfl, by go_num, by rw [List.map_append, List.length_append]; exact Hown4.out, Hb4.out, (fun h => by cases h), fun _ => ⟨k, _, Hd.out, rfl, rfl⟩⟩
                  case measure => simp [intOf]; omega
                · have fq : ((s.extract j' (j' + (Sp.qb k).length)).toList == (strOfNums (Sp.qb k)).toList) = false := beq_eq_false_iff_ne.2 heq
                  have Hne : Hid (rdAt s j' s.size ≠ some (k, (Sp.qb k).length)) := fun h => heq (Hst.out.2 h).2
                  clear heq
                  go_wp2_with fail
                  go_roundw
                  case rel =>
                    exact ⟨k + 1, false, j', acc', by go_num, by omega, rfl, rfl, Hown1.out, Hb1.out, fun _ => ⟨rfl, rfl, fun d hd => by
                      by_cases e : d = k
                      · subst e; exact Hne.out
                      · exact Hno.out d (by omega)⟩, fun h => by cases h⟩
                  case measure => simp [intOf]; omega
              · have Hne : Hid (rdAt s j' s.size ≠ some (k, (Sp.qb k).length)) := fun h => hr (Hst.out.2 h).1
                go_wp2_with fail
                go_roundw
                case rel =>
                  exact ⟨k + 1, false, j', acc', by go_num, by omega, rfl, rfl, Hown1.out, Hb1.out, fun _ => ⟨rfl, rfl, fun d hd => by
                    by_cases e : d = k
                    · subst e; exact Hne.out
                    · exact Hno.out d (by omega)⟩, fun h => by cases h⟩
                case measure => simp [intOf]; omega
            · have Hfin : Hid (unqR s f j' acc' = none) := by
                refine unqR_none s f j' acc' Hstep.out hf ?_
                cases hd : rdAt s j' s.size with
                | none => rfl
                | some p =>
                  obtain ⟨d, n⟩ := p
                  obtain ⟨hd1, hd2, -⟩ := read_begins (by omega) (Sp.bt_lt _ _) (Sp.bt_lt _ _) (Sp.bt_lt _ _) (Sp.bt_lt _ _) hd
                  exact absurd (by rw [hd, hd2]) (Hno.out d (by omega))
              go_wp2_with fail
              go_ret2
              exact ⟨by rw [Hu.out, Hfin.out]; rfl, Hb.out⟩
    · have he : ¬ j = s.size - 1 := by omega
      have Hstop := Lib.hid (unqR_stop s f j acc (by omega))
      have fe : ((j : Int) != (s.size : Int) - 1) = true := by rw [bne_iff_ne]; omega
      have Hfin : Hid (unqR s f j acc = none) := by show _ = _; rw [Hstop.out, if_neg (by omega)]
      clear he
      go_wp2_with fail
      go_ret2
      exact ⟨by rw [Hu.out, Hfin.out]; rfl, Hb.out⟩

theorem runq_any (s : ByteArray) (w : World) (hs : s.size ≤ 140737488355328) :
    Calls Try.prog 15 #[.string s] w fun e w' => e = .returned (unqV (Sp.unquote s)) ∧ Below w.heap.size w w' := by
  rw [unquote_doc s]
  by_cases h : s.size < 2 ∨ Sp.bt s 0 ≠ 34
  · rw [if_pos h]; exact runq_form s w hs h
  · rw [if_neg h]; exact runq_go s w hs (by omega) (by omega)
end Go.Proofs.Ytmodaefcipchpaa

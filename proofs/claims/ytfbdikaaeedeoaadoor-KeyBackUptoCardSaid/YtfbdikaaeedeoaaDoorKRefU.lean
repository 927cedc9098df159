/-
  The document's own reading of a key.
-/
import Derived.Test.YtfbdikaaeedeoaaDoorKRefP
import Derived.Test.YtfbdikaaeedeoaaDoorKUnp
namespace Go.Proofs.YtfbdikaaeedeoaaDoor
open Go.RowKit Go.Maps
set_option maxRecDepth 100000

theorem drop_at (s : List UInt8) (q : Nat) (h : q < s.length) (c : UInt8) (hc : s[q] = c) : s.drop q = c :: s.drop (q + 1) := by
  rw [List.drop_eq_getElem_cons h, hc]
theorem ru_none {s : List UInt8} {d : List Ky.Part} {k : Nat} (h : Ky.unpack s = (Ky.unpack (s.drop k)).map (d ++ ·)) (hk : k < s.length) (hp : Ky.readPart (s.drop k) = none) : Ky.unpacked s = none := by
  have hne : s.drop k ≠ [] := fun e => by have := congrArg List.length e; simp at this; omega
  unfold Ky.unpacked
  rw [h, Ky.unpack_step _ hne, hp]
  rfl
theorem ru_step {s r : List UInt8} {d : List Ky.Part} {k : Nat} {p : Ky.Part} (h : Ky.unpack s = (Ky.unpack (s.drop k)).map (d ++ ·)) (hk : k < s.length) (hp : Ky.readPart (s.drop k) = some (p, r)) : Ky.unpack s = (Ky.unpack r).map ((d ++ [p]) ++ ·) := by
  have hne : s.drop k ≠ [] := fun e => by have := congrArg List.length e; simp at this; omega
  rw [h, Ky.unpack_step _ hne, hp]
  simp only [Option.map_map]
  congr 1
  funext x
  simp
def TX (s : List UInt8) (k q : Nat) (b : List UInt8) : Prop := Ky.readText (s.drop k) = (Ky.readText (s.drop q)).map fun x => (b ++ x.1, x.2)
theorem TX.start (s : List UInt8) (k : Nat) : TX s k k [] := by
  unfold TX
  simp
theorem TX.other {s : List UInt8} {k q : Nat} {b : List UInt8} (h : TX s k q b) (hq : q < s.length) (c : UInt8) (hc : s[q] = c) (h0 : c ≠ 0) : TX s k (q + 1) (b ++ [c]) := by
  unfold TX at *
  rw [h, drop_at s q hq c hc, Ky.readText_other h0, Option.map_map]
  congr 1
  funext x
  simp
theorem TX.zero {s : List UInt8} {k q : Nat} {b : List UInt8} (h : TX s k q b) (hq : q < s.length) (hc : s[q] = 0) (hq2 : q + 1 < s.length) (hc2 : s[q + 1] = 255) : TX s k (q + 2) (b ++ [0]) := by
  unfold TX at *
  rw [h, drop_at s q hq 0 hc, Ky.readText_zero, drop_at s (q + 1) hq2 255 hc2]
  simp only
  rw [if_neg (by decide), if_pos trivial, Option.map_map]
  congr 1
  funext x
  simp
theorem TX.shut {s : List UInt8} {k q : Nat} {b : List UInt8} (h : TX s k q b) (hq : q < s.length) (hc : s[q] = 0) (hq2 : q + 1 < s.length) (hc2 : s[q + 1] = 0) : Ky.readText (s.drop k) = some (b, s.drop (q + 2)) := by
  unfold TX at *
  rw [h, drop_at s q hq 0 hc, Ky.readText_zero, drop_at s (q + 1) hq2 0 hc2]
  simp
theorem TX.bad {s : List UInt8} {k q : Nat} {b : List UInt8} (h : TX s k q b) (hq : q < s.length) (hc : s[q] = 0) (h2 : ∀ h : q + 1 < s.length, s[q + 1] ≠ 0 ∧ s[q + 1] ≠ 255) : Ky.readText (s.drop k) = none := by
  unfold TX at *
  rw [h, drop_at s q hq 0 hc, Ky.readText_zero]
  by_cases hq2 : q + 1 < s.length
  · rw [drop_at s (q + 1) hq2 _ rfl]
    simp only
    rw [if_neg (h2 hq2).1, if_neg (h2 hq2).2]
    rfl
  · rw [List.drop_eq_nil_of_le (by omega)]
    rfl
theorem TX.over {s : List UInt8} {k : Nat} {b : List UInt8} (h : TX s k s.length b) : Ky.readText (s.drop k) = none := by
  unfold TX at h
  rw [h, List.drop_length]
  rfl
theorem part_two (s : List UInt8) (k : Nat) (hk : k < s.length) (h2 : s[k] = 2) : Ky.readPart (s.drop k) = (Ky.readText (s.drop (k + 1))).map fun x => (⟨true, 0, x.1⟩, x.2) := by
  rw [drop_at s k hk 2 h2, Ky.readPart, if_neg (by decide), if_pos rfl]
theorem part_one (s : List UInt8) (k : Nat) (hk : k + 9 ≤ s.length) (h1 : s[k] = 1) : Ky.readPart (s.drop k) = some (⟨false, Ky.unshift (Pr.toN ((s.drop (k + 1)).take 8)), []⟩, s.drop (k + 9)) := by
  rw [drop_at s k (by omega) 1 h1, Ky.readPart, if_pos rfl, if_neg (by simp; omega), List.drop_drop]
theorem part_one_short (s : List UInt8) (k : Nat) (hk : k < s.length) (h9 : s.length < k + 9) (h1 : s[k] = 1) : Ky.readPart (s.drop k) = none := by
  rw [drop_at s k hk 1 h1, Ky.readPart, if_pos rfl, if_pos (by simp; omega)]
theorem part_else (s : List UInt8) (k : Nat) (hk : k < s.length) (h1 : s[k] ≠ 1) (h2 : s[k] ≠ 2) : Ky.readPart (s.drop k) = none := by
  rw [drop_at s k hk _ rfl, Ky.readPart, if_neg h1, if_neg h2]
def RURel (w : World) (s : List UInt8) (v : Value) (d : List Ky.Part) (k : Nat) (wr : World) : Prop :=
  Ky.unpack s = (Ky.unpack (s.drop k)).map (d ++ ·) ∧ d.length ≤ k ∧ k ≤ s.length ∧ OwnPs 63 wr w.heap.size v d ∧ Below w.heap.size w wr
set_option maxHeartbeats 6400000 in
theorem runpack_any (w : World) (s : List UInt8) (hs : s.length ≤ 2000000) :
    Calls Tryd.prog 17 #[bstr s] w (UnpPost 63 w s) := by
  have HR0 : Hid (RURel w s (.slice none 0 0) [] 0 w) := Lib.hid ⟨by simp, by simp, by omega, OwnPs.nil _ _ _, Below.refl _ _⟩
  have HS := Lib.hid hs
  have hsb : (s.length : Int) ≤ 2000000 := by omega
  clear hs
  unfold bstr
  go_enter Tryd.func17, Tryd.ntmps17
  go_wp2_with fail
  go_loopw [4, 5] (fun v i wr => ∃ (k : Nat) (d : List Ky.Part), i = .int .i64 k ∧ Hid (RURel w s v d k wr)) (fun _ i _ => s.length - (intOf i).toNat)
  case atStart => exact ⟨0, [], rfl, HR0⟩
  case round =>
    rename World => wr
    obtain ⟨k, d, rfl, HR⟩ := hrel
    obtain ⟨A, c, rfl, hrd, hgo⟩ := HR.out.2.2.2.1.form
    clear hrd hgo
    have hkb : (k : Int) ≤ 2000000 := by have := HR.out.2.2.1; have := HS.out; omega
    by_cases hlt : k < s.length
    · have hlt' : (k : Int) < (s.length : Int) := by omega
      have hdb : d.length + 1 ≤ 2000000 := by have := HR.out.2.1; have := HS.out; omega
      have hltd : decide (s.length ≤ k) = false := decide_eq_false (by omega)
      have HLT := Lib.hid hlt
      obtain ⟨b, hb⟩ : ∃ b, s[k] = b := ⟨_, rfl⟩
      have hix := byte_at s k hlt b hb
      have hbl : (b.toNat : Int) < 256 := by have := b.toNat_lt; omega
      by_cases h1 : b = 1
      · subst h1
        by_cases h9 : k + 9 ≤ s.length
        · have h9' : (k : Int) + 9 ≤ (s.length : Int) := by omega
          have HP := Lib.hid (part_one s k h9 hb)
          have ht8 : ((s.drop (k + 1)).take 8).length = 8 := by rw [List.length_take, List.length_drop]; omega
          have hat : ∀ q, q < 8 → ((s.drop (k + 1)).take 8)[q]? = s[k + (q + 1)]? := fun q hq => by
            rw [List.getElem?_take, if_pos hq, List.getElem?_drop]
            congr 1
            omega
          generalize (s.drop (k + 1)).take 8 = t at *
          have HT8 := Lib.hid ht8
          have HAT := Lib.hid hat
          have H9 := Lib.hid h9
          clear ht8 hat hb h9 hlt hbl
          go_wp2_with fail
          go_loop [6, 7] (fun x i => ∃ q : Nat, 1 ≤ q ∧ q ≤ 9 ∧ i = .int .i64 q ∧ x = .int .u64 ((Pr.toN (t.take (q - 1)) : Nat) : Int)) (fun _ i => 9 - (intOf i).toNat)
          case atStart => exact ⟨1, by omega, by omega, rfl, rfl⟩
          case round =>
            obtain ⟨q, hq1, hq9, rfl, rfl⟩ := hrel
            by_cases hq : q ≤ 8
            · have hq' : (q : Int) ≤ 8 := by omega
              have hx7 : Pr.toN (t.take (q - 1)) < 72057594037927936 := by
                have h1 := Pr.toN_lt (t.take (q - 1))
                have h2 : (t.take (q - 1)).length ≤ 7 := by have := HT8.out; rw [List.length_take]; omega
                have h3 : 256 ^ (t.take (q - 1)).length ≤ 256 ^ 7 := Nat.pow_le_pow_right (by decide) h2
                have h4 : (256 : Nat) ^ 7 = 72057594037927936 := by decide
                omega
              obtain ⟨m, hm⟩ : ∃ m, k + q = m := ⟨_, rfl⟩
              have hsum : (k : Int) + (q : Int) = (m : Int) := by omega
              have hlq : m < s.length := by have := H9.out; omega
              have hlq' : (m : Int) < (s.length : Int) := by omega
              have hnx := toN_take t (q - 1) (by have := HT8.out; omega)
              rw [show q - 1 + 1 = q by omega] at hnx
              obtain ⟨c, hc⟩ : ∃ c, s[m] = c := ⟨_, rfl⟩
              have htc : t[q - 1]'(by have := HT8.out; omega) = c := by
                have h := HAT.out (q - 1) (by omega)
                rw [show k + (q - 1 + 1) = m by omega, List.getElem?_eq_getElem hlq, List.getElem?_eq_getElem (by have := HT8.out; omega), hc] at h
                exact Option.some.inj h
              have hix2 := byte_at s m hlq c hc
              rw [htc] at hnx
              have hol := or_low (Pr.toN (t.take (q - 1))) c.toNat c.toNat_lt hx7
              have hc256 : (c.toNat : Int) < 256 := by have := c.toNat_lt; omega
              clear hc htc
              generalize Pr.toN (t.take (q - 1)) = x at *
              rw [show ((x * 256 : Nat) : Int) = (x : Int) * 256 by omega] at hol
              have HNX := Lib.hid hnx
              have hx7' : (x : Int) < 72057594037927936 := by omega
              clear hnx hx7 hlq
              clear hm
              go_upto_region 9 with fail
              clear hq' hlt' hltd h9' hix
              go_wp2_with fail
              go_round
              case rel => exact ⟨q + 1, by omega, by omega, by go_num, by rw [show q + 1 - 1 = q by omega, HNX.out]; go_num⟩
              case measure => (simp [intOf]) <;> omega
            · obtain rfl : q = 9 := by omega
              rw [show t.take (9 - 1) = t by rw [List.take_of_length_le (by have := HT8.out; omega)]]
              have hv := toN8_lt' t HT8.out
              have hsg := Ky.sign_off (Pr.toN t) hv
              generalize Pr.toN t = x at *
              clear hv hq
              have HO4 : Hid (OwnPs 63 (wr.alloc (.cells #[.bool false, .int .i64 (Ky.unshift x), .string ⟨#[]⟩] 63)) w.heap.size (.slice A d.length c) d) := Lib.hid (HR.out.2.2.2.1.below ((Below.refl _ _).alloc (Nat.le_refl _) _))
              have HB4 : Hid (Below w.heap.size w (wr.alloc (.cells #[.bool false, .int .i64 (Ky.unshift x), .string ⟨#[]⟩] 63))) := Lib.hid (HR.out.2.2.2.2.alloc HR.out.2.2.2.2.size _)
              have HH4 := Lib.hid (Has.of_alloc wr 63 #[.bool false, .int .i64 (Ky.unshift x), .string ⟨#[]⟩])
              go_wp2_with (refine wpList_append_row eltRP rfl (.tmp 38) (.tmp 43) rfl w.heap.size _ d.length (partCells d) rfl HO4.out wr.heap.size [.bool false, .int .i64 (Ky.unshift x), .string ⟨#[]⟩] rfl HH4.out rfl (fun u hu => by simp at hu; rcases hu with rfl | rfl | rfl <;> rfl) (by omega) (by decide) HB4.out.size ?_; intro g' cap w5 O5 F5 G5 Z5)
              have HB5 : Hid (Below w.heap.size w w5) := Lib.hid (HB4.out.trans (F5.out.below HB4.out.size (fun k hk => (HO4.out.lt k hk).1)))
              go_roundw
              case rel => exact ⟨k + 9, d ++ [⟨false, Ky.unshift x, []⟩], by go_num, Lib.hid ⟨ru_step HR.out.1 HLT.out HP.out, by have := HR.out.2.1; simp; omega, H9.out, OwnPs.snoc O5.out, HB5.out⟩⟩
              case measure => (simp [intOf]) <;> omega
        · have h9' : ¬ ((k : Int) + 9 ≤ (s.length : Int)) := by omega
          have HP := Lib.hid (ru_none HR.out.1 hlt (part_one_short s k hlt (by omega) hb))
          clear hb h9 hlt
          go_wp2_with fail
          go_ret2
          exact unp_none HP.out HR.out.2.2.2.2
      · have hb1 : ((b.toNat : Int) == 1) = false := (u8_eq' b 1).trans (decide_eq_false h1)
        by_cases h2 : b = 2
        · subst h2
          have HPT := Lib.hid (part_two s k hlt hb)
          clear h1 hb hlt
          go_wp2_with fail
          go_loopw [5, 8, 9] (fun i v cl wq => ∃ (q : Nat) (t : List UInt8) (x : Bool), k < q ∧ q ≤ s.length ∧ i = .int .i64 q ∧ cl = .bool x ∧ Hid (if x then Ky.readText (s.drop (k + 1)) = some (t, s.drop q) else TX s (k + 1) q t) ∧ Hid (OwnV wq wr.heap.size v t ∧ t.length ≤ q) ∧ Hid (Below wr.heap.size wr wq)) (fun i _ _ _ => s.length - (intOf i).toNat)
          case atStart => exact ⟨k + 1, [], false, by omega, by have := HLT.out; omega, by go_num, rfl, Lib.hid (TX.start s (k + 1)), Lib.hid ⟨OwnV.nil _ _, by simp⟩, Lib.hid (Below.refl _ _)⟩
          case round =>
            rename World => wq
            obtain ⟨q, t, x, hkq, hq, rfl, rfl, HT, HO, HB⟩ := hrel
            obtain ⟨Av, cv, rfl, hAv, hrv⟩ := HO.out.1.form
            have htb : (t.length : Int) ≤ 2000000 := by have := HO.out.2; omega
            have HD : Hid (OwnPs 63 wq w.heap.size (.slice A d.length c) d) := Lib.hid (HR.out.2.2.2.1.below HB.out)
            have HBW : Hid (Below w.heap.size w wq) := Lib.hid (HR.out.2.2.2.2.trans (HB.out.mono HR.out.2.2.2.2.size))
            cases x with
            | true =>
              have hcv := conv_rd wq _ Av t cv (hrv (by omega))
              have HP : Hid (Ky.readPart (s.drop k) = some (⟨true, 0, t⟩, s.drop q)) := Lib.hid (by
                have h := HT.out
                rw [if_pos rfl] at h
                rw [HPT.out, h]
                rfl)
              have HO4 : Hid (OwnPs 63 (wq.alloc (.cells #[.bool true, .int .i64 0, .string ⟨t.toArray⟩] 63)) w.heap.size (.slice A d.length c) d) := Lib.hid (HD.out.below ((Below.refl _ _).alloc (Nat.le_refl _) _))
              have HB4 : Hid (Below w.heap.size w (wq.alloc (.cells #[.bool true, .int .i64 0, .string ⟨t.toArray⟩] 63))) := Lib.hid (HBW.out.alloc HBW.out.size _)
              have HH4 := Lib.hid (Has.of_alloc wq 63 #[.bool true, .int .i64 0, .string ⟨t.toArray⟩])
              clear hrv
              unfold bstr at hcv
              have HL2 : Hid (d.length ≤ q) := Lib.hid (by have := HR.out.2.1; omega)
              by_cases hql : q < s.length
              · have hqld : decide (s.length ≤ q) = false := decide_eq_false (by omega)
                have hql' : (q : Int) < (s.length : Int) := by omega
                clear hql
                go_wp2_with (refine wpList_append_row eltRP rfl (.tmp 104) (.tmp 108) rfl w.heap.size _ d.length (partCells d) rfl HO4.out wq.heap.size [.bool true, .int .i64 0, .string ⟨t.toArray⟩] rfl HH4.out rfl (fun u hu => by simp at hu; rcases hu with rfl | rfl | rfl <;> rfl) (by omega) (by decide) HB4.out.size ?_; intro g' cap w5 O5 F5 G5 Z5)
                have HB5 : Hid (Below w.heap.size w w5) := Lib.hid (HB4.out.trans (F5.out.below HB4.out.size (fun k hk => (HO4.out.lt k hk).1)))
                go_roundw
                case rel => exact ⟨q, d ++ [⟨true, 0, t⟩], by go_num, Lib.hid ⟨ru_step HR.out.1 HLT.out HP.out, by have := HR.out.2.1; simp; omega, hq, OwnPs.snoc O5.out, HB5.out⟩⟩
                case measure => (simp [intOf]) <;> omega
              · obtain rfl : q = s.length := by omega
                have hqld : decide (s.length ≤ s.length) = true := decide_eq_true (Nat.le_refl _)
                clear hql
                go_wp2_with (refine wpList_append_row eltRP rfl (.tmp 104) (.tmp 108) rfl w.heap.size _ d.length (partCells d) rfl HO4.out wq.heap.size [.bool true, .int .i64 0, .string ⟨t.toArray⟩] rfl HH4.out rfl (fun u hu => by simp at hu; rcases hu with rfl | rfl | rfl <;> rfl) (by omega) (by decide) HB4.out.size ?_; intro g' cap w5 O5 F5 G5 Z5)
                have HB5 : Hid (Below w.heap.size w w5) := Lib.hid (HB4.out.trans (F5.out.below HB4.out.size (fun k hk => (HO4.out.lt k hk).1)))
                go_roundw
                case rel => exact ⟨s.length, d ++ [⟨true, 0, t⟩], by go_num, Lib.hid ⟨ru_step HR.out.1 HLT.out HP.out, by have := HR.out.2.1; simp; omega, hq, OwnPs.snoc O5.out, HB5.out⟩⟩
                case measure => (simp [intOf]) <;> omega
            | false =>
              have HTX : Hid (TX s (k + 1) q t) := Lib.hid (by have h := HT.out; rwa [if_neg (by decide)] at h)
              clear HT
              have hqb : (q : Int) ≤ 2000000 := by have := HS.out; omega
              by_cases hql : q < s.length
              · have hqld : decide (s.length ≤ q) = false := decide_eq_false (by omega)
                have hql' : (q : Int) < (s.length : Int) := by omega
                obtain ⟨c0, hc⟩ : ∃ c0, s[q] = c0 := ⟨_, rfl⟩
                have hix2 := byte_at s q hql c0 hc
                have hc256 : (c0.toNat : Int) < 256 := by have := c0.toNat_lt; omega
                by_cases h0 : c0 = 0
                · subst h0
                  by_cases hq2 : q + 1 < s.length
                  · have hq2' : ¬ ((s.length : Int) ≤ (q : Int) + 1) := by omega
                    have hq2d : decide (s.length ≤ q + 1) = false := decide_eq_false (by omega)
                    obtain ⟨c2, hc2⟩ : ∃ c2, s[q + 1] = c2 := ⟨_, rfl⟩
                    have hix3 := byte_at s (q + 1) hq2 c2 hc2
                    have hc3 : (c2.toNat : Int) < 256 := by have := c2.toNat_lt; omega
                    by_cases h255 : c2 = 255
                    · subst h255
                      have HTZ := Lib.hid (HTX.out.zero hql hc hq2 hc2)
                      clear hc hc2 hql
                      go_wp2_with (refine wpList_append_v rfl (.tmp 97) (.tmp 98) rfl wr.heap.size _ t rfl (HO.out.1.alloc _) _ (some ⟨wq.heap.size, 0, none⟩) [0] 1 rfl (rd_one wq _ 0 rfl) (fun e => by cases e) (by simp only [List.length_cons, List.length_nil]; omega) (by have := HB.out.size; simp; omega) wr (HB.out.alloc HB.out.size _) ?_; intro v3 w3 O3 B3)
                      go_roundw
                      case rel => exact ⟨q + 2, t ++ [0], false, by omega, by omega, by go_num, rfl, Lib.hid (by rw [if_neg (by decide)]; exact HTZ.out), Lib.hid ⟨O3.out, by have := HO.out.2; simp; omega⟩, B3⟩
                      case measure => (simp [intOf]) <;> omega
                    · have hb3 : ((c2.toNat : Int) == 255) = false := (u8_eq' c2 255).trans (decide_eq_false h255)
                      by_cases h00 : c2 = 0
                      · subst h00
                        have HTZ := Lib.hid (HTX.out.shut hql hc hq2 hc2)
                        clear hc hc2 hql h255
                        go_wp2_with fail
                        go_roundw
                        case rel => exact ⟨q + 2, t, true, by omega, by omega, by go_num, rfl, Lib.hid (by rw [if_pos rfl]; exact HTZ.out), Lib.hid ⟨HO.out.1, by have := HO.out.2; omega⟩, HB⟩
                        case measure => (simp [intOf]) <;> omega
                      · have hb4 : ((c2.toNat : Int) == 0) = false := (u8_eq' c2 0).trans (decide_eq_false h00)
                        have HP := Lib.hid (ru_none HR.out.1 HLT.out (by rw [HPT.out, HTX.out.bad hql hc (fun h => ⟨fun e => h00 (hc2.symm.trans e), fun e => h255 (hc2.symm.trans e)⟩)]; rfl))
                        have hn3 : ¬ ((c2.toNat : Int) = 255) := by simpa using hb3
                        have hn4 : ¬ ((c2.toNat : Int) = 0) := by simpa using hb4
                        have hm3 : ((c2.toNat : Int) != 255) = true := by simpa using hn3
                        have hm4 : ((c2.toNat : Int) != 0) = true := by simpa using hn4
                        clear hc hc2 hql h255 h00
                        go_wp2_with fail
                        go_ret2
                        exact unp_none HP.out HBW.out
                  · have hq2' : (s.length : Int) ≤ (q : Int) + 1 := by omega
                    have hq2d : decide (s.length ≤ q + 1) = true := decide_eq_true (by omega)
                    have HP := Lib.hid (ru_none HR.out.1 HLT.out (by rw [HPT.out, HTX.out.bad hql hc (fun h => absurd h hq2)]; rfl))
                    clear hc hql hq2
                    go_wp2_with fail
                    go_ret2
                    exact unp_none HP.out HBW.out
                · have hb2 : ((c0.toNat : Int) == 0) = false := (u8_eq' c0 0).trans (decide_eq_false h0)
                  have HTZ := Lib.hid (HTX.out.other hql c0 hc h0)
                  clear hc hql h0
                  go_wp2_with (refine wpList_append_v rfl (.tmp 65) (.tmp 69) rfl wr.heap.size _ t rfl (HO.out.1.alloc _) _ (some ⟨wq.heap.size, 0, none⟩) [c0] 1 rfl (rd_one wq _ c0 rfl) (fun e => by cases e) (by simp only [List.length_cons, List.length_nil]; omega) (by have := HB.out.size; simp; omega) wr (HB.out.alloc HB.out.size _) ?_; intro v3 w3 O3 B3)
                  go_roundw
                  case rel => exact ⟨q + 1, t ++ [c0], false, by omega, by omega, by go_num, rfl, Lib.hid (by rw [if_neg (by decide)]; exact HTZ.out), Lib.hid ⟨O3.out, by have := HO.out.2; simp; omega⟩, B3⟩
                  case measure => (simp [intOf]) <;> omega
              · obtain rfl : q = s.length := by omega
                have hqld : decide (s.length ≤ s.length) = true := decide_eq_true (Nat.le_refl _)
                have HP := Lib.hid (ru_none HR.out.1 HLT.out (by rw [HPT.out, HTX.out.over]; rfl))
                clear hql
                go_wp2_with fail
                go_ret2
                exact unp_none HP.out HBW.out
        · have hb2 : ((b.toNat : Int) == 2) = false := (u8_eq' b 2).trans (decide_eq_false h2)
          have HP := Lib.hid (ru_none HR.out.1 hlt (part_else s k hlt (fun e => h1 (hb.symm.trans e)) (fun e => h2 (hb.symm.trans e))))
          clear h1 h2 hb hlt
          go_wp2_with fail
          go_ret2
          exact unp_none HP.out HR.out.2.2.2.2
    · obtain rfl : k = s.length := by have := HR.out.2.2.1; omega
      have hdb : (d.length : Int) ≤ 2000000 := by have := HR.out.2.1; omega
      have hun := HR.out.1
      rw [List.drop_length, Ky.unpack_nil] at hun
      have hltd : decide (s.length ≤ s.length) = true := decide_eq_true (Nat.le_refl _)
      by_cases h16 : d.length ≤ 16
      · have HP : Hid (UnpPost 63 w s (.returned (.tuple #[.slice A d.length c, .int .i64 0])) wr) := Lib.hid (unp_some (l := d) (by unfold Ky.unpacked; rw [hun]; simp; exact h16) HR.out.2.2.2.1 HR.out.2.2.2.2)
        have h16' : ¬ ((16 : Int) < (d.length : Int)) := by omega
        clear hun h16
        go_wp2_with fail
        go_ret2
        exact HP.out
      · have HP : Hid (Ky.unpacked s = none) := Lib.hid (by unfold Ky.unpacked; rw [hun]; simp; omega)
        have h16' : (16 : Int) < (d.length : Int) := by omega
        clear hun h16
        go_wp2_with fail
        go_ret2
        exact unp_none HP.out HR.out.2.2.2.2
end Go.Proofs.YtfbdikaaeedeoaaDoor

/-
  The document's bytes of a key.
-/
import Derived.Test.YtfbdikaaeedeoaaDoorKRefA
namespace Go.Proofs.YtfbdikaaeedeoaaDoor
open Go.RowKit Go.Maps
set_option maxRecDepth 100000

theorem esc_snoc (s : List UInt8) (k : Nat) (h : k < s.length) : Ky.esc (s.take (k + 1)) = Ky.esc (s.take k) ++ (if s[k] = 0 then [0, 255] else [s[k]]) := by
  rw [take_last s k h, Ky.esc_append]
  congr 1
set_option maxHeartbeats 6400000 in
theorem rpack_any (w : World) (A : Option Addr) (c : Nat) (l : List Ky.Part) (hr : RdP w w.heap.size A l) (hs : Small l) (hl : l.length ≤ 1048576) :
    Calls Tryd.prog 12 #[.slice A l.length c] w (PackPost w l) := by
  by_cases h16 : 16 < l.length
  · have h1 : (16 : Int) < (l.length : Int) := by omega
    have HP := Lib.hid (Ky.pack_full h16)
    clear h16
    go_enter Tryd.func12, Tryd.ntmps12
    go_wp2_with fail
    go_ret2
    exact ret_pack HP.out (Below.refl _ _)
  · have h1 : ¬ ((16 : Int) < (l.length : Int)) := by omega
    have H16 := Lib.hid h16
    have HR := Lib.hid hr
    have HS := Lib.hid hs
    clear hr hs h16
    go_enter Tryd.func12, Tryd.ntmps12
    go_wp2_with fail
    go_loopw [4, 5] (fun v i wr => ∃ k : Nat, k ≤ l.length ∧ i = .int .i64 k ∧ Hid ((l.take k).all Ky.Part.ok = true) ∧ Hid (OwnV wr w.heap.size v (Ky.bytes (l.take k))) ∧ Hid (Below w.heap.size w wr)) (fun _ i _ => l.length - (intOf i).toNat)
    case atStart => exact ⟨0, by omega, rfl, Lib.hid rfl, Lib.hid (OwnV.nil _ _), Lib.hid (Below.refl _ _)⟩
    case round =>
      rename World => wr
      obtain ⟨k, hk, rfl, hok, hO, hB⟩ := hrel
      by_cases hlt : k < l.length
      · have hk16 : (k : Int) < 16 := by omega
        have hlt' : (k : Int) < (l.length : Int) := by omega
        obtain ⟨g, o, rfl, hg, hcell⟩ := HR.out.below hB.out (Nat.le_refl _) (fun e => by rw [e] at hlt; exact absurd hlt (by simp))
        obtain ⟨p, hp⟩ : ∃ p, l[k]? = some p := ⟨_, List.getElem?_eq_getElem hlt⟩
        obtain ⟨x0, x1, x2⟩ := hcell k p hp
        have HC : Hid (∀ W, Below w.heap.size w W → W.cell? ⟨g, o + k * 3, none⟩ = some (.bool p.text) ∧ W.cell? ⟨g, o + k * 3 + 1, none⟩ = some (.int .i64 p.n) ∧ W.cell? ⟨g, o + k * 3 + 2, none⟩ = some (bstr p.say)) := Lib.hid fun W hW => by
          obtain ⟨g2, o2, e, hg2, hcell⟩ := HR.out.below hW (Nat.le_refl _) (fun e => by rw [e] at hlt; exact absurd hlt (by simp))
          injection e with e
          injection e with e1 e2
          subst e1 e2
          exact hcell k p hp
        have HPS := Lib.hid (HS.out p (List.mem_of_getElem? hp))
        have HT : Hid (l.take (k + 1) = l.take k ++ [p]) := Lib.hid (by rw [List.take_add_one, hp]; rfl)
        have HBT : Hid ((Ky.bytes (l.take k)).length ≤ 1000000000) := Lib.hid (by
          have h1 := bytes_small (l.take k) (fun q hq => HS.out q (List.mem_of_mem_take hq))
          have h2 : (l.take k).length ≤ 16 := by rw [List.length_take]; omega
          omega)
        have HPK := Lib.hid hp
        clear hcell hp
        generalize hd : Ky.bytes (l.take k) = d at *
        have HD := Lib.hid hd
        clear hd
        unfold bstr at *
        cases hpo : p.ok with
        | false =>
          have HA : Hid (l.all Ky.Part.ok = false) := Lib.hid (by
            rw [List.all_eq_false]
            exact ⟨p, List.mem_of_getElem? HPK.out, by rw [hpo]; decide⟩)
          cases ht : p.text with
          | true =>
            have hn : (p.n != 0) = true := by unfold Ky.Part.ok at hpo; rw [ht] at hpo; simpa using hpo
            rw [ht] at x0
            clear hpo
            go_wp2_with fail
            go_ret2
            exact ret_pack (Ky.pack_bad H16.out HA.out) hB.out
          | false =>
            have hn : p.say.isEmpty = false := by unfold Ky.Part.ok at hpo; rw [ht] at hpo; simpa using hpo
            rw [ht] at x0
            clear hpo
            go_wp2_with fail
            go_ret2
            exact ret_pack (Ky.pack_bad H16.out HA.out) hB.out
        | true =>
          have HOK : Hid ((l.take (k + 1)).all Ky.Part.ok = true) := Lib.hid (by rw [HT.out, List.all_append, hok.out]; simp [hpo])
          cases ht : p.text with
          | true =>
            have hn0 : p.n = 0 := by unfold Ky.Part.ok at hpo; rw [ht] at hpo; simpa using hpo
            have HBY : Hid (Ky.bytes (l.take (k + 1)) = d ++ [2] ++ Ky.esc p.say ++ [0, 0]) := Lib.hid (by rw [HT.out, Ky.bytes_append, HD.out, Ky.bytes_cons, Ky.bytes_nil]; unfold Ky.Part.bytes; rw [ht]; simp)
            rw [ht] at x0
            rw [hn0] at x1
            clear hpo
            go_wp2_with (refine wpList_append_v rfl (.tmp 74) (.tmp 75) rfl w.heap.size _ d rfl (hO.out.alloc _) _ (some ⟨wr.heap.size, 0, none⟩) [2] 1 rfl (rd_one wr _ 2 rfl) (fun e => by cases e) (by have := HBT.out; simp only [List.length_cons, List.length_nil]; omega) (by have := hB.out.size; simp; omega) w (hB.out.alloc hB.out.size _) ?_; intro v2 w2 O2 B2)
            go_loopw [4, 8] (fun v j wq => ∃ q : Nat, q ≤ p.say.length ∧ j = .int .i64 q ∧ Hid (OwnV wq w.heap.size v (d ++ [2] ++ Ky.esc (p.say.take q))) ∧ Hid (Below w.heap.size w wq)) (fun _ j _ => p.say.length - (intOf j).toNat)
            case atStart => exact ⟨0, by omega, rfl, Lib.hid (by simpa [Ky.esc] using O2.out), B2⟩
            case round =>
              rename World => wq
              obtain ⟨q, hq, rfl, hO2, hB2⟩ := hrel
              obtain ⟨y0, y1, y2⟩ := HC.out wq hB2.out
              rw [ht] at y0
              have hqb : (q : Int) ≤ 1048576 := by have := HPS.out.2; omega
              have HEL : Hid ((d ++ [2] ++ Ky.esc (p.say.take q)).length ≤ 1100000000) := Lib.hid (by
                have h1 := HBT.out
                have h2 := Ky.esc_len (p.say.take q)
                have h3 := HPS.out.2
                have h4 : (p.say.take q).length ≤ p.say.length := by rw [List.length_take]; omega
                simp only [List.length_append, List.length_cons, List.length_nil]
                omega)
              by_cases hql : q < p.say.length
              · obtain ⟨b, hb⟩ : ∃ b, p.say[q] = b := ⟨_, rfl⟩
                have hix := byte_at p.say q hql b hb
                have hesc := esc_snoc p.say q hql
                rw [hb] at hesc
                have hql' : (q : Int) < (p.say.length : Int) := by omega
                have hqd : decide (p.say.length ≤ q) = false := decide_eq_false (by omega)
                clear hb
                by_cases h0 : b = 0
                · subst h0
                  rw [if_pos rfl] at hesc
                  have HES := Lib.hid hesc
                  clear hesc
                  go_wp2_with (first
                    | (refine wpList_append_v rfl (.tmp 87) (.tmp 95) rfl w.heap.size _ (d ++ [2] ++ Ky.esc (p.say.take q)) rfl (hO2.out.alloc _) _ (some ⟨wq.heap.size, 0, none⟩) [0] 1 rfl (rd_one wq _ 0 rfl) (fun e => by cases e) (by have := HEL.out; simp only [List.length_cons, List.length_nil] at *; omega) (by have := hB2.out.size; simp; omega) w (hB2.out.alloc hB2.out.size _) ?_
                       intro v3 w3 O3 B3
                       obtain ⟨z0, z1, z2⟩ := HC.out w3 B3.out)
                    | (refine wpList_append_v rfl (.tmp 105) (.tmp 106) rfl w.heap.size _ (d ++ [2] ++ Ky.esc (p.say.take q) ++ [0]) rfl (O3.out.alloc _) _ (some ⟨w3.heap.size, 0, none⟩) [255] 1 rfl (rd_one w3 _ 255 rfl) (fun e => by cases e) (by have := HEL.out; rw [List.length_append]; simp only [List.length_cons, List.length_nil] at *; omega) (by have := B3.out.size; simp; omega) w (B3.out.alloc B3.out.size _) ?_
                       intro v4 w4 O4 B4))
                  go_roundw
                  case rel => exact ⟨q + 1, by omega, by go_num, Lib.hid (by rw [HES.out]; simpa using O4.out), B4⟩
                  case measure => (simp [intOf]) <;> omega
                · rw [if_neg h0] at hesc
                  have HES := Lib.hid hesc
                  have hb1 : ((b.toNat : Int) == 0) = false := (u8_eq' b 0).trans (decide_eq_false h0)
                  have hbl : (b.toNat : Int) < 256 := by have := b.toNat_lt; omega
                  clear hesc h0
                  go_wp2_with (refine wpList_append_v rfl (.tmp 87) (.tmp 95) rfl w.heap.size _ (d ++ [2] ++ Ky.esc (p.say.take q)) rfl (hO2.out.alloc _) _ (some ⟨wq.heap.size, 0, none⟩) [b] 1 rfl (rd_one wq _ b rfl) (fun e => by cases e) (by have := HEL.out; simp only [List.length_cons, List.length_nil] at *; omega) (by have := hB2.out.size; simp; omega) w (hB2.out.alloc hB2.out.size _) ?_; intro v3 w3 O3 B3; obtain ⟨z0, z1, z2⟩ := HC.out w3 B3.out)
                  go_roundw
                  case rel => exact ⟨q + 1, by omega, by go_num, Lib.hid (by rw [HES.out]; simpa using O3.out), B3⟩
                  case measure => (simp [intOf]) <;> omega
              · obtain rfl : q = p.say.length := by omega
                have hqd : decide (p.say.length ≤ p.say.length) = true := decide_eq_true (Nat.le_refl _)
                have hob := hO2.out
                rw [List.take_length] at hob HEL
                have HOB := Lib.hid hob
                clear hob
                go_wp2_with (refine wpList_append_v rfl (.tmp 108) (.tmp 109) rfl w.heap.size _ (d ++ [2] ++ Ky.esc p.say) rfl (HOB.out.alloc _) (wq.heap.size + 1) (some ⟨wq.heap.size, 0, none⟩) [0, 0] 2 rfl ((Rd.of_has (o := 0) (Has.of_alloc wq _ _) rfl (by simp)).more (by simp)) (fun e => by cases e) (by have := HEL.out; simp only [List.length_cons, List.length_nil] at *; omega) (by have := hB2.out.size; simp; omega) w (hB2.out.alloc hB2.out.size _) ?_; intro v3 w3 O3 B3)
                go_roundw
                case rel => exact ⟨k + 1, by omega, by go_num, HOK, Lib.hid (by rw [HBY.out]; exact O3.out), B3⟩
                case measure => (simp [intOf]) <;> omega
          | false =>
            have hn0 : p.say = [] := by unfold Ky.Part.ok at hpo; rw [ht] at hpo; simpa using hpo
            have HBY : Hid (Ky.bytes (l.take (k + 1)) = d ++ [1] ++ Pg.be 8 (Ky.shift p.n)) := Lib.hid (by rw [HT.out, Ky.bytes_append, HD.out, Ky.bytes_cons, Ky.bytes_nil]; unfold Ky.Part.bytes; rw [ht]; simp)
            rw [ht] at x0
            rw [hn0] at x2
            have hsg := Ky.sign_on p.n HPS.out.1.1 HPS.out.1.2
            have hsl := Ky.shift_lt p.n HPS.out.1.1 HPS.out.1.2
            generalize hu : Ky.shift p.n = u at *
            clear hpo hu
            go_wp2_with (refine wpList_append_v rfl (.tmp 60) (.tmp 61) rfl w.heap.size _ d rfl (hO.out.alloc _) _ (some ⟨wr.heap.size, 0, none⟩) [1] 1 rfl (rd_one wr _ 1 rfl) (fun e => by cases e) (by have := HBT.out; simp only [List.length_cons, List.length_nil]; omega) (by have := hB.out.size; simp; omega) w (hB.out.alloc hB.out.size _) ?_; intro v2 w2 O2 B2)
            go_loopw [4, 7] (fun v j wq => ∃ (r : Nat) (z : Int), r ≤ 8 ∧ z = 56 - 8 * (r : Int) ∧ j = .int .i64 z ∧ Hid (OwnV wq w.heap.size v (d ++ [1] ++ (Pg.be 8 u).take r)) ∧ Hid (Below w.heap.size w wq)) (fun _ j _ => (intOf j + 8).toNat)
            case atStart => exact ⟨0, 56, by omega, by omega, rfl, Lib.hid (by simpa using O2.out), B2⟩
            case round =>
              rename World => wq
              obtain ⟨r, z, hr, hz, rfl, hO2, hB2⟩ := hrel
              by_cases hr8 : r < 8
              · obtain ⟨i, rfl⟩ : ∃ i : Nat, z = (i : Int) := ⟨56 - 8 * r, by omega⟩
                have hi : (i : Int) ≤ 56 := by omega
                have hbx : ((u : Int) / 2 ^ i % 256) = ((UInt8.ofNat (u / 256 ^ (8 - 1 - r) % 256)).toNat : Int) := by
                  rw [UInt8.toNat_ofNat', Nat.mod_eq_of_lt (a := u / 256 ^ (8 - 1 - r) % 256) (Nat.mod_lt _ (by decide)), show (256 : Nat) ^ (8 - 1 - r) = 2 ^ i by rw [show i = 8 * (8 - 1 - r) by omega, Nat.pow_mul]]
                  norm_cast
                have HBX := Lib.hid hbx
                have HZ := Lib.hid hz
                have HTK := Lib.hid (Pr.be_next 8 u r hr8)
                have HEL : Hid ((d ++ [1] ++ (Pg.be 8 u).take r).length ≤ 1100000000) := Lib.hid (by
                  have h1 := HBT.out
                  have h2 : ((Pg.be 8 u).take r).length ≤ 8 := by rw [List.length_take]; omega
                  simp only [List.length_append, List.length_cons, List.length_nil]
                  omega)
                clear hz hbx
                go_wp2_with (refine wpList_append_v rfl (.tmp 67) (.tmp 72) rfl w.heap.size _ (d ++ [1] ++ (Pg.be 8 u).take r) rfl (hO2.out.alloc _) _ (some ⟨wq.heap.size, 0, none⟩) [UInt8.ofNat (u / 256 ^ (8 - 1 - r) % 256)] 1 rfl (rd_one wq _ _ HBX.out) (fun e => by cases e) (by have := HEL.out; simp only [List.length_cons, List.length_nil] at *; omega) (by have := hB2.out.size; simp; omega) w (hB2.out.alloc hB2.out.size _) ?_; intro v3 w3 O3 B3)
                go_roundw
                case rel => exact ⟨r + 1, (i : Int) - 8, by omega, by have := HZ.out; omega, rfl, Lib.hid (by rw [HTK.out]; simpa using O3.out), B3⟩
                case measure => (simp [intOf]) <;> omega
              · obtain rfl : r = 8 := by omega
                obtain rfl : z = -8 := by omega
                have hob := hO2.out
                rw [List.take_of_length_le (by rw [Pg.be_length]; omega)] at hob
                have HOB := Lib.hid hob
                clear hob hz hr hr8
                go_wp2_with fail
                go_roundw
                case rel => exact ⟨k + 1, by omega, by go_num, HOK, Lib.hid (by rw [HBY.out]; exact HOB.out), hB2⟩
                case measure => (simp [intOf]) <;> omega
      · obtain rfl : k = l.length := by omega
        have hob := hO.out
        have h1 := hok.out
        rw [List.take_length] at hob h1
        have hsm := bytes_small l HS.out
        obtain ⟨A2, c2, rfl, -, hrd⟩ := hob.form
        have hcv := conv_rd wr _ A2 (Ky.bytes l) c2 (hrd (by omega))
        have HOK := Lib.hid h1
        clear h1 hob hrd hsm
        unfold bstr at hcv
        go_wp2_with fail
        go_ret2
        exact ret_pack (Ky.pack_ok H16.out HOK.out) hB.out
end Go.Proofs.YtfbdikaaeedeoaaDoor

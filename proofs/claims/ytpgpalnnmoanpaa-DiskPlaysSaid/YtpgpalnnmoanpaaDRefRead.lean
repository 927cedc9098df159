/-
  Read of the disk by its words: a copy of the last write that waits, or of what lasts.
-/
import Derived.Test.YtpgpalnnmoanpaaDRef
import Derived.Test.YtpgpalnnmoanpaaDLastW
namespace Go.Proofs.Ytpgpalnnmoanpaa
open Go.RowKit Go.Maps

theorem seen_take (ws : List Dk.Wr) (i : Nat) (s : Dk.Sec) (k : Nat) (hk : k < ws.length) : Dk.seen (ws.take (k + 1)) i s = if ws[k].at_ = i then ws[k].says else Dk.seen (ws.take k) i s := by
  rw [List.take_succ_eq_append_getElem hk, Dk.seen_snoc]
section
variable {w : World} {S I : Nat → Prop} {x : Nat} {lv wv kv : Value} {ls vs : List Value} {lit : Bool} {left : Nat} {p : Dk.Pl} {d : Dk.St}
theorem RLies.wcell (h : RLies w S I x lv wv kv ls vs lit left p d) {k : Nat} (hk : k < d.waits.length) :
    ∃ V cap v, wv = .slice (some ⟨V, 0, none⟩) d.waits.length cap ∧ w.cell? ⟨V, k * 2, none⟩ = some (.int .i64 (d.waits[k].at_ : Int)) ∧ w.cell? ⟨V, k * 2 + 1, none⟩ = some v ∧ SecAt w I v d.waits[k].says := by
  obtain ⟨v, hv, hs⟩ := h.wrs k _ (List.getElem?_eq_getElem hk)
  obtain ⟨hvl, hve⟩ := List.getElem?_eq_some_iff.1 hv
  have hw := h.waits
  rcases hw.2 with ⟨_, h0⟩ | ⟨V, cap, cur, rfl, _⟩
  · omega
  · refine ⟨V, cap, v, rfl, ?_, ?_, hs⟩
    · rw [hw.cellAt _ (by omega), show k * 2 = k * 2 + 0 from rfl, rcells_at d.waits vs h.vlen k hk 0 (by omega)]; rfl
    · rw [hw.cellAt _ (by omega), rcells_at d.waits vs h.vlen k hk 1 (by omega), ← hve]; rfl
theorem RLies.lcell (h : RLies w S I x lv wv kv ls vs lit left p d) {k : Nat} (hk : k < d.lasts.length) :
    ∃ L cap v, lv = .slice (some ⟨L, 0, none⟩) d.lasts.length cap ∧ w.cell? ⟨L, k, none⟩ = some v ∧ SecAt w I v d.lasts[k] := by
  obtain ⟨v, hv, hs⟩ := h.secs k _ (List.getElem?_eq_getElem hk)
  have hw := h.lasts
  rcases hw.2 with ⟨_, h0⟩ | ⟨L, cap, cur, rfl, _⟩
  · omega
  · refine ⟨L, cap, v, rfl, ?_, hs⟩
    rw [hw.cellAt _ (by omega)]; exact hv
end

theorem rread_dead (w : World) (x : Nat) (i : Int) (hc : w.cell? ⟨x, 3, none⟩ = some (.bool true)) : Calls Try.prog 26 #[.pointer (some ⟨x, 0, none⟩), .int .i64 i] w fun e w' => e = .returned (.tuple #[.slice none 0 0, .int .i64 20]) ∧ w = w' := by
  go_enter Try.func26, Try.ntmps26
  go_wp2_with fail
  go_ret2
  exact ⟨rfl, rfl⟩
theorem rread_out (w : World) (x : Nat) (i : Int) (A : Option Addr) (n cap : Nat) (hc : w.cell? ⟨x, 3, none⟩ = some (.bool false)) (h0 : w.cell? ⟨x, 0, none⟩ = some (.slice A n cap)) (hi : ¬ (0 ≤ i ∧ i < n)) :
    Calls Try.prog 26 #[.pointer (some ⟨x, 0, none⟩), .int .i64 i] w fun e w' => e = .returned (.tuple #[.slice none 0 0, .int .i64 1]) ∧ w = w' := by
  rcases Int.lt_or_le i 0 with h | h
  · clear hi
    go_enter Try.func26, Try.ntmps26
    go_wp2_with fail
    go_ret2
    exact ⟨rfl, rfl⟩
  · have h2 : (n : Int) ≤ i := by omega
    clear hi
    go_enter Try.func26, Try.ntmps26
    go_wp2_with fail
    go_ret2
    exact ⟨rfl, rfl⟩

/-- a copy of a sector: bytes in new memory -/
def CopyOf (w : World) (s : Dk.Sec) (e : Ending) (w' : World) : Prop :=
  ∃ V cap, e = .returned (.tuple #[.slice (some ⟨V, 0, none⟩) 128 cap, .int .i64 0]) ∧ w.heap.size ≤ V ∧ BytesAt w' (.slice (some ⟨V, 0, none⟩) 128 cap) s ∧ Below w.heap.size w w'
theorem copy_end {w w1 : World} {s : Dk.Sec} (hs : s.length = 128) {v' : Value} (h : w1.ownsRow 0 5 1 v' (0 + 128) ([] ++ Dk.secCells s)) (hg : (w.alloc (.cells #[] 5)).grownBy w1 (some w.heap.size)) (hnil : v' = .slice none 0 0 ↔ Value.slice (some ⟨w.heap.size, 0, none⟩) 0 0 = .slice none 0 0 ∧ (128 : Nat) = 0)
    (hat : v'.ownBlock = some w.heap.size ∨ v'.ownBlock = some (w.alloc (.cells #[] 5)).heap.size) : CopyOf w s (.returned (.tuple #[v', .int .i64 0])) w1 := by
  have hne : v' ≠ .slice none 0 0 := fun he => by have := (hnil.1 he).1; cases this
  rw [Nat.zero_add, List.nil_append] at h
  have hown := h
  rcases h.2 with ⟨h0, _⟩ | ⟨g, cap, cur, rfl, _, hgg, _⟩
  · exact absurd h0 hne
  · refine ⟨g, cap, rfl, ?_, ⟨_, _, by rw [hs], by omega, fun _ => ⟨_, rfl, fun j y hj => ?_⟩⟩, ((Below.refl w.heap.size w).alloc (Nat.le_refl _) _).grown hg (by simp) (fun k hk => by injection hk with hk; omega)⟩
    · rcases hat with hat | hat
      · have : g = w.heap.size := by simpa [Value.ownBlock] using hat
        omega
      · have : g = w.heap.size + 1 := by simpa [Value.ownBlock] using hat
        omega
    · have hjl := (List.getElem?_eq_some_iff.1 hj).1
      rw [Addr.add_mid, Nat.zero_add, hown.cellAt _ (by omega), Dk.secCells, List.getElem?_map, hj]
      rfl

set_option maxHeartbeats 800000 in
theorem rread_at (w : World) (S I : Nat → Prop) (x : Nat) (d : Dk.St) (h : RefAt w S I x d) (hdead : d.dead = false) (hm : d.waits.length ≤ 1000000) (i : Nat) (hi : i < d.lasts.length) :
    Calls Try.prog 26 #[.pointer (some ⟨x, 0, none⟩), .int .i64 i] w (CopyOf w (d.read i)) := by
  obtain ⟨lv, wv, kv, ls, vs, lit, left, p, h⟩ := h
  have c0 := h.c0
  have c1 := h.c1
  have c3 := h.c3
  rw [hdead] at c3
  obtain ⟨L, lcap, v0, rfl, l0, hs0⟩ := h.lcell hi
  obtain ⟨A, c, rfl⟩ := h.wform
  have hmost := h.ok.most
  have hfull := h.ok.full _ (List.getElem_mem hi)
  have hfw := h.ok.fullW
  have H := Lib.hid h
  have HS0 := Lib.hid hs0
  have Hfull := Lib.hid hfull
  have Hfw := Lib.hid hfw
  have hrd : d.read i = Dk.seen d.waits i d.lasts[i] := by
    unfold Dk.St.read
    rw [List.getD_eq_getElem?_getD, List.getElem?_eq_getElem hi]
    rfl
  have Hrd := Lib.hid hrd
  obtain ⟨i0, hi0, hz0, hz1, hz2⟩ := info_parts inf_u8
  have I0 := Lib.hid hi0
  have I1 := Lib.hid hz0
  have I2 := Lib.hid hz1
  have I3 := Lib.hid hz2
  have hi1 : (i : Int) < d.lasts.length := by omega
  clear h hs0 hfull hfw hdead hrd hi0 hz0 hz1 hz2
  go_enter Try.func26, Try.ntmps26
  go_wp2_with fail
  go_loop [6] (fun i6 => ∃ k : Nat, k ≤ d.waits.length ∧ (∃ z : Int, i6 = .int .i64 z ∧ z + 1 = k) ∧ Dk.seen d.waits i d.lasts[i] = Dk.seen (d.waits.take k) i d.lasts[i]) (fun i6 => (intOf i6 + 1).toNat)
  case atStart => exact ⟨d.waits.length, Nat.le_refl _, ⟨_, rfl, by omega⟩, by rw [List.take_length]⟩
  case round =>
    obtain ⟨k, hk, ⟨z, rfl, hz⟩, hseen⟩ := hrel
    have Hseen := Lib.hid hseen
    clear hseen
    cases k with
    | zero =>
      obtain rfl : z = -1 := by omega
      obtain ⟨g, c1', rfl, _, hlt0, hc0⟩ := HS0.out
      clear hz
      have hsrc : ∀ j u, (Dk.secCells d.lasts[i])[j]? = some u → (w.alloc (.cells #[] 5)).cell? ((⟨g, 0, none⟩ : Addr).add j) = some u := fun j u hj => by
        rw [World.cell?_alloc_lt _ _ _ (by rw [blockOf_add]; exact hlt0), Addr.add_mid, Nat.zero_add]; exact hc0 j u hj
      have Hsrc := Lib.hid hsrc
      have hln : (Dk.secCells d.lasts[i]).length = 128 * 1 := by rw [Dk.secCells_len, Hfull.out]
      have Hln := Lib.hid hln
      have c0' : (w.alloc (.cells #[] 5)).cell? ⟨x, 0, none⟩ = some (.slice (some ⟨L, 0, none⟩) d.lasts.length lcap) := (World.cell?_alloc_lt _ _ _ (block_lt_of_cell c0)).trans c0
      have l0' : (w.alloc (.cells #[] 5)).cell? ⟨L, i, none⟩ = some (.slice (some ⟨g, 0, none⟩) 128 c1') := (World.cell?_alloc_lt _ _ _ (block_lt_of_cell l0)).trans l0
      clear hsrc hc0 hlt0 hln
      go_wp2_with (at_builtin; refine wpList_append_own_at _ rfl (.tmp 52) (.tmp 59) _ rfl 0 5 i0 _ 1 1 und_bytes I0.out I1.out I2.out I3.out rfl (by omega) (.slice (some ⟨w.heap.size, 0, none⟩) 0 0) 0 [] rfl (World.ownsRow_made w #[] 0 (Nat.zero_le _) (Nat.zero_le _) rfl) ⟨g, 0, none⟩ 128 c1' _ rfl Hln.out Hsrc.out (Dk.secCells_one _) (by unfold maxLen; omega) (by omega) (Nat.zero_le _) ?_; intro v' w1 hown hg hnil hat; have Ho := Lib.hid hown; have Hg := Lib.hid hg; have Hn := Lib.hid hnil; have Ha := Lib.hid hat; clear hown hg hnil hat)
      go_ret2
      rw [Hrd.out, Hseen.out]
      exact copy_end Hfull.out Ho.out Hg.out Hn.out Ha.out
    | succ k =>
      obtain rfl : z = (k : Int) := by omega
      clear hz
      obtain ⟨V, cap, v1, hv, w0, w1, hs1⟩ := H.out.wcell (k := k) (by omega)
      injection hv with hv1 _ hv2
      subst hv1
      clear hv2
      have hst := seen_take d.waits i d.lasts[i] k (by omega)
      have hfl := (Hfw.out _ (List.getElem_mem (show k < d.waits.length by omega))).1
      have hk1 : (k : Int) < d.waits.length := by omega
      generalize d.waits[k] = y at *
      obtain ⟨g, c1', rfl, _, hlt0, hc0⟩ := hs1
      have Hst := Lib.hid hst
      have Hfl := Lib.hid hfl
      clear hst hfl
      by_cases hy : y.at_ = i
      · have hyb : ((y.at_ : Int) == (i : Int)) = true := by rw [beq_iff_eq]; omega
        have hsy : d.read i = y.says := by rw [Hrd.out, Hseen.out, Hst.out, if_pos hy]
        have Hsy := Lib.hid hsy
        have hsrc : ∀ j u, (Dk.secCells y.says)[j]? = some u → (w.alloc (.cells #[] 5)).cell? ((⟨g, 0, none⟩ : Addr).add j) = some u := fun j u hj => by
          rw [World.cell?_alloc_lt _ _ _ (by rw [blockOf_add]; exact hlt0), Addr.add_mid, Nat.zero_add]; exact hc0 j u hj
        have Hsrc := Lib.hid hsrc
        have hln : (Dk.secCells y.says).length = 128 * 1 := by rw [Dk.secCells_len, Hfl.out]
        have Hln := Lib.hid hln
        have c1'' : (w.alloc (.cells #[] 5)).cell? ⟨x, 1, none⟩ = some (.slice (some ⟨V, 0, none⟩) d.waits.length c) := (World.cell?_alloc_lt _ _ _ (block_lt_of_cell c1)).trans c1
        have w1' : (w.alloc (.cells #[] 5)).cell? ⟨V, k * 2 + 1, none⟩ = some (.slice (some ⟨g, 0, none⟩) 128 c1') := (World.cell?_alloc_lt _ _ _ (block_lt_of_cell w1)).trans w1
        clear hsrc hc0 hlt0 hln hy hsy
        go_wp2_with (at_builtin; refine wpList_append_own_at _ rfl (.tmp 42) (.tmp 50) _ rfl 0 5 i0 _ 1 1 und_bytes I0.out I1.out I2.out I3.out rfl (by omega) (.slice (some ⟨w.heap.size, 0, none⟩) 0 0) 0 [] rfl (World.ownsRow_made w #[] 0 (Nat.zero_le _) (Nat.zero_le _) rfl) ⟨g, 0, none⟩ 128 c1' _ rfl Hln.out Hsrc.out (Dk.secCells_one _) (by unfold maxLen; omega) (by omega) (Nat.zero_le _) ?_; intro v' w1 hown hg hnil hat; have Ho := Lib.hid hown; have Hg := Lib.hid hg; have Hn := Lib.hid hnil; have Ha := Lib.hid hat; clear hown hg hnil hat)
        go_ret2
        rw [Hsy.out]
        exact copy_end Hfl.out Ho.out Hg.out Hn.out Ha.out
      · have hyb : ((y.at_ : Int) == (i : Int)) = false := by rw [beq_eq_false_iff_ne]; omega
        have hsy : Dk.seen d.waits i d.lasts[i] = Dk.seen (d.waits.take k) i d.lasts[i] := by rw [Hseen.out, Hst.out, if_neg hy]
        have Hsy := Lib.hid hsy
        clear hy hsy hc0 hlt0
        go_wp2_with fail
        go_round
        case rel => exact ⟨k, by omega, ⟨_, rfl, by omega⟩, Hsy.out⟩
        case measure => simp [intOf]
end Go.Proofs.Ytpgpalnnmoanpaa

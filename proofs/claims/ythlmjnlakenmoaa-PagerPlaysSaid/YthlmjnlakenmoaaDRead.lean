/-
  Read: what the last write that waits says, else what lasts; in new memory.
-/
import Derived.Test.YthlmjnlakenmoaaDNew
namespace Go.Proofs.Ythlmjnlakenmoaa
open Go.RowKit Go.Maps
set_option maxRecDepth 100000

theorem part_of_take {α : Type} {l xs : List α} {N : Nat} (h : l.take N = xs) (o m : Nat) (hm : o + m ≤ N) : (l.drop o).take m = (xs.drop o).take m := by
  rw [← h, List.drop_take, List.take_take, Nat.min_eq_left (by omega)]
theorem secs_part {l : List Dk.Sec} (h : Dk.Full l) {i : Nat} (hi : i < l.length) {c : List Value} (hc : c.take (l.length * 128) = Dk.secs l) : (c.drop (i * 128)).take 128 = Dk.secCells (l.getD i []) := by
  rw [part_of_take hc _ _ (by omega), List.getD_eq_getElem?_getD, List.getElem?_eq_getElem hi]
  exact Dk.flat_at h.cells i hi
theorem wrs_part {n : Nat} {l : List Dk.Wr} (h : Dk.FullW n l) {k : Nat} (hk : k < l.length) {c : List Value} (hc : c.take (l.length * 129) = Dk.wrs l) : (c.drop (k * 129)).take 129 = Dk.wrCells l[k] := by
  rw [part_of_take hc _ _ (by omega)]
  exact Dk.flat_at h.cells k hk
theorem wrs_says {n : Nat} {l : List Dk.Wr} (h : Dk.FullW n l) {k : Nat} (hk : k < l.length) {c : List Value} (hc : c.take (l.length * 129) = Dk.wrs l) : (c.drop (k * 129 + 1)).take 128 = Dk.secCells l[k].says := by
  have := wrs_part h hk hc
  have e : (c.drop (k * 129 + 1)).take 128 = ((c.drop (k * 129)).take 129).drop 1 := by rw [List.drop_take, List.drop_drop]
  rw [e, this]; rfl

theorem read_nil (w : World) (i : Int) : Calls Try.prog 71 #[.pointer none, .int .i64 i] w fun e w' => e = .returned (.tuple #[.slice none 0 0, .int .i64 2]) ∧ w = w' := by
  go_enter Try.func71, Try.ntmps71
  go_wp2_with (go_at_call 58; refine (refuse_nil _).mono ?_; rintro e w' ⟨rfl, rfl⟩)
  go_ret2
  exact ⟨rfl, rfl⟩
theorem read_dead (w : World) (b : Nat) (i : Int) (hc : w.cell? ⟨b, 4, none⟩ = some (.bool true)) : Calls Try.prog 71 #[.pointer (some ⟨b, 0, none⟩), .int .i64 i] w fun e w' => e = .returned (.tuple #[.slice none 0 0, .int .i64 20]) ∧ w = w' := by
  go_enter Try.func71, Try.ntmps71
  go_wp2_with (go_at_call 58; refine (refuse_any _ _ true hc).mono ?_; rintro e w' ⟨rfl, rfl⟩)
  go_ret2
  exact ⟨rfl, rfl⟩
theorem read_out (w : World) (b : Nat) (i : Int) (a : Option Addr) (n cap : Nat) (hc : w.cell? ⟨b, 4, none⟩ = some (.bool false)) (h0 : w.cell? ⟨b, 0, none⟩ = some (.slice a n cap)) (hi : ¬ (0 ≤ i ∧ i < n)) :
    Calls Try.prog 71 #[.pointer (some ⟨b, 0, none⟩), .int .i64 i] w fun e w' => e = .returned (.tuple #[.slice none 0 0, .int .i64 1]) ∧ w = w' := by
  have hd := has_any w b a n cap i h0
  rw [decide_eq_false hi] at hd
  have Hd := Lib.hid hd
  clear hd hi
  go_enter Try.func71, Try.ntmps71
  go_wp2_with (first
    | (go_at_call 58; refine (refuse_any _ _ false hc).mono ?_; rintro e w' ⟨rfl, rfl⟩)
    | (go_at_call 77; refine Hd.out.mono ?_; rintro e w' ⟨rfl, rfl⟩))
  go_ret2
  exact ⟨rfl, rfl⟩

set_option maxHeartbeats 800000 in
theorem read_last (w : World) (b L cap n M m : Nat) (D : DataW Unit) (cur : Array Value) (s0 : Dk.Sec) (i : Nat) (hi : i < n) (hn : n ≤ 65536)
    (c0 : w.cell? ⟨b, 0, none⟩ = some (.slice (some ⟨L, 0, none⟩) n cap)) (c2 : w.cell? ⟨b, 2, none⟩ = some (.map (some M))) (c4 : w.cell? ⟨b, 4, none⟩ = some (.bool false))
    (hL : Has w L 108 cur) (h1 : (cur.toList.drop (i * 128)).take 128 = Dk.secCells s0) (h2 : s0.length = 128)
    (hown : w.ownsMap Try.prog 3 (plainElem Try.prog 3) M m D) (hh : has D (.int .i64 (i : Int)) = false) :
    Calls Try.prog 71 #[.pointer (some ⟨b, 0, none⟩), .int .i64 i] w fun e w' => e = .returned (.tuple #[.slice (some ⟨w.heap.size, 0, none⟩) 128 128, .int .i64 0]) ∧ w' = w.alloc (.cells (Dk.secCells s0).toArray 108) := by
  have hd := has_any w b _ _ _ (i : Int) c0
  rw [decide_eq_true ⟨by omega, by omega⟩] at hd
  have Hd := Lib.hid hd
  have hl : (Dk.secCells s0).length = 128 := by rw [Dk.secCells_len]; exact h2
  have hz := zer_of inf_sec
  have hkey : keyOf Try.prog 3 (.int .i64 (i : Int)) = some (.int .i64 (i : Int)) := keyOf_int_mk und_int (WalkArith.wf_i64 (by omega))
  have H1 := Lib.hid h1
  have H2 := Lib.hid hl
  have Hh := Lib.hid hh
  have Hk := Lib.hid hkey
  clear hd h1 h2 hl hh hkey
  have hi1 : (i : Int) < n := by omega
  have hblt := block_lt_of_cell c0
  go_enter Try.func71, Try.ntmps71
  go_wp2_with (first
    | (go_at_call 58; refine (refuse_any _ _ false c4).mono ?_; rintro e w' ⟨rfl, rfl⟩)
    | (go_at_call 77; refine Hd.out.mono ?_; rintro e w' ⟨rfl, rfl⟩)
    | (refine arm_load rfl 108 (.tmp 24) rfl L (i * 128) 128 rfl hL und_sec rfl siz_sec (Dk.secCells s0) H1.out H2.out ?_)
    | (refine arm_fill rfl 108 (.tmp 7) (.tmp 25) rfl w (Dk.secCells s0) rfl rfl 108 zero128 rfl (by rw [siz_sec, H2.out]) (by rw [zero128_size, H2.out]) (Dk.secCells_one _) ?_)
    | (at_lookup; refine wpList_lookup_own_ok_int _ rfl _ _ 94 rfl 3 3 .i64 key_int und_map und_int (zer_int _) M m D rfl (hown.alloc _) _ _ rfl Hk.out ?_; intro c hat hwf; rw [Hh.out]; clear hat hwf))
  go_ret2
  exact ⟨rfl, rfl⟩

set_option maxHeartbeats 800000 in
theorem read_wait (w : World) (b L cap n M m : Nat) (D : DataW Unit) (cur wcur : Array Value) (V vcap k : Nat) (s0 s : Dk.Sec) (i : Nat) (hi : i < n) (hn : n ≤ 65536) (hk : k < m)
    (c0 : w.cell? ⟨b, 0, none⟩ = some (.slice (some ⟨L, 0, none⟩) n cap)) (c1 : w.cell? ⟨b, 1, none⟩ = some (.slice (some ⟨V, 0, none⟩) m vcap)) (c2 : w.cell? ⟨b, 2, none⟩ = some (.map (some M))) (c4 : w.cell? ⟨b, 4, none⟩ = some (.bool false))
    (hL : Has w L 108 cur) (h1 : (cur.toList.drop (i * 128)).take 128 = Dk.secCells s0) (h2 : s0.length = 128)
    (hV : Has w V 116 wcur) (h3 : (wcur.toList.drop (k * 129 + 1)).take 128 = Dk.secCells s) (h4 : s.length = 128)
    (hown : w.ownsMap Try.prog 3 (plainElem Try.prog 3) M m D) (hh : has D (.int .i64 (i : Int)) = true) (hat0 : D.atKey (.int .i64 (i : Int)) (.lit (.int .i64 0)) = .lit (.int .i64 (k : Int))) :
    Calls Try.prog 71 #[.pointer (some ⟨b, 0, none⟩), .int .i64 i] w fun e w' => e = .returned (.tuple #[.slice (some ⟨w.heap.size, 0, none⟩) 128 128, .int .i64 0]) ∧ w' = w.alloc (.cells (Dk.secCells s).toArray 108) := by
  have hd := has_any w b _ _ _ (i : Int) c0
  rw [decide_eq_true ⟨by omega, by omega⟩] at hd
  have Hd := Lib.hid hd
  have hl : (Dk.secCells s0).length = 128 := by rw [Dk.secCells_len]; exact h2
  have hl4 : (Dk.secCells s).length = 128 := by rw [Dk.secCells_len]; exact h4
  have hz := zer_of inf_sec
  have hkey : keyOf Try.prog 3 (.int .i64 (i : Int)) = some (.int .i64 (i : Int)) := keyOf_int_mk und_int (WalkArith.wf_i64 (by omega))
  have H1 := Lib.hid h1
  have H2 := Lib.hid hl
  have H3 := Lib.hid h3
  have H4 := Lib.hid hl4
  have Hh := Lib.hid hh
  have Hk := Lib.hid hkey
  have Ha := Lib.hid hat0
  clear hd h1 h2 hl hh hkey h3 h4 hl4 hat0
  have hi1 : (i : Int) < n := by omega
  have hk1 : (k : Int) < m := by omega
  have hblt := block_lt_of_cell c0
  have hV1 := hV.alloc (.cells (Dk.secCells s0).toArray 108)
  go_enter Try.func71, Try.ntmps71
  go_wp2_with (first
    | (go_at_call 58; refine (refuse_any _ _ false c4).mono ?_; rintro e w' ⟨rfl, rfl⟩)
    | (go_at_call 77; refine Hd.out.mono ?_; rintro e w' ⟨rfl, rfl⟩)
    | (refine arm_load rfl 108 (.tmp 24) rfl L (i * 128) 128 rfl hL und_sec rfl siz_sec (Dk.secCells s0) H1.out H2.out ?_)
    | (refine arm_load rfl 108 (.tmp 42) rfl V (k * 129 + 1) 128 rfl hV1 und_sec rfl siz_sec (Dk.secCells s) H3.out H4.out ?_)
    | (refine arm_fill rfl 108 (.tmp 7) (.tmp 25) rfl w (Dk.secCells s0) rfl rfl 108 zero128 rfl (by rw [siz_sec, H2.out]) (by rw [zero128_size, H2.out]) (Dk.secCells_one _) ?_)
    | (refine arm_fill rfl 108 (.tmp 7) (.tmp 43) rfl w (Dk.secCells s) rfl rfl 108 (Dk.secCells s0).toArray rfl (by rw [siz_sec, H4.out]) (by simp [H2.out, H4.out]) (Dk.secCells_one _) ?_)
    | (at_lookup; refine wpList_lookup_own_ok_int _ rfl _ _ 94 rfl 3 3 .i64 key_int und_map und_int (zer_int _) M m D rfl (hown.alloc _) _ _ rfl Hk.out ?_; intro c hat hwf; rw [Hh.out]; rw [Ha.out] at hat; injection hat with hat; injection hat with _ hat; subst hat; clear hwf))
  go_ret2
  exact ⟨rfl, rfl⟩

/-- P2.1: the sector -/
theorem read_lies (w : World) (S R : Nat → Prop) (b L cap : Nat) (wv : Value) (M : Nat) (kv : Value) (d : Dk.St) (h : Lies w S R b L cap wv M kv d) (hdead : d.dead = false) (i : Nat) (hi : i < d.lasts.length) :
    Calls Try.prog 71 #[.pointer (some ⟨b, 0, none⟩), .int .i64 i] w fun e w' => e = .returned (.tuple #[.slice (some ⟨w.heap.size, 0, none⟩) 128 128, .int .i64 0]) ∧ w' = w.alloc (.cells (Dk.secCells (d.read i)).toArray 108) := by
  have hok := h.ok
  obtain ⟨D, hown, hD, hlook⟩ := h.new
  obtain ⟨hh, hat⟩ := hlook i
  obtain ⟨cur, hL, hcs, hnc, hcm, htk⟩ := own_has h.lasts
  obtain ⟨c0, c1, c2, c3, c4, c5, c6, c7, c8, c9, hfz⟩ := h.cells
  rw [hdead] at c4
  have hp1 := secs_part hok.full hi htk
  have hs1 := Dk.getD_full hok.full hi
  cases hix : Dk.lastIx d.waits i with
  | none =>
    rw [hix] at hh
    rw [show d.read i = d.lasts.getD i [] from (Dk.lastIx_spec i (d.lasts.getD i []) d.waits).2 hix]
    exact read_last w b L cap _ M _ D cur _ i hi hok.most c0 c2 c4 hL hp1 hs1 hown hh
  | some k =>
    rw [hix] at hh hat
    obtain ⟨hk, hk1, hk2⟩ := (Dk.lastIx_spec i (d.lasts.getD i []) d.waits).1 k hix
    rw [show d.read i = d.waits[k].says from hk2]
    have hw := h.waits
    rcases hw.2 with ⟨_, h0⟩ | ⟨V, vcap, wcur, rfl, _, hV, hvc, hvm, _, hvt⟩
    · omega
    · exact read_wait w b L cap _ M _ D cur wcur V vcap k _ _ i hi hok.most hk c0 c1 c2 c4 hL hp1 hs1 hV (wrs_says hok.fullW hk hvt) (hok.fullW _ (List.getElem_mem hk)).1 hown hh hat
end Go.Proofs.Ythlmjnlakenmoaa
/-
  step, where the fuse has not burnt down: a write or a flush is counted. The plan is asked (crash's closure).
-/
namespace Go.Proofs.Ythlmjnlakenmoaa
open Go.RowKit Go.Maps
set_option maxRecDepth 100000

/-- the disk behind a call: it owns what it owned, and new blocks; nothing else has turned -/
def Goes (S R : Nat → Prop) (b : Nat) (d : Dk.St) (w w' : World) : Prop := ∃ S', DiskAt w' S' R b d ∧ Fr S w w' ∧ ∀ k, S' k → S k ∨ w.heap.size ≤ k

theorem step_tick (w : World) (S R : Nat → Prop) (b L cap : Nat) (wv : Value) (M : Nat) (kv : Value) (d : Dk.St) (h : Lies w S R b L cap wv M kv d) (hdue : d.due = false) (hdone : d.done < 4611686018427387904) (hleft : d.left ≤ 9223372036854775807) :
    Calls Try.prog 69 #[.pointer (some ⟨b, 0, none⟩)] w fun e w' => e = .returned (.int .i64 0) ∧ Lies w' S R b L cap wv M kv d.tick ∧ Fr (oneB b) w w' := by
  obtain ⟨c0, c1, c2, c3, c4, c5, c6, c7, c8, c9, hfz⟩ := h.cells
  have H := Lib.hid h
  have hbox := Lib.hid h.box
  by_cases hlit : d.lit = true
  · have hpos : 1 ≤ d.left := by
      unfold Dk.St.due at hdue
      rw [hlit] at hdue
      simp at hdue
      omega
    rw [hlit] at c5
    have Hlit := Lib.hid hlit
    have hz : ((d.left : Int) == 0) = false := beq_eq_false_iff_ne.2 (by omega)
    have hpos1 : (1 : Int) ≤ d.left := by omega
    clear h c0 c1 c2 c4 c7 c8 c9 hdue hlit
    go_enter Try.func69, Try.ntmps69
    go_wp2
    go_ret
    refine ⟨rfl, H.out.rebox ?_ (((Fr.refl (oneB b) w).put _).put _) (Dk.St.tick_ok H.out.ok) rfl rfl rfl, ((Fr.refl (oneB b) w).put _).put _⟩
    have := (hbox.out.set 6 (.int .i64 ((d.left : Int) - 1))).set 3 (.int .i64 ((d.done : Int) + 1))
    have e1 : ((d.tick.left : Nat) : Int) = (d.left : Int) - 1 := by simp [Dk.St.tick, Hlit.out]; omega
    have e2 : ((d.tick.done : Nat) : Int) = (d.done : Int) + 1 := by simp [Dk.St.tick]
    unfold diskCells at this ⊢
    rw [e1, e2]
    exact this
  · have hlit : d.lit = false := by simpa using hlit
    rw [hlit] at c5
    have Hlit := Lib.hid hlit
    clear h c0 c1 c2 c4 c6 c7 c8 c9 hdue hlit
    go_enter Try.func69, Try.ntmps69
    go_wp2
    go_ret
    refine ⟨rfl, H.out.rebox ?_ ((Fr.refl (oneB b) w).put _) (Dk.St.tick_ok H.out.ok) rfl rfl rfl, (Fr.refl (oneB b) w).put _⟩
    have := hbox.out.set 3 (.int .i64 ((d.done : Int) + 1))
    have e1 : d.tick.left = d.left := by simp [Dk.St.tick, Hlit.out]
    have e2 : ((d.tick.done : Nat) : Int) = (d.done : Int) + 1 := by simp [Dk.St.tick]
    unfold diskCells at this ⊢
    rw [e1, e2]
    exact this

/-- the plan's closure: how many bytes last of the write at a place -/
theorem kept_any (w : World) (R : Nat → Prop) (B : Nat) (kv : Value) (p : Dk.Pl) (k : Nat) (hB : Has w B 56 #[kv, .int .i64 p.torn, .int .i64 p.cut]) (hk : KeepAt w R kv p.keep) (hc : 0 ≤ p.cut) (hm : k ≤ maxLen) :
    Calls Try.prog 73 #[.int .i64 k, .pointer (some ⟨B, 0, none⟩)] w fun e w' => e = .returned (.int .i64 (p.kept k)) ∧ w = w' := by
  have t0 : w.cell? ⟨B, 0, none⟩ = some kv := hB.cell 0
  have t1 : w.cell? ⟨B, 1, none⟩ = some (.int .i64 p.torn) := hB.cell 1
  have t2 : w.cell? ⟨B, 2, none⟩ = some (.int .i64 p.cut) := hB.cell 2
  unfold maxLen at hm
  by_cases he : (k : Int) = p.torn
  · have hb : ((k : Int) == p.torn) = true := beq_iff_eq.2 he
    have e : ((p.kept k : Nat) : Int) = p.cut := by unfold Dk.Pl.kept; rw [if_pos he]; omega
    have E := Lib.hid e
    clear e he hB hk
    go_enter Try.func73, Try.ntmps73
    go_wp2
    go_ret
    exact ⟨ret_int E.out.symm, rfl⟩
  · have hb : ((k : Int) == p.torn) = false := beq_eq_false_iff_ne.2 he
    obtain ⟨A, c, rfl, hl, hcell⟩ := hk
    by_cases hlt : k < p.keep.length
    · obtain ⟨ad, rfl, hr, hlt', hcs⟩ := hcell (by omega)
      have hc1 := hcs k _ (List.getElem?_eq_getElem hlt)
      cases hv : p.keep[k] with
      | true =>
        rw [hv] at hc1
        have e : ((p.kept k : Nat) : Int) = 128 := by unfold Dk.Pl.kept; rw [if_neg he, if_pos (by rw [List.getElem?_eq_getElem hlt, hv])]; rfl
        have E := Lib.hid e
        clear e he hB hcell hcs hv
        go_enter Try.func73, Try.ntmps73
        go_wp2
        go_ret
        exact ⟨ret_int E.out.symm, rfl⟩
      | false =>
        rw [hv] at hc1
        have e : ((p.kept k : Nat) : Int) = 0 := by unfold Dk.Pl.kept; rw [if_neg he, if_neg (by rw [List.getElem?_eq_getElem hlt, hv]; simp)]; rfl
        have E := Lib.hid e
        clear e he hB hcell hcs hv
        go_enter Try.func73, Try.ntmps73
        go_wp2
        go_ret
        exact ⟨ret_int E.out.symm, rfl⟩
    · have hge : decide (k < p.keep.length) = false := by simpa using hlt
      have e : ((p.kept k : Nat) : Int) = 0 := by unfold Dk.Pl.kept; rw [if_neg he, if_neg (by rw [List.getElem?_eq_none (by omega)]; simp)]; rfl
      have E := Lib.hid e
      clear e he hB hcell
      go_enter Try.func73, Try.ntmps73
      go_wp2
      go_ret
      exact ⟨ret_int E.out.symm, rfl⟩
end Go.Proofs.Ythlmjnlakenmoaa

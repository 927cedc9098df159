/-
  A disk without a fuse, plain mathematics: what is written is read.
-/
import Derived.Test.YthlmjnlakenmoaaPKeep
namespace Go.Proofs.Ythlmjnlakenmoaa
open Dk

theorem getD_setS {l : List Sec} {i : Nat} (hi : i < l.length) (j : Nat) (s : Sec) : (l.set j s).getD i [] = if j = i then s else l.getD i [] := by
  rw [List.getD_eq_getElem?_getD, List.getD_eq_getElem?_getD]
  by_cases h : j = i
  · subst h; rw [List.getElem?_set_self hi, if_pos rfl]; rfl
  · rw [List.getElem?_set_ne h, if_neg h]
theorem flushed_take (ws : List Wr) (l : List Sec) {j : Nat} (hj : j < l.length) : ∀ k, k ≤ ws.length → (Dk.flushed ws l k).getD j [] = Dk.seen (ws.take k) j (l.getD j [])
  | 0, _ => rfl
  | k + 1, hk => by
    have hkl : k < ws.length := hk
    rw [Dk.flushed, List.getElem?_eq_getElem hkl, List.take_succ_eq_append_getElem hkl, seen_snoc]
    show ((Dk.flushed ws l k).set _ _).getD j [] = _
    rw [getD_setS (by rw [Dk.flushed_len]; exact hj), flushed_take ws l hj k (by omega)]
theorem flushed_seen (ws : List Wr) (l : List Sec) {j : Nat} (hj : j < l.length) : (Dk.flushed ws l ws.length).getD j [] = Dk.seen ws j (l.getD j []) := by
  have := flushed_take ws l hj ws.length (Nat.le_refl _)
  rwa [List.take_length] at this

structure Dk.St.Live (d : St) : Prop where
  ok : d.Ok
  dead : d.dead = false
  lit : d.lit = false
theorem Dk.St.Live.due {d : St} (h : d.Live) : d.due = false := by unfold St.due; rw [h.lit]; rfl
theorem live_write {d : St} (h : d.Live) {i : Nat} {s : Sec} (hi : i < d.lasts.length) (hs : s.length = 128) : (d.write i s).Live ∧ ∀ j, (d.write i s).read j = if i = j then s else d.read j := by
  have hw : d.write i s = (d.wait i s).tick := by
    unfold St.write St.step
    rw [due_wait, h.due]; rfl
  refine ⟨⟨St.write_ok h.ok hi hs, by rw [hw]; exact h.dead, by rw [hw]; exact h.lit⟩, fun j => ?_⟩
  rw [hw]
  exact seen_snoc _ _ _ _
theorem live_flush {d : St} (h : d.Live) : d.flush.Live ∧ d.flush.waits = [] ∧ ∀ j, j < d.lasts.length → d.flush.read j = d.read j := by
  have hw : d.flush = { d.tick with lasts := flushed d.waits d.lasts d.waits.length, waits := [] } := by
    unfold St.flush
    rw [h.due]; rfl
  refine ⟨⟨St.flush_ok h.ok, by rw [hw]; exact h.dead, by rw [hw]; exact h.lit⟩, by rw [hw], fun j hj => ?_⟩
  rw [hw]
  exact flushed_seen _ _ hj
theorem live_puts {d : St} (h : d.Live) {n : Nat} {pg : List UInt8} (hp : pg.length = 512) (hn : n * 4 + 4 ≤ d.lasts.length) : ∀ k, k ≤ 4 → (d.puts n pg k).Live ∧ ∀ j, (d.puts n pg k).read j = if n * 4 ≤ j ∧ j < n * 4 + k then part pg (j - n * 4) else d.read j
  | 0, _ => ⟨h, fun j => by rw [if_neg (by omega)]; rfl⟩
  | k + 1, hk => by
    obtain ⟨h1, h2⟩ := live_puts h hp hn k (by omega)
    have e : d.puts n pg (k + 1) = (d.puts n pg k).write (n * 4 + k) (part pg k) := by rw [St.puts, if_neg (by rw [h1.dead]; simp)]
    obtain ⟨h3, h4⟩ := live_write h1 (i := n * 4 + k) (s := part pg k) (by rw [puts_lasts_len]; omega) (part_length hp (by omega))
    rw [e]
    refine ⟨h3, fun j => ?_⟩
    rw [h4, h2]
    by_cases hj : n * 4 + k = j
    · subst hj
      rw [if_pos rfl, if_pos (by omega), show n * 4 + k - n * 4 = k by omega]
    · rw [if_neg hj]
      by_cases hc : n * 4 ≤ j ∧ j < n * 4 + k
      · rw [if_pos hc, if_pos (by omega)]
      · rw [if_neg hc, if_neg (by omega)]
theorem parts_all {pg : List UInt8} (h : pg.length = 512) : part pg 0 ++ part pg 1 ++ part pg 2 ++ part pg 3 = pg := by
  unfold part
  have e : ∀ (l : List UInt8) (a b : Nat), l.take a ++ (l.drop a).take b = l.take (a + b) := fun l a b => by rw [List.take_add]
  rw [Nat.zero_mul, List.drop_zero, Nat.one_mul, e pg 128 128, show 2 * 128 = 256 from rfl, e pg 256 128, show 3 * 128 = 384 from rfl, e pg 384 128]
  exact List.take_of_length_le (by omega)
theorem page_four (d : St) (n : Nat) : d.page n = d.read (n * 4) ++ d.read (n * 4 + 1) ++ d.read (n * 4 + 2) ++ d.read (n * 4 + 3) := by
  unfold St.page
  rw [St.pageTo, St.pageTo, St.pageTo, St.pageTo, St.pageTo, List.nil_append]
  rfl
theorem live_putPage {d : St} (h : d.Live) {n : Nat} {pg : List UInt8} (hp : pg.length = 512) (hn : n * 4 + 4 ≤ d.lasts.length) : (d.puts n pg 4).Live ∧ ∀ m, (d.puts n pg 4).page m = if n = m then pg else d.page m := by
  obtain ⟨h1, h2⟩ := live_puts h hp hn 4 (Nat.le_refl _)
  refine ⟨h1, fun m => ?_⟩
  rw [page_four, page_four, h2, h2, h2, h2]
  by_cases hm : n = m
  · subst hm
    rw [if_pos (by omega), if_pos (by omega), if_pos (by omega), if_pos (by omega), if_pos rfl, show n * 4 - n * 4 = 0 by omega, show n * 4 + 1 - n * 4 = 1 by omega, show n * 4 + 2 - n * 4 = 2 by omega, show n * 4 + 3 - n * 4 = 3 by omega]
    exact parts_all hp
  · rw [if_neg (by omega), if_neg (by omega), if_neg (by omega), if_neg (by omega), if_neg hm]
theorem live_flush_page {d : St} (h : d.Live) {m : Nat} (hm : m * 4 + 4 ≤ d.lasts.length) : d.flush.page m = d.page m := by
  obtain ⟨_, _, h2⟩ := live_flush h
  rw [page_four, page_four, h2 _ (by omega), h2 _ (by omega), h2 _ (by omega), h2 _ (by omega)]
theorem meta_length (n s r : Nat) : (Pg.made n (Pr.metaBytes s r)).length = 512 := Pg.made_length _ _ (by rw [Pr.metaBytes_length]; omega)
/-- a commit without a fuse -/
theorem live_keep {d : St} (h : d.Live) (hl : 12 ≤ d.lasts.length) (s r : Nat) : (d.keep s r).Live ∧ (d.keep s r).waits = [] ∧ ∀ m, m * 4 + 4 ≤ d.lasts.length → (d.keep s r).page m = if s % 2 = m then Pg.made (s % 2) (Pr.metaBytes s r) else d.page m := by
  obtain ⟨h1, _, _⟩ := live_flush h
  have hfl := flush_lasts_len d
  obtain ⟨h2, h3⟩ := live_putPage h1 (n := s % 2) (meta_length (s % 2) s r) (by rw [hfl]; omega)
  have hpl : (d.flush.putMeta (s % 2) s r).lasts.length = d.lasts.length := (puts_lasts_len _ _ _ _).trans hfl
  have hk : d.keep s r = (d.flush.putMeta (s % 2) s r).flush := keep_all h1.dead h2.dead
  obtain ⟨h4, h5, _⟩ := live_flush h2
  rw [hk]
  refine ⟨h4, h5, fun m hm => ?_⟩
  rw [live_flush_page (d := d.flush.putMeta (s % 2) s r) h2 (by rw [hpl]; exact hm)]
  refine (h3 m).trans ?_
  rw [live_flush_page h hm]
/-- a format without a fuse -/
theorem live_format {d : St} (h : d.Live) (hl : 12 ≤ d.lasts.length) : d.format.Live ∧ ∀ m, m * 4 + 4 ≤ d.lasts.length → d.format.page m = if m = 0 then Pg.made 0 (Pr.metaBytes 1 0) else if m = 1 then Pg.made 1 (Pr.metaBytes 0 0) else d.page m := by
  obtain ⟨h1, h2⟩ := live_putPage h (n := 1) (meta_length 1 0 0) (by omega)
  have hl1 : (d.putMeta 1 0 0).lasts.length = d.lasts.length := puts_lasts_len _ _ _ _
  obtain ⟨h3, h4⟩ := live_putPage (d := d.putMeta 1 0 0) h1 (n := 0) (meta_length 0 1 0) (by rw [hl1]; omega)
  have hf2 : d.fmt 2 = (d.putMeta 1 0 0).putMeta 0 1 0 := by
    show (if (d.putMeta 1 0 0).dead then d.putMeta 1 0 0 else (d.putMeta 1 0 0).putMeta 0 1 0) = _
    rw [if_neg (by rw [show (d.putMeta 1 0 0).dead = false from h1.dead]; simp)]
  have hl2 : ((d.putMeta 1 0 0).putMeta 0 1 0).lasts.length = d.lasts.length := (puts_lasts_len _ _ _ _).trans hl1
  have hfo : d.format = ((d.putMeta 1 0 0).putMeta 0 1 0).flush := by
    unfold St.format
    rw [hf2, if_neg (by rw [show ((d.putMeta 1 0 0).putMeta 0 1 0).dead = false from h3.dead]; simp)]
  rw [hfo]
  refine ⟨(live_flush h3).1, fun m hm => ?_⟩
  rw [live_flush_page (d := (d.putMeta 1 0 0).putMeta 0 1 0) h3 (by rw [hl2]; exact hm)]
  refine (h4 m).trans ?_
  by_cases h0 : m = 0
  · subst h0; rw [if_pos rfl, if_pos rfl]
  · rw [if_neg (fun e => h0 e.symm), if_neg h0]
    refine (h2 m).trans ?_
    by_cases h1 : m = 1
    · subst h1; rw [if_pos rfl]
    · rw [if_neg (fun e => h1 e.symm), if_neg h1]
theorem live_made {n : Nat} (h1 : 1 ≤ n) (h2 : n ≤ 65536) : (Dk.made n).Live := ⟨fresh_ok (by simp; exact h1) (by simp; exact h2) (zero_full n), rfl, rfl⟩
theorem live_fresh {l : List Sec} (h1 : 1 ≤ l.length) (h2 : l.length ≤ 65536) (h : Full l) : (Dk.fresh l).Live := ⟨fresh_ok h1 h2 h, rfl, rfl⟩
end Go.Proofs.Ythlmjnlakenmoaa

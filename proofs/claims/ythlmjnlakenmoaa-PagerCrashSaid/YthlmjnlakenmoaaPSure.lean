/-
  A commit on a disk with a fuse, plain mathematics: it is there whole, or not at all.
-/
import Derived.Test.YthlmjnlakenmoaaPTorn
namespace Go.Proofs.Ythlmjnlakenmoaa
open Dk Pr Pg
set_option maxRecDepth 100000

theorem pageWs_pageL {L : List Sec} (p : Pl) (q : Nat) (pg : List UInt8) (m : Nat) (hm : m ≤ 4) {n : Nat} (hn : n ≠ q) (k : Nat) : pageL (crashed p (pageWs q pg m) L k) n = pageL L n :=
  pageL_congr fun j h1 h2 => crashed_off p _ L j (fun w hw e => by
    obtain ⟨k1, k2⟩ := pageWs_at hw
    omega) k
theorem torn_lost {L : List Sec} {N seq root r' : Nat} {f g : Txt} (hN : N ≤ 16384) (h3 : 3 ≤ N) (hL : L.length = N * 4) (hf : Full L) (hseq : seq + 1 ≤ 4611686018427387904) (hr : okR N r') (hm : Metas L N seq root) (hsf : Says L N f) (hsg : Says L N g) (p : Pl) (hp : p.cut ≤ 128) (m : Nat) (h4 : m ≤ 4) :
    Lost (crashed p (pageWs ((seq + 1) % 2) (Pg.made ((seq + 1) % 2) (metaBytes (seq + 1) r')) m) L m) N root f ∨ Lost (crashed p (pageWs ((seq + 1) % 2) (Pg.made ((seq + 1) % 2) (metaBytes (seq + 1) r')) m) L m) N r' g := by
  obtain ⟨s, r, e, hh⟩ := metas_torn (L' := crashed p (pageWs ((seq + 1) % 2) (Pg.made ((seq + 1) % 2) (metaBytes (seq + 1) r')) m) L m) hN (by rw [crashed_len, hL]; omega) hseq hr hm (pageWs_pageL p _ _ m h4 (by omega) m) fun s r ho => meta_crash hf (by omega) ho p hp m h4
  have hf' : Says (crashed p (pageWs ((seq + 1) % 2) (Pg.made ((seq + 1) % 2) (metaBytes (seq + 1) r')) m) L m) N f := fun n b hb => by
    obtain ⟨h1, h2, h3', h4'⟩ := hsf n b hb
    exact ⟨h1, h2, h3', (pageWs_pageL p _ _ m h4 (by omega) m).trans h4'⟩
  have hg' : Says (crashed p (pageWs ((seq + 1) % 2) (Pg.made ((seq + 1) % 2) (metaBytes (seq + 1) r')) m) L m) N g := fun n b hb => by
    obtain ⟨h1, h2, h3', h4'⟩ := hsg n b hb
    exact ⟨h1, h2, h3', (pageWs_pageL p _ _ m h4 (by omega) m).trans h4'⟩
  rcases hh with rfl | rfl
  · exact .inl ⟨by rw [crashed_len]; exact hL, ⟨s, e⟩, hf'⟩
  · exact .inr ⟨by rw [crashed_len]; exact hL, ⟨s, e⟩, hg'⟩
theorem page_nil {x : St} (h : x.waits = []) (n : Nat) : pageL x.lasts n = x.page n := by
  rw [page_four, pageL_four]
  unfold St.read
  rw [h]
  rfl
theorem sure_keep {p : Pl} {d : St} {N seq root : Nat} {f : Txt} (h : Sure p d N seq root f) (hN : N ≤ 16384) (h3 : 3 ≤ N) (hseq : seq + 1 ≤ 4611686018427387904) (hp : p.cut ≤ 128) {g : Txt} {r' : Nat} (hr : okR N r')
    (hg : ∀ n b, g n = some b → 2 ≤ n ∧ n < N ∧ b.length ≤ 502 ∧ d.page n = Pg.made n b) :
    Sure p (d.keep (seq + 1) r') N (seq + 1) r' g ∨ ((d.keep (seq + 1) r').dead = true ∧ (Lost (d.keep (seq + 1) r').lasts N root f ∨ Lost (d.keep (seq + 1) r').lasts N r' g)) := by
  obtain ⟨x, j, h⟩ := h
  have hdp : ∀ n, d.page n = x.page n := fun n => by rw [h.is, page_four, page_four]; rfl
  rw [h.is]
  cases j with
  | zero =>
    obtain ⟨k1, k2⟩ := fz_flush0 x p
    rw [keep_one k1]
    refine .inr ⟨k1, .inl ?_⟩
    rw [k2]
    exact lost_crash hN h.len hseq h.metas h.says h.off p _
  | succ j =>
    have e1 := fz_flushS h.live j p
    obtain ⟨l1, w1, _⟩ := live_flush h.live
    have hl1 : x.flush.lasts.length = N * 4 := (flush_lasts_len x).trans h.len
    have hpg : ∀ n, n < N → pageL x.flush.lasts n = x.page n := fun n hn => (page_nil w1 n).trans (live_flush_page h.live (by rw [h.len]; omega))
    have m1 : Metas x.flush.lasts N seq root := h.metas.congr fun n hn => (hpg n (by omega)).trans (off_page h.off (.inl hn))
    have s1 : Says x.flush.lasts N f := fun n b hb => by
      obtain ⟨k1, k2, k3, k4⟩ := h.says n b hb
      exact ⟨k1, k2, k3, (hpg n k2).trans ((off_page h.off (.inr (by rw [hb]; simp))).trans k4)⟩
    have g1 : Says x.flush.lasts N g := fun n b hb => by
      obtain ⟨k1, k2, k3, k4⟩ := hg n b hb
      exact ⟨k1, k2, k3, (hpg n k2).trans ((hdp n).symm.trans k4)⟩
    generalize hx1 : x.flush = x1 at *
    have hd1 : (x.fuse (j + 1) p).flush.dead = false := by rw [e1]; exact l1.dead
    have hq : (seq + 1) % 2 * 4 + 4 ≤ x1.lasts.length := by rw [hl1]; omega
    have hml := meta_length ((seq + 1) % 2) (seq + 1) r'
    have torn := torn_lost hN h3 hl1 l1.ok.full hseq hr m1 s1 g1 p hp
    obtain ⟨f1, f2⟩ := fz_puts l1 hml hq p 4 (by omega)
    have hpm : (x.fuse (j + 1) p).flush.putMeta ((seq + 1) % 2) (seq + 1) r' = (x1.fuse j p).puts ((seq + 1) % 2) (Pg.made ((seq + 1) % 2) (metaBytes (seq + 1) r')) 4 := by rw [e1]; rfl
    by_cases hj : j < 4
    · obtain ⟨k1, k2⟩ := f2 j hj
      rw [← hpm] at k1 k2
      rw [keep_two hd1 k1]
      refine .inr ⟨k1, ?_⟩
      rw [k2, w1, List.nil_append, pageWs_len]
      exact torn (j + 1) (by omega)
    · have e2 := f1 (j - 4)
      rw [show 4 + (j - 4) = j by omega] at e2
      obtain ⟨r1, r2⟩ := live_raw l1 hml hq 4 (by omega)
      obtain ⟨l2, p2⟩ := live_putPage l1 hml hq
      rw [← hpm] at e2
      rw [w1, List.nil_append] at r2
      generalize hx2 : x1.puts ((seq + 1) % 2) (Pg.made ((seq + 1) % 2) (metaBytes (seq + 1) r')) 4 = x2 at *
      have hd2 : ((x.fuse (j + 1) p).flush.putMeta ((seq + 1) % 2) (seq + 1) r').dead = false := by rw [e2]; exact l2.dead
      rw [keep_all hd1 hd2, e2]
      cases hj4 : j - 4 with
      | zero =>
        obtain ⟨k1, k2⟩ := fz_flush0 x2 p
        refine .inr ⟨k1, ?_⟩
        rw [k2, r1, r2, pageWs_len]
        exact torn 4 (by omega)
      | succ i =>
        rw [fz_flushS l2 i p]
        obtain ⟨l3, w3, _⟩ := live_flush l2
        have hl2 : x2.lasts.length = N * 4 := by rw [r1]; exact hl1
        have hpg3 : ∀ n, n < N → pageL x2.flush.lasts n = if (seq + 1) % 2 = n then Pg.made ((seq + 1) % 2) (metaBytes (seq + 1) r') else pageL x1.lasts n := fun n hn => by
          rw [page_nil w3 n, live_flush_page l2 (by rw [hl2]; omega), p2 n, page_nil w1 n]
        obtain ⟨so, sq, rq, mm⟩ := m1
        have hsle := mm.so_le
        refine .inl ⟨x2.flush, i, rfl, l3, (flush_lasts_len x2).trans hl2, ⟨seq + 1, so, root, ?_, ?_, Nat.le_refl _, by omega, fun e => by omega, hr, mm.ro⟩, fun n b hb => ?_, by rw [w3]; exact Off.nil g⟩
        · rw [hpg3 _ (by omega), if_pos rfl]
        · rw [hpg3 _ (by omega), if_neg (by omega), show (seq + 1 + 1) % 2 = seq % 2 by omega]
          exact mm.stay
        · obtain ⟨k1, k2, k3, k4⟩ := g1 n b hb
          exact ⟨k1, k2, k3, by rw [hpg3 n k2, if_neg (by omega)]; exact k4⟩
theorem format_waits {d : St} (h : d.Live) (hl : 12 ≤ d.lasts.length) : d.format.waits = [] := by
  obtain ⟨h1, h2⟩ := live_putPage h (n := 1) (meta_length 1 0 0) (by omega)
  have hl1 : (d.putMeta 1 0 0).lasts.length = d.lasts.length := puts_lasts_len _ _ _ _
  obtain ⟨h3, h4⟩ := live_putPage (d := d.putMeta 1 0 0) h1 (n := 0) (meta_length 0 1 0) (by rw [hl1]; omega)
  have hf2 : d.fmt 2 = (d.putMeta 1 0 0).putMeta 0 1 0 := by
    show (if (d.putMeta 1 0 0).dead then d.putMeta 1 0 0 else (d.putMeta 1 0 0).putMeta 0 1 0) = _
    rw [if_neg (by rw [show (d.putMeta 1 0 0).dead = false from h1.dead]; simp)]
  have hfo : d.format = ((d.putMeta 1 0 0).putMeta 0 1 0).flush := by
    unfold St.format
    rw [hf2, if_neg (by rw [show ((d.putMeta 1 0 0).putMeta 0 1 0).dead = false from h3.dead]; simp)]
  rw [hfo]
  exact (live_flush h3).2.1
/-- the disk that was formatted, with its fuse -/
theorem sure_first {N : Nat} (h3 : 3 ≤ N) (hN : N ≤ 16384) (p : Pl) (j : Nat) : Sure p ((Dk.made (N * 4)).format.fuse j p) N 1 0 (fun _ => none) := by
  have l0 := live_made (n := N * 4) (by omega) (by omega)
  have n0 : (Dk.made (N * 4)).lasts.length = N * 4 := List.length_replicate
  obtain ⟨l1, p1⟩ := live_format l0 (by rw [n0]; omega)
  have w1 : (Dk.made (N * 4)).format.waits = [] := format_waits l0 (by rw [n0]; omega)
  have e0 := (page_nil w1 0).trans ((p1 0 (by rw [n0]; omega)).trans (if_pos rfl))
  have e1 := (page_nil w1 1).trans ((p1 1 (by rw [n0]; omega)).trans ((if_neg (by omega)).trans (if_pos rfl)))
  exact ⟨_, j, ⟨rfl, l1, (format_len _).trans n0, ⟨0, 1, 0, ⟨e1, e0, by omega, by omega, fun _ => rfl, .inl rfl, .inl rfl⟩⟩, (fun n b hb => by cases hb), by rw [w1]; exact Off.nil _⟩⟩
end Go.Proofs.Ythlmjnlakenmoaa

/-
  What the pager and the pager by the document's words have in common, plain mathematics, call by call.
-/
import Derived.Test.YthlmjnlakenmoaaPSys
import Derived.Test.YthlmjnlakenmoaaPRefNew
namespace Go.Proofs.Ythlmjnlakenmoaa
open Dk Pr Pg
set_option maxRecDepth 100000

theorem sound_zero : ∀ n, n < 23 → Pg.sound n (List.replicate 512 0) = false := by decide +kernel
/-- of N pages, behind k steps -/
structure PRel (d : St) (q : Dr) (N k : Nat) : Prop where
  live : d.Live
  few : d.Few (20 + 20 * k)
  long : 12 ≤ d.lasts.length
  len : N = d.lasts.length / 4
  top : N ≤ 16384
  wrote : ∀ n t, q.f n = some t → 2 ≤ n ∧ n < N ∧ t.length ≤ 502 ∧ d.page n = Pg.made n t
  bare : ∀ n, 2 ≤ n → n < N → q.f n = none → Pg.sound n (d.page n) = false
  metas : ∃ a0 b0 a1 b1 : Nat, q.s0 = a0 ∧ q.r0 = b0 ∧ q.s1 = a1 ∧ q.r1 = b1 ∧ d.page 0 = Pg.made 0 (metaBytes a0 b0) ∧ d.page 1 = Pg.made 1 (metaBytes a1 b1) ∧ (a0 ≤ k + 1 ∧ a1 ≤ k + 1) ∧ (b0 = 0 ∨ 2 ≤ b0 ∧ b0 < N) ∧ (b1 = 0 ∨ 2 ≤ b1 ∧ b1 < N)
theorem PRel.more {d : St} {q : Dr} {N k : Nat} (h : PRel d q N k) : PRel d q N (k + 1) := by
  obtain ⟨a0, b0, a1, b1, e1, e2, e3, e4, e5, e6, ⟨e7, e8⟩, e9, e10⟩ := h.metas
  exact ⟨h.live, h.few.more (by omega), h.long, h.len, h.top, h.wrote, h.bare, a0, b0, a1, b1, e1, e2, e3, e4, e5, e6, ⟨by omega, by omega⟩, e9, e10⟩
theorem PRel.pages {d : St} {q : Dr} {N k : Nat} (h : PRel d q N k) {n : Nat} (hn : n < N) : n * 4 + 4 ≤ d.lasts.length := by have := h.len; omega
theorem PRel.write {d : St} {q : Dr} {N k n : Nat} (h : PRel d q N k) (h2 : 2 ≤ n) (hn : n < N) {t : List UInt8} (ht : t.length ≤ 502) : PRel (d.putPage n t) ⟨fun j => if j = n then some t else q.f j, q.s0, q.s1, q.r0, q.r1⟩ N (k + 1) := by
  obtain ⟨hl, hp⟩ := live_putPage h.live (n := n) (pg := Pg.made n t) (Pg.made_length _ _ ht) (h.pages hn)
  have hll : (d.putPage n t).lasts.length = d.lasts.length := putPage_len _ _ _
  obtain ⟨a0, b0, a1, b1, e1, e2, e3, e4, e5, e6, ⟨e7, e8⟩, e9, e10⟩ := h.metas
  refine ⟨hl, (few_puts h.few _ _ 4).more (by omega), by rw [hll]; exact h.long, by rw [hll]; exact h.len, h.top, fun m s hs => ?_, fun m hm2 hm hs => ?_, a0, b0, a1, b1, e1, e2, e3, e4, (hp 0).trans ((if_neg (by omega)).trans e5), (hp 1).trans ((if_neg (by omega)).trans e6), ⟨by omega, by omega⟩, e9, e10⟩
  · by_cases e : m = n
    · subst e
      simp at hs
      subst hs
      exact ⟨h2, hn, ht, (hp m).trans (if_pos rfl)⟩
    · simp only [if_neg e] at hs
      obtain ⟨k1, k2, k3, k4⟩ := h.wrote m s hs
      exact ⟨k1, k2, k3, (hp m).trans ((if_neg (fun x => e x.symm)).trans k4)⟩
  · by_cases e : m = n
    · simp [e] at hs
    · simp only [if_neg e] at hs
      rw [show (d.putPage n t).page m = d.page m from (hp m).trans (if_neg (fun x => e x.symm))]
      exact h.bare m hm2 hm hs
theorem PRel.commit {d : St} {q : Dr} {N k : Nat} (h : PRel d q N k) {s r : Nat} (hs : s ≤ k + 2) (hr : r = 0 ∨ 2 ≤ r ∧ r < N) : PRel (d.keep s r) (q.keep s r) N (k + 1) ∧ (d.keep s r).waits = [] := by
  obtain ⟨hl, hw, hp⟩ := live_keep h.live h.long s r
  have hll : (d.keep s r).lasts.length = d.lasts.length := keep_len _ _ _
  have hf : (q.keep s r).f = q.f := by unfold Dr.keep; split <;> rfl
  obtain ⟨a0, b0, a1, b1, e1, e2, e3, e4, e5, e6, ⟨e7, e8⟩, e9, e10⟩ := h.metas
  have hN := h.len
  have hlong := h.long
  have hother : ∀ m, 2 ≤ m → m < N → (d.keep s r).page m = d.page m := fun m hm hmN => (hp m (h.pages hmN)).trans (if_neg (by omega))
  refine ⟨⟨hl, (keep_few h.few s r).more (by omega), by rw [hll]; exact h.long, by rw [hll]; exact h.len, h.top, fun m t ht => ?_, fun m hm2 hm ht => ?_, ?_⟩, hw⟩
  · rw [hf] at ht
    obtain ⟨k1, k2, k3, k4⟩ := h.wrote m t ht
    exact ⟨k1, k2, k3, (hother m k1 k2).trans k4⟩
  · rw [hf] at ht
    rw [hother m hm2 hm]
    exact h.bare m hm2 hm ht
  · have p0 := hp 0 (by omega)
    have p1 := hp 1 (by omega)
    unfold Dr.keep
    rcases Nat.mod_two_eq_zero_or_one s with e | e
    · rw [if_pos e]
      rw [e] at p0 p1
      rw [if_pos rfl] at p0
      rw [if_neg (by decide)] at p1
      exact ⟨s, r, a1, b1, rfl, rfl, e3, e4, p0, p1.trans e6, ⟨by omega, by omega⟩, hr, e10⟩
    · rw [if_neg (by omega)]
      rw [e] at p0 p1
      rw [if_neg (by decide)] at p0
      rw [if_pos rfl] at p1
      exact ⟨a0, b0, s, r, e1, e2, rfl, rfl, p0.trans e5, p1, ⟨by omega, by omega⟩, e9, hr⟩
theorem PRel.fmt {d : St} {q : Dr} {N k : Nat} (h : PRel d q N k) : PRel d.format ⟨q.f, 1, 0, 0, 0⟩ N (k + 1) := by
  obtain ⟨hl, hp⟩ := live_format h.live h.long
  have hll : d.format.lasts.length = d.lasts.length := format_len _
  have hlong := h.long
  have hother : ∀ m, 2 ≤ m → m < N → d.format.page m = d.page m := fun m hm hmN => (hp m (h.pages hmN)).trans ((if_neg (by omega)).trans (if_neg (by omega)))
  refine ⟨hl, (format_few h.few).more (by omega), by rw [hll]; exact h.long, by rw [hll]; exact h.len, h.top, fun m t ht => ?_, fun m hm2 hm ht => ?_, 1, 0, 0, 0, rfl, rfl, rfl, rfl, (hp 0 (by omega)).trans (if_pos rfl), (hp 1 (by omega)).trans ((if_neg (by omega)).trans (if_pos rfl)), ⟨by omega, by omega⟩, .inl rfl, .inl rfl⟩
  · obtain ⟨k1, k2, k3, k4⟩ := h.wrote m t ht
    exact ⟨k1, k2, k3, (hother m k1 k2).trans k4⟩
  · rw [hother m hm2 hm]
    exact h.bare m hm2 hm ht
theorem zsec_eq : Dk.zsec = List.replicate 128 0 := rfl
theorem made_page {n m : Nat} (hm : m * 4 + 4 ≤ n) : (Dk.made n).page m = List.replicate 512 0 := by
  have e : ∀ j, j < n → (Dk.made n).read j = List.replicate 128 0 := fun j hj => by
    show (List.replicate n Dk.zsec).getD j [] = _
    rw [List.getD_eq_getElem?_getD, List.getElem?_replicate, if_pos hj]
    exact zsec_eq
  rw [page_four, e _ (by omega), e _ (by omega), e _ (by omega), e _ (by omega)]
  rw [List.replicate_append_replicate, List.replicate_append_replicate, List.replicate_append_replicate]
/-- a disk that was made and formatted -/
theorem PRel.first {n : Nat} (h12 : 12 ≤ n) (h90 : n ≤ 90) : PRel (Dk.made n).format ⟨fun _ => none, 1, 0, 0, 0⟩ (n / 4) 0 := by
  have hml := made_len n
  have hl0 := live_made (n := n) (by omega) (by omega)
  obtain ⟨hl, hp⟩ := live_format hl0 (by rw [hml]; exact h12)
  have hll : (Dk.made n).format.lasts.length = n := (format_len _).trans hml
  refine ⟨hl, (format_few (few_made n)).more (by omega), by rw [hll]; exact h12, by rw [hll], by omega, fun m t ht => (by cases ht), fun m hm2 hm _ => ?_, 1, 0, 0, 0, rfl, rfl, rfl, rfl, (hp 0 (by rw [hml]; omega)).trans (if_pos rfl), (hp 1 (by rw [hml]; omega)).trans ((if_neg (by omega)).trans (if_pos rfl)), ⟨by omega, by omega⟩, .inl rfl, .inl rfl⟩
  rw [(hp m (by rw [hml]; omega)).trans ((if_neg (by omega)).trans (if_neg (by omega))), made_page (by omega)]
  exact sound_zero m (by omega)
/-- a blank disk has no meta -/
theorem made_meta {n : Nat} (h12 : 12 ≤ n) : (Dk.made n).meta_ = none := by
  unfold Dk.St.meta_ metaOf
  rw [made_page (by omega), made_page (by omega), sound_zero 0 (by omega), sound_zero 1 (by omega)]
  rfl
/-- what Open finds -/
theorem PRel.found {d : St} {q : Dr} {N k : Nat} (h : PRel d q N k) (hk : k ≤ 1000) : ∃ s r : Nat, d.meta_ = some (s, r) ∧ ((q.s0 < q.s1 ∧ q.s1 = (s : Int) ∧ q.r1 = (r : Int)) ∨ (¬ q.s0 < q.s1 ∧ q.s0 = (s : Int) ∧ q.r0 = (r : Int))) ∧ s ≤ k + 1 ∧ (r = 0 ∨ 2 ≤ r ∧ r < N) := by
  obtain ⟨a0, b0, a1, b1, e1, e2, e3, e4, e5, e6, ⟨e7, e8⟩, e9, e10⟩ := h.metas
  have hm : d.meta_ = latest (some (a0, b0)) (some (a1, b1)) := by
    unfold Dk.St.meta_
    rw [← h.len, e5, e6, metaOf_made 0 N a0 b0 (by omega) e9 h.top, metaOf_made 1 N a1 b1 (by omega) e10 h.top]
  by_cases hlt : a0 < a1
  · refine ⟨a1, b1, ?_, .inl ⟨by rw [e1, e3]; omega, e3, e4⟩, e8, e10⟩
    rw [hm]; simp [latest, hlt]
  · refine ⟨a0, b0, ?_, .inr ⟨by rw [e1, e3]; omega, e1, e2⟩, e7, e9⟩
    rw [hm]; simp [latest, hlt]
/-- what is read -/
theorem PRel.read {d : St} {q : Dr} {N k n : Nat} (h : PRel d q N k) (h2 : 2 ≤ n) (hn : n < N) :
    (∃ t, q.f n = some t ∧ t.length ≤ 502 ∧ d.page n = Pg.made n t) ∨ (q.f n = none ∧ Pg.sound n (d.page n) = false) := by
  cases hf : q.f n with
  | none => exact .inr ⟨rfl, h.bare n h2 hn hf⟩
  | some t =>
    obtain ⟨_, _, k3, k4⟩ := h.wrote n t hf
    exact .inl ⟨t, rfl, k3, k4⟩
end Go.Proofs.Ythlmjnlakenmoaa

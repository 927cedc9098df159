/-
  PagerCrash: its memory, and each call upon it.
-/
import Derived.Test.YthlmjnlakenmoaaPSys
import Derived.Test.YthlmjnlakenmoaaPSure
import Derived.Test.YthlmjnlakenmoaaPStands
import Derived.Test.YthlmjnlakenmoaaKonst
namespace Go.Proofs.Ythlmjnlakenmoaa.pcrash
open Go.RowKit Go.Maps Dk Pr
set_option maxRecDepth 100000

/-! ### the law's own memory -/
/-- the blocks: the plan, the state behind the last commit, the next one, their maps -/
structure Bl where
  bp : Nat
  bl : Nat
  bn : Nat
  ml : Nat
  mn : Nat
def Bl.has (B : Bl) : Nat → Prop := fun k => k = B.bp ∨ k = B.bl ∨ k = B.bn ∨ k = B.ml ∨ k = B.mn
/-- what it says -/
structure Sy where
  rl : Nat
  rn : Nat
  f : Txt
  g : Txt
structure Mem (w : World) (B : Bl) (pv : Value) (q : Pl) (s : Sy) : Prop where
  box : Has w B.bp 56 #[pv, .int .i64 q.torn, .int .i64 q.cut]
  last : Has w B.bl 64 #[.int .i64 (s.rl : Int), .map (some B.ml)]
  next : Has w B.bn 64 #[.int .i64 (s.rn : Int), .map (some B.mn)]
  lm : TxtAt w B.ml 20 s.f
  nm : TxtAt w B.mn 20 s.g
  ne : B.bp ≠ B.bl ∧ B.bp ≠ B.bn ∧ B.bl ≠ B.bn
theorem Mem.keep {w w' : World} {F : Nat → Prop} {B : Bl} {pv : Value} {q : Pl} {s : Sy} (h : Mem w B pv q s) (f : Fr F w w') (hs : ∀ k, B.has k → ¬ F k) : Mem w' B pv q s :=
  ⟨h.box.keep f (hs _ (.inl rfl)), h.last.keep f (hs _ (.inr (.inl rfl))), h.next.keep f (hs _ (.inr (.inr (.inl rfl)))), h.lm.keep f (hs _ (.inr (.inr (.inr (.inl rfl))))), h.nm.keep f (hs _ (.inr (.inr (.inr (.inr rfl))))), h.ne⟩
theorem Mem.lt {w : World} {B : Bl} {pv : Value} {q : Pl} {s : Sy} (h : Mem w B pv q s) (k : Nat) (hk : B.has k) : k < w.heap.size := by
  rcases hk with rfl | rfl | rfl | rfl | rfl
  · exact h.box.lt
  · exact h.last.lt
  · exact h.next.lt
  · exact h.lm.lt
  · exact h.nm.lt
/-- the pager and its disk beside it; all made since W -/
structure CrAt (W w : World) (b db : Nat) (B : Bl) (pv : Value) (q : Pl) (s : Sy) (p : Pt) (d : St) (S Sd R : Nat → Prop) (U T BB D low : Nat) : Prop where
  sys : PSys W w S Sd R b db U T BB D low p d
  mem : Mem w B pv q s
  apart : ∀ k, B.has k → W.heap.size ≤ k ∧ ¬ S k ∧ ¬ R k
def Cr (W w : World) (b db : Nat) (B : Bl) (pv : Value) (q : Pl) (s : Sy) (p : Pt) (d : St) : Prop := ∃ S Sd R U T BB D low, CrAt W w b db B pv q s p d S Sd R U T BB D low
theorem Cr.below {W w : World} {b db : Nat} {B : Bl} {pv : Value} {q : Pl} {s : Sy} {p : Pt} {d : St} (h : Cr W w b db B pv q s p d) : Below W.heap.size W w := by
  obtain ⟨S, Sd, R, U, T, BB, D, low, h⟩ := h
  exact h.sys.below
theorem Cr.mem {W w : World} {b db : Nat} {B : Bl} {pv : Value} {q : Pl} {s : Sy} {p : Pt} {d : St} (h : Cr W w b db B pv q s p d) : Mem w B pv q s := by
  obtain ⟨S, Sd, R, U, T, BB, D, low, h⟩ := h
  exact h.mem
theorem Cr.next {W w w' : World} {b db : Nat} {B : Bl} {pv : Value} {q : Pl} {s : Sy} {p : Pt} {d : St} (h : Cr W w b db B pv q s p d) (hb : Below w.heap.size w w') : Cr W w' b db B pv q s p d := by
  obtain ⟨S, Sd, R, U, T, BB, D, low, h⟩ := h
  exact ⟨S, Sd, R, U, T, BB, D, low, h.sys.next hb, h.mem.keep (Fr.of_below hb noB) (fun _ _ e => e), h.apart⟩
theorem Cr.turn {W w w' : World} {F : Nat → Prop} {b db : Nat} {B B' : Bl} {pv : Value} {q : Pl} {s s' : Sy} {p : Pt} {d : St} (h : Cr W w b db B pv q s p d) (f : Fr F w w') (hF : ∀ k, F k → B.has k) (hm : Mem w' B' pv q s') (hn : ∀ k, B'.has k → B.has k ∨ w.heap.size ≤ k) : Cr W w' b db B' pv q s' p d := by
  obtain ⟨S, Sd, R, U, T, BB, D, low, h⟩ := h
  have hz := h.sys.size
  refine ⟨S, Sd, R, U, T, BB, D, low, ⟨h.sys.over.keep f (fun k hk => (h.apart k (hF k hk)).2), h.sys.news, h.sys.newr, h.sys.below.trans (f.below hz fun k hk => (h.apart k (hF k hk)).1)⟩, hm, fun k hk => ?_⟩
  rcases hn k hk with e | e
  · exact h.apart k e
  · exact ⟨by omega, fun e2 => by have := h.sys.over.lt k e2; omega, fun e2 => by have := (h.sys.over.disk.rlow k e2).1; omega⟩
theorem CrAt.over' {W w w' : World} {b db : Nat} {B : Bl} {pv : Value} {q : Pl} {s : Sy} {p p' : Pt} {d : St} {S Sd R : Nat → Prop} {U T BB D low low' : Nat} (h : CrAt W w b db B pv q s p d S Sd R U T BB D low) (ho : Over w' S Sd R b db U T BB D low' p' d) (f : Fr S w w') : Cr W w' b db B pv q s p' d :=
  ⟨S, Sd, R, U, T, BB, D, low', h.sys.over' ho f, h.mem.keep f (fun k hk => (h.apart k hk).2.1), h.apart⟩
theorem CrAt.goes {W w w' : World} {b db : Nat} {B : Bl} {pv : Value} {q : Pl} {s : Sy} {p p' : Pt} {d d' : St} {S Sd R : Nat → Prop} {U T BB D low U' T' B' D' low' : Nat} (h : CrAt W w b db B pv q s p d S Sd R U T BB D low) (g : PGoes w S R b db U' T' B' D' low' p' d' w') : Cr W w' b db B pv q s p' d' := by
  obtain ⟨S', Sd', ho, hf, hs⟩ := g
  have hz := h.sys.size
  refine ⟨S', Sd', R, U', T', B', D', low', ⟨ho, fun k hk => ?_, h.sys.newr, h.sys.below.trans (hf.below hz h.sys.news)⟩, h.mem.keep hf (fun k hk => (h.apart k hk).2.1), fun k hk => ⟨(h.apart k hk).1, fun e => ?_, (h.apart k hk).2.2⟩⟩
  · rcases hs k hk with e | e
    · exact h.sys.news k e
    · omega
  · rcases hs k e with e | e
    · exact (h.apart k hk).2.1 e
    · have := h.mem.lt k hk; omega

/-! ### between transactions, within one, behind a crash -/
def Keys (f : Txt) : Prop := ∀ n b, f n = some b → 2 ≤ n ∧ n < 20
/-- between transactions, behind k of them -/
structure Al (q : Pl) (p : Pt) (d : St) (s : Sy) (k : Nat) : Prop where
  sure : Sure q d 20 p.seq s.rl s.f
  used : ∀ n, s.f n ≠ none → p.l[n]? = some 1
  one : ∀ j, j < 20 → p.l[j]? = some 0 ∨ p.l[j]? = some 1
  few : d.Few (300 + 40 * k)
  seq : p.seq ≤ 1 + k
  len : p.l.length = 20
theorem Sure.keys {q : Pl} {d : St} {seq root : Nat} {f : Txt} (h : Sure q d 20 seq root f) : Keys f := fun n b hb => by
  obtain ⟨x, j, h⟩ := h
  obtain ⟨k1, k2, _⟩ := h.says n b hb
  exact ⟨k1, k2⟩
/-- behind a crash -/
structure Fin (L : List Sec) (s : Sy) : Prop where
  lost : Lost L 20 s.rl s.f ∨ Lost L 20 s.rn s.g
  keysf : Keys s.f
  keysg : Keys s.g
/-- within a transaction: the root so far is ρ -/
structure Md (q : Pl) (p : Pt) (d : St) (s : Sy) (k ρ m : Nat) : Prop where
  sure : Sure q d 20 p.seq s.rl s.f
  used : ∀ n, s.f n ≠ none → stp isU p.l n = true
  says : ∀ n b, s.g n = some b → 2 ≤ n ∧ n < 20 ∧ b.length ≤ 502 ∧ d.page n = Pg.made n b ∧ (p.l[n]? = some 1 ∨ p.l[n]? = some 3)
  root : ρ = 0 ∨ 2 ≤ ρ ∧ ρ < 20 ∧ p.l[ρ]? = some 3
  few : d.Few (300 + 40 * k + 4 * m)
  seq : p.seq ≤ 1 + k
  len : p.l.length = 20
theorem Al.first {q : Pl} {p : Pt} {d : St} {s : Sy} {k : Nat} (h : Al q p d s k) : Md q p d ⟨s.rl, 0, s.f, s.f⟩ k 0 0 := by
  refine ⟨h.sure, fun n hn => by rw [state_of isU (h.used n hn)]; rfl, fun n b hb => ?_, .inl rfl, h.few, h.seq, h.len⟩
  obtain ⟨k1, k2⟩ := Sure.keys h.sure n b hb
  obtain ⟨x, j, hx⟩ := id h.sure
  exact ⟨k1, k2, (hx.says n b hb).2.2.1, h.sure.page hb, .inl (h.used n (by have hb' : s.f n = some b := hb; rw [hb']; simp))⟩
theorem Md.drop {q : Pl} {p : Pt} {d : St} {s : Sy} {k ρ m n : Nat} (h : Md q p d s k ρ m) (h1 : p.l[n]? = some 1) : Md q ⟨p.l.set n 4, p.seq, p.root⟩ d ⟨s.rl, s.rn, s.f, fun j => if j = n then none else s.g j⟩ k ρ m := by
  have hn : n < p.l.length := (List.getElem?_eq_some_iff.1 h1).1
  refine ⟨h.sure, fun j hj => ?_, fun j b hb => ?_, ?_, h.few, h.seq, by rw [List.length_set]; exact h.len⟩
  · show stp isU (p.l.set n 4) j = true
    rw [stp_set hn]
    split
    · rfl
    · exact h.used j hj
  · by_cases e : j = n
    · simp [e] at hb
    · simp only [if_neg e] at hb
      obtain ⟨k1, k2, k3, k4, k5⟩ := h.says j b hb
      exact ⟨k1, k2, k3, k4, by show (p.l.set n 4)[j]? = _ ∨ (p.l.set n 4)[j]? = _; rw [List.getElem?_set_ne (fun e' => e e'.symm)]; exact k5⟩
  · rcases h.root with e | ⟨e1, e2, e3⟩
    · exact .inl e
    · refine .inr ⟨e1, e2, ?_⟩
      show (p.l.set n 4)[ρ]? = _
      rw [List.getElem?_set_ne (fun e' => by subst e'; rw [h1] at e3; cases e3)]
      exact e3
theorem Md.take {q : Pl} {p : Pt} {d : St} {s : Sy} {k ρ m i : Nat} (h : Md q p d s k ρ m) (h0 : p.l[i]? = some 0) : Md q ⟨p.l.set i 2, p.seq, p.root⟩ d s k ρ m ∧ s.f i = none := by
  have hn : i < p.l.length := (List.getElem?_eq_some_iff.1 h0).1
  have hfi : s.f i = none := by
    cases hf : s.f i with
    | none => rfl
    | some b => have := h.used i (by rw [hf]; simp); rw [state_of isU h0] at this; cases this
  refine ⟨⟨h.sure, fun j hj => ?_, fun j b hb => ?_, ?_, h.few, h.seq, by rw [List.length_set]; exact h.len⟩, hfi⟩
  · show stp isU (p.l.set i 2) j = true
    rw [stp_set hn, if_neg (fun e => by subst e; exact hj hfi)]
    exact h.used j hj
  · obtain ⟨k1, k2, k3, k4, k5⟩ := h.says j b hb
    refine ⟨k1, k2, k3, k4, ?_⟩
    show (p.l.set i 2)[j]? = _ ∨ (p.l.set i 2)[j]? = _
    rw [List.getElem?_set_ne (fun e' => by subst e'; rw [h0] at k5; rcases k5 with k5 | k5 <;> cases k5)]
    exact k5
  · rcases h.root with e | ⟨e1, e2, e3⟩
    · exact .inl e
    · refine .inr ⟨e1, e2, ?_⟩
      show (p.l.set i 2)[ρ]? = _
      rw [List.getElem?_set_ne (fun e' => by subst e'; rw [h0] at e3; cases e3)]
      exact e3
theorem Md.wrote {q : Pl} {p : Pt} {d : St} {s : Sy} {k ρ m n : Nat} {b : List UInt8} (h : Md q p d s k ρ m) (h2 : 2 ≤ n) (hN : n < 20) (hn : p.l[n]? = some 2) (hb : b.length ≤ 502) (hs : Sure q (d.putPage n b) 20 p.seq s.rl s.f) (hp : ∀ j, (d.putPage n b).page j = if n = j then Pg.made n b else d.page j) :
    Md q ⟨p.l.set n 3, p.seq, p.root⟩ (d.putPage n b) ⟨s.rl, s.rn, s.f, fun j => if j = n then some b else s.g j⟩ k n (m + 1) := by
  have hl : n < p.l.length := (List.getElem?_eq_some_iff.1 hn).1
  refine ⟨hs, fun j hj => ?_, fun j c hc => ?_, .inr ⟨h2, hN, List.getElem?_set_self hl⟩, (few_puts h.few _ _ 4).more (by omega), h.seq, by rw [List.length_set]; exact h.len⟩
  · show stp isU (p.l.set n 3) j = true
    rw [stp_set hl, if_neg (fun e => by subst e; have := h.used j hj; rw [state_of isU hn] at this; cases this)]
    exact h.used j hj
  · by_cases e : j = n
    · subst e
      simp at hc
      subst hc
      exact ⟨h2, hN, hb, by rw [hp, if_pos rfl], .inr (List.getElem?_set_self hl)⟩
    · simp only [if_neg e] at hc
      obtain ⟨k1, k2, k3, k4, k5⟩ := h.says j c hc
      refine ⟨k1, k2, k3, by rw [hp, if_neg (fun e' => e e'.symm)]; exact k4, ?_⟩
      show (p.l.set n 3)[j]? = _ ∨ (p.l.set n 3)[j]? = _
      rw [List.getElem?_set_ne (fun e' => e e'.symm)]
      exact k5

/-! ### the calls -/
theorem free_pos {s : List Nat} (h : 0 < freeN s) : ∃ i, 2 ≤ i ∧ i < s.length ∧ stp isF s i = true ∧ ∀ j, 2 ≤ j → j < i → stp isF s j = false := by
  have hex : ∃ i, 2 ≤ i ∧ stp isF s i = true := by
    refine Classical.byContradiction fun hn => ?_
    have : freeN s = 0 := cnt_none fun j hj => by
      cases h2 : decide (2 ≤ j)
      · rfl
      · cases h3 : stp isF s j
        · rfl
        · exact absurd ⟨j, of_decide_eq_true h2, h3⟩ hn
    omega
  have hdec : ∃ i, (2 ≤ i ∧ stp isF s i = true) ∧ ∀ j, j < i → ¬ (2 ≤ j ∧ stp isF s j = true) := by
    obtain ⟨i, hi⟩ := hex
    induction i using Nat.strongRecOn with
    | _ i ih =>
      by_cases hc : ∃ j, j < i ∧ 2 ≤ j ∧ stp isF s j = true
      · obtain ⟨j, hj, h2⟩ := hc
        exact ih j hj h2
      · exact ⟨i, hi, fun j hj h2 => hc ⟨j, hj, h2⟩⟩
  obtain ⟨i, ⟨h2, hf⟩, hmin⟩ := hdec
  refine ⟨i, h2, stp_lt hf, hf, fun j hj hji => ?_⟩
  cases hh : stp isF s j
  · rfl
  · exact absurd ⟨hj, hh⟩ (hmin j hji)
theorem free_none {s : List Nat} (h : freeN s = 0) (j : Nat) (h2 : 2 ≤ j) (hj : j < s.length) : stp isF s j = false := by
  cases hh : stp isF s j
  · rfl
  · have := cnt_zero h j hj
    rw [decide_eq_true h2, hh] at this
    cases this
theorem cr_dead {W w : World} {b db : Nat} {B : Bl} {pv : Value} {q : Pl} {s : Sy} {p : Pt} {d : St} (h : Cr W w b db B pv q s p d) :
    Calls Try.prog 30 #[.pointer (some ⟨db, 0, none⟩)] w fun e w' => e = .returned (.bool d.dead) ∧ w = w' := by
  obtain ⟨S, Sd, R, U, T, BB, D, low, h⟩ := h
  exact dead_any w db _ (disk_cells h.sys.over.disk).2
theorem cr_drop {W w : World} {b db : Nat} {B : Bl} {pv : Value} {q : Pl} {s : Sy} {p : Pt} {d : St} (h : Cr W w b db B pv q s p d) (hd : d.dead = false) (n : Nat) (h2 : 2 ≤ n) (h1 : p.l[n]? = some 1) :
    Calls Try.prog 23 #[.pointer (some ⟨b, 0, none⟩), .int .i64 (n : Int)] w fun e w' => e = .returned (.int .i64 0) ∧ Cr W w' b db B pv q s ⟨p.l.set n 4, p.seq, p.root⟩ d := by
  obtain ⟨S, Sd, R, U, T, BB, D, low, h⟩ := h
  refine (pdrop_used w S Sd R b db U T BB D low p d h.sys.over hd n h2 (List.getElem?_eq_some_iff.1 h1).1 h1).mono ?_
  rintro e w' ⟨rfl, ho, hf⟩
  exact ⟨rfl, h.over' ho hf⟩
theorem cr_alloc {W w : World} {b db : Nat} {B : Bl} {pv : Value} {q : Pl} {s : Sy} {p : Pt} {d : St} (h : Cr W w b db B pv q s p d) (hd : d.dead = false) (hl : p.l.length = 20) :
    Calls Try.prog 19 #[.pointer (some ⟨b, 0, none⟩)] w fun e w' =>
      (∃ i : Nat, e = .returned (.tuple #[.int .i64 (i : Int), .int .i64 0]) ∧ 2 ≤ i ∧ i < 20 ∧ p.l[i]? = some 0 ∧ Cr W w' b db B pv q s ⟨p.l.set i 2, p.seq, p.root⟩ d) ∨
      (e = .returned (.tuple #[.int .i64 0, .int .i64 3]) ∧ Cr W w' b db B pv q s p d) := by
  obtain ⟨S, Sd, R, U, T, BB, D, low, h⟩ := h
  by_cases hf : 0 < freeN p.l
  · obtain ⟨i, h2, hi, hfi, hmin⟩ := free_pos hf
    refine (palloc_some w S Sd R b db U T BB D low p d h.sys.over hd i h2 hi hfi hmin).mono ?_
    rintro e w' ⟨rfl, ho, hfr⟩
    exact .inl ⟨i, rfl, h2, by omega, stpF.1 hfi, h.over' ho hfr⟩
  · refine (palloc_none w S Sd R b db U T BB D low p d h.sys.over hd (free_none (by omega))).mono ?_
    rintro e w' ⟨rfl, ho, hfr⟩
    exact .inr ⟨rfl, h.over' ho hfr⟩
theorem cr_alloc_dead {W w : World} {b db : Nat} {B : Bl} {pv : Value} {q : Pl} {s : Sy} {p : Pt} {d : St} (h : Cr W w b db B pv q s p d) (hd : d.dead = true) :
    Calls Try.prog 19 #[.pointer (some ⟨b, 0, none⟩)] w fun e w' => e = .returned (.tuple #[.int .i64 0, .int .i64 20]) ∧ w = w' := by
  obtain ⟨S, Sd, R, U, T, BB, D, low, h⟩ := h
  exact palloc_dead w b db h.sys.over.lies.cells.c0 (by rw [← hd]; exact (disk_cells h.sys.over.disk).2)
theorem cr_write {W w : World} {b db : Nat} {B : Bl} {pv : Value} {q : Pl} {s : Sy} {p : Pt} {d : St} {k ρ m : Nat} (h : Cr W w b db B pv q s p d) (hm : Md q p d s k ρ m) (hk : k ≤ 100) (hm' : m ≤ 4) (n : Nat) (h2 : 2 ≤ n) (hN : n < 20) (hn : p.l[n]? = some 2) (hf : s.f n = none)
    (A : Option Addr) (t : List UInt8) (c : Nat) (ht : t.length ≤ 502) (hr : Rd w w.heap.size A t) :
    Calls Try.prog 22 #[.pointer (some ⟨b, 0, none⟩), .int .i64 (n : Int), .slice A t.length c] w fun e w' => ∃ p' d', e = .returned (.int .i64 (ecode d'.dead)) ∧ Cr W w' b db B pv q s p' d' ∧
      (d'.dead = false → Md q p' d' ⟨s.rl, s.rn, s.f, fun j => if j = n then some t else s.g j⟩ k n (m + 1)) ∧ (d'.dead = true → Lost d'.lasts 20 s.rl s.f) := by
  obtain ⟨S, Sd, R, U, T, BB, D, low, h⟩ := h
  have hs := hm.seq
  refine (pwrite_ok w S Sd R b db U T BB D low p d h.sys.over hm.sure.dead (hm.few.more (by omega)) n h2 (by rw [hm.len]; exact hN) (by rw [state_of isT hn]; rfl) A t c ht hr).mono ?_
  rintro e w' ⟨rfl, hg⟩
  refine ⟨_, _, rfl, h.goes hg, fun hd => ?_, fun hd => ?_⟩
  · rcases sure_put hm.sure (by omega) (by omega) h2 hN hf (Pg.made_length n t ht) with ⟨k1, k2⟩ | ⟨k1, _⟩
    · rw [hd]
      exact hm.wrote h2 hN hn ht k1 k2
    · have k1' : (d.putPage n t).dead = true := k1
      rw [hd] at k1'; cases k1'
  · rcases sure_put hm.sure (by omega) (by omega) h2 hN hf (Pg.made_length n t ht) with ⟨k1, k2⟩ | ⟨_, k2⟩
    · have k1' : (d.putPage n t).dead = false := k1.dead
      rw [hd] at k1'; cases k1'
    · exact k2
theorem cr_abort {W w : World} {b db : Nat} {B : Bl} {pv : Value} {q : Pl} {s : Sy} {p : Pt} {d : St} {k ρ m : Nat} (h : Cr W w b db B pv q s p d) (hm : Md q p d s k ρ m) (hm' : m ≤ 4) :
    Calls Try.prog 24 #[.pointer (some ⟨b, 0, none⟩)] w fun e w' => e = .returned (.int .i64 0) ∧ ∃ p', Cr W w' b db B pv q s p' d ∧ ∀ rn g, Al q p' d ⟨s.rl, rn, s.f, g⟩ (k + 1) := by
  obtain ⟨S, Sd, R, U, T, BB, D, low, h⟩ := h
  have hok := h.sys.over.lies.ok
  refine (pabort_ok w S Sd R b db U T BB D low p d h.sys.over hm.sure.dead).mono ?_
  rintro e w' ⟨rfl, T', B', D', low', hg⟩
  refine ⟨rfl, _, h.goes hg, fun rn g => ⟨hm.sure, fun n hn => ?_, fun j hj => ?_, hm.few.more (by omega), by have := hm.seq; show p.seq ≤ _; omega, by show (p.l.map abo).length = 20; rw [List.length_map]; exact hm.len⟩⟩
  · have hu := hm.used n hn
    have hl := stp_lt hu
    show (p.l.map abo)[n]? = _
    rw [List.getElem?_map, List.getElem?_eq_getElem hl]
    rw [stp_at hl] at hu
    generalize p.l[n] = x at *
    unfold isU at hu
    rw [Bool.or_eq_true, beq_iff_eq, beq_iff_eq] at hu
    rcases hu with rfl | rfl <;> rfl
  · have hl : j < p.l.length := by rw [hm.len]; exact hj
    have h4 := hok.small _ (List.getElem_mem hl)
    show (p.l.map abo)[j]? = _ ∨ (p.l.map abo)[j]? = _
    rw [List.getElem?_map, List.getElem?_eq_getElem hl]
    generalize p.l[j] = x at *
    rcases (by omega : x = 0 ∨ x = 1 ∨ x = 2 ∨ x = 3 ∨ x = 4) with rfl | rfl | rfl | rfl | rfl <;> simp [abo]
theorem cr_commit {W w : World} {b db : Nat} {B : Bl} {pv : Value} {q : Pl} {s : Sy} {p : Pt} {d : St} {k ρ m : Nat} (h : Cr W w b db B pv q s p d) (hm : Md q p d s k ρ m) (hk : k ≤ 100) (hm' : m ≤ 4) (hq : q.cut ≤ 128) :
    Calls Try.prog 13 #[.pointer (some ⟨b, 0, none⟩), .int .i64 (ρ : Int)] w fun e w' => ∃ p' d', e = .returned (.int .i64 (ecode d'.dead)) ∧ Cr W w' b db B pv q s p' d' ∧
      (d'.dead = false → ∀ rn g, Al q p' d' ⟨ρ, rn, s.g, g⟩ (k + 1)) ∧ (d'.dead = true → Lost d'.lasts 20 s.rl s.f ∨ Lost d'.lasts 20 ρ s.g) := by
  obtain ⟨S, Sd, R, U, T, BB, D, low, h⟩ := h
  have hok := h.sys.over.lies.ok
  have hs := hm.seq
  have hr : okR 20 ρ := by rcases hm.root with e | ⟨e1, e2, _⟩; exact .inl e; exact .inr ⟨e1, e2⟩
  have hg := sure_keep hm.sure (by omega) (by omega) (by omega) hq (g := s.g) (r' := ρ) hr fun n t hn => by
    obtain ⟨k1, k2, k3, k4, _⟩ := hm.says n t hn
    exact ⟨k1, k2, k3, k4⟩
  refine (pcommit_ok w S Sd R b db U T BB D low p d h.sys.over hm.sure.dead (hm.few.more (by omega)) (by omega) ρ ?_).mono ?_
  · rcases hm.root with e | ⟨e1, e2, e3⟩
    · exact .inl e
    · exact .inr ⟨e1, by rw [hm.len]; exact e2, by rw [state_of isOk e3]; rfl⟩
  · intro e w' hp
    rcases hp with ⟨hd, rfl, hg'⟩ | ⟨hd, rfl, T', B', D', low', hg'⟩
    · refine ⟨_, _, by rw [hd]; rfl, h.goes hg', fun e => by (rw [hd] at e; cases e), fun _ => ?_⟩
      rcases hg with hg | ⟨_, hg⟩
      · rw [hg.dead] at hd; cases hd
      · exact hg
    · refine ⟨_, _, by rw [hd]; rfl, h.goes hg', fun _ rn g => ?_, fun e => by (rw [hd] at e; cases e)⟩
      rcases hg with hg | ⟨hg, _⟩
      · refine ⟨hg, fun n hn => ?_, fun j hj => ?_, (keep_few hm.few _ _).more (by omega), by show p.seq + 1 ≤ _; omega, by show (p.l.map com).length = 20; rw [List.length_map]; exact hm.len⟩
        · obtain ⟨t, ht⟩ := Option.ne_none_iff_exists'.1 hn
          obtain ⟨_, _, _, _, k5⟩ := hm.says n t ht
          show (p.l.map com)[n]? = _
          rw [List.getElem?_map]
          rcases k5 with e | e <;> rw [e] <;> rfl
        · have hl : j < p.l.length := by rw [hm.len]; exact hj
          have h4 := hok.small _ (List.getElem_mem hl)
          show (p.l.map com)[j]? = _ ∨ (p.l.map com)[j]? = _
          rw [List.getElem?_map, List.getElem?_eq_getElem hl]
          generalize p.l[j] = x at *
          rcases (by omega : x = 0 ∨ x = 1 ∨ x = 2 ∨ x = 3 ∨ x = 4) with rfl | rfl | rfl | rfl | rfl <;> simp [com]
      · rw [hd] at hg; cases hg
theorem CrAt.turn {W w w' : World} {F : Nat → Prop} {b db : Nat} {B : Bl} {pv : Value} {q : Pl} {s s' : Sy} {p : Pt} {d : St} {S Sd R : Nat → Prop} {U T BB D low : Nat} (h : CrAt W w b db B pv q s p d S Sd R U T BB D low) (f : Fr F w w') (hF : ∀ k, F k → W.heap.size ≤ k ∧ ¬ S k ∧ ¬ R k) (hm : Mem w' B pv q s') : CrAt W w' b db B pv q s' p d S Sd R U T BB D low :=
  ⟨⟨h.sys.over.keep f (fun k hk => (hF k hk).2), h.sys.news, h.sys.newr, h.sys.below.trans (f.below h.sys.size fun k hk => (hF k hk).1)⟩, hm, h.apart⟩
/-- a block that is newer than all -/
theorem CrAt.far {W w : World} {b db : Nat} {B : Bl} {pv : Value} {q : Pl} {s : Sy} {p : Pt} {d : St} {S Sd R : Nat → Prop} {U T BB D low : Nat} (h : CrAt W w b db B pv q s p d S Sd R U T BB D low) (k : Nat) (hk : w.heap.size ≤ k) : W.heap.size ≤ k ∧ ¬ S k ∧ ¬ R k ∧ ¬ B.has k :=
  ⟨by have := h.sys.size; omega, fun e => by have := h.sys.over.lt k e; omega, fun e => by have := (h.sys.over.disk.rlow k e).1; omega, fun e => by have := h.mem.lt k e; omega⟩
/-- the iterator over the last state's map goes on -/
theorem CrAt.step {W w w' : World} {r : Nat} {b db : Nat} {B : Bl} {pv : Value} {q : Pl} {s : Sy} {p : Pt} {d : St} {S Sd R : Nat → Prop} {U T BB D low : Nat} (h : CrAt W w b db B pv q s p d S Sd R U T BB D low) (f : Fr (oneB r) w w') (hr : W.heap.size ≤ r ∧ ¬ S r ∧ ¬ R r ∧ ¬ B.has r) : CrAt W w' b db B pv q s p d S Sd R U T BB D low :=
  h.turn f (fun k e => by have e : k = r := e; rw [e]; exact ⟨hr.1, hr.2.1, hr.2.2.1⟩) (h.mem.keep f fun k hk e => by have e : k = r := e; rw [e] at hk; exact hr.2.2.2 hk)
theorem CrAt.map {W w w' : World} {b db : Nat} {B : Bl} {pv : Value} {q : Pl} {s : Sy} {p : Pt} {d : St} {S Sd R : Nat → Prop} {U T BB D low : Nat} (h : CrAt W w b db B pv q s p d S Sd R U T BB D low) (hne : B.ml ≠ B.mn) {g : Txt} (hg : TxtAt w' B.mn 20 g) (f : Fr (oneB B.mn) w w') : CrAt W w' b db B pv q ⟨s.rl, s.rn, s.f, g⟩ p d S Sd R U T BB D low := by
  have hm := h.mem
  exact h.turn f (fun k e => by have e : k = B.mn := e; rw [e]; exact h.apart _ (.inr (.inr (.inr (.inr rfl))))) ⟨hm.box.keep f (fun e => hm.box.ne_texts hm.nm e), hm.last.keep f (fun e => hm.last.ne_texts hm.nm e), hm.next.keep f (fun e => hm.next.ne_texts hm.nm e), hm.lm.keep f (fun e => hne e), hg, hm.ne⟩
/-- the next state is made anew -/
theorem cr_anew {W w : World} {b db : Nat} {B : Bl} {pv : Value} {q : Pl} {s : Sy} {p : Pt} {d : St} (h : Cr W w b db B pv q s p d) :
    Cr W (((w.alloc (.map #[] 0)).setCell ⟨B.bn, 0, none⟩ (.int .i64 0)).setCell ⟨B.bn, 1, none⟩ (.map (some w.heap.size))) b db ⟨B.bp, B.bl, B.bn, B.ml, w.heap.size⟩ pv q ⟨s.rl, 0, s.f, fun _ => none⟩ p d ∧ B.ml ≠ w.heap.size := by
  have hm := h.mem
  have hf : Fr (oneB B.bn) w (((w.alloc (.map #[] 0)).setCell ⟨B.bn, 0, none⟩ (.int .i64 0)).setCell ⟨B.bn, 1, none⟩ (.map (some w.heap.size))) := (((Fr.refl _ w).alloc _).put _).put _
  have hf2 : Fr (oneB B.bn) (w.alloc (.map #[] 0)) (((w.alloc (.map #[] 0)).setCell ⟨B.bn, 0, none⟩ (.int .i64 0)).setCell ⟨B.bn, 1, none⟩ (.map (some w.heap.size))) := ((Fr.refl _ _).put _).put _
  have hlt := hm.next.lt
  have hml := hm.lm.lt
  refine ⟨h.turn hf (fun k e => by have e : k = B.bn := e; exact .inr (.inr (.inl e))) ⟨hm.box.keep hf (fun e => hm.ne.2.1 e), hm.last.keep hf (fun e => hm.ne.2.2 e), ?_, hm.lm.keep hf (fun e => by
    have e : B.ml = B.bn := e
    exact hm.next.ne_texts hm.lm e.symm), (TxtAt.made w 20).keep hf2 (fun e => by have e : w.heap.size = B.bn := e; omega), hm.ne⟩ fun k hk => ?_, by omega⟩
  · have := ((hm.next.alloc (.map #[] 0)).set 0 (.int .i64 0)).set 1 (.map (some w.heap.size))
    exact this
  · rcases hk with rfl | rfl | rfl | rfl | rfl
    · exact .inl (.inl rfl)
    · exact .inl (.inr (.inl rfl))
    · exact .inl (.inr (.inr (.inl rfl)))
    · exact .inl (.inr (.inr (.inr (.inl rfl))))
    · exact .inr (Nat.le_refl _)
/-- the next state's map is turned -/
theorem cr_map {W w w' : World} {b db : Nat} {B : Bl} {pv : Value} {q : Pl} {s : Sy} {p : Pt} {d : St} (h : Cr W w b db B pv q s p d) (hne : B.ml ≠ B.mn) {g : Txt} (hg : TxtAt w' B.mn 20 g) (f : Fr (oneB B.mn) w w') : Cr W w' b db B pv q ⟨s.rl, s.rn, s.f, g⟩ p d := by
  have hm := h.mem
  refine h.turn f (fun k e => by have e : k = B.mn := e; exact .inr (.inr (.inr (.inr e)))) ⟨hm.box.keep f (fun e => hm.box.ne_texts hm.nm e), hm.last.keep f (fun e => hm.last.ne_texts hm.nm e), hm.next.keep f (fun e => hm.next.ne_texts hm.nm e), hm.lm.keep f (fun e => hne e), hg, hm.ne⟩ fun k hk => .inl hk
theorem fr_two (w : World) (c : Nat) (u v : Value) : Fr (oneB c) w ((w.setCell ⟨c, 0, none⟩ u).setCell ⟨c, 1, none⟩ v) := ((Fr.refl _ w).put _).put _
/-- next = last -/
theorem cr_back {W w : World} {b db : Nat} {B : Bl} {pv : Value} {q : Pl} {s : Sy} {p : Pt} {d : St} (h : Cr W w b db B pv q s p d) :
    Cr W ((w.setCell ⟨B.bn, 0, none⟩ (.int .i64 (s.rl : Int))).setCell ⟨B.bn, 1, none⟩ (.map (some B.ml))) b db ⟨B.bp, B.bl, B.bn, B.ml, B.ml⟩ pv q ⟨s.rl, s.rl, s.f, s.f⟩ p d := by
  have hm := h.mem
  have hf := fr_two w B.bn (.int .i64 (s.rl : Int)) (.map (some B.ml))
  have hlm := hm.lm.keep hf (fun e => by
    have e : B.ml = B.bn := e
    exact hm.next.ne_texts hm.lm e.symm)
  refine h.turn hf (fun k e => by have e : k = B.bn := e; exact .inr (.inr (.inl e))) ⟨hm.box.keep hf (fun e => hm.ne.2.1 e), hm.last.keep hf (fun e => hm.ne.2.2 e), (hm.next.set 0 _).set 1 _, hlm, hlm, hm.ne⟩ fun k hk => ?_
  rcases hk with rfl | rfl | rfl | rfl | rfl
  · exact .inl (.inl rfl)
  · exact .inl (.inr (.inl rfl))
  · exact .inl (.inr (.inr (.inl rfl)))
  · exact .inl (.inr (.inr (.inr (.inl rfl))))
  · exact .inl (.inr (.inr (.inr (.inl rfl))))
/-- last = next -/
theorem cr_forth {W w : World} {b db : Nat} {B : Bl} {pv : Value} {q : Pl} {s : Sy} {p : Pt} {d : St} (h : Cr W w b db B pv q s p d) :
    Cr W ((w.setCell ⟨B.bl, 0, none⟩ (.int .i64 (s.rn : Int))).setCell ⟨B.bl, 1, none⟩ (.map (some B.mn))) b db ⟨B.bp, B.bl, B.bn, B.mn, B.mn⟩ pv q ⟨s.rn, s.rn, s.g, s.g⟩ p d := by
  have hm := h.mem
  have hf := fr_two w B.bl (.int .i64 (s.rn : Int)) (.map (some B.mn))
  have hnm := hm.nm.keep hf (fun e => by
    have e : B.mn = B.bl := e
    exact hm.last.ne_texts hm.nm e.symm)
  refine h.turn hf (fun k e => by have e : k = B.bl := e; exact .inr (.inl e)) ⟨hm.box.keep hf (fun e => hm.ne.1 e), (hm.last.set 0 _).set 1 _, hm.next.keep hf (fun e => hm.ne.2.2 (Eq.symm e)), hnm, hnm, hm.ne⟩ fun k hk => ?_
  rcases hk with rfl | rfl | rfl | rfl | rfl
  · exact .inl (.inl rfl)
  · exact .inl (.inr (.inl rfl))
  · exact .inl (.inr (.inr (.inl rfl)))
  · exact .inl (.inr (.inr (.inr (.inr rfl))))
  · exact .inl (.inr (.inr (.inr (.inr rfl))))
/-- next.root = r -/
theorem cr_root {W w : World} {b db : Nat} {B : Bl} {pv : Value} {q : Pl} {s : Sy} {p : Pt} {d : St} (h : Cr W w b db B pv q s p d) (r : Nat) :
    Cr W (w.setCell ⟨B.bn, 0, none⟩ (.int .i64 (r : Int))) b db B pv q ⟨s.rl, r, s.f, s.g⟩ p d := by
  have hm := h.mem
  have hf : Fr (oneB B.bn) w (w.setCell ⟨B.bn, 0, none⟩ (.int .i64 (r : Int))) := (Fr.refl _ w).put _
  exact h.turn hf (fun k e => by have e : k = B.bn := e; exact .inr (.inr (.inl e))) ⟨hm.box.keep hf (fun e => hm.ne.2.1 e), hm.last.keep hf (fun e => hm.ne.2.2 e), hm.next.set 0 _, hm.lm.keep hf (fun e => hm.next.ne_texts hm.lm (Eq.symm e)), hm.nm.keep hf (fun e => hm.next.ne_texts hm.nm (Eq.symm e)), hm.ne⟩ fun k hk => .inl hk
theorem Md.rooted {q : Pl} {p : Pt} {d : St} {s : Sy} {k ρ m : Nat} (h : Md q p d s k ρ m) (r : Nat) : Md q p d ⟨s.rl, r, s.f, s.g⟩ k ρ m := ⟨h.sure, h.used, h.says, h.root, h.few, h.seq, h.len⟩
/-- the memory before the first transaction -/
theorem cr_first {W w4 w5 : World} {S Sd R5 : Nat → Prop} {b db U T BB D low m bp : Nat} {pv : Value} {q : Pl} {p : Pt} {d : St} (y4 : PSys W w4 S Sd noB b db U T BB D low p d) (hd5 : DiskAt w5 Sd R5 db (d.fuse m q)) (hf5 : Fr (oneB db) w4 w5) (hr5 : ∀ k, R5 k → w4.heap.size ≤ k)
    (hx : Has w4 bp 56 #[pv, .int .i64 q.torn, .int .i64 q.cut]) (hxW : W.heap.size ≤ bp) (hxS : ¬ S bp) :
    Cr W (((w5.alloc (.map #[] 0)).alloc (.cells #[.int .i64 0, .map (some w5.heap.size)] 64)).alloc (.cells #[.int .i64 0, .map (some w5.heap.size)] 64)) b db ⟨bp, w5.heap.size + 1, w5.heap.size + 1 + 1, w5.heap.size, w5.heap.size⟩ pv q ⟨0, 0, fun _ => none, fun _ => none⟩ p (d.fuse m q) := by
  have hdb : Sd db := by
    obtain ⟨L, cap, wv, M, kv, hL⟩ := y4.over.disk
    exact (hL.own db).2 (.inl rfl)
  have hne : ∀ k, pS b U T BB D k → ¬ oneB db k := fun k hk e => (y4.over.apart k hk).1 (by have e : k = db := e; rw [e]; exact hdb)
  have hxlt := hx.lt
  have hz5 := hf5.size
  have hz4 := y4.size
  have ho5 : Over w5 S Sd R5 b db U T BB D low p (d.fuse m q) := ⟨y4.over.lies.keep hf5 hne, hd5, y4.over.own, fun k hk => ⟨(y4.over.apart k hk).1, fun e => by have := hr5 k e; have := y4.over.lies.lt k hk; omega⟩, y4.over.len⟩
  have hb : Below w5.heap.size w5 (((w5.alloc (.map #[] 0)).alloc (.cells #[.int .i64 0, .map (some w5.heap.size)] 64)).alloc (.cells #[.int .i64 0, .map (some w5.heap.size)] 64)) := (((Below.refl _ _).alloc (Nat.le_refl _) _).alloc (by simp) _).alloc (by simp; omega) _
  have hS : ∀ k, oneB db k → S k := fun k e => by have e : k = db := e; rw [e]; exact (y4.over.own db).2 (.inl hdb)
  have hy : PSys W w5 S Sd R5 b db U T BB D low p (d.fuse m q) := ⟨ho5, y4.news, fun k hk => by have := hr5 k hk; omega, y4.below.trans (hf5.below hz4 fun k hk => y4.news k (hS k hk))⟩
  have hm0 := TxtAt.made w5 20
  have h1 : Has ((w5.alloc (.map #[] 0)).alloc (.cells #[.int .i64 0, .map (some w5.heap.size)] 64)) (w5.heap.size + 1) 64 #[.int .i64 0, .map (some w5.heap.size)] := by
    have := Has.of_alloc (w5.alloc (.map #[] 0)) 64 #[.int .i64 0, .map (some w5.heap.size)]
    simpa using this
  have h2 : Has (((w5.alloc (.map #[] 0)).alloc (.cells #[.int .i64 0, .map (some w5.heap.size)] 64)).alloc (.cells #[.int .i64 0, .map (some w5.heap.size)] 64)) (w5.heap.size + 1 + 1) 64 #[.int .i64 0, .map (some w5.heap.size)] := by
    have := Has.of_alloc ((w5.alloc (.map #[] 0)).alloc (.cells #[.int .i64 0, .map (some w5.heap.size)] 64)) 64 #[.int .i64 0, .map (some w5.heap.size)]
    simpa using this
  have hm2 := (hm0.keep ((Fr.refl noB (w5.alloc (.map #[] 0))).alloc (.cells #[.int .i64 0, .map (some w5.heap.size)] 64)) (fun e => e)).keep ((Fr.refl noB _).alloc (.cells #[.int .i64 0, .map (some w5.heap.size)] 64)) (fun e => e)
  refine ⟨S, Sd, R5, U, T, BB, D, low, hy.next hb, ⟨(hx.keep hf5 (fun e => hxS (hS bp e))).keep (Fr.of_below hb noB) (fun e => e), h1.keep ((Fr.refl noB _).alloc _) (fun e => e), h2, hm2, hm2, ⟨by show bp ≠ w5.heap.size + 1; omega, by show bp ≠ w5.heap.size + 1 + 1; omega, by show w5.heap.size + 1 ≠ w5.heap.size + 1 + 1; omega⟩⟩, fun k hk => ?_⟩
  have hfar : ∀ k, w5.heap.size ≤ k → W.heap.size ≤ k ∧ ¬ S k ∧ ¬ R5 k := fun k hk => ⟨by omega, fun e => by have := y4.over.lt k e; omega, fun e => by have := (hd5.rlow k e).1; omega⟩
  rcases hk with rfl | rfl | rfl | rfl | rfl
  · exact ⟨hxW, hxS, fun e => by have := hr5 _ e; show False; omega⟩
  · exact hfar _ (by show w5.heap.size ≤ w5.heap.size + 1; omega)
  · exact hfar _ (by show w5.heap.size ≤ w5.heap.size + 1 + 1; omega)
  · exact hfar _ (Nat.le_refl _)
  · exact hfar _ (Nat.le_refl _)
/-! ### the mount behind the crash -/
def Dn (W w : World) (db : Nat) (B : Bl) (pv : Value) (q : Pl) (s : Sy) (d : St) : Prop := ∃ Sd R, DiskAt w Sd R db d ∧ Mem w B pv q s ∧ Below W.heap.size W w
theorem Cr.dn {W w : World} {b db : Nat} {B : Bl} {pv : Value} {q : Pl} {s : Sy} {p : Pt} {d : St} (h : Cr W w b db B pv q s p d) : Dn W w db B pv q s d := by
  obtain ⟨S, Sd, R, U, T, BB, D, low, h⟩ := h
  exact ⟨Sd, R, h.sys.over.disk, h.mem, h.sys.below⟩
theorem dn_crash {W w wd : World} {b db : Nat} {B : Bl} {pv : Value} {q : Pl} {s : Sy} {p : Pt} {d d' : St} {S Sd R : Nat → Prop} {U T BB D low : Nat} (h : CrAt W w b db B pv q s p d S Sd R U T BB D low) (hg : Goes Sd noB db d' w wd) :
    Mem wd B pv q s ∧ Dn W ((wd.setCell ⟨B.bn, 0, none⟩ (.int .i64 (s.rl : Int))).setCell ⟨B.bn, 1, none⟩ (.map (some B.ml))) db ⟨B.bp, B.bl, B.bn, B.ml, B.ml⟩ pv q ⟨s.rl, s.rl, s.f, s.f⟩ d' := by
  obtain ⟨S', hd, hf, hs⟩ := hg
  have hS : ∀ k, Sd k → S k := fun k hk => (h.sys.over.own k).2 (.inl hk)
  have hm := h.mem.keep hf (fun k hk e => (h.apart k hk).2.1 (hS k e))
  have hf2 := fr_two wd B.bn (.int .i64 (s.rl : Int)) (.map (some B.ml))
  have hbn : ¬ S' B.bn := fun e => by
    rcases hs _ e with e2 | e2
    · exact (h.apart _ (.inr (.inr (.inl rfl)))).2.1 (hS _ e2)
    · have := h.mem.next.lt; omega
  have hlm := hm.lm.keep hf2 (fun e => by
    have e : B.ml = B.bn := e
    exact hm.next.ne_texts hm.lm e.symm)
  have hW : W.heap.size ≤ B.bn := (h.apart _ (.inr (.inr (.inl rfl)))).1
  have hbw : Below W.heap.size W wd := h.sys.below.trans (hf.below h.sys.size fun k hk => h.sys.news k (hS k hk))
  refine ⟨hm, S', noB, hd.keep hf2 (fun k e => ⟨fun e2 => hbn (by have e : k = B.bn := e; rwa [e] at e2), fun e2 => e2⟩), ⟨hm.box.keep hf2 (fun e => hm.ne.2.1 e), hm.last.keep hf2 (fun e => hm.ne.2.2 e), (hm.next.set 0 _).set 1 _, hlm, hlm, hm.ne⟩, hbw.trans (hf2.below hbw.size fun k e => by have e : k = B.bn := e; omega)⟩
theorem opened_one {n : Nat} (h2 : 2 ≤ n) (hn : n < 20) (s r : Nat) : (Pr.opened 20 s r).l[n]? = some 1 := by
  obtain ⟨m, rfl⟩ : ∃ m, n = m + 2 := ⟨n - 2, by omega⟩
  show (List.replicate 18 1)[m]? = some 1
  rw [List.getElem?_replicate, if_pos (by omega)]
theorem good_of {L : List Sec} {N r : Nat} {f : Txt} (h : Lost L N r f) : Good (Dk.fresh L) f := fun n t hn => by
  obtain ⟨_, _, k3, k4⟩ := h.2.2 n t hn
  exact ⟨k3, k4⟩
end Go.Proofs.Ythlmjnlakenmoaa.pcrash

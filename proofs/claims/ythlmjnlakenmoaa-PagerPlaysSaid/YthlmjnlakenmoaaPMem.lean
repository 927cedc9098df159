/-
  A pager in memory, over a disk; what is asked of it and changes nothing.
-/
import Derived.Test.YthlmjnlakenmoaaSet
import Derived.Test.YthlmjnlakenmoaaDCall
import Derived.Test.YthlmjnlakenmoaaPMath
namespace Go.Proofs.Ythlmjnlakenmoaa
open Go.RowKit Go.Maps
set_option maxRecDepth 100000

/-! ### what it is -/
namespace Pr
/-- is the page i of a kind? (0 free, 1 used, 2 taken, 3 taken and written, 4 dropped) -/
def stp (q : Nat → Bool) (l : List Nat) (i : Nat) : Bool := match l[i]? with | some s => q s | none => false
def isU (s : Nat) : Bool := s == 1 || s == 4
def isT (s : Nat) : Bool := s == 2 || s == 3
def isB (s : Nat) : Bool := s == 2
def isD (s : Nat) : Bool := s == 4
structure Pt where
  l : List Nat
  seq : Nat
  root : Nat
structure Pt.Ok (p : Pt) : Prop where
  some_ : 3 ≤ p.l.length
  most : p.l.length ≤ 16384
  two : ∀ i, i < 2 → p.l[i]? = some 0
  small : ∀ s ∈ p.l, s ≤ 4
  seq : p.seq ≤ 4611686018427387904
  root : p.root = 0 ∨ 2 ≤ p.root ∧ p.root < p.l.length
theorem stp_lt {q : Nat → Bool} {l : List Nat} {i : Nat} (h : stp q l i = true) : i < l.length := by
  unfold stp at h
  split at h
  · rename_i s hs
    exact (List.getElem?_eq_some_iff.1 hs).1
  · cases h
theorem stp_at {q : Nat → Bool} {l : List Nat} {i : Nat} (h : i < l.length) : stp q l i = q l[i] := by
  unfold stp
  rw [List.getElem?_eq_getElem h]
theorem stp_set {q : Nat → Bool} {l : List Nat} {i s : Nat} (h : i < l.length) (j : Nat) : stp q (l.set i s) j = if j = i then q s else stp q l j := by
  unfold stp
  by_cases hj : j = i
  · subst hj
    rw [List.getElem?_set_self h, if_pos rfl]
  · rw [List.getElem?_set_ne (fun e => hj e.symm), if_neg hj]
end Pr

def pagerCells (db : Nat) (p : Pr.Pt) (U T B D low : Nat) : Array Value :=
  #[.pointer (some ⟨db, 0, none⟩), .int .i64 (p.seq : Int), .int .i64 (p.root : Int), .map (some U), .map (some T), .map (some B), .map (some D), .int .i64 (low : Int)]
structure PLies (w : World) (b db U T B D low : Nat) (p : Pr.Pt) : Prop where
  ok : p.Ok
  box : Has w b 83 (pagerCells db p U T B D low)
  used : SetAt w U p.l.length (Pr.stp Pr.isU p.l)
  taken : SetAt w T p.l.length (Pr.stp Pr.isT p.l)
  blank : SetAt w B p.l.length (Pr.stp Pr.isB p.l)
  dropped : SetAt w D p.l.length (Pr.stp Pr.isD p.l)
  ne : (U ≠ T ∧ U ≠ B ∧ U ≠ D) ∧ (T ≠ B ∧ T ≠ D) ∧ B ≠ D
  low2 : 2 ≤ low
  lowN : low ≤ p.l.length
  nofree : ∀ i, 2 ≤ i → i < low → p.l[i]? ≠ some 0
def pS (b U T B D : Nat) : Nat → Prop := fun k => k = b ∨ k = U ∨ k = T ∨ k = B ∨ k = D
/-- a pager in block b, over the disk in block db; S: the blocks that they own, R: those that the disk reads besides -/
structure Over (w : World) (S Sd R : Nat → Prop) (b db U T B D low : Nat) (p : Pr.Pt) (d : Dk.St) : Prop where
  lies : PLies w b db U T B D low p
  disk : DiskAt w Sd R db d
  own : ∀ k, S k ↔ Sd k ∨ pS b U T B D k
  apart : ∀ k, pS b U T B D k → ¬ Sd k ∧ ¬ R k
  len : p.l.length = d.lasts.length / 4
def PagerAt (w : World) (S R : Nat → Prop) (b db : Nat) (p : Pr.Pt) (d : Dk.St) : Prop := ∃ Sd U T B D low, Over w S Sd R b db U T B D low p d

theorem PLies.keep {w w' : World} {S : Nat → Prop} {b db U T B D low : Nat} {p : Pr.Pt} (h : PLies w b db U T B D low p) (f : Fr S w w') (hs : ∀ k, pS b U T B D k → ¬ S k) : PLies w' b db U T B D low p :=
  ⟨h.ok, h.box.keep f (hs _ (.inl rfl)), h.used.keep f (hs _ (.inr (.inl rfl))), h.taken.keep f (hs _ (.inr (.inr (.inl rfl)))), h.blank.keep f (hs _ (.inr (.inr (.inr (.inl rfl))))), h.dropped.keep f (hs _ (.inr (.inr (.inr (.inr rfl))))), h.ne, h.low2, h.lowN, h.nofree⟩
theorem PLies.lt {w : World} {b db U T B D low : Nat} {p : Pr.Pt} (h : PLies w b db U T B D low p) (k : Nat) (hk : pS b U T B D k) : k < w.heap.size := by
  rcases hk with rfl | rfl | rfl | rfl | rfl
  · exact h.box.lt
  · exact h.used.lt
  · exact h.taken.lt
  · exact h.blank.lt
  · exact h.dropped.lt
theorem PLies.bne {w : World} {b db U T B D low : Nat} {p : Pr.Pt} (h : PLies w b db U T B D low p) : b ≠ U ∧ b ≠ T ∧ b ≠ B ∧ b ≠ D := ⟨h.box.ne_map h.used, h.box.ne_map h.taken, h.box.ne_map h.blank, h.box.ne_map h.dropped⟩
theorem Over.keep {w w' : World} {S Sd R F : Nat → Prop} {b db U T B D low : Nat} {p : Pr.Pt} {d : Dk.St} (h : Over w S Sd R b db U T B D low p d) (f : Fr F w w') (hs : ∀ k, F k → ¬ S k ∧ ¬ R k) : Over w' S Sd R b db U T B D low p d :=
  ⟨h.lies.keep f (fun k hk e => (hs k e).1 ((h.own k).2 (.inr hk))), h.disk.keep f (fun k hk => ⟨fun e => (hs k hk).1 ((h.own k).2 (.inl e)), (hs k hk).2⟩), h.own, h.apart, h.len⟩
theorem Over.below {w w' : World} {S Sd R : Nat → Prop} {b db U T B D low : Nat} {p : Pr.Pt} {d : Dk.St} (h : Over w S Sd R b db U T B D low p d) (hb : Below w.heap.size w w') : Over w' S Sd R b db U T B D low p d :=
  h.keep (F := noB) (Fr.of_below hb noB) (fun _ e => e.elim)
theorem Over.lt {w : World} {S Sd R : Nat → Prop} {b db U T B D low : Nat} {p : Pr.Pt} {d : Dk.St} (h : Over w S Sd R b db U T B D low p d) (k : Nat) (hk : S k) : k < w.heap.size := by
  rcases (h.own k).1 hk with e | e
  · exact h.disk.lt k e
  · exact h.lies.lt k e
theorem PagerAt.keep {w w' : World} {S R F : Nat → Prop} {b db : Nat} {p : Pr.Pt} {d : Dk.St} (h : PagerAt w S R b db p d) (f : Fr F w w') (hs : ∀ k, F k → ¬ S k ∧ ¬ R k) : PagerAt w' S R b db p d := by
  obtain ⟨Sd, U, T, B, D, low, h⟩ := h
  exact ⟨Sd, U, T, B, D, low, h.keep f hs⟩
theorem PagerAt.below {w w' : World} {S R : Nat → Prop} {b db : Nat} {p : Pr.Pt} {d : Dk.St} (h : PagerAt w S R b db p d) (hb : Below w.heap.size w w') : PagerAt w' S R b db p d :=
  h.keep (F := noB) (Fr.of_below hb noB) (fun _ e => e.elim)
theorem PagerAt.lt {w : World} {S R : Nat → Prop} {b db : Nat} {p : Pr.Pt} {d : Dk.St} (h : PagerAt w S R b db p d) (k : Nat) (hk : S k) : k < w.heap.size := by
  obtain ⟨Sd, U, T, B, D, low, h⟩ := h
  exact h.lt k hk

/-! ### the cells -/
structure PCells (w : World) (b db : Nat) (seq root : Nat) (U T B D low : Nat) : Prop where
  c0 : w.cell? ⟨b, 0, none⟩ = some (.pointer (some ⟨db, 0, none⟩))
  c1 : w.cell? ⟨b, 1, none⟩ = some (.int .i64 (seq : Int))
  c2 : w.cell? ⟨b, 2, none⟩ = some (.int .i64 (root : Int))
  c3 : w.cell? ⟨b, 3, none⟩ = some (.map (some U))
  c4 : w.cell? ⟨b, 4, none⟩ = some (.map (some T))
  c5 : w.cell? ⟨b, 5, none⟩ = some (.map (some B))
  c6 : w.cell? ⟨b, 6, none⟩ = some (.map (some D))
  c7 : w.cell? ⟨b, 7, none⟩ = some (.int .i64 (low : Int))
  free : ∀ i, w.frozen? ⟨b, i, none⟩ = false
theorem PLies.cells {w : World} {b db U T B D low : Nat} {p : Pr.Pt} (h : PLies w b db U T B D low p) : PCells w b db p.seq p.root U T B D low :=
  ⟨h.box.cell 0, h.box.cell 1, h.box.cell 2, h.box.cell 3, h.box.cell 4, h.box.cell 5, h.box.cell 6, h.box.cell 7, h.box.free⟩
theorem disk_cells {w : World} {Sd R : Nat → Prop} {db : Nat} {d : Dk.St} (h : DiskAt w Sd R db d) : (∃ a cap, w.cell? ⟨db, 0, none⟩ = some (.slice a d.lasts.length cap)) ∧ w.cell? ⟨db, 4, none⟩ = some (.bool d.dead) := by
  obtain ⟨L, cap, wv, M, kv, h⟩ := h
  exact ⟨⟨_, _, h.cells.c0⟩, h.cells.c4⟩

/-! ### what is asked -/
theorem ppages_nil (w : World) : Calls Try.prog 25 #[.pointer none] w fun e w' => e = .returned (.int .i64 0) ∧ w = w' := by
  go_enter Try.func25, Try.ntmps25
  go_wp2
  go_ret
  exact ⟨rfl, rfl⟩
theorem ppages_any (w : World) (b db n : Nat) (hn : n ≤ 65536) (hp : w.cell? ⟨b, 0, none⟩ = some (.pointer (some ⟨db, 0, none⟩))) (hd : ∃ a cap, w.cell? ⟨db, 0, none⟩ = some (.slice a n cap)) :
    Calls Try.prog 25 #[.pointer (some ⟨b, 0, none⟩)] w fun e w' => e = .returned (.int .i64 ((n / 4 : Nat) : Int)) ∧ w = w' := by
  obtain ⟨a, cap, hd⟩ := hd
  have hl := len_any w db a n cap hd
  have HL := Lib.hid hl
  have h4 : (n : Int) / 4 ≤ 16384 := by omega
  have h5 : (0 : Int) ≤ (n : Int) / 4 := by omega
  clear hl hd
  go_enter Try.func25, Try.ntmps25
  go_wp2_with fail
  refine HL.out.mono ?_
  rintro e w' ⟨rfl, rfl⟩
  go_wp2_with fail
  go_ret
  exact ⟨ret_int (by omega), rfl⟩
theorem prefuse_nil (w : World) : Calls Try.prog 42 #[.pointer none] w fun e w' => e = .returned (.int .i64 2) ∧ w = w' := by
  go_enter Try.func42, Try.ntmps42
  go_wp2
  go_ret
  exact ⟨rfl, rfl⟩
theorem prefuse_any (w : World) (b db : Nat) (x : Bool) (hp : w.cell? ⟨b, 0, none⟩ = some (.pointer (some ⟨db, 0, none⟩))) (hd : w.cell? ⟨db, 4, none⟩ = some (.bool x)) :
    Calls Try.prog 42 #[.pointer (some ⟨b, 0, none⟩)] w fun e w' => e = .returned (.int .i64 (if x then 20 else 0)) ∧ w = w' := by
  have hl := dead_any w db x hd
  have HL := Lib.hid hl
  clear hl hd
  cases x
  all_goals
    go_enter Try.func42, Try.ntmps42
    go_wp2_with fail
    refine HL.out.mono ?_
    rintro e w' ⟨rfl, rfl⟩
    go_wp2_with fail
    go_ret
    exact ⟨rfl, rfl⟩
theorem phas_page (w : World) (b db n : Nat) (hn : n ≤ 65536) (i : Int) (hp : w.cell? ⟨b, 0, none⟩ = some (.pointer (some ⟨db, 0, none⟩))) (hd : ∃ a cap, w.cell? ⟨db, 0, none⟩ = some (.slice a n cap)) :
    Calls Try.prog 43 #[.pointer (some ⟨b, 0, none⟩), .int .i64 i] w fun e w' => e = .returned (.bool (decide (2 ≤ i ∧ i < ((n / 4 : Nat) : Int)))) ∧ w = w' := by
  have hl := ppages_any w b db n hn hp hd
  have HL := Lib.hid hl
  clear hl hp hd hn
  generalize n / 4 = m at *
  by_cases h2 : 2 ≤ i
  · by_cases h1 : i < (m : Int)
    all_goals
      go_enter Try.func43, Try.ntmps43
      go_wp2_with fail
      refine HL.out.mono ?_
      rintro e w' ⟨rfl, rfl⟩
      go_wp2_with fail
      go_ret
      exact ⟨ret_bool (by simp <;> omega), rfl⟩
  · have h1 : decide (2 ≤ i) = false := by simpa using h2
    go_enter Try.func43, Try.ntmps43
    go_wp2_with fail
    go_ret
    exact ⟨ret_bool (by simp <;> omega), rfl⟩
end Go.Proofs.Ythlmjnlakenmoaa

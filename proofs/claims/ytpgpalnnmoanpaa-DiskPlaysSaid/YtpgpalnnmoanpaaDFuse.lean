/-
  DiskFuses, plain mathematics: a disk with a fuse goes as one without until the fuse has burnt down; then it crashes by the plan.
-/
import Derived.Test.YtpgpalnnmoanpaaDArgs
namespace Go.Proofs.Ytpgpalnnmoanpaa
open Dk Go.RowKit Go.Maps

theorem fuse_wait (x : St) (j : Nat) (p : Pl) (i : Nat) (s : Sec) : (x.fuse j p).wait i s = (x.wait i s).fuse j p := rfl
theorem fuse_due0 (x : St) (p : Pl) : (x.fuse 0 p).due = true := rfl
theorem fuse_dueS (x : St) (j : Nat) (p : Pl) : (x.fuse (j + 1) p).due = false := by simp [St.fuse, St.due]
theorem fuse_tick (x : St) (j : Nat) (p : Pl) : (x.fuse (j + 1) p).tick = x.tick.fuse j p := by simp [St.fuse, St.tick]
theorem free_due {x : St} (h : x.lit = false) : x.due = false := by simp [St.due, h]
theorem fuse_write (x : St) (h : x.lit = false) (j : Nat) (p : Pl) (i : Nat) (s : Sec) : (x.fuse (j + 1) p).write i s = (x.write i s).fuse j p := by
  have e : (x.wait i s).due = false := free_due h
  simp only [St.write, St.step, fuse_wait, fuse_dueS, e, if_neg (Bool.false_ne_true), fuse_tick]
theorem fuse_flush (x : St) (h : x.lit = false) (j : Nat) (p : Pl) : (x.fuse (j + 1) p).flush = x.flush.fuse j p := by
  have e : x.due = false := free_due h
  simp only [St.flush, fuse_dueS, e, if_neg (Bool.false_ne_true), fuse_tick]
  rfl
theorem free_write {x : St} (h : x.lit = false) (i : Nat) (s : Sec) : x.write i s = (x.wait i s).tick := by
  have e : (x.wait i s).due = false := free_due h
  simp only [St.write, St.step, e, if_neg (Bool.false_ne_true)]
theorem free_flush {x : St} (h : x.lit = false) : x.flush = { x.tick with lasts := flushed x.waits x.lasts x.waits.length, waits := [] } := by
  simp only [St.flush, free_due h, if_neg (Bool.false_ne_true)]
/-- both disks say the same -/
structure Same (d x : St) : Prop where
  lasts : d.lasts = x.lasts
  waits : d.waits = x.waits
  dead : d.dead = x.dead
theorem same_fuse (x : St) (j : Nat) (p : Pl) : Same (x.fuse j p) x := ⟨rfl, rfl, rfl⟩
/-- a write at the moment -/
theorem same_write (x : St) (h : x.lit = false) (p : Pl) (i : Nat) (s : Sec) : Same ((x.fuse 0 p).write i s) ((x.write i s).crash p) := by
  rw [free_write h]
  exact ⟨rfl, rfl, rfl⟩
theorem same_flush (x : St) (p : Pl) : Same (x.fuse 0 p).flush (x.crash p) := ⟨rfl, rfl, rfl⟩
theorem write_err0 (x : St) (p : Pl) (i : Nat) (s : Sec) : ((x.fuse 0 p).wait i s).stepErr = 20 := rfl
theorem write_errS (x : St) (j : Nat) (p : Pl) (i : Nat) (s : Sec) : ((x.fuse (j + 1) p).wait i s).stepErr = 0 := by
  rw [fuse_wait, St.stepErr, fuse_dueS]; rfl
theorem free_err {x : St} (h : x.lit = false) : x.stepErr = 0 := by rw [St.stepErr, free_due h]; rfl
theorem flush_err0 (x : St) (p : Pl) : (x.fuse 0 p).stepErr = 20 := rfl
theorem flush_errS (x : St) (j : Nat) (p : Pl) : (x.fuse (j + 1) p).stepErr = 0 := by rw [St.stepErr, fuse_dueS]; rfl
theorem same_read {d x : St} (h : Same d x) (i : Nat) : d.read i = x.read i := by simp only [St.read, h.lasts, h.waits]

/-- the disk without a fuse, as it goes: behind n calls, at most k writes wait -/
structure Free (x : St) (n k : Nat) : Prop where
  len : x.lasts.length = 7
  dead : x.dead = false
  lit : x.lit = false
  done : x.done = n
  few : x.waits.length ≤ k
  left : x.left ≤ 9223372036854775807
theorem Free.write {x : St} {n k : Nat} (h : Free x n k) (i : Nat) (s : Sec) : Free (x.write i s) (n + 1) (k + 1) := by
  rw [free_write h.lit]
  refine ⟨h.len, h.dead, h.lit, ?_, ?_, ?_⟩
  · show x.done + 1 = n + 1
    rw [h.done]
  · have := h.few
    show (x.waits ++ [_]).length ≤ k + 1
    simp only [List.length_append, List.length_singleton]
    omega
  · show (if (x.wait i s).lit then x.left - 1 else x.left) ≤ 9223372036854775807
    have := h.left
    split <;> omega
theorem Free.flush {x : St} {n k : Nat} (h : Free x n k) : Free x.flush (n + 1) k := by
  rw [free_flush h.lit]
  refine ⟨?_, h.dead, h.lit, ?_, Nat.zero_le _, ?_⟩
  · show (flushed x.waits x.lasts x.waits.length).length = 7
    rw [flushed_len]; exact h.len
  · show x.done + 1 = n + 1
    rw [h.done]
  · show (if x.lit then x.left - 1 else x.left) ≤ 9223372036854775807
    have := h.left
    split <;> omega
theorem Free.made : Free (made 7) 0 0 := ⟨List.length_replicate, rfl, rfl, rfl, Nat.le_refl _, Nat.zero_le _⟩
/-- how the two disks end -/
structure Ends (d x : St) : Prop where
  same : Same d x
  len : x.lasts.length = 7
theorem Free.ends {x : St} {n k : Nat} (h : Free x n k) (j : Nat) (p : Pl) : Ends (x.fuse j p) x := ⟨same_fuse x j p, h.len⟩
theorem Free.ends_write {x : St} {n k : Nat} (h : Free x n k) (p : Pl) (i : Nat) (s : Sec) : Ends ((x.fuse 0 p).write i s) ((x.write i s).crash p) :=
  ⟨same_write x h.lit p i s, by simp only [St.crash, crashed_len]; exact (h.write i s).len⟩
theorem Free.ends_flush {x : St} {n k : Nat} (h : Free x n k) (p : Pl) : Ends (x.fuse 0 p).flush (x.crash p) :=
  ⟨same_flush x p, by simp only [St.crash, crashed_len]; exact h.len⟩

/-- two disks and a plan in memory -/
structure FMem (W : World) (b bx : Nat) (pv : Value) (p : Pl) (d x : St) (S R X : Nat → Prop) (wr : World) : Prop where
  sd : Sys W wr S R b d
  sx : Sys W wr X noB bx x
  plan : Has wr W.heap.size 46 #[pv, .int .i64 p.torn, .int .i64 p.cut]
  apart : ∀ k, X k → ¬ S k ∧ ¬ R k
  sP : ¬ S W.heap.size
  sX : ¬ X W.heap.size
section
variable {W : World} {b bx : Nat} {pv : Value} {p : Pl} {d x : St} {S R X : Nat → Prop} {wr w' : World}
theorem FMem.next (h : FMem W b bx pv p d x S R X wr) (hb : Below wr.heap.size wr w') : FMem W b bx pv p d x S R X w' :=
  ⟨h.sd.next hb, h.sx.next hb, h.plan.keep (Fr.of_below hb noB) (fun e => e), h.apart, h.sP, h.sX⟩
theorem FMem.drew (h : FMem W b bx pv p d x S R X wr) : FMem W b bx pv p d x S R X wr.drew := h.next (Below.refl _ _).drew
theorem FMem.drewN (h : FMem W b bx pv p d x S R X wr) (n : Nat) : FMem W b bx pv p d x S R X (wr.drewN n) := h.next ⟨rfl, rfl, rfl, Nat.le_refl _, fun _ _ => rfl⟩
theorem FMem.arg (h : FMem W b bx pv p d x S R X wr) {a : Addr} {u : Value} (hc : W.cell? a = some u) : wr.cell? a = some u := (h.sd.below.cell (block_lt_of_cell hc)).trans hc
theorem FMem.keep (h : FMem W b bx pv p d x S R X wr) {l : List Bool} {v : Value} (hp : KeepAt W (fun k => k < W.heap.size) v l) : KeepAt wr (fun k => k < W.heap.size) v l :=
  hp.keep (S := fun k => W.heap.size ≤ k) ⟨h.sd.below.os, h.sd.below.tape, h.sd.below.output, h.sd.below.size, fun k _ hk => h.sd.below.block k (by omega)⟩ (fun k hk h => by omega)
/-- the disk with the fuse goes on -/
theorem FMem.goesD {d' : St} (h : FMem W b bx pv p d x S R X wr) (g : Goes S R b d' wr w') : ∃ S', FMem W b bx pv p d' x S' R X w' := by
  obtain ⟨S', y, f, hs⟩ := h.sd.goes g
  have hsX : ∀ k, X k → k < wr.heap.size := h.sx.disk.lt
  refine ⟨S', y, ⟨h.sx.disk.keep f (fun k hk => ⟨fun e => (h.apart k e).1 hk, fun e => e⟩), h.sx.news, h.sx.newr, y.below⟩, h.plan.keep f h.sP, fun k hk => ⟨fun e => ?_, (h.apart k hk).2⟩, fun e => ?_, h.sX⟩
  · rcases hs k e with e | e
    · exact (h.apart k hk).1 e
    · have := hsX k hk; omega
  · rcases hs _ e with e | e
    · exact h.sP e
    · have := h.plan.lt; omega
/-- the other disk goes on -/
theorem FMem.goesX {x' : St} (h : FMem W b bx pv p d x S R X wr) (g : Goes X noB bx x' wr w') : ∃ X', FMem W b bx pv p d x' S R X' w' := by
  obtain ⟨X', y, f, hs⟩ := h.sx.goes g
  have hsS : ∀ k, S k → k < wr.heap.size := h.sd.disk.lt
  have hsR : ∀ k, R k → k < wr.heap.size := by
    obtain ⟨L, cap, wv, M, kv, hl⟩ := h.sd.disk
    exact hl.low
  refine ⟨X', ⟨h.sd.disk.keep f (fun k hk => h.apart k hk), h.sd.news, h.sd.newr, y.below⟩, y, h.plan.keep f h.sX, fun k hk => ?_, h.sP, fun e => ?_⟩
  · rcases hs k hk with e | e
    · exact h.apart k e
    · exact ⟨fun e' => by have := hsS k e'; omega, fun e' => by have := hsR k e'; omega⟩
  · rcases hs _ e with e | e
    · exact h.sX e
    · have := h.plan.lt; omega
/-- what is none of theirs has turned -/
theorem FMem.frame {T : Nat → Prop} (h : FMem W b bx pv p d x S R X wr) (f : Fr T wr w') (hT : ∀ k, T k → ¬ S k ∧ ¬ R k ∧ ¬ X k ∧ k ≠ W.heap.size ∧ W.heap.size ≤ k) : FMem W b bx pv p d x S R X w' :=
  ⟨⟨h.sd.disk.keep f (fun k hk => ⟨(hT k hk).1, (hT k hk).2.1⟩), h.sd.news, h.sd.newr, h.sd.below.trans (f.below h.sd.size (fun k hk => (hT k hk).2.2.2.2))⟩,
    ⟨h.sx.disk.keep f (fun k hk => ⟨(hT k hk).2.2.1, fun e => e⟩), h.sx.news, h.sx.newr, h.sx.below.trans (f.below h.sx.size (fun k hk => (hT k hk).2.2.2.2))⟩, h.plan.keep f (fun e => (hT _ e).2.2.2.1 rfl), h.apart, h.sP, h.sX⟩
theorem disk_own {w : World} (h : DiskAt w S R b d) : S b := by
  obtain ⟨L, cap, wv, M, kv, hl⟩ := h
  exact (hl.own b).2 (.inl rfl)
/-- the fuse is laid -/
theorem FMem.fused {d' : St} {R' : Nat → Prop} (h : FMem W b bx pv p d x S R X wr) (hd : DiskAt w' S R' b d') (f : Fr (oneB b) wr w') (hr : ∀ k, R' k → wr.heap.size ≤ k) : FMem W b bx pv p d' x S R' X w' := by
  have hb := disk_own h.sd.disk
  have hB := h.sd.below.trans (f.below h.sd.size (fun k hk => by have hk : k = b := hk; rw [hk]; exact h.sd.news b hb))
  have hsX : ∀ k, X k → k < wr.heap.size := h.sx.disk.lt
  exact ⟨⟨hd, h.sd.news, fun k hk => Nat.le_trans h.sd.size (hr k hk), hB⟩,
    ⟨h.sx.disk.keep f (fun k hk => ⟨fun e => (h.apart k e).1 (by have hk : k = b := hk; rw [hk]; exact hb), fun e => e⟩), h.sx.news, h.sx.newr, hB⟩,
    h.plan.keep f (fun e => h.sP (by have e : W.heap.size = b := e; rw [e]; exact hb)), fun k hk => ⟨(h.apart k hk).1, fun e => by have := hr k e; have := hsX k hk; omega⟩, h.sP, h.sX⟩
/-- both are opened anew -/
theorem FMem.anew (h : FMem W b bx pv p d x S R X wr) {w6 w7 : World} {b6 b7 : Nat} {d6 x7 : St} {S6 X7 : Nat → Prop} (hd6 : DiskAt w6 S6 noB b6 d6) (hb6 : Below wr.heap.size wr w6) (hs6 : ∀ k, S6 k → wr.heap.size ≤ k)
    (hd7 : DiskAt w7 X7 noB b7 x7) (hb7 : Below w6.heap.size w6 w7) (hs7 : ∀ k, X7 k → w6.heap.size ≤ k) : FMem W b6 b7 pv p d6 x7 S6 noB X7 w7 := by
  have y6 := Sys.made h.sd.below hd6 hb6 hs6
  have p6 := h.plan.keep (Fr.of_below hb6 noB) (fun e => e)
  have hl := h.plan.lt
  have hz := hb6.size
  exact ⟨y6.next hb7, Sys.made y6.below hd7 hb7 hs7, p6.keep (Fr.of_below hb7 noB) (fun e => e), fun k hk => ⟨fun e => by have := hs7 k hk; have := hd6.lt k e; omega, fun e => e⟩,
    fun e => by have := hs6 _ e; omega, fun e => by have := hs7 _ e; omega⟩
end
theorem Ends.fresh {d x : St} (h : Ends d x) : Ends (fresh d.lasts) (fresh x.lasts) := ⟨⟨h.same.lasts, rfl, rfl⟩, h.len⟩
end Go.Proofs.Ytpgpalnnmoanpaa

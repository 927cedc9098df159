/-
  A disk of one's own, made since some world; its calls at such a disk.
-/
import Derived.Test.YtjbiaomkbgfgfaaDCall
namespace Go.Proofs.Ytjbiaomkbgfgfaa
open Go.RowKit Go.Maps
set_option maxRecDepth 100000

/-- a disk that was made since W0; nothing that was there then has turned -/
structure Sys (W0 w : World) (S R : Nat → Prop) (b : Nat) (d : Dk.St) : Prop where
  disk : DiskAt w S R b d
  news : ∀ k, S k → W0.heap.size ≤ k
  newr : ∀ k, R k → W0.heap.size ≤ k
  below : Below W0.heap.size W0 w
theorem Sys.size {W0 w : World} {S R : Nat → Prop} {b : Nat} {d : Dk.St} (h : Sys W0 w S R b d) : W0.heap.size ≤ w.heap.size := h.below.size
theorem Sys.goes {W0 w w' : World} {S R : Nat → Prop} {b : Nat} {d d' : Dk.St} (h : Sys W0 w S R b d) (g : Goes S R b d' w w') : ∃ S', Sys W0 w' S' R b d' ∧ Fr S w w' ∧ ∀ k, S' k → S k ∨ w.heap.size ≤ k := by
  obtain ⟨S', hd, hf, hs⟩ := g
  have hsz := h.size
  refine ⟨S', ⟨hd, fun k hk => ?_, h.newr, h.below.trans (hf.below hsz h.news)⟩, hf, hs⟩
  rcases hs k hk with e | e
  · exact h.news k e
  · omega
theorem Sys.next {W0 w w' : World} {S R : Nat → Prop} {b : Nat} {d : Dk.St} (h : Sys W0 w S R b d) (hb : Below w.heap.size w w') : Sys W0 w' S R b d :=
  ⟨h.disk.keep (T := noB) (Fr.of_below hb noB) (fun _ h => h.elim), h.news, h.newr, h.below.trans (hb.mono h.size)⟩
theorem Sys.made {W0 w w' : World} (hW : Below W0.heap.size W0 w) {b : Nat} {S : Nat → Prop} {d : Dk.St} (hd : DiskAt w' S noB b d) (hb : Below w.heap.size w w') (hs : ∀ k, S k → w.heap.size ≤ k) : Sys W0 w' S noB b d :=
  ⟨hd, fun k hk => Nat.le_trans hW.size (hs k hk), fun _ h => h.elim, hW.trans (hb.mono hW.size)⟩
/-- the source of a write is no block of the disk -/
theorem Sys.fresh {W0 w : World} {S R : Nat → Prop} {b : Nat} {d : Dk.St} (h : Sys W0 w S R b d) : ¬ S w.heap.size := fun hk => absurd (h.disk.lt _ hk) (Nat.lt_irrefl _)

theorem write_at (w : World) (S R : Nat → Prop) (b : Nat) (d : Dk.St) (h : DiskAt w S R b d) (hdead : d.dead = false) (hm : d.waits.length < 1000000) (hdone : d.done < 4611686018427387904) (hleft : d.left ≤ 9223372036854775807)
    (i : Nat) (hi : i < d.lasts.length) (g c : Nat) (t : TypeId) (s : Dk.Sec) (hs : s.length = 128) (hsrc : Has w g t (Dk.secCells s).toArray) (hgS : ¬ S g) :
    Calls Try.prog 67 #[.pointer (some ⟨b, 0, none⟩), .int .i64 i, .slice (some ⟨g, 0, none⟩) 128 c] w fun e w' => e = .returned (.int .i64 (d.wait i s).stepErr) ∧ Goes S R b (d.write i s) w w' := by
  obtain ⟨L, cap, wv, M, kv, h⟩ := h
  exact write_any w S R b L cap wv M kv d h hdead hm hdone hleft i hi g 0 c s hs (fun j v hj => by rw [Nat.zero_add, hsrc.cell, List.getElem?_toArray]; exact hj) hgS
theorem flush_at (w : World) (S R : Nat → Prop) (b : Nat) (d : Dk.St) (h : DiskAt w S R b d) (hdead : d.dead = false) (hm : d.waits.length ≤ 1000000) (hdone : d.done < 4611686018427387904) (hleft : d.left ≤ 9223372036854775807) :
    Calls Try.prog 41 #[.pointer (some ⟨b, 0, none⟩)] w fun e w' => e = .returned (.int .i64 d.stepErr) ∧ Goes S R b d.flush w w' := by
  obtain ⟨L, cap, wv, M, kv, h⟩ := h
  exact flush_any w S R b L cap wv M kv d h hdead hm hdone hleft
theorem read_at (w : World) (S R : Nat → Prop) (b : Nat) (d : Dk.St) (h : DiskAt w S R b d) (hdead : d.dead = false) (i : Nat) (hi : i < d.lasts.length) :
    Calls Try.prog 71 #[.pointer (some ⟨b, 0, none⟩), .int .i64 i] w fun e w' => e = .returned (.tuple #[.slice (some ⟨w.heap.size, 0, none⟩) 128 128, .int .i64 0]) ∧ Has w' w.heap.size 108 (Dk.secCells (d.read i)).toArray ∧ Below w.heap.size w w' := by
  obtain ⟨L, cap, wv, M, kv, h⟩ := h
  refine (read_lies w S R b L cap wv M kv d h hdead i hi).mono ?_
  rintro e w' ⟨rfl, rfl⟩
  exact ⟨rfl, Has.of_alloc _ _ _, (Below.refl _ _).alloc (Nat.le_refl _) _⟩
end Go.Proofs.Ytjbiaomkbgfgfaa

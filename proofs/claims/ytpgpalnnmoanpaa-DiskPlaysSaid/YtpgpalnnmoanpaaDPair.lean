/-
  The two disks side by side, and what stays of them when one goes on.
-/
import Derived.Test.YtpgpalnnmoanpaaDTwo
namespace Go.Proofs.Ytpgpalnnmoanpaa
open Go.RowKit Go.Maps

structure Two (B : Nat) (w : World) (b x : Nat) (d e : Dk.St) (S R X I : Nat → Prop) : Prop where
  disk : DiskAt w S R b d
  ref : RefAt w X I x e
  apart : ∀ k, S k → ¬ X k ∧ ¬ I k
  apartR : ∀ k, R k → ¬ X k
  news : ∀ k, (S k ∨ R k ∨ X k ∨ I k) → B ≤ k
  size : B ≤ w.heap.size
section
variable {B : Nat} {w w' : World} {b x : Nat} {d e d' e' : Dk.St} {S R X I : Nat → Prop}
theorem Two.next (h : Two B w b x d e S R X I) (hb : Below w.heap.size w w') : Two B w' b x d e S R X I :=
  ⟨h.disk.keep (Fr.of_below hb noB) (fun _ e => e.elim), h.ref.keep (Fr.of_below hb noB) (fun _ e => e.elim), h.apart, h.apartR, h.news, Nat.le_trans h.size hb.size⟩
theorem Two.frame {T : Nat → Prop} (h : Two B w b x d e S R X I) (f : Fr T w w') (hT : ∀ k, T k → ¬ S k ∧ ¬ R k ∧ ¬ X k ∧ ¬ I k) : Two B w' b x d e S R X I :=
  ⟨h.disk.keep f (fun k hk => ⟨(hT k hk).1, (hT k hk).2.1⟩), h.ref.keep f (fun k hk => (hT k hk).2.2), h.apart, h.apartR, h.news, Nat.le_trans h.size f.size⟩
/-- what is new in the world is none of theirs -/
theorem Two.far (h : Two B w b x d e S R X I) (k : Nat) (hk : w.heap.size ≤ k ∨ k < B) : ¬ S k ∧ ¬ R k ∧ ¬ X k ∧ ¬ I k := by
  refine ⟨fun q => ?_, fun q => ?_, fun q => ?_, fun q => ?_⟩
  · have := h.disk.lt k q; have := h.news k (.inl q); omega
  · have := h.disk.low k q; have := h.news k (.inr (.inl q)); omega
  · have := h.ref.lt k q; have := h.news k (.inr (.inr (.inl q))); omega
  · have := h.ref.low k q; have := h.news k (.inr (.inr (.inr q))); omega
theorem Two.goesD (h : Two B w b x d e S R X I) (g : Goes S R b d' w w') : ∃ S', Two B w' b x d' e S' R X I ∧ Fr S w w' := by
  obtain ⟨S', hd, hf, hs⟩ := g
  refine ⟨S', ⟨hd, h.ref.keep hf (fun k hk => ⟨fun q => (h.apart k hk).1 q, fun q => (h.apart k hk).2 q⟩), fun k hk => ?_, h.apartR, fun k hk => ?_, Nat.le_trans h.size hf.size⟩, hf⟩
  · rcases hs k hk with q | q
    · exact h.apart k q
    · exact ⟨(h.far k (.inl q)).2.2.1, (h.far k (.inl q)).2.2.2⟩
  · rcases hk with hk | hk
    · rcases hs k hk with q | q
      · exact h.news k (.inl q)
      · exact Nat.le_trans h.size q
    · exact h.news k (.inr hk)
theorem Two.goesX (h : Two B w b x d e S R X I) (g : RGoes X I x e' w w') : ∃ X' I', Two B w' b x d e' S R X' I' ∧ Fr X w w' := by
  obtain ⟨X', I', hd, hf, hs, hi⟩ := g
  refine ⟨X', I', ⟨h.disk.keep hf (fun k hk => ⟨fun q => (h.apart k q).1 hk, fun q => h.apartR k q hk⟩), hd, fun k hk => ⟨fun q => ?_, fun q => ?_⟩, fun k hk q => ?_, fun k hk => ?_, Nat.le_trans h.size hf.size⟩, hf⟩
  · rcases hs k q with q | q
    · exact (h.apart k hk).1 q
    · exact (h.far k (.inl q)).1 hk
  · rcases hi k q with q | q
    · exact (h.apart k hk).2 q
    · exact (h.far k (.inl q)).1 hk
  · rcases hs k q with q | q
    · exact h.apartR k hk q
    · exact (h.far k (.inl q)).2.1 hk
  · rcases hk with hk | hk | hk | hk
    · exact h.news k (.inl hk)
    · exact h.news k (.inr (.inl hk))
    · rcases hs k hk with q | q
      · exact h.news k (.inr (.inr (.inl q)))
      · exact Nat.le_trans h.size q
    · rcases hi k hk with q | q
      · exact h.news k (.inr (.inr (.inr q)))
      · exact Nat.le_trans h.size q
theorem Two.fused (h : Two B w b x d e S R X I) {R' : Nat → Prop} (hd : DiskAt w' S R' b d') (hf : Fr (oneB b) w w') (hr : ∀ j, R' j → R j ∨ w.heap.size ≤ j) : Two B w' b x d' e S R' X I := by
  have hb := disk_own h.disk
  refine ⟨hd, h.ref.keep hf (fun k hk => by have hk : k = b := hk; rw [hk]; exact h.apart b hb), h.apart, fun k hk => ?_, fun k hk => ?_, Nat.le_trans h.size hf.size⟩
  · rcases hr k hk with q | q
    · exact h.apartR k q
    · exact (h.far k (.inl q)).2.2.1
  · rcases hk with hk | hk | hk
    · exact h.news k (.inl hk)
    · rcases hr k hk with q | q
      · exact h.news k (.inr (.inl q))
      · exact Nat.le_trans h.size q
    · exact h.news k (.inr (.inr hk))
/-- both are made anew: the plan's list and the waits' bytes may be shared -/
theorem Two.anew (h : Two B w b x d e S R X I) {w1 w2 : World} {b1 x1 : Nat} {d1 e1 : Dk.St} {S1 R1 X1 I1 : Nat → Prop} (hd : DiskAt w1 S1 R1 b1 d1) (hb1 : Below w.heap.size w w1) (hs : ∀ k, S1 k → w.heap.size ≤ k) (hR : ∀ k, R1 k → R k ∨ w.heap.size ≤ k)
    (hx : RefAt w2 X1 I1 x1 e1) (hb2 : Below w1.heap.size w1 w2) (hxs : ∀ k, X1 k → w1.heap.size ≤ k) (hI : ∀ k, I1 k → I k ∨ w1.heap.size ≤ k) : Two B w2 b1 x1 d1 e1 S1 R1 X1 I1 := by
  have hz := hb1.size
  have hz2 := hb2.size
  have hB := h.size
  refine ⟨hd.keep (Fr.of_below hb2 noB) (fun _ q => q.elim), hx, fun k hk => ⟨fun q => ?_, fun q => ?_⟩, fun k hk q => ?_, fun k hk => ?_, by omega⟩
  · have := hd.lt k hk; have := hxs k q; omega
  · rcases hI k q with q | q
    · have := hs k hk; have := h.ref.low k q; omega
    · have := hd.lt k hk; omega
  · have := hd.low k hk; have := hxs k q; omega
  · rcases hk with hk | hk | hk | hk
    · have := hs k hk; omega
    · rcases hR k hk with q | q
      · exact h.news k (.inr (.inl q))
      · omega
    · have := hxs k hk; omega
    · rcases hI k hk with q | q
      · exact h.news k (.inr (.inr (.inr q)))
      · omega
end
end Go.Proofs.Ytpgpalnnmoanpaa

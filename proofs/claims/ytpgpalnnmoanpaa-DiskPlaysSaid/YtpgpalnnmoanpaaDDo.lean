/-
  The statement's do, a step done to both: what its kinds share.
-/
import Derived.Test.YtpgpalnnmoanpaaDPair
import Derived.OwnWalk
namespace Go.Proofs.Ytpgpalnnmoanpaa
open Go.RowKit Go.Maps

theorem KeepAt.take {w : World} {R : Nat → Prop} {Ak : Option Addr} {l : List Bool} {n c : Nat} (h : KeepAt w R (.slice Ak n c) l) (m : Nat) : KeepAt w R (.slice Ak (l.take m).length c) (l.take m) := by
  obtain ⟨A, c', e, h1, h2⟩ := h
  injection e with e1 e2 e3
  subst e1
  refine ⟨Ak, c, rfl, by rw [List.length_take]; omega, fun h0 => ?_⟩
  obtain ⟨ad, e, hr, hlt, hc⟩ := h2 (by rw [List.length_take] at h0; omega)
  refine ⟨ad, e, hr, hlt, fun j u hj => hc j u ?_⟩
  rw [List.getElem?_take] at hj
  split at hj
  · exact hj
  · cases hj
theorem wpList_append_bools' {ops : Array Oper} {rest : List Oper} {o : Oper} {a : Act} {w : World} {Q : Exit → Act → World → Prop} (hgd : o.guard = none) (s x : Operand) (ho : o.op = .call { callee := .builtin .append, args := #[s, x], argTypes := #[35, 35] })
    (E : Nat) (hs : a.eval s = .slice (some ⟨E, 0, none⟩) 0 0) (hE : Has w E 4 #[]) (R : Nat → Prop) (pv : Value) (l : List Bool) (hx : a.eval x = pv) (hk : KeepAt w R pv l)
    (h : ∀ (V cap : Nat) (w' : World), Hid (OwnB w' V l) → Hid (Fr (oneB E) w w') → Hid (V = E ∨ V = w.heap.size) → wpList Try.prog ops Q rest (a.put o.dst (.slice (some ⟨V, 0, none⟩) l.length cap)) w') : wpList Try.prog ops Q (o :: rest) a w :=
  wpList_plain hgd fun _ hK => wp_append_bools s x ho E hs hE R pv l hx hk fun V cap w' h1 h2 h3 => hK _ _ (h V cap w' (Lib.hid h1) (Lib.hid h2) (Lib.hid h3))
/-- a step makes little more -/
structure Grows (d d' : Dk.St) : Prop where
  waits : d'.waits.length ≤ d.waits.length + 1
  done : d'.done ≤ d.done + 1
  left : d.left ≤ 9223372036854775807 → d'.left ≤ 9223372036854775807
theorem Grows.refl (d : Dk.St) : Grows d d := ⟨by omega, by omega, fun h => h⟩
theorem grows_crash (d : Dk.St) (p : Dk.Pl) : Grows d (d.crash p) := ⟨by simp [Dk.St.crash], by simp [Dk.St.crash], fun _ => by simp [Dk.St.crash]⟩
theorem grows_f (d : Dk.St) : Grows d d.fTo := by
  unfold Dk.St.fTo
  split
  · exact .refl d
  · unfold Dk.St.flush
    split
    · exact grows_crash d _
    · refine ⟨by simp, by simp [Dk.St.tick], fun h => ?_⟩
      simp only [Dk.St.tick]
      split <;> omega
theorem tick_left (d : Dk.St) (h : d.left ≤ 9223372036854775807) : d.tick.left ≤ 9223372036854775807 := by
  simp only [Dk.St.tick]
  split <;> omega
theorem grows_w (d : Dk.St) (i : Int) (s : List UInt8) : Grows d (d.wTo i s) := by
  unfold Dk.St.wTo
  split
  · exact .refl d
  · split
    · unfold Dk.St.write Dk.St.step
      split
      · exact ⟨by simp [Dk.St.crash], by simp [Dk.St.crash, Dk.St.wait], fun _ => by simp [Dk.St.crash]⟩
      · exact ⟨by simp [Dk.St.tick, Dk.St.wait], by simp [Dk.St.tick, Dk.St.wait], fun h => tick_left (d.wait i.toNat s) h⟩
    · exact .refl d
theorem grows_c (d : Dk.St) (p : Dk.Pl) : Grows d (d.cTo p) := by
  unfold Dk.St.cTo
  split
  · exact .refl d
  · split
    · exact grows_crash d p
    · exact .refl d
theorem grows_u (d : Dk.St) (k : Int) (hk : k ≤ 9223372036854775807) (p : Dk.Pl) : Grows d (d.uTo k p) := by
  unfold Dk.St.uTo
  split
  · exact .refl d
  · split
    · exact ⟨by simp [Dk.St.fuse], by simp [Dk.St.fuse], fun _ => by simp [Dk.St.fuse]; omega⟩
    · exact .refl d
theorem grows_fresh (d : Dk.St) : Grows d (Dk.fresh d.lasts) := ⟨by simp [Dk.fresh], by simp [Dk.fresh], fun _ => by simp [Dk.fresh]⟩
theorem Two.belowD {B : Nat} {w w' : World} {b x : Nat} {d e : Dk.St} {S R X I : Nat → Prop} (h : Two B w b x d e S R X I) (f : Fr S w w') : Below B w w' := f.below h.size (fun k hk => h.news k (.inl hk))
theorem Two.belowX {B : Nat} {w w' : World} {b x : Nat} {d e : Dk.St} {S R X I : Nat → Prop} (h : Two B w b x d e S R X I) (f : Fr X w w') : Below B w w' := f.below h.size (fun k hk => h.news k (.inr (.inr (.inl hk))))
structure Small (d : Dk.St) : Prop where
  waits : d.waits.length ≤ 80
  done : d.done ≤ 1000
  left : d.left ≤ 9223372036854775807
theorem Small.few {d : Dk.St} (h : Small d) : Few d := ⟨by have := h.waits; omega, by have := h.done; omega, h.left⟩
theorem Small.grown {d d' : Dk.St} (h : Small d) (g : Grows d d') : Few d' := ⟨by have := h.waits; have := g.waits; omega, by have := h.done; have := g.done; omega, g.left h.left⟩
/-- one disk goes aside of two others -/
theorem aside {B : Nat} {w w' : World} {b b3 x4 : Nat} {d' d1 e1 : Dk.St} {S R S3 R3 X4 I4 : Nat → Prop} (h : Two B w b3 x4 d1 e1 S3 R3 X4 I4) (hsep : ∀ k, S k → B ≤ k ∧ ¬ S3 k ∧ ¬ R3 k ∧ ¬ X4 k ∧ ¬ I4 k) (g : Goes S R b d' w w') :
    ∃ S', DiskAt w' S' R b d' ∧ Two B w' b3 x4 d1 e1 S3 R3 X4 I4 ∧ (∀ k, S' k → B ≤ k ∧ ¬ S3 k ∧ ¬ R3 k ∧ ¬ X4 k ∧ ¬ I4 k) ∧ Below B w w' := by
  obtain ⟨S', hd, hf, hs⟩ := g
  refine ⟨S', hd, h.frame hf (fun k hk => (hsep k hk).2), fun k hk => ?_, hf.below h.size (fun k hk => (hsep k hk).1)⟩
  rcases hs k hk with q | q
  · exact hsep k q
  · exact ⟨Nat.le_trans h.size q, h.far k (.inl q)⟩
theorem Two.goesD2 {B : Nat} {w w' : World} {b x : Nat} {d e d' : Dk.St} {S R X I : Nat → Prop} (h : Two B w b x d e S R X I) (g : Goes S R b d' w w') : ∃ S', Two B w' b x d' e S' R X I ∧ Fr S w w' ∧ ∀ k, S' k → S k ∨ w.heap.size ≤ k := by
  obtain ⟨S', hd, hf, hs⟩ := g
  refine ⟨S', ⟨hd, h.ref.keep hf (fun k hk => ⟨fun q => (h.apart k hk).1 q, fun q => (h.apart k hk).2 q⟩), fun k hk => ?_, h.apartR, fun k hk => ?_, Nat.le_trans h.size hf.size⟩, hf, hs⟩
  · rcases hs k hk with q | q
    · exact h.apart k q
    · exact ⟨(h.far k (.inl q)).2.2.1, (h.far k (.inl q)).2.2.2⟩
  · rcases hk with hk | hk
    · rcases hs k hk with q | q
      · exact h.news k (.inl q)
      · exact Nat.le_trans h.size q
    · exact h.news k (.inr hk)
theorem Two.goesX2 {B : Nat} {w w' : World} {b x : Nat} {d e e' : Dk.St} {S R X I : Nat → Prop} (h : Two B w b x d e S R X I) (g : RGoes X I x e' w w') : ∃ X' I', Two B w' b x d e' S R X' I' ∧ Fr X w w' ∧ (∀ k, X' k → X k ∨ w.heap.size ≤ k) ∧ ∀ k, I' k → I k ∨ w.heap.size ≤ k := by
  obtain ⟨X', I', hd, hf, hs, hi⟩ := g
  refine ⟨X', I', ⟨h.disk.keep hf (fun k hk => ⟨fun q => (h.apart k q).1 hk, fun q => h.apartR k q hk⟩), hd, fun k hk => ⟨fun q => ?_, fun q => ?_⟩, fun k hk q => ?_, fun k hk => ?_, Nat.le_trans h.size hf.size⟩, hf, hs, hi⟩
  · rcases hs k q with q | q
    · exact (h.apart k hk).1 q
    · exact (h.far k (.inl q)).1 hk
  · rcases hi k q with q | q
    · exact (h.apart k hk).2 q
    · exact (h.far k (.inl q)).1 hk
  · rcases hs k q with q | q
    · exact h.apartR k hk q
    · exact (h.far k (.inl q)).2.1 hk
  · rcases hk with hk | hk | hk | hk
    · exact h.news k (.inl hk)
    · exact h.news k (.inr (.inl hk))
    · rcases hs k hk with q | q
      · exact h.news k (.inr (.inr (.inl q)))
      · exact Nat.le_trans h.size q
    · rcases hi k hk with q | q
      · exact h.news k (.inr (.inr (.inr q)))
      · exact Nat.le_trans h.size q
theorem range_new {w : World} {g n : Nat} {cur : Array Value} {s : List UInt8} (h : Has w g 5 cur) (ht : cur.toList.take n = Dk.secCells s) : w.rangeAt g 0 (Dk.secCells s) := by
  have := range_of_has (off := 0) (n := n) h
  rw [List.drop_zero, ht] at this
  exact this
theorem rd_new {w : World} {g n : Nat} {cur : Array Value} {s : List UInt8} (h : Has w g 5 cur) (ht : cur.toList.take n = Dk.secCells s) (hm : s.length ≤ 140737488355328) : Rd w w.heap.size (some ⟨g, 0, none⟩) s :=
  ⟨hm, fun _ => ⟨g, 0, rfl, h.lt, fun j u hj => range_new h ht j u hj⟩⟩
theorem bytes_new {w : World} {g n c : Nat} {cur : Array Value} {s : List UInt8} (h : Has w g 5 cur) (ht : cur.toList.take n = Dk.secCells s) (hn : n = s.length) (hm : s.length ≤ 140737488355328) : BytesAt w (.slice (some ⟨g, 0, none⟩) n c) s := by
  subst hn
  refine ⟨_, _, rfl, hm, fun _ => ⟨_, rfl, fun j x hj => ?_⟩⟩
  rw [Addr.add_mid]
  exact range_new h ht j _ (by rw [Dk.secCells, List.getElem?_map, hj]; rfl)
theorem secOf_len (l : List UInt8) (whole : Bool) : (Dk.secOf l whole).length ≤ 300 := by
  unfold Dk.secOf
  split <;> simp only [List.length_take, List.length_append] <;> omega
/-- three bytes more, in new memory, behind nothing or behind a full row -/
theorem wpList_append_three {ops : Array Oper} {rest : List Oper} {o : Oper} {a : Act} {w : World} {Q : Exit → Act → World → Prop} (hgd : o.guard = none) (s x : Operand) (ho : o.op = .call { callee := .builtin .append, args := #[s, x], argTypes := #[34, 34] })
    (sv : Value) (n : Nat) (olds : List Value) (hs : a.eval s = sv) (hn : n ≤ 1000) (hsv : (sv = .slice none 0 0 ∧ n = 0) ∨ ∃ g, sv = .slice (some ⟨g, 0, none⟩) n n ∧ olds.length = n ∧ ∀ j v, olds[j]? = some v → w.cell? ⟨g, j, none⟩ = some v)
    (g3 : Nat) (hx : a.eval x = .slice (some ⟨g3, 0, none⟩) 3 3) (cs : List Value) (hl : cs.length = 3) (hb : Has w g3 5 cs.toArray)
    (h : ∀ c w', Hid (Below w.heap.size w w') → wpList Try.prog ops Q rest (a.put o.dst (.slice (some ⟨w.heap.size, 0, none⟩) (n + 3) c)) w') : wpList Try.prog ops Q (o :: rest) a w := by
  refine wpList_plain hgd fun K hK => ?_
  obtain ⟨i0, hi, hz0, hz1, hz2⟩ := info_parts inf_u8
  have hnews : ∀ j v, cs[j]? = some v → w.cell? ((⟨g3, 0, none⟩ : Addr).add j) = some v := fun j v hj => by
    rw [Addr.add_mid, Nat.zero_add, hb.cell]; simpa using hj
  rcases hsv with ⟨rfl, rfl⟩ | ⟨g, rfl, ho1, ho2⟩
  · have hr := run_append_nil (P := Try.prog) w _ o.type _ i0 _ und_bytes hi hz0 ⟨g3, 0, none⟩ 3 3 cs (by rw [hl, hz1]) hnews (by omega) (by omega) (by rw [hz2]; omega)
    unfold Oper.wp execOp
    simp only [ho, resolve, invoke, builtin, Sem.run_bind, Sem.run_pure, Result.andThen_ok, List.map_toArray, List.map_cons, List.map_nil, hs, hx, hr]
    exact hK _ _ (h _ _ (Lib.hid (((Below.refl _ w).drew).alloc (Nat.le_refl _) _)))
  · have hr := run_append_grow (P := Try.prog) w _ o.type _ i0 _ und_bytes hi hz0 ⟨g, 0, none⟩ n n olds (by rw [ho1, hz1, Nat.mul_one]) (fun j v hj => by rw [Addr.add_mid, Nat.zero_add]; exact ho2 j v hj) ⟨g3, 0, none⟩ 3 3 cs (by rw [hl, hz1]) hnews (by omega) (by omega) (growslice_fits (by omega) (by rw [hz2]; omega))
    unfold Oper.wp execOp
    simp only [ho, resolve, invoke, builtin, Sem.run_bind, Sem.run_pure, Result.andThen_ok, List.map_toArray, List.map_cons, List.map_nil, hs, hx, hr]
    exact hK _ _ (h _ _ (Lib.hid (((Below.refl _ w).drew).alloc (Nat.le_refl _) _)))
def DoneBy (B : Nat) (w : World) (d : Dk.St) (en : Ending) (w' : World) : Prop :=
  ∃ b' x' d' S R X I, en = .returned (.tuple #[ptr b', ptr x', .bool true]) ∧ Two B w' b' x' d' d' S R X I ∧ Below B w w' ∧ Grows d d'
end Go.Proofs.Ytpgpalnnmoanpaa

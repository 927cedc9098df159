/-
  A disk in memory: which blocks it owns, what they hold; what stays when other blocks are written; loads and stores of whole sectors at an offset.
-/
import Derived.Test.YthlmjnlakenmoaaDMath
import Derived.Test.YthlmjnlakenmoaaMem
import Derived.WalkSpells
import Derived.WalkLawsBesides
import Derived.Lib.Hide
import Derived.Deep.WholeRow
import Derived.Deep.MidRow
import Derived.Maps.OwnOps
import Derived.Maps.OwnSet
import Derived.Maps.Views
namespace Go.Proofs.Ythlmjnlakenmoaa
open Go.RowKit Go.Maps

/-! ### the program's types -/
def zero128 : Array Value := (Dk.secCells Dk.zsec).toArray
def zero129 : Array Value := #[.int .i64 0] ++ zero128
theorem zero128_size : zero128.size = 128 := by rw [zero128, List.size_toArray, Dk.secCells_len, Dk.zsec_len]
theorem zero129_size : zero129.size = 129 := by simp [zero129, zero128_size]
theorem inf_sec : (Try.prog.info? 108).map (fun i => (i.zero, i.size, i.bytes)) = some (some (.agg zero128), 128, 128) := by kernel_rfl
theorem inf_wr : (Try.prog.info? 116).map (fun i => (i.zero, i.size, i.bytes)) = some (some (.agg zero129), 129, 136) := by kernel_rfl
theorem siz_sec : (Try.prog.info? 108).map (·.size) = some 128 := by kernel_rfl
theorem siz_wr : (Try.prog.info? 116).map (·.size) = some 129 := by kernel_rfl
theorem und_sec : Try.prog.underlying 108 = some (.array 128 5) := by kernel_rfl
theorem und_secs : Try.prog.underlying 74 = some (.slice 108) := by kernel_rfl
theorem und_wrs : Try.prog.underlying 93 = some (.slice 116) := by kernel_rfl
theorem und_bools : Try.prog.underlying 54 = some (.slice 4) := by kernel_rfl
theorem und_map : Try.prog.underlying 94 = some (.map 3 3) := by kernel_rfl
theorem und_int : Try.prog.underlying 3 = some (.int .i64) := by kernel_rfl
theorem key_int : Keyed Try.prog 3 := int_keyed und_int
theorem zer_int (w : World) : (zeroValue 3).run Try.prog w = .ok (.int .i64 0) w := by kernel_rfl

/-! ### what a disk owns -/
theorem blockOf_add (ad : Addr) (j : Nat) : (ad.add j).block = ad.block := by unfold Addr.add; split <;> rfl
/-- a list of bools that somebody keeps; R: where it lies -/
def KeepAt (w : World) (R : Nat → Prop) (v : Value) (l : List Bool) : Prop :=
  ∃ A c, v = .slice A l.length c ∧ l.length ≤ 140737488355328 ∧ (0 < l.length → ∃ ad, A = some ad ∧ R ad.block ∧ ad.block < w.heap.size ∧ ∀ j u, l[j]? = some u → w.cell? (ad.add j) = some (.bool u))
/-- the map of each sector's last write -/
def NewAt (w : World) (M : Nat) (ws : List Dk.Wr) : Prop :=
  ∃ D : DataW Unit, w.ownsMap Try.prog 3 (plainElem Try.prog 3) M ws.length D ∧ IsMap D ∧
    ∀ i : Nat, has D (.int .i64 (i : Int)) = (Dk.lastIx ws i).isSome ∧ D.atKey (.int .i64 (i : Int)) (.lit (.int .i64 0)) = .lit (.int .i64 (((Dk.lastIx ws i).getD 0 : Nat) : Int))
def diskCells (lv wv : Value) (M : Nat) (d : Dk.St) (kv : Value) : Array Value :=
  #[lv, wv, .map (some M), .int .i64 (d.done : Int), .bool d.dead, .bool d.lit, .int .i64 (d.left : Int), kv, .int .i64 d.plan.torn, .int .i64 d.plan.cut]
/-- a disk: its struct in block b; S: the blocks that it owns; R: those that it reads besides -/
structure Lies (w : World) (S R : Nat → Prop) (b L cap : Nat) (wv : Value) (M : Nat) (kv : Value) (d : Dk.St) : Prop where
  ok : d.Ok
  box : Has w b 98 (diskCells (.slice (some ⟨L, 0, none⟩) d.lasts.length cap) wv M d kv)
  lasts : w.ownsRow 0 108 128 (.slice (some ⟨L, 0, none⟩) d.lasts.length cap) d.lasts.length (Dk.secs d.lasts)
  waits : w.ownsRow 0 116 129 wv d.waits.length (Dk.wrs d.waits)
  new : NewAt w M d.waits
  kept : KeepAt w R kv d.plan.keep
  own : ∀ k, S k ↔ k = b ∨ k = L ∨ wv.ownBlock = some k ∨ k = M
  apart : ∀ k, R k → ¬ S k
  low : ∀ k, R k → k < w.heap.size
def DiskAt (w : World) (S R : Nat → Prop) (b : Nat) (d : Dk.St) : Prop := ∃ L cap wv M kv, Lies w S R b L cap wv M kv d

theorem KeepAt.keep {w w' : World} {R S : Nat → Prop} {v : Value} {l : List Bool} (h : KeepAt w R v l) (f : Fr S w w') (hs : ∀ k, R k → ¬ S k) : KeepAt w' R v l := by
  obtain ⟨A, c, rfl, hl, h⟩ := h
  refine ⟨A, c, rfl, hl, fun h0 => ?_⟩
  obtain ⟨ad, rfl, hr, hlt, hc⟩ := h h0
  refine ⟨ad, rfl, hr, Nat.lt_of_lt_of_le hlt f.size, fun j u hj => ?_⟩
  rw [World.cell?_of_block (w := w) (f.old _ (by rw [blockOf_add]; exact hlt) (by rw [blockOf_add]; exact hs _ hr))]
  exact hc j u hj
theorem KeepAt.nil (w : World) (R : Nat → Prop) : KeepAt w R (.slice none 0 0) [] := ⟨none, 0, rfl, by simp, fun h => by simp at h⟩
theorem NewAt.keep {w w' : World} {S : Nat → Prop} {M : Nat} {ws : List Dk.Wr} (h : NewAt w M ws) (f : Fr S w w') (hs : ¬ S M) : NewAt w' M ws := by
  obtain ⟨D, ⟨es, clock, hb, F, hn, hD⟩, h2⟩ := h
  exact ⟨D, ⟨es, clock, (f.old M (lt_of_block hb) hs).trans hb, F, hn, hD⟩, h2⟩
theorem NewAt.made (w : World) : NewAt (w.alloc (.map #[] 0)) w.heap.size [] :=
  ⟨_, World.ownsMap_made w _ _ _, isMap_empty, fun i => by simp [Dk.lastIx, has, DataW.atKey]⟩
theorem Lies.keep {w w' : World} {S R T : Nat → Prop} {b L cap : Nat} {wv : Value} {M : Nat} {kv : Value} {d : Dk.St} (h : Lies w S R b L cap wv M kv d) (f : Fr T w w') (hs : ∀ k, T k → ¬ S k ∧ ¬ R k) : Lies w' S R b L cap wv M kv d := by
  have hT : ∀ k, S k → ¬ T k := fun k hk ht => (hs k ht).1 hk
  exact ⟨h.ok, h.box.keep f (hT _ ((h.own _).2 (.inl rfl))), ownsRow_keep h.lasts f (fun k hk => hT k ((h.own _).2 (.inr (.inl (by simpa [Value.ownBlock] using hk.symm))))),
    ownsRow_keep h.waits f (fun k hk => hT k ((h.own _).2 (.inr (.inr (.inl hk))))), h.new.keep f (hT _ ((h.own _).2 (.inr (.inr (.inr rfl))))), h.kept.keep f (fun k hk ht => (hs k ht).2 hk), h.own, h.apart, fun k hk => Nat.lt_of_lt_of_le (h.low k hk) f.size⟩
theorem DiskAt.keep {w w' : World} {S R T : Nat → Prop} {b : Nat} {d : Dk.St} (h : DiskAt w S R b d) (f : Fr T w w') (hs : ∀ k, T k → ¬ S k ∧ ¬ R k) : DiskAt w' S R b d := by
  obtain ⟨L, cap, wv, M, kv, h⟩ := h
  exact ⟨L, cap, wv, M, kv, h.keep f hs⟩
theorem Lies.lt {w : World} {S R : Nat → Prop} {b L cap : Nat} {wv : Value} {M : Nat} {kv : Value} {d : Dk.St} (h : Lies w S R b L cap wv M kv d) (k : Nat) (hk : S k) : k < w.heap.size := by
  rcases (h.own k).1 hk with rfl | rfl | h' | rfl
  · exact h.box.lt
  · exact ownsRow_lt h.lasts _ rfl
  · exact ownsRow_lt h.waits _ h'
  · obtain ⟨D, ho, _⟩ := h.new
    exact ho.lt
theorem DiskAt.lt {w : World} {S R : Nat → Prop} {b : Nat} {d : Dk.St} (h : DiskAt w S R b d) (k : Nat) (hk : S k) : k < w.heap.size := by
  obtain ⟨L, cap, wv, M, kv, h⟩ := h
  exact h.lt k hk
theorem DiskAt.ok {w : World} {S R : Nat → Prop} {b : Nat} {d : Dk.St} (h : DiskAt w S R b d) : d.Ok := by
  obtain ⟨L, cap, wv, M, kv, h⟩ := h
  exact h.ok
theorem Lies.ne {w : World} {S R : Nat → Prop} {b L cap : Nat} {wv : Value} {M : Nat} {kv : Value} {d : Dk.St} (h : Lies w S R b L cap wv M kv d) :
    b ≠ L ∧ b ≠ M ∧ L ≠ M ∧ ∀ k, wv.ownBlock = some k → b ≠ k ∧ L ≠ k ∧ M ≠ k := by
  obtain ⟨cur, hL, _⟩ := own_has h.lasts
  obtain ⟨D, ⟨es, clock, hm, _⟩, _⟩ := h.new
  have hbox := h.box
  refine ⟨hbox.apart hL (by decide), fun e => ?_, fun e => ?_, fun k hk => ?_⟩
  · subst e; have := hm.symm.trans hbox; cases this
  · subst e; have := hm.symm.trans hL; cases this
  · rcases h.waits.2 with ⟨hn, _⟩ | ⟨V, vcap, wcur, hv, _, hV, _⟩
    · rw [hn] at hk; cases hk
    · rw [hv] at hk
      have hk : V = k := by simpa [Value.ownBlock] using hk
      subst hk
      have hV' : Has w V 116 wcur := hV
      refine ⟨hbox.apart hV' (by decide), hL.apart hV' (by decide), fun e => ?_⟩
      subst e; have := hm.symm.trans hV; cases this
/-- only the struct was written -/
theorem Lies.rebox {w w' : World} {S R : Nat → Prop} {b L cap : Nat} {wv : Value} {M : Nat} {kv : Value} {d d' : Dk.St} (h : Lies w S R b L cap wv M kv d)
    (hb : Has w' b 98 (diskCells (.slice (some ⟨L, 0, none⟩) d.lasts.length cap) wv M d' kv)) (f : Fr (oneB b) w w') (hok : d'.Ok) (h1 : d'.lasts = d.lasts) (h2 : d'.waits = d.waits) (h3 : d'.plan = d.plan) : Lies w' S R b L cap wv M kv d' := by
  obtain ⟨n1, n2, n3, n4⟩ := h.ne
  exact {
    ok := hok
    box := by rw [h1]; exact hb
    lasts := by rw [h1]; exact ownsRow_keep h.lasts f (fun k hk e => by have hk : L = k := by simpa [Value.ownBlock] using hk
                                                                        exact n1 (hk.trans e).symm)
    waits := by rw [h2]; exact ownsRow_keep h.waits f (fun k hk e => (n4 k hk).1 (Eq.symm e))
    new := by rw [h2]; exact h.new.keep f (fun e => n2 (Eq.symm e))
    kept := by rw [h3]; exact h.kept.keep f (fun k hk e => by
                                              have e : k = b := e
                                              subst e
                                              exact h.apart _ hk ((h.own _).2 (.inl rfl)))
    own := h.own
    apart := h.apart
    low := fun k hk => Nat.lt_of_lt_of_le (h.low k hk) f.size }
theorem KeepAt.mono {w : World} {R R' : Nat → Prop} {v : Value} {l : List Bool} (h : KeepAt w R v l) (hr : ∀ k, R k → R' k) : KeepAt w R' v l := by
  obtain ⟨A, c, rfl, hl, h⟩ := h
  refine ⟨A, c, rfl, hl, fun h0 => ?_⟩
  obtain ⟨ad, h1, h2, h3⟩ := h h0
  exact ⟨ad, h1, hr _ h2, h3⟩
theorem DiskAt.mono {w : World} {S R R' : Nat → Prop} {b : Nat} {d : Dk.St} (h : DiskAt w S R b d) (hr : ∀ k, R k → R' k) (ha : ∀ k, R' k → ¬ S k ∧ k < w.heap.size) : DiskAt w S R' b d := by
  obtain ⟨L, cap, wv, M, kv, h⟩ := h
  exact ⟨L, cap, wv, M, kv, { ok := h.ok, box := h.box, lasts := h.lasts, waits := h.waits, new := h.new, kept := h.kept.mono hr, own := h.own, apart := fun k hk => (ha k hk).1, low := fun k hk => (ha k hk).2 }⟩
end Go.Proofs.Ythlmjnlakenmoaa

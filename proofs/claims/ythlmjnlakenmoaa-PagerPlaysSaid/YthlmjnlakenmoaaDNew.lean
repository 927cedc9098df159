/-
  New, fresh, forget: a disk is made; no write waits any more.
-/
import Derived.Test.YthlmjnlakenmoaaDAsk
namespace Go.Proofs.Ythlmjnlakenmoaa
open Go.RowKit Go.Maps
set_option maxRecDepth 100000

theorem made_zero (n : Nat) : (madeCells (Value.agg zero128).cells (n * 128)).toList = Dk.secs (List.replicate n Dk.zsec) := by
  apply List.ext_getElem?
  intro j
  have hz : (Value.agg zero128).cells = zero128 := rfl
  have hl : (Dk.secs (List.replicate n Dk.zsec)).length = n * 128 := by rw [(Dk.zero_full n).len]; simp
  by_cases hj : j < n * 128
  · have h1 : j / 128 < n := by omega
    have e := Dk.flat_get (l := List.replicate n Dk.zsec) (Dk.zero_full n).cells (j / 128) (by simpa using h1) (j % 128) (by omega)
    rw [show j / 128 * 128 + j % 128 = j by omega] at e
    unfold Dk.secs
    rw [e, hz]
    rw [List.getElem_replicate, Dk.zsec_get _ (by omega)]
    have h2 : zero128[j % 128]! = .int .u8 0 := by
      have h3 : zero128[j % 128]? = some (.int .u8 0) := by rw [zero128, List.getElem?_toArray]; exact Dk.zsec_get _ (by omega)
      rw [getElem!_def, h3]
    simp [madeCells, hj, zero128_size, h2]
  · rw [List.getElem?_eq_none (by simp [madeCells]; omega), List.getElem?_eq_none (by omega)]

/-- a disk of these sectors -/
theorem fresh_any (w : World) (L cap : Nat) (l : List Dk.Sec) (h1 : 1 ≤ l.length) (h2 : l.length ≤ 65536) (hf : Dk.Full l)
    (ho : w.ownsRow 0 108 128 (.slice (some ⟨L, 0, none⟩) l.length cap) l.length (Dk.secs l)) :
    Calls Try.prog 34 #[.slice (some ⟨L, 0, none⟩) l.length cap] w fun e w' => ∃ b S, e = .returned (ptr b) ∧ DiskAt w' S noB b (Dk.fresh l) ∧ Below w.heap.size w w' ∧ ∀ k, S k → k = L ∨ w.heap.size ≤ k := by
  have hmm := @run_makeMap Try.prog
  go_enter Try.func34, Try.ntmps34
  go_wp2
  go_ret
  have hL : L < w.heap.size := ownsRow_lt ho L rfl
  refine ⟨w.heap.size + 1, fun k => k = w.heap.size + 1 ∨ k = L ∨ k = w.heap.size, rfl, ⟨L, cap, .slice none 0 0, w.heap.size, .slice none 0 0, ?_⟩, ?_, ?_⟩
  · exact {
      ok := Dk.fresh_ok h1 h2 hf
      box := heap_alloc2_new w _ _
      lasts := (ho.alloc _).alloc _
      waits := World.ownsRow_nil _ _ _ _
      new := (NewAt.made w).keep ((Fr.refl noB _).alloc _) (fun h => h)
      kept := KeepAt.nil _ _
      own := fun k => by simp [Value.ownBlock]
      apart := fun k hk => hk.elim
      low := fun k hk => hk.elim }
  · exact ((Below.refl _ _).alloc (Nat.le_refl _) _).alloc (by simp) _
  · rintro k (rfl | rfl | rfl)
    · exact .inr (by omega)
    · exact .inl rfl
    · exact .inr (by omega)

theorem new_bad (w : World) (n : Int) (h : n < 1 ∨ 65536 < n) : Calls Try.prog 7 #[.int .i64 n] w fun e w' => e = .returned (.tuple #[.pointer none, .int .i64 1]) ∧ w = w' := by
  rcases h with h | h
  · go_enter Try.func7, Try.ntmps7
    go_wp2
    go_ret2
    exact ⟨rfl, rfl⟩
  · have h0 : 1 ≤ n := by omega
    go_enter Try.func7, Try.ntmps7
    go_wp2
    go_ret2
    exact ⟨rfl, rfl⟩
set_option maxRecDepth 100000 in
/-- P2.1: a disk of n sectors -/
theorem new_any (w : World) (n : Nat) (h1 : 1 ≤ n) (h2 : n ≤ 65536) :
    Calls Try.prog 7 #[.int .i64 n] w fun e w' => ∃ b S, e = .returned (.tuple #[ptr b, .int .i64 0]) ∧ DiskAt w' S noB b (Dk.made n) ∧ Below w.heap.size w w' ∧ ∀ k, S k → w.heap.size ≤ k := by
  obtain ⟨i0, hi, hz0, hz1, hz2⟩ := info_parts inf_sec
  have hmk : (Instr.makeSlice 74 (.int .i64 (n : Int)) (.int .i64 (n : Int))).run Try.prog w = .ok (.slice (some ⟨w.heap.size, 0, none⟩) n n) (w.alloc (.cells (madeCells (Value.agg zero128).cells (n * 128)) 108)) := by
    have := run_make (P := Try.prog) w _ _ i0 _ und_secs hi hz0 .i64 .i64 (n : Int) (n : Int) (by omega) (by omega) (by rw [hz2]; omega) (by omega)
    rw [hz1] at this
    simpa using this
  have ho : (w.alloc (.cells (madeCells (Value.agg zero128).cells (n * 128)) 108)).ownsRow 0 108 128 (.slice (some ⟨w.heap.size, 0, none⟩) n n) n (madeCells (Value.agg zero128).cells (n * 128)).toList :=
    World.ownsRow_lit w _ n (Nat.zero_le _) (by simp only [maxLen]; omega) (size_madeCells _ _)
  rw [made_zero] at ho
  have hl : (List.replicate n Dk.zsec).length = n := List.length_replicate
  have hfr := fresh_any (w.alloc (.cells (madeCells (Value.agg zero128).cells (n * 128)) 108)) w.heap.size n (List.replicate n Dk.zsec) (by rw [hl]; exact h1) (by rw [hl]; exact h2) (Dk.zero_full n) (by rw [hl]; exact ho)
  rw [hl] at hfr
  have Hf := Lib.hid hfr
  clear hfr ho hi hz0 hz1 hz2
  have h1' : (1 : Int) ≤ n := by omega
  have h2' : (n : Int) ≤ 65536 := by omega
  have hb0 : Below w.heap.size w (w.alloc (.cells (madeCells (Value.agg zero128).cells (n * 128)) 108)) := (Below.refl _ _).alloc (Nat.le_refl _) _
  have hs0 : w.heap.size < (w.alloc (.cells (madeCells (Value.agg zero128).cells (n * 128)) 108)).heap.size := by simp
  generalize (w.alloc (.cells (madeCells (Value.agg zero128).cells (n * 128)) 108)) = w1 at *
  have Hb := Lib.hid hb0
  clear hb0
  go_enter Try.func7, Try.ntmps7
  go_wp2_with fail
  refine Hf.out.mono ?_
  rintro e w2 ⟨b, S, rfl, hd, hb, hs⟩
  have Hd := Lib.hid hd
  have Hb2 := Lib.hid (Hb.out.trans (hb.mono (Nat.le_of_lt hs0)))
  have Hs := Lib.hid hs
  clear hd hb hs Hf Hb hmk
  go_wp2_with fail
  go_ret2
  refine ⟨b, S, rfl, Hd.out, Hb2.out, fun k hk => ?_⟩
  rcases Hs.out k hk with h | h <;> omega

theorem Lies.cells {w : World} {S R : Nat → Prop} {b L cap : Nat} {wv : Value} {M : Nat} {kv : Value} {d : Dk.St} (h : Lies w S R b L cap wv M kv d) :
    Cells10 w b (.slice (some ⟨L, 0, none⟩) d.lasts.length cap) wv (.map (some M)) (.int .i64 (d.done : Int)) (.bool d.dead) (.bool d.lit) (.int .i64 (d.left : Int)) kv (.int .i64 d.plan.torn) (.int .i64 d.plan.cut) := cells_of_has h.box

/-- no write waits any more -/
theorem forget_any (w : World) (b : Nat) (lv wv mv dv ev tv fv kv nv cv : Value) (h : Has w b 98 #[lv, wv, mv, dv, ev, tv, fv, kv, nv, cv]) :
    Calls Try.prog 70 #[.pointer (some ⟨b, 0, none⟩)] w fun e w' => e = .returned (.tuple #[]) ∧
      Has w' b 98 #[lv, .slice none 0 0, .map (some w.heap.size), dv, ev, tv, fv, kv, nv, cv] ∧ NewAt w' w.heap.size [] ∧ Fr (oneB b) w w' ∧ w'.heap.size = w.heap.size + 1 := by
  have hmm := @run_makeMap Try.prog
  obtain ⟨c0, c1, c2, c3, c4, c5, c6, c7, c8, c9, hfz⟩ := cells_of_has h
  have H := Lib.hid h
  have hlt := h.lt
  clear h c0 c3 c4 c5 c6 c7 c8 c9
  go_enter Try.func70, Try.ntmps70
  go_wp2
  go_end0
  refine ⟨rfl, ((H.out.set 1 _).set 2 _).alloc _, ?_, (((Fr.refl (oneB b) w).put _).put _).alloc _, by simp⟩
  have := NewAt.made ((w.setCell ⟨b, 1, none⟩ (Value.slice none 0 0)).setCell ⟨b, 2, none⟩ (Value.map (some w.heap.size)))
  simpa using this
end Go.Proofs.Ythlmjnlakenmoaa

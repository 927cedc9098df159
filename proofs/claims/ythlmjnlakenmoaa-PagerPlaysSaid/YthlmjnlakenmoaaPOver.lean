/-
  A pager is made, all of whose pages are free; a transaction begins.
-/
import Derived.Test.YthlmjnlakenmoaaPMem
import Derived.Test.YthlmjnlakenmoaaDCall
namespace Go.Proofs.Ythlmjnlakenmoaa
open Go.RowKit Go.Maps
set_option maxRecDepth 100000

set_option maxHeartbeats 1600000 in
theorem begin_any (w : World) (b : Nat) (v0 v1 v2 v3 v4 v5 v6 v7 : Value) (N : Nat) (h : Has w b 83 #[v0, v1, v2, v3, v4, v5, v6, v7]) :
    Calls Try.prog 47 #[.pointer (some ⟨b, 0, none⟩)] w fun e w' => e = .returned (.tuple #[]) ∧
      Has w' b 83 #[v0, v1, v2, v3, .map (some w.heap.size), .map (some (w.heap.size + 1)), .map (some (w.heap.size + 2)), v7] ∧
      SetAt w' w.heap.size N (fun _ => false) ∧ SetAt w' (w.heap.size + 1) N (fun _ => false) ∧ SetAt w' (w.heap.size + 2) N (fun _ => false) ∧ Fr (oneB b) w w' := by
  have hmm := fun w => run_makeMap (P := Try.prog) 81 w
  have hlt := h.lt
  have h3 := ((h.alloc (.map #[] 0)).alloc (.map #[] 0)).alloc (.map #[] 0)
  have s0 := ((SetAt.made w N).keep ((Fr.refl noB _).alloc (.map #[] 0)) (fun e => e)).keep ((Fr.refl noB _).alloc (.map #[] 0)) (fun e => e)
  have s1 := (SetAt.made (w.alloc (.map #[] 0)) N).keep ((Fr.refl noB _).alloc (.map #[] 0)) (fun e => e)
  have s2 := SetAt.made ((w.alloc (.map #[] 0)).alloc (.map #[] 0)) N
  have e1 : (w.alloc (.map #[] 0)).heap.size = w.heap.size + 1 := by simp
  have e2 : ((w.alloc (.map #[] 0)).alloc (.map #[] 0)).heap.size = w.heap.size + 2 := by simp
  have hf : Fr (oneB b) w (((w.alloc (.map #[] 0)).alloc (.map #[] 0)).alloc (.map #[] 0)) := (((Fr.refl _ w).alloc _).alloc _).alloc _
  rw [e1] at s1
  rw [e2] at s2
  have H3 := Lib.hid h3
  have S0 := Lib.hid s0
  have S1 := Lib.hid s1
  have S2 := Lib.hid s2
  have HF := Lib.hid hf
  have c4 : (((w.alloc (.map #[] 0)).alloc (.map #[] 0)).alloc (.map #[] 0)).cell? ⟨b, 4, none⟩ = some v4 := h3.cell 4
  have c5 : (((w.alloc (.map #[] 0)).alloc (.map #[] 0)).alloc (.map #[] 0)).cell? ⟨b, 5, none⟩ = some v5 := h3.cell 5
  have c6 : (((w.alloc (.map #[] 0)).alloc (.map #[] 0)).alloc (.map #[] 0)).cell? ⟨b, 6, none⟩ = some v6 := h3.cell 6
  have z4 : (((w.alloc (.map #[] 0)).alloc (.map #[] 0)).alloc (.map #[] 0)).frozen? ⟨b, 4, none⟩ = false := h3.free 4
  have z5 : (((w.alloc (.map #[] 0)).alloc (.map #[] 0)).alloc (.map #[] 0)).frozen? ⟨b, 5, none⟩ = false := h3.free 5
  have z6 : (((w.alloc (.map #[] 0)).alloc (.map #[] 0)).alloc (.map #[] 0)).frozen? ⟨b, 6, none⟩ = false := h3.free 6
  clear h h3 s0 s1 s2 hf e1 e2
  go_enter Try.func47, Try.ntmps47
  go_wp2_with fail
  go_end0
  have hg : ∀ u4 u5 u6 : Value, Fr (oneB b) (((w.alloc (.map #[] 0)).alloc (.map #[] 0)).alloc (.map #[] 0)) ((((((w.alloc (.map #[] 0)).alloc (.map #[] 0)).alloc (.map #[] 0)).setCell ⟨b, 4, none⟩ u4).setCell ⟨b, 5, none⟩ u5).setCell ⟨b, 6, none⟩ u6) := fun _ _ _ => (((Fr.refl _ _).put _).put _).put _
  refine ⟨rfl, ((H3.out.set 4 _).set 5 _).set 6 _, S0.out.keep (hg _ _ _) (fun e => ?_), S1.out.keep (hg _ _ _) (fun e => ?_), S2.out.keep (hg _ _ _) (fun e => ?_), HF.out.trans (hg _ _ _) (fun _ _ e => e)⟩
  · have e : w.heap.size = b := e
    omega
  · have e : w.heap.size + 1 = b := e
    omega
  · have e : w.heap.size + 2 = b := e
    omega
theorem over_nil (w : World) : Calls Try.prog 35 #[.pointer none] w fun e w' => e = .returned (.tuple #[.pointer none, .int .i64 2]) ∧ w = w' := by
  go_enter Try.func35, Try.ntmps35
  go_wp2_with fail
  go_ret2
  exact ⟨rfl, rfl⟩
theorem over_dead (w : World) (db : Nat) (hd : w.cell? ⟨db, 4, none⟩ = some (.bool true)) : Calls Try.prog 35 #[.pointer (some ⟨db, 0, none⟩)] w fun e w' => e = .returned (.tuple #[.pointer none, .int .i64 20]) ∧ w = w' := by
  have hl := dead_any w db true hd
  have HL := Lib.hid hl
  clear hl hd
  go_enter Try.func35, Try.ntmps35
  go_wp2_with fail
  refine HL.out.mono ?_
  rintro e w' ⟨rfl, rfl⟩
  go_wp2_with fail
  go_ret2
  exact ⟨rfl, rfl⟩
/-- what over makes, ahead of begin -/
def overCells (db U : Nat) : Array Value := #[.pointer (some ⟨db, 0, none⟩), .int .i64 0, .int .i64 0, .map (some U), .map none, .map none, .map none, .int .i64 2]
theorem inf_pager : (Try.prog.info? 83).map (fun i => (i.zero, i.size, i.bytes)) = some (some (.agg #[.pointer none, .int .i64 0, .int .i64 0, .map none, .map none, .map none, .map none, .int .i64 0]), 8, 64) := by kernel_rfl
theorem over_short (w : World) (db n : Nat) (hn : n ≤ 11) (hd : w.cell? ⟨db, 4, none⟩ = some (.bool false)) (h0 : ∃ a cap, w.cell? ⟨db, 0, none⟩ = some (.slice a n cap)) :
    Calls Try.prog 35 #[.pointer (some ⟨db, 0, none⟩)] w fun e w' => e = .returned (.tuple #[.pointer none, .int .i64 1]) ∧ Below w.heap.size w w' := by
  have hlt := block_lt_of_cell hd
  have hl := dead_any w db false hd
  have hmm := fun w => run_makeMap (P := Try.prog) 81 w
  have hp : Has ((w.alloc (.map #[] 0)).alloc (.cells (overCells db w.heap.size) 83)) (w.heap.size + 1) 83 (overCells db w.heap.size) := by
    have := Has.of_alloc (w.alloc (.map #[] 0)) 83 (overCells db w.heap.size)
    simpa using this
  have hb : Below w.heap.size w ((w.alloc (.map #[] 0)).alloc (.cells (overCells db w.heap.size) 83)) := ((Below.refl _ _).alloc (Nat.le_refl _) _).alloc (by simp) _
  have hpg := ppages_any ((w.alloc (.map #[] 0)).alloc (.cells (overCells db w.heap.size) 83)) (w.heap.size + 1) db n (by omega) (hp.cell 0) (by obtain ⟨a, cap, h⟩ := h0; exact ⟨a, cap, (World.cell?_of_block (hb.block db hlt)).trans h⟩)
  have hle : ((n / 4 : Nat) : Int) ≤ 2 := by omega
  have HL := Lib.hid hl
  have HPG := Lib.hid hpg
  have HB := Lib.hid hb
  clear hl hd h0 hp hpg hb
  unfold overCells at HPG HB
  go_enter Try.func35, Try.ntmps35
  go_wp2_with fail
  refine HL.out.mono ?_
  rintro e w' ⟨rfl, rfl⟩
  go_wp2_with fail
  refine HPG.out.mono ?_
  rintro e w' ⟨rfl, rfl⟩
  go_wp2_with fail
  go_ret2
  exact ⟨rfl, HB.out⟩
namespace Pr
/-- all pages are free -/
def fresh (n : Nat) : Pt := ⟨List.replicate n 0, 0, 0⟩
theorem fresh_ok {n : Nat} (h1 : 3 ≤ n) (h2 : n ≤ 16384) : (fresh n).Ok :=
  ⟨by simp [fresh]; exact h1, by simp [fresh]; exact h2, fun i hi => by simp [fresh, List.getElem?_replicate]; omega, fun s hs => by have := (List.mem_replicate.1 hs).2; omega, by simp [fresh], .inl rfl⟩
theorem stp_zero {q : Nat → Bool} (hq : q 0 = false) (n j : Nat) : stp q (List.replicate n 0) j = false := by
  unfold stp
  rw [List.getElem?_replicate]
  split
  · rename_i s hs
    split at hs
    · injection hs with hs; rw [← hs]; exact hq
    · cases hs
  · rfl
end Pr
set_option maxHeartbeats 1600000 in
theorem over_ok (w : World) (db n : Nat) (hn : 12 ≤ n) (hn2 : n ≤ 65536) (hd : w.cell? ⟨db, 4, none⟩ = some (.bool false)) (h0 : ∃ a cap, w.cell? ⟨db, 0, none⟩ = some (.slice a n cap)) :
    Calls Try.prog 35 #[.pointer (some ⟨db, 0, none⟩)] w fun e w' => ∃ b U T B D, e = .returned (.tuple #[.pointer (some ⟨b, 0, none⟩), .int .i64 0]) ∧ PLies w' b db U T B D 2 (Pr.fresh (n / 4)) ∧ Below w.heap.size w w' ∧ ∀ k, pS b U T B D k → w.heap.size ≤ k := by
  have hlt := block_lt_of_cell hd
  have hl := dead_any w db false hd
  have hmm := fun w => run_makeMap (P := Try.prog) 81 w
  have hp : Has ((w.alloc (.map #[] 0)).alloc (.cells (overCells db w.heap.size) 83)) (w.heap.size + 1) 83 (overCells db w.heap.size) := by
    have := Has.of_alloc (w.alloc (.map #[] 0)) 83 (overCells db w.heap.size)
    simpa using this
  have hb : Below w.heap.size w ((w.alloc (.map #[] 0)).alloc (.cells (overCells db w.heap.size) 83)) := ((Below.refl _ _).alloc (Nat.le_refl _) _).alloc (by simp) _
  have hu : SetAt ((w.alloc (.map #[] 0)).alloc (.cells (overCells db w.heap.size) 83)) w.heap.size (n / 4) (fun _ => false) := (SetAt.made w (n / 4)).keep ((Fr.refl noB _).alloc _) (fun e => e)
  have hpg := ppages_any ((w.alloc (.map #[] 0)).alloc (.cells (overCells db w.heap.size) 83)) (w.heap.size + 1) db n hn2 (hp.cell 0) (by obtain ⟨a, cap, h⟩ := h0; exact ⟨a, cap, (World.cell?_of_block (hb.block db hlt)).trans h⟩)
  have hbg := begin_any ((w.alloc (.map #[] 0)).alloc (.cells (overCells db w.heap.size) 83)) (w.heap.size + 1) _ _ _ _ _ _ _ _ (n / 4) hp
  have hsz : ((w.alloc (.map #[] 0)).alloc (.cells (overCells db w.heap.size) 83)).heap.size = w.heap.size + 2 := by simp
  rw [hsz] at hbg
  have hle : (2 : Int) < ((n / 4 : Nat) : Int) := by omega
  have HL := Lib.hid hl
  have HPG := Lib.hid hpg
  have HBG := Lib.hid hbg
  have HB := Lib.hid hb
  have HU := Lib.hid hu
  clear hl hd h0 hp hpg hb hu hbg hsz
  unfold overCells at HPG HB HBG HU
  go_enter Try.func35, Try.ntmps35
  go_wp2_with fail
  refine HL.out.mono ?_
  rintro e w' ⟨rfl, rfl⟩
  go_wp2_with fail
  refine HPG.out.mono ?_
  rintro e w' ⟨rfl, rfl⟩
  go_wp2_with fail
  refine HBG.out.mono ?_
  rintro e w2 ⟨rfl, h1, h2, h3, h4, h5⟩
  have H1 := Lib.hid h1
  have H2 := Lib.hid h2
  have H3 := Lib.hid h3
  have H4 := Lib.hid h4
  have H5 := Lib.hid h5
  clear h1 h2 h3 h4 h5
  go_wp2_with fail
  go_ret2
  have hN : (List.replicate (n / 4) 0).length = n / 4 := List.length_replicate
  have hz : ∀ q : Nat → Bool, q 0 = false → ∀ {M}, SetAt w2 M (n / 4) (fun _ => false) → SetAt w2 M (Pr.fresh (n / 4)).l.length (Pr.stp q (Pr.fresh (n / 4)).l) := fun q hq M h => by
    show SetAt w2 M (List.replicate (n / 4) 0).length (Pr.stp q (List.replicate (n / 4) 0))
    rw [hN]
    exact h.congr fun j => (Pr.stp_zero hq _ j).symm
  refine ⟨w.heap.size + 1, w.heap.size, w.heap.size + 2, w.heap.size + 2 + 1, w.heap.size + 2 + 2, rfl, ⟨Pr.fresh_ok (by omega) (by omega), H1.out, hz _ rfl (HU.out.keep H5.out (fun e => by have e : w.heap.size = w.heap.size + 1 := e; omega)), hz _ rfl H2.out, hz _ rfl H3.out, hz _ rfl H4.out, by omega, by omega, by show 2 ≤ (List.replicate (n / 4) 0).length; rw [hN]; omega, fun i _ _ => by omega⟩, ?_, ?_⟩
  · exact HB.out.trans (H5.out.below (by simp; omega) (fun k hk => by have hk : k = w.heap.size + 1 := hk; omega))
  · intro k hk
    rcases hk with rfl | rfl | rfl | rfl | rfl <;> omega
end Go.Proofs.Ythlmjnlakenmoaa

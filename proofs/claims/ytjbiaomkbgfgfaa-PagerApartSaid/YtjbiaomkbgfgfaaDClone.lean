/-
  slices.Clone at sectors, writes and bools: the same cells in new memory.
-/
import Derived.Test.YtjbiaomkbgfgfaaDFlush
namespace Go.Proofs.Ytjbiaomkbgfgfaa
open Go.RowKit Go.Maps
set_option maxRecDepth 100000

theorem inf_bool : (Try.prog.info? 4).map (fun i => (i.zero, i.size, i.bytes)) = some (some (.bool false), 1, 1) := by kernel_rfl
/-- what a clone is -/
def CloneOf (w : World) (e : TypeId) (size n : Nat) (xs : List Value) (en : Ending) (w' : World) : Prop :=
  ∃ L' cap', en = .returned (.slice (some ⟨L', 0, none⟩) n cap') ∧ w'.ownsRow 0 e size (.slice (some ⟨L', 0, none⟩) n cap') n xs ∧ w.heap.size ≤ L' ∧ L' < w'.heap.size ∧ Below w.heap.size w w'
theorem clone_end {w w1 : World} {e : TypeId} {size n : Nat} {xs : List Value} {v' : Value} {t : TypeId} (h : w1.ownsRow 0 e size v' (0 + n) ([] ++ xs)) (hg : (w.alloc (.cells #[] t)).grownBy w1 (some w.heap.size)) (hnil : v' = .slice none 0 0 ↔ Value.slice (some ⟨w.heap.size, 0, none⟩) 0 0 = .slice none 0 0 ∧ n = 0)
    (hat : v'.ownBlock = some w.heap.size ∨ v'.ownBlock = some (w.alloc (.cells #[] t)).heap.size) : CloneOf w e size n xs (.returned v') w1 := by
  have hne : v' ≠ .slice none 0 0 := fun he => by have := (hnil.1 he).1; cases this
  rw [Nat.zero_add, List.nil_append] at h
  have hown := h
  rcases h.2 with ⟨h0, _⟩ | ⟨g, cap, cur, rfl, _, hgg, _⟩
  · exact absurd h0 hne
  · refine ⟨g, cap, rfl, hown, ?_, lt_of_block hgg, ((Below.refl w.heap.size w).alloc (Nat.le_refl _) _).grown hg (by simp) (fun k hk => by injection hk with hk; omega)⟩
    rcases hat with hat | hat
    · have : g = w.heap.size := by simpa [Value.ownBlock] using hat
      omega
    · have : g = w.heap.size + 1 := by simpa [Value.ownBlock] using hat
      omega

set_option maxHeartbeats 400000 in
theorem clone_secs (w : World) (ad : Addr) (n cap : Nat) (xs : List Value) (hl : xs.length = n * 128) (hc : ∀ j u, xs[j]? = some u → w.cell? (ad.add j) = some u) (hm : n ≤ 1000000) (h1 : ∀ u ∈ xs, u.oneCell' = true) :
    Calls Try.prog 63 #[.slice (some ad) n cap] w (CloneOf w 108 128 n xs) := by
  obtain ⟨i0, hi, hz0, hz1, hz2⟩ := info_parts inf_sec
  have hsrc : ∀ j u, xs[j]? = some u → (w.alloc (.cells #[] 108)).cell? (ad.add j) = some u := fun j u hj => by
    rw [World.cell?_alloc_lt _ _ _ (block_lt_of_cell (hc j u hj))]; exact hc j u hj
  have H := Lib.hid hsrc
  have Hl := Lib.hid hl
  have H1 := Lib.hid h1
  have Hi := Lib.hid hi
  have Z0 := Lib.hid hz0
  have Z1 := Lib.hid hz1
  have Z2 := Lib.hid hz2
  have q := fun (w : World) => Lib.run_eql_slice_nil (P := Try.prog) w _ _ (some ad) n cap 0 0 und_secs
  clear hsrc hl h1 hz0 hz1 hz2 hi hc
  go_enter Try.func63, Try.ntmps63
  go_wp2_with (at_builtin; refine wpList_append_own_at _ rfl (.tmp 5) (.tmp 6) _ rfl 0 108 i0 _ 128 128 und_secs Hi.out Z0.out Z1.out Z2.out zero128_size (by omega) (.slice (some ⟨w.heap.size, 0, none⟩) 0 0) 0 [] rfl (World.ownsRow_made w #[] 0 (Nat.zero_le _) (Nat.zero_le _) rfl) ad n cap xs rfl Hl.out H.out H1.out (by unfold maxLen; omega) (by omega) (Nat.zero_le _) ?_; intro v' w1 hown hg hnil hat; have Ho := Lib.hid hown; have Hg := Lib.hid hg; have Hn := Lib.hid hnil; have Ha := Lib.hid hat; clear hown hg hnil hat)
  go_ret
  exact clone_end Ho.out Hg.out Hn.out Ha.out

set_option maxHeartbeats 400000 in
theorem clone_bools (w : World) (ad : Addr) (n cap : Nat) (xs : List Value) (hl : xs.length = n * 1) (hc : ∀ j u, xs[j]? = some u → w.cell? (ad.add j) = some u) (hm : n ≤ 140737488355328) (h1 : ∀ u ∈ xs, u.oneCell' = true) :
    Calls Try.prog 62 #[.slice (some ad) n cap] w (CloneOf w 4 1 n xs) := by
  obtain ⟨i0, hi, hz0, hz1, hz2⟩ := info_parts inf_bool
  have hsrc : ∀ j u, xs[j]? = some u → (w.alloc (.cells #[] 4)).cell? (ad.add j) = some u := fun j u hj => by
    rw [World.cell?_alloc_lt _ _ _ (block_lt_of_cell (hc j u hj))]; exact hc j u hj
  have H := Lib.hid hsrc
  have Hl := Lib.hid hl
  have H1 := Lib.hid h1
  have Hi := Lib.hid hi
  have Z0 := Lib.hid hz0
  have Z1 := Lib.hid hz1
  have Z2 := Lib.hid hz2
  have q := fun (w : World) => Lib.run_eql_slice_nil (P := Try.prog) w _ _ (some ad) n cap 0 0 und_bools
  clear hsrc hl h1 hz0 hz1 hz2 hi hc
  go_enter Try.func62, Try.ntmps62
  go_wp2_with (at_builtin; refine wpList_append_own_at _ rfl (.tmp 5) (.tmp 6) _ rfl 0 4 i0 _ 1 1 und_bools Hi.out Z0.out Z1.out Z2.out rfl (by omega) (.slice (some ⟨w.heap.size, 0, none⟩) 0 0) 0 [] rfl (World.ownsRow_made w #[] 0 (Nat.zero_le _) (Nat.zero_le _) rfl) ad n cap xs rfl Hl.out H.out H1.out (by unfold maxLen; omega) (by omega) (Nat.zero_le _) ?_; intro v' w1 hown hg hnil hat; have Ho := Lib.hid hown; have Hg := Lib.hid hg; have Hn := Lib.hid hnil; have Ha := Lib.hid hat; clear hown hg hnil hat)
  go_ret
  exact clone_end Ho.out Hg.out Hn.out Ha.out

theorem clone_bools_nil (w : World) (n cap : Nat) : Calls Try.prog 62 #[.slice none n cap] w fun e w' => e = .returned (.slice none 0 0) ∧ w = w' := by
  have q := fun (w : World) => Lib.run_eql_slice_nil (P := Try.prog) w _ _ none n cap 0 0 und_bools
  go_enter Try.func62, Try.ntmps62
  go_wp2
  go_ret
  exact ⟨rfl, rfl⟩
end Go.Proofs.Ytjbiaomkbgfgfaa

/-
  The letter that a key's bytes are written to: a strings.Builder in a struct of its own.
-/
import Derived.Test.YtfbdikaaeedeoaaDoorOwn
import Derived.Test.YtfbdikaaeedeoaaDoorKMath
import Derived.Lib.FrozenHead2
import Derived.Lib.OthersKept
import Derived.Lib.UnsafeStr
import Derived.RegionTactic
namespace Go.Proofs.YtfbdikaaeedeoaaDoor
open Go.RowKit Go.Maps
set_option maxRecDepth 100000

abbrev bT : TypeId := 69
abbrev bE : TypeId := 5
theorem siz_builder : (Tryd.prog.info? 67).map (·.size) = some 2 := by kernel_rfl
theorem und_pbuilder : Tryd.prog.underlying 64 = some (.pointer 67) := by kernel_rfl
theorem und_unsafe : Tryd.prog.underlying 128 = some .unsafePointer := by kernel_rfl
theorem lies_builder : liesAt Tryd.prog Tryd.prog.depth bT (2 / Tryd.prog.cellsOf bT) 0 67 1 = true := by kernel_rfl
theorem und_pu8 : Tryd.prog.underlying 101 = some (.pointer bE) := by kernel_rfl
theorem cells_bE : Tryd.prog.cellsOf bE = 1 := by kernel_rfl
theorem bTE : bT ≠ bE := by decide

set_option maxHeartbeats 1000000 in
theorem copyCheck_used (L : Nat) (w : World) (h0 : w.cell? ⟨L, 0, none⟩ = some (.pointer (some ⟨L, 0, none⟩))) :
    Calls Tryd.prog 65 #[.pointer (some ⟨L, 0, none⟩)] w fun e w' => e = .returned (.tuple #[]) ∧ w = w' := by
  obtain ⟨j, hj, _⟩ := Option.map_eq_some_iff.1 siz_builder
  go_enter Tryd.func65, Tryd.ntmps65
  go_wp2
  rw [Lib.run_neq_ptr_same w _ und_pbuilder hj]
  go_wp2
  go_end0
  exact ⟨rfl, rfl⟩
set_option maxHeartbeats 1000000 in
theorem copyCheck_fresh (L : Nat) (w : World) (h0 : w.cell? ⟨L, 0, none⟩ = some (.pointer none)) (hsh : w.shape? L = some (bT, 2)) (hfz : w.frozen? ⟨L, 0, none⟩ = false) :
    Calls Tryd.prog 65 #[.pointer (some ⟨L, 0, none⟩)] w fun e w' => e = .returned (.tuple #[]) ∧ w.setCell ⟨L, 0, none⟩ (.pointer (some ⟨L, 0, none⟩)) = w' := by
  obtain ⟨j, hj, hjs⟩ := Option.map_eq_some_iff.1 siz_builder
  go_enter Tryd.func65, Tryd.ntmps65
  go_wp2
  rw [Lib.run_to_unsafe w ⟨L, 0, none⟩ und_pbuilder und_unsafe hj (by rw [hjs]; decide) hsh (Nat.zero_lt_succ 1)]
  simp only [Result.andThen]
  rw [Oper.upon_value]
  go_wp2
  rw [run_callFunc_extern Tryd.func75 (by kernel_rfl) (by kernel_rfl) (by kernel_rfl) (e := Extern.AbiNoEscape.same) (by kernel_rfl)]
  rw [Lib.run_noEscape]
  simp only [Result.andThen]
  rw [Oper.upon_value]
  go_wp2
  rw [Lib.run_from_unsafe w ⟨L, 0, none⟩ und_unsafe und_pbuilder hj hsh lies_builder]
  simp only [Result.andThen]
  rw [Oper.upon_value]
  go_wp2
  go_end0
  exact ⟨rfl, rfl⟩
/-- the letter in block L (of the call's own since B) holds these bytes -/
def Let (w : World) (B L : Nat) (l : List UInt8) : Prop := Lib.IsBuilderF bT bE B L (bytCells l) w
/-- what stays, beside what lies below B: all but the letter and rows of bytes -/
abbrev Oth (L : Nat) (w w' : World) : Prop := Lib.OthersKept bE (some L) w w'
theorem Let.fresh (w : World) : Let (w.alloc (.cells #[.pointer none, .slice none 0 0] bT)) w.heap.size w.heap.size [] := Lib.IsBuilderF.of (Lib.fresh_isBuilder bT bE w)
theorem Let.alloc {w : World} {B L : Nat} {l : List UInt8} (h : Let w B L l) (o : Obj) : Let (w.alloc o) B L l := Lib.IsBuilderF.alloc h o
theorem Let.lt {w : World} {B L : Nat} {l : List UInt8} (h : Let w B L l) : L < w.heap.size := h.elim (fun x => x.lt) (fun x => x.lt)
theorem Let.base {w : World} {B L : Nat} {l : List UInt8} (h : Let w B L l) : B ≤ L := h.elim (fun x => x.1) (fun x => x.1)
theorem copyCheck_any (w : World) (B L : Nat) (l : List UInt8) (h : Let w B L l) :
    Calls Tryd.prog 65 #[.pointer (some ⟨L, 0, none⟩)] w fun e w' => e = .returned (.tuple #[]) ∧ Lib.BuilderAtF bT bE B L (.pointer (some ⟨L, 0, none⟩)) (bytCells l) w' ∧ Below B w w' ∧ Oth L w w' := by
  rcases h with h | h
  · refine (copyCheck_fresh L w h.cell0 h.shape h.frozen0).mono ?_
    rintro e w' ⟨rfl, rfl⟩
    exact ⟨rfl, h.used _, (Below.refl B w).setCell (p := ⟨L, 0, none⟩) h.1 _, (Lib.OthersKept.refl _ _ w).setCell ⟨L, 0, none⟩ rfl _⟩
  · refine (copyCheck_used L w h.cell0).mono ?_
    rintro e w' ⟨rfl, rfl⟩
    exact ⟨rfl, h, Below.refl B _, Lib.OthersKept.refl _ _ _⟩
theorem strCells_mk (l : List UInt8) : Lib.strCells ⟨l.toArray⟩ = bytCells l := by
  simp [Lib.strCells, bytCells]
  intro a _
  rfl
set_option maxHeartbeats 2000000 in
theorem writeString_any (w : World) (B L : Nat) (l s : List UInt8) (h : Let w B L l) (hm : l.length + s.length ≤ 140737488355328) (hB : B ≤ w.heap.size) :
    Calls Tryd.prog 48 #[.pointer (some ⟨L, 0, none⟩), bstr s] w fun e w' => e = .returned (.tuple #[.int .i64 s.length, .nilIface]) ∧ Let w' B L (l ++ s) ∧ Below B w w' ∧ Oth L w w' := by
  obtain ⟨i0, hi, hz0, hz1, hz2⟩ := info_parts inf_u8
  have hll : (bytCells l).length = l.length := bytCells_len l
  have hss : (ByteArray.mk s.toArray).size = s.length := by simp [ByteArray.size]
  unfold bstr
  go_enter Tryd.func48, Tryd.ntmps48
  go_wp2_with (go_at_call 65; refine (copyCheck_any w B L l h).mono ?_)
  rintro e w1 ⟨rfl, h1, hb1, hk1⟩
  obtain ⟨hBL, v, hbk, hown, hne⟩ := h1
  have c0 : w1.cell? ⟨L, 0, none⟩ = some (.pointer (some ⟨L, 0, none⟩)) := by rw [Lib.cell_of_heap hbk]; rfl
  have c1 : w1.cell? ⟨L, 1, none⟩ = some v := by rw [Lib.cell_of_heap hbk]; rfl
  go_wp2_with (at_builtin; refine Lib.wpList_append_own_stringF _ rfl _ _ 65 9 rfl B bE i0 und_bytes und_str hi hz0 hz1 hz2 _ _ _ rfl hown ⟨s.toArray⟩ rfl ?c3 ?c4 ?c5 ?_)
  case c3 => unfold maxLen; omega
  case c4 => omega
  case c5 => have := hb1.size; omega
  intro v' w2 hown' hgrow _
  have hlt : L < w1.heap.size := lt_of_block hbk
  have hb2 : w2.heap[L]? = some (.cells #[.pointer (some ⟨L, 0, none⟩), v] bT (0, 0)) := by
    rw [hgrow.block L hlt (fun e => hne e.symm)]
    exact hbk
  have d0 : w2.cell? ⟨L, 0, none⟩ = some (.pointer (some ⟨L, 0, none⟩)) := by rw [Lib.cell_of_heap hb2]; rfl
  have d1 : w2.cell? ⟨L, 1, none⟩ = some v := by rw [Lib.cell_of_heap hb2]; rfl
  have f1 : w2.frozen? ⟨L, 1, none⟩ = false := Lib.frozen_of_heap hb2 1
  obtain ⟨ao, n', cap, rfl⟩ : ∃ ao n' cap, v' = .slice ao n' cap := by
    rcases hown'.2 with ⟨hv, _⟩ | ⟨g, cap, cur, fz, hv, _⟩
    · exact ⟨_, _, _, hv⟩
    · exact ⟨_, _, _, hv⟩
  go_wp2
  go_ret2
  rw [strCells_mk] at hown'
  refine ⟨rfl, .inr ?_, ?_, (hk1.grown hgrow (Lib.ownsRowF_kind hown)).setCell ⟨L, 1, none⟩ rfl _⟩
  · exact Lib.BuilderAtF.put (T := bT) (e := bE) hBL hb2 (bs' := bytCells (l ++ s)) (by rw [bytCells_len, List.length_append, bytCells_append]; exact hown') bTE
  · exact (hb1.grown hgrow (by have := hb1.size; omega) (fun k hk => (hown.lt k hk).1)).setCell (p := ⟨L, 1, none⟩) hBL _
theorem kadd_any (w : World) (B L : Nat) (l s : List UInt8) (h : Let w B L l) (hm : l.length + s.length ≤ 140737488355328) (hB : B ≤ w.heap.size) :
    Calls Tryd.prog 35 #[.pointer (some ⟨L, 0, none⟩), bstr s] w fun e w' => e = .returned (.tuple #[]) ∧ Let w' B L (l ++ s) ∧ Below B w w' ∧ Oth L w w' := by
  have H := Lib.hid (writeString_any w B L l s h hm hB)
  obtain ⟨p, hp⟩ : ∃ p, w.cell? ⟨L, 0, none⟩ = some p := h.elim (fun x => ⟨_, x.cell0⟩) (fun x => ⟨_, x.cell0⟩)
  unfold bstr at *
  clear h
  go_enter Tryd.func35, Tryd.ntmps35
  go_wp2_with fail
  refine H.out.mono ?_
  rintro e w1 ⟨rfl, h1⟩
  have H1 := Lib.hid h1
  clear h1
  go_wp2_with fail
  go_end0
  exact ⟨rfl, H1.out⟩
/-! ### the letter as a text -/
theorem str_nil_any (w : World) (B L : Nat) (p : Value) (hbk : w.heap[L]? = some (.cells #[p, .slice none 0 0] bT (0, 0))) :
    Calls Tryd.prog 36 #[.pointer (some ⟨L, 0, none⟩)] w fun e w' => e = .returned (.string ⟨#[]⟩) ∧ Below B w w' := by
  have hUS : ∀ W : World, (Builtin.unsafeString_ #[101, 3] 9 #[.pointer none, .int .i64 0]).run Tryd.prog W = .ok (.string .empty) W := fun W => Lib.run_unsafeString_none W _ _ _ none
  have c1 : w.drew.cell? ⟨L, 1, none⟩ = some (.slice none 0 0) := by
    have : w.drew.heap[L]? = some (.cells #[p, .slice none 0 0] bT (0, 0)) := hbk
    rw [Lib.cell_of_heap this]; rfl
  have hSD : (Builtin.unsafeSliceData_ #[65] 101 #[.slice none 0 0]).run Tryd.prog w.drew = .ok (.pointer none) w.drew := rfl
  go_enter Tryd.func36, Tryd.ntmps36
  go_wp2
  go_region
  all_goals (go_wp2; go_ret; exact ⟨rfl, Below.drew (Below.refl B w)⟩)
theorem str_noroom_any (w : World) (B L g : Nat) (p : Value) (cur : Array Value) (fz : Nat × Nat) (hB : B ≤ w.heap.size) (hbk : w.heap[L]? = some (.cells #[p, .slice (some ⟨g, 0, none⟩) 0 0] bT (0, 0))) (hg : w.heap[g]? = some (.cells cur bE fz)) :
    Calls Tryd.prog 36 #[.pointer (some ⟨L, 0, none⟩)] w fun e w' => e = .returned (.string ⟨#[]⟩) ∧ Below B w w' := by
  have hUS : ∀ (W : World) (q : Option Addr), (Builtin.unsafeString_ #[101, 3] 9 #[.pointer q, .int .i64 0]).run Tryd.prog W = .ok (.string .empty) W := fun W q => Lib.run_unsafeString_none W _ _ _ q
  have hlt : L < w.heap.size := lt_of_block hbk
  have c1 : w.drew.cell? ⟨L, 1, none⟩ = some (.slice (some ⟨g, 0, none⟩) 0 0) := by
    have : w.drew.heap[L]? = some (.cells #[p, .slice (some ⟨g, 0, none⟩) 0 0] bT (0, 0)) := hbk
    rw [Lib.cell_of_heap this]; rfl
  have hSD : (Builtin.unsafeSliceData_ #[65] 101 #[.slice (some ⟨g, 0, none⟩) 0 0]).run Tryd.prog w.drew = .ok (.pointer (some ⟨w.drew.heap.size, 0, none⟩)) (w.drew.alloc (.view ⟨g, 0, none⟩ bE)) :=
    Lib.run_unsafeSliceData_zero w.drew _ _ bE und_pu8 ⟨g, 0, none⟩ 0 (bE, cur.size) (by have hg' : w.drew.heap[g]? = some (.cells cur bE fz) := hg; simp [World.shape?, hg'])
  have c2 : (w.drew.alloc (.view ⟨g, 0, none⟩ bE)).cell? ⟨L, 1, none⟩ = some (.slice (some ⟨g, 0, none⟩) 0 0) := by
    have : (w.drew.alloc (.view ⟨g, 0, none⟩ bE)).heap[L]? = _ := (Lib.alloc_old w.drew _ L hlt).trans hbk
    rw [Lib.cell_of_heap this]; rfl
  have c3 : (w.alloc (.view ⟨g, 0, none⟩ bE)).drew.cell? ⟨L, 1, none⟩ = some (.slice (some ⟨g, 0, none⟩) 0 0) := c2
  have c0 : w.cell? ⟨L, 1, none⟩ = some (.slice (some ⟨g, 0, none⟩) 0 0) := c1
  go_enter Tryd.func36, Tryd.ntmps36
  go_wp2
  go_region
  all_goals (go_wp2; go_ret; exact ⟨rfl, (Below.drew (Below.refl B w)).alloc hB _⟩)
theorem str_room_any (w : World) (B L g cap : Nat) (p : Value) (hc0 : cap ≠ 0) (hbk : w.heap[L]? = some (.cells #[p, .slice (some ⟨g, 0, none⟩) 0 cap] bT (0, 0))) :
    Calls Tryd.prog 36 #[.pointer (some ⟨L, 0, none⟩)] w fun e w' => e = .returned (.string ⟨#[]⟩) ∧ Below B w w' := by
  have hUS : ∀ (W : World) (q : Option Addr), (Builtin.unsafeString_ #[101, 3] 9 #[.pointer q, .int .i64 0]).run Tryd.prog W = .ok (.string .empty) W := fun W q => Lib.run_unsafeString_none W _ _ _ q
  have c1 : w.drew.cell? ⟨L, 1, none⟩ = some (.slice (some ⟨g, 0, none⟩) 0 cap) := by
    have : w.drew.heap[L]? = some (.cells #[p, .slice (some ⟨g, 0, none⟩) 0 cap] bT (0, 0)) := hbk
    rw [Lib.cell_of_heap this]; rfl
  have hSD : (Builtin.unsafeSliceData_ #[65] 101 #[.slice (some ⟨g, 0, none⟩) 0 cap]).run Tryd.prog w.drew = .ok (.pointer (some ⟨g, 0, none⟩)) w.drew :=
    Lib.run_unsafeSliceData_row _ _ _ _ _ _ hc0
  clear hc0
  go_enter Tryd.func36, Tryd.ntmps36
  go_wp2
  go_region
  all_goals (go_wp2; go_ret; exact ⟨rfl, Below.drew (Below.refl B w)⟩)
theorem str_full_any (w : World) (B L g cap : Nat) (p : Value) (cur : Array Value) (fz : Nat × Nat) (l : List UInt8) (h0 : l ≠ []) (hbg : B ≤ g) (hm : l.length ≤ 140737488355328) (hbk : w.heap[L]? = some (.cells #[p, .slice (some ⟨g, 0, none⟩) l.length cap] bT (0, 0))) (hg : w.heap[g]? = some (.cells cur bE fz))
    (hcap : l.length ≤ cap) (hcs : cur.size = cap) (hc : ∀ j u, (bytCells l)[j]? = some u → w.cell? ⟨g, j, none⟩ = some u) :
    Calls Tryd.prog 36 #[.pointer (some ⟨L, 0, none⟩)] w fun e w' => e = .returned (.string ⟨l.toArray⟩) ∧ Below B w w' := by
  have hl0 : l.length ≠ 0 := by simpa using h0
  have c1 : w.drew.cell? ⟨L, 1, none⟩ = some (.slice (some ⟨g, 0, none⟩) l.length cap) := by
    have : w.drew.heap[L]? = some (.cells #[p, .slice (some ⟨g, 0, none⟩) l.length cap] bT (0, 0)) := hbk
    rw [Lib.cell_of_heap this]; rfl
  have hSD : (Builtin.unsafeSliceData_ #[65] 101 #[.slice (some ⟨g, 0, none⟩) l.length cap]).run Tryd.prog w.drew = .ok (.pointer (some ⟨g, 0, none⟩)) w.drew :=
    Lib.run_unsafeSliceData_row _ _ _ _ _ _ (by omega)
  have hUS : (Builtin.unsafeString_ #[101, 3] 9 #[.pointer (some ⟨g, 0, none⟩), .int .i64 l.length]).run Tryd.prog w.drew = .ok (.string ⟨l.toArray⟩) (w.drew.freeze ⟨g, 0, none⟩ l.length) := by
    refine Lib.run_unsafeString_row w.drew 101 3 9 bE und_pu8 cells_bE g cur.size (by have hg' : w.drew.heap[g]? = some (.cells cur bE fz) := hg; simp [World.shape?, hg']) l h0 (by omega) (by omega) ?_
    intro j x hx
    rw [Addr.add_mid, Nat.zero_add]
    exact hc j (.int .u8 x.toNat) (by rw [bytCells_get, hx]; rfl)
  clear hl0 hm hcap hcs h0 hc
  go_enter Tryd.func36, Tryd.ntmps36
  go_wp2
  go_region
  all_goals (go_wp2; go_ret; exact ⟨rfl, Lib.below_freeze (Below.drew (Below.refl B w)) (p := ⟨g, 0, none⟩) hbg _⟩)
theorem string_any (w : World) (B L : Nat) (l : List UInt8) (h : Let w B L l) (hm : l.length ≤ 140737488355328) (hB : B ≤ w.heap.size) :
    Calls Tryd.prog 36 #[.pointer (some ⟨L, 0, none⟩)] w fun e w' => e = .returned (bstr l) ∧ Below B w w' := by
  obtain ⟨p, _, v, hbk, hown, _⟩ : ∃ p, Lib.BuilderAtF bT bE B L p (bytCells l) w := h.elim (fun x => ⟨_, x⟩) (fun x => ⟨_, x⟩)
  rw [bytCells_len] at hown
  rcases hown.2 with ⟨rfl, h0⟩ | ⟨g, cap, cur, fz, rfl, hbg, hg, _, hnc, _, hcs, _⟩
  · obtain rfl := List.length_eq_zero_iff.1 h0
    exact str_nil_any w B L p hbk
  · by_cases h0 : l = []
    · subst h0
      by_cases hc0 : cap = 0
      · subst hc0
        exact str_noroom_any w B L g p cur fz hB hbk hg
      · exact str_room_any w B L g cap p hc0 hbk
    · refine str_full_any w B L g cap p cur fz l h0 hbg hm hbk hg hnc (by omega) fun j u hu => ?_
      have := hown.cells (g := g) rfl j u hu
      rwa [Addr.add_mid, Nat.zero_add] at this
end Go.Proofs.YtfbdikaaeedeoaaDoor

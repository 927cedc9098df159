/-
  step, where the fuse has not burnt down: a write or a flush is counted. The plan is asked (crash's closure).
-/
import Derived.Test.YtjbiaomkbgfgfaaDRead
namespace Go.Proofs.Ytjbiaomkbgfgfaa
open Go.RowKit Go.Maps
set_option maxRecDepth 100000

/-- the disk behind a call: it owns what it owned, and new blocks; nothing else has turned -/
def Goes (S R : Nat → Prop) (b : Nat) (d : Dk.St) (w w' : World) : Prop := ∃ S', DiskAt w' S' R b d ∧ Fr S w w' ∧ ∀ k, S' k → S k ∨ w.heap.size ≤ k

theorem step_tick (w : World) (S R : Nat → Prop) (b L cap : Nat) (wv : Value) (M : Nat) (kv : Value) (d : Dk.St) (h : Lies w S R b L cap wv M kv d) (hdue : d.due = false) (hdone : d.done < 4611686018427387904) (hleft : d.left ≤ 9223372036854775807) :
    Calls Try.prog 69 #[.pointer (some ⟨b, 0, none⟩)] w fun e w' => e = .returned (.int .i64 0) ∧ Lies w' S R b L cap wv M kv d.tick ∧ Fr (oneB b) w w' := by
  obtain ⟨c0, c1, c2, c3, c4, c5, c6, c7, c8, c9, hfz⟩ := h.cells
  have H := Lib.hid h
  have hbox := Lib.hid h.box
  by_cases hlit : d.lit = true
  · have hpos : 1 ≤ d.left := by
      unfold Dk.St.due at hdue
      rw [hlit] at hdue
      simp at hdue
      omega
    rw [hlit] at c5
    have Hlit := Lib.hid hlit
    have hz : ((d.left : Int) == 0) = false := beq_eq_false_iff_ne.2 (by omega)
    have hpos1 : (1 : Int) ≤ d.left := by omega
    clear h c0 c1 c2 c4 c7 c8 c9 hdue hlit
    go_enter Try.func69, Try.ntmps69
    go_wp2
    go_ret
    refine ⟨rfl, H.out.rebox ?_ (((Fr.refl (oneB b) w).put _).put _) (Dk.St.tick_ok H.out.ok) rfl rfl rfl, ((Fr.refl (oneB b) w).put _).put _⟩
    have := (hbox.out.set 6 (.int .i64 ((d.left : Int) - 1))).set 3 (.int .i64 ((d.done : Int) + 1))
    have e1 : ((d.tick.left : Nat) : Int) = (d.left : Int) - 1 := by simp [Dk.St.tick, Hlit.out]; omega
    have e2 : ((d.tick.done : Nat) : Int) = (d.done : Int) + 1 := by simp [Dk.St.tick]
    unfold diskCells at this ⊢
    rw [e1, e2]
    exact this
  · have hlit : d.lit = false := by simpa using hlit
    rw [hlit] at c5
    have Hlit := Lib.hid hlit
    clear h c0 c1 c2 c4 c6 c7 c8 c9 hdue hlit
    go_enter Try.func69, Try.ntmps69
    go_wp2
    go_ret
    refine ⟨rfl, H.out.rebox ?_ ((Fr.refl (oneB b) w).put _) (Dk.St.tick_ok H.out.ok) rfl rfl rfl, (Fr.refl (oneB b) w).put _⟩
    have := hbox.out.set 3 (.int .i64 ((d.done : Int) + 1))
    have e1 : d.tick.left = d.left := by simp [Dk.St.tick, Hlit.out]
    have e2 : ((d.tick.done : Nat) : Int) = (d.done : Int) + 1 := by simp [Dk.St.tick]
    unfold diskCells at this ⊢
    rw [e1, e2]
    exact this

/-- the plan's closure: how many bytes last of the write at a place -/
theorem kept_any (w : World) (R : Nat → Prop) (B : Nat) (kv : Value) (p : Dk.Pl) (k : Nat) (hB : Has w B 56 #[kv, .int .i64 p.torn, .int .i64 p.cut]) (hk : KeepAt w R kv p.keep) (hc : 0 ≤ p.cut) (hm : k ≤ maxLen) :
    Calls Try.prog 73 #[.int .i64 k, .pointer (some ⟨B, 0, none⟩)] w fun e w' => e = .returned (.int .i64 (p.kept k)) ∧ w = w' := by
  have t0 : w.cell? ⟨B, 0, none⟩ = some kv := hB.cell 0
  have t1 : w.cell? ⟨B, 1, none⟩ = some (.int .i64 p.torn) := hB.cell 1
  have t2 : w.cell? ⟨B, 2, none⟩ = some (.int .i64 p.cut) := hB.cell 2
  unfold maxLen at hm
  by_cases he : (k : Int) = p.torn
  · have hb : ((k : Int) == p.torn) = true := beq_iff_eq.2 he
    have e : ((p.kept k : Nat) : Int) = p.cut := by unfold Dk.Pl.kept; rw [if_pos he]; omega
    have E := Lib.hid e
    clear e he hB hk
    go_enter Try.func73, Try.ntmps73
    go_wp2
    go_ret
    exact ⟨ret_int E.out.symm, rfl⟩
  · have hb : ((k : Int) == p.torn) = false := beq_eq_false_iff_ne.2 he
    obtain ⟨A, c, rfl, hl, hcell⟩ := hk
    by_cases hlt : k < p.keep.length
    · obtain ⟨ad, rfl, hr, hlt', hcs⟩ := hcell (by omega)
      have hc1 := hcs k _ (List.getElem?_eq_getElem hlt)
      cases hv : p.keep[k] with
      | true =>
        rw [hv] at hc1
        have e : ((p.kept k : Nat) : Int) = 128 := by unfold Dk.Pl.kept; rw [if_neg he, if_pos (by rw [List.getElem?_eq_getElem hlt, hv])]; rfl
        have E := Lib.hid e
        clear e he hB hcell hcs hv
        go_enter Try.func73, Try.ntmps73
        go_wp2
        go_ret
        exact ⟨ret_int E.out.symm, rfl⟩
      | false =>
        rw [hv] at hc1
        have e : ((p.kept k : Nat) : Int) = 0 := by unfold Dk.Pl.kept; rw [if_neg he, if_neg (by rw [List.getElem?_eq_getElem hlt, hv]; simp)]; rfl
        have E := Lib.hid e
        clear e he hB hcell hcs hv
        go_enter Try.func73, Try.ntmps73
        go_wp2
        go_ret
        exact ⟨ret_int E.out.symm, rfl⟩
    · have hge : decide (k < p.keep.length) = false := by simpa using hlt
      have e : ((p.kept k : Nat) : Int) = 0 := by unfold Dk.Pl.kept; rw [if_neg he, if_neg (by rw [List.getElem?_eq_none (by omega)]; simp)]; rfl
      have E := Lib.hid e
      clear e he hB hcell
      go_enter Try.func73, Try.ntmps73
      go_wp2
      go_ret
      exact ⟨ret_int E.out.symm, rfl⟩
end Go.Proofs.Ytjbiaomkbgfgfaa

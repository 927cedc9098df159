/-
  What the laws do: parts as the program has them; are the parts these?
-/
import Derived.Test.YtfbdikaaeedeoaaDoorKCmp
import Derived.Test.YtfbdikaaeedeoaaDoorKUnp
import Derived.Deep.RegionHeld3
import Derived.Deep.QuietTactic
import Derived.BigQuiet
namespace Go.Proofs.YtfbdikaaeedeoaaDoor
open Go.RowKit Go.Maps
set_option maxRecDepth 100000

theorem below_drewN {B : Nat} {a w : World} (h : Below B a w) (n : Nat) : Below B a (w.drewN n) := ⟨h.os, h.tape, h.output, h.size, h.block⟩
set_option maxHeartbeats 1600000 in
theorem theirs_any (w : World) (A : Option Addr) (c : Nat) (l : List Ky.Part) (hr : RdP w w.heap.size A l) (hl : l.length ≤ 1000000) :
    Calls Tryd.prog 10 #[.slice A l.length c] w fun e w' => (∃ v, e = .returned v ∧ OwnPs 38 w' w.heap.size v l) ∧ Below w.heap.size w w' := by
  have HR := Lib.hid hr
  have hl' : (l.length : Int) ≤ 1000000 := by omega
  clear hr
  go_enter Tryd.func10, Tryd.ntmps10
  go_wp2_with fail
  go_loopw [3, 4] (fun v i wr => ∃ k : Nat, k ≤ l.length ∧ i = .int .i64 k ∧ Hid (OwnPs 38 wr w.heap.size v (l.take k)) ∧ Hid (Below w.heap.size w wr)) (fun _ i _ => l.length - (intOf i).toNat)
  case atStart => exact ⟨0, by omega, rfl, Lib.hid (OwnPs.nil _ _ _), Lib.hid (Below.refl _ _)⟩
  case round =>
    rename World => wr
    obtain ⟨k, hk, rfl, HO, HW⟩ := hrel
    obtain ⟨A2, c2, rfl, -, -⟩ := HO.out.form
    have htl : (l.take k).length = k := by rw [List.length_take]; omega
    rw [htl] at HO ⊢
    by_cases hlt : k < l.length
    · obtain ⟨g, o, rfl, hg, hcell⟩ := HR.out.below HW.out (Nat.le_refl _) (fun e => by rw [e] at hlt; exact absurd hlt (by simp))
      obtain ⟨p, hp⟩ : ∃ p, l[k]? = some p := ⟨_, List.getElem?_eq_getElem hlt⟩
      obtain ⟨x0, x1, x2⟩ := hcell k p hp
      have hlt' : (k : Int) < (l.length : Int) := by omega
      have HP := Lib.hid hp
      have HTL := Lib.hid htl
      clear hcell hp htl
      have HK : Hid (∀ W, Below w.heap.size w W → W.cell? ⟨g, o + k * 3, none⟩ = some (.bool p.text) ∧ W.cell? ⟨g, o + k * 3 + 1, none⟩ = some (.int .i64 p.n) ∧ W.cell? ⟨g, o + k * 3 + 2, none⟩ = some (.string ⟨p.say.toArray⟩)) := Lib.hid fun W hW => by
        obtain ⟨g2, o2, e, hg2, hcell⟩ := HR.out.below hW (Nat.le_refl _) (fun e => by rw [e] at hlt; exact absurd hlt (by simp))
        injection e with e
        injection e with e1 e2
        subst e1 e2
        exact hcell k p HP.out
      have HWA : Hid (Below w.heap.size w (wr.alloc (.cells #[.bool p.text, .int .i64 p.n, .string ⟨p.say.toArray⟩] 38))) := Lib.hid (HW.out.alloc HW.out.size _)
      unfold bstr at *
      go_wp2_with fail
      go_region_held3 (fun w' => w'.cell? ⟨g, o + k * 3, none⟩ = some (.bool p.text) ∧ w'.cell? ⟨g, o + k * 3 + 1, none⟩ = some (.int .i64 p.n) ∧ w'.cell? ⟨g, o + k * 3 + 2, none⟩ = some (.string ⟨p.say.toArray⟩)) (first | go_keep | exact HK.out _ (HWA.out.drew.trans (F5.out.below HWA.out.size (fun k hk => (HO.out.lt k hk).1)))) ((refine step_append_row eltP rfl (.tmp 11) (.tmp 28) rfl w.heap.size _ k (partCells (l.take k)) rfl (World.ownsRow.alloc (show World.ownsRow wr w.heap.size 38 3 (.slice A2 k c2) k (partCells (l.take k)) by have := HO.out; unfold OwnPs at this; rw [HTL.out] at this; exact this) _) wr.heap.size [.bool p.text, .int .i64 p.n, .string ⟨p.say.toArray⟩] rfl (Has.of_alloc wr _ _) rfl (fun u hu => by simp at hu; rcases hu with rfl | rfl | rfl <;> rfl) (by omega) (by decide) (by have := HW.out.size; simp; omega) ?_; intro g' cap w5 O5 F5 G5 Z5))
      have HB5 : Hid (Below w.heap.size w w5) := Lib.hid (HWA.out.drew.trans (F5.out.below HWA.out.size (fun k hk => (HO.out.lt k hk).1)))
      have HO5 : Hid (OwnPs 38 w5 w.heap.size (.slice (some ⟨g', 0, none⟩) (k + 1) cap) (l.take (k + 1))) := Lib.hid (by
        rw [List.take_add_one, HP.out]
        refine OwnPs.snoc ?_
        rw [HTL.out]
        exact O5.out)
      go_wp2_with fail
      go_roundw
      case rel => exact ⟨k + 1, by omega, by go_num, HO5, HB5⟩
      case measure => (simp [intOf]) <;> omega
    · obtain rfl : k = l.length := by omega
      rw [List.take_length] at HO
      go_wp2_with fail
      go_ret
      exact ⟨⟨_, rfl, HO.out⟩, HW.out⟩
set_option maxHeartbeats 1600000 in
theorem parts_any (w : World) (A1 A2 : Option Addr) (c1 c2 : Nat) (a b : List Ky.Part) (ha : RdP w w.heap.size A1 a) (hb : RdP w w.heap.size A2 b) (la : a.length ≤ 1000000) (lb : b.length ≤ 1000000) (hab : a = b) :
    Calls Tryd.prog 13 #[.slice A1 a.length c1, .slice A2 b.length c2] w fun e w' => e = .returned (.bool true) ∧ Below w.heap.size w w' := by
  subst hab
  have HA := Lib.hid ha
  have HB := Lib.hid hb
  have la' : (a.length : Int) ≤ 1000000 := by omega
  clear ha hb
  go_enter Tryd.func13, Tryd.ntmps13
  go_wp2_with fail
  go_loopw [5] (fun i wr => ∃ k : Nat, k ≤ a.length ∧ i = .int .i64 k ∧ Hid (Below w.heap.size w wr)) (fun i _ => a.length - (intOf i).toNat)
  case atStart => exact ⟨0, by omega, rfl, Lib.hid (Below.refl _ _)⟩
  case round =>
    rename World => wr
    obtain ⟨k, hk, rfl, HW⟩ := hrel
    by_cases hlt : k < a.length
    · obtain ⟨g, o, rfl, hg, hcell⟩ := HA.out.below HW.out (Nat.le_refl _) (fun e => by rw [e] at hlt; exact absurd hlt (by simp))
      obtain ⟨g2, o2, rfl, hg2, hcell2⟩ := HB.out.below HW.out (Nat.le_refl _) (fun e => by rw [e] at hlt; exact absurd hlt (by simp))
      obtain ⟨p, hp⟩ : ∃ p, a[k]? = some p := ⟨_, List.getElem?_eq_getElem hlt⟩
      obtain ⟨x0, x1, x2⟩ := hcell k p hp
      obtain ⟨y0, y1, y2⟩ := hcell2 k p hp
      have hlt' : (k : Int) < (a.length : Int) := by omega
      clear hcell hcell2 hp
      unfold bstr at *
      go_wp2_with fail
      go_quiet (fail)
      go_wp2_with fail
      go_roundw
      case rel => exact ⟨k + 1, by omega, by go_num, Lib.hid (below_drewN HW.out _)⟩
      case measure => (simp [intOf]) <;> omega
    · go_wp2_with fail
      go_ret
      exact ⟨rfl, HW.out⟩
end Go.Proofs.YtfbdikaaeedeoaaDoor

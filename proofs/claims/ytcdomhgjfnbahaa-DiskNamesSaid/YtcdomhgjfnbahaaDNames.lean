/-
  DiskNames: nobody's disk refuses everything, and the ends of numbers are where they should be. No condition.
-/
import Derived.Test.YtcdomhgjfnbahaaDAwake
import Derived.ProofKit
import Derived.SizedLaws
import Derived.OpenShut
namespace Go.Proofs.Ytcdomhgjfnbahaa.dnames
open Go.ChangeShapes Go.WideShapes Go.ChangeAt Go.RowKit

theorem own : ownKnob Try.prog.godebug = none := by kernel_rfl
theorem copy_nil (w : World) : Calls Try.prog 22 #[.pointer none] w fun e w' => e = .returned (.pointer none) ∧ w = w' := by
  go_enter Try.func22, Try.ntmps22
  go_wp2
  go_ret
  exact ⟨rfl, rfl⟩

theorem c4_of {w : World} {S R : Nat → Prop} {b : Nat} {d : Dk.St} (h : DiskAt w S R b d) {x : Bool} (hx : d.dead = x) : w.cell? ⟨b, 4, none⟩ = some (.bool x) := by
  obtain ⟨L, cap, wv, M, kv, h⟩ := h
  rw [← hx]; exact h.cells.c4

set_option maxHeartbeats 1600000 in
set_option maxRecDepth 100000 in
theorem names_any (w : World) : Calls Try.prog 4 #[] w fun e w' => e = .returned (.bool true) ∧ Below w.heap.size w w' := by
  have hmk := run_make128
  have hnew := new_any w 65536 (by omega) (by omega)
  rw [show ((65536 : Nat) : Int) = 65536 from rfl] at hnew
  have Hnew := Lib.hid hnew
  clear hnew
  go_enter Try.func4, Try.ntmps4
  go_wp2_with fail
  refine (read_nil _ _).mono ?_
  rintro e w' ⟨rfl, rfl⟩
  go_wp2_with fail
  refine (reopen_nil _).mono ?_
  rintro e w' ⟨rfl, rfl⟩
  go_wp2_with fail
  refine Hnew.out.mono ?_
  rintro e w1 ⟨b, S, rfl, hd, hb, hs⟩
  have Y1 := Lib.hid (Sys.made (Below.refl _ _) hd hb hs)
  clear hd hb hs Hnew
  unfold ptr
  go_wp2_with fail
  refine (new_bad _ 65537 (by omega)).mono ?_
  rintro e w' ⟨rfl, rfl⟩
  go_wp2_with fail
  have h2 : Has (w1.alloc (.cells zero128 5)) w1.heap.size 5 (Dk.secCells Dk.zsec).toArray := Has.of_alloc _ _ _
  have Y2 := Lib.hid (Y1.out.next ((Below.refl w1.heap.size w1).alloc (Nat.le_refl _) (.cells zero128 5)))
  have hn := Y1.out.fresh
  have H2 := Lib.hid h2
  clear h2 hmk
  have hl : (Dk.made 65536).lasts.length = 65536 := List.length_replicate
  have hi : 65535 < (Dk.made 65536).lasts.length := by rw [hl]; omega
  have hw := write_at _ S noB b _ Y2.out.disk rfl (by show 0 < 1000000; omega) (by show 0 < 4611686018427387904; omega) (by show 0 ≤ 9223372036854775807; omega) 65535 hi w1.heap.size 128 _ Dk.zsec Dk.zsec_len H2.out hn
  rw [show ((65535 : Nat) : Int) = 65535 from rfl] at hw
  have Hw := Lib.hid hw
  clear hw hl hi H2 hn Y1
  refine Hw.out.mono ?_
  rintro e w3 ⟨he, hg3⟩
  obtain rfl : e = .returned (.int .i64 0) := he
  obtain ⟨S3, y3, _, _⟩ := Y2.out.goes hg3
  have Y3 := Lib.hid y3
  clear hg3 y3 Y2 Hw
  go_wp2_with fail
  refine (crash_bad w3 b (.slice none 0 0) 0 129 (c4_of Y3.out.disk rfl) (by omega)).mono ?_
  rintro e w4 ⟨rfl, hb4⟩
  have Y4 := Lib.hid (Y3.out.next hb4)
  clear hb4 Y3
  go_wp2_with fail
  refine (crash_ok w4 S3 noB noB b _ Y4.out.disk rfl (.slice none 0 0) ⟨[], 0, 128⟩ (KeepAt.nil _ _) (by decide) (by decide) (fun _ h => h.elim) (by show 1 ≤ 1000000; omega)).mono ?_
  rintro e w5 ⟨rfl, hg5⟩
  obtain ⟨S5, y5, _, _⟩ := Y4.out.goes hg5
  have B5 := Lib.hid y5.below
  have z5 := y5.size
  clear hg5 y5 Y4
  go_wp2_with fail
  refine (write_nil _ _ _).mono ?_
  rintro e w' ⟨rfl, rfl⟩
  go_wp2_with fail
  refine (flush_nil _).mono ?_
  rintro e w' ⟨rfl, rfl⟩
  go_wp2_with fail
  refine (crash_nil _ _ _ _).mono ?_
  rintro e w6 ⟨rfl, hb6⟩
  have B6 := Lib.hid (B5.out.trans (hb6.mono z5))
  have z6 := hb6.size
  clear hb6 B5
  go_wp2_with fail
  refine (fuse_nil _ _ _ _ _).mono ?_
  rintro e w7 ⟨rfl, hb7⟩
  have B7 := Lib.hid (B6.out.trans (hb7.mono (by omega)))
  clear hb7 B6
  go_wp2_with fail
  refine (len_nil _).mono ?_
  rintro e w' ⟨rfl, rfl⟩
  go_wp2_with fail
  refine (waits_nil _).mono ?_
  rintro e w' ⟨rfl, rfl⟩
  go_wp2_with fail
  refine (done_nil _).mono ?_
  rintro e w' ⟨rfl, rfl⟩
  go_wp2_with fail
  refine (dead_nil _).mono ?_
  rintro e w' ⟨rfl, rfl⟩
  go_wp2_with fail
  refine (copy_nil _).mono ?_
  rintro e w' ⟨rfl, rfl⟩
  go_wp2_with fail
  go_ret
  exact ⟨rfl, B7.out⟩

set_option maxRecDepth 100000 in
theorem lifted (os : Os) (started : os.Started) (H : Type) (enc : TypeId × Value → H) :
    ReturnsInHanded {} Try.checked os 4 .any (Rows.diskNamesSpec.pre6 enc Try.prog Try.f4 Rows.diskNamesRow.domain false) (Rows.diskNamesSpec.post enc Try.prog Try.f4 false true false false) := by
  refine returnsInHanded_of_change_sized (C := Try.checked) own started (by kernel_rfl) Try.func4
    (ChangeSpec.witness6 (enc := enc) (C := Try.checked) false ⟨#[], #[], []⟩ 8 (by kernel_rfl) (by kernel_rfl) (by kernel_rfl) (by kernel_rfl)) ?_
  intro W base args ds gs before _ hW _ _ _
  have hW' := hW
  obtain ⟨p, q, hA0, hV, rfl, hfz, hnd⟩ := hW
  have hA : DataW.TrodAll enc Try.prog W 0 (fun _ => true) true Try.f4.params.toList args.toList ds p := hA0
  rw [Try.params4] at hA
  obtain ⟨hz, rfl, rfl⟩ := trodAll_nil hA
  obtain rfl : args = #[] := by cases args; simp_all
  obtain ⟨rfl, rfl⟩ := trodVars_none hV
  clear hA0
  refine (names_any W).mono fun e W' ⟨he, hnx⟩ => ?_
  subst he
  refine ⟨_, rfl, _, _, _, [], [], [], hW', ?_, ?_, rfl, hnx.frame _, fun h => by cases h⟩
  · exact trodAll_cons_mk (shut_bool Try.underlying4 _) trodAll_mk0
  · exact trodAll_mk0

theorem proved : Rows.DiskNamesSaid :=
  OpenClaim.holds_of_wide 4 Try.f4 rfl rfl rfl rfl rfl rfl rfl ⟨rfl, rfl, rfl, rfl, rfl⟩ rfl rfl rfl rfl rfl (by kernel_rfl) Try.func4 (by kernel_rfl)
    (of_decide_eq_true (by kernel_rfl)) (by unfold Func.isWrapper; first | (rw [if_pos (by decide +kernel)]; kernel_rfl) | (rw [if_neg (by decide +kernel)]; exact ⟨rfl, rfl⟩))
    (fun os started H enc _ => lifted os started H enc)
end Go.Proofs.Ytcdomhgjfnbahaa.dnames

/-
  PagerNames: nobody's pager refuses everything; a dead disk's too. No condition.
-/
import Derived.Test.YtjbiaomkbgfgfaaPSys
import Derived.ProofKit
import Derived.SizedLaws
import Derived.OpenShut
namespace Go.Proofs.Ytjbiaomkbgfgfaa.pnames
open Go.ChangeShapes Go.WideShapes Go.ChangeAt Go.RowKit
set_option maxRecDepth 100000

theorem own : ownKnob Try.prog.godebug = none := by kernel_rfl

set_option maxHeartbeats 3200000 in
theorem names_any (w : World) : Calls Try.prog 4 #[] w fun e w' => e = .returned (.bool true) ∧ Below w.heap.size w w' := by
  have hA := awakeD
  have hfmt := fun w Sd R db h => format_ok w Sd R db (Dk.made 20) h rfl ((few_made 20).more (by omega)) (by rw [made_len]; omega)
  have hnew := new_any w 20 (by omega) (by omega)
  rw [show ((20 : Nat) : Int) = 20 from rfl] at hnew
  unfold FmtPost at hfmt
  have hlive : (Dk.made 20).format.dead = false := hA.l1.dead
  have hfew : (Dk.made 20).format.waits.length ≤ 1000000 := by have := hA.f1.waits; omega
  generalize (Dk.made 20).format = d1 at *
  generalize Dk.made 20 = d0 at *
  have HLIVE := Lib.hid hlive
  have HFEW := Lib.hid hfew
  have HFMT := Lib.hid hfmt
  have HNEW := Lib.hid hnew
  clear hA hfmt hnew hlive hfew
  go_enter Try.func4, Try.ntmps4
  go_wp2_with fail
  refine (open_nil _).mono ?_
  rintro e w' ⟨rfl, rfl⟩
  go_wp2_with fail
  refine (format_nil _).mono ?_
  rintro e w' ⟨rfl, rfl⟩
  go_wp2_with fail
  refine (pread_nil _ _).mono ?_
  rintro e w' ⟨rfl, rfl⟩
  go_wp2_with fail
  refine (palloc_nil _).mono ?_
  rintro e w' ⟨rfl, rfl⟩
  go_wp2_with fail
  refine HNEW.out.mono ?_
  rintro e w1 ⟨db, Sd, rfl, hd, hb, hs⟩
  have Y1 := Lib.hid (Sys.made (Below.refl _ _) hd hb hs)
  clear hd hb hs HNEW
  unfold ptr
  go_wp2_with fail
  refine (HFMT.out w1 Sd noB db Y1.out.disk).mono ?_
  intro e w2 hpost
  rcases hpost with ⟨hdd, _⟩ | ⟨_, b, S, rfl, hp, hf, hs⟩
  · rw [HLIVE.out] at hdd; cases hdd
  obtain ⟨Sd2, U, T, B, D, low, y2⟩ := Y1.out.pager hp hf hs
  have hap := (y2.over.apart b (.inl rfl)).1
  have hbox := y2.over.lies.box
  have Y2 := Lib.hid y2.sys
  clear hp hf hs y2 Y1 HFMT
  go_wp2_with fail
  refine (crash_ok w2 Sd2 noB noB db d1 Y2.out.disk HLIVE.out (.slice none 0 0) ⟨[], -1, 0⟩ (KeepAt.nil _ _) (by decide) (by decide) (fun _ h => h.elim) HFEW.out).mono ?_
  rintro e w3 ⟨rfl, hg3⟩
  obtain ⟨S3, y3, f3, _⟩ := Y2.out.goes hg3
  have hp0 := (hbox.keep f3 hap).cell 0
  have hd4 := (disk_cells y3.disk).2
  have HP := Lib.hid hp0
  have HD := Lib.hid hd4
  have B3 := Lib.hid y3.below
  have z3 := y3.size
  clear hg3 y3 f3 Y2 hbox hap hp0 hd4 HFEW HLIVE
  go_wp2_with fail
  refine (open_dead w3 db HD.out).mono ?_
  rintro e w' ⟨rfl, rfl⟩
  go_wp2_with fail
  refine (format_dead w3 db HD.out).mono ?_
  rintro e w' ⟨rfl, rfl⟩
  go_wp2_with fail
  refine (palloc_dead w3 b db HP.out HD.out).mono ?_
  rintro e w' ⟨rfl, rfl⟩
  go_wp2_with fail
  refine (puse_nil _ _).mono ?_
  rintro e w' ⟨rfl, rfl⟩
  go_wp2_with fail
  refine (pwrite_nil _ _ _).mono ?_
  rintro e w' ⟨rfl, rfl⟩
  go_wp2_with fail
  refine (pdrop_nil _ _).mono ?_
  rintro e w' ⟨rfl, rfl⟩
  go_wp2_with fail
  refine (pcommit_nil _ _).mono ?_
  rintro e w' ⟨rfl, rfl⟩
  go_wp2_with fail
  refine (pabort_nil _).mono ?_
  rintro e w' ⟨rfl, rfl⟩
  go_wp2_with fail
  refine (ppages_nil _).mono ?_
  rintro e w' ⟨rfl, rfl⟩
  go_wp2_with fail
  refine (pfree_nil _).mono ?_
  rintro e w' ⟨rfl, rfl⟩
  go_wp2_with fail
  refine (pseq_nil _).mono ?_
  rintro e w' ⟨rfl, rfl⟩
  go_wp2_with fail
  refine (proot_nil _).mono ?_
  rintro e w' ⟨rfl, rfl⟩
  go_wp2_with fail
  refine (pcommit_dead w3 b db _ HP.out HD.out).mono ?_
  rintro e w' ⟨rfl, rfl⟩
  go_wp2_with fail
  refine (puse_dead w3 b db _ HP.out HD.out).mono ?_
  rintro e w' ⟨rfl, rfl⟩
  go_wp2_with fail
  refine (awake_any w3).mono ?_
  rintro e w4 ⟨rfl, hb4⟩
  have B4 := Lib.hid (B3.out.trans (hb4.mono z3))
  clear hb4
  go_wp2_with fail
  go_ret
  exact ⟨rfl, B4.out⟩

set_option maxRecDepth 100000 in
theorem lifted (os : Os) (started : os.Started) (H : Type) (enc : TypeId × Value → H) :
    ReturnsInHanded {} Try.checked os 4 .any (Rows.pagerNamesSpec.pre6 enc Try.prog Try.f4 Rows.pagerNamesRow.domain false) (Rows.pagerNamesSpec.post enc Try.prog Try.f4 false true false false) := by
  refine returnsInHanded_of_change_sized (C := Try.checked) own started (by kernel_rfl) Try.func4
    (ChangeSpec.witness6 (enc := enc) (C := Try.checked) false ⟨#[], #[], []⟩ 8 (by kernel_rfl) (by kernel_rfl) (by kernel_rfl) (by kernel_rfl)) ?_
  intro W base args ds gs before _ hW _ _ _
  have hW' := hW
  obtain ⟨p, q, hA0, hV, rfl, hfz, hnd⟩ := hW
  have hA : DataW.TrodAll enc Try.prog W 0 (fun _ => true) true Try.f4.params.toList args.toList ds p := hA0
  rw [Try.params4] at hA
  obtain ⟨hz, rfl, rfl⟩ := trodAll_nil hA
  obtain rfl : args = #[] := by cases args; simp_all
  obtain ⟨rfl, rfl⟩ := trodVars_none hV
  clear hA0
  refine (names_any W).mono fun e W' ⟨he, hnx⟩ => ?_
  subst he
  refine ⟨_, rfl, _, _, _, [], [], [], hW', ?_, ?_, rfl, hnx.frame _, fun h => by cases h⟩
  · exact trodAll_cons_mk (shut_bool Try.underlying4 _) trodAll_mk0
  · exact trodAll_mk0

theorem proved : Rows.PagerNamesSaid :=
  OpenClaim.holds_of_wide 4 Try.f4 rfl rfl rfl rfl rfl rfl rfl ⟨rfl, rfl, rfl, rfl, rfl⟩ rfl rfl rfl rfl rfl (by kernel_rfl) Try.func4 (by kernel_rfl)
    (of_decide_eq_true (by kernel_rfl)) (by unfold Func.isWrapper; first | (rw [if_pos (by decide +kernel)]; kernel_rfl) | (rw [if_neg (by decide +kernel)]; exact ⟨rfl, rfl⟩))
    (fun os started H enc _ => lifted os started H enc)
end Go.Proofs.Ytjbiaomkbgfgfaa.pnames

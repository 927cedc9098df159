/-
  WordChars, at every input: Char and At of the program answer what the document's do, at every number, and at the place that is asked for and at each place of the text up to the sixty-fourth; the arguments stay as they were. Nothing is assumed beyond the form's own reach (a text of at most 2^47 - 4096 bytes).
-/
import Derived.Test.YtmodaefcipchpaaUtf
import Derived.ProofKit
import Derived.SizedLaws
import Derived.ShutString
namespace Go.Proofs.Ytmodaefcipchpaa.chars
open Go.ChangeShapes Go.WideShapes Go.ChangeAt Go.RowKit
open Go.ChangeMaps (open_string shut_string)

theorem own : ownKnob Try.prog.godebug = none := by kernel_rfl

set_option maxHeartbeats 1600000 in
set_option maxRecDepth 100000 in
theorem chars_any (c : Int) (s : ByteArray) (i : Int) (w : World) (hs : s.size ≤ 140737488355328) :
    Calls Try.prog 4 #[.int .i64 c, .string s, .int .i64 i] w fun e w' => e = .returned (.bool true) ∧ Below w.heap.size w w' := by
  have hq1 : (Sp.charBytes c == Sp.charBytes c) = true := by simp
  have hq2 : (Sp.charOk c != Sp.charOk c) = false := by simp
  go_enter Try.func4, Try.ntmps4
  go_wp2_with fail
  refine (char_any c _).mono ?_
  rintro e w1 ⟨rfl, hb1⟩
  have Hb1 := Lib.hid hb1
  have hz1 := hb1.size
  clear hb1
  unfold str
  go_wp2_with fail
  refine (rchar_any c _).mono ?_
  rintro e w2 ⟨rfl, hb2⟩
  have Hb2 := Lib.hid (Hb1.out.trans (hb2.mono hz1))
  have hz2 := hb2.size
  clear hb2 Hb1
  unfold str
  go_wp2_with fail
  clear hq1 hq2
  go_loopw [11] (fun k wr => ∃ n : Nat, n ≤ 65 ∧ k = .int .i64 ((n : Int) - 1) ∧ Below w.heap.size w wr) (fun k _ => (64 - intOf k).toNat)
  case atStart => exact ⟨0, by omega, rfl, Hb2.out⟩
  case round =>
    rename_i wr _
    obtain ⟨n, hn, rfl, hb⟩ := hrel
    have hsz := hb.size
    have Hb := Lib.hid hb
    clear hb Hb2
    by_cases hlt : n < 65
    · by_cases h0 : n = 0
      · subst h0
        cases hd : Sp.decAt s i with
        | none =>
          have Hd := Lib.hid hd
          clear hd
          go_wp2_with fail
          refine (at_any s (i) _ (by unfold maxLen; omega)).mono ?_
          rintro e w3 ⟨rfl, hb3⟩
          have Hb3 := Lib.hid (Hb.out.trans (hb3.mono hsz))
          have hz3 := hb3.size
          clear hb3
          rw [Hd.out]
          unfold atV
          go_wp2_with fail
          refine (rat_any s (i) _ hs).mono ?_
          rintro e w4 ⟨rfl, hb4⟩
          have Hb4 := Lib.hid (Hb3.out.trans (hb4.mono (by omega)))
          clear hb4
          rw [Hd.out]
          unfold atV
          go_wp2_with fail
          go_roundw
          case rel => exact ⟨1, by omega, rfl, Hb4.out⟩
          case measure => simp [intOf]
        | some p =>
          obtain ⟨x, m⟩ := p
          have Hd := Lib.hid hd
          clear hd
          go_wp2_with fail
          refine (at_any s (i) _ (by unfold maxLen; omega)).mono ?_
          rintro e w3 ⟨rfl, hb3⟩
          have Hb3 := Lib.hid (Hb.out.trans (hb3.mono hsz))
          have hz3 := hb3.size
          clear hb3
          rw [Hd.out]
          unfold atV
          go_wp2_with fail
          refine (rat_any s (i) _ hs).mono ?_
          rintro e w4 ⟨rfl, hb4⟩
          have Hb4 := Lib.hid (Hb3.out.trans (hb4.mono (by omega)))
          clear hb4
          rw [Hd.out]
          unfold atV
          go_wp2_with fail
          go_roundw
          case rel => exact ⟨1, by omega, rfl, Hb4.out⟩
          case measure => simp [intOf]
      · have h1 : 1 ≤ n := by omega
        clear h0
        cases hd : Sp.decAt s ((n : Int) - 1) with
        | none =>
          have Hd := Lib.hid hd
          clear hd
          go_wp2_with fail
          refine (at_any s ((n : Int) - 1) _ (by unfold maxLen; omega)).mono ?_
          rintro e w3 ⟨rfl, hb3⟩
          have Hb3 := Lib.hid (Hb.out.trans (hb3.mono hsz))
          have hz3 := hb3.size
          clear hb3
          rw [Hd.out]
          unfold atV
          go_wp2_with fail
          refine (rat_any s ((n : Int) - 1) _ hs).mono ?_
          rintro e w4 ⟨rfl, hb4⟩
          have Hb4 := Lib.hid (Hb3.out.trans (hb4.mono (by omega)))
          clear hb4
          rw [Hd.out]
          unfold atV
          go_wp2_with fail
          go_roundw
          case rel => exact ⟨n + 1, by omega, by go_num, Hb4.out⟩
          case measure => simp [intOf]; omega
        | some p =>
          obtain ⟨x, m⟩ := p
          have Hd := Lib.hid hd
          clear hd
          go_wp2_with fail
          refine (at_any s ((n : Int) - 1) _ (by unfold maxLen; omega)).mono ?_
          rintro e w3 ⟨rfl, hb3⟩
          have Hb3 := Lib.hid (Hb.out.trans (hb3.mono hsz))
          have hz3 := hb3.size
          clear hb3
          rw [Hd.out]
          unfold atV
          go_wp2_with fail
          refine (rat_any s ((n : Int) - 1) _ hs).mono ?_
          rintro e w4 ⟨rfl, hb4⟩
          have Hb4 := Lib.hid (Hb3.out.trans (hb4.mono (by omega)))
          clear hb4
          rw [Hd.out]
          unfold atV
          go_wp2_with fail
          go_roundw
          case rel => exact ⟨n + 1, by omega, by go_num, Hb4.out⟩
          case measure => simp [intOf]; omega
    · go_wp2_with fail
      go_ret
      exact ⟨rfl, Hb.out⟩

set_option maxRecDepth 100000 in
theorem lifted (os : Os) (started : os.Started) (H : Type) (enc : TypeId × Value → H) :
    ReturnsInHanded {} Try.checked os 4 .any (Rows.wordCharsSpec.pre6 enc Try.prog Try.f4 Rows.wordCharsRow.domain false) (Rows.wordCharsSpec.post enc Try.prog Try.f4 false true false false) := by
  refine returnsInHanded_of_change_sized (C := Try.checked) own started (by kernel_rfl) Try.func4
    (ChangeSpec.witness6 (enc := enc) (C := Try.checked) false ⟨#[], #[.int .i64 0, .string ⟨#[]⟩, .int .i64 0], []⟩ 8 (by kernel_rfl) (by kernel_rfl) (by kernel_rfl) (by kernel_rfl)) ?_
  intro W base args ds gs before hval0 hW _ hsz _
  have hval : ∀ (j : Nat) t v, Try.f4.params[j]? = some t → args[j]? = some v → Value.okWide Try.prog W .any base t v := hval0
  have hW' := hW
  obtain ⟨p, q, hA0, hV, rfl, hfz, hnd⟩ := hW
  have hA : DataW.TrodAll enc Try.prog W 0 (fun _ => true) true Try.f4.params.toList args.toList ds p := hA0
  rw [Try.params4] at hA hval
  obtain ⟨v0, vs0, d0, ds0, p0, q0, hargs, rfl, rfl, h0, r0⟩ := trodAll_cons hA
  obtain ⟨v1, vs1, d1, ds1, p1, q1, hargs1, rfl, rfl, h1, r1⟩ := trodAll_cons r0
  obtain ⟨v2, vs2, d2, ds2, p2, q2, hargs2, rfl, rfl, h2, r2⟩ := trodAll_cons r1
  obtain ⟨rfl, rfl, rfl⟩ := trodAll_nil r2
  obtain rfl : args = #[v0, v1, v2] := by cases args; simp_all
  obtain ⟨rfl, rfl⟩ := trodVars_none hV
  obtain ⟨c, rfl, rfl, rfl, wc⟩ := open_int Try.underlying3 (hval 0 3 v0 rfl rfl) h0
  obtain ⟨s, rfl, rfl, rfl, hs⟩ := open_string Try.underlying9 (hval 1 9 v1 rfl rfl) h1
  obtain ⟨i, rfl, rfl, rfl, wi⟩ := open_int Try.underlying3 (hval 2 3 v2 rfl rfl) h2
  have hl := sized_string hsz (j := 1) (t := 9) rfl rfl
  have hl2 := reachBytes_lt
  have hl3 : s.size ≤ 140737488355328 := by
    have e1 : s.size = s.data.size := rfl
    have e2 : s.data.toList.length = s.data.size := Array.length_toList
    omega
  clear hA0 hval0
  simp only [List.append_nil] at hW'
  refine (chars_any c s i W hl3).mono fun e W' ⟨he, hnx⟩ => ?_
  subst he
  refine ⟨_, rfl, _, _, _, [], [], [], hW', ?_, ?_, rfl, hnx.frame _, fun h => by cases h⟩
  · exact trodAll_cons_mk (shut_bool Try.underlying4 _) trodAll_mk0
  · exact trodAll_cons_mk (shut_int Try.underlying3 wc) (trodAll_cons_mk (shut_string Try.underlying9 hs) (trodAll_cons_mk (shut_int Try.underlying3 wi) trodAll_mk0))

theorem proved : Rows.WordCharsSaid :=
  OpenClaim.holds_of_wide 4 Try.f4 rfl rfl rfl rfl rfl rfl rfl ⟨rfl, rfl, rfl, rfl, rfl⟩ rfl rfl rfl rfl rfl (by kernel_rfl) Try.func4 (by kernel_rfl)
    (of_decide_eq_true (by kernel_rfl)) (by unfold Func.isWrapper; first | (rw [if_pos (by decide +kernel)]; kernel_rfl) | (rw [if_neg (by decide +kernel)]; exact ⟨rfl, rfl⟩))
    (fun os started H enc _ => lifted os started H enc)
end Go.Proofs.Ytmodaefcipchpaa.chars

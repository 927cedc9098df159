/-
  WordTogether, for every two texts, cut anywhere: texts that are UTF-8 are so together, and cut just where a character begins; the texts stay as they were. The library's table and its two errors are as its own text lays them (the card ties them).
-/
import Derived.Test.YtmodaefcipchpabDoorWorks
import Derived.Test.YtmodaefcipchpabDoorLaid
import Derived.Test.YtmodaefcipchpabDoorMathChain
import Derived.Test.YtmodaefcipchpabDoorUtfFar
import Derived.ShutString
import Derived.SizedLaws
namespace Go.Proofs.YtmodaefcipchpabDoor.together
open Go.ChangeShapes Go.WideShapes Go.ChangeAt Go.RowKit
open Go.ChangeMaps (open_string shut_string)

/-- where a text of n bytes is cut, its end among the places -/
theorem cut_to (cut : Int) (n : Nat) (hm : n ≤ 2305843009213693952) : ∃ k : Nat, k ≤ n ∧ wrap64 ((IntKind.u64.wrap cut).tmod ((n : Int) + 1)) = k := by
  have hu : 0 ≤ IntKind.u64.wrap cut := by rw [IntKind.wrap_u64]; omega
  have e : (IntKind.u64.wrap cut).tmod ((n : Int) + 1) = (IntKind.u64.wrap cut) % ((n : Int) + 1) := Int.tmod_eq_emod_of_nonneg hu
  have h0 : 0 ≤ (IntKind.u64.wrap cut) % ((n : Int) + 1) := Int.emod_nonneg _ (by omega)
  have h2 : (IntKind.u64.wrap cut) % ((n : Int) + 1) < (n : Int) + 1 := Int.emod_lt_of_pos _ (by omega)
  refine ⟨((IntKind.u64.wrap cut) % ((n : Int) + 1)).toNat, by omega, ?_⟩
  rw [e]
  unfold wrap64
  omega

theorem at_nat (s : ByteArray) (k : Nat) (w : World) (hs : s.size ≤ maxLen) :
    Calls Tryd.prog 10 #[.string s, .int .i64 k] w fun e w' => e = .returned (atV (Sp.dec s k)) ∧ Below w.heap.size w w' := by
  have := at_any s (k : Int) w hs
  unfold Sp.decAt at this
  rw [if_neg (by omega), Int.toNat_natCast] at this
  exact this

set_option maxHeartbeats 1600000 in
set_option maxRecDepth 100000 in
theorem together_any (s t : ByteArray) (cut : Int) (w : World) (hs : s.size ≤ 140737488355328) (ht : t.size ≤ 140737488355328) (hL : Laid w) :
    Calls Tryd.prog 5 #[.string s, .string t, .int .i64 cut] w fun e w' => e = .returned (.bool true) ∧ Below w.heap.size w w' := by
  have HL := Lib.hid hL
  clear hL
  have hz : (s ++ t).size = s.size + t.size := by simp
  have hadd : ((s.size + t.size : Nat) : Int) ≤ 9223372036854775807 := by omega
  obtain ⟨a, hA⟩ : ∃ a, a = s ++ t := ⟨_, rfl⟩
  have hza : a.size ≤ 281474976710656 := by rw [hA, hz]; omega
  have HA := Lib.hid hA
  clear hA hz
  obtain ⟨m, hm1, hm2⟩ := cut_to cut a.size (by omega)
  go_enter Tryd.func5, Tryd.ntmps5
  go_wp2_with fail
  refine (works_any _ HL.out).mono ?_
  rintro e w1 ⟨rfl, hb1⟩
  have Hb1 := Lib.hid hb1
  have hz1 := hb1.size
  clear hb1 HL
  go_wp2_with fail
  refine (utf_any s _ hs).mono ?_
  rintro e w2 ⟨rfl, hb2⟩
  have Hb2 := Lib.hid (Hb1.out.trans (hb2.mono hz1))
  have hz2 := hb2.size
  clear hb2 Hb1
  cases hus : Sp.utf8 s with
  | false =>
    go_wp2_with fail
    go_ret
    exact ⟨rfl, Hb2.out⟩
  | true =>
    have Hus := Lib.hid hus
    clear hus
    go_wp2_with fail
    refine (utf_any t _ ht).mono ?_
    rintro e w3 ⟨rfl, hb3⟩
    have Hb3 := Lib.hid (Hb2.out.trans (hb3.mono (by omega)))
    have hz3 := hb3.size
    clear hb3 Hb2
    cases hut : Sp.utf8 t with
    | false =>
      go_wp2_with fail
      go_ret
      exact ⟨rfl, Hb3.out⟩
    | true =>
      have hua : Sp.utf8 a = true := by rw [HA.out]; exact Sp.utf8_append Hus.out hut
      have Hua := Lib.hid hua
      clear hua hut Hus
      have ha : ∀ wx, Calls Tryd.prog 11 #[.string a] wx fun e w' => e = .returned (.bool true) ∧ Below wx.heap.size wx w' := fun wx => by
        have := utf_far a wx (by omega)
        rw [Hua.out] at this
        exact this
      have Ha := Lib.hid ha
      have Hat := Lib.hid (fun wx => at_nat a m wx (by unfold maxLen; omega))
      have hpre := fun wx => utf_far (a.extract 0 m) wx (by simp; omega)
      have hsuf := fun wx => utf_far (a.extract m a.size) wx (by simp; omega)
      clear ha
      go_wp2_with fail
      rw [← HA.out]
      refine (Ha.out _).mono ?_
      rintro e w4 ⟨rfl, hb4⟩
      have Hb4 := Lib.hid (Hb3.out.trans (hb4.mono (by omega)))
      have hz4 := hb4.size
      clear hb4 Hb3 Ha
      cases hd : Sp.dec a m with
      | some p =>
        obtain ⟨c, n⟩ := p
        have hr := Sp.dec_room hd
        obtain ⟨c1, c2⟩ := Sp.utf8_cut Hua.out m (by omega) (by rw [hd]; simp)
        rw [c1] at hpre
        rw [c2] at hsuf
        have Hpre := Lib.hid hpre
        have Hsuf := Lib.hid hsuf
        have Hd := Lib.hid hd
        clear hpre hsuf hd c1 c2 hr
        go_wp2_with fail
        refine (Hat.out _).mono ?_
        rintro e w5 ⟨rfl, hb5⟩
        have Hb5 := Lib.hid (Hb4.out.trans (hb5.mono (by omega)))
        have hz5 := hb5.size
        clear hb5 Hb4
        rw [Hd.out]
        unfold atV
        go_wp2_with fail
        refine (Hpre.out _).mono ?_
        rintro e w6 ⟨rfl, hb6⟩
        have Hb6 := Lib.hid (Hb5.out.trans (hb6.mono (by omega)))
        have hz6 := hb6.size
        clear hb6 Hb5
        go_wp2_with fail
        refine (Hsuf.out _).mono ?_
        rintro e w7 ⟨rfl, hb7⟩
        have Hb7 := Lib.hid (Hb6.out.trans (hb7.mono (by omega)))
        clear hb7 Hb6
        go_wp2_with fail
        go_ret
        exact ⟨rfl, Hb7.out⟩
      | none =>
        have Hd := Lib.hid hd
        by_cases hme : m = a.size
        · have fm : ((m : Int) == (a.size : Int)) = true := by rw [hme]; simp
          have c1 : Sp.utf8 (a.extract 0 m) = true := by
            have : a.extract 0 m = a := by rw [hme]; simp
            rw [this]; exact Hua.out
          have c2 : Sp.utf8 (a.extract m a.size) = true := Sp.utf8_none _ (by simp; omega)
          rw [c1] at hpre
          rw [c2] at hsuf
          have Hpre := Lib.hid hpre
          have Hsuf := Lib.hid hsuf
          clear hpre hsuf hd c1 c2 hme
          go_wp2_with fail
          refine (Hat.out _).mono ?_
          rintro e w5 ⟨rfl, hb5⟩
          have Hb5 := Lib.hid (Hb4.out.trans (hb5.mono (by omega)))
          have hz5 := hb5.size
          clear hb5 Hb4
          rw [Hd.out]
          unfold atV
          go_wp2_with fail
          refine (Hpre.out _).mono ?_
          rintro e w6 ⟨rfl, hb6⟩
          have Hb6 := Lib.hid (Hb5.out.trans (hb6.mono (by omega)))
          have hz6 := hb6.size
          clear hb6 Hb5
          go_wp2_with fail
          refine (Hsuf.out _).mono ?_
          rintro e w7 ⟨rfl, hb7⟩
          have Hb7 := Lib.hid (Hb6.out.trans (hb7.mono (by omega)))
          clear hb7 Hb6
          go_wp2_with fail
          go_ret
          exact ⟨rfl, Hb7.out⟩
        · have fm : ((m : Int) == (a.size : Int)) = false := by rw [beq_eq_false_iff_ne]; omega
          have c2 := Sp.utf8_uncut m (by omega) hd
          rw [c2] at hsuf
          have Hsuf := Lib.hid hsuf
          clear hsuf hd c2 hme
          cases hp : Sp.utf8 (a.extract 0 m) with
          | false =>
            rw [hp] at hpre
            have Hpre := Lib.hid hpre
            clear hpre hp
            go_wp2_with fail
            refine (Hat.out _).mono ?_
            rintro e w5 ⟨rfl, hb5⟩
            have Hb5 := Lib.hid (Hb4.out.trans (hb5.mono (by omega)))
            have hz5 := hb5.size
            clear hb5 Hb4
            rw [Hd.out]
            unfold atV
            go_wp2_with fail
            refine (Hpre.out _).mono ?_
            rintro e w6 ⟨rfl, hb6⟩
            have Hb6 := Lib.hid (Hb5.out.trans (hb6.mono (by omega)))
            have hz6 := hb6.size
            clear hb6 Hb5
            go_wp2_with fail
            go_ret
            exact ⟨rfl, Hb6.out⟩
          | true =>
            rw [hp] at hpre
            have Hpre := Lib.hid hpre
            clear hpre hp
            go_wp2_with fail
            refine (Hat.out _).mono ?_
            rintro e w5 ⟨rfl, hb5⟩
            have Hb5 := Lib.hid (Hb4.out.trans (hb5.mono (by omega)))
            have hz5 := hb5.size
            clear hb5 Hb4
            rw [Hd.out]
            unfold atV
            go_wp2_with fail
            refine (Hpre.out _).mono ?_
            rintro e w6 ⟨rfl, hb6⟩
            have Hb6 := Lib.hid (Hb5.out.trans (hb6.mono (by omega)))
            have hz6 := hb6.size
            clear hb6 Hb5
            go_wp2_with fail
            refine (Hsuf.out _).mono ?_
            rintro e w7 ⟨rfl, hb7⟩
            have Hb7 := Lib.hid (Hb6.out.trans (hb7.mono (by omega)))
            clear hb7 Hb6
            go_wp2_with fail
            go_ret
            exact ⟨rfl, Hb7.out⟩

theorem contract (H : Type) (enc : TypeId × Value → H) (W : World) (base : Nat) (args : Array Value) (ds gs : List (DataW H)) (before : List MemPlace)
    (hval : ∀ (j : Nat) t v, Tryd.f5.params[j]? = some t → args[j]? = some v → Value.okWide Tryd.prog W .any base t v)
    (hW : DataW.Whole enc Tryd.prog Tryd.f5.params.toList Rows.wordTogetherSpec.vars false W args.toList ds gs before) (hL : laidMetH Tryd.prog laidList W) (hsz : (DataW.weightsEach Tryd.prog (Tryd.f5.params.toList ++ Rows.wordTogetherSpec.plain.varTypes Tryd.prog) (ds ++ gs)).all (· ≤ reachBytes) = true) :
    Calls Tryd.prog 5 args W fun e W' => ∃ v, e = .returned v ∧ Rows.wordTogetherSpec.post enc Tryd.prog Tryd.f5 false true false false W args v W' := by
  have hW' := hW
  obtain ⟨p, q, hA0, hV, rfl, hfz, hnd⟩ := hW
  have hA : DataW.TrodAll enc Tryd.prog W 0 (fun _ => true) true Tryd.f5.params.toList args.toList ds p := hA0
  rw [Tryd.params5] at hA hval
  obtain ⟨v0, vs0, d0, ds0, p0, q0, hargs0, rfl, rfl, h0, r0⟩ := trodAll_cons hA
  obtain ⟨v1, vs1, d1, ds1, p1, q1, hargs1, rfl, rfl, h1, r1⟩ := trodAll_cons r0
  obtain ⟨v2, vs2, d2, ds2, p2, q2, hargs2, rfl, rfl, h2, r2⟩ := trodAll_cons r1
  obtain ⟨rfl, rfl, rfl⟩ := trodAll_nil r2
  obtain rfl : args = #[v0, v1, v2] := by cases args; simp_all
  obtain ⟨rfl, rfl⟩ := trodVars_none hV
  obtain ⟨a0, rfl, rfl, rfl, w0⟩ := open_string Tryd.underlying9 (hval 0 9 v0 rfl rfl) h0
  obtain ⟨a1, rfl, rfl, rfl, w1⟩ := open_string Tryd.underlying9 (hval 1 9 v1 rfl rfl) h1
  obtain ⟨a2, rfl, rfl, rfl, w2⟩ := open_int Tryd.underlying3 (hval 2 3 v2 rfl rfl) h2
  have hl0 := sized_string hsz (j := 0) (t := 9) rfl rfl
  have e0 : a0.size = a0.data.size := rfl
  have g0 : a0.data.toList.length = a0.data.size := Array.length_toList
  have hl1 := sized_string hsz (j := 1) (t := 9) rfl rfl
  have e1 : a1.size = a1.data.size := rfl
  have g1 : a1.data.toList.length = a1.data.size := Array.length_toList
  have hrb := reachBytes_lt
  have b2 : -9223372036854775808 ≤ a2 ∧ a2 ≤ 9223372036854775807 := by simpa [Lit.wf, IntKind.min, IntKind.max, IntKind.signed, IntKind.bits] using w2
  clear hA0
  simp only [List.append_nil] at hW'
  refine (together_any a0 a1 a2 W (by omega) (by omega) (laid_of hL)).mono fun e W' ⟨he, hnx⟩ => ?_
  subst he
  refine ⟨_, rfl, _, _, _, [], [], [], hW', ?_, ?_, rfl, hnx.frame _, fun h => by cases h⟩
  · exact trodAll_cons_mk (shut_bool Tryd.underlying4 _) trodAll_mk0
  · exact (trodAll_cons_mk (shut_string Tryd.underlying9 w0) (trodAll_cons_mk (shut_string Tryd.underlying9 w1) (trodAll_cons_mk (shut_int Tryd.underlying3 w2) trodAll_mk0)))

theorem reads (os : Os) {H : Type} (enc : TypeId × Value → H) : ∃ places, DataW.whole enc Tryd.prog ((laidWorld os).forCall (fun _ _ => 0) ⟨#[], #[.string ⟨#[]⟩, .string ⟨#[]⟩, .int .i64 0], []⟩).memory Tryd.f5.params.toList Rows.wordTogetherSpec.vars false (Array.toList #[.string ⟨#[]⟩, .string ⟨#[]⟩, .int .i64 0]) 8 = some ([.lit (.string []), .lit (.string []), .lit (.int .i64 0)], [], places) :=
  ⟨[], by kernel_rfl⟩

set_option maxRecDepth 100000 in
theorem lifted (os : Os) (started : os.Started) (H : Type) (enc : TypeId × Value → H) (F : Stop.Interp) :
    ReturnsInHanded {} Tryd.checked os 5 .any ((OpenSpec.ofChange Rows.wordTogetherSpec).preRow enc Tryd.prog Tryd.f5 Rows.wordTogetherRow.domain false Rows.wordTogetherRow.laid) (((OpenSpec.ofChange Rows.wordTogetherSpec).at F).post enc Tryd.prog Tryd.f5 false true false false) := by
  obtain ⟨places, hx⟩ := reads os enc
  refine returnsInHanded_of_row (C := Tryd.checked) (s := (OpenSpec.ofChange Rows.wordTogetherSpec)) own started (by kernel_rfl) Tryd.func5
    (witness_row_atRef (enc := enc) (C := Tryd.checked) false (laidWorld os) #[.string ⟨#[]⟩, .string ⟨#[]⟩, .int .i64 0] rfl (by kernel_rfl) (by kernel_rfl) (by kernel_rfl)
      (OpenSpec.preRow_of_cond 8 hx (by kernel_rfl) (fun k hk => by cases hk) (by kernel_rfl) (laid_met os _))) ?_
  intro W base args ds gs before hval hW _ hcond hsz hL _ _
  exact contract H enc W base args ds gs before hval hW hL hsz

theorem said : Rows.WordTogetherSaid :=
  OpenClaim.holds_of_cond 5 Tryd.f5 rfl rfl rfl rfl rfl rfl rfl ⟨rfl, rfl, rfl, rfl, rfl⟩ rfl rfl rfl rfl rfl (by kernel_rfl) Tryd.func5 (by kernel_rfl)
    (of_decide_eq_true (by kernel_rfl)) (by unfold Func.isWrapper; first | (rw [if_pos (by decide +kernel)]; kernel_rfl) | (rw [if_neg (by decide +kernel)]; exact ⟨rfl, rfl⟩))
    (fun os started H enc _ F => by rw [OpenClaim.pre_eq_preRow]; exact lifted os started H enc F)

theorem plain (f : FuncId) (fn : Func) (hf : Tryd.pinned.checked.prog.funcNamed ("tollgate/tollgatelaw01.WordTogether") = some f) (hfn : Tryd.pinned.checked.prog.funcs[f]? = some fn) :
    true = Tryd.pinned.checked.prog.looks [] ∧ ∀ (j : Nat) t, fn.params[j]? = some t → Tryd.pinned.checked.prog.wantsStandIn t = false := by
  obtain rfl : f = 5 := Option.some.inj ((show Tryd.prog.funcNamed ("tollgate/tollgatelaw01.WordTogether") = some 5 by kernel_rfl).symm.trans hf) |>.symm
  obtain rfl : fn = Tryd.f5 := (Option.some.inj (Tryd.func5.symm.trans hfn)).symm
  refine ⟨by kernel_rfl, fun j t ht => ?_⟩
  rw [Tryd.params5] at ht
  have hm := Array.mem_of_getElem? ht
  simp only [List.mem_toArray, List.mem_cons, List.not_mem_nil, or_false] at hm
  rcases hm with rfl | rfl | rfl
  all_goals exact (show Tryd.prog.wantsStandIn _ = false by kernel_rfl)

theorem card : Rows.WordTogetherCardSaid :=
  Claim7.holds_tied_plain_at .later [] _ _ _ _ said (fun _ h => by cases h) (by kernel_rfl) (fun _ h => by cases h) wordTogether_row_tie rfl ⟨rfl, rfl⟩ (by kernel_rfl) rfl plain (by kernel_rfl)
end Go.Proofs.YtmodaefcipchpabDoor.together

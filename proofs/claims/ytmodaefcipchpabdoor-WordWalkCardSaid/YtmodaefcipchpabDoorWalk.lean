/-
  WordWalk, for every text: a text is UTF-8 just if one comes from character to character to its end, and each of these is written as it stands there; the text stays as it was. The library's table and its two errors are as its own text lays them (the card ties them).
-/
import Derived.Test.YtmodaefcipchpabDoorWorks
import Derived.Test.YtmodaefcipchpabDoorLaid
import Derived.Test.YtmodaefcipchpabDoorMathWalk
import Derived.ShutString
import Derived.SizedLaws
namespace Go.Proofs.YtmodaefcipchpabDoor.walk
open Go.ChangeShapes Go.WideShapes Go.ChangeAt Go.RowKit
open Go.ChangeMaps (open_string shut_string)

theorem char_at (s : ByteArray) (j n : Nat) (c : Int) (h : Sp.dec s j = some (c, n)) (w : World) :
    Calls Tryd.prog 12 #[.int .i64 c] w fun e w' => e = .returned (.tuple #[.string (s.extract j (j + n)), .bool true]) ∧ Below w.heap.size w w' := by
  have := char_any c w
  obtain ⟨h1, h2⟩ := Sp.dec_bytes h
  have e : str (Sp.charBytes c) = .string (s.extract j (j + n)) := by
    rw [h2, ByteArray.toList_eq]
    rfl
  rw [h1, e] at this
  exact this

set_option maxHeartbeats 1600000 in
set_option maxRecDepth 100000 in
theorem walk_any (s : ByteArray) (w : World) (hs : s.size ≤ 140737488355328) (hL : Laid w) :
    Calls Tryd.prog 4 #[.string s] w fun e w' => e = .returned (.bool true) ∧ Below w.heap.size w w' := by
  have HL := Lib.hid hL
  clear hL
  go_enter Tryd.func4, Tryd.ntmps4
  go_wp2_with fail
  refine (works_any _ HL.out).mono ?_
  rintro e w1 ⟨rfl, hb1⟩
  have Hb1 := Lib.hid hb1
  have hz1 := hb1.size
  clear hb1 HL
  go_wp2_with fail
  go_loopw [3] (fun i wr => ∃ j f : Nat, j ≤ s.size ∧ i = .int .i64 j ∧ s.size ≤ j + f ∧ Sp.utf8 s = Sp.utf8From s f j ∧ Below w.heap.size w wr) (fun i _ => s.size - (intOf i).toNat)
  case atStart => exact ⟨0, s.size, by omega, rfl, by omega, rfl, Hb1.out⟩
  case round =>
    rename_i wr _
    obtain ⟨j, f, hj, rfl, hf, hu, hb⟩ := hrel
    have Hu := Lib.hid hu
    have hsz := hb.size
    have Hb := Lib.hid hb
    clear hu hb Hb1
    by_cases hlt : j < s.size
    · cases hd : Sp.dec s j with
      | none =>
        have Hd := Lib.hid hd
        clear hd
        go_wp2_with fail
        refine (at_in s j _ (by unfold maxLen; omega) hlt).mono ?_
        rintro e w2 ⟨rfl, hb2⟩
        have Hb2 := Lib.hid (Hb.out.trans (hb2.mono hsz))
        have hz2 := hb2.size
        clear hb2
        rw [Hd.out]
        unfold atV
        go_wp2_with fail
        refine (utf_any s _ hs).mono ?_
        rintro e w3 ⟨rfl, hb3⟩
        have Hb3 := Lib.hid (Hb2.out.trans (hb3.mono (by omega)))
        clear hb3
        rw [Hu.out, Sp.from_none s f j hlt Hd.out]
        go_wp2_with fail
        go_ret
        exact ⟨rfl, Hb3.out⟩
      | some p =>
        obtain ⟨c, n⟩ := p
        obtain ⟨hn1, hn2, hn3⟩ := Sp.dec_room hd
        have Hd := Lib.hid hd
        clear hd
        have fe : ((s.extract j (j + n)).toList == (s.extract j (j + n)).toList) = true := by simp
        have fi : ((j : Int) + (n : Int)).toNat = j + n := by omega
        go_wp2_with fail
        refine (at_in s j _ (by unfold maxLen; omega) hlt).mono ?_
        rintro e w2 ⟨rfl, hb2⟩
        have Hb2 := Lib.hid (Hb.out.trans (hb2.mono hsz))
        have hz2 := hb2.size
        clear hb2
        rw [Hd.out]
        unfold atV
        go_wp2_with fail
        refine (char_at s j n c Hd.out _).mono ?_
        rintro e w3 ⟨rfl, hb3⟩
        have Hb3 := Lib.hid (Hb2.out.trans (hb3.mono (by omega)))
        clear hb3
        go_wp2_with fail
        go_roundw
        case rel =>
          obtain ⟨g, hg, he⟩ := Sp.from_some s f j c n hlt hf Hd.out
          exact ⟨j + n, g, by omega, by go_num, hg, by rw [Hu.out, he], Hb3.out⟩
        case measure => simp [intOf]; omega
    · go_wp2_with fail
      refine (utf_any s _ hs).mono ?_
      rintro e w2 ⟨rfl, hb2⟩
      have Hb2 := Lib.hid (Hb.out.trans (hb2.mono hsz))
      clear hb2
      rw [Hu.out, Sp.from_end s f j (by omega)]
      go_wp2_with fail
      go_ret
      exact ⟨rfl, Hb2.out⟩

theorem contract (H : Type) (enc : TypeId × Value → H) (W : World) (base : Nat) (args : Array Value) (ds gs : List (DataW H)) (before : List MemPlace)
    (hval : ∀ (j : Nat) t v, Tryd.f4.params[j]? = some t → args[j]? = some v → Value.okWide Tryd.prog W .any base t v)
    (hW : DataW.Whole enc Tryd.prog Tryd.f4.params.toList Rows.wordWalkSpec.vars false W args.toList ds gs before) (hL : laidMetH Tryd.prog laidList W) (hsz : (DataW.weightsEach Tryd.prog (Tryd.f4.params.toList ++ Rows.wordWalkSpec.plain.varTypes Tryd.prog) (ds ++ gs)).all (· ≤ reachBytes) = true) :
    Calls Tryd.prog 4 args W fun e W' => ∃ v, e = .returned v ∧ Rows.wordWalkSpec.post enc Tryd.prog Tryd.f4 false true false false W args v W' := by
  have hW' := hW
  obtain ⟨p, q, hA0, hV, rfl, hfz, hnd⟩ := hW
  have hA : DataW.TrodAll enc Tryd.prog W 0 (fun _ => true) true Tryd.f4.params.toList args.toList ds p := hA0
  rw [Tryd.params4] at hA hval
  obtain ⟨v0, vs0, d0, ds0, p0, q0, hargs0, rfl, rfl, h0, r0⟩ := trodAll_cons hA
  obtain ⟨rfl, rfl, rfl⟩ := trodAll_nil r0
  obtain rfl : args = #[v0] := by cases args; simp_all
  obtain ⟨rfl, rfl⟩ := trodVars_none hV
  obtain ⟨a0, rfl, rfl, rfl, w0⟩ := open_string Tryd.underlying9 (hval 0 9 v0 rfl rfl) h0
  have hl0 := sized_string hsz (j := 0) (t := 9) rfl rfl
  have e0 : a0.size = a0.data.size := rfl
  have g0 : a0.data.toList.length = a0.data.size := Array.length_toList
  have hrb := reachBytes_lt
  clear hA0
  simp only [List.append_nil] at hW'
  refine (walk_any a0 W (by omega) (laid_of hL)).mono fun e W' ⟨he, hnx⟩ => ?_
  subst he
  refine ⟨_, rfl, _, _, _, [], [], [], hW', ?_, ?_, rfl, hnx.frame _, fun h => by cases h⟩
  · exact trodAll_cons_mk (shut_bool Tryd.underlying4 _) trodAll_mk0
  · exact (trodAll_cons_mk (shut_string Tryd.underlying9 w0) trodAll_mk0)

theorem reads (os : Os) {H : Type} (enc : TypeId × Value → H) : ∃ places, DataW.whole enc Tryd.prog ((laidWorld os).forCall (fun _ _ => 0) ⟨#[], #[.string ⟨#[]⟩], []⟩).memory Tryd.f4.params.toList Rows.wordWalkSpec.vars false (Array.toList #[.string ⟨#[]⟩]) 8 = some ([.lit (.string [])], [], places) :=
  ⟨[], by kernel_rfl⟩

set_option maxRecDepth 100000 in
theorem lifted (os : Os) (started : os.Started) (H : Type) (enc : TypeId × Value → H) (F : Stop.Interp) :
    ReturnsInHanded {} Tryd.checked os 4 .any ((OpenSpec.ofChange Rows.wordWalkSpec).preRow enc Tryd.prog Tryd.f4 Rows.wordWalkRow.domain false Rows.wordWalkRow.laid) (((OpenSpec.ofChange Rows.wordWalkSpec).at F).post enc Tryd.prog Tryd.f4 false true false false) := by
  obtain ⟨places, hx⟩ := reads os enc
  refine returnsInHanded_of_row (C := Tryd.checked) (s := (OpenSpec.ofChange Rows.wordWalkSpec)) own started (by kernel_rfl) Tryd.func4
    (witness_row_atRef (enc := enc) (C := Tryd.checked) false (laidWorld os) #[.string ⟨#[]⟩] rfl (by kernel_rfl) (by kernel_rfl) (by kernel_rfl)
      (OpenSpec.preRow_of_cond 8 hx (by kernel_rfl) (fun k hk => by cases hk) (by kernel_rfl) (laid_met os _))) ?_
  intro W base args ds gs before hval hW _ hcond hsz hL _ _
  exact contract H enc W base args ds gs before hval hW hL hsz

theorem said : Rows.WordWalkSaid :=
  OpenClaim.holds_of_cond 4 Tryd.f4 rfl rfl rfl rfl rfl rfl rfl ⟨rfl, rfl, rfl, rfl, rfl⟩ rfl rfl rfl rfl rfl (by kernel_rfl) Tryd.func4 (by kernel_rfl)
    (of_decide_eq_true (by kernel_rfl)) (by unfold Func.isWrapper; first | (rw [if_pos (by decide +kernel)]; kernel_rfl) | (rw [if_neg (by decide +kernel)]; exact ⟨rfl, rfl⟩))
    (fun os started H enc _ F => by rw [OpenClaim.pre_eq_preRow]; exact lifted os started H enc F)

theorem plain (f : FuncId) (fn : Func) (hf : Tryd.pinned.checked.prog.funcNamed ("tollgate/tollgatelaw01.WordWalk") = some f) (hfn : Tryd.pinned.checked.prog.funcs[f]? = some fn) :
    true = Tryd.pinned.checked.prog.looks [] ∧ ∀ (j : Nat) t, fn.params[j]? = some t → Tryd.pinned.checked.prog.wantsStandIn t = false := by
  obtain rfl : f = 4 := Option.some.inj ((show Tryd.prog.funcNamed ("tollgate/tollgatelaw01.WordWalk") = some 4 by kernel_rfl).symm.trans hf) |>.symm
  obtain rfl : fn = Tryd.f4 := (Option.some.inj (Tryd.func4.symm.trans hfn)).symm
  refine ⟨by kernel_rfl, fun j t ht => ?_⟩
  rw [Tryd.params4] at ht
  have hm := Array.mem_of_getElem? ht
  simp only [List.mem_toArray, List.mem_cons, List.not_mem_nil, or_false] at hm
  rcases hm with rfl
  all_goals exact (show Tryd.prog.wantsStandIn _ = false by kernel_rfl)

theorem card : Rows.WordWalkCardSaid :=
  Claim7.holds_tied_plain_at .later [] _ _ _ _ said (fun _ h => by cases h) (by kernel_rfl) (fun _ h => by cases h) wordWalk_row_tie rfl ⟨rfl, rfl⟩ (by kernel_rfl) rfl plain (by kernel_rfl)
end Go.Proofs.YtmodaefcipchpabDoor.walk

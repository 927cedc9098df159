/-
  WordBack, where the arguments (and the library's table and errors) are together of bulk at most 1048576: a number's form is read as the number, a quoted text as what it quotes; what is read as a number is its form, what is read as a quoted text is quoted so; the arguments stay as they were. The library's table and its two errors are as its own text lays them (the card ties them). Without the bound a quoted text could pass what a slice may take.
-/
import Derived.Test.YtmodaefcipchpaaDoorWorks
import Derived.Test.YtmodaefcipchpaaDoorLaid
import Derived.Test.YtmodaefcipchpaaDoorMathBack
import Derived.ShutString
namespace Go.Proofs.YtmodaefcipchpaaDoor.back
open Go.ChangeShapes Go.WideShapes Go.ChangeAt Go.RowKit
open Go.ChangeMaps (open_string shut_string)

theorem dF_len : ∀ (k u : Nat), (dF k u).length ≤ k + 1
  | 0, u => by simp [dF]
  | k + 1, u => by
    unfold dF
    by_cases h : u < 10
    · rw [if_pos h]; simp
    · rw [if_neg h, List.length_append]; have := dF_len k (u / 10); simp; omega
theorem itoa_len (n : Int) (h0 : -9223372036854775808 ≤ n) (h1 : n ≤ 9223372036854775807) : (Lib.itoa n).length ≤ 21 := by
  unfold Lib.itoa
  by_cases hn : n < 0
  · rw [if_pos hn, dF_eq 19 _ (by omega)]; have := dF_len 19 n.natAbs; simp; omega
  · rw [if_neg hn, dF_eq 19 _ (by omega)]; have := dF_len 19 n.toNat; omega
theorem parse_number (n : Int) (w : World) (h0 : -9223372036854775808 ≤ n) (h1 : n ≤ 9223372036854775807) (hL : Laid w) :
    Calls Tryd.prog 8 #[.string ⟨(Lib.itoa n).toArray⟩] w fun e w' => e = .returned (.tuple #[.int .i64 n, .bool true]) ∧ Below w.heap.size w w' := by
  have hl := itoa_len n h0 h1
  have := parse_any ⟨(Lib.itoa n).toArray⟩ w (by show (Lib.itoa n).toArray.size ≤ _; rw [List.size_toArray]; omega) hL
  rw [Sp.parse_of n h0 h1] at this
  exact this
theorem unq_quote (s : ByteArray) (w : World) (hs : s.size ≤ 16777216) :
    Calls Tryd.prog 12 #[.string (strOfNums (Sp.quote s))] w fun e w' => e = .returned (.tuple #[.string s, .bool true]) ∧ Below w.heap.size w w' := by
  have hl : (Sp.quote s).length ≤ 4 * s.size + 2 := by have := Sp.qs_len s s.size; unfold Sp.quote; rw [List.length_append]; simp; omega
  have := unq_any (strOfNums (Sp.quote s)) w (by rw [strOfNums_size]; omega)
  have e : unqV (some (nums s)) = .tuple #[.string s, .bool true] := by
    show Value.tuple #[.string (strOfNums (nums s)), .bool true] = _
    rw [of_nums]
  rw [unquote_quote s, e] at this
  exact this
theorem quote_read (t : ByteArray) (l : List Int) (w : World) (ht : t.size ≤ 16777216) (h : Sp.unquote t = some l) :
    Calls Tryd.prog 14 #[.string (strOfNums l)] w fun e w' => e = .returned (.string t) ∧ Below w.heap.size w w' := by
  obtain ⟨hq, hl⟩ := quote_unquote t l h
  have := quote_any (strOfNums l) w (by rw [strOfNums_size]; omega)
  rw [hq, of_nums] at this
  exact this

set_option maxHeartbeats 1600000 in
set_option maxRecDepth 100000 in
theorem back_any (n : Int) (s t : ByteArray) (w : World) (hn0 : -9223372036854775808 ≤ n) (hn1 : n ≤ 9223372036854775807) (hs : s.size ≤ 16777216) (ht : t.size ≤ 16777216) (hL : Laid w) :
    Calls Tryd.prog 5 #[.int .i64 n, .string s, .string t] w fun e w' => e = .returned (.bool true) ∧ Below w.heap.size w w' := by
  have HL := Lib.hid hL
  clear hL
  have fs : (s.toList == s.toList) = true := by simp
  have ft : (t.toList == t.toList) = true := by simp
  have fn : (n != n) = false := by simp
  go_enter Tryd.func5, Tryd.ntmps5
  go_wp2_with fail
  refine (works_any _ HL.out).mono ?_
  rintro e w1 ⟨rfl, hb1⟩
  have HL1 := Lib.hid (HL.out.below hb1)
  have Hb1 := Lib.hid hb1
  have hz1 := hb1.size
  clear hb1 HL
  go_wp2_with fail
  refine (number_any n _ hn0 hn1 HL1.out).mono ?_
  rintro e w2 ⟨rfl, hb2⟩
  have HL2 := Lib.hid (HL1.out.below hb2)
  have Hb2 := Lib.hid (Hb1.out.trans (hb2.mono hz1))
  have hz2 := hb2.size
  clear hb2 HL1 Hb1
  go_wp2_with fail
  refine (parse_number n _ hn0 hn1 HL2.out).mono ?_
  rintro e w3 ⟨rfl, hb3⟩
  have HL3 := Lib.hid (HL2.out.below hb3)
  have Hb3 := Lib.hid (Hb2.out.trans (hb3.mono (by omega)))
  have hz3 := hb3.size
  clear hb3 HL2 Hb2
  go_wp2_with fail
  refine (quote_any s _ hs).mono ?_
  rintro e w4 ⟨rfl, hb4⟩
  have HL4 := Lib.hid (HL3.out.below hb4)
  have Hb4 := Lib.hid (Hb3.out.trans (hb4.mono (by omega)))
  have hz4 := hb4.size
  clear hb4 HL3 Hb3
  go_wp2_with fail
  refine (unq_quote s _ hs).mono ?_
  rintro e w5 ⟨rfl, hb5⟩
  have HL5 := Lib.hid (HL4.out.below hb5)
  have Hb5 := Lib.hid (Hb4.out.trans (hb5.mono (by omega)))
  have hz5 := hb5.size
  clear hb5 HL4 Hb4
  go_wp2_with fail
  refine (parse_any t _ (by omega) HL5.out).mono ?_
  rintro e w6 ⟨rfl, hb6⟩
  have HL6 := Lib.hid (HL5.out.below hb6)
  have Hb6 := Lib.hid (Hb5.out.trans (hb6.mono (by omega)))
  have hz6 := hb6.size
  clear hb6 HL5 Hb5
  cases hp : Sp.parse t.data.toList with
  | none =>
    clear hp
    unfold parseV
    go_wp2_with fail
    refine (unq_any t _ (by omega)).mono ?_
    rintro e w7 ⟨rfl, hb7⟩
    have Hb7 := Lib.hid (Hb6.out.trans (hb7.mono (by omega)))
    have hz7 := hb7.size
    clear hb7 Hb6
    cases hu : Sp.unquote t with
    | none =>
      clear hu
      unfold unqV
      go_wp2_with fail
      go_ret
      exact ⟨rfl, Hb7.out⟩
    | some l =>
      have Hu := Lib.hid hu
      clear hu
      unfold unqV
      go_wp2_with fail
      refine (quote_read t l _ ht Hu.out).mono ?_
      rintro e w8 ⟨rfl, hb8⟩
      have Hb8 := Lib.hid (Hb7.out.trans (hb8.mono (by omega)))
      clear hb8
      go_wp2_with fail
      go_ret
      exact ⟨by simp, Hb8.out⟩
  | some c =>
    obtain ⟨hc, hc0, hc1⟩ := Sp.parse_some hp
    have fc : (Lib.itoa c == t.toList) = true := by rw [ByteArray.toList_eq]; exact beq_iff_eq.2 hc
    clear hp hc
    unfold parseV
    go_wp2_with fail
    refine (unq_any t _ (by omega)).mono ?_
    rintro e w7 ⟨rfl, hb7⟩
    have HL7 := Lib.hid (HL6.out.below hb7)
    have Hb7 := Lib.hid (Hb6.out.trans (hb7.mono (by omega)))
    have hz7 := hb7.size
    clear hb7 Hb6 HL6
    cases hu : Sp.unquote t with
    | none =>
      clear hu
      unfold unqV
      go_wp2_with fail
      refine (number_any c _ hc0 hc1 HL7.out).mono ?_
      rintro e w8 ⟨rfl, hb8⟩
      have Hb8 := Lib.hid (Hb7.out.trans (hb8.mono (by omega)))
      clear hb8
      go_wp2_with fail
      go_ret
      exact ⟨by simp, Hb8.out⟩
    | some l =>
      have Hu := Lib.hid hu
      clear hu
      unfold unqV
      go_wp2_with fail
      refine (number_any c _ hc0 hc1 HL7.out).mono ?_
      rintro e w8 ⟨rfl, hb8⟩
      have Hb8 := Lib.hid (Hb7.out.trans (hb8.mono (by omega)))
      have hz8 := hb8.size
      clear hb8 Hb7
      go_wp2_with fail
      refine (quote_read t l _ ht Hu.out).mono ?_
      rintro e w9 ⟨rfl, hb9⟩
      have Hb9 := Lib.hid (Hb8.out.trans (hb9.mono (by omega)))
      clear hb9
      go_wp2_with fail
      go_ret
      exact ⟨by simp, Hb9.out⟩

theorem contract (H : Type) (enc : TypeId × Value → H) (W : World) (base : Nat) (args : Array Value) (ds gs : List (DataW H)) (before : List MemPlace)
    (hval : ∀ (j : Nat) t v, Tryd.f5.params[j]? = some t → args[j]? = some v → Value.okWide Tryd.prog W .any base t v)
    (hW : DataW.Whole enc Tryd.prog Tryd.f5.params.toList Rows.wordBackSpec.vars false W args.toList ds gs before) (hL : laidMetH Tryd.prog laidList W) (hk : Rows.uptoSmall H (ds ++ gs) = true) :
    Calls Tryd.prog 5 args W fun e W' => ∃ v, e = .returned v ∧ Rows.wordBackSpec.post enc Tryd.prog Tryd.f5 false true false false W args v W' := by
  have hW' := hW
  obtain ⟨p, q, hA0, hV, rfl, hfz, hnd⟩ := hW
  have hA : DataW.TrodAll enc Tryd.prog W 0 (fun _ => true) true Tryd.f5.params.toList args.toList ds p := hA0
  rw [Tryd.params5] at hA hval
  obtain ⟨v0, vs0, d0, ds0, p0, q0, hargs0, rfl, rfl, h0, r0⟩ := trodAll_cons hA
  obtain ⟨v1, vs1, d1, ds1, p1, q1, hargs1, rfl, rfl, h1, r1⟩ := trodAll_cons r0
  obtain ⟨v2, vs2, d2, ds2, p2, q2, hargs2, rfl, rfl, h2, r2⟩ := trodAll_cons r1
  obtain ⟨rfl, rfl, rfl⟩ := trodAll_nil r2
  obtain rfl : args = #[v0, v1, v2] := by cases args; simp_all
  obtain ⟨rfl, rfl⟩ := trodVars_none hV
  obtain ⟨a0, rfl, rfl, rfl, w0⟩ := open_int Tryd.underlying2 (hval 0 2 v0 rfl rfl) h0
  obtain ⟨a1, rfl, rfl, rfl, w1⟩ := open_string Tryd.underlying9 (hval 1 9 v1 rfl rfl) h1
  obtain ⟨a2, rfl, rfl, rfl, w2⟩ := open_string Tryd.underlying9 (hval 2 9 v2 rfl rfl) h2
  have hk2 := of_decide_eq_true hk
  simp only [List.append_nil, Rows.uptoBulkAll, Rows.uptoBulk] at hk2
  have e1 : a1.size = a1.data.size := rfl
  have g1 : a1.data.toList.length = a1.data.size := Array.length_toList
  have e2 : a2.size = a2.data.size := rfl
  have g2 : a2.data.toList.length = a2.data.size := Array.length_toList
  have b0 : -9223372036854775808 ≤ a0 ∧ a0 ≤ 9223372036854775807 := by simpa [Lit.wf, IntKind.min, IntKind.max, IntKind.signed, IntKind.bits] using w0
  clear hA0
  simp only [List.append_nil] at hW'
  refine (back_any a0 a1 a2 W b0.1 b0.2 (by omega) (by omega) (laid_of hL)).mono fun e W' ⟨he, hnx⟩ => ?_
  subst he
  refine ⟨_, rfl, _, _, _, [], [], [], hW', ?_, ?_, rfl, hnx.frame _, fun h => by cases h⟩
  · exact trodAll_cons_mk (shut_bool Tryd.underlying4 _) trodAll_mk0
  · exact (trodAll_cons_mk (shut_int Tryd.underlying2 w0) (trodAll_cons_mk (shut_string Tryd.underlying9 w1) (trodAll_cons_mk (shut_string Tryd.underlying9 w2) trodAll_mk0)))

theorem reads (os : Os) {H : Type} (enc : TypeId × Value → H) : ∃ places, DataW.whole enc Tryd.prog ((laidWorld os).forCall (fun _ _ => 0) ⟨#[], #[.int .i64 0, .string ⟨#[]⟩, .string ⟨#[]⟩], []⟩).memory Tryd.f5.params.toList Rows.wordBackSpec.vars false (Array.toList #[.int .i64 0, .string ⟨#[]⟩, .string ⟨#[]⟩]) 8 = some ([.lit (.int .i64 0), .lit (.string []), .lit (.string [])], [], places) :=
  ⟨[], by kernel_rfl⟩

set_option maxRecDepth 100000 in
theorem lifted (os : Os) (started : os.Started) (H : Type) (enc : TypeId × Value → H) (F : Stop.Interp) :
    ReturnsInHanded {} Tryd.checked os 5 .any ((Rows.OpenSpec.upto Rows.wordBackSpec).preRow enc Tryd.prog Tryd.f5 Rows.wordBackUptoRow.domain false Rows.wordBackUptoRow.laid) (((Rows.OpenSpec.upto Rows.wordBackSpec).at F).post enc Tryd.prog Tryd.f5 false true false false) := by
  obtain ⟨places, hx⟩ := reads os enc
  refine returnsInHanded_of_row (C := Tryd.checked) (s := (Rows.OpenSpec.upto Rows.wordBackSpec)) own started (by kernel_rfl) Tryd.func5
    (witness_row_atRef (enc := enc) (C := Tryd.checked) false (laidWorld os) #[.int .i64 0, .string ⟨#[]⟩, .string ⟨#[]⟩] rfl (by kernel_rfl) (by kernel_rfl) (by kernel_rfl)
      (OpenSpec.preRow_of_cond 8 hx (by kernel_rfl) (fun k hk => by cases hk; kernel_rfl) (by kernel_rfl) (laid_met os _))) ?_
  intro W base args ds gs before hval hW _ hcond hsz hL _ _
  exact contract H enc W base args ds gs before hval hW hL (hcond _ rfl)

theorem said : Rows.WordBackUptoSaid :=
  OpenClaim.holds_of_cond 5 Tryd.f5 rfl rfl rfl rfl rfl rfl rfl ⟨rfl, rfl, rfl, rfl, rfl⟩ rfl rfl rfl rfl rfl (by kernel_rfl) Tryd.func5 (by kernel_rfl)
    (of_decide_eq_true (by kernel_rfl)) (by unfold Func.isWrapper; first | (rw [if_pos (by decide +kernel)]; kernel_rfl) | (rw [if_neg (by decide +kernel)]; exact ⟨rfl, rfl⟩))
    (fun os started H enc _ F => by rw [OpenClaim.pre_eq_preRow]; exact lifted os started H enc F)

theorem plain (f : FuncId) (fn : Func) (hf : Tryd.pinned.checked.prog.funcNamed ("tollgate/tollgatelaw01.WordBack") = some f) (hfn : Tryd.pinned.checked.prog.funcs[f]? = some fn) :
    true = Tryd.pinned.checked.prog.looks [] ∧ ∀ (j : Nat) t, fn.params[j]? = some t → Tryd.pinned.checked.prog.wantsStandIn t = false := by
  obtain rfl : f = 5 := Option.some.inj ((show Tryd.prog.funcNamed ("tollgate/tollgatelaw01.WordBack") = some 5 by kernel_rfl).symm.trans hf) |>.symm
  obtain rfl : fn = Tryd.f5 := (Option.some.inj (Tryd.func5.symm.trans hfn)).symm
  refine ⟨by kernel_rfl, fun j t ht => ?_⟩
  rw [Tryd.params5] at ht
  have hm := Array.mem_of_getElem? ht
  simp only [List.mem_toArray, List.mem_cons, List.not_mem_nil, or_false] at hm
  rcases hm with rfl | rfl | rfl
  all_goals exact (show Tryd.prog.wantsStandIn _ = false by kernel_rfl)

theorem card : Rows.WordBackUptoCardSaid :=
  Claim7.holds_tied_plain_at .later [] _ _ _ _ said (fun _ h => by cases h) (by kernel_rfl) (fun _ h => by cases h) wordBackUpto_row_tie rfl ⟨rfl, rfl⟩ (by kernel_rfl) rfl plain (by kernel_rfl)
end Go.Proofs.YtmodaefcipchpaaDoor.back

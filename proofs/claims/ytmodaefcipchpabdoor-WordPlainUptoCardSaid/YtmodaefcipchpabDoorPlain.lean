/-
  WordPlain, where the arguments (and the library's table and errors) are together of bulk at most 1048576: a quoted text is of plain bytes alone, no part of its beginning is one, and it is read as what it quotes; the arguments stay as they were. The library's table and its two errors are as its own text lays them (the card ties them). Without the bound a quoted text could pass what a slice may take.
-/
import Derived.Test.YtmodaefcipchpabDoorWorks
import Derived.Test.YtmodaefcipchpabDoorLaid
import Derived.Test.YtmodaefcipchpabDoorMathBack
import Derived.ShutString
namespace Go.Proofs.YtmodaefcipchpabDoor.plainq
open Go.ChangeShapes Go.WideShapes Go.ChangeAt Go.RowKit
open Go.ChangeMaps (open_string shut_string)

/-- where a text of n bytes is cut -/
theorem cut_in (cut : Int) (n : Nat) (h1 : 1 ≤ n) (hm : n ≤ 140737488355328) : ∃ k : Nat, k < n ∧ wrap64 ((IntKind.u64.wrap cut).tmod n) = k := by
  have hu : 0 ≤ IntKind.u64.wrap cut := by rw [IntKind.wrap_u64]; omega
  have e : (IntKind.u64.wrap cut).tmod n = (IntKind.u64.wrap cut) % n := Int.tmod_eq_emod_of_nonneg hu
  have h0 : 0 ≤ (IntKind.u64.wrap cut) % (n : Int) := Int.emod_nonneg _ (by omega)
  have h2 : (IntKind.u64.wrap cut) % (n : Int) < n := Int.emod_lt_of_pos _ (by omega)
  refine ⟨((IntKind.u64.wrap cut) % (n : Int)).toNat, by omega, ?_⟩
  rw [e]
  unfold wrap64
  omega
/-- what the program needs of a quoted text -/
structure Quoted (q s : ByteArray) : Prop where
  two : 2 ≤ q.size
  most : q.size ≤ 70368744177664
  plain : ∀ j (h : j < q.size), 32 ≤ (q[j]'h).toNat ∧ (q[j]'h).toNat ≤ 126
  ahead : ∀ k, k < q.size → Sp.unquote (q.extract 0 k) = none
  whole : Sp.unquote q = some (nums s)

theorem extract_take (L : List Int) (k : Nat) : (strOfNums L).extract 0 k = strOfNums (L.take k) := by
  apply ByteArray.ext
  apply Array.ext'
  simp [strOfNums, List.map_take]

theorem quoted (s : ByteArray) (hs : s.size ≤ 16777216) : Quoted (strOfNums (Sp.quote s)) s := by
  have hl : (Sp.quote s).length ≤ 4 * s.size + 2 := by have := Sp.qs_len s s.size; unfold Sp.quote; rw [List.length_append]; simp; omega
  refine ⟨by rw [strOfNums_size]; exact quote_len s, by rw [strOfNums_size]; omega, fun j h => ?_, fun k hk => ?_, unquote_quote s⟩
  · have h' : j < (Sp.quote s).length := by rw [strOfNums_size] at h; exact h
    have g := Sp.bt_get (strOfNums (Sp.quote s)) j h
    have b := bt_take (Sp.quote s) (Sp.quote s).length j (quote_byte s) h'
    rw [List.take_length, List.getD_eq_getElem?_getD, List.getElem?_eq_getElem h', Option.getD_some, g] at b
    have := quote_plain s _ (List.getElem_mem h')
    omega
  · rw [strOfNums_size] at hk
    rw [extract_take _ k]
    exact unquote_part s k hk

set_option maxHeartbeats 1600000 in
set_option maxRecDepth 100000 in
theorem plain_any (s : ByteArray) (cut : Int) (w : World) (hs : s.size ≤ 16777216) (hL : Laid w) :
    Calls Tryd.prog 3 #[.string s, .int .i64 cut] w fun e w' => e = .returned (.bool true) ∧ Below w.heap.size w w' := by
  have HL := Lib.hid hL
  clear hL
  have hQ := quoted s hs
  have hq := quote_any s
  generalize strOfNums (Sp.quote s) = q at hQ hq
  obtain ⟨m, hm1, hm2⟩ := cut_in cut q.size (by have := hQ.two; omega) (by have := hQ.most; omega)
  have HQ := Lib.hid hQ
  have Hq := Lib.hid hq
  have h2 := hQ.two
  have hm := hQ.most
  clear hQ hq
  go_enter Tryd.func3, Tryd.ntmps3
  go_wp2_with fail
  refine (works_any _ HL.out).mono ?_
  rintro e w1 ⟨rfl, hb1⟩
  have Hb1 := Lib.hid hb1
  have hz1 := hb1.size
  clear hb1 HL
  go_wp2_with fail
  refine (Hq.out _ hs).mono ?_
  rintro e w2 ⟨rfl, hb2⟩
  have Hb2 := Lib.hid (Hb1.out.trans (hb2.mono hz1))
  have hz2 := hb2.size
  clear hb2 Hb1
  go_wp2_with fail
  go_loop [6] (fun i => ∃ k : Nat, k ≤ q.size ∧ i = .int .i64 k) (fun i => q.size - (intOf i).toNat)
  case atStart => exact ⟨0, Nat.zero_le _, rfl⟩
  case round =>
    obtain ⟨k, hk, rfl⟩ := hrel
    by_cases hlt : k < q.size
    · have hp := HQ.out.plain k hlt
      have hp1 : (32 : Int) ≤ ((q[k]'hlt).toNat : Int) := by omega
      have hp2 : ((q[k]'hlt).toNat : Int) ≤ 126 := by omega
      clear hp
      go_wp2_with fail
      go_round
      case rel => exact ⟨k + 1, by omega, by go_num⟩
      case measure => simp [intOf]; omega
    · have ha := fun wx => unq_any (q.extract 0 m) wx (by simp; omega)
      rw [HQ.out.ahead m hm1] at ha
      have Ha := Lib.hid ha
      clear ha
      have hw : ∀ wx, Calls Tryd.prog 9 #[.string q] wx fun e w' => e = .returned (.tuple #[.string s, .bool true]) ∧ Below wx.heap.size wx w' := fun wx => by
        have := unq_any q wx (by omega)
        rw [HQ.out.whole] at this
        have e : unqV (some (nums s)) = .tuple #[.string s, .bool true] := by
          show Value.tuple #[.string (strOfNums (nums s)), .bool true] = _
          rw [of_nums]
        rw [e] at this
        exact this
      have Hw := Lib.hid hw
      clear hw
      have fs : (s.toList == s.toList) = true := by simp
      go_wp2_with fail
      refine (Ha.out _).mono ?_
      rintro e w3 ⟨rfl, hb3⟩
      have Hb3 := Lib.hid (Hb2.out.trans (hb3.mono (by omega)))
      have hz3 := hb3.size
      clear hb3 Hb2
      unfold unqV
      go_wp2_with fail
      refine (Hw.out _).mono ?_
      rintro e w4 ⟨rfl, hb4⟩
      have Hb4 := Lib.hid (Hb3.out.trans (hb4.mono (by omega)))
      clear hb4 Hb3
      go_wp2_with fail
      go_ret
      exact ⟨by simp, Hb4.out⟩

theorem contract (H : Type) (enc : TypeId × Value → H) (W : World) (base : Nat) (args : Array Value) (ds gs : List (DataW H)) (before : List MemPlace)
    (hval : ∀ (j : Nat) t v, Tryd.f3.params[j]? = some t → args[j]? = some v → Value.okWide Tryd.prog W .any base t v)
    (hW : DataW.Whole enc Tryd.prog Tryd.f3.params.toList Rows.wordPlainSpec.vars false W args.toList ds gs before) (hL : laidMetH Tryd.prog laidList W) (hk : Rows.uptoSmall H (ds ++ gs) = true) :
    Calls Tryd.prog 3 args W fun e W' => ∃ v, e = .returned v ∧ Rows.wordPlainSpec.post enc Tryd.prog Tryd.f3 false true false false W args v W' := by
  have hW' := hW
  obtain ⟨p, q, hA0, hV, rfl, hfz, hnd⟩ := hW
  have hA : DataW.TrodAll enc Tryd.prog W 0 (fun _ => true) true Tryd.f3.params.toList args.toList ds p := hA0
  rw [Tryd.params3] at hA hval
  obtain ⟨v0, vs0, d0, ds0, p0, q0, hargs0, rfl, rfl, h0, r0⟩ := trodAll_cons hA
  obtain ⟨v1, vs1, d1, ds1, p1, q1, hargs1, rfl, rfl, h1, r1⟩ := trodAll_cons r0
  obtain ⟨rfl, rfl, rfl⟩ := trodAll_nil r1
  obtain rfl : args = #[v0, v1] := by cases args; simp_all
  obtain ⟨rfl, rfl⟩ := trodVars_none hV
  obtain ⟨a0, rfl, rfl, rfl, w0⟩ := open_string Tryd.underlying9 (hval 0 9 v0 rfl rfl) h0
  obtain ⟨a1, rfl, rfl, rfl, w1⟩ := open_int Tryd.underlying3 (hval 1 3 v1 rfl rfl) h1
  have hk2 := of_decide_eq_true hk
  simp only [List.append_nil, Rows.uptoBulkAll, Rows.uptoBulk] at hk2
  have e0 : a0.size = a0.data.size := rfl
  have g0 : a0.data.toList.length = a0.data.size := Array.length_toList
  clear hA0
  simp only [List.append_nil] at hW'
  refine (plain_any a0 a1 W (by omega) (laid_of hL)).mono fun e W' ⟨he, hnx⟩ => ?_
  subst he
  refine ⟨_, rfl, _, _, _, [], [], [], hW', ?_, ?_, rfl, hnx.frame _, fun h => by cases h⟩
  · exact trodAll_cons_mk (shut_bool Tryd.underlying4 _) trodAll_mk0
  · exact (trodAll_cons_mk (shut_string Tryd.underlying9 w0) (trodAll_cons_mk (shut_int Tryd.underlying3 w1) trodAll_mk0))

theorem reads (os : Os) {H : Type} (enc : TypeId × Value → H) : ∃ places, DataW.whole enc Tryd.prog ((laidWorld os).forCall (fun _ _ => 0) ⟨#[], #[.string ⟨#[]⟩, .int .i64 0], []⟩).memory Tryd.f3.params.toList Rows.wordPlainSpec.vars false (Array.toList #[.string ⟨#[]⟩, .int .i64 0]) 8 = some ([.lit (.string []), .lit (.int .i64 0)], [], places) :=
  ⟨[], by kernel_rfl⟩

set_option maxRecDepth 100000 in
theorem lifted (os : Os) (started : os.Started) (H : Type) (enc : TypeId × Value → H) (F : Stop.Interp) :
    ReturnsInHanded {} Tryd.checked os 3 .any ((Rows.OpenSpec.upto Rows.wordPlainSpec).preRow enc Tryd.prog Tryd.f3 Rows.wordPlainUptoRow.domain false Rows.wordPlainUptoRow.laid) (((Rows.OpenSpec.upto Rows.wordPlainSpec).at F).post enc Tryd.prog Tryd.f3 false true false false) := by
  obtain ⟨places, hx⟩ := reads os enc
  refine returnsInHanded_of_row (C := Tryd.checked) (s := (Rows.OpenSpec.upto Rows.wordPlainSpec)) own started (by kernel_rfl) Tryd.func3
    (witness_row_atRef (enc := enc) (C := Tryd.checked) false (laidWorld os) #[.string ⟨#[]⟩, .int .i64 0] rfl (by kernel_rfl) (by kernel_rfl) (by kernel_rfl)
      (OpenSpec.preRow_of_cond 8 hx (by kernel_rfl) (fun k hk => by cases hk; kernel_rfl) (by kernel_rfl) (laid_met os _))) ?_
  intro W base args ds gs before hval hW _ hcond hsz hL _ _
  exact contract H enc W base args ds gs before hval hW hL (hcond _ rfl)

theorem said : Rows.WordPlainUptoSaid :=
  OpenClaim.holds_of_cond 3 Tryd.f3 rfl rfl rfl rfl rfl rfl rfl ⟨rfl, rfl, rfl, rfl, rfl⟩ rfl rfl rfl rfl rfl (by kernel_rfl) Tryd.func3 (by kernel_rfl)
    (of_decide_eq_true (by kernel_rfl)) (by unfold Func.isWrapper; first | (rw [if_pos (by decide +kernel)]; kernel_rfl) | (rw [if_neg (by decide +kernel)]; exact ⟨rfl, rfl⟩))
    (fun os started H enc _ F => by rw [OpenClaim.pre_eq_preRow]; exact lifted os started H enc F)

theorem plain (f : FuncId) (fn : Func) (hf : Tryd.pinned.checked.prog.funcNamed ("tollgate/tollgatelaw01.WordPlain") = some f) (hfn : Tryd.pinned.checked.prog.funcs[f]? = some fn) :
    true = Tryd.pinned.checked.prog.looks [] ∧ ∀ (j : Nat) t, fn.params[j]? = some t → Tryd.pinned.checked.prog.wantsStandIn t = false := by
  obtain rfl : f = 3 := Option.some.inj ((show Tryd.prog.funcNamed ("tollgate/tollgatelaw01.WordPlain") = some 3 by kernel_rfl).symm.trans hf) |>.symm
  obtain rfl : fn = Tryd.f3 := (Option.some.inj (Tryd.func3.symm.trans hfn)).symm
  refine ⟨by kernel_rfl, fun j t ht => ?_⟩
  rw [Tryd.params3] at ht
  have hm := Array.mem_of_getElem? ht
  simp only [List.mem_toArray, List.mem_cons, List.not_mem_nil, or_false] at hm
  rcases hm with rfl | rfl
  all_goals exact (show Tryd.prog.wantsStandIn _ = false by kernel_rfl)

theorem card : Rows.WordPlainUptoCardSaid :=
  Claim7.holds_tied_plain_at .later [] _ _ _ _ said (fun _ h => by cases h) (by kernel_rfl) (fun _ h => by cases h) wordPlainUpto_row_tie rfl ⟨rfl, rfl⟩ (by kernel_rfl) rfl plain (by kernel_rfl)
end Go.Proofs.YtmodaefcipchpabDoor.plainq

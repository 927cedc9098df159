/-
  WordMore, for every text, any byte at any place: a name with more of its own bytes is one, as long as there is room; one with a byte that may not stand is none; the text stays as it was. The library's table and its two errors are as its own text lays them (the card ties them).
-/
import Derived.Test.YtmodaefcipchpabDoorWorks
import Derived.Test.YtmodaefcipchpabDoorLaid
import Derived.Test.YtmodaefcipchpabDoorMathMore
import Derived.ShutString
import Derived.SizedLaws
import Derived.IntWalk
import Derived.Deep.RegionHeld3
namespace Go.Proofs.YtmodaefcipchpabDoor.more
open Go.ChangeShapes Go.WideShapes Go.ChangeAt Go.RowKit
open Go.ChangeMaps (open_string shut_string)

theorem name_is (s : ByteArray) (b : Bool) (h : Sp.nameB s = b) (hs : s.size ≤ maxLen) (w : World) :
    Calls Tryd.prog 13 #[.string s] w fun e w' => e = .returned (.bool b) ∧ Below w.heap.size w w' := by
  subst h; exact name_any s w hs
/-- where a text of n bytes is cut -/
theorem cut_in (cut : Int) (n : Nat) (h1 : 1 ≤ n) (hm : n ≤ 140737488355328) : ∃ k : Nat, k < n ∧ wrap64 ((IntKind.u64.wrap cut).tmod n) = k := by
  have hu : 0 ≤ IntKind.u64.wrap cut := by rw [IntKind.wrap_u64]; omega
  have e : (IntKind.u64.wrap cut).tmod n = (IntKind.u64.wrap cut) % n := Int.tmod_eq_emod_of_nonneg hu
  have h0 : 0 ≤ (IntKind.u64.wrap cut) % (n : Int) := Int.emod_nonneg _ (by omega)
  have h2 : (IntKind.u64.wrap cut) % (n : Int) < n := Int.emod_lt_of_pos _ (by omega)
  refine ⟨((IntKind.u64.wrap cut) % (n : Int)).toNat, by omega, ?_⟩
  rw [e]
  unfold wrap64
  omega

set_option maxHeartbeats 1600000 in
set_option maxRecDepth 100000 in
theorem more_none (s : ByteArray) (c : Int) (cut : Int) (w : World) (hs : s.size ≤ 140737488355328) (hn : Sp.nameB s = false) (hL : Laid w) :
    Calls Tryd.prog 6 #[.string s, .int .u8 c, .int .i64 cut] w fun e w' => e = .returned (.bool true) ∧ Below w.heap.size w w' := by
  have HL := Lib.hid hL
  have Hn := Lib.hid (name_is s false hn (by unfold maxLen; omega))
  clear hL
  by_cases h0 : s.size = 0
  · have f0 : ((s.size : Int) == 0) = true := by rw [beq_iff_eq]; omega
    clear hn
    go_enter Tryd.func6, Tryd.ntmps6
    go_wp2_with fail
    refine (works_any _ HL.out).mono ?_
    rintro e w1 ⟨rfl, hb1⟩
    have Hb1 := Lib.hid hb1
    have hz1 := hb1.size
    clear hb1 HL
    go_wp2_with fail
    refine (Hn.out _).mono ?_
    rintro e w2 ⟨rfl, hb2⟩
    have Hb2 := Lib.hid (Hb1.out.trans (hb2.mono hz1))
    clear hb2 Hb1
    go_wp2_with fail
    all_goals (go_ret; exact ⟨rfl, Hb2.out⟩)
  · have f0 : ((s.size : Int) == 0) = false := by rw [beq_eq_false_iff_ne]; omega
    have h1 : 1 ≤ s.size := by omega
    clear h0
    by_cases h2 : 32 < s.size
    · clear hn
      go_enter Tryd.func6, Tryd.ntmps6
      go_wp2_with fail
      refine (works_any _ HL.out).mono ?_
      rintro e w1 ⟨rfl, hb1⟩
      have Hb1 := Lib.hid hb1
      have hz1 := hb1.size
      clear hb1 HL
      go_wp2_with fail
      refine (Hn.out _).mono ?_
      rintro e w2 ⟨rfl, hb2⟩
      have Hb2 := Lib.hid (Hb1.out.trans (hb2.mono hz1))
      clear hb2 Hb1
      go_wp2_with fail
      all_goals (go_ret; exact ⟨rfl, Hb2.out⟩)
    · have h3 : s.size ≤ 32 := by omega
      clear h2
      have hor := Sp.more_no s hn h1 h3
      have Hx := Lib.hid (fun wx => name_is (⟨#[97]⟩ ++ s.extract 1 s.size) _ rfl (by unfold maxLen; have : (ByteArray.mk #[97]).size = 1 := rfl; simp [this]; omega) wx)
      have Hy := Lib.hid (fun wx => name_is (s.extract 0 1) _ rfl (by unfold maxLen; simp; omega) wx)
      change Sp.nameB (⟨#[97]⟩ ++ s.extract 1 s.size) = false ∨ Sp.nameB (s.extract 0 1) = false at hor
      have hone : (1 : Int) ≤ (s.size : Int) := by omega
      generalize Sp.nameB (⟨#[97]⟩ ++ s.extract 1 s.size) = bx at Hx hor
      generalize Sp.nameB (s.extract 0 1) = by' at Hy hor
      have hadd : ((1 + (s.size - 1) : Nat) : Int) ≤ 9223372036854775807 := by omega
      have hsx : (ByteArray.mk #[97]).size = 1 := rfl
      have hsy : (s.extract 1 s.size).size = s.size - 1 := by simp
      clear hn
      go_enter Tryd.func6, Tryd.ntmps6
      go_wp2_with fail
      refine (works_any _ HL.out).mono ?_
      rintro e w1 ⟨rfl, hb1⟩
      have Hb1 := Lib.hid hb1
      have hz1 := hb1.size
      clear hb1 HL
      go_wp2_with fail
      refine (Hn.out _).mono ?_
      rintro e w2 ⟨rfl, hb2⟩
      have Hb2 := Lib.hid (Hb1.out.trans (hb2.mono hz1))
      have hz2 := hb2.size
      clear hb2 Hb1
      go_wp2_with fail
      refine (Hx.out _).mono ?_
      rintro e w3 ⟨rfl, hb3⟩
      have Hb3 := Lib.hid (Hb2.out.trans (hb3.mono (by omega)))
      have hz3 := hb3.size
      clear hb3 Hb2
      cases bx with
      | false =>
        go_wp2_with fail
        go_ret
        exact ⟨rfl, Hb3.out⟩
      | true =>
        obtain rfl : by' = false := by simpa using hor
        go_wp2_with fail
        refine (Hy.out _).mono ?_
        rintro e w4 ⟨rfl, hb4⟩
        have Hb4 := Lib.hid (Hb3.out.trans (hb4.mono (by omega)))
        clear hb4
        go_wp2_with fail
        go_ret
        exact ⟨rfl, Hb4.out⟩

theorem conv1d (w : World) (a : Int) (cap : Nat) (t : TypeId) :
    (convert 33 9 (.slice (some ⟨w.heap.size, 0, none⟩) 1 cap)).run Tryd.prog (w.alloc (.cells #[.int .u8 a] t)).drew = .ok (.string (strOfNums [a])) (w.alloc (.cells #[.int .u8 a] t)).drew :=
  run_convert_bytes_arg _ 33 5 under37 underU8 w.heap.size 0 1 cap [a] rfl (fun i hi => by
    match i, hi with
    | 0, _ => exact (cell_of_row _ w.heap.size (0 + 0) #[.int .u8 a] t (0, 0) (heap_alloc_last w _)).trans rfl) 9 underStr

theorem conv_at (w : World) (N : Nat) (a : Int) (t : TypeId) (hk : w.heap[N]? = some (.cells #[.int .u8 a] t (0, 0))) (cap : Nat) :
    (convert 33 9 (.slice (some ⟨N, 0, none⟩) 1 cap)).run Tryd.prog w = .ok (.string (strOfNums [a])) w :=
  run_convert_bytes_arg _ 33 5 under37 underU8 N 0 1 cap [a] rfl (fun i hi => by
    match i, hi with
    | 0, _ => exact (cell_of_row _ N (0 + 0) #[.int .u8 a] t (0, 0) hk).trans rfl) 9 underStr
theorem conv_kept (wx w' : World) (N : Nat) (a : Int) (t : TypeId) (h : Below wx.heap.size wx w') (hk : wx.heap[N]? = some (.cells #[.int .u8 a] t (0, 0))) (cap : Nat) :
    (convert 33 9 (.slice (some ⟨N, 0, none⟩) 1 cap)).run Tryd.prog w' = .ok (.string (strOfNums [a])) w' :=
  conv_at w' N a t ((h.block N (lt_of_block hk)).trans hk) cap
theorem push_two {α : Type} (h : Array α) (a b : α) : ((h.push a).push b)[h.size + 1]? = some b := by
  rw [Array.getElem?_push, if_pos (by simp)]
theorem join {w wx w' : World} (h : Below w.heap.size w wx) (hb : Below wx.heap.size wx w') : Below w.heap.size w w' := h.trans (hb.mono h.size)
theorem b_drew {w wp : World} (h : Below w.heap.size w wp) : Below w.heap.size w wp.drew := ⟨h.os, h.tape, h.output, h.size, h.block⟩
theorem b_alloc {w wp : World} (h : Below w.heap.size w wp) (o : Obj) : Below w.heap.size w (wp.alloc o) := h.alloc h.size o

set_option maxHeartbeats 1600000 in
set_option maxRecDepth 100000 in
theorem more_some (s : ByteArray) (c : Int) (cut : Int) (w : World) (hn : Sp.nameB s = true) (hL : Laid w) :
    Calls Tryd.prog 6 #[.string s, .int .u8 c, .int .i64 cut] w fun e w' => e = .returned (.bool true) ∧ Below w.heap.size w w' := by
  have HL := Lib.hid hL
  obtain ⟨h1, h2, -⟩ := (Sp.name_iff s).1 hn
  have Hn := Lib.hid (name_is s true hn (by unfold maxLen; omega))
  clear hL
  obtain ⟨m, hm1, hm2⟩ := cut_in cut s.size h1 (by omega)
  have Htw := Lib.hid (name_is (s ++ s) _ (Sp.more_twice s hn) (by unfold maxLen; simp; omega))
  have Hpa := Lib.hid (name_is (s.extract 0 (m + 1)) _ (Sp.more_part s hn m hm1) (by unfold maxLen; simp; omega))
  have hadd : ((s.size + s.size : Nat) : Int) ≤ 9223372036854775807 := by omega
  have hd : decide ((2 : Int) * (s.size : Int) ≤ 32) = decide (2 * s.size ≤ 32) := by
    apply decide_eq_decide.2; omega
  have hdd : (decide (2 * s.size ≤ 32) != decide (2 * s.size ≤ 32)) = false := by simp
  have hone : IntKind.i64.wrap ((m : Int) + 1) = (m : Int) + 1 := IntWalk.i64_in _ (by omega)
  have hmt : ((m : Int) + 1).toNat = m + 1 := by omega
  have Hnn := Lib.hid hn
  clear hn
  go_enter Tryd.func6, Tryd.ntmps6
  go_wp2_with fail
  refine (works_any _ HL.out).mono ?_
  rintro e w1 ⟨rfl, hb1⟩
  have Hb1 := Lib.hid hb1
  have hz1 := hb1.size
  clear hb1 HL
  go_wp2_with fail
  refine (Hn.out _).mono ?_
  rintro e w2 ⟨rfl, hb2⟩
  have Hb2 := Lib.hid (Hb1.out.trans (hb2.mono hz1))
  have hz2 := hb2.size
  clear hb2 Hb1
  go_wp2_with fail
  refine (Htw.out _).mono ?_
  rintro e w3 ⟨rfl, hb3⟩
  have Hb3 := Lib.hid (Hb2.out.trans (hb3.mono (by omega)))
  have hz3 := hb3.size
  clear hb3 Hb2
  go_wp2_with fail
  refine (Hpa.out _).mono ?_
  rintro e w4 ⟨rfl, hb4⟩
  have Hb4 := Lib.hid (Hb3.out.trans (hb4.mono (by omega)))
  have hz4 := hb4.size
  clear hb4 Hb3
  go_wp2_with fail
  have kc := fun (w : World) (a : Int) (cap : Nat) (t : TypeId) => conv1d w a cap t
  have hm0 : (0 : Int) ≤ (m : Int) + 1 := by omega
  have hm3 : (m : Int) + 1 ≤ (s.size : Int) := by omega
  obtain ⟨x1, hx1⟩ : ∃ x, s.extract 0 (m + 1) = x := ⟨_, rfl⟩
  obtain ⟨x2, hx2⟩ : ∃ x, strOfNums [c] = x := ⟨_, rfl⟩
  obtain ⟨x3, hx3⟩ : ∃ x, s.extract (m + 1) s.size = x := ⟨_, rfl⟩
  have hE1 : x1.size = m + 1 := by rw [← hx1]; simp; omega
  have hE2 : x2.size = 1 := by rw [← hx2, strOfNums_size]; rfl
  have hE3 : x3.size = s.size - (m + 1) := by rw [← hx3]; simp
  clear hadd hd hdd hm2
  have hsz := Sp.more_size s x2 hE2 m hm1
  rw [hx1, hx3] at hsz
  have hput := Sp.more_put s x2 hE2 Hnn.out m hm1
  rw [hx1, hx3] at hput
  obtain ⟨T, hT⟩ : ∃ T, x1 ++ x2 ++ x3 = T := ⟨_, rfl⟩
  obtain ⟨U, hU⟩ : ∃ U, (⟨#[97]⟩ : ByteArray) ++ x2 = U := ⟨_, rfl⟩
  have hUs : U.size = 2 := by rw [← hU, ByteArray.size_append, hE2]; rfl
  change s.size + 1 ≤ 32 → Sp.nameB (x1 ++ x2 ++ x3) = Sp.nameB ((⟨#[97]⟩ : ByteArray) ++ x2) at hput
  rw [hT] at hsz hput
  rw [hU] at hput
  have Hput := Lib.hid hput
  clear hput
  go_region_with (fail)
  by_cases h33 : s.size = 32
  · have Ht := Lib.hid (name_is T false (Sp.name_big _ (by omega)) (by unfold maxLen; omega))
    go_wp2_with fail
    refine (Ht.out _).mono ?_
    rintro e w5 ⟨rfl, hb5⟩
    have Hb5 := Lib.hid (join (by first | exact Hb4.out | exact b_drew Hb4.out | exact b_alloc Hb4.out _ | exact b_drew (b_alloc Hb4.out _) | exact b_alloc (b_drew Hb4.out) _) hb5)
    clear hb5
    go_wp2_with fail
    go_ret
    exact ⟨rfl, Hb5.out⟩
  · have fT := Hput.out (by omega)
    have hTm : T.size ≤ maxLen := by unfold maxLen; omega
    have hUm : ((⟨#[97]⟩ : ByteArray) ++ x2).size ≤ maxLen := by rw [hU]; unfold maxLen; omega
    rw [← hU] at fT
    clear hU
    generalize hb : Sp.nameB ((⟨#[97]⟩ : ByteArray) ++ x2) = b at fT
    have fb : (b == b) = true := by simp
    have hla : (ByteArray.mk #[97]).size = 1 := rfl
    have kc1 := fun (w : World) (a : Int) (cap : Nat) (t : TypeId) => conv1 w a cap t
    have kc2 := conv_at ((w4.alloc (.cells #[.int .u8 c] 5)).alloc (.cells #[.int .u8 c] 5)).drew.drew (w4.heap.size + 1) c 5 (push_two w4.heap _ _) 1
    have HT := Lib.hid fT
    have HU := Lib.hid hb
    clear hb fT Hput
    go_wp2_with fail
    have Hb5 := Lib.hid (b_drew (b_alloc Hb4.out (.cells #[.int .u8 c] 5)))
    clear Hb4
    go_region_with (go_at_call 13; refine (name_any _ _ (by assumption)).mono ?_; rintro e w' ⟨rfl, hb⟩; (first | rw [HT.out] | rw [HU.out] | skip); (first | (have hk := conv_kept _ _ (w4.heap.size + 1) c 5 hb (push_two w4.heap _ _)) | skip); have Hb5 := Lib.hid (join (by first | exact Hb5.out | exact b_drew Hb5.out | exact b_drew (b_alloc Hb5.out _) | exact b_alloc Hb5.out _) hb); clear hb)
    all_goals
      go_wp2_with fail
      go_ret
      exact ⟨by first | rfl | (simp; rfl), Hb5.out⟩

theorem more_any (s : ByteArray) (c : Int) (cut : Int) (w : World) (hs : s.size ≤ 140737488355328) (hL : Laid w) :
    Calls Tryd.prog 6 #[.string s, .int .u8 c, .int .i64 cut] w fun e w' => e = .returned (.bool true) ∧ Below w.heap.size w w' := by
  cases h : Sp.nameB s with
  | false => exact more_none s c cut w hs h hL
  | true => exact more_some s c cut w h hL

theorem contract (H : Type) (enc : TypeId × Value → H) (W : World) (base : Nat) (args : Array Value) (ds gs : List (DataW H)) (before : List MemPlace)
    (hval : ∀ (j : Nat) t v, Tryd.f6.params[j]? = some t → args[j]? = some v → Value.okWide Tryd.prog W .any base t v)
    (hW : DataW.Whole enc Tryd.prog Tryd.f6.params.toList Rows.wordMoreSpec.vars false W args.toList ds gs before) (hL : laidMetH Tryd.prog laidList W) (hsz : (DataW.weightsEach Tryd.prog (Tryd.f6.params.toList ++ Rows.wordMoreSpec.plain.varTypes Tryd.prog) (ds ++ gs)).all (· ≤ reachBytes) = true) :
    Calls Tryd.prog 6 args W fun e W' => ∃ v, e = .returned v ∧ Rows.wordMoreSpec.post enc Tryd.prog Tryd.f6 false true false false W args v W' := by
  have hW' := hW
  obtain ⟨p, q, hA0, hV, rfl, hfz, hnd⟩ := hW
  have hA : DataW.TrodAll enc Tryd.prog W 0 (fun _ => true) true Tryd.f6.params.toList args.toList ds p := hA0
  rw [Tryd.params6] at hA hval
  obtain ⟨v0, vs0, d0, ds0, p0, q0, hargs0, rfl, rfl, h0, r0⟩ := trodAll_cons hA
  obtain ⟨v1, vs1, d1, ds1, p1, q1, hargs1, rfl, rfl, h1, r1⟩ := trodAll_cons r0
  obtain ⟨v2, vs2, d2, ds2, p2, q2, hargs2, rfl, rfl, h2, r2⟩ := trodAll_cons r1
  obtain ⟨rfl, rfl, rfl⟩ := trodAll_nil r2
  obtain rfl : args = #[v0, v1, v2] := by cases args; simp_all
  obtain ⟨rfl, rfl⟩ := trodVars_none hV
  obtain ⟨a0, rfl, rfl, rfl, w0⟩ := open_string Tryd.underlying9 (hval 0 9 v0 rfl rfl) h0
  obtain ⟨a1, rfl, rfl, rfl, w1⟩ := open_int Tryd.underlying5 (hval 1 5 v1 rfl rfl) h1
  obtain ⟨a2, rfl, rfl, rfl, w2⟩ := open_int Tryd.underlying3 (hval 2 3 v2 rfl rfl) h2
  have hl0 := sized_string hsz (j := 0) (t := 9) rfl rfl
  have e0 : a0.size = a0.data.size := rfl
  have g0 : a0.data.toList.length = a0.data.size := Array.length_toList
  have hrb := reachBytes_lt
  have b1 : 0 ≤ a1 ∧ a1 ≤ 255 := by simpa [Lit.wf, IntKind.min, IntKind.max, IntKind.signed, IntKind.bits] using w1
  have b2 : -9223372036854775808 ≤ a2 ∧ a2 ≤ 9223372036854775807 := by simpa [Lit.wf, IntKind.min, IntKind.max, IntKind.signed, IntKind.bits] using w2
  clear hA0
  simp only [List.append_nil] at hW'
  refine (more_any a0 a1 a2 W (by omega) (laid_of hL)).mono fun e W' ⟨he, hnx⟩ => ?_
  subst he
  refine ⟨_, rfl, _, _, _, [], [], [], hW', ?_, ?_, rfl, hnx.frame _, fun h => by cases h⟩
  · exact trodAll_cons_mk (shut_bool Tryd.underlying4 _) trodAll_mk0
  · exact (trodAll_cons_mk (shut_string Tryd.underlying9 w0) (trodAll_cons_mk (shut_int Tryd.underlying5 w1) (trodAll_cons_mk (shut_int Tryd.underlying3 w2) trodAll_mk0)))

theorem reads (os : Os) {H : Type} (enc : TypeId × Value → H) : ∃ places, DataW.whole enc Tryd.prog ((laidWorld os).forCall (fun _ _ => 0) ⟨#[], #[.string ⟨#[]⟩, .int .u8 0, .int .i64 0], []⟩).memory Tryd.f6.params.toList Rows.wordMoreSpec.vars false (Array.toList #[.string ⟨#[]⟩, .int .u8 0, .int .i64 0]) 8 = some ([.lit (.string []), .lit (.int .u8 0), .lit (.int .i64 0)], [], places) :=
  ⟨[], by kernel_rfl⟩

set_option maxRecDepth 100000 in
theorem lifted (os : Os) (started : os.Started) (H : Type) (enc : TypeId × Value → H) (F : Stop.Interp) :
    ReturnsInHanded {} Tryd.checked os 6 .any ((OpenSpec.ofChange Rows.wordMoreSpec).preRow enc Tryd.prog Tryd.f6 Rows.wordMoreRow.domain false Rows.wordMoreRow.laid) (((OpenSpec.ofChange Rows.wordMoreSpec).at F).post enc Tryd.prog Tryd.f6 false true false false) := by
  obtain ⟨places, hx⟩ := reads os enc
  refine returnsInHanded_of_row (C := Tryd.checked) (s := (OpenSpec.ofChange Rows.wordMoreSpec)) own started (by kernel_rfl) Tryd.func6
    (witness_row_atRef (enc := enc) (C := Tryd.checked) false (laidWorld os) #[.string ⟨#[]⟩, .int .u8 0, .int .i64 0] rfl (by kernel_rfl) (by kernel_rfl) (by kernel_rfl)
      (OpenSpec.preRow_of_cond 8 hx (by kernel_rfl) (fun k hk => by cases hk) (by kernel_rfl) (laid_met os _))) ?_
  intro W base args ds gs before hval hW _ hcond hsz hL _ _
  exact contract H enc W base args ds gs before hval hW hL hsz

theorem said : Rows.WordMoreSaid :=
  OpenClaim.holds_of_cond 6 Tryd.f6 rfl rfl rfl rfl rfl rfl rfl ⟨rfl, rfl, rfl, rfl, rfl⟩ rfl rfl rfl rfl rfl (by kernel_rfl) Tryd.func6 (by kernel_rfl)
    (of_decide_eq_true (by kernel_rfl)) (by unfold Func.isWrapper; first | (rw [if_pos (by decide +kernel)]; kernel_rfl) | (rw [if_neg (by decide +kernel)]; exact ⟨rfl, rfl⟩))
    (fun os started H enc _ F => by rw [OpenClaim.pre_eq_preRow]; exact lifted os started H enc F)

theorem plain (f : FuncId) (fn : Func) (hf : Tryd.pinned.checked.prog.funcNamed ("tollgate/tollgatelaw01.WordMore") = some f) (hfn : Tryd.pinned.checked.prog.funcs[f]? = some fn) :
    true = Tryd.pinned.checked.prog.looks [] ∧ ∀ (j : Nat) t, fn.params[j]? = some t → Tryd.pinned.checked.prog.wantsStandIn t = false := by
  obtain rfl : f = 6 := Option.some.inj ((show Tryd.prog.funcNamed ("tollgate/tollgatelaw01.WordMore") = some 6 by kernel_rfl).symm.trans hf) |>.symm
  obtain rfl : fn = Tryd.f6 := (Option.some.inj (Tryd.func6.symm.trans hfn)).symm
  refine ⟨by kernel_rfl, fun j t ht => ?_⟩
  rw [Tryd.params6] at ht
  have hm := Array.mem_of_getElem? ht
  simp only [List.mem_toArray, List.mem_cons, List.not_mem_nil, or_false] at hm
  rcases hm with rfl | rfl | rfl
  all_goals exact (show Tryd.prog.wantsStandIn _ = false by kernel_rfl)

theorem card : Rows.WordMoreCardSaid :=
  Claim7.holds_tied_plain_at .later [] _ _ _ _ said (fun _ h => by cases h) (by kernel_rfl) (fun _ h => by cases h) wordMore_row_tie rfl ⟨rfl, rfl⟩ (by kernel_rfl) rfl plain (by kernel_rfl)
end Go.Proofs.YtmodaefcipchpabDoor.more

/-
  DiskFuses, at every input: a fuse crashes a disk as a crash at that moment would. Nothing is assumed of the input beyond the form's own reach (each slice takes at most 2^47 - 4096 bytes).
-/
import Derived.Test.YtcdomhgjfnbahaaDFuseW
import Derived.ProofKit
namespace Go.Proofs.Ytcdomhgjfnbahaa
open Go.RowKit Go.Maps

set_option maxHeartbeats 800000 in
set_option maxRecDepth 100000 in
theorem fuses_bad (W : World) (n : Int) (lv : Value) (pv : Value) (p : Dk.Pl) (hp : ¬ (0 ≤ p.cut ∧ p.cut ≤ 128)) :
    Calls Try.prog 6 #[lv, .int .i64 n, planV pv p] W fun e w' => e = .returned (.bool true) ∧ Below W.heap.size W w' := by
  unfold planV
  rcases Int.lt_or_le p.cut 0 with h | h
  · have hg0 : decide (p.cut < 0) = true := decide_eq_true h
    clear hp h
    go_enter Try.func6, Try.ntmps6
    go_wp2_with fail
    have hb0 : Below W.heap.size W (W.alloc (.cells #[pv, .int .i64 p.torn, .int .i64 p.cut] 46)) := (Below.refl _ _).alloc (Nat.le_refl _) _
    generalize (W.alloc (.cells #[pv, .int .i64 p.torn, .int .i64 p.cut] 46)) = w0 at *
    refine (awake_any w0).mono ?_
    rintro e w1 ⟨rfl, hb1⟩
    have HB := Lib.hid (hb0.trans (hb1.mono hb0.size))
    clear hb0 hb1
    go_wp2_with fail
    go_ret
    exact ⟨rfl, HB.out⟩
  · have hg0 : decide (p.cut < 0) = false := decide_eq_false (by omega)
    have hg1 : decide (128 < p.cut) = true := decide_eq_true (by omega)
    clear hp h
    go_enter Try.func6, Try.ntmps6
    go_wp2_with fail
    have hb0 : Below W.heap.size W (W.alloc (.cells #[pv, .int .i64 p.torn, .int .i64 p.cut] 46)) := (Below.refl _ _).alloc (Nat.le_refl _) _
    generalize (W.alloc (.cells #[pv, .int .i64 p.torn, .int .i64 p.cut] 46)) = w0 at *
    refine (awake_any w0).mono ?_
    rintro e w1 ⟨rfl, hb1⟩
    have HB := Lib.hid (hb0.trans (hb1.mono hb0.size))
    clear hb0 hb1
    go_wp2_with fail
    go_ret
    exact ⟨rfl, HB.out⟩
theorem fuses_all (W : World) (n : Int) (lv : Value) (ls : List Put) (hl : PutsAt W lv ls) (pv : Value) (p : Dk.Pl) (hp : KeepAt W (fun k => k < W.heap.size) pv p.keep) :
    Calls Try.prog 6 #[lv, .int .i64 n, planV pv p] W fun e w' => e = .returned (.bool true) ∧ Below W.heap.size W w' := by
  by_cases h : 0 ≤ p.cut ∧ p.cut ≤ 128
  · exact fuses_any W n lv ls hl pv p hp h.1 h.2
  · exact fuses_bad W n lv pv p h
end Go.Proofs.Ytcdomhgjfnbahaa
namespace Go.Proofs.Ytcdomhgjfnbahaa.dfuses
open Go.ChangeShapes Go.WideShapes Go.ChangeAt Go.RowKit

theorem own : ownKnob Try.prog.godebug = none := by kernel_rfl
theorem laidOut : laidOutB Try.prog = true := by kernel_rfl

set_option maxRecDepth 100000 in
theorem lifted (os : Os) (started : os.Started) (H : Type) (enc : TypeId × Value → H) :
    ReturnsInHanded {} Try.checked os 6 .any (Rows.diskFusesSpec.pre6 enc Try.prog Try.f6 Rows.diskFusesRow.domain false) (Rows.diskFusesSpec.post enc Try.prog Try.f6 false true false false) := by
  refine returnsInHanded_of_change_sized (C := Try.checked) own started (by kernel_rfl) Try.func6
    (ChangeSpec.witness6 (enc := enc) (C := Try.checked) false ⟨#[], #[.slice none 0 0, .int .i64 0, .agg #[.slice none 0 0, .int .i64 0, .int .i64 0]], []⟩ 8 (by kernel_rfl) (by kernel_rfl) (by kernel_rfl) (by kernel_rfl)) ?_
  intro W base args ds gs before hval0 hW _ hsz _
  have hval : ∀ (j : Nat) t v, Try.f6.params[j]? = some t → args[j]? = some v → Value.okWide Try.prog W .any base t v := hval0
  have hW' := hW
  have hltW := hW.lt
  obtain ⟨p, q, hA0, hV, rfl, hfz, hnd⟩ := hW
  have hA : DataW.TrodAll enc Try.prog W 0 (fun _ => true) true Try.f6.params.toList args.toList ds p := hA0
  rw [Try.params6] at hA hval
  obtain ⟨v0, vs0, d0, ds0, p0, q0, hargs0, rfl, rfl, h0, r0⟩ := trodAll_cons hA
  obtain ⟨v1, vs1, d1, ds1, p1, q1, hargs1, rfl, rfl, h1, r1⟩ := trodAll_cons r0
  obtain ⟨v2, vs2, d2, ds2, p2, q2, hargs2, rfl, rfl, h2, r2⟩ := trodAll_cons r1
  obtain ⟨rfl, rfl, rfl⟩ := trodAll_nil r2
  obtain rfl : args = #[v0, v1, v2] := by cases args; simp_all
  obtain ⟨rfl, rfl⟩ := trodVars_none hV
  obtain ⟨n, rfl, rfl, rfl, w1⟩ := open_int Try.underlying3 (hval 1 3 v1 rfl rfl) h1
  have hrb := reachBytes_lt
  obtain ⟨ls, hls⟩ := puts_open (hval 0 50 v0 rfl rfl) h0 (fun elems spare hd => by
    subst hd
    have : (elems.length + spare.length) * Try.prog.bytesOf 53 ≤ reachBytes := sized_slice hsz (j := 0) (t := 50) rfl rfl und_puts
    rw [show Try.prog.bytesOf 53 = 3 by kernel_rfl] at this
    omega)
  obtain ⟨pv, pl, rfl, hk, _, _⟩ := plan_open (hval 2 46 v2 rfl rfl) h2 (fun elems spare r hd => by
    subst hd
    obtain ⟨f0, f1, f2, hu, t0, t1, t2, _⟩ := und_plan
    have hmem : (elems.length + spare.length) * Try.prog.bytesOf 4 ∈ DataW.weights Try.prog 46 (.agg (.slice elems spare :: r)) := by
      rw [DataW.weights, hu]
      simp only [List.map_cons, t0, DataW.weightsEach, List.mem_append]
      exact .inl (by rw [DataW.weights, und_bools]; exact List.mem_cons_self)
    have this := List.all_eq_true.1 hsz _ (DataW.weights_mem_each (j := 2) (t := 46) rfl rfl _ hmem)
    rw [show Try.prog.bytesOf 4 = 1 by kernel_rfl] at this
    have this := of_decide_eq_true this
    omega)
  clear hA0 hval0
  refine (fuses_all W n v0 ls hls pv pl hk).mono fun e W' ⟨he, hnx⟩ => ?_
  subst he
  refine ⟨_, rfl, _, _, _, [], p0 ++ ([] ++ (p2 ++ [])), [], hW', ?_, ?_, rfl, hnx.frame _, fun h => by cases h⟩
  · exact trodAll_cons_mk (shut_bool Try.underlying4 _) trodAll_mk0
  · exact trodAll_cons_mk (Below.trod laidOut (by kernel_rfl) (of_decide_eq_true (by kernel_rfl)) h0 hnx (fun x hx => hltW x (by simp [hx]))) (trodAll_cons_mk (shut_int Try.underlying3 w1) (trodAll_cons_mk (Below.trod laidOut (by kernel_rfl) (of_decide_eq_true (by kernel_rfl)) h2 hnx (fun x hx => hltW x (by simp [hx]))) trodAll_mk0))

theorem proved : Rows.DiskFusesSaid :=
  OpenClaim.holds_of_wide 6 Try.f6 rfl rfl rfl rfl rfl rfl rfl ⟨rfl, rfl, rfl, rfl, rfl⟩ rfl rfl rfl rfl rfl (by kernel_rfl) Try.func6 (by kernel_rfl)
    (of_decide_eq_true (by kernel_rfl)) (by unfold Func.isWrapper; first | (rw [if_pos (by decide +kernel)]; kernel_rfl) | (rw [if_neg (by decide +kernel)]; exact ⟨rfl, rfl⟩))
    (fun os started H enc _ => lifted os started H enc)
end Go.Proofs.Ytcdomhgjfnbahaa.dfuses

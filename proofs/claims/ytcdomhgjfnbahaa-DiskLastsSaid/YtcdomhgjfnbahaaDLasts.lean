/-
  DiskLasts, at every input: what was flushed lasts, whatever crash; each sector is one thing or the other. Nothing is assumed of the input beyond the form's own reach (each slice takes at most 2^47 - 4096 bytes).
-/
import Derived.Test.YtcdomhgjfnbahaaDLastW
import Derived.ProofKit
namespace Go.Proofs.Ytcdomhgjfnbahaa.dlasts
open Go.ChangeShapes Go.WideShapes Go.ChangeAt Go.RowKit

theorem own : ownKnob Try.prog.godebug = none := by kernel_rfl
theorem laidOut : laidOutB Try.prog = true := by kernel_rfl

set_option maxRecDepth 100000 in
theorem lifted (os : Os) (started : os.Started) (H : Type) (enc : TypeId × Value → H) :
    ReturnsInHanded {} Try.checked os 5 .any (Rows.diskLastsSpec.pre6 enc Try.prog Try.f5 Rows.diskLastsRow.domain false) (Rows.diskLastsSpec.post enc Try.prog Try.f5 false true false false) := by
  refine returnsInHanded_of_change_sized (C := Try.checked) own started (by kernel_rfl) Try.func5
    (ChangeSpec.witness6 (enc := enc) (C := Try.checked) false ⟨#[], #[.int .i64 0, .slice none 0 0, .agg #[.slice none 0 0, .int .i64 0, .int .i64 0]], []⟩ 8 (by kernel_rfl) (by kernel_rfl) (by kernel_rfl) (by kernel_rfl)) ?_
  intro W base args ds gs before hval0 hW _ hsz _
  have hval : ∀ (j : Nat) t v, Try.f5.params[j]? = some t → args[j]? = some v → Value.okWide Try.prog W .any base t v := hval0
  have hW' := hW
  have hltW := hW.lt
  obtain ⟨p, q, hA0, hV, rfl, hfz, hnd⟩ := hW
  have hA : DataW.TrodAll enc Try.prog W 0 (fun _ => true) true Try.f5.params.toList args.toList ds p := hA0
  rw [Try.params5] at hA hval
  obtain ⟨v0, vs0, d0, ds0, p0, q0, hargs0, rfl, rfl, h0, r0⟩ := trodAll_cons hA
  obtain ⟨v1, vs1, d1, ds1, p1, q1, hargs1, rfl, rfl, h1, r1⟩ := trodAll_cons r0
  obtain ⟨v2, vs2, d2, ds2, p2, q2, hargs2, rfl, rfl, h2, r2⟩ := trodAll_cons r1
  obtain ⟨rfl, rfl, rfl⟩ := trodAll_nil r2
  obtain rfl : args = #[v0, v1, v2] := by cases args; simp_all
  obtain ⟨rfl, rfl⟩ := trodVars_none hV
  obtain ⟨n, rfl, rfl, rfl, w0⟩ := open_int Try.underlying3 (hval 0 3 v0 rfl rfl) h0
  have hrb := reachBytes_lt
  obtain ⟨ls, hls⟩ := puts_open (hval 1 50 v1 rfl rfl) h1 (fun elems spare hd => by
    subst hd
    have : (elems.length + spare.length) * Try.prog.bytesOf 53 ≤ reachBytes := sized_slice hsz (j := 1) (t := 50) rfl rfl und_puts
    rw [show Try.prog.bytesOf 53 = 3 by kernel_rfl] at this
    omega)
  obtain ⟨pv, pl, rfl, hk, _, _⟩ := plan_open (hval 2 46 v2 rfl rfl) h2 (fun elems spare r hd => by
    subst hd
    obtain ⟨f0, f1, f2, hu, t0, t1, t2, _⟩ := und_plan
    have hmem : (elems.length + spare.length) * Try.prog.bytesOf 4 ∈ DataW.weights Try.prog 46 (.agg (.slice elems spare :: r)) := by
      rw [DataW.weights, hu]
      simp only [List.map_cons, t0, DataW.weightsEach, List.mem_append]
      exact .inl (by rw [DataW.weights, und_bools]; exact List.mem_cons_self)
    have this := List.all_eq_true.1 hsz _ (DataW.weights_mem_each (j := 2) (t := 46) rfl rfl _ hmem)
    rw [show Try.prog.bytesOf 4 = 1 by kernel_rfl] at this
    have this := of_decide_eq_true this
    omega)
  clear hA0 hval0
  refine (lasts_any W n v1 ls hls pv pl hk).mono fun e W' ⟨he, hnx⟩ => ?_
  subst he
  refine ⟨_, rfl, _, _, _, [], [] ++ (p1 ++ (p2 ++ [])), [], hW', ?_, ?_, rfl, hnx.frame _, fun h => by cases h⟩
  · exact trodAll_cons_mk (shut_bool Try.underlying4 _) trodAll_mk0
  · exact trodAll_cons_mk (shut_int Try.underlying3 w0) (trodAll_cons_mk (Below.trod laidOut (by kernel_rfl) (of_decide_eq_true (by kernel_rfl)) h1 hnx (fun x hx => hltW x (by simp [hx]))) (trodAll_cons_mk (Below.trod laidOut (by kernel_rfl) (of_decide_eq_true (by kernel_rfl)) h2 hnx (fun x hx => hltW x (by simp [hx]))) trodAll_mk0))

theorem proved : Rows.DiskLastsSaid :=
  OpenClaim.holds_of_wide 5 Try.f5 rfl rfl rfl rfl rfl rfl rfl ⟨rfl, rfl, rfl, rfl, rfl⟩ rfl rfl rfl rfl rfl (by kernel_rfl) Try.func5 (by kernel_rfl)
    (of_decide_eq_true (by kernel_rfl)) (by unfold Func.isWrapper; first | (rw [if_pos (by decide +kernel)]; kernel_rfl) | (rw [if_neg (by decide +kernel)]; exact ⟨rfl, rfl⟩))
    (fun os started H enc _ => lifted os started H enc)
end Go.Proofs.Ytcdomhgjfnbahaa.dlasts

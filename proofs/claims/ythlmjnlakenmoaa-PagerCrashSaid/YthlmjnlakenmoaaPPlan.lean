/-
  How a plan that comes in reads.
-/
import Derived.Test.YthlmjnlakenmoaaArgs
import Derived.Test.YthlmjnlakenmoaaDCall
import Derived.Deep.Slices
import Derived.Deep.Fields
import Derived.Deep.Grids
import Derived.Lib.SmallJoins
import Derived.SizedLaws
import Derived.Carry
import Derived.OpenShut
namespace Go.Proofs.Ythlmjnlakenmoaa
open Go.RowKit Go.Maps Go.ChangeShapes Go.WideShapes Go.Deep Go.Joins
set_option maxRecDepth 100000

theorem und_plan : ∃ f0 f1 f2, Try.prog.underlying 56 = some (.struct #[f0, f1, f2]) ∧ f0.type = 54 ∧ f1.type = 3 ∧ f2.type = 3 ∧ oneCellFields Try.prog #[f0, f1, f2] = true := ⟨_, _, _, rfl, rfl, rfl, rfl, by kernel_rfl⟩
theorem und_bool : Try.prog.underlying 4 = some .bool := by kernel_rfl
theorem cells_bool : Try.prog.cellsOf 4 = 1 := by kernel_rfl
theorem cells_plan : Try.prog.cellsOf 56 = 3 := by kernel_rfl
section
variable {H : Type} {enc : TypeId × Value → H} {W : World}
theorem plan_open {b0 : Nat} {v : Value} {d : DataW H} {p : List MemPlace} (hv : Value.okWide Try.prog W .any b0 56 v) (h : DataW.Trod enc Try.prog W 0 (fun _ => true) true 56 v d p)
    (hs : ∀ elems spare r, d = .agg (.slice elems spare :: r) → elems.length ≤ 140737488355328) :
    ∃ pv q, v = planV pv q ∧ KeepAt W (fun k => k < W.heap.size) pv q.keep ∧ (-9223372036854775808 ≤ q.torn ∧ q.torn ≤ 9223372036854775807) ∧ (-9223372036854775808 ≤ q.cut ∧ q.cut ≤ 9223372036854775807) := by
  obtain ⟨f0, f1, f2, hu, t0, t1, t2, hone⟩ := und_plan
  obtain ⟨v0, v1, v2, y0, y1, y2, n, rfl, hd, _, h0, h1, h2⟩ := open_agg3 hu hone cells_plan hv h
  rw [t0] at h0
  rw [t1] at h1
  rw [t2] at h2
  obtain ⟨n1, e1, _, w1⟩ := DataW.trod_int und_int h1
  obtain ⟨n2, e2, _, w2⟩ := DataW.trod_int und_int h2
  simp at e1 e2
  subst e1 e2
  have b1 : -9223372036854775808 ≤ n1 ∧ n1 ≤ 9223372036854775807 := by simpa [Lit.wf, IntKind.min, IntKind.max, IntKind.signed, IntKind.bits] using w1
  have b2 : -9223372036854775808 ≤ n2 ∧ n2 ≤ 9223372036854775807 := by simpa [Lit.wf, IntKind.min, IntKind.max, IntKind.signed, IntKind.bits] using w2
  rcases open_bools und_bools und_bool cells_bool h0 with ⟨hc, _⟩ | ⟨a, len, cap, B, hc, _, hl, hm, hx, hcell⟩
  · simp at hc
    subst hc
    exact ⟨_, ⟨[], n1, n2⟩, rfl, KeepAt.nil _ _, b1, b2⟩
  · simp at hc
    subst hc
    have hlen := hs _ _ _ (by rw [hd, hx]; rfl)
    rw [List.length_map, List.length_range] at hlen
    refine ⟨_, ⟨(List.range len).map B, n1, n2⟩, rfl, ⟨some a, cap, by simp, by simpa using hlen, fun h0 => ⟨a, rfl, ?_, ?_, fun j u hj => ?_⟩⟩, b1, b2⟩
    · have := block_lt_of_cell (hcell 0 (by simp at h0; omega))
      rwa [blockOf_add] at this
    · have := block_lt_of_cell (hcell 0 (by simp at h0; omega))
      rwa [blockOf_add] at this
    · rw [List.getElem?_map, Option.map_eq_some_iff] at hj
      obtain ⟨j', hj', rfl⟩ := hj
      obtain ⟨hlt, he⟩ := List.getElem?_eq_some_iff.1 hj'
      rw [List.getElem_range] at he
      subst he
      exact hcell j (by simp at hlt; omega)
end
end Go.Proofs.Ythlmjnlakenmoaa

/-
  PagerApart, at every input: nothing is assumed of the input beyond the form's own reach.
-/
import Derived.Test.YtjbiaomkbgfgfaaPApart
import Derived.Test.YtjbiaomkbgfgfaaArgs
import Derived.Test.YtjbiaomkbgfgfaaPNums
import Derived.ProofKit
namespace Go.Proofs.Ytjbiaomkbgfgfaa
open Go.RowKit Go.ChangeShapes Go.WideShapes
set_option maxRecDepth 100000

theorem cells_int : Try.prog.cellsOf 3 = 1 := by kernel_rfl
section
variable {H : Type} {enc : TypeId × Value → H} {W : World}
theorem ints_open {b0 : Nat} {v : Value} {d : DataW H} {p : List MemPlace} (hv : Value.okWide Try.prog W .any b0 39 v) (h : DataW.Trod enc Try.prog W 0 (fun _ => true) true 39 v d p)
    (hs : ∀ elems spare, d = .slice elems spare → elems.length ≤ 140737488355328) : ∃ A l c, v = .slice A l.length c ∧ Ints W A l := by
  obtain ⟨A, len, cap, rfl⟩ := okWide_slice und_ints hv
  obtain ⟨fuel, hf⟩ := h
  rcases open_ints und_ints und_int cells_int hf with ⟨hc, _⟩ | ⟨a, len', cap', zs, hc, _, hl, hm, hz, hx, hcell, hwf⟩
  · simp [Value.cells] at hc
    obtain ⟨rfl, rfl, rfl⟩ := hc
    exact ⟨none, [], 0, rfl, by simp, fun h => by simp at h⟩
  · simp [Value.cells] at hc
    obtain ⟨rfl, rfl, rfl⟩ := hc
    simp only [Prod.mk.injEq] at hx
    have hlen := hs _ _ hx.1
    simp only [if_true] at hz
    have hlz : (lits (H := H) .i64 (zs.take len)).length = len := by simp [lits]; omega
    rw [hlz] at hlen
    have hml : (zs.take len).length = len := by simp; omega
    refine ⟨some a, zs.take len, cap, by rw [hml], by rw [hml]; omega, fun h0 => ?_⟩
    rw [hml] at h0
    have h00 := hcell 0 (by omega)
    rw [show a.add 0 = a by simp [Addr.add]] at h00
    have ha := plain_of_cell h00
    have hlt := block_lt_of_cell h00
    obtain ⟨g, o, sp⟩ := a
    simp only [Addr.mk.injEq, true_and] at ha
    subst ha
    refine ⟨g, o, rfl, hlt, fun j u hj => ?_⟩
    obtain ⟨hlt', he⟩ := List.getElem?_eq_some_iff.1 hj
    rw [List.length_take] at hlt'
    rw [List.getElem_take] at he
    have hcj := hcell j (by omega)
    rw [Addr.add_mid] at hcj
    rw [hcj, List.getD_eq_getElem?_getD, List.getElem?_eq_getElem (by omega), Option.getD_some, he]
end
end Go.Proofs.Ytjbiaomkbgfgfaa

namespace Go.Proofs.Ytjbiaomkbgfgfaa.papart
open Go.ChangeShapes Go.WideShapes Go.ChangeAt Go.RowKit
set_option maxRecDepth 100000

theorem own : ownKnob Try.prog.godebug = none := by kernel_rfl
theorem laidOut : laidOutB Try.prog = true := by kernel_rfl

set_option maxRecDepth 100000 in
theorem lifted (os : Os) (started : os.Started) (H : Type) (enc : TypeId × Value → H) :
    ReturnsInHanded {} Try.checked os 6 .any (Rows.pagerApartSpec.pre6 enc Try.prog Try.f6 Rows.pagerApartRow.domain false) (Rows.pagerApartSpec.post enc Try.prog Try.f6 false true false false) := by
  refine returnsInHanded_of_change_sized (C := Try.checked) own started (by kernel_rfl) Try.func6
    (ChangeSpec.witness6 (enc := enc) (C := Try.checked) false ⟨#[], #[.int .i64 0, .slice none 0 0, .slice none 0 0, .int .u8 0], []⟩ 8 (by kernel_rfl) (by kernel_rfl) (by kernel_rfl) (by kernel_rfl)) ?_
  intro W base args ds gs before hval0 hW _ hsz _
  have hval : ∀ (j : Nat) t v, Try.f6.params[j]? = some t → args[j]? = some v → Value.okWide Try.prog W .any base t v := hval0
  have hW' := hW
  have hltW := hW.lt
  obtain ⟨p, q, hA0, hV, rfl, hfz, hnd⟩ := hW
  have hA : DataW.TrodAll enc Try.prog W 0 (fun _ => true) true Try.f6.params.toList args.toList ds p := hA0
  rw [Try.params6] at hA hval
  obtain ⟨v0, vs0, d0, ds0, p0, q0, hargs0, rfl, rfl, h0, r0⟩ := trodAll_cons hA
  obtain ⟨v1, vs1, d1, ds1, p1, q1, hargs1, rfl, rfl, h1, r1⟩ := trodAll_cons r0
  obtain ⟨v2, vs2, d2, ds2, p2, q2, hargs2, rfl, rfl, h2, r2⟩ := trodAll_cons r1
  obtain ⟨v3, vs3, d3, ds3, p3, q3, hargs3, rfl, rfl, h3, r3⟩ := trodAll_cons r2
  obtain ⟨rfl, rfl, rfl⟩ := trodAll_nil r3
  obtain rfl : args = #[v0, v1, v2, v3] := by cases args; simp_all
  obtain ⟨rfl, rfl⟩ := trodVars_none hV
  have hrb := reachBytes_lt
  obtain ⟨n0, rfl, rfl, rfl, w0⟩ := open_int Try.underlying3 (hval 0 3 v0 rfl rfl) h0
  have b0 : -9223372036854775808 ≤ n0 ∧ n0 ≤ 9223372036854775807 := by simpa [Lit.wf, IntKind.min, IntKind.max, IntKind.signed, IntKind.bits] using w0
  obtain ⟨A1, l1, k1, rfl, R1⟩ := ints_open (hval 1 39 v1 rfl rfl) h1 (fun elems spare hd => by
    subst hd
    have : (elems.length + spare.length) * Try.prog.bytesOf 3 ≤ reachBytes := sized_slice hsz (j := 1) (t := 39) rfl rfl und_ints
    rw [show Try.prog.bytesOf 3 = 8 by kernel_rfl] at this
    omega)
  obtain ⟨A2, l2, k2, rfl, R2⟩ := bytes_open (hval 2 48 v2 rfl rfl) h2 (fun elems spare hd => by
    subst hd
    have : (elems.length + spare.length) * Try.prog.bytesOf 5 ≤ reachBytes := sized_slice hsz (j := 2) (t := 48) rfl rfl und_bytes
    rw [show Try.prog.bytesOf 5 = 1 by kernel_rfl] at this
    omega)
  obtain ⟨n3, rfl, rfl, rfl, w3⟩ := open_int Try.underlying5 (hval 3 5 v3 rfl rfl) h3
  obtain ⟨c3, rfl⟩ := byte_of w3
  clear hA0 hval0
  refine (walk W n0 A1 l1 k1 R1 A2 l2 k2 R2 c3).mono fun e W' ⟨he, hnx⟩ => ?_
  subst he
  refine ⟨_, rfl, _, _, _, [], [] ++ (p1 ++ (p2 ++ ([] ++ ([])))), [], hW', ?_, ?_, rfl, hnx.frame _, fun h => by cases h⟩
  · exact trodAll_cons_mk (shut_bool Try.underlying4 _) trodAll_mk0
  · exact (trodAll_cons_mk (shut_int Try.underlying3 w0) (trodAll_cons_mk (Below.trod laidOut (by kernel_rfl) (of_decide_eq_true (by kernel_rfl)) h1 hnx (fun x hx => hltW x (by simp [hx]))) (trodAll_cons_mk (Below.trod laidOut (by kernel_rfl) (of_decide_eq_true (by kernel_rfl)) h2 hnx (fun x hx => hltW x (by simp [hx]))) (trodAll_cons_mk (shut_int Try.underlying5 w3) trodAll_mk0))))

theorem proved : Rows.PagerApartSaid :=
  OpenClaim.holds_of_wide 6 Try.f6 rfl rfl rfl rfl rfl rfl rfl ⟨rfl, rfl, rfl, rfl, rfl⟩ rfl rfl rfl rfl rfl (by kernel_rfl) Try.func6 (by kernel_rfl)
    (of_decide_eq_true (by kernel_rfl)) (by unfold Func.isWrapper; first | (rw [if_pos (by decide +kernel)]; kernel_rfl) | (rw [if_neg (by decide +kernel)]; exact ⟨rfl, rfl⟩))
    (fun os started H enc _ => lifted os started H enc)

end Go.Proofs.Ytjbiaomkbgfgfaa.papart

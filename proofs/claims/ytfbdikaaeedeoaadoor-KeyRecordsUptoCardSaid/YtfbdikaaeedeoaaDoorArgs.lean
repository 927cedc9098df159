/-
  How bytes that come in read.
-/
import Derived.Test.YtfbdikaaeedeoaaDoorGMem
import Derived.ChangeSlices
import Derived.OpenShut
import Derived.SizedLaws
import Derived.Carry
import Derived.IntWalk
namespace Go.Proofs.YtfbdikaaeedeoaaDoor
open Go.RowKit Go.ChangeShapes Go.WideShapes
set_option maxRecDepth 100000

theorem cells_u8 : Tryd.prog.cellsOf 5 = 1 := by kernel_rfl
theorem byte_of {n : Int} (h : (Lit.int .u8 n).wf = true) : ∃ x : UInt8, n = (x.toNat : Int) := by
  have hb : 0 ≤ n ∧ n ≤ 255 := by simpa [Lit.wf, IntKind.min, IntKind.max, IntKind.signed, IntKind.bits] using h
  refine ⟨UInt8.ofNat n.toNat, ?_⟩
  rw [UInt8.toNat_ofNat']
  omega
theorem plain_of_cell {w : World} {a : Addr} {v : Value} (h : w.cell? a = some v) : a = ⟨a.block, a.off, none⟩ := by
  obtain ⟨g, o, sp⟩ := a
  cases sp with
  | none => rfl
  | some s =>
    unfold World.cell? at h
    split at h
    · simp at h
    · cases h
section
variable {H : Type} {enc : TypeId × Value → H} {W : World}
theorem bytes_open_full (M : Nat) (hM : M ≤ 140737488355328) {b0 : Nat} {v : Value} {d : DataW H} {p : List MemPlace} (hv : Value.okWide Tryd.prog W .any b0 65 v) (h : DataW.Trod enc Tryd.prog W 0 (fun _ => true) true 65 v d p)
    (hs : ∀ elems spare, d = .slice elems spare → elems.length ≤ M) : ∃ A l c, v = .slice A l.length c ∧ Rd W W.heap.size A l ∧ l.length ≤ M ∧ (A = none → c = 0) ∧ l.length ≤ c := by
  obtain ⟨A, len, cap, rfl⟩ := okWide_slice und_bytes hv
  obtain ⟨fuel, hf⟩ := h
  rcases open_ints und_bytes und_u8 cells_u8 hf with ⟨hc, _⟩ | ⟨a, len', cap', zs, hc, _, hl, hm, hz, hx, hcell, hwf⟩
  · simp [Value.cells] at hc
    obtain ⟨rfl, rfl, rfl⟩ := hc
    exact ⟨none, [], 0, rfl, Rd.nil _ _ _, Nat.zero_le _, fun _ => rfl, Nat.zero_le _⟩
  · simp [Value.cells] at hc
    obtain ⟨rfl, rfl, rfl⟩ := hc
    simp only [Prod.mk.injEq] at hx
    have hlen := hs _ _ hx.1
    simp only [if_true] at hz
    have hlz : (lits (H := H) .u8 (zs.take len)).length = len := by simp [lits]; omega
    rw [hlz] at hlen
    have hbyte : ∀ i, i < zs.length → ∃ x : UInt8, zs.getD i 0 = (x.toNat : Int) := fun i hi => byte_of (hwf _ (by rw [List.getD_eq_getElem?_getD, List.getElem?_eq_getElem hi]; exact List.getElem_mem hi))
    have hml : ((zs.take len).map fun n => UInt8.ofNat n.toNat).length = len := by simp; omega
    refine ⟨some a, (zs.take len).map fun n => UInt8.ofNat n.toNat, cap, by rw [hml], ⟨by rw [hml]; omega, fun h0 => ?_⟩, by rw [hml]; exact hlen, (fun e => by cases e), by rw [hml]; omega⟩
    rw [hml] at h0
    have h00 := hcell 0 (by omega)
    rw [show a.add 0 = a by simp [Addr.add]] at h00
    have ha := plain_of_cell h00
    have hlt := block_lt_of_cell h00
    obtain ⟨g, o, sp⟩ := a
    simp only [Addr.mk.injEq, true_and] at ha
    subst ha
    refine ⟨g, o, rfl, hlt, fun j u hj => ?_⟩
    rw [bytCells_get, List.getElem?_map, Option.map_map, Option.map_eq_some_iff] at hj
    obtain ⟨n, hn, rfl⟩ := hj
    obtain ⟨hlt', he⟩ := List.getElem?_eq_some_iff.1 hn
    rw [List.length_take] at hlt'
    rw [List.getElem_take] at he
    have hcj := hcell j (by omega)
    rw [Addr.add_mid] at hcj
    rw [hcj]
    obtain ⟨x, hxx⟩ := hbyte j (by omega)
    rw [hxx]
    rw [List.getD_eq_getElem?_getD, List.getElem?_eq_getElem (by omega), Option.getD_some, he] at hxx
    subst hxx
    simp [byt]
theorem bytes_open_upto (M : Nat) (hM : M ≤ 140737488355328) {b0 : Nat} {v : Value} {d : DataW H} {p : List MemPlace} (hv : Value.okWide Tryd.prog W .any b0 65 v) (h : DataW.Trod enc Tryd.prog W 0 (fun _ => true) true 65 v d p)
    (hs : ∀ elems spare, d = .slice elems spare → elems.length ≤ M) : ∃ A l c, v = .slice A l.length c ∧ Rd W W.heap.size A l ∧ l.length ≤ M ∧ (A = none → c = 0) := by
  obtain ⟨A, l, c, h1, h2, h3, h4, _⟩ := bytes_open_full M hM hv h hs
  exact ⟨A, l, c, h1, h2, h3, h4⟩
theorem bytes_open {b0 : Nat} {v : Value} {d : DataW H} {p : List MemPlace} (hv : Value.okWide Tryd.prog W .any b0 65 v) (h : DataW.Trod enc Tryd.prog W 0 (fun _ => true) true 65 v d p)
    (hs : ∀ elems spare, d = .slice elems spare → elems.length ≤ 140737488355328) : ∃ A l c, v = .slice A l.length c ∧ Rd W W.heap.size A l := by
  obtain ⟨A, l, c, h1, h2, _⟩ := bytes_open_upto 140737488355328 (Nat.le_refl _) hv h hs
  exact ⟨A, l, c, h1, h2⟩
end
end Go.Proofs.YtfbdikaaeedeoaaDoor

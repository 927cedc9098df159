/-
  How the arguments of DiskLasts and DiskFuses read: a slice of writes, a plan.
-/
import Derived.Test.YtpgpalnnmoanpaaDLast
import Derived.Test.YtpgpalnnmoanpaaDAwake
import Derived.Deep.Slices
import Derived.Deep.Fields
import Derived.Deep.Grids
import Derived.Lib.SmallJoins
import Derived.SizedLaws
import Derived.Carry
import Derived.OpenShut
namespace Go.Proofs.Ytpgpalnnmoanpaa
open Go.RowKit Go.Maps Go.ChangeShapes Go.WideShapes Go.Deep Go.Joins

/-- the writes that come in -/
def PutsAt (w : World) (v : Value) (ls : List Put) : Prop :=
  ∃ A c, v = .slice A ls.length c ∧ ls.length ≤ 140737488355328 ∧ (0 < ls.length → ∃ g o, A = some ⟨g, o, none⟩ ∧ ∀ j x, ls[j]? = some x →
    w.cell? ⟨g, o + j * 3, none⟩ = some (.int .u8 (x.at_.toNat : Int)) ∧ w.cell? ⟨g, o + j * 3 + 1, none⟩ = some (.int .u8 (x.what.toNat : Int)) ∧ w.cell? ⟨g, o + j * 3 + 2, none⟩ = some (.bool x.flush))
theorem und_puts : Try.prog.underlying 50 = some (.slice 53) := by kernel_rfl
theorem und_put : ∃ f0 f1 f2, Try.prog.underlying 53 = some (.struct #[f0, f1, f2]) ∧ f0.type = 5 ∧ f1.type = 5 ∧ f2.type = 4 ∧ f0.offset = 0 ∧ f1.offset = 1 ∧ f2.offset = 2 := ⟨_, _, _, rfl, rfl, rfl, rfl, rfl, rfl, rfl⟩
theorem und_plan : ∃ f0 f1 f2, Try.prog.underlying 46 = some (.struct #[f0, f1, f2]) ∧ f0.type = 35 ∧ f1.type = 3 ∧ f2.type = 3 ∧ oneCellFields Try.prog #[f0, f1, f2] = true := ⟨_, _, _, rfl, rfl, rfl, rfl, by kernel_rfl⟩
theorem und_u8 : Try.prog.underlying 5 = some (.int .u8) := by kernel_rfl
theorem und_bool : Try.prog.underlying 4 = some .bool := by kernel_rfl
theorem cells_put : Try.prog.cellsOf 53 = 3 := by kernel_rfl
theorem cells_u8 : Try.prog.cellsOf 5 = 1 := by kernel_rfl
theorem cells_bool : Try.prog.cellsOf 4 = 1 := by kernel_rfl
theorem cells_plan : Try.prog.cellsOf 46 = 3 := by kernel_rfl
theorem byte_of {n : Int} (h : (Lit.int .u8 n).wf = true) : ∃ x : UInt8, n = (x.toNat : Int) := by
  have hb : 0 ≤ n ∧ n ≤ 255 := by simpa [Lit.wf, IntKind.min, IntKind.max, IntKind.signed, IntKind.bits] using h
  refine ⟨UInt8.ofNat n.toNat, ?_⟩
  rw [UInt8.toNat_ofNat']
  omega
instance : Inhabited Put := ⟨⟨0, 0, false⟩⟩
theorem plain_of_cell {w : World} {a : Addr} {v : Value} (h : w.cell? a = some v) : a = ⟨a.block, a.off, none⟩ := by
  obtain ⟨g, o, sp⟩ := a
  cases sp with
  | none => rfl
  | some s =>
    unfold World.cell? at h
    split at h
    · simp at h
    · cases h

section
variable {H : Type} {enc : TypeId × Value → H} {W : World}
theorem put_at {n : Nat} {a : Addr} {cs : List Value} {x : DataW H × List MemPlace} (h1 : W.cells? 0 a (Try.prog.cellsOf 53) = some cs) (h2 : DataW.trod enc Try.prog W 0 (fun _ => true) true n 53 cs = some x) :
    ∃ p : Put, W.cell? (a.add 0) = some (.int .u8 (p.at_.toNat : Int)) ∧ W.cell? (a.add 1) = some (.int .u8 (p.what.toNat : Int)) ∧ W.cell? (a.add 2) = some (.bool p.flush) := by
  rw [cells_put] at h1
  obtain ⟨_, hlen, hc⟩ := World.cells?_some h1
  obtain ⟨f0, f1, f2, hu, t0, t1, t2, o0, o1, o2⟩ := und_put
  obtain ⟨xs, k, _, _, _, hxl, hf⟩ := DataW.trod_struct hu h2
  have g0 := hf 0 f0 rfl
  have g1 := hf 1 f1 rfl
  have g2 := hf 2 f2 rfl
  rw [t0, o0, cells_u8] at g0
  rw [t1, o1, cells_u8] at g1
  rw [t2, o2, cells_bool] at g2
  match xs, hxl, cs, hlen with
  | [y0, y1, y2], _, [v0, v1, v2], _ =>
    obtain ⟨n0, e0, _, w0⟩ := DataW.trod_int und_u8 (x := y0) (by simpa using g0)
    obtain ⟨n1, e1, _, w1⟩ := DataW.trod_int und_u8 (x := y1) (by simpa using g1)
    obtain ⟨b2, e2, _⟩ := DataW.trod_bool und_bool (x := y2) (by simpa using g2)
    obtain ⟨p0, rfl⟩ := byte_of w0
    obtain ⟨p1, rfl⟩ := byte_of w1
    have c0 := hc 0 (by omega)
    have c1 := hc 1 (by omega)
    have c2 := hc 2 (by omega)
    simp at c0 c1 c2 e0 e1 e2
    subst e0 e1 e2
    exact ⟨⟨p0, p1, b2⟩, by simpa using c0, c1, c2⟩

theorem puts_open {b0 : Nat} {v : Value} {d : DataW H} {p : List MemPlace} (hv : Value.okWide Try.prog W .any b0 50 v) (h : DataW.Trod enc Try.prog W 0 (fun _ => true) true 50 v d p)
    (hs : ∀ elems spare, d = .slice elems spare → elems.length ≤ 140737488355328) : ∃ ls, PutsAt W v ls := by
  obtain ⟨A, len, cap, rfl⟩ := okWide_slice und_puts hv
  obtain ⟨fuel, hf⟩ := h
  rcases open_slice und_puts hf with ⟨hc, _⟩ | ⟨a, len', cap', m, n, D, Pl, hc, _, hl, hm, hmm, hx, hi⟩
  · simp [Value.cells] at hc
    obtain ⟨rfl, rfl, rfl⟩ := hc
    exact ⟨[], none, 0, rfl, by simp, fun h => by simp at h⟩
  · simp [Value.cells] at hc
    obtain ⟨rfl, rfl, rfl⟩ := hc
    simp only [Prod.mk.injEq] at hx
    have hlen := hs _ _ hx.1
    rw [List.length_map, List.length_range] at hlen
    simp only [if_true] at hmm
    subst hmm
    obtain ⟨X, hX⟩ := choose_lt (α := Put) (n := m) (p := fun i q => W.cell? ((a.add (i * 3)).add 0) = some (.int .u8 (q.at_.toNat : Int)) ∧ W.cell? ((a.add (i * 3)).add 1) = some (.int .u8 (q.what.toNat : Int)) ∧ W.cell? ((a.add (i * 3)).add 2) = some (.bool q.flush)) (fun i him => by
      obtain ⟨cs', h1, h2⟩ := hi i him
      have := put_at h1 h2
      rwa [cells_put] at this)
    refine ⟨(List.range len).map X, some a, m, by simp, by simpa using hlen, fun h0 => ?_⟩
    have h00 := (hX 0 (by simp at h0; omega)).1
    simp only [Nat.zero_mul] at h00
    rw [show (a.add 0).add 0 = a by simp [Addr.add]] at h00
    have ha := plain_of_cell h00
    obtain ⟨g, o, sp⟩ := a
    simp only [Addr.mk.injEq, true_and] at ha
    subst ha
    refine ⟨g, o, rfl, fun j x hj => ?_⟩
    rw [List.getElem?_map, Option.map_eq_some_iff] at hj
    obtain ⟨j', hj', rfl⟩ := hj
    obtain ⟨hlt, he⟩ := List.getElem?_eq_some_iff.1 hj'
    rw [List.getElem_range] at he
    subst he
    obtain ⟨q0, q1, q2⟩ := hX j (by simp at hlt; omega)
    rw [Addr.add_mid, Addr.add_mid] at q0 q1 q2
    exact ⟨q0, q1, q2⟩

theorem plan_open {b0 : Nat} {v : Value} {d : DataW H} {p : List MemPlace} (hv : Value.okWide Try.prog W .any b0 46 v) (h : DataW.Trod enc Try.prog W 0 (fun _ => true) true 46 v d p)
    (hs : ∀ elems spare r, d = .agg (.slice elems spare :: r) → elems.length ≤ 140737488355328) :
    ∃ pv q, v = planV pv q ∧ KeepAt W (fun k => k < W.heap.size) pv q.keep ∧ (-9223372036854775808 ≤ q.torn ∧ q.torn ≤ 9223372036854775807) ∧ (-9223372036854775808 ≤ q.cut ∧ q.cut ≤ 9223372036854775807) := by
  obtain ⟨f0, f1, f2, hu, t0, t1, t2, hone⟩ := und_plan
  obtain ⟨v0, v1, v2, y0, y1, y2, n, rfl, hd, _, h0, h1, h2⟩ := open_agg3 hu hone cells_plan hv h
  rw [t0] at h0
  rw [t1] at h1
  rw [t2] at h2
  obtain ⟨n1, e1, _, w1⟩ := DataW.trod_int und_int h1
  obtain ⟨n2, e2, _, w2⟩ := DataW.trod_int und_int h2
  simp at e1 e2
  subst e1 e2
  have b1 : -9223372036854775808 ≤ n1 ∧ n1 ≤ 9223372036854775807 := by simpa [Lit.wf, IntKind.min, IntKind.max, IntKind.signed, IntKind.bits] using w1
  have b2 : -9223372036854775808 ≤ n2 ∧ n2 ≤ 9223372036854775807 := by simpa [Lit.wf, IntKind.min, IntKind.max, IntKind.signed, IntKind.bits] using w2
  rcases open_bools und_bools und_bool cells_bool h0 with ⟨hc, _⟩ | ⟨a, len, cap, B, hc, _, hl, hm, hx, hcell⟩
  · simp at hc
    subst hc
    exact ⟨_, ⟨[], n1, n2⟩, rfl, KeepAt.nil _ _, b1, b2⟩
  · simp at hc
    subst hc
    have hlen := hs _ _ _ (by rw [hd, hx]; rfl)
    rw [List.length_map, List.length_range] at hlen
    refine ⟨_, ⟨(List.range len).map B, n1, n2⟩, rfl, ⟨some a, cap, by simp, by simpa using hlen, fun h0 => ⟨a, rfl, ?_, ?_, fun j u hj => ?_⟩⟩, b1, b2⟩
    · have := block_lt_of_cell (hcell 0 (by simp at h0; omega))
      rwa [blockOf_add] at this
    · have := block_lt_of_cell (hcell 0 (by simp at h0; omega))
      rwa [blockOf_add] at this
    · rw [List.getElem?_map, Option.map_eq_some_iff] at hj
      obtain ⟨j', hj', rfl⟩ := hj
      obtain ⟨hlt, he⟩ := List.getElem?_eq_some_iff.1 hj'
      rw [List.getElem_range] at he
      subst he
      exact hcell j (by simp at hlt; omega)
end
end Go.Proofs.Ytpgpalnnmoanpaa

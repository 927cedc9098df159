/-
  How parts, and items, that come in read.
-/
import Derived.Test.YtfbdikaaeedeoaaDoorKLaid
import Derived.Test.YtfbdikaaeedeoaaDoorKLaw
import Derived.Test.YtfbdikaaeedeoaaDoorArgs
import Derived.Deep.Slices
import Derived.Deep.Fields
import Derived.SizedLaws
import Derived.OpenShut
import Derived.ShutString
namespace Go.Proofs.YtfbdikaaeedeoaaDoor
open Go.RowKit Go.Maps Go.ChangeShapes Go.WideShapes Go.Deep
open Ky (Its)
set_option maxRecDepth 100000

theorem laidOut : laidOutB Tryd.prog = true := by kernel_rfl
theorem und_i64 : Tryd.prog.underlying 2 = some (.int .i64) := by kernel_rfl
theorem und_boo : Tryd.prog.underlying 4 = some .bool := by kernel_rfl
theorem und_rparts : Tryd.prog.underlying 22 = some (.slice 63) := by kernel_rfl
theorem und_ritems : Tryd.prog.underlying 41 = some (.slice 83) := by kernel_rfl
theorem und_rpart : ∃ f0 f1 f2, Tryd.prog.underlying 63 = some (.struct #[f0, f1, f2]) ∧ (f0.type = 4 ∧ f1.type = 2 ∧ f2.type = 9) ∧ f0.offset = 0 ∧ f1.offset = 1 ∧ f2.offset = 2 := ⟨_, _, _, rfl, ⟨rfl, rfl, rfl⟩, rfl, rfl, rfl⟩
theorem und_ritem : ∃ f0 f1 f2 f3, Tryd.prog.underlying 83 = some (.struct #[f0, f1, f2, f3]) ∧ (f0.type = 5 ∧ f1.type = 2 ∧ f2.type = 9 ∧ f3.type = 41) ∧ f0.offset = 0 ∧ f1.offset = 1 ∧ f2.offset = 2 ∧ f3.offset = 3 := ⟨_, _, _, _, rfl, ⟨rfl, rfl, rfl, rfl⟩, rfl, rfl, rfl, rfl⟩
theorem cells_rpart : Tryd.prog.cellsOf 63 = 3 := by kernel_rfl
theorem cells_ritem : Tryd.prog.cellsOf 83 = 4 := by kernel_rfl
theorem cells_i64 : Tryd.prog.cellsOf 2 = 1 := by kernel_rfl
theorem cells_boo : Tryd.prog.cellsOf 4 = 1 := by kernel_rfl
theorem cells_str : Tryd.prog.cellsOf 9 = 1 := by kernel_rfl
theorem cells_u8' : Tryd.prog.cellsOf 5 = 1 := by kernel_rfl
theorem cells_ritems : Tryd.prog.cellsOf 41 = 1 := by kernel_rfl
section
variable {H : Type} {enc : TypeId × Value → H} {W : World}
theorem part_at {n : Nat} {a : Addr} {cs : List Value} {x : DataW H × List MemPlace} (h1 : W.cells? 0 a (Tryd.prog.cellsOf 63) = some cs) (h2 : DataW.trod enc Tryd.prog W 0 (fun _ => true) true n 63 cs = some x) :
    ∃ p : Ky.Part, p.fits ∧ p.say.length ≤ Rows.uptoBulk x.1 ∧ W.cell? (a.add 0) = some (.bool p.text) ∧ W.cell? (a.add 1) = some (.int .i64 p.n) ∧ W.cell? (a.add 2) = some (bstr p.say) := by
  rw [cells_rpart] at h1
  obtain ⟨_, hlen, hc⟩ := World.cells?_some h1
  obtain ⟨f0, f1, f2, hu, ⟨t0, t1, t2⟩, o0, o1, o2⟩ := und_rpart
  obtain ⟨xs, k, _, hx, _, hxl, hf⟩ := DataW.trod_struct hu h2
  have g0 := hf 0 f0 rfl
  have g1 := hf 1 f1 rfl
  have g2 := hf 2 f2 rfl
  rw [t0, o0, cells_boo] at g0
  rw [t1, o1, cells_i64] at g1
  rw [t2, o2, cells_str] at g2
  match xs, hxl, cs, hlen with
  | [y0, y1, y2], _, [v0, v1, v2], _ =>
    obtain ⟨b0, e0, _⟩ := DataW.trod_bool und_boo (x := y0) (by simpa using g0)
    obtain ⟨n1, e1, d1, w1⟩ := DataW.trod_int und_i64 (x := y1) (by simpa using g1)
    obtain ⟨s2, e2, d2, _⟩ := DataW.trod_string und_str (x := y2) (by simpa using g2)
    have b1 : -9223372036854775808 ≤ n1 ∧ n1 ≤ 9223372036854775807 := by simpa [Lit.wf, IntKind.min, IntKind.max, IntKind.signed, IntKind.bits] using w1
    have c0 := hc 0 (by omega)
    have c1 := hc 1 (by omega)
    have c2 := hc 2 (by omega)
    simp at c0 c1 c2 e0 e1 e2
    subst e0 e1 e2
    refine ⟨⟨b0, n1, s2.data.toList⟩, b1, ?_, by simpa using c0, c1, ?_⟩
    · rw [hx, d2]
      simp [Rows.uptoBulk, Rows.uptoBulkAll]
      omega
    · rw [c2]
      simp [bstr]
theorem bulk_mem {l : List (DataW H)} {d : DataW H} (h : d ∈ l) : Rows.uptoBulk d ≤ Rows.uptoBulkAll l := by
  induction l with
  | nil => cases h
  | cons x l ih =>
    rw [Rows.uptoBulkAll]
    rcases List.mem_cons.1 h with rfl | h
    · omega
    · have := ih h
      omega
theorem bulk_pos (d : DataW H) : 1 ≤ Rows.uptoBulk d := by
  cases d with
  | lit x => cases x <;> simp [Rows.uptoBulk]
  | _ => simp [Rows.uptoBulk]
theorem bulk_len (l : List (DataW H)) : l.length ≤ Rows.uptoBulkAll l := by
  induction l with
  | nil => exact Nat.le_refl _
  | cons x l ih =>
    rw [Rows.uptoBulkAll, List.length_cons]
    have := bulk_pos x
    omega
theorem blk_add (a : Addr) (i : Nat) : (a.add i).block = a.block := by unfold Addr.add; split <;> rfl
theorem addr_add0 (g o i : Nat) : (⟨g, o, none⟩ : Addr).add i = ⟨g, o + i, none⟩ := Addr.add_mid g o i
theorem parts_open {b0 : Nat} {v : Value} {d : DataW H} {p : List MemPlace} (hv : Value.okWide Tryd.prog W .any b0 22 v) (h : DataW.Trod enc Tryd.prog W 0 (fun _ => true) true 22 v d p)
    (hb : Rows.uptoBulk d ≤ 1048576) : ∃ A l c, v = .slice A l.length c ∧ RdP W W.heap.size A l ∧ Small l ∧ l.length ≤ 1048576 := by
  obtain ⟨A, len, cap, rfl⟩ := okWide_slice und_rparts hv
  obtain ⟨fuel, hf⟩ := h
  rcases open_slice und_rparts hf with ⟨hc, _⟩ | ⟨a, len', cap', m, n, D, Pl, hc, _, hl, hm, hmm, hx, hi⟩
  · simp [Value.cells] at hc
    obtain ⟨rfl, rfl, rfl⟩ := hc
    exact ⟨none, [], 0, rfl, RdP.nil _ _ _, (fun p hp => by simp at hp), Nat.zero_le _⟩
  · simp [Value.cells] at hc
    obtain ⟨rfl, rfl, rfl⟩ := hc
    simp only [Prod.mk.injEq] at hx
    simp only [if_true] at hmm
    subst hmm
    have hd := hx.1
    have hbl : len + Rows.uptoBulkAll ((List.range (m - len)).map fun j => D (len + j)) + 1 ≤ 1048576 ∧ ∀ i, i < len → Rows.uptoBulk (D i) ≤ 1048576 := by
      rw [hd, Rows.uptoBulk] at hb
      have h1 := bulk_len ((List.range len).map D)
      rw [List.length_map, List.length_range] at h1
      refine ⟨by omega, fun i hi => ?_⟩
      have := bulk_mem (l := (List.range len).map D) (d := D i) (List.mem_map.2 ⟨i, List.mem_range.2 hi, rfl⟩)
      omega
    have key : ∀ c i, i + c = len → ∃ l : List Ky.Part, l.length = c ∧ Small l ∧ ∀ j q, l[j]? = some q → W.cell? (a.add ((i + j) * 3)) = some (.bool q.text) ∧ W.cell? ((a.add ((i + j) * 3)).add 1) = some (.int .i64 q.n) ∧ W.cell? ((a.add ((i + j) * 3)).add 2) = some (bstr q.say) := by
      intro c
      induction c with
      | zero => intro i _; exact ⟨[], rfl, (fun p hp => by simp at hp), fun j q hj => by simp at hj⟩
      | succ c ih =>
        intro i hic
        obtain ⟨l, h1, h2, h3⟩ := ih (i + 1) (by omega)
        obtain ⟨cs, k1, k2⟩ := hi i (by omega)
        rw [cells_rpart] at k1
        obtain ⟨p, e1, e2, e3, e4, e5⟩ := part_at (n := n) (by rw [cells_rpart]; exact k1) k2
        refine ⟨p :: l, by simp [h1], fun q hq => ?_, fun j q hj => ?_⟩
        · rcases List.mem_cons.1 hq with rfl | hq
          · exact ⟨e1, Nat.le_trans e2 (hbl.2 i (by omega))⟩
          · exact h2 q hq
        · cases j with
          | zero =>
            simp at hj
            subst hj
            rw [Nat.add_zero]
            exact ⟨by rw [show a.add (i * 3) = (a.add (i * 3)).add 0 by simp [Addr.add]]; exact e3, e4, e5⟩
          | succ j =>
            have := h3 j q (by simpa using hj)
            rw [show i + 1 + j = i + (j + 1) by omega] at this
            exact this
    obtain ⟨l, h1, h2, h3⟩ := key len 0 (by omega)
    refine ⟨some a, l, m, by rw [h1], fun h0 => ?_, h2, by omega⟩
    have hne : 0 < l.length := List.length_pos_iff.2 h0
    have c0 := (h3 0 _ (List.getElem?_eq_getElem hne)).1
    rw [show a.add ((0 + 0) * 3) = a by simp [Addr.add]] at c0
    have ha := plain_of_cell c0
    have hlt := block_lt_of_cell c0
    obtain ⟨g, o, sp⟩ := a
    simp only [Addr.mk.injEq, true_and] at ha
    subst ha
    refine ⟨g, o, rfl, hlt, fun j q hj => ?_⟩
    have := h3 j q hj
    rw [Nat.zero_add, addr_add0, addr_add0, addr_add0] at this
    exact this
theorem item_at {n : Nat} {a : Addr} {cs : List Value} {x : DataW H × List MemPlace} (h1 : W.cells? 0 a (Tryd.prog.cellsOf 83) = some cs) (h2 : DataW.trod enc Tryd.prog W 0 (fun _ => true) true n 83 cs = some x) :
    ∃ (k : UInt8) (m : Int) (s : List UInt8) (v : Value) (y : DataW H × List MemPlace) (n' : Nat), (-9223372036854775808 ≤ m ∧ m ≤ 9223372036854775807) ∧ DataW.trod enc Tryd.prog W 0 (fun _ => true) true n' 41 [v] = some y ∧ s.length + Rows.uptoBulk y.1 + 4 ≤ Rows.uptoBulk x.1 ∧
      W.cell? (a.add 0) = some (.int .u8 (k.toNat : Int)) ∧ W.cell? (a.add 1) = some (.int .i64 m) ∧ W.cell? (a.add 2) = some (bstr s) ∧ W.cell? (a.add 3) = some v := by
  rw [cells_ritem] at h1
  obtain ⟨_, hlen, hc⟩ := World.cells?_some h1
  obtain ⟨f0, f1, f2, f3, hu, ⟨t0, t1, t2, t3⟩, o0, o1, o2, o3⟩ := und_ritem
  obtain ⟨xs, k, _, hx, _, hxl, hf⟩ := DataW.trod_struct hu h2
  have g0 := hf 0 f0 rfl
  have g1 := hf 1 f1 rfl
  have g2 := hf 2 f2 rfl
  have g3 := hf 3 f3 rfl
  rw [t0, o0, cells_u8'] at g0
  rw [t1, o1, cells_i64] at g1
  rw [t2, o2, cells_str] at g2
  rw [t3, o3, cells_ritems] at g3
  match xs, hxl, cs, hlen with
  | [y0, y1, y2, y3], _, [v0, v1, v2, v3], _ =>
    obtain ⟨n0, e0, d0, w0⟩ := DataW.trod_int und_u8 (x := y0) (by simpa using g0)
    obtain ⟨n1, e1, d1, w1⟩ := DataW.trod_int und_i64 (x := y1) (by simpa using g1)
    obtain ⟨s2, e2, d2, _⟩ := DataW.trod_string und_str (x := y2) (by simpa using g2)
    obtain ⟨k0, rfl⟩ := byte_of w0
    have b1 : -9223372036854775808 ≤ n1 ∧ n1 ≤ 9223372036854775807 := by simpa [Lit.wf, IntKind.min, IntKind.max, IntKind.signed, IntKind.bits] using w1
    have c0 := hc 0 (by omega)
    have c1 := hc 1 (by omega)
    have c2 := hc 2 (by omega)
    have c3 := hc 3 (by omega)
    simp at c0 c1 c2 c3 e0 e1 e2
    subst e0 e1 e2
    refine ⟨k0, n1, s2.data.toList, v3, y3, k, b1, by simpa using g3, ?_, by simpa using c0, c1, ?_, c3⟩
    · rw [hx, d0, d1, d2]
      simp [Rows.uptoBulk, Rows.uptoBulkAll]
      omega
    · rw [c2]
      simp [bstr]
theorem bulk_range (D : Nat → DataW H) (i c : Nat) : Rows.uptoBulkAll ((List.range' i (c + 1)).map D) = Rows.uptoBulk (D i) + Rows.uptoBulkAll ((List.range' (i + 1) c).map D) := by
  rw [List.range'_succ, List.map_cons, Rows.uptoBulkAll]
theorem items_at (N : Nat) : ∀ {n : Nat} {v : Value} {y : DataW H × List MemPlace}, Rows.uptoBulk y.1 ≤ N → DataW.trod enc Tryd.prog W 0 (fun _ => true) true n 41 [v] = some y →
    ∃ A t c, v = .slice A (Its.len t) c ∧ SlAt W W.heap.size A t ∧ t.fits ∧ t.weight + 1 ≤ Rows.uptoBulk y.1 := by
  induction N with
  | zero => intro n v y h _; have := bulk_pos y.1; omega
  | succ N ih =>
    intro n v y hN h
    rcases open_slice und_ritems h with ⟨hc, hy⟩ | ⟨a, len, cap, m, n', D, Pl, hc, _, hl, hm, hmm, hx, hi⟩
    · simp at hc
      subst hc
      refine ⟨none, .nil, 0, rfl, SlAt.nil _ _ _, trivial, ?_⟩
      rw [hy]
      simp [Its.weight, Rows.uptoBulk]
    · simp at hc
      subst hc
      simp only [if_true] at hmm
      subst hmm
      have hb : Rows.uptoBulkAll ((List.range' 0 len).map D) + 1 ≤ Rows.uptoBulk y.1 := by
        rw [hx, Rows.uptoBulk, ← List.range_eq_range']
        omega
      have hpl : 0 < len → a = ⟨a.block, a.off, none⟩ ∧ a.block < W.heap.size := fun h0 => by
        obtain ⟨cs, k1, k2⟩ := hi 0 (by omega)
        obtain ⟨k, mm, s, v, y', n'', e1, e2, e3, e4, e5, e6, e7⟩ := item_at k1 k2
        rw [Nat.zero_mul, show (a.add 0).add 0 = a by simp [Addr.add]] at e4
        exact ⟨plain_of_cell e4, block_lt_of_cell e4⟩
      have key : ∀ c i, i + c = len → (∀ j, i ≤ j → j < len → Rows.uptoBulk (D j) ≤ N) → ∃ t : Its, t.len = c ∧ t.fits ∧ t.weight ≤ Rows.uptoBulkAll ((List.range' i c).map D) ∧
          (t ≠ .nil → a.block < W.heap.size ∧ a = ⟨a.block, a.off, none⟩ ∧ At W W.heap.size a.block (a.off + i * 4) t) := by
        intro c
        induction c with
        | zero => intro i _ _; exact ⟨.nil, rfl, trivial, Nat.zero_le _, fun h => absurd rfl h⟩
        | succ c ihc =>
          intro i hic hbi
          obtain ⟨t, q1, q2, q3, q4⟩ := ihc (i + 1) (by omega) (fun j h1 h2 => hbi j (by omega) h2)
          obtain ⟨cs, k1, k2⟩ := hi i (by omega)
          obtain ⟨k, mm, s, v, y', n'', e1, e2, e3, e4, e5, e6, e7⟩ := item_at k1 k2
          rw [cells_ritem] at e4 e5 e6 e7
          have hle := hbi i (by omega) (by omega)
          obtain ⟨A', t', c', rfl, s1, s2, s3⟩ := ih (by have : Rows.uptoBulk (D i) = Rows.uptoBulk ((D i, Pl i) : DataW H × List MemPlace).1 := rfl; omega) e2
          have e4' : W.cell? (a.add (i * 4)) = some (.int .u8 (k.toNat : Int)) := by rw [show a.add (i * 4) = (a.add (i * 4)).add 0 by simp [Addr.add]]; exact e4
          obtain ⟨hap, hlt⟩ := hpl (by omega)
          refine ⟨.cons k mm s t' t, by simp [Its.len, q1], ⟨e1, s2, q2⟩, ?_, fun _ => ⟨hlt, hap, ?_⟩⟩
          · rw [bulk_range]
            simp only [Its.weight]
            have : Rows.uptoBulk (D i) = Rows.uptoBulk ((D i, Pl i) : DataW H × List MemPlace).1 := rfl
            omega
          · have hadd : ∀ j, (a.add (i * 4)).add j = ⟨a.block, a.off + i * 4 + j, none⟩ := fun j => by
              rw [hap, addr_add0, addr_add0]
            rw [hadd] at e4 e5 e6 e7
            refine ⟨by simpa using e4, e5, e6, ⟨A', c', e7, s1⟩, ?_⟩
            by_cases ht : t = .nil
            · subst ht
              trivial
            · have := (q4 ht).2.2
              rw [show a.off + (i + 1) * 4 = a.off + i * 4 + 4 by omega] at this
              exact this
      obtain ⟨t, q1, q2, q3, q4⟩ := key len 0 (by omega) (fun j _ hj => by
        have := bulk_mem (l := (List.range' 0 len).map D) (d := D j) (List.mem_map.2 ⟨j, by rw [← List.range_eq_range']; exact List.mem_range.2 hj, rfl⟩)
        omega)
      refine ⟨some a, t, m, by rw [q1], fun ht => ?_, q2, by omega⟩
      obtain ⟨z1, z2, z3⟩ := q4 ht
      exact ⟨a.block, a.off, by rw [← z2], z1, by simpa using z3⟩
theorem items_open {b0 : Nat} {v : Value} {d : DataW H} {p : List MemPlace} (hv : Value.okWide Tryd.prog W .any b0 41 v) (h : DataW.Trod enc Tryd.prog W 0 (fun _ => true) true 41 v d p)
    (hb : Rows.uptoBulk d ≤ 1048576) : ∃ A t c, v = .slice A (Its.len t) c ∧ SlAt W W.heap.size A t ∧ t.fits ∧ t.weight ≤ 1048576 := by
  obtain ⟨A, len, cap, rfl⟩ := okWide_slice und_ritems hv
  obtain ⟨fuel, hf⟩ := h
  obtain ⟨A', t, c, e, h1, h2, h3⟩ := items_at (Rows.uptoBulk d) (y := (d, p)) (Nat.le_refl _) (by simpa [Value.cells] using hf)
  have h3' : t.weight + 1 ≤ Rows.uptoBulk d := h3
  exact ⟨A', t, c, e, h1, h2, by omega⟩
end
end Go.Proofs.YtfbdikaaeedeoaaDoor

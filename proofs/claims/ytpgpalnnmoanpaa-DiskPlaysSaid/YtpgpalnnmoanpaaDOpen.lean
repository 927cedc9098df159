/-
  How the argument of DiskPlays reads: a slice of steps, each with bytes and bools of its own.
-/
import Derived.Test.YtpgpalnnmoanpaaDPlays
import Derived.ProofKit
namespace Go.Proofs.Ytpgpalnnmoanpaa
open Go.RowKit Go.Maps Go.ChangeShapes Go.WideShapes Go.Deep Go.Joins

theorem und_step7 : ∃ f0 f1 f2 f3 f4 f5 f6, Try.prog.underlying 37 = some (.struct #[f0, f1, f2, f3, f4, f5, f6]) ∧ (f0.type = 3 ∧ f1.type = 3 ∧ f2.type = 34 ∧ f3.type = 4 ∧ f4.type = 35 ∧ f5.type = 3 ∧ f6.type = 3) ∧
    f0.offset = 0 ∧ f1.offset = 1 ∧ f2.offset = 2 ∧ f3.offset = 3 ∧ f4.offset = 4 ∧ f5.offset = 5 ∧ f6.offset = 6 := ⟨_, _, _, _, _, _, _, rfl, ⟨rfl, rfl, rfl, rfl, rfl, rfl, rfl⟩, rfl, rfl, rfl, rfl, rfl, rfl, rfl⟩
theorem cells_step : Try.prog.cellsOf 37 = 7 := by kernel_rfl
theorem cells_int : Try.prog.cellsOf 3 = 1 := by kernel_rfl
theorem cells_bytes : Try.prog.cellsOf 34 = 1 := by kernel_rfl
theorem cells_bools : Try.prog.cellsOf 35 = 1 := by kernel_rfl
section
variable {H : Type} {enc : TypeId × Value → H} {W : World}
theorem bytes_at {fuel : Nat} {v : Value} {y : DataW H × List MemPlace} (h : DataW.trod enc Try.prog W 0 (fun _ => true) true fuel 34 [v] = some y) (hw : ∀ k ∈ y.1.weights Try.prog 34, k ≤ reachBytes) :
    ∃ A, ∃ l : List UInt8, ∃ c, v = .slice A l.length c ∧ Rd W W.heap.size A l ∧ (A = none → c = 0) ∧ l.length ≤ c := by
  have hrb := reachBytes_lt
  rcases open_ints und_bytes und_u8 cells_u8 h with ⟨hc, _⟩ | ⟨a, len', cap', zs, hc, _, hl, hm, hz, hx, hcell, hwf⟩
  · simp at hc
    subst hc
    exact ⟨none, [], 0, rfl, Rd.nil _ _ _, fun _ => rfl, Nat.zero_le _⟩
  · simp at hc
    subst hc
    simp only [if_true] at hz
    have hlen : cap' ≤ reachBytes := by
      have := hw ((zs.take len').length * 1 + (zs.drop len').length * 1) (by
        rw [hx, DataW.weights, und_bytes]
        simp only [show Try.prog.bytesOf 5 = 1 by kernel_rfl]
        refine List.mem_cons.2 (.inl ?_)
        simp [lits])
      rw [List.length_take, List.length_drop] at this
      omega
    have hbyte : ∀ i, i < zs.length → ∃ x : UInt8, zs.getD i 0 = (x.toNat : Int) := fun i hi => byte_of (hwf _ (by rw [List.getD_eq_getElem?_getD, List.getElem?_eq_getElem hi]; exact List.getElem_mem hi))
    have hml : ((zs.take len').map fun n => UInt8.ofNat n.toNat).length = len' := by simp; omega
    refine ⟨some a, (zs.take len').map fun n => UInt8.ofNat n.toNat, cap', by rw [hml], ⟨by rw [hml]; omega, fun h0 => ?_⟩, (fun e => by cases e), by rw [hml]; omega⟩
    rw [hml] at h0
    have h00 := hcell 0 (by omega)
    rw [show a.add 0 = a by simp [Addr.add]] at h00
    have ha := plain_of_cell h00
    have hlt := block_lt_of_cell h00
    obtain ⟨g, o, sp⟩ := a
    simp only [Addr.mk.injEq, true_and] at ha
    subst ha
    refine ⟨g, o, rfl, hlt, fun j u hj => ?_⟩
    rw [secCells_opt, List.getElem?_map, Option.map_map, Option.map_eq_some_iff] at hj
    obtain ⟨n, hn, rfl⟩ := hj
    obtain ⟨hlt', he⟩ := List.getElem?_eq_some_iff.1 hn
    rw [List.length_take] at hlt'
    have hcj := hcell j (by omega)
    rw [Addr.add_mid] at hcj
    rw [List.getElem_take] at he
    obtain ⟨x, hx'⟩ := hbyte j (by omega)
    rw [List.getD_eq_getElem?_getD, List.getElem?_eq_getElem (by omega)] at hx'
    simp only [Option.getD_some] at hx'
    rw [List.getD_eq_getElem?_getD, List.getElem?_eq_getElem (by omega)] at hcj
    simp only [Option.getD_some] at hcj
    rw [hcj]
    rw [he] at hx'
    rw [he, hx']
    simp
theorem bools_at {fuel : Nat} {v : Value} {y : DataW H × List MemPlace} (h : DataW.trod enc Try.prog W 0 (fun _ => true) true fuel 35 [v] = some y) (hw : ∀ k ∈ y.1.weights Try.prog 35, k ≤ reachBytes) :
    ∃ A, ∃ l : List Bool, ∃ c, v = .slice A l.length c ∧ KeepAt W (fun k => k < W.heap.size) (.slice A l.length c) l ∧ l.length ≤ c := by
  have hrb := reachBytes_lt
  rcases open_bools und_bools und_bool cells_bool h with ⟨hc, _⟩ | ⟨a, len, cap, B, hc, _, hl, hm, hx, hcell⟩
  · simp at hc
    subst hc
    exact ⟨none, [], 0, rfl, KeepAt.nil _ _, Nat.zero_le _⟩
  · simp at hc
    subst hc
    have hlen : len ≤ reachBytes := by
      have := hw _ (by
        rw [hx]
        show _ ∈ DataW.weights Try.prog 35 (.slice _ _)
        rw [DataW.weights, und_bools]
        exact List.mem_cons_self)
      rw [show Try.prog.bytesOf 4 = 1 by kernel_rfl, List.length_map, List.length_range] at this
      omega
    refine ⟨some a, (List.range len).map B, cap, by simp, ⟨some a, cap, by simp, by simp; omega, fun h0 => ⟨a, rfl, ?_, ?_, fun j u hj => ?_⟩⟩, by simpa using hl⟩
    · have := block_lt_of_cell (hcell 0 (by simp at h0; omega))
      rwa [blockOf_add] at this
    · have := block_lt_of_cell (hcell 0 (by simp at h0; omega))
      rwa [blockOf_add] at this
    · rw [List.getElem?_map, Option.map_eq_some_iff] at hj
      obtain ⟨j', hj', rfl⟩ := hj
      obtain ⟨hlt, he⟩ := List.getElem?_eq_some_iff.1 hj'
      rw [List.getElem_range] at he
      subst he
      exact hcell j (by simp at hlt; omega)
theorem step_at {n : Nat} {a : Addr} {cs : List Value} {x : DataW H × List MemPlace} (h1 : W.cells? 0 a (Try.prog.cellsOf 37) = some cs) (h2 : DataW.trod enc Try.prog W 0 (fun _ => true) true n 37 cs = some x) (hw : ∀ k ∈ x.1.weights Try.prog 37, k ≤ reachBytes) :
    ∃ kind at_ torn cut : Int, ∃ (A' : Option Addr) (l : List UInt8) (c' : Nat) (whole : Bool) (Ak : Option Addr) (keep : List Bool) (ck : Nat), StepOk W W.heap.size at_ A' l c' Ak keep ck ∧
      ∀ j u, [Value.int .i64 kind, .int .i64 at_, .slice A' l.length c', .bool whole, .slice Ak keep.length ck, .int .i64 torn, .int .i64 cut][j]? = some u → W.cell? (a.add j) = some u := by
  rw [cells_step] at h1
  obtain ⟨_, hlen, hc⟩ := World.cells?_some h1
  obtain ⟨f0, f1, f2, f3, f4, f5, f6, hu, ⟨t0, t1, t2, t3, t4, t5, t6⟩, o0, o1, o2, o3, o4, o5, o6⟩ := und_step7
  obtain ⟨xs, k, _, hx, _, hxl, hf⟩ := DataW.trod_struct hu h2
  have g0 := hf 0 f0 rfl
  have g1 := hf 1 f1 rfl
  have g2 := hf 2 f2 rfl
  have g3 := hf 3 f3 rfl
  have g4 := hf 4 f4 rfl
  have g5 := hf 5 f5 rfl
  have g6 := hf 6 f6 rfl
  rw [t0, o0, cells_int] at g0
  rw [t1, o1, cells_int] at g1
  rw [t2, o2, cells_bytes] at g2
  rw [t3, o3, cells_bool] at g3
  rw [t4, o4, cells_bools] at g4
  rw [t5, o5, cells_int] at g5
  rw [t6, o6, cells_int] at g6
  match xs, hxl, cs, hlen with
  | [y0, y1, y2, y3, y4, y5, y6], _, [v0, v1, v2, v3, v4, v5, v6], _ =>
    obtain ⟨n0, e0, _, w0⟩ := DataW.trod_int und_int (x := y0) (by simpa using g0)
    obtain ⟨n1, e1, _, w1⟩ := DataW.trod_int und_int (x := y1) (by simpa using g1)
    obtain ⟨b3, e3, _⟩ := DataW.trod_bool und_bool (x := y3) (by simpa using g3)
    obtain ⟨n5, e5, _, w5⟩ := DataW.trod_int und_int (x := y5) (by simpa using g5)
    obtain ⟨n6, e6, _, w6⟩ := DataW.trod_int und_int (x := y6) (by simpa using g6)
    have hwe : ∀ (j : Nat) (t : TypeId) (d' : DataW H), (#[f0, f1, f2, f3, f4, f5, f6].toList.map (·.type))[j]? = some t → (([y0, y1, y2, y3, y4, y5, y6] : List (DataW H × List MemPlace)).map (·.1))[j]? = some d' → ∀ q ∈ d'.weights Try.prog t, q ≤ reachBytes := fun j t d' ht hd q hq => hw q (by
      rw [hx]
      show q ∈ DataW.weights Try.prog 37 (.agg _)
      rw [DataW.weights, hu]
      exact DataW.weights_mem_each ht hd q hq)
    obtain ⟨A2, l2, c2, e2, r2, r2n, r2c⟩ := bytes_at (y := y2) (by simpa using g2) (hwe 2 _ y2.1 (by simp [t2]) rfl)
    obtain ⟨A4, l4, c4, e4, r4, r4c⟩ := bools_at (y := y4) (by simpa using g4) (hwe 4 _ y4.1 (by simp [t4]) rfl)
    have b1 : n1 ≤ 9223372036854775807 := by
      have : -9223372036854775808 ≤ n1 ∧ n1 ≤ 9223372036854775807 := by simpa [Lit.wf, IntKind.min, IntKind.max, IntKind.signed, IntKind.bits] using w1
      exact this.2
    have c0 := hc 0 (by omega)
    have c1 := hc 1 (by omega)
    have c2' := hc 2 (by omega)
    have c3 := hc 3 (by omega)
    have c4' := hc 4 (by omega)
    have c5 := hc 5 (by omega)
    have c6 := hc 6 (by omega)
    simp at c0 c1 c2' c3 c4' c5 c6 e0 e1 e3 e5 e6
    subst e0 e1 e2 e3 e4 e5 e6
    refine ⟨n0, n1, n5, n6, A2, l2, c2, b3, A4, l4, c4, ⟨b1, r2, r2n, r2c, r4, r4c⟩, fun j u hj => ?_⟩
    match j, hj with
    | 0, hj => simp at hj; subst hj; simpa using c0
    | 1, hj => simp at hj; subst hj; exact c1
    | 2, hj => simp at hj; subst hj; exact c2'
    | 3, hj => simp at hj; subst hj; exact c3
    | 4, hj => simp at hj; subst hj; exact c4'
    | 5, hj => simp at hj; subst hj; exact c5
    | 6, hj => simp at hj; subst hj; exact c6
theorem weights_all {t : TypeId} {l : List (DataW H)} {i : Nat} {d : DataW H} (hd : l[i]? = some d) (k : Nat) (hk : k ∈ d.weights Try.prog t) : k ∈ DataW.weightsAll Try.prog t l := by
  induction l generalizing i with
  | nil => simp at hd
  | cons y l ih =>
    rw [DataW.weightsAll, List.mem_append]
    cases i with
    | zero => simp at hd; subst hd; exact .inl hk
    | succ i => exact .inr (ih (by simpa using hd))
theorem steps_open {b0 : Nat} {v : Value} {d : DataW H} {p : List MemPlace} (hv : Value.okWide Try.prog W .any b0 22 v) (h : DataW.Trod enc Try.prog W 0 (fun _ => true) true 22 v d p)
    (hw : ∀ k ∈ d.weights Try.prog 22, k ≤ reachBytes) : ∃ m, StepsAt W v m := by
  have hrb := reachBytes_lt
  obtain ⟨A, len, cap, rfl⟩ := okWide_slice und_steps hv
  obtain ⟨fuel, hf⟩ := h
  rcases open_slice und_steps hf with ⟨hc, _⟩ | ⟨a, len', cap', m, n, D, Pl, hc, _, hl, hm, hmm, hx, hi⟩
  · simp [Value.cells] at hc
    obtain ⟨rfl, rfl, rfl⟩ := hc
    exact ⟨0, none, 0, rfl, by omega, fun h => by omega⟩
  · simp [Value.cells] at hc
    obtain ⟨rfl, rfl, rfl⟩ := hc
    simp only [Prod.mk.injEq] at hx
    simp only [if_true] at hmm
    subst hmm
    have hd : d = .slice ((List.range len).map D) ((List.range (m - len)).map fun j => D (len + j)) := hx.1
    have hlen : len ≤ 140737488355328 := by
      have := hw _ (by rw [hd, DataW.weights, und_steps]; exact List.mem_cons_self)
      rw [List.length_map, List.length_range, List.length_map, List.length_range, show Try.prog.bytesOf 37 = 88 by kernel_rfl] at this
      omega
    have hstep := fun (i : Nat) (hil : i < len) => (show ∃ kind at_ torn cut : Int, ∃ (A' : Option Addr) (l : List UInt8) (c' : Nat) (whole : Bool) (Ak : Option Addr) (keep : List Bool) (ck : Nat), StepOk W W.heap.size at_ A' l c' Ak keep ck ∧
      ∀ j u, [Value.int .i64 kind, .int .i64 at_, .slice A' l.length c', .bool whole, .slice Ak keep.length ck, .int .i64 torn, .int .i64 cut][j]? = some u → W.cell? ((a.add (i * 7)).add j) = some u from by
        obtain ⟨cs', h1, h2⟩ := hi i (by omega)
        have h1' := h1
        rw [cells_step] at h1'
        refine step_at (a := a.add (i * 7)) (cs := cs') (x := (D i, Pl i)) (by rw [cells_step]; exact h1') h2 (fun k hk => hw k ?_)
        rw [hd, DataW.weights, und_steps]
        refine List.mem_cons.2 (.inr (List.mem_append.2 (.inl (weights_all (i := i) (d := D i) ?_ k hk))))
        rw [List.getElem?_map, List.getElem?_range hil]
        rfl)
    refine ⟨len, some a, m, rfl, hlen, fun h0 => ?_⟩
    obtain ⟨kd, _, _, _, _, _, _, _, _, _, _, _, hc0⟩ := hstep 0 h0
    have h00 := hc0 0 _ rfl
    rw [Nat.zero_mul, show (a.add 0).add 0 = a by simp [Addr.add]] at h00
    have ha := plain_of_cell h00
    have hlt := block_lt_of_cell h00
    obtain ⟨g, o, sp⟩ := a
    simp only [Addr.mk.injEq, true_and] at ha
    subst ha
    refine ⟨g, o, rfl, hlt, fun k hk => ?_⟩
    obtain ⟨kind, at_, torn, cut, A', l, c', whole, Ak, keep, ck, hok, hcs⟩ := hstep k hk
    refine ⟨kind, at_, torn, cut, A', l, c', whole, Ak, keep, ck, hok, fun j u hj => ?_⟩
    have := hcs j u hj
    rwa [Addr.add_mid, Addr.add_mid] at this
end
end Go.Proofs.Ytpgpalnnmoanpaa

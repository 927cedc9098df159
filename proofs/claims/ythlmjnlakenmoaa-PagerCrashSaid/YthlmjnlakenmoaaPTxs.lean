/-
  PagerCrash, at every input: behind a crash at any moment all of a commit is there, or none of it. Nothing is assumed of the input beyond the form's own reach (each slice takes at most 2^47 - 4096 bytes).
-/
import Derived.Test.YthlmjnlakenmoaaPCrash
import Derived.Test.YthlmjnlakenmoaaPPlan
import Derived.ProofKit
namespace Go.Proofs.Ythlmjnlakenmoaa.pcrash
open Go.RowKit Go.Maps Go.ChangeShapes Go.WideShapes Go.Deep Go.Joins
set_option maxRecDepth 100000

theorem und_tx : ∃ f0 f1 f2 f3, Try.prog.underlying 66 = some (.struct #[f0, f1, f2, f3]) ∧ (f0.type = 5 ∧ f1.type = 5 ∧ f2.type = 48 ∧ f3.type = 4) ∧
    f0.offset = 0 ∧ f1.offset = 1 ∧ f2.offset = 2 ∧ f3.offset = 3 := ⟨_, _, _, _, rfl, ⟨rfl, rfl, rfl, rfl⟩, rfl, rfl, rfl, rfl⟩
theorem und_txs : Try.prog.underlying 60 = some (.slice 66) := by kernel_rfl
theorem cells_tx : Try.prog.cellsOf 66 = 4 := by kernel_rfl
theorem cells_bytes : Try.prog.cellsOf 48 = 1 := by kernel_rfl
section
variable {H : Type} {enc : TypeId × Value → H} {W : World}
theorem bytes_at {fuel : Nat} {v : Value} {y : DataW H × List MemPlace} (h : DataW.trod enc Try.prog W 0 (fun _ => true) true fuel 48 [v] = some y) (hw : ∀ k ∈ y.1.weights Try.prog 48, k ≤ reachBytes) :
    ∃ A, ∃ l : List UInt8, ∃ c, v = .slice A l.length c ∧ Rd W W.heap.size A l := by
  have hrb := reachBytes_lt
  rcases open_ints und_bytes und_u8 cells_u8 h with ⟨hc, _⟩ | ⟨a, len', cap', zs, hc, _, hl, hm, hz, hx, hcell, hwf⟩
  · simp at hc
    subst hc
    exact ⟨none, [], 0, rfl, Rd.nil _ _ _⟩
  · simp at hc
    subst hc
    simp only [if_true] at hz
    have hlen : cap' ≤ reachBytes := by
      have := hw ((zs.take len').length * 1 + (zs.drop len').length * 1) (by
        rw [hx, DataW.weights, und_bytes]
        simp only [show Try.prog.bytesOf 5 = 1 by kernel_rfl]
        refine List.mem_cons.2 (.inl ?_)
        simp [lits])
      rw [List.length_take, List.length_drop] at this
      omega
    have hbyte : ∀ i, i < zs.length → ∃ x : UInt8, zs.getD i 0 = (x.toNat : Int) := fun i hi => byte_of (hwf _ (by rw [List.getD_eq_getElem?_getD, List.getElem?_eq_getElem hi]; exact List.getElem_mem hi))
    have hml : ((zs.take len').map fun n => UInt8.ofNat n.toNat).length = len' := by simp; omega
    refine ⟨some a, (zs.take len').map fun n => UInt8.ofNat n.toNat, cap', by rw [hml], ⟨by rw [hml]; omega, fun h0 => ?_⟩⟩
    rw [hml] at h0
    have h00 := hcell 0 (by omega)
    rw [show a.add 0 = a by simp [Addr.add]] at h00
    have ha := plain_of_cell h00
    have hlt := block_lt_of_cell h00
    obtain ⟨g, o, sp⟩ := a
    simp only [Addr.mk.injEq, true_and] at ha
    subst ha
    refine ⟨g, o, rfl, hlt, fun j u hj => ?_⟩
    rw [bytCells_get, List.getElem?_map, Option.map_map, Option.map_eq_some_iff] at hj
    obtain ⟨n, hn, rfl⟩ := hj
    obtain ⟨hlt', he⟩ := List.getElem?_eq_some_iff.1 hn
    rw [List.length_take] at hlt'
    have hcj := hcell j (by omega)
    rw [Addr.add_mid] at hcj
    rw [List.getElem_take] at he
    rw [hcj]
    obtain ⟨xx, hxx⟩ := hbyte j (by omega)
    rw [hxx]
    rw [List.getD_eq_getElem?_getD, List.getElem?_eq_getElem (by omega), Option.getD_some, he] at hxx
    subst hxx
    simp [byt]
theorem tx_at {n : Nat} {a : Addr} {cs : List Value} {x : DataW H × List MemPlace} (h1 : W.cells? 0 a (Try.prog.cellsOf 66) = some cs) (h2 : DataW.trod enc Try.prog W 0 (fun _ => true) true n 66 cs = some x) (hw : ∀ k ∈ x.1.weights Try.prog 66, k ≤ reachBytes) :
    ∃ t : Tx, Rd W W.heap.size t.A t.drop ∧
      ∀ j u, [Value.int .u8 (t.take.toNat : Int), .int .u8 (t.what.toNat : Int), .slice t.A t.drop.length t.c, .bool t.commit][j]? = some u → W.cell? (a.add j) = some u := by
  rw [cells_tx] at h1
  obtain ⟨_, hlen, hc⟩ := World.cells?_some h1
  obtain ⟨f0, f1, f2, f3, hu, ⟨t0, t1, t2, t3⟩, o0, o1, o2, o3⟩ := und_tx
  obtain ⟨xs, k, _, hx, _, hxl, hf⟩ := DataW.trod_struct hu h2
  have g0 := hf 0 f0 rfl
  have g1 := hf 1 f1 rfl
  have g2 := hf 2 f2 rfl
  have g3 := hf 3 f3 rfl
  rw [t0, o0, cells_u8] at g0
  rw [t1, o1, cells_u8] at g1
  rw [t2, o2, cells_bytes] at g2
  rw [t3, o3, cells_bool] at g3
  match xs, hxl, cs, hlen with
  | [y0, y1, y2, y3], _, [v0, v1, v2, v3], _ =>
    obtain ⟨n0, e0, _, w0⟩ := DataW.trod_int und_u8 (x := y0) (by simpa using g0)
    obtain ⟨n1, e1, _, w1⟩ := DataW.trod_int und_u8 (x := y1) (by simpa using g1)
    obtain ⟨b3, e3, _⟩ := DataW.trod_bool und_bool (x := y3) (by simpa using g3)
    obtain ⟨p0, rfl⟩ := byte_of w0
    obtain ⟨p1, rfl⟩ := byte_of w1
    have hwe : ∀ (j : Nat) (t : TypeId) (d' : DataW H), (#[f0, f1, f2, f3].toList.map (·.type))[j]? = some t → (([y0, y1, y2, y3] : List (DataW H × List MemPlace)).map (·.1))[j]? = some d' → ∀ q ∈ d'.weights Try.prog t, q ≤ reachBytes := fun j t d' ht hd q hq => hw q (by
      rw [hx]
      show q ∈ DataW.weights Try.prog 66 (.agg _)
      rw [DataW.weights, hu]
      exact DataW.weights_mem_each ht hd q hq)
    obtain ⟨A2, l2, c2, e2, r2⟩ := bytes_at (y := y2) (by simpa using g2) (hwe 2 _ y2.1 (by simp [t2]) rfl)
    have c0 := hc 0 (by omega)
    have c1 := hc 1 (by omega)
    have c2' := hc 2 (by omega)
    have c3 := hc 3 (by omega)
    simp at c0 c1 c2' c3 e0 e1 e3
    subst e0 e1 e2 e3
    refine ⟨⟨p0, p1, A2, l2, c2, b3⟩, r2, fun j u hj => ?_⟩
    match j, hj with
    | 0, hj => simp at hj; subst hj; simpa using c0
    | 1, hj => simp at hj; subst hj; exact c1
    | 2, hj => simp at hj; subst hj; exact c2'
    | 3, hj => simp at hj; subst hj; exact c3
theorem weights_all {t : TypeId} {l : List (DataW H)} {i : Nat} {d : DataW H} (hd : l[i]? = some d) (k : Nat) (hk : k ∈ d.weights Try.prog t) : k ∈ DataW.weightsAll Try.prog t l := by
  induction l generalizing i with
  | nil => simp at hd
  | cons y l ih =>
    rw [DataW.weightsAll, List.mem_append]
    cases i with
    | zero => simp at hd; subst hd; exact .inl hk
    | succ i => exact .inr (ih (by simpa using hd))
instance : Inhabited Tx := ⟨⟨0, 0, none, [], 0, false⟩⟩
theorem txs_open {b0 : Nat} {v : Value} {d : DataW H} {p : List MemPlace} (hv : Value.okWide Try.prog W .any b0 60 v) (h : DataW.Trod enc Try.prog W 0 (fun _ => true) true 60 v d p)
    (hw : ∀ k ∈ d.weights Try.prog 60, k ≤ reachBytes) : ∃ A l c, v = .slice A l.length c ∧ TxsAt W A l := by
  have hrb := reachBytes_lt
  obtain ⟨A, len, cap, rfl⟩ := okWide_slice und_txs hv
  obtain ⟨fuel, hf⟩ := h
  rcases open_slice und_txs hf with ⟨hc, _⟩ | ⟨a, len', cap', m, n, D, Pl, hc, _, hl, hm, hmm, hx, hi⟩
  · simp [Value.cells] at hc
    obtain ⟨rfl, rfl, rfl⟩ := hc
    exact ⟨none, [], 0, rfl, by simp, fun h => by simp at h⟩
  · simp [Value.cells] at hc
    obtain ⟨rfl, rfl, rfl⟩ := hc
    simp only [Prod.mk.injEq] at hx
    simp only [if_true] at hmm
    subst hmm
    have hd : d = .slice ((List.range len).map D) ((List.range (m - len)).map fun j => D (len + j)) := hx.1
    have hlen : len ≤ 140737488355328 := by
      have := hw _ (by rw [hd, DataW.weights, und_txs]; exact List.mem_cons_self)
      rw [List.length_map, List.length_range, List.length_map, List.length_range, show Try.prog.bytesOf 66 = 40 by kernel_rfl] at this
      omega
    obtain ⟨X, hX⟩ := choose_lt (α := Tx) (n := len) (p := fun i t => Rd W W.heap.size t.A t.drop ∧
      ∀ j u, [Value.int .u8 (t.take.toNat : Int), .int .u8 (t.what.toNat : Int), .slice t.A t.drop.length t.c, .bool t.commit][j]? = some u → W.cell? ((a.add (i * 4)).add j) = some u) (fun i hil => by
        obtain ⟨cs', h1, h2⟩ := hi i (by omega)
        have h1' := h1
        rw [cells_tx] at h1'
        refine tx_at (a := a.add (i * 4)) (cs := cs') (x := (D i, Pl i)) (by rw [cells_tx]; exact h1') h2 (fun k hk => hw k ?_)
        rw [hd, DataW.weights, und_txs]
        refine List.mem_cons.2 (.inr (List.mem_append.2 (.inl (weights_all (i := i) (d := D i) ?_ k hk))))
        rw [List.getElem?_map, List.getElem?_range hil]
        rfl)
    refine ⟨some a, (List.range len).map X, m, by simp, by simpa using hlen, fun h0 => ?_⟩
    obtain ⟨_, hc0⟩ := hX 0 (by simp at h0; omega)
    have h00 := hc0 0 _ rfl
    rw [Nat.zero_mul, show (a.add 0).add 0 = a by simp [Addr.add]] at h00
    have ha := plain_of_cell h00
    have hlt := block_lt_of_cell h00
    obtain ⟨g, o, sp⟩ := a
    simp only [Addr.mk.injEq, true_and] at ha
    subst ha
    refine ⟨g, o, rfl, hlt, fun j x hj => ?_⟩
    rw [List.getElem?_map, Option.map_eq_some_iff] at hj
    obtain ⟨j', hj', rfl⟩ := hj
    obtain ⟨hlt', he⟩ := List.getElem?_eq_some_iff.1 hj'
    rw [List.getElem_range] at he
    subst he
    obtain ⟨hr, hcs⟩ := hX j (by simp at hlt'; omega)
    have q := fun i u hu => hcs i u hu
    have q0 := q 0 _ rfl
    have q1 := q 1 _ rfl
    have q2 := q 2 _ rfl
    have q3 := q 3 _ rfl
    rw [Addr.add_mid, Addr.add_mid] at q0 q1 q2 q3
    exact ⟨q0, q1, q2, q3, hr⟩
end
end Go.Proofs.Ythlmjnlakenmoaa.pcrash
/-
  PagerCrash, at every input: behind a crash at any moment all of a commit is there, or none of it. Nothing is assumed of the input beyond the form's own reach (each slice takes at most 2^47 - 4096 bytes).
-/
namespace Go.Proofs.Ythlmjnlakenmoaa.pcrash
open Go.ChangeShapes Go.WideShapes Go.ChangeAt Go.RowKit
set_option maxRecDepth 100000

theorem own : ownKnob Try.prog.godebug = none := by kernel_rfl
theorem laidOut : laidOutB Try.prog = true := by kernel_rfl

set_option maxRecDepth 100000 in
theorem lifted (os : Os) (started : os.Started) (H : Type) (enc : TypeId × Value → H) :
    ReturnsInHanded {} Try.checked os 5 .any (Rows.pagerCrashSpec.pre6 enc Try.prog Try.f5 Rows.pagerCrashRow.domain false) (Rows.pagerCrashSpec.post enc Try.prog Try.f5 false true false false) := by
  refine returnsInHanded_of_change_sized (C := Try.checked) own started (by kernel_rfl) Try.func5
    (ChangeSpec.witness6 (enc := enc) (C := Try.checked) false ⟨#[], #[.slice none 0 0, .int .i64 0, .agg #[.slice none 0 0, .int .i64 0, .int .i64 0]], []⟩ 8 (by kernel_rfl) (by kernel_rfl) (by kernel_rfl) (by kernel_rfl)) ?_
  intro W base args ds gs before hval0 hW _ hsz _
  have hval : ∀ (j : Nat) t v, Try.f5.params[j]? = some t → args[j]? = some v → Value.okWide Try.prog W .any base t v := hval0
  have hW' := hW
  have hltW := hW.lt
  obtain ⟨p, q, hA0, hV, rfl, hfz, hnd⟩ := hW
  have hA : DataW.TrodAll enc Try.prog W 0 (fun _ => true) true Try.f5.params.toList args.toList ds p := hA0
  rw [Try.params5] at hA hval
  obtain ⟨v0, vs0, d0, ds0, p0, q0, hargs0, rfl, rfl, h0, r0⟩ := trodAll_cons hA
  obtain ⟨v1, vs1, d1, ds1, p1, q1, hargs1, rfl, rfl, h1, r1⟩ := trodAll_cons r0
  obtain ⟨v2, vs2, d2, ds2, p2, q2, hargs2, rfl, rfl, h2, r2⟩ := trodAll_cons r1
  obtain ⟨rfl, rfl, rfl⟩ := trodAll_nil r2
  obtain rfl : args = #[v0, v1, v2] := by cases args; simp_all
  obtain ⟨rfl, rfl⟩ := trodVars_none hV
  obtain ⟨n, rfl, rfl, rfl, w1⟩ := open_int Try.underlying3 (hval 1 3 v1 rfl rfl) h1
  have hrb := reachBytes_lt
  obtain ⟨A, l, c, rfl, hl⟩ := txs_open (hval 0 60 v0 rfl rfl) h0 (fun k hk => by
    have this := List.all_eq_true.1 hsz _ (DataW.weights_mem_each (j := 0) (t := 60) rfl rfl _ hk)
    exact of_decide_eq_true this)
  obtain ⟨pv, pl, rfl, hk, _, _⟩ := plan_open (hval 2 56 v2 rfl rfl) h2 (fun elems spare r hd => by
    subst hd
    obtain ⟨f0, f1, f2, hu, t0, t1, t2, _⟩ := und_plan
    have hmem : (elems.length + spare.length) * Try.prog.bytesOf 4 ∈ DataW.weights Try.prog 56 (.agg (.slice elems spare :: r)) := by
      rw [DataW.weights, hu]
      simp only [List.map_cons, t0, DataW.weightsEach, List.mem_append]
      exact .inl (by rw [DataW.weights, und_bools]; exact List.mem_cons_self)
    have this := List.all_eq_true.1 hsz _ (DataW.weights_mem_each (j := 2) (t := 56) rfl rfl _ hmem)
    rw [show Try.prog.bytesOf 4 = 1 by kernel_rfl] at this
    have this := of_decide_eq_true this
    omega)
  clear hA0 hval0
  refine (walk W A l c hl n pv pl hk).mono fun e W' ⟨he, hnx⟩ => ?_
  subst he
  refine ⟨_, rfl, _, _, _, [], p0 ++ ([] ++ (p2 ++ [])), [], hW', ?_, ?_, rfl, hnx.frame _, fun h => by cases h⟩
  · exact trodAll_cons_mk (shut_bool Try.underlying4 _) trodAll_mk0
  · exact trodAll_cons_mk (Below.trod laidOut (by kernel_rfl) (of_decide_eq_true (by kernel_rfl)) h0 hnx (fun x hx => hltW x (by simp [hx]))) (trodAll_cons_mk (shut_int Try.underlying3 w1) (trodAll_cons_mk (Below.trod laidOut (by kernel_rfl) (of_decide_eq_true (by kernel_rfl)) h2 hnx (fun x hx => hltW x (by simp [hx]))) trodAll_mk0))

theorem proved : Rows.PagerCrashSaid :=
  OpenClaim.holds_of_wide 5 Try.f5 rfl rfl rfl rfl rfl rfl rfl ⟨rfl, rfl, rfl, rfl, rfl⟩ rfl rfl rfl rfl rfl (by kernel_rfl) Try.func5 (by kernel_rfl)
    (of_decide_eq_true (by kernel_rfl)) (by unfold Func.isWrapper; first | (rw [if_pos (by decide +kernel)]; kernel_rfl) | (rw [if_neg (by decide +kernel)]; exact ⟨rfl, rfl⟩))
    (fun os started H enc _ => lifted os started H enc)
end Go.Proofs.Ythlmjnlakenmoaa.pcrash

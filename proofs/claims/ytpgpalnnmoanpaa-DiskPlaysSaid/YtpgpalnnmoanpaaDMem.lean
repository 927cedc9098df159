/-
  A disk in memory: which blocks it owns, what they hold; what stays when other blocks are written; loads and stores of whole sectors at an offset.
-/
import Derived.Test.YtpgpalnnmoanpaaDMath
import Derived.WalkSpells
import Derived.WalkLawsBesides
import Derived.Lib.Hide
import Derived.Deep.WholeRow
import Derived.Deep.MidRow
import Derived.Maps.OwnOps
import Derived.Maps.OwnSet
import Derived.Maps.Views
namespace Go.Proofs.Ytpgpalnnmoanpaa
open Go.RowKit Go.Maps

/-- block g is just the cells cs, of element type t, none frozen -/
def Has (w : World) (g : Nat) (t : TypeId) (cs : Array Value) : Prop := w.heap[g]? = some (.cells cs t (0, 0))
/-- only blocks of S, and new ones, have turned -/
structure Fr (S : Nat → Prop) (w w' : World) : Prop where
  os : w'.os = w.os
  tape : w'.tape = w.tape
  out : w'.output = w.output
  size : w.heap.size ≤ w'.heap.size
  old : ∀ k, k < w.heap.size → ¬ S k → w'.heap[k]? = w.heap[k]?
def noB : Nat → Prop := fun _ => False
def oneB (g : Nat) : Nat → Prop := fun k => k = g

theorem Fr.refl (S : Nat → Prop) (w : World) : Fr S w w := ⟨rfl, rfl, rfl, Nat.le_refl _, fun _ _ _ => rfl⟩
theorem Fr.trans {S T : Nat → Prop} {a b c : World} (h : Fr S a b) (k : Fr T b c) (hst : ∀ x, x < a.heap.size → T x → S x) : Fr S a c :=
  ⟨k.os.trans h.os, k.tape.trans h.tape, k.out.trans h.out, Nat.le_trans h.size k.size, fun x hx hs => (k.old x (Nat.lt_of_lt_of_le hx h.size) (fun ht => hs (hst x hx ht))).trans (h.old x hx hs)⟩
theorem Fr.wide {S T : Nat → Prop} {a b : World} (h : Fr S a b) (hst : ∀ x, x < a.heap.size → S x → T x) : Fr T a b :=
  ⟨h.os, h.tape, h.out, h.size, fun x hx ht => h.old x hx fun hs => ht (hst x hx hs)⟩
theorem Fr.of_below {w w' : World} (h : Below w.heap.size w w') (S : Nat → Prop) : Fr S w w' := ⟨h.os, h.tape, h.output, h.size, fun k hk _ => h.block k hk⟩
theorem Fr.below {S : Nat → Prop} {w w' : World} (h : Fr S w w') {B : Nat} (hB : B ≤ w.heap.size) (hs : ∀ k, S k → B ≤ k) : Below B w w' :=
  ⟨h.os, h.tape, h.out, h.size, fun k hk => h.old k (by omega) fun hk' => by have := hs k hk'; omega⟩
theorem Fr.of_grown {w w' : World} {row : Option Nat} (h : w.grownBy w' row) {S : Nat → Prop} (hs : ∀ k, row = some k → S k) : Fr S w w' :=
  ⟨h.os, h.tape, h.output, h.size, fun k hk hn => h.block k hk fun e => hn (hs k e.symm)⟩
theorem Fr.drew {S : Nat → Prop} {a w : World} (h : Fr S a w) : Fr S a w.drew := ⟨h.os, h.tape, h.out, h.size, h.old⟩
theorem Fr.drewN {S : Nat → Prop} {a w : World} (h : Fr S a w) (n : Nat) : Fr S a (w.drewN n) := ⟨h.os, h.tape, h.out, h.size, h.old⟩
theorem Fr.alloc {S : Nat → Prop} {a w : World} (h : Fr S a w) (o : Obj) : Fr S a (w.alloc o) :=
  ⟨h.os, h.tape, h.out, by have := h.size; simp; omega, fun k hk hn => (Below.heap_alloc w o k (by have := h.size; omega)).trans (h.old k hk hn)⟩
theorem Fr.setCell {S : Nat → Prop} {a w : World} (h : Fr S a w) {p : Addr} (hp : S p.block ∨ a.heap.size ≤ p.block) (u : Value) : Fr S a (w.setCell p u) :=
  ⟨h.os, h.tape, h.out, by simpa [World.setCell] using h.size, fun k hk hn => (Below.heap_setCell w p u k (fun e => by subst e; rcases hp with hp | hp; exact hn hp; omega)).trans (h.old k hk hn)⟩
theorem Fr.setAt {S : Nat → Prop} {a w : World} (h : Fr S a w) {g i : Nat} (hp : S g ∨ a.heap.size ≤ g) (u : Value) : Fr S a (w.setCell ⟨g, i, none⟩ u) := h.setCell (p := ⟨g, i, none⟩) hp u
theorem oneB_self (g : Nat) : oneB g g := rfl
theorem Fr.put {a w : World} {g : Nat} (h : Fr (oneB g) a w) {i : Nat} (u : Value) : Fr (oneB g) a (w.setCell ⟨g, i, none⟩ u) := h.setAt (.inl rfl) u
theorem Fr.setRow {S : Nat → Prop} {a w : World} (h : Fr S a w) {g : Nat} (hp : S g ∨ a.heap.size ≤ g) (cs : Array Value) : Fr S a (w.setRow g cs) :=
  ⟨h.os, h.tape, h.out, by simpa using h.size, fun k hk hn => (setRow_other w g k cs (fun e => by subst e; rcases hp with hp | hp; exact hn hp; omega)).trans (h.old k hk hn)⟩

section
variable {w w' : World} {g : Nat} {t : TypeId} {cs : Array Value}
theorem Has.lt (h : Has w g t cs) : g < w.heap.size := lt_of_block h
theorem Has.cell (h : Has w g t cs) (i : Nat) : w.cell? ⟨g, i, none⟩ = cs[i]? := cell_of_row w g i cs t (0, 0) h
theorem Has.free (h : Has w g t cs) (i : Nat) : w.frozen? ⟨g, i, none⟩ = false := frozen_of_row w g i cs t h
theorem Has.of_alloc (w : World) (t : TypeId) (cs : Array Value) : Has (w.alloc (.cells cs t)) w.heap.size t cs := heap_alloc_new w _
theorem Has.alloc (h : Has w g t cs) (o : Obj) : Has (w.alloc o) g t cs := (Below.heap_alloc w o g h.lt).trans h
theorem Has.set (h : Has w g t cs) (i : Nat) (u : Value) : Has (w.setCell ⟨g, i, none⟩ u) g t (cs.setIfInBounds i u) := heap_setCell_same w g i cs t u h
theorem Has.far (h : Has w g t cs) {p : Addr} (hp : g ≠ p.block) (u : Value) : Has (w.setCell p u) g t cs := (Below.heap_setCell w p u g hp).trans h
theorem Has.keep {S : Nat → Prop} (h : Has w g t cs) (f : Fr S w w') (hs : ¬ S g) : Has w' g t cs := (f.old g h.lt hs).trans h
theorem Has.row (h : Has w g t cs) (cs' : Array Value) : Has (w.setRow g cs') g t cs' := setRow_heap w g cs cs' t (0, 0) h
theorem Has.apart {g' : Nat} {t' : TypeId} {cs' : Array Value} (h : Has w g t cs) (h' : Has w g' t' cs') (hne : t ≠ t') : g ≠ g' := fun e => by
  subst e
  have := h.symm.trans h'
  injection this with this
  injection this with _ ht
  exact hne ht
end

section
variable {P : Program} {ops : Array Oper} {rest : List Oper} {o : Oper} {a : Act} {w : World} {Q : Exit → Act → World → Prop}

theorem range_of_has {g off n : Nat} {t : TypeId} {cs : Array Value} (h : Has w g t cs) : w.rangeAt g off ((cs.toList.drop off).take n) := fun j v hv => by
  rw [h.cell, ← Array.getElem?_toList]
  rw [List.getElem?_take] at hv
  split at hv
  · rwa [List.getElem?_drop] at hv
  · cases hv

/-- a row or a struct is read out of a block, at an offset -/
theorem arm_load (hgd : o.guard = none) (ty : TypeId) (x : Operand) (ho : o.op = .load ty x) (g off n : Nat) (hx : a.eval x = .pointer (some ⟨g, off, none⟩)) {t : TypeId} {cs : Array Value} (hb : Has w g t cs)
    {d : TypeDesc} (hu : P.underlying ty = some d) (hd : d.isRow = true) (hi : (P.info? ty).map (·.size) = some n) (vs : List Value) (hvs : (cs.toList.drop off).take n = vs) (hl : vs.length = n)
    (h : wpList P ops Q rest (a.put o.dst (.agg vs.toArray)) w) : wpList P ops Q (o :: rest) a w :=
  wpList_load_mid hgd ty x ho g off hx vs d (by rw [← hvs]; exact range_of_has hb) hu hd (by rw [hi, hl]) h

theorem run_store_has (ty : TypeId) (g off : Nat) (vs : List Value) {t : TypeId} {cs : Array Value} (hb : Has w g t cs) (hi : (P.info? ty).map (·.size) = some vs.length) (hfit : off + vs.length ≤ cs.size)
    (h1 : ∀ v ∈ vs, v.oneCell' = true) : (storeVar ty ⟨g, off, none⟩ (.agg vs.toArray)).run P w = .ok () (w.setRow g (cs.toList.take off ++ vs ++ cs.toList.drop (off + vs.length)).toArray) := by
  have := run_storeCells_at P g off t vs 0 cs w hb (by simpa using hfit) h1
  cases hq : P.info? ty with
  | none => simp [hq] at hi
  | some i =>
    have hs : vs.length = i.size := by simp [hq] at hi; omega
    simp only [Nat.add_zero] at this
    simp [storeVar, sizeOf, typeInfo, hq, Value.cells, hs] at this ⊢
    exact this

/-- a row or a struct is stored into a block, at an offset -/
theorem wp_store_has {K : Act → World → Prop} (ty : TypeId) (x y : Operand) (ho : o.op = .store ty x y) (g off : Nat) (vs : List Value) (hx : a.eval x = .pointer (some ⟨g, off, none⟩)) (hy : a.eval y = .agg vs.toArray)
    {t : TypeId} {cs : Array Value} (hb : Has w g t cs) (hi : (P.info? ty).map (·.size) = some vs.length) (hfit : off + vs.length ≤ cs.size) (h1 : ∀ v ∈ vs, v.oneCell' = true)
    (h : K (a.put o.dst undef) (w.setRow g (cs.toList.take off ++ vs ++ cs.toList.drop (off + vs.length)).toArray)) : o.wp P a w K Q := by
  unfold Oper.wp execOp
  simp only [ho, hx, hy, Instr.storeAt, Instr.sureAddr, Sem.run_bind, Sem.run_pure, Result.andThen_ok, run_store_has ty g off vs hb hi hfit h1]
  exact h

theorem arm_store (hgd : o.guard = none) (ty : TypeId) (x y : Operand) (ho : o.op = .store ty x y) (g off : Nat) (vs : List Value) (hx : a.eval x = .pointer (some ⟨g, off, none⟩)) (hy : a.eval y = .agg vs.toArray)
    {t : TypeId} {cs : Array Value} (hb : Has w g t cs) (hi : (P.info? ty).map (·.size) = some vs.length) (hfit : off + vs.length ≤ cs.size) (h1 : ∀ v ∈ vs, v.oneCell' = true)
    (h : ∀ w', Has w' g t (cs.toList.take off ++ vs ++ cs.toList.drop (off + vs.length)).toArray → Fr (oneB g) w w' → w'.heap.size = w.heap.size → wpList P ops Q rest (a.put o.dst undef) w') : wpList P ops Q (o :: rest) a w :=
  wpList_plain hgd fun _ hK => wp_store_has ty x y ho g off vs hx hy hb hi hfit h1 (hK _ _ (h _ (hb.row _) ((Fr.refl (oneB g) w).setRow (.inl (show oneB g g from rfl)) _) (by simp)))

/-- a new variable is filled at once -/
theorem arm_fill (hgd : o.guard = none) (ty : TypeId) (x y : Operand) (ho : o.op = .store ty x y) (w0 : World) (vs : List Value) (hx : a.eval x = .pointer (some ⟨w0.heap.size, 0, none⟩)) (hy : a.eval y = .agg vs.toArray)
    (t : TypeId) (cs : Array Value) (hw : w = w0.alloc (.cells cs t)) (hi : (P.info? ty).map (·.size) = some vs.length) (hfit : cs.size = vs.length) (h1 : ∀ v ∈ vs, v.oneCell' = true)
    (h : wpList P ops Q rest (a.put o.dst undef) (w0.alloc (.cells vs.toArray t))) : wpList P ops Q (o :: rest) a w := by
  subst hw
  refine wpList_store_row hgd ty x y ho w0.heap.size vs.toArray hx hy t cs (heap_alloc_new w0 _) (by rw [hi]; simp) (by simpa using hfit) (all_oneCell_toArray h1) ?_
  rw [World.setRow_alloc_new]
  exact h
end

/-! ### the program's types -/
def zero128 : Array Value := (Dk.secCells Dk.zsec).toArray
def zero129 : Array Value := #[.int .i64 0] ++ zero128
theorem zero128_size : zero128.size = 128 := by rw [zero128, List.size_toArray, Dk.secCells_len, Dk.zsec_len]
theorem zero129_size : zero129.size = 129 := by simp [zero129, zero128_size]
theorem inf_sec : (Try.prog.info? 78).map (fun i => (i.zero, i.size, i.bytes)) = some (some (.agg zero128), 128, 128) := by kernel_rfl
theorem inf_wr : (Try.prog.info? 81).map (fun i => (i.zero, i.size, i.bytes)) = some (some (.agg zero129), 129, 136) := by kernel_rfl
theorem siz_sec : (Try.prog.info? 78).map (·.size) = some 128 := by kernel_rfl
theorem siz_wr : (Try.prog.info? 81).map (·.size) = some 129 := by kernel_rfl
theorem zer_of {P : Program} {t : TypeId} {z : Value} {n m : Nat} (h : (P.info? t).map (fun i => (i.zero, i.size, i.bytes)) = some (some z, n, m)) (w : World) : (zeroValue t).run P w = .ok z w := by
  obtain ⟨i, hi, hz, _, _⟩ := info_parts h
  simp [zeroValue, typeInfo, hi, hz]
theorem und_sec : Try.prog.underlying 78 = some (.array 128 5) := by kernel_rfl
theorem und_secs : Try.prog.underlying 59 = some (.slice 78) := by kernel_rfl
theorem und_wrs : Try.prog.underlying 60 = some (.slice 81) := by kernel_rfl
theorem und_bytes : Try.prog.underlying 34 = some (.slice 5) := by kernel_rfl
theorem und_bools : Try.prog.underlying 35 = some (.slice 4) := by kernel_rfl
theorem und_map : Try.prog.underlying 61 = some (.map 3 3) := by kernel_rfl
theorem und_int : Try.prog.underlying 3 = some (.int .i64) := by kernel_rfl
theorem key_int : Keyed Try.prog 3 := int_keyed und_int
theorem zer_int (w : World) : (zeroValue 3).run Try.prog w = .ok (.int .i64 0) w := by kernel_rfl

/-! ### what a disk owns -/
theorem blockOf_add (ad : Addr) (j : Nat) : (ad.add j).block = ad.block := by unfold Addr.add; split <;> rfl
/-- a list of bools that somebody keeps; R: where it lies -/
def KeepAt (w : World) (R : Nat → Prop) (v : Value) (l : List Bool) : Prop :=
  ∃ A c, v = .slice A l.length c ∧ l.length ≤ 140737488355328 ∧ (0 < l.length → ∃ ad, A = some ad ∧ R ad.block ∧ ad.block < w.heap.size ∧ ∀ j u, l[j]? = some u → w.cell? (ad.add j) = some (.bool u))
/-- the map of each sector's last write -/
def NewAt (w : World) (M : Nat) (ws : List Dk.Wr) : Prop :=
  ∃ D : DataW Unit, w.ownsMap Try.prog 3 (plainElem Try.prog 3) M ws.length D ∧ IsMap D ∧
    ∀ i : Nat, has D (.int .i64 (i : Int)) = (Dk.lastIx ws i).isSome ∧ D.atKey (.int .i64 (i : Int)) (.lit (.int .i64 0)) = .lit (.int .i64 (((Dk.lastIx ws i).getD 0 : Nat) : Int))
def diskCells (lv wv : Value) (M : Nat) (d : Dk.St) (kv : Value) : Array Value :=
  #[lv, wv, .map (some M), .int .i64 (d.done : Int), .bool d.dead, .bool d.lit, .int .i64 (d.left : Int), kv, .int .i64 d.plan.torn, .int .i64 d.plan.cut]
/-- a disk: its struct in block b; S: the blocks that it owns; R: those that it reads besides -/
structure Lies (w : World) (S R : Nat → Prop) (b L cap : Nat) (wv : Value) (M : Nat) (kv : Value) (d : Dk.St) : Prop where
  ok : d.Ok
  box : Has w b 65 (diskCells (.slice (some ⟨L, 0, none⟩) d.lasts.length cap) wv M d kv)
  lasts : w.ownsRow 0 78 128 (.slice (some ⟨L, 0, none⟩) d.lasts.length cap) d.lasts.length (Dk.secs d.lasts)
  waits : w.ownsRow 0 81 129 wv d.waits.length (Dk.wrs d.waits)
  new : NewAt w M d.waits
  kept : KeepAt w R kv d.plan.keep
  own : ∀ k, S k ↔ k = b ∨ k = L ∨ wv.ownBlock = some k ∨ k = M
  apart : ∀ k, R k → ¬ S k
  low : ∀ k, R k → k < w.heap.size
def DiskAt (w : World) (S R : Nat → Prop) (b : Nat) (d : Dk.St) : Prop := ∃ L cap wv M kv, Lies w S R b L cap wv M kv d

theorem KeepAt.keep {w w' : World} {R S : Nat → Prop} {v : Value} {l : List Bool} (h : KeepAt w R v l) (f : Fr S w w') (hs : ∀ k, R k → ¬ S k) : KeepAt w' R v l := by
  obtain ⟨A, c, rfl, hl, h⟩ := h
  refine ⟨A, c, rfl, hl, fun h0 => ?_⟩
  obtain ⟨ad, rfl, hr, hlt, hc⟩ := h h0
  refine ⟨ad, rfl, hr, Nat.lt_of_lt_of_le hlt f.size, fun j u hj => ?_⟩
  rw [World.cell?_of_block (w := w) (f.old _ (by rw [blockOf_add]; exact hlt) (by rw [blockOf_add]; exact hs _ hr))]
  exact hc j u hj
theorem KeepAt.nil (w : World) (R : Nat → Prop) : KeepAt w R (.slice none 0 0) [] := ⟨none, 0, rfl, by simp, fun h => by simp at h⟩
theorem ownsRow_keep {w w' : World} {S : Nat → Prop} {base : Nat} {e : TypeId} {size : Nat} {v : Value} {n : Nat} {xs : List Value} (h : w.ownsRow base e size v n xs) (f : Fr S w w') (hs : ∀ k, v.ownBlock = some k → ¬ S k) : w'.ownsRow base e size v n xs := by
  refine ⟨h.1, ?_⟩
  rcases h.2 with hn | ⟨g, cap, cur, rfl, hb, hg, rest⟩
  · exact .inl hn
  · exact .inr ⟨g, cap, cur, rfl, hb, (f.old g (lt_of_block hg) (hs g rfl)).trans hg, rest⟩
theorem NewAt.keep {w w' : World} {S : Nat → Prop} {M : Nat} {ws : List Dk.Wr} (h : NewAt w M ws) (f : Fr S w w') (hs : ¬ S M) : NewAt w' M ws := by
  obtain ⟨D, ⟨es, clock, hb, F, hn, hD⟩, h2⟩ := h
  exact ⟨D, ⟨es, clock, (f.old M (lt_of_block hb) hs).trans hb, F, hn, hD⟩, h2⟩
theorem NewAt.made (w : World) : NewAt (w.alloc (.map #[] 0)) w.heap.size [] :=
  ⟨_, World.ownsMap_made w _ _ _, isMap_empty, fun i => by simp [Dk.lastIx, has, DataW.atKey]⟩
theorem Lies.keep {w w' : World} {S R T : Nat → Prop} {b L cap : Nat} {wv : Value} {M : Nat} {kv : Value} {d : Dk.St} (h : Lies w S R b L cap wv M kv d) (f : Fr T w w') (hs : ∀ k, T k → ¬ S k ∧ ¬ R k) : Lies w' S R b L cap wv M kv d := by
  have hT : ∀ k, S k → ¬ T k := fun k hk ht => (hs k ht).1 hk
  exact ⟨h.ok, h.box.keep f (hT _ ((h.own _).2 (.inl rfl))), ownsRow_keep h.lasts f (fun k hk => hT k ((h.own _).2 (.inr (.inl (by simpa [Value.ownBlock] using hk.symm))))),
    ownsRow_keep h.waits f (fun k hk => hT k ((h.own _).2 (.inr (.inr (.inl hk))))), h.new.keep f (hT _ ((h.own _).2 (.inr (.inr (.inr rfl))))), h.kept.keep f (fun k hk ht => (hs k ht).2 hk), h.own, h.apart, fun k hk => Nat.lt_of_lt_of_le (h.low k hk) f.size⟩
theorem DiskAt.keep {w w' : World} {S R T : Nat → Prop} {b : Nat} {d : Dk.St} (h : DiskAt w S R b d) (f : Fr T w w') (hs : ∀ k, T k → ¬ S k ∧ ¬ R k) : DiskAt w' S R b d := by
  obtain ⟨L, cap, wv, M, kv, h⟩ := h
  exact ⟨L, cap, wv, M, kv, h.keep f hs⟩
theorem ownsRow_lt {w : World} {base : Nat} {e : TypeId} {size : Nat} {v : Value} {n : Nat} {xs : List Value} (h : w.ownsRow base e size v n xs) (k : Nat) (hk : v.ownBlock = some k) : k < w.heap.size := (h.lt k hk).2
theorem Lies.lt {w : World} {S R : Nat → Prop} {b L cap : Nat} {wv : Value} {M : Nat} {kv : Value} {d : Dk.St} (h : Lies w S R b L cap wv M kv d) (k : Nat) (hk : S k) : k < w.heap.size := by
  rcases (h.own k).1 hk with rfl | rfl | h' | rfl
  · exact h.box.lt
  · exact ownsRow_lt h.lasts _ rfl
  · exact ownsRow_lt h.waits _ h'
  · obtain ⟨D, ho, _⟩ := h.new
    exact ho.lt
theorem DiskAt.lt {w : World} {S R : Nat → Prop} {b : Nat} {d : Dk.St} (h : DiskAt w S R b d) (k : Nat) (hk : S k) : k < w.heap.size := by
  obtain ⟨L, cap, wv, M, kv, h⟩ := h
  exact h.lt k hk
theorem DiskAt.ok {w : World} {S R : Nat → Prop} {b : Nat} {d : Dk.St} (h : DiskAt w S R b d) : d.Ok := by
  obtain ⟨L, cap, wv, M, kv, h⟩ := h
  exact h.ok
theorem own_has {w : World} {base e size L n cap : Nat} {xs : List Value} (h : w.ownsRow base e size (.slice (some ⟨L, 0, none⟩) n cap) n xs) :
    ∃ cur, Has w L e cur ∧ cur.size = cap * size ∧ n ≤ cap ∧ cap ≤ maxLen ∧ cur.toList.take (n * size) = xs := by
  rcases h.2 with ⟨h', _⟩ | ⟨g, cap', cur, h', _, hg, h1, h2, h3, h4⟩
  · cases h'
  · injection h' with ha _ hc
    injection ha with ha
    injection ha with ha
    subst ha; subst hc
    exact ⟨cur, hg, h3, h1, h2, h4⟩
theorem Lies.ne {w : World} {S R : Nat → Prop} {b L cap : Nat} {wv : Value} {M : Nat} {kv : Value} {d : Dk.St} (h : Lies w S R b L cap wv M kv d) :
    b ≠ L ∧ b ≠ M ∧ L ≠ M ∧ ∀ k, wv.ownBlock = some k → b ≠ k ∧ L ≠ k ∧ M ≠ k := by
  obtain ⟨cur, hL, _⟩ := own_has h.lasts
  obtain ⟨D, ⟨es, clock, hm, _⟩, _⟩ := h.new
  have hbox := h.box
  refine ⟨hbox.apart hL (by decide), fun e => ?_, fun e => ?_, fun k hk => ?_⟩
  · subst e; have := hm.symm.trans hbox; cases this
  · subst e; have := hm.symm.trans hL; cases this
  · rcases h.waits.2 with ⟨hn, _⟩ | ⟨V, vcap, wcur, hv, _, hV, _⟩
    · rw [hn] at hk; cases hk
    · rw [hv] at hk
      have hk : V = k := by simpa [Value.ownBlock] using hk
      subst hk
      have hV' : Has w V 81 wcur := hV
      refine ⟨hbox.apart hV' (by decide), hL.apart hV' (by decide), fun e => ?_⟩
      subst e; have := hm.symm.trans hV; cases this
/-- only the struct was written -/
theorem Lies.rebox {w w' : World} {S R : Nat → Prop} {b L cap : Nat} {wv : Value} {M : Nat} {kv : Value} {d d' : Dk.St} (h : Lies w S R b L cap wv M kv d)
    (hb : Has w' b 65 (diskCells (.slice (some ⟨L, 0, none⟩) d.lasts.length cap) wv M d' kv)) (f : Fr (oneB b) w w') (hok : d'.Ok) (h1 : d'.lasts = d.lasts) (h2 : d'.waits = d.waits) (h3 : d'.plan = d.plan) : Lies w' S R b L cap wv M kv d' := by
  obtain ⟨n1, n2, n3, n4⟩ := h.ne
  exact {
    ok := hok
    box := by rw [h1]; exact hb
    lasts := by rw [h1]; exact ownsRow_keep h.lasts f (fun k hk e => by have hk : L = k := by simpa [Value.ownBlock] using hk
                                                                        exact n1 (hk.trans e).symm)
    waits := by rw [h2]; exact ownsRow_keep h.waits f (fun k hk e => (n4 k hk).1 (Eq.symm e))
    new := by rw [h2]; exact h.new.keep f (fun e => n2 (Eq.symm e))
    kept := by rw [h3]; exact h.kept.keep f (fun k hk e => by
                                              have e : k = b := e
                                              subst e
                                              exact h.apart _ hk ((h.own _).2 (.inl rfl)))
    own := h.own
    apart := h.apart
    low := fun k hk => Nat.lt_of_lt_of_le (h.low k hk) f.size }
theorem KeepAt.mono {w : World} {R R' : Nat → Prop} {v : Value} {l : List Bool} (h : KeepAt w R v l) (hr : ∀ k, R k → R' k) : KeepAt w R' v l := by
  obtain ⟨A, c, rfl, hl, h⟩ := h
  refine ⟨A, c, rfl, hl, fun h0 => ?_⟩
  obtain ⟨ad, h1, h2, h3⟩ := h h0
  exact ⟨ad, h1, hr _ h2, h3⟩
theorem DiskAt.mono {w : World} {S R R' : Nat → Prop} {b : Nat} {d : Dk.St} (h : DiskAt w S R b d) (hr : ∀ k, R k → R' k) (ha : ∀ k, R' k → ¬ S k ∧ k < w.heap.size) : DiskAt w S R' b d := by
  obtain ⟨L, cap, wv, M, kv, h⟩ := h
  exact ⟨L, cap, wv, M, kv, { ok := h.ok, box := h.box, lasts := h.lasts, waits := h.waits, new := h.new, kept := h.kept.mono hr, own := h.own, apart := fun k hk => (ha k hk).1, low := fun k hk => (ha k hk).2 }⟩
end Go.Proofs.Ytpgpalnnmoanpaa

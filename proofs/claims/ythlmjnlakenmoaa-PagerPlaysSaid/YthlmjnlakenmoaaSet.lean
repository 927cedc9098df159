/-
  Sets of small numbers, as maps without elements: what one holds, how many there are; plain mathematics beside.
-/
import Derived.Test.YthlmjnlakenmoaaMem
import Derived.Maps.OwnOps
import Derived.Maps.OwnSet
import Derived.Maps.Views
import Derived.Maps.RangeWalk
namespace Go.Proofs.Ythlmjnlakenmoaa
open Go.RowKit Go.Maps
set_option maxRecDepth 100000

/-- how many below N are in f -/
def cnt (N : Nat) (f : Nat → Bool) : Nat := (List.range N).countP f
theorem cnt_le (N : Nat) (f : Nat → Bool) : cnt N f ≤ N := by
  have := List.countP_le_length (p := f) (l := List.range N)
  rwa [List.length_range] at this
theorem cnt_succ (N : Nat) (f : Nat → Bool) : cnt (N + 1) f = cnt N f + if f N then 1 else 0 := by
  rw [cnt, List.range_succ, List.countP_append, List.countP_singleton]; rfl
theorem cnt_congr {N : Nat} {f g : Nat → Bool} (h : ∀ j, j < N → f j = g j) : cnt N f = cnt N g :=
  List.countP_congr fun j hj => by rw [h j (List.mem_range.1 hj)]
theorem cnt_none {N : Nat} {f : Nat → Bool} (h : ∀ j, j < N → f j = false) : cnt N f = 0 :=
  List.countP_eq_zero.2 fun j hj => by rw [h j (List.mem_range.1 hj)]; simp
theorem cnt_set {N i : Nat} (hi : i < N) {f g : Nat → Bool} (hf : f i = false) (hg : g i = true) (h : ∀ j, j ≠ i → f j = g j) : cnt N g = cnt N f + 1 := by
  induction N with
  | zero => omega
  | succ N ih =>
    rw [cnt_succ, cnt_succ]
    by_cases hN : i = N
    · subst hN
      rw [hf, hg, cnt_congr (f := g) (g := f) fun j hj => (h j (by omega)).symm]; simp
    · rw [ih (by omega), h N (fun e => hN e.symm)]; omega
theorem cnt_zero {N : Nat} {f : Nat → Bool} (h : cnt N f = 0) (j : Nat) (hj : j < N) : f j = false := by
  have := List.countP_eq_zero.1 h j (List.mem_range.2 hj)
  simpa using this

/-- a nodup row of numbers whose members are those of f -/
theorem length_of_mem {N : Nat} {f : Nat → Bool} {l : List Nat} (hn : l.Nodup) (h : ∀ j, j ∈ l ↔ j < N ∧ f j = true) : l.length = cnt N f := by
  have hp : l.Perm ((List.range N).filter f) := (List.perm_ext_iff_of_nodup hn (List.nodup_range.filter _)).2 fun j => by rw [h, List.mem_filter, List.mem_range]
  rw [hp.length_eq, cnt, List.countP_eq_length_filter]

theorem wf_small {i : Nat} (h : i < 9223372036854775808) : (Lit.int .i64 (i : Int)).wf = true := by
  simp [Lit.wf, IntKind.min, IntKind.max, IntKind.signed, IntKind.bits]; omega
theorem keyLit_int (x : Int) : WideAt.IsKeyLit (.int .i64 x) := trivial

def keyI (i : Nat) : Lit := .int .i64 (i : Int)
theorem keyI_inj {i j : Nat} (h : keyI i = keyI j) : i = j := by
  unfold keyI at h; injection h with _ h; omega
theorem keyI_ne {i j : Nat} (h : i ≠ j) : keyI i ≠ keyI j := fun e => h (keyI_inj e)

theorem key_int : Keyed Try.prog 3 := int_keyed (q := .i64) (by kernel_rfl)
theorem und_pages : Try.prog.underlying 81 = some (.map 3 111) := by kernel_rfl
theorem zer_unit (w : World) : (zeroValue 111).run Try.prog w = .ok (.agg #[]) w := by kernel_rfl
theorem key_of {i : Nat} (h : i < 9223372036854775808) : keyOf Try.prog 3 (.int .i64 (i : Int)) = some (keyI i) := Maps.keyOf_int_mk (q := .i64) (by kernel_rfl) (wf_small h)

/-- D is the set of the numbers of f, all below N -/
structure SetD (D : DataW Unit) (N : Nat) (f : Nat → Bool) : Prop where
  ent : ∃ es, D = .map es ∧ es.Pairwise (fun p q => p.1 ≠ q.1) ∧ ∀ p ∈ es, WideAt.IsKeyLit p.1
  sup : ∀ j, f j = true → j < N
  mem : ∀ kl, Maps.has D kl = true ↔ ∃ j, f j = true ∧ kl = keyI j
/-- the map in block M is such a set -/
def SetAt (w : World) (M N : Nat) (f : Nat → Bool) : Prop := ∃ n D, w.ownsMap Try.prog 3 unitElem M n D ∧ n ≤ N ∧ SetD D N f

theorem SetD.has {D : DataW Unit} {N : Nat} {f : Nat → Bool} (h : SetD D N f) (j : Nat) : Maps.has D (keyI j) = f j := by
  cases hf : f j
  · rw [Bool.eq_false_iff]
    intro hh
    obtain ⟨k, hk, e⟩ := (h.mem _).1 hh
    rw [keyI_inj e, hk] at hf; cases hf
  · exact (h.mem _).2 ⟨j, hf, rfl⟩
theorem mem_keys : ∀ {es : List (Lit × DataW Unit)}, es.Pairwise (fun p q => p.1 ≠ q.1) → (∀ p ∈ es, ∃ j, p.1 = keyI j) → ∃ l : List Nat, l.Nodup ∧ l.length = es.length ∧ ∀ j, j ∈ l ↔ ∃ p ∈ es, p.1 = keyI j
  | [], _, _ => ⟨[], by simp, rfl, by simp⟩
  | p :: es, hp, hk => by
    obtain ⟨l, hn, hl, hm⟩ := mem_keys (List.pairwise_cons.1 hp).2 (fun q hq => hk q (by simp [hq]))
    obtain ⟨j, hj⟩ := hk p (by simp)
    refine ⟨j :: l, List.nodup_cons.2 ⟨fun h => ?_, hn⟩, by simp [hl], fun k => ?_⟩
    · obtain ⟨q, hq, e⟩ := (hm j).1 h
      exact (List.pairwise_cons.1 hp).1 q hq (hj.trans e.symm)
    · rw [List.mem_cons, hm]
      constructor
      · rintro (rfl | ⟨q, hq, e⟩)
        · exact ⟨p, by simp, hj⟩
        · exact ⟨q, by simp [hq], e⟩
      · rintro ⟨q, hq, e⟩
        rcases List.mem_cons.1 hq with rfl | hq
        · exact .inl (keyI_inj (e.symm.trans hj))
        · exact .inr ⟨q, hq, e⟩
theorem SetD.size {D : DataW Unit} {N : Nat} {f : Nat → Bool} (h : SetD D N f) : Maps.size D = cnt N f := by
  obtain ⟨es, rfl, hp, hk⟩ := h.ent
  have hh : ∀ p ∈ es, Maps.has (.map es) p.1 = true := fun p hp' => List.any_eq_true.2 ⟨p, hp', WideAt.sameKey_self (hk p hp')⟩
  obtain ⟨l, hn, hl, hm⟩ := mem_keys hp (fun p hp' => by obtain ⟨j, _, e⟩ := (h.mem _).1 (hh p hp'); exact ⟨j, e⟩)
  show es.length = _
  rw [← hl]
  refine length_of_mem hn fun j => ?_
  rw [hm]
  constructor
  · rintro ⟨p, hp', e⟩
    have := hh p hp'
    rw [e, h.has] at this
    exact ⟨h.sup j this, this⟩
  · rintro ⟨_, hf⟩
    have := (h.mem _).2 ⟨j, hf, rfl⟩
    obtain ⟨p, hp', e⟩ := List.any_eq_true.1 this
    exact ⟨p, hp', WideAt.sameKey_eq e⟩
theorem SetD.congr {D : DataW Unit} {N : Nat} {f g : Nat → Bool} (h : SetD D N f) (e : ∀ j, f j = g j) : SetD D N g := by
  have : f = g := funext e
  subst this; exact h
theorem SetAt.congr {w : World} {M N : Nat} {f g : Nat → Bool} (h : SetAt w M N f) (e : ∀ j, f j = g j) : SetAt w M N g := by
  have : f = g := funext e
  subst this; exact h
theorem SetD.put {w : World} {M n N : Nat} {D : DataW Unit} {f : Nat → Bool} {i : Nat} (h : SetD D N f) (hi : i < N) (ho : w.ownsMap Try.prog 3 unitElem M n (D.put (keyI i) (.agg []))) : SetD (D.put (keyI i) (.agg [])) N (fun j => j == i || f j) := by
  refine ⟨ho.entries key_int, fun j hj => ?_, fun kl => ?_⟩
  · rcases Bool.or_eq_true_iff.1 hj with e | e
    · rw [beq_iff_eq] at e; omega
    · exact h.sup j e
  · by_cases hk : kl = keyI i
    · subst hk
      obtain ⟨es, rfl, _⟩ := h.ent
      rw [Maps.has_put_same ⟨es, rfl⟩ (show WideAt.IsKeyLit (keyI i) from trivial)]
      exact ⟨fun _ => ⟨i, by simp, rfl⟩, fun _ => rfl⟩
    · rw [Maps.has_put_other hk, h.mem]
      constructor
      · rintro ⟨j, hj, e⟩; exact ⟨j, by simp [hj], e⟩
      · rintro ⟨j, hj, e⟩
        rcases Bool.or_eq_true_iff.1 hj with e' | e'
        · rw [beq_iff_eq] at e'; subst e'; exact absurd e hk
        · exact ⟨j, e', e⟩
theorem SetD.del {w : World} {M n N : Nat} {D : DataW Unit} {f : Nat → Bool} {i : Nat} (h : SetD D N f) (ho : w.ownsMap Try.prog 3 unitElem M n (D.del (keyI i))) : SetD (D.del (keyI i)) N (fun j => j != i && f j) := by
  refine ⟨ho.entries key_int, fun j hj => h.sup j (Bool.and_eq_true_iff.1 hj).2, fun kl => ?_⟩
  by_cases hk : kl = keyI i
  · subst hk
    rw [Maps.has_del_same]
    refine ⟨fun e => (by cases e), ?_⟩
    rintro ⟨j, hj, e⟩
    rw [keyI_inj e] at hj
    simp at hj
  · rw [Maps.has_del_other hk, h.mem]
    constructor
    · rintro ⟨j, hj, e⟩
      refine ⟨j, ?_, e⟩
      rw [hj, Bool.and_true, bne_iff_ne]
      rintro rfl
      exact hk e
    · rintro ⟨j, hj, e⟩; exact ⟨j, (Bool.and_eq_true_iff.1 hj).2, e⟩
theorem ownsMap_tight {w : World} {M n : Nat} {D : DataW Unit} (h : w.ownsMap Try.prog 3 unitElem M n D) : w.ownsMap Try.prog 3 unitElem M (Maps.size D) D := by
  obtain ⟨es, clock, hb, F, hs, rfl⟩ := h
  exact ⟨es, clock, hb, F, by simp [Maps.size, length_sorted], rfl⟩
theorem SetAt.mk' {w : World} {M n N : Nat} {D : DataW Unit} {f : Nat → Bool} (h : w.ownsMap Try.prog 3 unitElem M n D) (hd : SetD D N f) : SetAt w M N f :=
  ⟨_, D, ownsMap_tight h, by rw [hd.size]; exact cnt_le _ _, hd⟩
theorem SetAt.made (w : World) (N : Nat) : SetAt (w.alloc (.map #[] 0)) w.heap.size N (fun _ => false) :=
  SetAt.mk' (World.ownsMap_made w _ _ _) ⟨⟨[], rfl, List.Pairwise.nil, (by simp)⟩, fun j h => (by cases h), fun kl => ⟨fun h => (by cases h), fun ⟨j, h, _⟩ => (by cases h)⟩⟩
theorem SetAt.lt {w : World} {M N : Nat} {f : Nat → Bool} (h : SetAt w M N f) : M < w.heap.size := by
  obtain ⟨n, D, ho, _⟩ := h
  exact ho.lt
theorem SetAt.keep {w w' : World} {S : Nat → Prop} {M N : Nat} {f : Nat → Bool} (h : SetAt w M N f) (fr : Fr S w w') (hs : ¬ S M) : SetAt w' M N f := by
  obtain ⟨n, D, ⟨es, clock, hb, F, hn, hD⟩, h2⟩ := h
  exact ⟨n, D, ⟨es, clock, (fr.old M (lt_of_block hb) hs).trans hb, F, hn, hD⟩, h2⟩
theorem SetAt.block {w : World} {M N : Nat} {f : Nat → Bool} (h : SetAt w M N f) : ∃ es c, w.heap[M]? = some (.map es c) := by
  obtain ⟨n, D, ⟨es, clock, hb, _⟩, _⟩ := h
  exact ⟨es, clock, hb⟩
theorem Has.ne_map {w : World} {g M N : Nat} {t : TypeId} {cs : Array Value} {f : Nat → Bool} (h : Has w g t cs) (hm : SetAt w M N f) : g ≠ M := fun e => by
  obtain ⟨es, c, hb⟩ := hm.block
  subst e
  cases hb.symm.trans h
theorem Fr.of_turned {w w' : World} {b : Nat} (h : w.mapTurned w' b) : Fr (oneB b) w w' := Fr.of_grown h.grown fun k e => by injection e with e; exact e.symm

/-! ### the calls of pages -/
theorem phas_any (w : World) (M N : Nat) (f : Nat → Bool) (h : SetAt w M N f) (i : Nat) (hi : i < 9223372036854775808) :
    Calls Try.prog 45 #[.map (some M), .int .i64 (i : Int)] w fun e w' => e = .returned (.bool (f i)) ∧ Below w.heap.size w w' := by
  obtain ⟨n, D, ho, _, hd⟩ := h
  have hh := hd.has i
  have zu := zer_unit
  have Ho := Lib.hid ho
  clear ho
  go_enter Try.func45, Try.ntmps45
  go_wp2_with (at_lookup; refine wpList_lookup_own_unit _ rfl _ _ 81 rfl 3 111 key_int und_pages (zer_unit _) M n D rfl Ho.out _ _ rfl (key_of hi) ?_)
  go_ret
  exact ⟨by first | rfl | rw [hh], (Below.refl _ _).alloc (Nat.le_refl _) _⟩
theorem padd_any (w : World) (M N : Nat) (f : Nat → Bool) (h : SetAt w M N f) (i : Nat) (hi : i < N) (hN : N ≤ 1000000) :
    Calls Try.prog 38 #[.map (some M), .int .i64 (i : Int)] w fun e w' => e = .returned (.tuple #[]) ∧ SetAt w' M N (fun j => j == i || f j) ∧ Fr (oneB M) w w' := by
  obtain ⟨n, D, ho, hn, hd⟩ := h
  have Ho := Lib.hid ho
  clear ho
  have hn' : n < maxLen := by simp only [maxLen]; omega
  have hi' : i < 9223372036854775808 := by omega
  go_enter Try.func38, Try.ntmps38
  go_wp2_with (refine wpList_mapUpdate_in _ rfl _ _ _ 81 rfl 3 111 key_int und_pages unitElem M n D rfl Ho.out hn' _ _ _ rfl rfl (key_of hi') (.agg []) [] unitElem_mk ?_; intro w1 ho1 ht1; have Ho1 := Lib.hid ho1; have Ht1 := Lib.hid ht1; clear ho1 ht1)
  go_end0
  exact ⟨rfl, SetAt.mk' Ho1.out (hd.put hi Ho1.out), Fr.of_turned Ht1.out⟩
end Go.Proofs.Ythlmjnlakenmoaa
/-
  A set is gone through, in whatever order.
-/
namespace Go.Proofs.Ythlmjnlakenmoaa
open Go.RowKit Go.Maps
set_option maxRecDepth 100000

/-- the round of a loop over the set f in block M, by the iterator in block r: of f those of g are still to come -/
def SetGo (w : World) (M r N : Nat) (f g : Nat → Bool) (c : Nat) : Prop :=
  ∃ n D left, w.ranges Try.prog 3 unitElem M r n D left c ∧ SetD D N f ∧ (∀ j, left (keyI j) = g j) ∧ ∀ kl, left kl = true → Maps.has D kl = true
theorem ranges_keep {w w' : World} {S : Nat → Prop} {M r n : Nat} {D : DataW Unit} {left : Lit → Bool} {c : Nat} (h : w.ranges Try.prog 3 unitElem M r n D left c) (f : Fr S w w') (hM : ¬ S M) (hr : ¬ S r) : w'.ranges Try.prog 3 unitElem M r n D left c := by
  obtain ⟨es, clock, since, seen, c0, h1, h2, h3, h4, h5, h6⟩ := h
  exact ⟨es, clock, since, seen, c0, (f.old M (lt_of_block h1) hM).trans h1, h2, h3, h4, (f.old r (lt_of_block h5) hr).trans h5, h6⟩
theorem SetGo.keep {w w' : World} {S : Nat → Prop} {M r N c : Nat} {f g : Nat → Bool} (h : SetGo w M r N f g c) (fr : Fr S w w') (hM : ¬ S M) (hr : ¬ S r) : SetGo w' M r N f g c := by
  obtain ⟨n, D, left, h1, h2⟩ := h
  exact ⟨n, D, left, ranges_keep h1 fr hM hr, h2⟩
theorem SetGo.lt {w : World} {M r N c : Nat} {f g : Nat → Bool} (h : SetGo w M r N f g c) : r < w.heap.size := by
  obtain ⟨n, D, left, h1, _⟩ := h
  exact h1.lt
theorem SetGo.count {w : World} {M r N c : Nat} {f g : Nat → Bool} (h : SetGo w M r N f g c) : w.rangeLeft M r = c := by
  obtain ⟨n, D, left, h1, _⟩ := h
  exact h1.left_eq
theorem SetGo.at_ {w : World} {M r N c : Nat} {f g : Nat → Bool} (h : SetGo w M r N f g c) : SetAt w M N f := by
  obtain ⟨n, D, left, h1, h2, _⟩ := h
  exact SetAt.mk' h1.owns h2
theorem key_inv {x : Int} {kl : Lit} (h : keyOf Try.prog 3 (.int .i64 x) = some kl) : kl = .int .i64 x := by
  obtain ⟨y, h1, rfl, _⟩ := Maps.keyOf_int_inv (q := .i64) (by kernel_rfl) h
  injection h1 with _ h1
  rw [h1]

section
variable (w : World) {ops : Array Oper} {rest : List Oper} {o : Oper} {a : Act} {Q : Exit → Act → World → Prop}
theorem wpList_range_set (hg : o.guard = none) (m : Operand) (hop : o.op = Op.range 81 m) (M N : Nat) (f : Nat → Bool) (hm : a.eval m = .map (some M)) (hs : SetAt w M N f)
    (hK : ∀ w', Hid (SetGo w' M w.heap.size N f f (w'.rangeLeft M w.heap.size)) → Hid (Fr noB w w') → wpList Try.prog ops Q rest (a.put o.dst (.pointer (some ⟨w.heap.size, 0, none⟩))) w') : wpList Try.prog ops Q (o :: rest) a w := by
  obtain ⟨n, D, ho, _, hd⟩ := hs
  refine wpList_range_own w hg m _ hop _ _ key_int und_pages _ M n D hm ho fun w' h1 h2 h3 => hK w' (Lib.hid ?_) (Lib.hid (Fr.of_grown h2 (fun k hk => by cases hk)))
  rw [h1.left_eq]
  exact ⟨n, D, _, h1, hd, hd.has, fun kl hk => hk⟩
theorem wpList_next_set (hg : o.guard = none) (it : Operand) (hop : o.op = Op.next it false) (M r N c : Nat) (f g : Nat → Bool) (hit : a.eval it = .pointer (some ⟨r, 0, none⟩)) (h : SetGo w M r N f g c)
    (hDone : (∀ j, g j = false) → wpList Try.prog ops Q rest (a.put o.dst (.tuple #[.bool false])) w)
    (hMore : ∀ (i : Nat) (w' : World) (c' : Nat), g i = true → f i = true → i < N → Hid (SetGo w' M r N f (fun j => g j && j != i) c') → c' < c → Hid (Fr (oneB r) w w') → (Instr.entry (.pointer (some ⟨r, 0, none⟩))).run Try.prog w' = .ok (.tuple #[.int .i64 (i : Int), .agg #[]]) w' →
      wpList Try.prog ops Q rest (a.put o.dst (.tuple #[.bool true, .int .i64 (i : Int), .agg #[]])) w') : wpList Try.prog ops Q (o :: rest) a w := by
  obtain ⟨n, D, left, h1, hd, hl, hh⟩ := h
  refine wpList_next_ranges w hg it hop 3 key_int unitElem (Value.int .i64) (fun _ : Unit => Value.agg #[]) (fun key kl hk => by obtain ⟨x, rfl, _⟩ := Maps.keyOf_int_inv (q := .i64) (by kernel_rfl) hk; exact ⟨x, rfl⟩) (fun v y hv => ⟨(), (unitElem_inv hv).1⟩) M r n D left c hit h1
    (fun _ hz => hDone fun j => by rw [← hl]; exact hz _) (fun x _ kl y w' c' hkey hlk hv hat hrg hlt hgr hsz hen => ?_)
  have hk := key_inv hkey
  have hhas := hh kl hlk
  obtain ⟨i, hfi, hki⟩ := (hd.mem kl).1 hhas
  have hx : x = (i : Int) := by
    rw [hk] at hki
    unfold keyI at hki
    injection hki
  subst hx
  subst hki
  refine hMore i w' c' (by rw [← hl]; exact hlk) hfi (hd.sup i hfi) (Lib.hid ⟨n, D, _, hrg, hd, fun j => ?_, fun kl' hk' => ?_⟩) hlt (Lib.hid (Fr.of_grown hgr (fun k hk => by injection hk with hk; exact hk.symm))) hen
  · show (left (keyI j) && !(keyI j).sameKey (keyI i)) = _
    rw [hl]
    by_cases hji : j = i
    · subst hji
      rw [WideAt.sameKey_self (show WideAt.IsKeyLit (keyI j) from trivial)]; simp
    · have hb : (j != i) = true := bne_iff_ne.2 hji
      show _ = (g j && j != i)
      rw [Maps.sameKey_ne (keyI_ne hji), hb]
      rfl
  · have : (left kl' && !kl'.sameKey (keyI i)) = true := hk'
    rw [Bool.and_eq_true] at this
    exact hh kl' this.1
end
end Go.Proofs.Ythlmjnlakenmoaa

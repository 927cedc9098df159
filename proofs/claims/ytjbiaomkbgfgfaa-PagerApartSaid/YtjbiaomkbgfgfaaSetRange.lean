/-
  A set is gone through, in whatever order.
-/
import Derived.Test.YtjbiaomkbgfgfaaSet
namespace Go.Proofs.Ytjbiaomkbgfgfaa
open Go.RowKit Go.Maps
set_option maxRecDepth 100000

/-- the round of a loop over the set f in block M, by the iterator in block r: of f those of g are still to come -/
def SetGo (w : World) (M r N : Nat) (f g : Nat → Bool) (c : Nat) : Prop :=
  ∃ n D left, w.ranges Try.prog 3 unitElem M r n D left c ∧ SetD D N f ∧ (∀ j, left (keyI j) = g j) ∧ ∀ kl, left kl = true → Maps.has D kl = true
theorem ranges_keep {w w' : World} {S : Nat → Prop} {M r n : Nat} {D : DataW Unit} {left : Lit → Bool} {c : Nat} (h : w.ranges Try.prog 3 unitElem M r n D left c) (f : Fr S w w') (hM : ¬ S M) (hr : ¬ S r) : w'.ranges Try.prog 3 unitElem M r n D left c := by
  obtain ⟨es, clock, since, seen, c0, h1, h2, h3, h4, h5, h6⟩ := h
  exact ⟨es, clock, since, seen, c0, (f.old M (lt_of_block h1) hM).trans h1, h2, h3, h4, (f.old r (lt_of_block h5) hr).trans h5, h6⟩
theorem SetGo.keep {w w' : World} {S : Nat → Prop} {M r N c : Nat} {f g : Nat → Bool} (h : SetGo w M r N f g c) (fr : Fr S w w') (hM : ¬ S M) (hr : ¬ S r) : SetGo w' M r N f g c := by
  obtain ⟨n, D, left, h1, h2⟩ := h
  exact ⟨n, D, left, ranges_keep h1 fr hM hr, h2⟩
theorem SetGo.lt {w : World} {M r N c : Nat} {f g : Nat → Bool} (h : SetGo w M r N f g c) : r < w.heap.size := by
  obtain ⟨n, D, left, h1, _⟩ := h
  exact h1.lt
theorem SetGo.count {w : World} {M r N c : Nat} {f g : Nat → Bool} (h : SetGo w M r N f g c) : w.rangeLeft M r = c := by
  obtain ⟨n, D, left, h1, _⟩ := h
  exact h1.left_eq
theorem SetGo.at_ {w : World} {M r N c : Nat} {f g : Nat → Bool} (h : SetGo w M r N f g c) : SetAt w M N f := by
  obtain ⟨n, D, left, h1, h2, _⟩ := h
  exact SetAt.mk' h1.owns h2
theorem key_inv {x : Int} {kl : Lit} (h : keyOf Try.prog 3 (.int .i64 x) = some kl) : kl = .int .i64 x := by
  obtain ⟨y, h1, rfl, _⟩ := Maps.keyOf_int_inv (q := .i64) (by kernel_rfl) h
  injection h1 with _ h1
  rw [h1]

section
variable (w : World) {ops : Array Oper} {rest : List Oper} {o : Oper} {a : Act} {Q : Exit → Act → World → Prop}
theorem wpList_range_set (hg : o.guard = none) (m : Operand) (hop : o.op = Op.range 81 m) (M N : Nat) (f : Nat → Bool) (hm : a.eval m = .map (some M)) (hs : SetAt w M N f)
    (hK : ∀ w', Hid (SetGo w' M w.heap.size N f f (w'.rangeLeft M w.heap.size)) → Hid (Fr noB w w') → wpList Try.prog ops Q rest (a.put o.dst (.pointer (some ⟨w.heap.size, 0, none⟩))) w') : wpList Try.prog ops Q (o :: rest) a w := by
  obtain ⟨n, D, ho, _, hd⟩ := hs
  refine wpList_range_own w hg m _ hop _ _ key_int und_pages _ M n D hm ho fun w' h1 h2 h3 => hK w' (Lib.hid ?_) (Lib.hid (Fr.of_grown h2 (fun k hk => by cases hk)))
  rw [h1.left_eq]
  exact ⟨n, D, _, h1, hd, hd.has, fun kl hk => hk⟩
theorem wpList_next_set (hg : o.guard = none) (it : Operand) (hop : o.op = Op.next it false) (M r N c : Nat) (f g : Nat → Bool) (hit : a.eval it = .pointer (some ⟨r, 0, none⟩)) (h : SetGo w M r N f g c)
    (hDone : (∀ j, g j = false) → wpList Try.prog ops Q rest (a.put o.dst (.tuple #[.bool false])) w)
    (hMore : ∀ (i : Nat) (w' : World) (c' : Nat), g i = true → f i = true → i < N → Hid (SetGo w' M r N f (fun j => g j && j != i) c') → c' < c → Hid (Fr (oneB r) w w') → (Instr.entry (.pointer (some ⟨r, 0, none⟩))).run Try.prog w' = .ok (.tuple #[.int .i64 (i : Int), .agg #[]]) w' →
      wpList Try.prog ops Q rest (a.put o.dst (.tuple #[.bool true, .int .i64 (i : Int), .agg #[]])) w') : wpList Try.prog ops Q (o :: rest) a w := by
  obtain ⟨n, D, left, h1, hd, hl, hh⟩ := h
  refine wpList_next_ranges w hg it hop 3 key_int unitElem (Value.int .i64) (fun _ : Unit => Value.agg #[]) (fun key kl hk => by obtain ⟨x, rfl, _⟩ := Maps.keyOf_int_inv (q := .i64) (by kernel_rfl) hk; exact ⟨x, rfl⟩) (fun v y hv => ⟨(), (unitElem_inv hv).1⟩) M r n D left c hit h1
    (fun _ hz => hDone fun j => by rw [← hl]; exact hz _) (fun x _ kl y w' c' hkey hlk hv hat hrg hlt hgr hsz hen => ?_)
  have hk := key_inv hkey
  have hhas := hh kl hlk
  obtain ⟨i, hfi, hki⟩ := (hd.mem kl).1 hhas
  have hx : x = (i : Int) := by
    rw [hk] at hki
    unfold keyI at hki
    injection hki
  subst hx
  subst hki
  refine hMore i w' c' (by rw [← hl]; exact hlk) hfi (hd.sup i hfi) (Lib.hid ⟨n, D, _, hrg, hd, fun j => ?_, fun kl' hk' => ?_⟩) hlt (Lib.hid (Fr.of_grown hgr (fun k hk => by injection hk with hk; exact hk.symm))) hen
  · show (left (keyI j) && !(keyI j).sameKey (keyI i)) = _
    rw [hl]
    by_cases hji : j = i
    · subst hji
      rw [WideAt.sameKey_self (show WideAt.IsKeyLit (keyI j) from trivial)]; simp
    · have hb : (j != i) = true := bne_iff_ne.2 hji
      show _ = (g j && j != i)
      rw [Maps.sameKey_ne (keyI_ne hji), hb]
      rfl
  · have : (left kl' && !kl'.sameKey (keyI i)) = true := hk'
    rw [Bool.and_eq_true] at this
    exact hh kl' this.1
end
end Go.Proofs.Ytjbiaomkbgfgfaa

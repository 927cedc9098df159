/-
  Texts by small numbers, in a map of the call's own: what it holds; a text is put, struck, looked up; all are gone through.
-/
import Derived.Test.YthlmjnlakenmoaaSet
import Derived.Test.YthlmjnlakenmoaaGMem
import Derived.Maps.StringElems
namespace Go.Proofs.Ythlmjnlakenmoaa
open Go.RowKit Go.Maps
set_option maxRecDepth 100000

theorem und_string : Try.prog.underlying 9 = some .string := by kernel_rfl
theorem und_texts : Try.prog.underlying 62 = some (.map 3 9) := by kernel_rfl
theorem zer_string (w : World) : (zeroValue 9).run Try.prog w = .ok (bstr []) w := by kernel_rfl
theorem strE_mk {b : List UInt8} (h : b.length ≤ 140737488355328) : (plainElem (H := Unit) Try.prog 9) (bstr b) = some (.lit (.string b), []) := plainElem_string und_string (by show b.toArray.size ≤ maxLen; simp only [maxLen, List.size_toArray]; omega)
/-- D holds the texts f, all below N -/
structure TxtD (D : DataW Unit) (N : Nat) (f : Nat → Option (List UInt8)) : Prop where
  set : SetD D N (fun j => (f j).isSome)
  val : ∀ j b, f j = some b → ∀ z, D.atKey (keyI j) z = .lit (.string b)
theorem TxtD.isMap {D : DataW Unit} {N : Nat} {f : Nat → Option (List UInt8)} (h : TxtD D N f) : IsMap D := by
  obtain ⟨es, e, _⟩ := h.set.ent
  exact ⟨es, e⟩
theorem TxtD.look {D : DataW Unit} {N : Nat} {f : Nat → Option (List UInt8)} (h : TxtD D N f) (j : Nat) : D.atKey (keyI j) (.lit (.string [])) = .lit (.string ((f j).getD [])) := by
  cases hf : f j with
  | none =>
    refine atKey_of_not_has ?_ _
    rw [h.set.has, hf]; rfl
  | some b => rw [h.val j b hf]; rfl
theorem TxtD.put {w : World} {M n N : Nat} {D : DataW Unit} {f : Nat → Option (List UInt8)} {i : Nat} {b : List UInt8} (h : TxtD D N f) (hi : i < N) (ho : w.ownsMap Try.prog 3 (plainElem (H := Unit) Try.prog 9) M n (D.put (keyI i) (.lit (.string b)))) :
    TxtD (D.put (keyI i) (.lit (.string b))) N (fun j => if j = i then some b else f j) := by
  refine ⟨⟨ho.entries key_int, fun j hj => ?_, fun kl => ?_⟩, fun j c hj z => ?_⟩
  · by_cases e : j = i
    · omega
    · simp only [if_neg e] at hj
      exact h.set.sup j hj
  · by_cases hk : kl = keyI i
    · subst hk
      rw [Maps.has_put_same h.isMap (show WideAt.IsKeyLit (keyI i) from trivial)]
      exact ⟨fun _ => ⟨i, by simp, rfl⟩, fun _ => rfl⟩
    · rw [Maps.has_put_other hk, h.set.mem]
      constructor
      · rintro ⟨j, hj, e⟩
        have : j ≠ i := by rintro rfl; exact hk e
        exact ⟨j, by simp only [if_neg this]; exact hj, e⟩
      · rintro ⟨j, hj, e⟩
        have : j ≠ i := by rintro rfl; exact hk e
        simp only [if_neg this] at hj
        exact ⟨j, hj, e⟩
  · by_cases e : j = i
    · subst e
      rw [if_pos rfl] at hj
      injection hj with hj
      subst hj
      exact atKey_put_same h.isMap (show WideAt.IsKeyLit (keyI j) from trivial) _ _
    · rw [if_neg e] at hj
      rw [atKey_put_other (keyI_ne e)]
      exact h.val j c hj z
theorem TxtD.del {w : World} {M n N : Nat} {D : DataW Unit} {f : Nat → Option (List UInt8)} {i : Nat} (h : TxtD D N f) (ho : w.ownsMap Try.prog 3 (plainElem (H := Unit) Try.prog 9) M n (D.del (keyI i))) : TxtD (D.del (keyI i)) N (fun j => if j = i then none else f j) := by
  refine ⟨⟨ho.entries key_int, fun j hj => ?_, fun kl => ?_⟩, fun j c hj z => ?_⟩
  · by_cases e : j = i
    · simp [e] at hj
    · simp only [if_neg e] at hj
      exact h.set.sup j hj
  · by_cases hk : kl = keyI i
    · subst hk
      rw [Maps.has_del_same]
      refine ⟨fun e => (by cases e), ?_⟩
      rintro ⟨j, hj, e⟩
      rw [keyI_inj e] at hj
      simp at hj
    · rw [Maps.has_del_other hk, h.set.mem]
      constructor
      · rintro ⟨j, hj, e⟩
        have : j ≠ i := by rintro rfl; exact hk e
        exact ⟨j, by simp only [if_neg this]; exact hj, e⟩
      · rintro ⟨j, hj, e⟩
        have : j ≠ i := by rintro rfl; exact hk e
        simp only [if_neg this] at hj
        exact ⟨j, hj, e⟩
  · by_cases e : j = i
    · rw [if_pos e] at hj; cases hj
    · rw [if_neg e] at hj
      rw [atKey_del_other (keyI_ne e)]
      exact h.val j c hj z
/-- the map in block M holds the texts f -/
def TxtAt (w : World) (M N : Nat) (f : Nat → Option (List UInt8)) : Prop := ∃ n D, w.ownsMap Try.prog 3 (plainElem (H := Unit) Try.prog 9) M n D ∧ n ≤ N ∧ TxtD D N f
theorem TxtAt.mk' {w : World} {M n N : Nat} {D : DataW Unit} {f : Nat → Option (List UInt8)} (h : w.ownsMap Try.prog 3 (plainElem (H := Unit) Try.prog 9) M n D) (hd : TxtD D N f) : TxtAt w M N f := by
  obtain ⟨es, clock, hb, F, hs, rfl⟩ := h
  refine ⟨_, _, ⟨es, clock, hb, F, Nat.le_refl _, rfl⟩, ?_, hd⟩
  have := hd.set.size
  have h2 := cnt_le N (fun j => (f j).isSome)
  rw [← this] at h2
  simpa [Maps.size, length_sorted] using h2
theorem TxtAt.made (w : World) (N : Nat) : TxtAt (w.alloc (.map #[] 0)) w.heap.size N (fun _ => none) :=
  TxtAt.mk' (World.ownsMap_made w _ _ _) ⟨⟨⟨[], rfl, List.Pairwise.nil, (by simp)⟩, fun j h => (by cases h), fun kl => ⟨fun h => (by cases h), fun ⟨j, h, _⟩ => (by cases h)⟩⟩, fun j b h => (by cases h)⟩
theorem TxtAt.lt {w : World} {M N : Nat} {f : Nat → Option (List UInt8)} (h : TxtAt w M N f) : M < w.heap.size := by
  obtain ⟨n, D, ho, _⟩ := h
  exact ho.lt
theorem TxtAt.keep {w w' : World} {S : Nat → Prop} {M N : Nat} {f : Nat → Option (List UInt8)} (h : TxtAt w M N f) (fr : Fr S w w') (hs : ¬ S M) : TxtAt w' M N f := by
  obtain ⟨n, D, ⟨es, clock, hb, F, hn, hD⟩, h2⟩ := h
  exact ⟨n, D, ⟨es, clock, (fr.old M (lt_of_block hb) hs).trans hb, F, hn, hD⟩, h2⟩
theorem TxtAt.block {w : World} {M N : Nat} {f : Nat → Option (List UInt8)} (h : TxtAt w M N f) : ∃ es c, w.heap[M]? = some (.map es c) := by
  obtain ⟨n, D, ⟨es, clock, hb, _⟩, _⟩ := h
  exact ⟨es, clock, hb⟩
theorem Has.ne_texts {w : World} {g M N : Nat} {t : TypeId} {cs : Array Value} {f : Nat → Option (List UInt8)} (h : Has w g t cs) (hm : TxtAt w M N f) : g ≠ M := fun e => by
  obtain ⟨es, c, hb⟩ := hm.block
  subst e
  cases hb.symm.trans h
theorem TxtAt.congr {w : World} {M N : Nat} {f g : Nat → Option (List UInt8)} (h : TxtAt w M N f) (e : ∀ j, f j = g j) : TxtAt w M N g := by
  have : f = g := funext e
  subst this; exact h
/-- a text is looked up -/
theorem TxtAt.look {w : World} {M N : Nat} {f : Nat → Option (List UInt8)} (h : TxtAt w M N f) (i : Nat) (hi : i < 9223372036854775808) :
    (Instr.lookup 62 (.map (some M)) (.int .i64 (i : Int)) false).run Try.prog w = .ok (bstr ((f i).getD [])) w := by
  obtain ⟨n, D, ho, _, hd⟩ := h
  obtain ⟨v, ps, hrun, hv⟩ := ho.lookup key_int und_texts (zer_string w) (strE_mk (b := []) (by simp)) (key_of hi)
  rw [hd.look i] at hv
  obtain ⟨s, rfl, hz, _⟩ := plainElem_string_inv und_string hv
  rw [hrun]
  injection hz with hz _
  injection hz with hz
  injection hz with hz
  rw [hz]
  rfl
theorem TxtAt.look_ok {w : World} {M N : Nat} {f : Nat → Option (List UInt8)} (h : TxtAt w M N f) (i : Nat) (hi : i < 9223372036854775808) :
    (Instr.lookup 62 (.map (some M)) (.int .i64 (i : Int)) true).run Try.prog w = .ok (.tuple #[bstr ((f i).getD []), .bool (f i).isSome]) w := by
  obtain ⟨n, D, ho, _, hd⟩ := h
  obtain ⟨v, ps, hrun, hv⟩ := ho.look_ok key_int und_texts (zer_string w) (strE_mk (b := []) (by simp)) (key_of hi)
  have hh : Maps.has D (keyI i) = (f i).isSome := hd.set.has i
  rw [hd.look i] at hv
  obtain ⟨s, rfl, hz, _⟩ := plainElem_string_inv und_string hv
  rw [hrun, hh]
  injection hz with hz _
  injection hz with hz
  injection hz with hz
  rw [hz]
  rfl

section
variable (w : World) {ops : Array Oper} {rest : List Oper} {o : Oper} {a : Act} {Q : Exit → Act → World → Prop}
theorem wpList_put_text (hg : o.guard = none) (m x v : Operand) (hop : o.op = Op.mapUpdate 62 m x v) (M N : Nat) (f : Nat → Option (List UInt8)) (h : TxtAt w M N f) (hm : a.eval m = .map (some M)) (i : Nat) (hi : i < N) (hN : N ≤ 1000000) (hx : a.eval x = .int .i64 (i : Int)) (b : List UInt8) (hb : b.length ≤ 140737488355328) (hv : a.eval v = bstr b)
    (hK : ∀ w', Hid (TxtAt w' M N (fun j => if j = i then some b else f j)) → Hid (Fr (oneB M) w w') → wpList Try.prog ops Q rest (a.put o.dst undef) w') : wpList Try.prog ops Q (o :: rest) a w := by
  obtain ⟨n, D, ho, hn, hd⟩ := h
  exact wpList_mapUpdate_in w hg m x v _ hop _ _ key_int und_texts _ M n D hm ho (by simp only [maxLen]; omega) _ _ _ hx hv (key_of (by omega)) _ _ (strE_mk hb) fun w' h1 h2 => hK w' (Lib.hid (TxtAt.mk' h1 (hd.put hi h1))) (Lib.hid (Fr.of_turned h2))
theorem wpList_del_text (hg : o.guard = none) (m x : Operand) (hop : o.op = Op.call { callee := Callee.builtin Builtin.delete, args := #[m, x], argTypes := #[62, 3] }) (M N : Nat) (f : Nat → Option (List UInt8)) (h : TxtAt w M N f) (hm : a.eval m = .map (some M)) (i : Nat) (hi : i < 9223372036854775808) (hx : a.eval x = .int .i64 (i : Int))
    (hK : ∀ w', Hid (TxtAt w' M N (fun j => if j = i then none else f j)) → Hid (Fr (oneB M) w w') → wpList Try.prog ops Q rest (a.put o.dst (.tuple #[])) w') : wpList Try.prog ops Q (o :: rest) a w := by
  obtain ⟨n, D, ho, hn, hd⟩ := h
  exact wpList_delete_own w hg m x _ _ hop _ key_int und_texts _ M n D hm ho _ _ hx (key_of hi) fun w' h1 h2 => hK w' (Lib.hid (TxtAt.mk' h1 (hd.del h1))) (Lib.hid (Fr.of_turned h2))
end
/-- the round of a loop over the texts f in block M, by the iterator in block r: of f those of g are still to come -/
def TxtGo (w : World) (M r N : Nat) (f : Nat → Option (List UInt8)) (g : Nat → Bool) (c : Nat) : Prop :=
  ∃ n D left, w.ranges Try.prog 3 (plainElem (H := Unit) Try.prog 9) M r n D left c ∧ TxtD D N f ∧ (∀ j, left (keyI j) = g j) ∧ ∀ kl, left kl = true → Maps.has D kl = true
theorem TxtGo.keep {w w' : World} {S : Nat → Prop} {M r N c : Nat} {f : Nat → Option (List UInt8)} {g : Nat → Bool} (h : TxtGo w M r N f g c) (fr : Fr S w w') (hM : ¬ S M) (hr : ¬ S r) : TxtGo w' M r N f g c := by
  obtain ⟨n, D, left, ⟨es, clock, since, seen, c0, h1, h2, h3, h4, h5, h6⟩, h7⟩ := h
  exact ⟨n, D, left, ⟨es, clock, since, seen, c0, (fr.old M (lt_of_block h1) hM).trans h1, h2, h3, h4, (fr.old r (lt_of_block h5) hr).trans h5, h6⟩, h7⟩
theorem TxtGo.lt {w : World} {M r N c : Nat} {f : Nat → Option (List UInt8)} {g : Nat → Bool} (h : TxtGo w M r N f g c) : r < w.heap.size := by
  obtain ⟨n, D, left, h1, _⟩ := h
  exact h1.lt
theorem TxtGo.count {w : World} {M r N c : Nat} {f : Nat → Option (List UInt8)} {g : Nat → Bool} (h : TxtGo w M r N f g c) : w.rangeLeft M r = c := by
  obtain ⟨n, D, left, h1, _⟩ := h
  exact h1.left_eq
theorem TxtGo.at_ {w : World} {M r N c : Nat} {f : Nat → Option (List UInt8)} {g : Nat → Bool} (h : TxtGo w M r N f g c) : TxtAt w M N f := by
  obtain ⟨n, D, left, h1, h2, _⟩ := h
  exact TxtAt.mk' h1.owns h2
section
variable (w : World) {ops : Array Oper} {rest : List Oper} {o : Oper} {a : Act} {Q : Exit → Act → World → Prop}
theorem wpList_range_txt (hg : o.guard = none) (m : Operand) (hop : o.op = Op.range 62 m) (M N : Nat) (f : Nat → Option (List UInt8)) (hm : a.eval m = .map (some M)) (hs : TxtAt w M N f)
    (hK : ∀ w', Hid (TxtGo w' M w.heap.size N f (fun j => (f j).isSome) (w'.rangeLeft M w.heap.size)) → Hid (Fr noB w w') → wpList Try.prog ops Q rest (a.put o.dst (.pointer (some ⟨w.heap.size, 0, none⟩))) w') : wpList Try.prog ops Q (o :: rest) a w := by
  obtain ⟨n, D, ho, _, hd⟩ := hs
  refine wpList_range_own w hg m _ hop _ _ key_int und_texts _ M n D hm ho fun w' h1 h2 h3 => hK w' (Lib.hid ?_) (Lib.hid (Fr.of_grown h2 (fun k hk => by cases hk)))
  rw [h1.left_eq]
  exact ⟨n, D, _, h1, hd, hd.set.has, fun kl hk => hk⟩
theorem wpList_next_txt (hg : o.guard = none) (it : Operand) (hop : o.op = Op.next it false) (M r N c : Nat) (f : Nat → Option (List UInt8)) (g : Nat → Bool) (hit : a.eval it = .pointer (some ⟨r, 0, none⟩)) (h : TxtGo w M r N f g c)
    (hDone : (∀ j, g j = false) → wpList Try.prog ops Q rest (a.put o.dst (.tuple #[.bool false])) w)
    (hMore : ∀ (i : Nat) (b : List UInt8) (w' : World) (c' : Nat), g i = true → f i = some b → i < N → Hid (TxtGo w' M r N f (fun j => g j && j != i) c') → c' < c → Hid (Fr (oneB r) w w') → (Instr.entry (.pointer (some ⟨r, 0, none⟩))).run Try.prog w' = .ok (.tuple #[.int .i64 (i : Int), bstr b]) w' →
      wpList Try.prog ops Q rest (a.put o.dst (.tuple #[.bool true, .int .i64 (i : Int), bstr b])) w') : wpList Try.prog ops Q (o :: rest) a w := by
  obtain ⟨n, D, left, h1, hd, hl, hh⟩ := h
  refine wpList_next_ranges_is w hg it hop _ _ .i64 key_int (by kernel_rfl) und_string M r n D left c hit h1 (fun _ hz => hDone fun j => by rw [← hl]; exact hz _) fun x s w' c' _ _ hlk hat hrg hlt hgr hsz hen => ?_
  have hhas := hh _ hlk
  obtain ⟨i, hfi, hki⟩ := (hd.set.mem _).1 hhas
  have hx : x = (i : Int) := by
    unfold keyI at hki
    injection hki
  subst hx
  obtain ⟨b, hb⟩ := Option.isSome_iff_exists.1 hfi
  have hval := hd.val i b hb (.lit (.string []))
  have hat' := hat (.lit (.string []))
  rw [show (Lit.int .i64 (i : Int)) = keyI i from rfl] at *
  rw [hval] at hat'
  injection hat' with hat'
  injection hat' with hat'
  have hs : Value.string s = bstr b := by rw [hat']; rfl
  rw [hs] at hen ⊢
  refine hMore i b w' c' (by rw [← hl]; exact hlk) hb (hd.set.sup i hfi) (Lib.hid ⟨n, D, _, hrg, hd, fun j => ?_, fun kl' hk' => ?_⟩) hlt (Lib.hid (Fr.of_grown hgr (fun k hk => by injection hk with hk; exact hk.symm))) hen
  · show (left (keyI j) && !(keyI j).sameKey (keyI i)) = _
    rw [hl]
    by_cases hji : j = i
    · subst hji
      rw [WideAt.sameKey_self (show WideAt.IsKeyLit (keyI j) from trivial)]; simp
    · have hb : (j != i) = true := bne_iff_ne.2 hji
      show _ = (g j && j != i)
      rw [Maps.sameKey_ne (keyI_ne hji), hb]
      rfl
  · have : (left kl' && !kl'.sameKey (keyI i)) = true := hk'
    rw [Bool.and_eq_true] at this
    exact hh kl' this.1
end
end Go.Proofs.Ythlmjnlakenmoaa

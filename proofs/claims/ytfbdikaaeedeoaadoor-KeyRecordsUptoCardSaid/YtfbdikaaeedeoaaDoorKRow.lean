/-
  Rows of parts, and of items, of the call's own: one more is appended.
-/
import Derived.Test.YtfbdikaaeedeoaaDoorKPack
import Derived.Deep.AppendLies
import Derived.Deep.RegionHeld3
namespace Go.Proofs.YtfbdikaaeedeoaaDoor
open Go.RowKit Go.Maps
set_option maxRecDepth 100000

/-- a type of slices, its elements' type, their cells and bytes -/
structure Elt (st e : TypeId) (size bytes : Nat) : Prop where
  und : Tryd.prog.underlying st = some (.slice e)
  pos : 0 < size
  inf : ∃ i z, Tryd.prog.info? e = some i ∧ i.zero = some z ∧ i.size = size ∧ i.bytes = bytes ∧ z.cells.size = size
theorem elt_of {st e : TypeId} {size bytes : Nat} {z : Value} (h1 : Tryd.prog.underlying st = some (.slice e)) (h2 : (Tryd.prog.info? e).map (fun i => (i.zero, i.size, i.bytes)) = some (some z, size, bytes)) (h3 : z.cells.size = size) (h4 : 0 < size) : Elt st e size bytes := by
  obtain ⟨i, h5, h6, h7, h8⟩ := info_parts h2
  exact ⟨h1, h4, i, z, h5, h6, h7, h8, h3⟩
theorem eltP : Elt 24 38 3 32 := elt_of (z := .agg #[.bool false, .int .i64 0, .string ⟨#[]⟩]) (by kernel_rfl) (by kernel_rfl) rfl (by decide)
theorem eltRP : Elt 22 63 3 32 := elt_of (z := .agg #[.bool false, .int .i64 0, .string ⟨#[]⟩]) (by kernel_rfl) (by kernel_rfl) rfl (by decide)
theorem wp_append_row {st e : TypeId} {size bytes : Nat} (E : Elt st e size bytes) {o : Oper} {a : Act} {w : World} {K : Act → World → Prop} {Q : Exit → Act → World → Prop} (s x : Operand)
    (ho : o.op = .call { callee := .builtin .append, args := #[s, x], argTypes := #[st, st] }) (B : Nat) (v : Value) (n : Nat) (xs : List Value) (hs : a.eval s = v) (hown : w.ownsRow B e size v n xs)
    (g : Nat) (news : List Value) (hx : a.eval x = .slice (some ⟨g, 0, none⟩) 1 1) (hg : Has w g e news.toArray) (hl : news.length = size) (h1 : ∀ u ∈ news, u.oneCell' = true) (hn : n + 1 ≤ 2000000) (hb : bytes ≤ 1000) (hB : B ≤ w.heap.size)
    (h : ∀ g' cap w', w'.ownsRow B e size (.slice (some ⟨g', 0, none⟩) (n + 1) cap) (n + 1) (xs ++ news) → Fr (fun k => v.ownBlock = some k) w w' → (v.ownBlock = some g' ∨ g' = w.heap.size) → g' < w'.heap.size → K (a.put o.dst (.slice (some ⟨g', 0, none⟩) (n + 1) cap)) w') : o.wp Tryd.prog a w K Q := by
  obtain ⟨i, z, hi, hz0, hz1, hz2, hz3⟩ := E.inf
  refine wp_append_lies w s x st ho B e i z size bytes E.und hi hz0 hz1 hz2 hz3 E.pos v n xs hs hown ⟨g, 0, none⟩ 1 1 news hx (by omega) (fun j u hj => ?_) h1 (by decide) (by unfold maxLen; omega) ?_ hB _ rfl fun g' cap w' k1 k2 k3 k4 => h g' cap w' k1 (Fr.of_grown k2 (fun k hk => hk)) k3 k4
  · rw [Addr.add_mid, Nat.zero_add, hg.cell]
    simpa using hj
  · exact Nat.le_trans (Nat.mul_le_mul hn hb) (by decide)
theorem wpList_append_row {st e : TypeId} {size bytes : Nat} (E : Elt st e size bytes) {ops : Array Oper} {rest : List Oper} {o : Oper} {a : Act} {w : World} {Q : Exit → Act → World → Prop} (hgd : o.guard = none) (s x : Operand)
    (ho : o.op = .call { callee := .builtin .append, args := #[s, x], argTypes := #[st, st] }) (B : Nat) (v : Value) (n : Nat) (xs : List Value) (hs : a.eval s = v) (hown : w.ownsRow B e size v n xs)
    (g : Nat) (news : List Value) (hx : a.eval x = .slice (some ⟨g, 0, none⟩) 1 1) (hg : Has w g e news.toArray) (hl : news.length = size) (h1 : ∀ u ∈ news, u.oneCell' = true) (hn : n + 1 ≤ 2000000) (hb : bytes ≤ 1000) (hB : B ≤ w.heap.size)
    (h : ∀ g' cap w', Hid (w'.ownsRow B e size (.slice (some ⟨g', 0, none⟩) (n + 1) cap) (n + 1) (xs ++ news)) → Hid (Fr (fun k => v.ownBlock = some k) w w') → Hid (v.ownBlock = some g' ∨ g' = w.heap.size) → Hid (g' < w'.heap.size) → wpList Tryd.prog ops Q rest (a.put o.dst (.slice (some ⟨g', 0, none⟩) (n + 1) cap)) w') : wpList Tryd.prog ops Q (o :: rest) a w :=
  wpList_plain hgd fun _ hK => wp_append_row E s x ho B v n xs hs hown g news hx hg hl h1 hn hb hB fun g' cap w' k1 k2 k3 k4 => hK _ _ (h g' cap w' (Lib.hid k1) (Lib.hid k2) (Lib.hid k3) (Lib.hid k4))
theorem step_append_row {st e : TypeId} {size bytes : Nat} (E : Elt st e size bytes) {ops : Array Oper} {o : Oper} {a : Act} {w : World} {K : Act → World → Prop} {Q : Exit → Act → World → Prop} {X : Prop} (hgd : o.guard = none) (s x : Operand)
    (ho : o.op = .call { callee := .builtin .append, args := #[s, x], argTypes := #[st, st] }) (B : Nat) (v : Value) (n : Nat) (xs : List Value) (hs : a.eval s = v) (hown : w.ownsRow B e size v n xs)
    (g : Nat) (news : List Value) (hx : a.eval x = .slice (some ⟨g, 0, none⟩) 1 1) (hg : Has w g e news.toArray) (hl : news.length = size) (h1 : ∀ u ∈ news, u.oneCell' = true) (hn : n + 1 ≤ 2000000) (hb : bytes ≤ 1000) (hB : B ≤ w.heap.size)
    (h : ∀ g' cap w', Hid (w'.ownsRow B e size (.slice (some ⟨g', 0, none⟩) (n + 1) cap) (n + 1) (xs ++ news)) → Hid (Fr (fun k => v.ownBlock = some k) w w') → Hid (v.ownBlock = some g' ∨ g' = w.heap.size) → Hid (g' < w'.heap.size) → K (a.put o.dst (.slice (some ⟨g', 0, none⟩) (n + 1) cap)) w') :
    if Region.wanted o (yielded ops a.tmps) = true then Oper.wp Tryd.prog o a w K Q else X := by
  have hw : Region.wanted o (yielded ops a.tmps) = true := by simp [Region.wanted, hgd]
  rw [if_pos hw]
  exact wp_append_row E s x ho B v n xs hs hown g news hx hg hl h1 hn hb hB fun g' cap w' k1 k2 k3 k4 => h g' cap w' (Lib.hid k1) (Lib.hid k2) (Lib.hid k3) (Lib.hid k4)
/-! ### parts -/
def partCells (l : List Ky.Part) : List Value := l.flatMap fun p => [.bool p.text, .int .i64 p.n, bstr p.say]
theorem partCells_len (l : List Ky.Part) : (partCells l).length = l.length * 3 := by
  induction l with
  | nil => rfl
  | cons c l ih => rw [partCells, List.flatMap_cons, List.length_append, ← partCells, ih, List.length_cons]; simp; omega
theorem partCells_append (l m : List Ky.Part) : partCells (l ++ m) = partCells l ++ partCells m := List.flatMap_append
theorem partCells_at (l : List Ky.Part) (j : Nat) (p : Ky.Part) (h : l[j]? = some p) : (partCells l)[j * 3]? = some (.bool p.text) ∧ (partCells l)[j * 3 + 1]? = some (.int .i64 p.n) ∧ (partCells l)[j * 3 + 2]? = some (bstr p.say) := by
  induction l generalizing j with
  | nil => simp at h
  | cons x l ih =>
    rw [partCells, List.flatMap_cons, ← partCells]
    cases j with
    | zero => simp at h; subst h; exact ⟨rfl, rfl, rfl⟩
    | succ j =>
      have := ih j (by simpa using h)
      rw [show (j + 1) * 3 = j * 3 + 3 by omega]
      exact this
/-- a slice of parts of the call's own since B, perhaps nil -/
def OwnPs (e : TypeId) (w : World) (B : Nat) (v : Value) (l : List Ky.Part) : Prop := w.ownsRow B e 3 v l.length (partCells l)
theorem OwnPs.nil (e : TypeId) (w : World) (B : Nat) : OwnPs e w B (.slice none 0 0) [] := World.ownsRow_nil _ _ _ _
theorem OwnPs.form {e : TypeId} {w : World} {B : Nat} {v : Value} {l : List Ky.Part} (h : OwnPs e w B v l) : ∃ A c, v = .slice A l.length c ∧ RdP w w.heap.size A l ∧ (l ≠ [] → ∃ g, A = some ⟨g, 0, none⟩ ∧ B ≤ g ∧ ∃ cs, Has w g e cs) := by
  rcases h.2 with ⟨rfl, h0⟩ | ⟨g, cap, cur, rfl, hb, hg, h1, h2, h3, h4⟩
  · have : l = [] := List.length_eq_zero_iff.1 h0
    subst this
    exact ⟨none, 0, rfl, RdP.nil _ _ _, fun h => absurd rfl h⟩
  · have hg' : Has w g e cur := hg
    refine ⟨_, _, rfl, fun _ => ⟨g, 0, rfl, hg'.lt, fun j x hj => ?_⟩, fun _ => ⟨g, rfl, hb, cur, hg'⟩⟩
    have hlt := (List.getElem?_eq_some_iff.1 hj).1
    obtain ⟨e1, e2, e3⟩ := partCells_at l j x hj
    rw [← h4, List.getElem?_take, if_pos (by omega), Array.getElem?_toList] at e1 e2 e3
    rw [hg'.cell, hg'.cell, hg'.cell, Nat.zero_add]
    exact ⟨e1, e2, e3⟩
theorem OwnPs.cap {e : TypeId} {w : World} {B : Nat} {A : Option Addr} {n c : Nat} {l : List Ky.Part} (h : OwnPs e w B (.slice A n c) l) : l.length ≤ c := by
  rcases h.2 with ⟨hv, h0⟩ | ⟨g, cap, cur, hv, hb, hg, h1, h2, h3, h4⟩
  · omega
  · injection hv with _ _ hc
    omega
theorem OwnPs.keep {e : TypeId} {w w' : World} {B : Nat} {v : Value} {l : List Ky.Part} {S : Nat → Prop} (h : OwnPs e w B v l) (f : Fr S w w') (hs : ∀ k, v.ownBlock = some k → ¬ S k) : OwnPs e w' B v l := ownsRow_keep h f hs
theorem OwnPs.apart {e t : TypeId} {w : World} {B R : Nat} {v : Value} {l : List Ky.Part} {cs : Array Value} (h : OwnPs e w B v l) (hR : Has w R t cs) (hne : e ≠ t) : ∀ k, v.ownBlock = some k → ¬ oneB R k := by
  intro k hk hkR
  have hkR : k = R := hkR
  subst hkR
  rcases h.2 with ⟨rfl, _⟩ | ⟨g, cap, cur, rfl, hb, hg, _⟩
  · simp [Value.ownBlock] at hk
  · simp [Value.ownBlock] at hk
    subst hk
    exact Has.apart hg hR hne rfl
theorem OwnPs.below {e : TypeId} {w w' : World} {B : Nat} {v : Value} {l : List Ky.Part} (h : OwnPs e w B v l) (hb : Below w.heap.size w w') : OwnPs e w' B v l := h.keep (Fr.of_below hb noB) (fun _ _ e => e)
theorem OwnPs.lt {e : TypeId} {w : World} {B : Nat} {v : Value} {l : List Ky.Part} (h : OwnPs e w B v l) : ∀ k, v.ownBlock = some k → B ≤ k ∧ k < w.heap.size := World.ownsRow.lt h
theorem OwnPs.snoc {e : TypeId} {w : World} {B : Nat} {v : Value} {l : List Ky.Part} {p : Ky.Part} (h : w.ownsRow B e 3 v (l.length + 1) (partCells l ++ [.bool p.text, .int .i64 p.n, bstr p.say])) : OwnPs e w B v (l ++ [p]) := by
  unfold OwnPs
  rw [partCells_append, List.length_append]
  exact h
end Go.Proofs.YtfbdikaaeedeoaaDoor

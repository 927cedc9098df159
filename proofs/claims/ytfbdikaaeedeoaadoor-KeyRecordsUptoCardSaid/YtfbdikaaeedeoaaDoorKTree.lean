/-
  Trees of items in memory: in which blocks they lie; rows of items of the call's own.
-/
import Derived.Test.YtfbdikaaeedeoaaDoorKRow
import Derived.Test.YtfbdikaaeedeoaaDoorKItem
namespace Go.Proofs.YtfbdikaaeedeoaaDoor
open Go.RowKit Go.Maps
open Ky (Its)
set_option maxRecDepth 100000

def Its.app : Its → Its → Its
  | .nil, t => t
  | .cons k n s sub r, t => .cons k n s sub (Its.app r t)
theorem Its.app_nil : ∀ t : Its, Its.app t .nil = t
  | .nil => rfl
  | .cons k n s sub r => by rw [Its.app, Its.app_nil r]
theorem Its.app_assoc : ∀ a b c : Its, Its.app (Its.app a b) c = Its.app a (Its.app b c)
  | .nil, _, _ => rfl
  | .cons k n s sub r, b, c => by rw [Its.app, Its.app, Its.app, Its.app_assoc r b c]
theorem Its.app_len : ∀ a b : Its, (Its.app a b).len = a.len + b.len
  | .nil, _ => by simp [Its.app, Its.len]
  | .cons k n s sub r, b => by rw [Its.app, Its.len, Its.len, Its.app_len r b]; omega
/-- one item -/
abbrev one (k : UInt8) (n : Int) (s : List UInt8) (sub : Its) : Its := .cons k n s sub .nil
/-- a block that may be written -/
def Fz (w : World) (g : Nat) : Prop := ∀ i, w.frozen? ⟨g, i, none⟩ = false
/-- the items lie in block g from o on, what they hold in blocks of X -/
def AtX (w : World) (X : Nat → Prop) (g : Nat) : Nat → Its → Prop
  | _, .nil => True
  | o, .cons k n s sub r => w.cell? ⟨g, o, none⟩ = some (.int .u8 (k.toNat : Int)) ∧ w.cell? ⟨g, o + 1, none⟩ = some (.int .i64 n) ∧ w.cell? ⟨g, o + 2, none⟩ = some (bstr s) ∧
      (∃ A c, w.cell? ⟨g, o + 3, none⟩ = some (.slice A sub.len c) ∧ (sub ≠ .nil → ∃ g' o', A = some ⟨g', o', none⟩ ∧ (X g' ∧ Fz w g') ∧ AtX w X g' o' sub)) ∧ AtX w X g (o + 4) r
def SlX (w : World) (X : Nat → Prop) (A : Option Addr) (t : Its) : Prop := t ≠ .nil → ∃ g o, A = some ⟨g, o, none⟩ ∧ (X g ∧ Fz w g) ∧ AtX w X g o t
theorem SlX.nil (w : World) (X : Nat → Prop) (A : Option Addr) : SlX w X A .nil := fun h => absurd rfl h
theorem AtX.keep {w w' : World} {X Y : Nat → Prop} (hXY : ∀ g, X g → Y g) (hk : ∀ g, X g → w'.heap[g]? = w.heap[g]?) : ∀ (t : Its) {g o : Nat}, (∀ i, w'.cell? ⟨g, i, none⟩ = w.cell? ⟨g, i, none⟩) → AtX w X g o t → AtX w' Y g o t
  | .nil, _, _, _, _ => trivial
  | .cons k n s sub r, g, o, hg, h => by
    obtain ⟨h0, h1, h2, ⟨A, c, h3, h4⟩, h5⟩ := h
    refine ⟨(hg _).trans h0, (hg _).trans h1, (hg _).trans h2, ⟨A, c, (hg _).trans h3, fun hn => ?_⟩, AtX.keep hXY hk r hg h5⟩
    obtain ⟨g', o', hA, hg', hat⟩ := h4 hn
    exact ⟨g', o', hA, ⟨hXY g' hg'.1, fun i => (World.frozen?_of_block (hk g' hg'.1)).trans (hg'.2 i)⟩, AtX.keep hXY hk sub (fun i => World.cell?_of_block (hk g' hg'.1)) hat⟩
theorem SlX.keep {w w' : World} {X Y : Nat → Prop} {A : Option Addr} {t : Its} (h : SlX w X A t) (hXY : ∀ g, X g → Y g) (hk : ∀ g, X g → w'.heap[g]? = w.heap[g]?) : SlX w' Y A t := fun hn => by
  obtain ⟨g, o, hA, hg, hat⟩ := h hn
  exact ⟨g, o, hA, ⟨hXY g hg.1, fun i => (World.frozen?_of_block (hk g hg.1)).trans (hg.2 i)⟩, AtX.keep hXY hk t (fun i => World.cell?_of_block (hk g hg.1)) hat⟩
theorem AtX.at_ {w : World} {X : Nat → Prop} {B : Nat} (hX : ∀ g, X g → g < B) : ∀ (t : Its) {g o : Nat}, AtX w X g o t → At w B g o t
  | .nil, _, _, _ => trivial
  | .cons k n s sub r, g, o, h => by
    obtain ⟨h0, h1, h2, ⟨A, c, h3, h4⟩, h5⟩ := h
    refine ⟨h0, h1, h2, ⟨A, c, h3, fun hn => ?_⟩, AtX.at_ hX r h5⟩
    obtain ⟨g', o', hA, hg', hat⟩ := h4 hn
    exact ⟨g', o', hA, hX g' hg'.1, AtX.at_ hX sub hat⟩
theorem SlX.at_ {w : World} {X : Nat → Prop} {B : Nat} {A : Option Addr} {t : Its} (h : SlX w X A t) (hX : ∀ g, X g → g < B) : SlAt w B A t := fun hn => by
  obtain ⟨g, o, hA, hg, hat⟩ := h hn
  exact ⟨g, o, hA, hX g hg.1, AtX.at_ hX t hat⟩
/-- cells that say these items -/
def CellsX (w : World) (X : Nat → Prop) : List Value → Its → Prop
  | xs, .nil => xs = []
  | xs, .cons k n s sub r => ∃ A c ys, xs = .int .u8 (k.toNat : Int) :: .int .i64 n :: bstr s :: .slice A sub.len c :: ys ∧ SlX w X A sub ∧ CellsX w X ys r
theorem CellsX.len {w : World} {X : Nat → Prop} : ∀ (t : Its) {xs : List Value}, CellsX w X xs t → xs.length = t.len * 4
  | .nil, xs, h => by
    have h : xs = [] := h
    rw [h]
    rfl
  | .cons k n s sub r, xs, h => by
    obtain ⟨A, c, ys, rfl, _, h2⟩ := h
    have := CellsX.len r h2
    simp only [List.length_cons, Its.len, this]
    omega
theorem CellsX.keep {w w' : World} {X Y : Nat → Prop} (hXY : ∀ g, X g → Y g) (hk : ∀ g, X g → w'.heap[g]? = w.heap[g]?) : ∀ (t : Its) {xs : List Value}, CellsX w X xs t → CellsX w' Y xs t
  | .nil, xs, h => h
  | .cons k n s sub r, xs, h => by
    obtain ⟨A, c, ys, hx, h1, h2⟩ := h
    exact ⟨A, c, ys, hx, h1.keep hXY hk, CellsX.keep hXY hk r h2⟩
theorem CellsX.snoc {w : World} {X : Nat → Prop} {k : UInt8} {n : Int} {s : List UInt8} {sub : Its} {A : Option Addr} {c : Nat} (hs : SlX w X A sub) : ∀ (t : Its) {xs : List Value}, CellsX w X xs t → CellsX w X (xs ++ [.int .u8 (k.toNat : Int), .int .i64 n, bstr s, .slice A sub.len c]) (Its.app t (one k n s sub))
  | .nil, xs, h => by
    have h : xs = [] := h
    subst h
    exact ⟨A, c, [], rfl, hs, rfl⟩
  | .cons k' n' s' sub' r, xs, h => by
    obtain ⟨A', c', ys, rfl, h1, h2⟩ := h
    exact ⟨A', c', ys ++ _, rfl, h1, CellsX.snoc hs r h2⟩
theorem CellsX.at_ {w : World} {X : Nat → Prop} {g : Nat} : ∀ (t : Its) {xs : List Value} {o : Nat}, CellsX w X xs t → (∀ j u, xs[j]? = some u → w.cell? ⟨g, o + j, none⟩ = some u) → AtX w X g o t
  | .nil, _, _, _, _ => trivial
  | .cons k n s sub r, xs, o, h, hc => by
    obtain ⟨A, c, ys, rfl, h1, h2⟩ := h
    refine ⟨hc 0 _ rfl, hc 1 _ rfl, hc 2 _ rfl, ⟨A, c, hc 3 _ rfl, fun hn => ?_⟩, CellsX.at_ r h2 fun j u hj => ?_⟩
    · obtain ⟨g', o', hA, hg', hat⟩ := h1 hn
      exact ⟨g', o', hA, hg', hat⟩
    · have := hc (j + 4) u hj
      rwa [show o + (j + 4) = o + 4 + j by omega] at this
theorem eltI : Elt 43 62 4 56 := elt_of (z := .agg #[.int .u8 0, .int .i64 0, .string ⟨#[]⟩, .slice none 0 0]) (by kernel_rfl) (by kernel_rfl) rfl (by decide)
/-- a slice of items of the call's own since B, perhaps nil; what they hold in blocks since B that are not the row's -/
def InX (w : World) (B : Nat) (v : Value) : Nat → Prop := fun k => B ≤ k ∧ k < w.heap.size ∧ v.ownBlock ≠ some k
structure OwnI (e : TypeId) (w : World) (B : Nat) (v : Value) (t : Its) : Prop where
  row : ∃ xs, w.ownsRow B e 4 v t.len xs ∧ CellsX w (InX w B v) xs t
theorem OwnI.nil (e : TypeId) (w : World) (B : Nat) : OwnI e w B (.slice none 0 0) .nil := ⟨[], World.ownsRow_nil _ _ _ _, rfl⟩
theorem OwnI.form {e : TypeId} {w : World} {B : Nat} {v : Value} {t : Its} (h : OwnI e w B v t) : ∃ A c, v = .slice A t.len c ∧ t.len ≤ c ∧ SlX w (fun k => B ≤ k ∧ k < w.heap.size) A t := by
  obtain ⟨xs, ho, hx⟩ := h.row
  rcases ho.2 with ⟨rfl, h0⟩ | ⟨g, cap, cur, rfl, hb, hg, h1, h2, h3, h4⟩
  · refine ⟨none, 0, by rw [h0], by omega, ?_⟩
    cases t with
    | nil => exact SlX.nil _ _ _
    | cons => simp [Its.len] at h0
  · have hg' : Has w g e cur := hg
    refine ⟨_, _, rfl, h1, fun hn => ⟨g, 0, rfl, ⟨⟨hb, hg'.lt⟩, fun i => hg'.free i⟩, ?_⟩⟩
    have hat := CellsX.at_ (g := g) (o := 0) t hx fun j u hj => by
      rw [Nat.zero_add, hg'.cell, ← Array.getElem?_toList]
      have hlt := (List.getElem?_eq_some_iff.1 hj).1
      rw [← h4, List.getElem?_take] at hj
      split at hj
      · exact hj
      · cases hj
    exact AtX.keep (w' := w) (fun k hk => ⟨hk.1, hk.2.1⟩) (fun _ _ => rfl) t (fun _ => rfl) hat
/-- what does not touch the row, nor what lies in blocks since B -/
theorem OwnI.below {e : TypeId} {w w' : World} {B : Nat} {v : Value} {t : Its} (h : OwnI e w B v t) (hb : Below w.heap.size w w') : OwnI e w' B v t := by
  obtain ⟨xs, ho, hx⟩ := h.row
  refine ⟨xs, ownsRow_keep ho (Fr.of_below hb noB) (fun _ _ e => e), CellsX.keep (fun k hk => ⟨hk.1, by have := hk.2.1; have := hb.size; omega, hk.2.2⟩) (fun g hg => hb.block g hg.2.1) t hx⟩
theorem OwnI.lt {e : TypeId} {w : World} {B : Nat} {v : Value} {t : Its} (h : OwnI e w B v t) : ∀ k, v.ownBlock = some k → B ≤ k ∧ k < w.heap.size := by
  obtain ⟨xs, ho, _⟩ := h.row
  exact World.ownsRow.lt ho
/-- one item more, as the law of append leaves it: w is ahead of it, w' behind -/
theorem OwnI.snoc {e : TypeId} {w w' : World} {B : Nat} {v v' : Value} {t : Its} {xs : List Value} {k : UInt8} {n : Int} {s : List UInt8} {sub : Its} {A : Option Addr} {c : Nat} (hx : CellsX w (InX w B v) xs t) (hs : SlX w (InX w B v) A sub)
    (h' : w'.ownsRow B e 4 v' (t.len + 1) (xs ++ [.int .u8 (k.toNat : Int), .int .i64 n, bstr s, .slice A sub.len c])) (f : Fr (fun k => v.ownBlock = some k) w w') (hv : v'.ownBlock = v.ownBlock ∨ v'.ownBlock = some w.heap.size) : OwnI e w' B v' (Its.app t (one k n s sub)) := by
  have hXY : ∀ g, InX w B v g → InX w' B v' g := fun g hg => ⟨hg.1, by have := hg.2.1; have := f.size; omega, fun e => by
    rcases hv with hv | hv
    · rw [hv] at e
      exact hg.2.2 e
    · rw [hv] at e
      have e := Option.some.inj e
      have := hg.2.1
      omega⟩
  have hk : ∀ g, InX w B v g → w'.heap[g]? = w.heap[g]? := fun g hg => f.old g hg.2.1 hg.2.2
  refine ⟨xs ++ [.int .u8 (k.toNat : Int), .int .i64 n, bstr s, .slice A sub.len c], ?_, CellsX.snoc (hs.keep hXY hk) t (CellsX.keep hXY hk t hx)⟩
  rw [Its.app_len]
  exact h'
end Go.Proofs.YtfbdikaaeedeoaaDoor

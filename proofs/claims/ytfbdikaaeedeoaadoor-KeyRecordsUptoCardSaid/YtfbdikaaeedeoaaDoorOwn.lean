/-
  Bytes that come in are put behind bytes of the call's own: a slice of its own, known whole, perhaps nil.
-/
import Derived.Test.YtfbdikaaeedeoaaDoorGMem
import Derived.Maps.AppendAt
import Derived.Laws.AppendOwnNone
namespace Go.Proofs.YtfbdikaaeedeoaaDoor
open Go.RowKit Go.Maps
set_option maxRecDepth 100000

/-- the slice at the head of block g (of room c) is the call's own, and holds L; g lies from B on -/
structure Own (w : World) (B g c : Nat) (L : List UInt8) : Prop where
  row : w.ownsRow B 5 1 (.slice (some ⟨g, 0, none⟩) L.length c) L.length (bytCells L)
theorem Own.base {w : World} {B g c : Nat} {L : List UInt8} (h : Own w B g c L) : B ≤ g ∧ g < w.heap.size := h.row.lt g rfl
theorem Own.has {w : World} {B g c : Nat} {L : List UInt8} (h : Own w B g c L) : ∃ cur, Has w g 5 cur ∧ L.length ≤ cur.size ∧ cur.toList.take L.length = bytCells L := by
  obtain ⟨cur, h1, h2, h3, h4, h5⟩ := own_has h.row
  exact ⟨cur, h1, by omega, by simpa using h5⟩
theorem Own.rd {w : World} {B g c : Nat} {L : List UInt8} (h : Own w B g c L) (hm : L.length ≤ 140737488355328) : Rd w w.heap.size (some ⟨g, 0, none⟩) L := by
  obtain ⟨cur, h1, h2, h3⟩ := h.has
  exact Rd.of_has h1 (by simpa using h3) hm
theorem Own.keep {w w' : World} {B g c : Nat} {L : List UInt8} (h : Own w B g c L) (hk : w'.heap[g]? = w.heap[g]?) : Own w' B g c L := by
  refine ⟨h.row.1, ?_⟩
  rcases h.row.2 with ⟨hn, _⟩ | ⟨g', cap, cur, hv, hb, hg, rest⟩
  · cases hn
  · injection hv with hv _ hc
    injection hv with hv
    injection hv with hv
    subst hv
    subst hc
    exact .inr ⟨g, c, cur, rfl, hb, hk.trans hg, rest⟩
theorem Own.below {w w' : World} {B B' g c : Nat} {L : List UInt8} (h : Own w B g c L) (hb : Below B' w w') (hg : g < B') : Own w' B g c L := h.keep (hb.block g hg)
theorem Own.fr {w w' : World} {B g g' c : Nat} {L : List UInt8} (h : Own w B g c L) (f : Fr (oneB g') w w') (hne : g ≠ g') : Own w' B g c L := h.keep (f.old g h.base.2 hne)
theorem Own.alloc {w : World} {B g c : Nat} {L : List UInt8} (h : Own w B g c L) (o : Obj) : Own (w.alloc o) B g c L := h.keep (Below.heap_alloc w o g h.base.2)
theorem Own.none_ (w : World) (B : Nat) (hB : B ≤ w.heap.size) : Own (w.alloc (.cells #[] 5)) B w.heap.size 0 [] :=
  ⟨World.ownsRow_made w #[] 0 hB (Nat.zero_le _) rfl⟩
theorem Own.none_at (w : World) (B g : Nat) (hg : g = w.heap.size) (hB : B ≤ w.heap.size) : Own (w.alloc (.cells #[] 5)) B g 0 [] := by
  subst hg
  exact Own.none_ w B hB
theorem Own.of_has {w : World} {g n : Nat} {L : List UInt8} (h : Has w g 5 (bytCells L).toArray) (B : Nat) (hB : B ≤ g) (hn : n = L.length) (hm : L.length ≤ 140737488355328) : Own w B g n L := by
  subst hn
  exact ⟨by rw [bytCells_len, Nat.mul_one], .inr ⟨g, L.length, _, rfl, hB, h, Nat.le_refl _, by unfold maxLen; omega, by rw [List.size_toArray, bytCells_len, Nat.mul_one], by rw [Nat.mul_one, ← bytCells_len, List.take_length]⟩⟩

theorem wp_append_rd {o : Oper} {a : Act} {w : World} {K : Act → World → Prop} {Q : Exit → Act → World → Prop} (s x : Operand)
    (ho : o.op = .call { callee := .builtin .append, args := #[s, x], argTypes := #[65, 65] }) (B g c n N : Nat) (L : List UInt8) (hn : n = L.length) (hs : a.eval s = .slice (some ⟨g, 0, none⟩) n c) (hown : Own w B g c L)
    (C : Nat) (A : Option Addr) (l : List UInt8) (d : Nat) (hx : a.eval x = .slice A l.length d) (hr : Rd w C A l) (hA : A = none → d = 0) (hN : L.length + l.length = N) (hm : N ≤ 140737488355328) (hB : B ≤ w.heap.size) (w0 : World) (hb : Below B w0 w)
    (h : ∀ g' c' w', Own w' B g' c' (L ++ l) → Below B w0 w' → Fr (oneB g) w w' ∧ (g' = g ∨ g' = w.heap.size) → K (a.put o.dst (.slice (some ⟨g', 0, none⟩) N c')) w') : o.wp Tryd.prog a w K Q := by
  subst hn
  obtain ⟨i0, hi, hz0, hz1, hz2⟩ := info_parts inf_u8
  cases A with
  | none =>
    have hl : l = [] := by
      cases l with
      | nil => rfl
      | cons y l => obtain ⟨_, _, e, _⟩ := hr.2 (by simp); cases e
    subst hl
    obtain rfl := hA rfl
    rw [List.append_nil] at h
    have hN' : L.length = N := by simpa using hN
    subst hN'
    have hrun := run_append_owned_none (P := Tryd.prog) (w := w) B _ o.type _ i0 1 und_bytes hi _ L.length (bytCells L) hown.row
    unfold Oper.wp
    have hx' : a.eval x = .slice none 0 0 := hx
    simp [execOp, ho, resolve, invoke, builtin, hs, hx', hrun, Result.andThen]
    exact h g c w hown hb ⟨Fr.refl _ _, .inl rfl⟩
  | some ad =>
    obtain ⟨v', w', hrun, h2, h3, h4, h5⟩ := run_append_own_at (P := Tryd.prog) w B _ o.type _ i0 _ 1 1 und_bytes hi hz0 hz1 hz2 rfl (by omega) _ L.length (bytCells L) hown.row ad l.length d (bytCells l) (by rw [bytCells_len, Nat.mul_one])
      (fun j u hj => by
        have hlt : j < l.length := by
          rw [← bytCells_len]
          exact (List.getElem?_eq_some_iff.1 hj).1
        obtain ⟨g1, o1, e, _, hc⟩ := hr.2 (by omega)
        injection e with e
        subst e
        rw [Addr.add_mid]
        exact hc j u hj) (bytCells_one _) (by unfold maxLen; omega) (by omega) hB
    rcases h2.2 with ⟨e, _⟩ | ⟨g', c', cur, rfl, hbg, _⟩
    · have := (h4.1 e).1; cases this
    · unfold Oper.wp execOp
      simp only [ho, resolve, invoke, builtin, Sem.run_bind, Sem.run_pure, Result.andThen_ok, List.map_toArray, List.map_cons, List.map_nil, hs, hx, hrun]
      rw [hN]
      refine h g' c' w' ⟨?_⟩ (hb.grown h3 hB (fun k hk => (hown.row.lt k hk).1)) ⟨Fr.of_grown h3 (fun k hk => by injection hk with hk; exact hk.symm), by
        rcases h5 with h5 | h5
        · exact .inl (by injection h5)
        · exact .inr (by injection h5)⟩
      rw [bytCells_append, List.length_append]
      exact h2

theorem wpList_append_rd {ops : Array Oper} {rest : List Oper} {o : Oper} {a : Act} {w : World} {Q : Exit → Act → World → Prop} (hgd : o.guard = none) (s x : Operand)
    (ho : o.op = .call { callee := .builtin .append, args := #[s, x], argTypes := #[65, 65] }) (B g c n N : Nat) (L : List UInt8) (hn : n = L.length) (hs : a.eval s = .slice (some ⟨g, 0, none⟩) n c) (hown : Own w B g c L)
    (C : Nat) (A : Option Addr) (l : List UInt8) (d : Nat) (hx : a.eval x = .slice A l.length d) (hr : Rd w C A l) (hA : A = none → d = 0) (hN : L.length + l.length = N) (hm : N ≤ 140737488355328) (hB : B ≤ w.heap.size) (w0 : World) (hb : Below B w0 w)
    (h : ∀ g' c' w', Hid (Own w' B g' c' (L ++ l)) → Hid (Below B w0 w') → Hid (Fr (oneB g) w w' ∧ (g' = g ∨ g' = w.heap.size)) → wpList Tryd.prog ops Q rest (a.put o.dst (.slice (some ⟨g', 0, none⟩) N c')) w') : wpList Tryd.prog ops Q (o :: rest) a w :=
  wpList_plain hgd fun _ hK => wp_append_rd s x ho B g c n N L hn hs hown C A l d hx hr hA hN hm hB w0 hb fun g' c' w' h1 h2 h3 => hK _ _ (h g' c' w' (Lib.hid h1) (Lib.hid h2) (Lib.hid h3))
/-- one byte of one's own is turned -/
theorem Own.turn {w : World} {B g c : Nat} {p : List UInt8} (h : Own w B g c p) (j : Nat) (hj : j < p.length) (b : UInt8) :
    w.cell? ⟨g, j, none⟩ = some (.int .u8 (p[j].toNat : Int)) ∧ w.frozen? ⟨g, j, none⟩ = false ∧ bits .xor .u8 (p[j].toNat : Int) (b.toNat : Int) = ((p[j].toNat ^^^ b.toNat : Nat) : Int) ∧
      Own (w.setCell ⟨g, j, none⟩ (.int .u8 ((p[j].toNat ^^^ b.toNat : Nat) : Int))) B g c (p.set j (p[j] ^^^ b)) := by
  rcases h.row.2 with ⟨hn, _⟩ | ⟨g', cap, cur, hv, hb, hg, h1, h2, h3, h4⟩
  · cases hn
  · injection hv with hv _ hc
    injection hv with hv
    injection hv with hv
    subst hv
    subst hc
    have hg' : Has w g 5 cur := hg
    rw [Nat.mul_one] at h4
    have hcj : cur[j]? = some (.int .u8 (p[j].toNat : Int)) := by
      have e : (cur.toList.take p.length)[j]? = some (byt p[j]) := by rw [h4, bytCells_get, List.getElem?_eq_getElem hj]; rfl
      rw [List.getElem?_take, if_pos hj, Array.getElem?_toList] at e
      exact e
    refine ⟨by rw [hg'.cell]; exact hcj, hg'.free j, by rw [u8_xor_nat _ _ p[j].toNat_lt b.toNat_lt], ?_⟩
    refine ⟨by rw [bytCells_len, Nat.mul_one], .inr ⟨g, c, _, by rw [List.length_set], hb, hg'.set j _, by rw [List.length_set]; exact h1, h2, by rw [Array.size_setIfInBounds]; exact h3, ?_⟩⟩
    rw [List.length_set, Nat.mul_one, Array.toList_setIfInBounds, ← UInt8.toNat_xor, List.take_set, h4]
    simp only [bytCells, List.map_set]
    rfl

/-- a slice of the call's own, perhaps nil -/
def OwnV (w : World) (B : Nat) (v : Value) (L : List UInt8) : Prop := w.ownsRow B 5 1 v L.length (bytCells L)
theorem OwnV.form {w : World} {B : Nat} {v : Value} {L : List UInt8} (h : OwnV w B v L) : ∃ A c, v = .slice A L.length c ∧ (A = none → c = 0) ∧ (L.length ≤ 140737488355328 → Rd w w.heap.size A L) := by
  rcases h.2 with ⟨rfl, h0⟩ | ⟨g, cap, cur, rfl, hb, hg, h1, h2, h3, h4⟩
  · have : L = [] := List.length_eq_zero_iff.1 h0
    subst this
    exact ⟨none, 0, rfl, fun _ => rfl, fun _ => Rd.nil _ _ _⟩
  · have ho : Own w B g cap L := ⟨h⟩
    exact ⟨_, _, rfl, (fun e => by cases e), fun hm => ho.rd hm⟩
theorem OwnV.nil (w : World) (B : Nat) : OwnV w B (.slice none 0 0) [] := World.ownsRow_nil _ _ _ _
theorem OwnV.alloc {w : World} {B : Nat} {v : Value} {L : List UInt8} (h : OwnV w B v L) (o : Obj) : OwnV (w.alloc o) B v L := World.ownsRow.alloc h o

theorem wp_append_v {o : Oper} {a : Act} {w : World} {K : Act → World → Prop} {Q : Exit → Act → World → Prop} (s x : Operand)
    (ho : o.op = .call { callee := .builtin .append, args := #[s, x], argTypes := #[65, 65] }) (B : Nat) (v : Value) (L : List UInt8) (hs : a.eval s = v) (hown : OwnV w B v L)
    (C : Nat) (A : Option Addr) (l : List UInt8) (d : Nat) (hx : a.eval x = .slice A l.length d) (hr : Rd w C A l) (hA : A = none → d = 0) (hm : L.length + l.length ≤ 140737488355328) (hB : B ≤ w.heap.size) (w0 : World) (hb : Below B w0 w)
    (h : ∀ v' w', OwnV w' B v' (L ++ l) → Below B w0 w' → K (a.put o.dst v') w') : o.wp Tryd.prog a w K Q := by
  obtain ⟨i0, hi, hz0, hz1, hz2⟩ := info_parts inf_u8
  cases A with
  | none =>
    have hl : l = [] := by
      cases l with
      | nil => rfl
      | cons y l => obtain ⟨_, _, e, _⟩ := hr.2 (by simp); cases e
    subst hl
    obtain rfl := hA rfl
    rw [List.append_nil] at h
    have hrun := run_append_owned_none (P := Tryd.prog) (w := w) B _ o.type _ i0 1 und_bytes hi _ L.length (bytCells L) hown
    unfold Oper.wp
    have hx' : a.eval x = .slice none 0 0 := hx
    simp [execOp, ho, resolve, invoke, builtin, hs, hx', hrun, Result.andThen]
    exact h v w hown hb
  | some ad =>
    obtain ⟨v', w', hrun, h2, h3, h4, h5⟩ := run_append_own_at (P := Tryd.prog) w B _ o.type _ i0 _ 1 1 und_bytes hi hz0 hz1 hz2 rfl (by omega) _ L.length (bytCells L) hown ad l.length d (bytCells l) (by rw [bytCells_len, Nat.mul_one])
      (fun j u hj => by
        have hlt : j < l.length := by
          rw [← bytCells_len]
          exact (List.getElem?_eq_some_iff.1 hj).1
        obtain ⟨g1, o1, e, _, hc⟩ := hr.2 (by omega)
        injection e with e
        subst e
        rw [Addr.add_mid]
        exact hc j u hj) (bytCells_one _) (by unfold maxLen; omega) (by omega) hB
    unfold Oper.wp execOp
    simp only [ho, resolve, invoke, builtin, Sem.run_bind, Sem.run_pure, Result.andThen_ok, List.map_toArray, List.map_cons, List.map_nil, hs, hx, hrun]
    refine h v' w' ?_ (hb.grown h3 hB (fun k hk => (hown.lt k hk).1))
    unfold OwnV
    rw [bytCells_append, List.length_append]
    exact h2
theorem wpList_append_v {ops : Array Oper} {rest : List Oper} {o : Oper} {a : Act} {w : World} {Q : Exit → Act → World → Prop} (hgd : o.guard = none) (s x : Operand)
    (ho : o.op = .call { callee := .builtin .append, args := #[s, x], argTypes := #[65, 65] }) (B : Nat) (v : Value) (L : List UInt8) (hs : a.eval s = v) (hown : OwnV w B v L)
    (C : Nat) (A : Option Addr) (l : List UInt8) (d : Nat) (hx : a.eval x = .slice A l.length d) (hr : Rd w C A l) (hA : A = none → d = 0) (hm : L.length + l.length ≤ 140737488355328) (hB : B ≤ w.heap.size) (w0 : World) (hb : Below B w0 w)
    (h : ∀ v' w', Hid (OwnV w' B v' (L ++ l)) → Hid (Below B w0 w') → wpList Tryd.prog ops Q rest (a.put o.dst v') w') : wpList Tryd.prog ops Q (o :: rest) a w :=
  wpList_plain hgd fun _ hK => wp_append_v s x ho B v L hs hown C A l d hx hr hA hm hB w0 hb fun v' w' h1 h2 => hK _ _ (h v' w' (Lib.hid h1) (Lib.hid h2))
/-- one byte in a block of its own -/
theorem rd_one (w : World) (n : Int) (x : UInt8) (hx : n = (x.toNat : Int)) : Rd (w.alloc (.cells #[.int .u8 n] 5)) (w.alloc (.cells #[.int .u8 n] 5)).heap.size (some ⟨w.heap.size, 0, none⟩) [x] := by
  subst hx
  exact Rd.of_has (Has.of_alloc _ _ _) rfl (by simp)
theorem OwnV.low {w : World} {B B' : Nat} {v : Value} {L : List UInt8} (h : OwnV w B v L) (hb : B' ≤ B) : OwnV w B' v L := by
  refine ⟨h.1, ?_⟩
  rcases h.2 with hn | ⟨g, cap, cur, hv, hg, rest⟩
  · exact .inl hn
  · exact .inr ⟨g, cap, cur, hv, by omega, rest⟩
theorem OwnV.at_ {w : World} {B : Nat} {v : Value} {L : List UInt8} (h : OwnV w B v L) (N : Nat) (hN : L.length = N) : ∃ A c, v = .slice A N c ∧ (A = none → c = 0) ∧ (L.length ≤ 140737488355328 → Rd w w.heap.size A L) := by
  subst hN
  exact h.form
theorem OwnV.two (w : World) (B : Nat) (hB : B ≤ w.heap.size) (n m : Int) (x y : UInt8) (hn : n = (x.toNat : Int)) (hm : m = (y.toNat : Int)) : OwnV (w.alloc (.cells #[.int .u8 n, .int .u8 m] 5)) B (.slice (some ⟨w.heap.size, 0, none⟩) 2 2) [x, y] := by
  subst hn hm
  exact (Own.of_has (L := [x, y]) (Has.of_alloc _ _ _) B hB rfl (by simp)).row
theorem OwnV.below {w w' : World} {B : Nat} {v : Value} {L : List UInt8} (h : OwnV w B v L) (hb : Below w.heap.size w w') : OwnV w' B v L :=
  ownsRow_keep h (Fr.of_below hb noB) (fun _ _ e => e)
theorem OwnV.fr {w w' : World} {B g : Nat} {v : Value} {L : List UInt8} (h : OwnV w B v L) (f : Fr (oneB g) w w') (hlt : g < B) : OwnV w' B v L :=
  ownsRow_keep h f (fun k hk e => by have e : k = g := e; have := (h.lt k hk).1; omega)
end Go.Proofs.YtfbdikaaeedeoaaDoor

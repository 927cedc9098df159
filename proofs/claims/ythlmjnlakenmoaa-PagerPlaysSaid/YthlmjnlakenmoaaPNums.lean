/-
  A slice of whole numbers of the call's own.
-/
import Derived.Test.YthlmjnlakenmoaaOwn
import Derived.Test.YthlmjnlakenmoaaPUse
namespace Go.Proofs.Ythlmjnlakenmoaa
open Go.RowKit Go.Maps
set_option maxRecDepth 100000

theorem und_ints : Try.prog.underlying 39 = some (.slice 3) := by kernel_rfl
theorem inf_i64 : (Try.prog.info? 3).map (fun i => (i.zero, i.size, i.bytes)) = some (some (.int .i64 0), 1, 8) := by kernel_rfl
def intCells (l : List Int) : List Value := l.map fun x => .int .i64 x
theorem intCells_len (l : List Int) : (intCells l).length = l.length := by simp [intCells]
/-- a slice of the call's own, perhaps nil -/
def OwnI (w : World) (B : Nat) (v : Value) (L : List Int) : Prop := w.ownsRow B 3 1 v L.length (intCells L)
theorem OwnI.form {w : World} {B : Nat} {v : Value} {L : List Int} (h : OwnI w B v L) : ∃ A c, v = .slice A L.length c ∧ (L.length ≤ 140737488355328 → Ints w A L) := by
  rcases h.2 with ⟨rfl, h0⟩ | ⟨g, cap, cur, rfl, hb, hg, h1, h2, h3, h4⟩
  · have : L = [] := List.length_eq_zero_iff.1 h0
    subst this
    exact ⟨none, 0, rfl, fun _ => ⟨by simp, fun h => by simp at h⟩⟩
  · have hg' : Has w g 3 cur := hg
    refine ⟨_, _, rfl, fun hm => ⟨hm, fun _ => ⟨g, 0, rfl, hg'.lt, fun j x hj => ?_⟩⟩⟩
    rw [hg'.cell, Nat.zero_add]
    rw [Nat.mul_one] at h4
    have e : (cur.toList.take L.length)[j]? = some (.int .i64 x) := by rw [h4]; simp [intCells, hj]
    have hlt := (List.getElem?_eq_some_iff.1 hj).1
    rw [List.getElem?_take, if_pos hlt, Array.getElem?_toList] at e
    exact e
theorem OwnI.nil (w : World) (B : Nat) : OwnI w B (.slice none 0 0) [] := World.ownsRow_nil _ _ _ _
theorem OwnI.keep {w w' : World} {B : Nat} {v : Value} {L : List Int} {S : Nat → Prop} (h : OwnI w B v L) (f : Fr S w w') (hs : ∀ k, v.ownBlock = some k → ¬ S k) : OwnI w' B v L :=
  ownsRow_keep h f hs
theorem OwnI.below {w w' : World} {B : Nat} {v : Value} {L : List Int} (h : OwnI w B v L) (hb : Below w.heap.size w w') : OwnI w' B v L :=
  ownsRow_keep h (Fr.of_below hb noB) (fun _ _ e => e)
theorem wpList_append_int {ops : Array Oper} {rest : List Oper} {o : Oper} {a : Act} {w : World} {Q : Exit → Act → World → Prop} (hgd : o.guard = none) (s x : Operand)
    (ho : o.op = .call { callee := .builtin .append, args := #[s, x], argTypes := #[39, 39] }) (B : Nat) (v : Value) (L : List Int) (hs : a.eval s = v) (hown : OwnI w B v L)
    (g : Nat) (y : Int) (hx : a.eval x = .slice (some ⟨g, 0, none⟩) 1 1) (hc : w.cell? ⟨g, 0, none⟩ = some (.int .i64 y)) (hm : L.length + 1 ≤ 1000000) (hB : B ≤ w.heap.size)
    (h : ∀ v' w', Hid (OwnI w' B v' (L ++ [y])) → Hid (Fr (fun k => v.ownBlock = some k) w w') → Hid (v'.ownBlock = v.ownBlock ∨ v'.ownBlock = some w.heap.size) → wpList Try.prog ops Q rest (a.put o.dst v') w') : wpList Try.prog ops Q (o :: rest) a w :=
  wpList_plain hgd fun K hK => by
    obtain ⟨i0, hi, hz0, hz1, hz2⟩ := info_parts inf_i64
    obtain ⟨v', w', hrun, h2, h3, h4, h5⟩ := run_append_own_at (P := Try.prog) w B _ o.type _ i0 _ 1 8 und_ints hi hz0 hz1 hz2 rfl (by omega) _ L.length (intCells L) hown ⟨g, 0, none⟩ 1 1 [.int .i64 y] rfl
      (fun j u hj => by
        have hlt : j < 1 := (List.getElem?_eq_some_iff.1 hj).1
        obtain rfl : j = 0 := by omega
        rw [← Option.some.inj hj]
        exact hc) (fun u hu => by rw [List.mem_singleton] at hu; subst hu; rfl) (by unfold maxLen; omega) (by omega) hB
    unfold Oper.wp execOp
    simp only [ho, resolve, invoke, builtin, Sem.run_bind, Sem.run_pure, Result.andThen_ok, List.map_toArray, List.map_cons, List.map_nil, hs, hx, hrun]
    refine hK _ _ (h v' w' (Lib.hid ?_) (Lib.hid (Fr.of_grown h3 (fun k hk => hk))) (Lib.hid h5))
    unfold OwnI
    rw [intCells, List.map_append, List.length_append]
    exact h2
end Go.Proofs.Ythlmjnlakenmoaa

/-
  DiskFuses: the plan that is one's own: its bools are appended to an empty slice.
-/
import Derived.Test.YtpgpalnnmoanpaaDFuse
namespace Go.Proofs.Ytpgpalnnmoanpaa
open Go.RowKit Go.Maps

def bcells (l : List Bool) : List Value := l.map Value.bool
theorem bcells_len (l : List Bool) : (bcells l).length = l.length * 1 := by simp [bcells]
theorem bcells_one (l : List Bool) : ∀ u ∈ bcells l, u.oneCell' = true := by
  intro u hu
  simp only [bcells, List.mem_map] at hu
  obtain ⟨x, _, rfl⟩ := hu
  rfl
/-- bools in a slice of one's own -/
def OwnB (w : World) (V : Nat) (l : List Bool) : Prop := ∃ cs : Array Value, Has w V 4 cs ∧ ∀ (j : Nat) (c : Bool), l[j]? = some c → cs[j]? = some (Value.bool c)
theorem OwnB.keep {w w' : World} {V : Nat} {l : List Bool} {S : Nat → Prop} (h : OwnB w V l) (f : Fr S w w') (hs : ¬ S V) : OwnB w' V l := by
  obtain ⟨cs, h1, h2⟩ := h
  exact ⟨cs, h1.keep f hs, h2⟩
theorem OwnB.lt {w : World} {V : Nat} {l : List Bool} (h : OwnB w V l) : V < w.heap.size := by
  obtain ⟨cs, h1, _⟩ := h
  exact h1.lt
theorem OwnB.keepAt {w : World} {V cap : Nat} {l : List Bool} (h : OwnB w V l) (hl : l.length ≤ 140737488355328) : KeepAt w (oneB V) (.slice (some ⟨V, 0, none⟩) l.length cap) l := by
  obtain ⟨cs, h1, h2⟩ := h
  refine ⟨_, _, rfl, hl, fun _ => ⟨_, rfl, rfl, h1.lt, fun j u hj => ?_⟩⟩
  rw [Addr.add_mid, Nat.zero_add, h1.cell]
  exact h2 j u hj
theorem OwnB.cell {w : World} {V : Nat} {l : List Bool} (h : OwnB w V l) {j : Nat} {c : Bool} (hj : l[j]? = some c) : w.cell? ⟨V, j, none⟩ = some (.bool c) := by
  obtain ⟨cs, h1, h2⟩ := h
  rw [h1.cell]; exact h2 j c hj
theorem OwnB.free {w : World} {V : Nat} {l : List Bool} (h : OwnB w V l) (j : Nat) : w.frozen? ⟨V, j, none⟩ = false := by
  obtain ⟨cs, h1, h2⟩ := h
  exact h1.free j
theorem OwnB.set {w : World} {V : Nat} {l : List Bool} (h : OwnB w V l) (j : Nat) (c : Bool) : OwnB (w.setCell ⟨V, j, none⟩ (.bool c)) V (l.set j c) := by
  obtain ⟨cs, h1, h2⟩ := h
  refine ⟨_, h1.set j (.bool c), fun i u hi => ?_⟩
  rw [List.getElem?_set] at hi
  by_cases e : j = i
  · rw [if_pos e] at hi
    subst e
    by_cases hj : j < l.length
    · rw [if_pos hj] at hi
      injection hi with hi
      subst hi
      have := h2 j _ (List.getElem?_eq_getElem hj)
      have hlt := (Array.getElem?_eq_some_iff.1 this).1
      rw [Array.getElem?_setIfInBounds_self_of_lt hlt]
    · rw [if_neg hj] at hi; cases hi
  · rw [if_neg e] at hi
    rw [Array.getElem?_setIfInBounds_ne e]
    exact h2 i u hi

theorem run_append_bools (w : World) (ty : TypeId) (E : Nat) (hE : Has w E 4 #[]) (R : Nat → Prop) (pv : Value) (l : List Bool) (hk : KeepAt w R pv l) :
    ∃ V cap w', (Builtin.append_ #[35, 35] ty #[.slice (some ⟨E, 0, none⟩) 0 0, pv]).run Try.prog w = .ok (.slice (some ⟨V, 0, none⟩) l.length cap) w' ∧ OwnB w' V l ∧ w.grownBy w' (some E) ∧ (V = E ∨ V = w.heap.size) := by
  obtain ⟨A, c, rfl, hl, hc⟩ := hk
  obtain ⟨i0, hi, hz0, hz1, hz2⟩ := info_parts inf_bool
  have hown : w.ownsRow 0 4 1 (.slice (some ⟨E, 0, none⟩) 0 0) 0 [] := ⟨rfl, .inr ⟨E, 0, #[], rfl, Nat.zero_le _, hE, Nat.le_refl _, Nat.zero_le _, rfl, rfl⟩⟩
  cases A with
  | none =>
    have h0 : l = [] := by
      cases l with
      | nil => rfl
      | cons a l => obtain ⟨ad, h, _⟩ := hc (by simp); cases h
    subst h0
    refine ⟨E, 0, w, ?_, ⟨#[], hE, fun j c hj => by simp at hj⟩, ⟨rfl, rfl, rfl, Nat.le_refl _, fun _ _ _ => rfl⟩, .inl rfl⟩
    simp [Builtin.append_, run_underlying und_bools, sizeOf, typeInfo, hi, Builtin.lenOf, Builtin.firstCells, storeCells]
  | some ad =>
    obtain ⟨v', w', hr, h2, h3, h4, h5⟩ := run_append_own_at (P := Try.prog) w 0 35 ty 4 i0 (.bool false) 1 1 und_bools hi hz0 hz1 hz2 rfl (by omega) _ 0 [] hown ad l.length c (bcells l) (bcells_len l)
      (fun j u hj => by
        simp only [bcells, List.getElem?_map, Option.map_eq_some_iff] at hj
        obtain ⟨x, hx, rfl⟩ := hj
        have hpos : 0 < l.length := by have := (List.getElem?_eq_some_iff.1 hx).1; omega
        obtain ⟨ad', h, _, _, hcell⟩ := hc hpos
        injection h with h
        subst h
        exact hcell j x hx) (bcells_one l) (by unfold maxLen; omega) (by omega) (Nat.zero_le _)
    have hne : v' ≠ .slice none 0 0 := fun he => by have := (h4.1 he).1; cases this
    rw [Nat.zero_add, List.nil_append] at h2
    rcases h2.2 with ⟨h0, _⟩ | ⟨g, cap, cur, rfl, _, hgg, hn, _, hs, ht⟩
    · exact absurd h0 hne
    · refine ⟨g, cap, w', hr, ⟨cur, hgg, fun j x hj => ?_⟩, h3, ?_⟩
      · have hjl := (List.getElem?_eq_some_iff.1 hj).1
        have e : (cur.toList.take (l.length * 1))[j]? = (bcells l)[j]? := by rw [ht]
        rw [List.getElem?_take, if_pos (by omega), Array.getElem?_toList, bcells, List.getElem?_map, hj] at e
        exact e
      · rcases h5 with h5 | h5
        · exact .inl (by simpa [Value.ownBlock] using h5)
        · exact .inr (by simpa [Value.ownBlock] using h5)
theorem wp_append_bools {o : Oper} {a : Act} {w : World} {K : Act → World → Prop} {Q : Exit → Act → World → Prop} (s x : Operand) (ho : o.op = .call { callee := .builtin .append, args := #[s, x], argTypes := #[35, 35] })
    (E : Nat) (hs : a.eval s = .slice (some ⟨E, 0, none⟩) 0 0) (hE : Has w E 4 #[]) (R : Nat → Prop) (pv : Value) (l : List Bool) (hx : a.eval x = pv) (hk : KeepAt w R pv l)
    (h : ∀ (V cap : Nat) (w' : World), OwnB w' V l → Fr (oneB E) w w' → (V = E ∨ V = w.heap.size) → K (a.put o.dst (.slice (some ⟨V, 0, none⟩) l.length cap)) w') : o.wp Try.prog a w K Q := by
  obtain ⟨V, cap, w', hr, h1, h2, h3⟩ := run_append_bools w o.type E hE R pv l hk
  unfold Oper.wp execOp
  simp only [ho, resolve, invoke, builtin, Sem.run_bind, Sem.run_pure, Result.andThen_ok, List.map_toArray, List.map_cons, List.map_nil, hs, hx, hr]
  exact h V cap w' h1 (Fr.of_grown h2 (fun k hk => by injection hk with hk; exact hk.symm)) h3
theorem siz_plan : (Try.prog.info? 46).map (·.size) = some 3 := by kernel_rfl
theorem wp_store_plan {o : Oper} {a : Act} {w : World} {K : Act → World → Prop} {Q : Exit → Act → World → Prop} (x y : Operand) (ho : o.op = .store 46 x y) (PB : Nat) (hx : a.eval x = .pointer (some ⟨PB, 0, none⟩)) (u0 u1 u2 : Value) (hy : a.eval y = .agg #[u0, u1, u2])
    (h1 : ∀ u ∈ [u0, u1, u2], u.oneCell' = true) (cs : Array Value) (hP : Has w PB 46 cs) (hc : cs.size = 3) (h : ∀ w', Has w' PB 46 #[u0, u1, u2] → Fr (oneB PB) w w' → K (a.put o.dst undef) w') : o.wp Try.prog a w K Q := by
  refine wp_store_has _ x y ho PB 0 [u0, u1, u2] hx hy hP siz_plan (by simp [hc]) h1 (h _ ?_ ((Fr.refl (oneB PB) w).setRow (.inl (show oneB PB PB from rfl)) _))
  have e : (cs.toList.take 0 ++ [u0, u1, u2] ++ cs.toList.drop (0 + [u0, u1, u2].length)).toArray = #[u0, u1, u2] := by
    rw [List.drop_eq_nil_of_le (by simp [hc])]
    rfl
  rw [e]
  exact hP.row _
/-- the plan that is one's own -/
structure OwnAt (lo : Nat) (p : Dk.Pl) (l : List Bool) (PB V cap : Nat) (w : World) : Prop where
  box : Has w PB 46 #[.slice (some ⟨V, 0, none⟩) l.length cap, .int .i64 p.torn, .int .i64 p.cut]
  row : OwnB w V l
  hP : lo ≤ PB
  hV : lo ≤ V
theorem own_fin {lo : Nat} {p : Dk.Pl} {l : List Bool} {PB V cap : Nat} {w w' : World} (hB : OwnB w V l) {cs : Array Value} (hP : Has w PB 46 cs) (h' : Has w' PB 46 #[.slice (some ⟨V, 0, none⟩) l.length cap, .int .i64 p.torn, .int .i64 p.cut]) (f : Fr (oneB PB) w w') (h1 : lo ≤ PB) (h2 : lo ≤ V) : OwnAt lo p l PB V cap w' :=
  ⟨h', hB.keep f (fun e => by
    obtain ⟨c2, hb, _⟩ := hB
    have e : V = PB := e
    exact Has.apart hb hP (by decide) e), h1, h2⟩
end Go.Proofs.Ytpgpalnnmoanpaa

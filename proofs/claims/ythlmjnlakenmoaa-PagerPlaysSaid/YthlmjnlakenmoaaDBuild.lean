/-
  A write is built of its parts; a slice of one write; in whatever order the region's operations come.
-/
import Derived.Test.YthlmjnlakenmoaaDCrash
import Derived.Great.FillDense
import Derived.Great.BuildSlice
import Derived.OrdersHeld
import Derived.RegionTactic
import Derived.StillTailTactics
import Derived.Maps.AppendAt
import Derived.Test.YthlmjnlakenmoaaHeld
namespace Go.Proofs.Ythlmjnlakenmoaa
open Go.RowKit Go.Maps
set_option maxRecDepth 100000

theorem set_all (cs : Array Value) (off : Nat) (vs : List Value) (h : off + vs.length = cs.size) :
    vs.zipIdx.foldl (fun cs (x : Value × Nat) => cs.setIfInBounds (off + x.2) x.1) cs = (cs.toList.take off ++ vs).toArray := by
  obtain ⟨h1, h2⟩ := Great.foldl_set off vs 0 cs
  apply Array.ext_getElem?
  intro k
  have hr : (cs.toList.take off ++ vs).toArray[k]? = (cs.toList.take off ++ vs)[k]? := by simp
  rw [h2 k, hr, List.getElem?_append]
  by_cases hk : k < off
  · rw [if_neg (by omega), if_pos (by simp; omega), List.getElem?_take, if_pos hk, Array.getElem?_toList]
  · have e : (cs.toList.take off).length = off := by simp; omega
    by_cases hk2 : k < cs.size
    · rw [if_pos ⟨by omega, by omega, hk2⟩, if_neg (by rw [e]; omega), e, Nat.add_zero]
    · rw [if_neg (by omega), if_neg (by rw [e]; omega), Array.getElem?_eq_none (by omega), List.getElem?_eq_none (by rw [e]; omega)]

theorem run_build_wr (i : Int) (s : Dk.Sec) (hs : s.length = 128) (w : World) : (Instr.build 116 #[(0, .int .i64 i), (1, .agg (Dk.secCells s).toArray)]).run Try.prog w = .ok (.agg (Value.int .i64 i :: Dk.secCells s).toArray) w := by
  have hz := zer_of inf_wr w
  have hl : (Dk.secCells s).length = 128 := by rw [Dk.secCells_len, hs]
  have hne : zero129 ≠ #[] := fun e => by have := zero129_size; rw [e] at this; cases this
  have hset := set_all (zero129.setIfInBounds 0 (Value.int .i64 i)) 1 (Dk.secCells s) (by rw [hl, Array.size_setIfInBounds, zero129_size])
  have h1 : (zero129.setIfInBounds 0 (Value.int .i64 i)).toList.take 1 = [Value.int .i64 i] := by
    have e : zero129.toList = Value.int .i64 0 :: zero128.toList := by simp [zero129]
    rw [Array.toList_setIfInBounds, e, List.set_cons_zero, List.take_succ_cons, List.take_zero]
  rw [h1] at hset
  simp [Instr.build, hz, Instr.fill, Value.cells, hl, zero129_size, hne, hset]

theorem run_build_wr' (i : Nat) (s : Dk.Sec) (hs : s.length = 128) (w : World) : (Instr.build 116 #[(0, .int .i64 (i : Int)), (1, .agg (Dk.secCells s).toArray)]).run Try.prog w = .ok (.agg (Dk.wrCells ⟨i, s⟩).toArray) w := run_build_wr i s hs w

theorem run_buildSlice_wr (vs : List Value) (hl : vs.length = 129) (w : World) : (Instr.buildSlice 93 1 #[(0, .agg vs.toArray)]).run Try.prog w = .ok (.slice (some ⟨w.heap.size, 0, none⟩) 1 1) (w.alloc (.cells vs.toArray 116)) := by
  obtain ⟨i0, hi, hz0, hz1, hz2⟩ := info_parts inf_wr
  refine run_buildSlice w _ _ 1 _ vs.toArray i0 _ und_wrs hi hz0 (by rw [hz1]; decide) (by rw [hz1]; decide) ?_
  rw [hz1]
  have hc : ((Array.range (1 * 129)).map ((Value.agg zero129).cells[· % (Value.agg zero129).cells.size]!)).size = 129 := by simp
  have hset := set_all ((Array.range (1 * 129)).map ((Value.agg zero129).cells[· % (Value.agg zero129).cells.size]!)) 0 vs (by rw [hc]; omega)
  generalize ((Array.range (1 * 129)).map ((Value.agg zero129).cells[· % (Value.agg zero129).cells.size]!)) = z at *
  simp only [List.take_zero, List.nil_append, Nat.zero_add] at hset
  simp [Instr.fill, Value.cells, hl, hc, hset]
theorem exec_build {P : Program} {o : Oper} {ρ : Operand → Value} {w : World} (t : TypeId) (x y : Operand) (ho : o.op = .build t #[(0, x), (1, y)]) (vx vy : Value) (hx : ρ x = vx) (hy : ρ y = vy) (v : Value)
    (hr : (Instr.build t #[(0, vx), (1, vy)]).run P w = .ok v w) : (execOp ρ o).run P w = .ok (.value v) w := by
  subst hx hy
  unfold execOp
  simp [ho, hr, Result.andThen]
/-- a load of a whole sector in a region whose reads come first -/
theorem still_load {P : Program} {ops : Array Oper} {w : World} {Q : Act → Prop} {a : Act} {o : Oper} {rest : List Oper} (hg : o.guard = none) (ty : TypeId) (x : Operand) (ho : o.op = .load ty x) (d : Tmp) (hd : o.dst = some d) (p : Value) (hx : a.eval x = p) (v : Value)
    (hr : (Instr.loadAt ty p).run P w = .ok v w) (h : wpStill P ops w Q rest (a.put (some d) v)) : wpStill P ops w Q (o :: rest) a := by
  refine wpStill_step fun K hK => ?_
  rw [if_pos (by simp [Region.wanted, hg])]
  unfold Oper.still
  rw [exec_load ty x ho p hx v hr, Oper.stillUpon_value, hd]
  exact hK _ h
theorem wp_buildSlice_run {P : Program} {o : Oper} {a : Act} {w w' : World} {K : Act → World → Prop} {Q : Exit → Act → World → Prop} (t : TypeId) (n : Nat) (x : Operand) (ho : o.op = .buildSlice t n #[(0, x)]) (vx : Value) (hx : a.eval x = vx) (v : Value)
    (hr : (Instr.buildSlice t n #[(0, vx)]).run P w = .ok v w') (h : K (a.put o.dst v) w') : o.wp P a w K Q := by
  subst hx
  unfold Oper.wp execOp
  simp [ho, hr, Result.andThen]
  exact h
/-- one write more waits -/
theorem wp_append_wr {o : Oper} {a : Act} {w : World} {K : Act → World → Prop} {Q : Exit → Act → World → Prop} (s x : Operand) (ho : o.op = .call { callee := .builtin .append, args := #[s, x], argTypes := #[93, 93] })
    (v : Value) (n : Nat) (xs : List Value) (hs : a.eval s = v) (hown : w.ownsRow 0 116 129 v n xs) (g : Nat) (hx : a.eval x = .slice (some ⟨g, 0, none⟩) 1 1) (vs : List Value) (hv : vs.length = 129) (hb : Has w g 116 vs.toArray)
    (h1 : ∀ u ∈ vs, u.oneCell' = true) (hn : n < 1000000)
    (h : ∀ (V cap : Nat) (w' : World), w'.ownsRow 0 116 129 (.slice (some ⟨V, 0, none⟩) (n + 1) cap) (n + 1) (xs ++ vs) → w.grownBy w' v.ownBlock → (v.ownBlock = some V ∨ V = w.heap.size) → K (a.put o.dst (.slice (some ⟨V, 0, none⟩) (n + 1) cap)) w') : o.wp Try.prog a w K Q := by
  obtain ⟨i0, hi, hz0, hz1, hz2⟩ := info_parts inf_wr
  obtain ⟨v', w', hr, h2, h3, _, h5⟩ := run_append_own_at (P := Try.prog) w 0 _ o.type _ i0 _ 129 136 und_wrs hi hz0 hz1 hz2 zero129_size (by omega) v n xs hown ⟨g, 0, none⟩ 1 1 vs (by rw [hv])
    (fun j u hj => by rw [Addr.add_mid, Nat.zero_add, hb.cell, List.getElem?_toArray]; exact hj) h1 (by unfold maxLen; omega) (by omega) (Nat.zero_le _)
  rcases h2.2 with ⟨_, h0⟩ | ⟨V, cap, cur, rfl, _⟩
  · omega
  · unfold Oper.wp execOp
    simp only [ho, resolve, invoke, builtin, Sem.run_bind, Sem.run_pure, Result.andThen_ok, List.map_toArray, List.map_cons, List.map_nil, hs, hx, hr]
    refine h V cap w' h2 h3 ?_
    rcases h5 with h5 | h5
    · exact .inl (by rw [← h5]; rfl)
    · exact .inr (by injection h5)
theorem run_array (g o c : Nat) (w : World) : (Instr.arrayAt 108 (.slice (some ⟨g, o, none⟩) 128 c)).run Try.prog w = .ok (.pointer (some ⟨g, o, none⟩)) w := by
  simp [Instr.arrayAt]

end Go.Proofs.Ythlmjnlakenmoaa

/-
  New, Reopen and Copy of the disk by its words: a row of sectors of its own.
-/
import Derived.Test.YtpgpalnnmoanpaaDRefWrite
namespace Go.Proofs.Ytpgpalnnmoanpaa
open Go.RowKit Go.Maps

theorem inf_rsec : (Try.prog.info? 34).map (fun i => (i.zero, i.size, i.bytes)) = some (some (.slice none 0 0), 1, 24) := by kernel_rfl
theorem und_rsecs : Try.prog.underlying 66 = some (.slice 34) := by kernel_rfl
/-- a sector more stands in the row -/
theorem wp_append_sec {o : Oper} {a : Act} {w : World} {K : Act → World → Prop} {Q : Exit → Act → World → Prop} (s x : Operand) (ho : o.op = .call { callee := .builtin .append, args := #[s, x], argTypes := #[66, 66] })
    (v : Value) (n : Nat) (xs : List Value) (hs : a.eval s = v) (hown : w.ownsRow 0 34 1 v n xs) (g : Nat) (hx : a.eval x = .slice (some ⟨g, 0, none⟩) 1 1) (u : Value) (hb : Has w g 34 #[u])
    (h1 : u.oneCell' = true) (hn : n < 1000000)
    (h : ∀ (V cap : Nat) (w' : World), w'.ownsRow 0 34 1 (.slice (some ⟨V, 0, none⟩) (n + 1) cap) (n + 1) (xs ++ [u]) → w.grownBy w' v.ownBlock → (v.ownBlock = some V ∨ V = w.heap.size) → K (a.put o.dst (.slice (some ⟨V, 0, none⟩) (n + 1) cap)) w') : o.wp Try.prog a w K Q := by
  obtain ⟨i0, hi, hz0, hz1, hz2⟩ := info_parts inf_rsec
  obtain ⟨v', w', hr, h2, h3, _, h5⟩ := run_append_own_at (P := Try.prog) w 0 _ o.type _ i0 _ 1 24 und_rsecs hi hz0 hz1 hz2 rfl (by omega) v n xs hown ⟨g, 0, none⟩ 1 1 [u] rfl
    (fun j y hj => by rw [Addr.add_mid, Nat.zero_add, hb.cell]; simpa using hj) (fun y hy => by rw [List.mem_singleton.1 hy]; exact h1) (by unfold maxLen; omega) (by omega) (Nat.zero_le _)
  rcases h2.2 with ⟨_, h0⟩ | ⟨V, cap, cur, rfl, _⟩
  · omega
  · unfold Oper.wp execOp
    simp only [ho, resolve, invoke, builtin, Sem.run_bind, Sem.run_pure, Result.andThen_ok, List.map_toArray, List.map_cons, List.map_nil, hs, hx, hr]
    refine h V cap w' h2 h3 ?_
    rcases h5 with h5 | h5
    · exact .inl (by rw [← h5]; rfl)
    · exact .inr (by injection h5)

/-- a row of sectors that has been made since w0: the sectors m, in blocks of I -/
structure Built (w0 wr : World) (x : Nat) (lv : Value) (ls : List Value) (I : Nat → Prop) (m : List Dk.Sec) : Prop where
  row : wr.ownsRow 0 34 1 lv m.length ls
  secs : ∀ (k : Nat) (s : Dk.Sec), m[k]? = some s → ∃ v : Value, ls[k]? = some v ∧ SecAt wr I v s
  new : ∀ k, lv.ownBlock = some k → w0.heap.size ≤ k
  newI : ∀ k, I k → w0.heap.size ≤ k ∧ k < wr.heap.size ∧ k ≠ x ∧ ¬ lv.ownBlock = some k
theorem Built.nil (w0 wr : World) (x : Nat) : Built w0 wr x (.slice none 0 0) [] noB [] :=
  ⟨World.ownsRow_nil _ _ _ _, (fun k s h => by simp at h), (fun k h => by cases h), fun k h => h.elim⟩
theorem Built.apart {w0 wr : World} {x : Nat} {lv : Value} {ls : List Value} {I : Nat → Prop} {m : List Dk.Sec} (h : Built w0 wr x lv ls I m) {cs : Array Value} (hb : Has wr x 70 cs) : ∀ k, lv.ownBlock = some k → k ≠ x := row_apart h.row hb (by decide)
theorem Built.step {w0 wr w2 w3 : World} {x : Nat} {lv : Value} {ls : List Value} {I : Nat → Prop} {m : List Dk.Sec} (h : Built w0 wr x lv ls I m) {cs : Array Value} (hb : Has wr x 70 cs) (f2 : Fr noB wr w2) (s : Dk.Sec) (VV cc : Nat) (hVV : wr.heap.size ≤ VV) (hVl : VV < w2.heap.size)
    (hsec : SecAt w2 (fun k => k = VV) (.slice (some ⟨VV, 0, none⟩) 128 cc) s) (f3 : Fr (fun k => lv.ownBlock = some k) w2 w3) {L' cap' : Nat} (hrow : w3.ownsRow 0 34 1 (.slice (some ⟨L', 0, none⟩) (m.length + 1) cap') (m.length + 1) (ls ++ [.slice (some ⟨VV, 0, none⟩) 128 cc]))
    (hL : lv.ownBlock = some L' ∨ w2.heap.size ≤ L') (hx0 : w0.heap.size ≤ x) (hw : w0.heap.size ≤ wr.heap.size) :
    Built w0 (w3.setCell ⟨x, 0, none⟩ (.slice (some ⟨L', 0, none⟩) (m.length + 1) cap')) x (.slice (some ⟨L', 0, none⟩) (m.length + 1) cap') (ls ++ [.slice (some ⟨VV, 0, none⟩) 128 cc]) (fun k => I k ∨ k = VV) (m ++ [s]) ∧
      Below w0.heap.size wr (w3.setCell ⟨x, 0, none⟩ (.slice (some ⟨L', 0, none⟩) (m.length + 1) cap')) := by
  have hxl := hb.lt
  have hap := h.apart hb
  have hlt := fun k hk => ownsRow_lt h.row k hk
  have hz2 := f2.size
  have hz3 := f3.size
  have fx : Fr (oneB x) w3 (w3.setCell ⟨x, 0, none⟩ (.slice (some ⟨L', 0, none⟩) (m.length + 1) cap')) := (Fr.refl (oneB x) w3).put _
  have hL'x : L' ≠ x := by
    rcases hL with e | e
    · exact hap _ e
    · omega
  have hLl : L' < w3.heap.size := ownsRow_lt hrow _ rfl
  refine ⟨⟨?_, fun k y hk => ?_, fun k hk => ?_, fun k hk => ?_⟩, ?_⟩
  · rw [List.length_append]
    exact ownsRow_keep hrow fx (fun k hk e => by have e : k = x := e; have hk : L' = k := by simpa [Value.ownBlock] using hk
                                                 exact hL'x (hk.trans e))
  · have hll : ls.length = m.length := by have := h.row.1; omega
    by_cases hlt' : k < m.length
    · rw [List.getElem?_append_left hlt'] at hk
      obtain ⟨v, e1, e2⟩ := h.secs k y hk
      refine ⟨v, by rw [List.getElem?_append_left (by omega)]; exact e1, ((((e2.keep f2 (fun _ _ e => e)).keep f3 (fun k hk => (h.newI k hk).2.2.2)).keep fx (fun k hk e => (h.newI k hk).2.2.1 e))).mono fun _ e => .inl e⟩
    · rw [List.getElem?_append_right (by omega)] at hk
      have hk0 : k - m.length = 0 := by
        have := (List.getElem?_eq_some_iff.1 hk).1
        simp at this
        omega
      rw [hk0] at hk
      injection hk with hk
      subst hk
      refine ⟨_, by rw [List.getElem?_append_right (by omega), hll, hk0]; rfl, ((hsec.keep f3 (fun k hk e => ?_)).keep fx (fun k hk e => ?_)).mono fun _ e => .inr e⟩
      · have hk : k = VV := hk
        have := hlt k e
        omega
      · have hk : k = VV := hk
        have e : k = x := e
        omega
  · have hk : L' = k := by simpa [Value.ownBlock] using hk
    subst hk
    rcases hL with e | e
    · exact h.new _ e
    · omega
  · have hz : (w3.setCell ⟨x, 0, none⟩ (.slice (some ⟨L', 0, none⟩) (m.length + 1) cap')).heap.size = w3.heap.size := by simp [World.setCell]
    rw [hz]
    have hLk : ∀ j, (Value.slice (some ⟨L', 0, none⟩) (m.length + 1) cap').ownBlock = some j → L' = j := fun j e => by simpa [Value.ownBlock] using e
    rcases hk with hk | hk
    · obtain ⟨a1, a2, a3, a4⟩ := h.newI k hk
      refine ⟨a1, by omega, a3, fun e => ?_⟩
      have e := hLk k e
      subst e
      rcases hL with e2 | e2
      · exact a4 e2
      · omega
    · subst hk
      refine ⟨by omega, by omega, by omega, fun e => ?_⟩
      have e := hLk k e
      subst e
      rcases hL with e2 | e2
      · have := hlt _ e2; omega
      · omega
  · refine ((f2.below hw (fun k e => e.elim)).trans (f3.below (by omega) (fun k e => h.new k e))).trans (fx.below (by omega) (fun k e => by have e : k = x := e; omega))
/-- a disk's struct of which only the row is set -/
def baseCells (lv : Value) : Array Value := #[lv, .slice none 0 0, .int .i64 0, .bool false, .bool false, .int .i64 0, .slice none 0 0, .int .i64 0, .int .i64 0]
theorem Built.done {w0 wr : World} {x : Nat} {lv : Value} {ls : List Value} {I : Nat → Prop} {m : List Dk.Sec} (h : Built w0 wr x lv ls I m) (hb : Has wr x 70 (baseCells lv)) (h1 : 1 ≤ m.length) (h2 : m.length ≤ 65536) (hf : Dk.Full m) :
    RefAt wr (fun k => k = x ∨ lv.ownBlock = some k) I x (Dk.fresh m) :=
  ⟨lv, .slice none 0 0, .slice none 0 0, ls, [], false, 0, (Dk.fresh m).plan, {
    ok := Dk.fresh_ok h1 h2 hf
    box := hb
    lives := fun _ => ⟨rfl, rfl, rfl⟩
    lasts := h.row
    waits := World.ownsRow_nil _ _ _ _
    vlen := rfl
    secs := h.secs
    wrs := fun k y hk => by simp [Dk.fresh] at hk
    kept := KeepAt.nil _ _
    own := fun k => by simp [Value.ownBlock]
    apart := fun k hk hs => by
      obtain ⟨_, _, a3, a4⟩ := h.newI k hk
      rcases hs with e | e
      · exact a3 e
      · exact a4 e
    low := fun k hk => (h.newI k hk).2.1 }⟩
-- NEW (the rest of this file is written by wip/gen/gennew.py)
theorem rnew_bad (w : World) (n : Int) (h : n < 1 ∨ 65536 < n) : Calls Try.prog 10 #[.int .i64 n] w fun e w' => e = .returned (.tuple #[.pointer none, .int .i64 1]) ∧ w = w' := by
  rcases h with h | h
  · go_enter Try.func10, Try.ntmps10
    go_wp2
    go_ret2
    exact ⟨rfl, rfl⟩
  · have h0 : 1 ≤ n := by omega
    go_enter Try.func10, Try.ntmps10
    go_wp2
    go_ret2
    exact ⟨rfl, rfl⟩
theorem rnew_any (w : World) (n : Nat) (h1 : 1 ≤ n) (h2 : n ≤ 65536) :
    Calls Try.prog 10 #[.int .i64 n] w fun e w' => ∃ x S I, e = .returned (.tuple #[ptr x, .int .i64 0]) ∧ RefAt w' S I x (Dk.made n) ∧ Below w.heap.size w w' ∧ (∀ k, S k → w.heap.size ≤ k) ∧ ∀ k, I k → w.heap.size ≤ k := by
  have h1' : (1 : Int) ≤ n := by omega
  have h2' : (n : Int) ≤ 65536 := by omega
  generalize hw0 : w.heap.size = x at *
  go_enter Try.func10, Try.ntmps10
  go_wp2_with fail
  have hbx : Has (w.alloc (.cells (baseCells (.slice none 0 0)) 70)) w.heap.size 70 (baseCells (.slice none 0 0)) := Has.of_alloc _ _ _
  rw [hw0] at hbx
  go_loopw [5] (fun i wr => ∃ k : Nat, k ≤ n ∧ i = .int .i64 k ∧ ∃ lv ls I, Has wr x 70 (baseCells lv) ∧ Built w wr x lv ls I (List.replicate k Dk.zsec) ∧ Below w.heap.size w wr) (fun i _ => n - (intOf i).toNat)
  case atStart => exact ⟨0, Nat.zero_le _, rfl, _, _, _, hbx, Built.nil _ _ _, (Below.refl _ _).alloc (Nat.le_refl _) _⟩
  case round =>
    rename_i wr
    obtain ⟨k, hk, rfl, lv, ls, I, hb, hbu, hbe⟩ := hrel
    have HS : Hid (∀ w' : World, Fr (fun k => lv.ownBlock = some k) wr w' → w'.cell? ⟨x, 0, none⟩ = some lv) := Lib.hid (fun w' f => (hb.keep f (fun e => hbu.apart hb _ e rfl)).cell 0)
    have HBox := Lib.hid hb
    have HR := Lib.hid hbu
    have HB := Lib.hid hbe
    have HFd : Hid (Fr (fun k => lv.ownBlock = some k) wr wr.drew) := Lib.hid ((Fr.refl _ wr).drew)
    have HX0 : Hid (w.heap.size ≤ x) := Lib.hid (by omega)
    have HLen : Hid ((List.replicate k Dk.zsec).length < 1000000) := Lib.hid (by rw [List.length_replicate]; omega)
    clear hb hbu hbe hbx
    by_cases hlt : k < n
    · have hk1 : (k : Int) < n := by omega
      go_wp2_with fail
      refine LastH.begin (fun w' => w'.cell? ⟨x, 0, none⟩ = some lv) 10 (by kernel_rfl) ?_
      refine last_yield (i := 0) 19 (.pointer (some ⟨x, 0, none⟩)) rfl rfl (by kernel_rfl) (by kernel_rfl) (by kernel_rfl) (by kernel_rfl) (fun _ _ _ h => h) rfl ?_ (HS.out _ HFd.out) ?_
      · intro w' hw'; skip; go_simp
      simp only [Act.put, List.setIfInBounds_toArray, List.set_cons_succ, List.set_cons_zero]
      refine last_yield (i := 1) 20 (.pointer (some ⟨x, 0, none⟩)) rfl rfl (by kernel_rfl) (by kernel_rfl) (by kernel_rfl) (by kernel_rfl) (fun _ _ _ h => h) rfl ?_ (HS.out _ HFd.out) ?_
      · intro w' hw'; skip; go_simp
      simp only [Act.put, List.setIfInBounds_toArray, List.set_cons_succ, List.set_cons_zero]
      refine last_yield (i := 2) 21 (.pointer (some ⟨x, 0, none⟩)) rfl rfl (by kernel_rfl) (by kernel_rfl) (by kernel_rfl) (by kernel_rfl) (fun _ _ _ h => h) rfl ?_ (HS.out _ HFd.out) ?_
      · intro w' hw'; skip; go_simp
      simp only [Act.put, List.setIfInBounds_toArray, List.set_cons_succ, List.set_cons_zero]
      refine last_yield (i := 3) 22 (.pointer (some ⟨x, 0, none⟩)) rfl rfl (by kernel_rfl) (by kernel_rfl) (by kernel_rfl) (by kernel_rfl) (fun _ _ _ h => h) rfl ?_ (HS.out _ HFd.out) ?_
      · intro w' hw'; skip; go_simp
      simp only [Act.put, List.setIfInBounds_toArray, List.set_cons_succ, List.set_cons_zero]
      refine last_yield (i := 4) 23 (lv) rfl rfl (by kernel_rfl) (by kernel_rfl) (by kernel_rfl) (by kernel_rfl) (fun _ _ _ h => h) rfl ?_ (HS.out _ HFd.out) ?_
      · intro w' hw'; skip; go_simp
      simp only [Act.put, List.setIfInBounds_toArray, List.set_cons_succ, List.set_cons_zero]
      refine last_one (i := 5) (by kernel_rfl) rfl rfl ?_
      intro K hK
      have hmk := run_make128 wr.drew
      go_simp
      clear hmk
      have hD : Has (wr.alloc (.cells zero128 5)).drew wr.heap.size 5 zero128 := (Has.of_alloc wr _ _).keep ((Fr.refl noB _).drew) (fun e => e)
      have hF2 : Fr noB wr (wr.alloc (.cells zero128 5)).drew := ((Fr.refl noB wr).alloc _).drew
      have hsc : SecAt (wr.alloc (.cells zero128 5)).drew (fun k => k = wr.heap.size) (.slice (some ⟨wr.heap.size, 0, none⟩) 128 128) Dk.zsec := ⟨_, _, rfl, ⟨rfl, Nat.le_refl _⟩, hD.lt, fun j u hj => by rw [hD.cell]; simpa [zero128] using hj⟩
      have HF2 := Lib.hid hF2
      have HSec := Lib.hid hsc
      have HVVl : Hid (wr.heap.size < (wr.alloc (.cells zero128 5)).drew.heap.size) := Lib.hid hD.lt
      have hx2 := HS.out _ (hF2.wide (fun _ _ e => e.elim))
      clear hD hF2 hsc
      refine hK _ _ (.inr hx2) ?_
      clear hK K
      generalize hVV : wr.heap.size = VV at *
      have HVV : Hid (wr.heap.size ≤ VV) := Lib.hid (by omega)
      generalize (wr.alloc (.cells zero128 5)).drew = w2 at *
      refine last_one (i := 6) (by kernel_rfl) rfl rfl ?_
      intro K hK
      go_simp
      have hn3 : Has (w2.alloc (.cells #[.slice (some ⟨VV, 0, none⟩) 128 128] 34)) w2.heap.size 34 #[.slice (some ⟨VV, 0, none⟩) 128 128] := Has.of_alloc _ _ _
      have f3 : Fr noB wr (w2.alloc (.cells #[.slice (some ⟨VV, 0, none⟩) 128 128] 34)) := HF2.out.alloc _
      have hs3 := HSec.out.keep (T := noB) ((Fr.refl noB w2).alloc (.cells #[.slice (some ⟨VV, 0, none⟩) 128 128] 34)) (fun _ _ e => e)
      have hx3 := HS.out _ (f3.wide (fun _ _ e => e.elim))
      refine hK _ _ (.inr hx3) ?_
      clear hK K
      generalize hg3 : w2.heap.size = g3 at *
      generalize (w2.alloc (.cells #[.slice (some ⟨VV, 0, none⟩) 128 128] 34)) = w3 at *
      refine last_one (i := 7) (by kernel_rfl) rfl rfl ?_
      intro K hK
      have hr3 := ownsRow_keep HR.out.row f3 (fun _ _ e => e)
      refine wp_append_sec (.tmp 23) (.tmp 25) rfl lv _ ls rfl hr3 g3 rfl (.slice (some ⟨VV, 0, none⟩) 128 128) hn3 rfl HLen.out ?_
      intro L' cap' w4 hrow hgr hL'
      have f4 : Fr (fun k => lv.ownBlock = some k) w3 w4 := Fr.of_grown hgr (fun k hk => hk)
      have hx4 := HS.out _ ((f3.wide (fun _ _ e => e.elim)).trans f4 (fun _ _ e => e))
      refine wp_of_dst (some 26) rfl _ ?_
      refine hK _ _ (.inr hx4) ?_
      clear hK K
      simp only [Act.put, List.setIfInBounds_toArray, List.set_cons_succ, List.set_cons_zero]
      have hb4 := (HBox.out.keep f3 (fun e => e)).keep f4 (fun e => (HR.out.apart HBox.out) _ e rfl)
      have hz4 : w4.frozen? ⟨x, 0, none⟩ = false := hb4.free 0
      have hc4 : w4.cell? ⟨x, 0, none⟩ = some lv := hb4.cell 0
      have hst := HR.out.step HBox.out f3 _ VV 128 HVV.out (by have := HVVl.out; have := hn3.lt; omega) hs3 f4 hrow (hL'.imp id (fun e => by omega)) HX0.out HB.out.size
      have HSt := Lib.hid hst.1
      have HBx := Lib.hid (hb4.set 0 (.slice (some ⟨L', 0, none⟩) ((List.replicate k Dk.zsec).length + 1) cap'))
      have HBel := Lib.hid (HB.out.trans hst.2)
      have HF4 := Lib.hid ((f3.wide (fun _ _ e => e.elim)).trans f4 (fun _ _ e => e))
      clear hst hrow hgr f4 hb4 hs3 hn3 hr3 hx3 f3 hL'
      refine last_one (i := 8) (by kernel_rfl) rfl rfl ?_
      intro K hK
      go_simp
      refine hK _ _ (.inr hx4) ?_
      clear hK K
      refine last_one (i := 9) (by kernel_rfl) rfl rfl ?_
      intro K hK
      go_simp
      refine hK _ _ (.inr hx4) ?_
      clear hK K
      refine last_one (i := 10) (by kernel_rfl) rfl rfl ?_
      intro K hK
      go_simp
      refine hK _ _ (.inl rfl) ?_
      clear hK K
      refine LastH.done (by kernel_rfl) ?_ 0
      rw [List.length_replicate] at HSt HBx HBel
      rw [← List.replicate_succ'] at HSt
      go_wp2_with fail
      exact ⟨⟨k + 1, by omega, rfl, _, _, _, HBx.out, HSt.out, HBel.out⟩, by simp only [intOf]; omega⟩
    · have hk2 : ¬ (k : Int) < n := by omega
      obtain rfl : k = n := by omega
      go_wp2_with fail
      go_ret2
      refine ⟨x, rfl, _, I, HR.out.done HBox.out (by rw [List.length_replicate]; exact h1) (by rw [List.length_replicate]; exact h2) (Dk.zero_full _), hw0 ▸ HB.out, fun k hk => ?_, fun k hk => ?_⟩
      · rcases hk with hk | hk
        · omega
        · have := HR.out.new k hk; omega
      · have := (HR.out.newI k hk).1; omega
end Go.Proofs.Ytpgpalnnmoanpaa

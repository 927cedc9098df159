/-
  Copy of the disk by its words: the sectors in new memory, the waits' bytes shared, for nobody turns them.
-/
import Derived.Test.YtpgpalnnmoanpaaDRefOpen
namespace Go.Proofs.Ytpgpalnnmoanpaa
open Go.RowKit Go.Maps

theorem rcells_one {ws : List Dk.Wr} {vs : List Value} (h : ∀ v ∈ vs, v.oneCell' = true) : ∀ u ∈ rcells ws vs, u.oneCell' = true := by
  intro u hu
  obtain ⟨q, hq, hu⟩ := List.mem_flatMap.1 hu
  simp at hu
  rcases hu with rfl | rfl
  · rfl
  · exact h _ (List.of_mem_zip hq).2
theorem RLies.one {w : World} {S I : Nat → Prop} {x : Nat} {lv wv kv : Value} {ls vs : List Value} {lit : Bool} {left : Nat} {p : Dk.Pl} {d : Dk.St} (h : RLies w S I x lv wv kv ls vs lit left p d) : ∀ v ∈ vs, v.oneCell' = true := by
  intro v hv
  obtain ⟨k, hk, e⟩ := List.getElem_of_mem hv
  have hk' : k < d.waits.length := by rw [← h.vlen]; exact hk
  obtain ⟨v', h1, h2⟩ := h.wrs k _ (List.getElem?_eq_getElem hk')
  rw [List.getElem?_eq_getElem hk, e] at h1
  injection h1 with h1
  subst h1
  obtain ⟨g, c, rfl, _⟩ := h2
  rfl
/-- the waits are laid behind a row that is nil yet -/
theorem wp_append_ws {o : Oper} {a : Act} {w : World} {K : Act → World → Prop} {Q : Exit → Act → World → Prop} (s x : Operand) (ho : o.op = .call { callee := .builtin .append, args := #[s, x], argTypes := #[67, 67] })
    (hs : a.eval s = .slice none 0 0) (wv : Value) (n : Nat) (xs : List Value) (hx : a.eval x = wv) (hown : w.ownsRow 0 88 2 wv n xs) (h1 : ∀ u ∈ xs, u.oneCell' = true) (hn : n ≤ 1000000)
    (h : ∀ (v : Value) (w' : World), w'.ownsRow 0 88 2 v n xs → Fr noB w w' → (∀ k, v.ownBlock = some k → w.heap.size ≤ k) → K (a.put o.dst v) w') : o.wp Try.prog a w K Q := by
  obtain ⟨i0, hi, hz0, hz1, hz2⟩ := info_parts inf_rwr
  rcases hown.2 with ⟨rfl, rfl⟩ | ⟨V, cap, cur, rfl, hV, hg, hn1, hcap, hsz, htk⟩
  · have hxs : xs = [] := List.eq_nil_of_length_eq_zero (by rw [hown.1])
    subst hxs
    have hrun := run_append_owned_none (P := Try.prog) (w := w) 0 _ o.type _ i0 2 und_rwrs hi (.slice none 0 0) 0 [] (World.ownsRow_nil _ _ _ _)
    unfold Oper.wp
    simp [execOp, ho, resolve, invoke, builtin, hs, hx, hrun, Result.andThen]
    exact h _ w (World.ownsRow_nil _ _ _ _) (Fr.refl _ _) (fun k hk => by cases hk)
  · obtain ⟨v', w', hrun, h2, h3, _, h5⟩ := run_append_own_at (P := Try.prog) w 0 _ o.type _ i0 _ 2 32 und_rwrs hi hz0 hz1 hz2 rfl (by omega) (.slice none 0 0) 0 [] (World.ownsRow_nil _ _ _ _) ⟨V, 0, none⟩ n cap xs hown.1
      (fun j u hj => by
        rw [Addr.add_mid, Nat.zero_add]
        have hj' : (cur.toList.take (n * 2))[j]? = some u := by rw [htk]; exact hj
        have hlt : j < n * 2 := by
          have := (List.getElem?_eq_some_iff.1 hj).1
          rw [hown.1] at this
          exact this
        rw [List.getElem?_take_of_lt hlt] at hj'
        have hh : Has w V 88 cur := hg
        rw [hh.cell]
        simpa using hj') h1 (by unfold maxLen; omega) (by omega) (Nat.zero_le _)
    unfold Oper.wp execOp
    simp only [ho, resolve, invoke, builtin, Sem.run_bind, Sem.run_pure, Result.andThen_ok, List.map_toArray, List.map_cons, List.map_nil, hs, hx, hrun]
    rw [Nat.zero_add, List.nil_append] at h2
    refine h v' w' h2 (Fr.of_grown h3 (fun k hk => by cases hk)) (fun k hk => ?_)
    rcases h5 with h5 | h5
    · rw [h5] at hk; cases hk
    · rw [h5] at hk; injection hk with hk; omega
theorem Built.keep {w0 wr w' : World} {x : Nat} {lv : Value} {ls : List Value} {I : Nat → Prop} {m : List Dk.Sec} (h : Built w0 wr x lv ls I m) {cs : Array Value} (hb : Has wr x 70 cs) (f : Fr (oneB x) wr w') : Built w0 w' x lv ls I m :=
  ⟨ownsRow_keep h.row f (fun k hk e => h.apart hb k hk e), fun k s hk => by
    obtain ⟨v, h1, h2⟩ := h.secs k s hk
    exact ⟨v, h1, h2.keep f (fun j hj e => (h.newI j hj).2.2.1 e)⟩, h.new, fun k hk => by
    obtain ⟨a1, a2, a3, a4⟩ := h.newI k hk
    exact ⟨a1, Nat.lt_of_lt_of_le a2 f.size, a3, a4⟩⟩
/-- the copy: a row of sectors of its own, a row of writes of its own, whose bytes are the first one's -/
theorem RLies.copied {w0 w' : World} {S I I' : Nat → Prop} {x0 x : Nat} {lv0 wv0 kv lv wv : Value} {ls0 ls vs : List Value} {lit : Bool} {left : Nat} {p : Dk.Pl} {d : Dk.St} (h : RLies w' S I x0 lv0 wv0 kv ls0 vs lit left p d)
    (hb : Built w0 w' x lv ls I' d.lasts) (hbox : Has w' x 70 (refCells lv wv d lit left kv p)) (hrow : w'.ownsRow 0 88 2 wv d.waits.length (rcells d.waits vs))
    (hv : ∀ k, wv.ownBlock = some k → w0.heap.size ≤ k ∧ ¬ I' k) (hI : ∀ k, I k → k < w0.heap.size) (hx : w0.heap.size ≤ x) :
    RLies w' (fun k => k = x ∨ lv.ownBlock = some k ∨ wv.ownBlock = some k) (fun k => I k ∨ I' k) x lv wv kv ls vs lit left p d := {
  ok := h.ok
  box := hbox
  lives := h.lives
  lasts := hb.row
  waits := hrow
  vlen := h.vlen
  secs := fun k s hk => by
    obtain ⟨v, h1, h2⟩ := hb.secs k s hk
    exact ⟨v, h1, h2.mono fun _ e => .inr e⟩
  wrs := fun k y hk => by
    obtain ⟨v, h1, h2⟩ := h.wrs k y hk
    exact ⟨v, h1, h2.mono fun _ e => .inl e⟩
  kept := h.kept.mono fun _ e => .inl e
  own := fun k => Iff.rfl
  apart := fun k hk hs => by
    rcases hk with hk | hk
    · have := hI k hk
      rcases hs with e | e | e
      · omega
      · have := hb.new k e; omega
      · have := (hv k e).1; omega
    · obtain ⟨_, _, a3, a4⟩ := hb.newI k hk
      rcases hs with e | e | e
      · exact a3 e
      · exact a4 e
      · exact (hv k e).2 hk
  low := fun k hk => by
    rcases hk with hk | hk
    · exact h.low k hk
    · exact (hb.newI k hk).2.1 }
-- GENERATED (gen/gencopy.py)
theorem rcopy_ok (w : World) (S I : Nat → Prop) (x0 : Nat) (d : Dk.St) (h : RefAt w S I x0 d) (hm : d.waits.length ≤ 1000000) :
    Calls Try.prog 33 #[.pointer (some ⟨x0, 0, none⟩)] w fun e w' => ∃ x S' I', e = .returned (ptr x) ∧ RefAt w' S' I' x d ∧ Below w.heap.size w w' ∧ (∀ k, S' k → w.heap.size ≤ k) ∧ ∀ k, I' k → I k ∨ w.heap.size ≤ k := by
  obtain ⟨lv0, wv0, kv0, ls0, vs0, lit, left, p, h⟩ := h
  obtain ⟨L, lcap, v0, rfl, j0, j1⟩ := h.lcell (k := 0) (by have := h.ok.some_; omega)
  clear j0 j1
  have hmost := h.ok.most
  have hsome := h.ok.some_
  have H := Lib.hid h
  have c2 := h.c2
  have c3 := h.c3
  have c4 := h.c4
  have c5 := h.c5
  clear h
  generalize hw0 : w.heap.size = x at *
  obtain ⟨fs, hfs⟩ := und_rplan
  go_enter Try.func33, Try.ntmps33
  go_wp2_with fail
  have d2 : w.drew.cell? ⟨x0, 2, none⟩ = some (.int .i64 (d.done : Int)) := c2
  have d3 : w.drew.cell? ⟨x0, 3, none⟩ = some (.bool d.dead) := c3
  have d4 : w.drew.cell? ⟨x0, 4, none⟩ = some (.bool lit) := c4
  have d5 : w.drew.cell? ⟨x0, 5, none⟩ = some (.int .i64 (left : Int)) := c5
  have hbd := H.out.box.keep ((Fr.refl noB w).drew) (fun e => e)
  have hrg : ∀ (j : Nat) (u : Value), [kv0, Value.int .i64 p.torn, .int .i64 p.cut][j]? = some u → w.drew.cell? ⟨x0, 6 + j, none⟩ = some u := by
    rw [← plan_part (.slice (some ⟨L, 0, none⟩) d.lasts.length lcap) wv0 kv0 d lit left p]
    exact range_of_has hbd
  have HRG := Lib.hid hrg
  clear c2 c3 c4 c5 hbd hrg
  refine wp_region_still_tail 21 (by kernel_rfl) (by kernel_rfl) ?_
  change wpStill _ _ (World.drew _) _ _ _
  simp only [List.take_succ_cons, List.take_zero, List.drop_succ_cons, List.drop_zero]
  iterate 19 still_step
  refine still_load rfl _ _ rfl 24 rfl (.pointer (some ⟨x0, 6, none⟩)) rfl (.agg #[kv0, .int .i64 p.torn, .int .i64 p.cut]) (run_loadAt_mid _ x0 6 _ [kv0, .int .i64 p.torn, .int .i64 p.cut] _ HRG.out hfs rfl siz_plan3) ?_
  still_step
  refine wpStill_nil ?_
  go_wp2_with fail
  have hbx : Has (w.alloc (.cells (refCells (.slice none 0 0) (.slice none 0 0) d lit left kv0 p) 70)).drew w.heap.size 70 (refCells (.slice none 0 0) (.slice none 0 0) d lit left kv0 p) := (Has.of_alloc _ _ _).keep ((Fr.refl noB _).drew) (fun e => e)
  rw [hw0] at hbx
  go_loopw [4] (fun i wr => ∃ k : Nat, k ≤ d.lasts.length ∧ i = .int .i64 k ∧ ∃ lv ls I', Has wr x 70 (refCells lv (.slice none 0 0) d lit left kv0 p) ∧ Built w wr x lv ls I' (d.lasts.take k) ∧ Below w.heap.size w wr) (fun i _ => d.lasts.length - (intOf i).toNat)
  case atStart => exact ⟨0, Nat.zero_le _, rfl, _, _, _, hbx, Built.nil _ _ _, Below.drew ((Below.refl _ _).alloc (Nat.le_refl _) _)⟩
  case round =>
    rename_i wr
    obtain ⟨k, hk, rfl, lv, ls, I', hb, hbu, hbe⟩ := hrel
    have hr := H.out.keep (Fr.of_below hbe noB) (fun _ e => e.elim)
    have c0 : wr.cell? ⟨x0, 0, none⟩ = some (.slice (some ⟨L, 0, none⟩) d.lasts.length lcap) := hr.c0
    have hx0l := H.out.box.lt
    have hLl : L < w.heap.size := ownsRow_lt H.out.lasts L rfl
    have HBox := Lib.hid hb
    have HR := Lib.hid hbu
    have HB := Lib.hid hbe
    have HFd : Hid (Fr (fun k => lv.ownBlock = some k) wr wr.drew) := Lib.hid ((Fr.refl _ wr).drew)
    have HX0 : Hid (w.heap.size ≤ x) := Lib.hid (by omega)
    have HLen : Hid ((d.lasts.take k).length < 1000000) := Lib.hid (by rw [List.length_take]; omega)
    by_cases hlt : k < d.lasts.length
    · have hk1 : (k : Int) < d.lasts.length := by omega
      obtain ⟨L', lcap', vo, hvv, hcell, hso⟩ := hr.lcell (k := k) hlt
      injection hvv with hvv hq1 hq2
      injection hvv with hvv
      injection hvv with hvv
      subst hvv
      clear hq1 hq2
      have HTake : Hid (d.lasts.take (k + 1) = d.lasts.take k ++ [d.lasts[k]]) := Lib.hid (List.take_succ_eq_append_getElem hlt)
      have hsl := H.out.ok.full _ (List.getElem_mem hlt)
      generalize d.lasts[k] = s at *
      have HSL := Lib.hid hsl
      obtain ⟨g, c, rfl, ⟨hgi, hc128⟩, hgl, hcs⟩ := hso
      have HRd : Hid (Rd wr wr.heap.size (some ⟨g, 0, none⟩) s) := Lib.hid ⟨by omega, fun _ => ⟨g, 0, rfl, hgl, fun j u hj => by rw [Nat.zero_add]; exact hcs j u hj⟩⟩
      have HS : Hid (∀ w' : World, Fr (fun k => lv.ownBlock = some k) wr w' → w'.cell? ⟨x, 0, none⟩ = some lv ∧ w'.cell? ⟨x0, 0, none⟩ = some (.slice (some ⟨L, 0, none⟩) d.lasts.length lcap) ∧ w'.cell? ⟨L, k, none⟩ = some (.slice (some ⟨g, 0, none⟩) 128 c)) :=
        Lib.hid (fun w' f => ⟨(hb.keep f (fun e => hbu.apart hb _ e rfl)).cell 0,
          (World.cell?_of_block (f.old x0 (by have := hbe.size; omega) (fun e => by have := hbu.new _ e; omega))).trans c0,
          (World.cell?_of_block (f.old L (by have := hbe.size; omega) (fun e => by have := hbu.new _ e; omega))).trans hcell⟩)
      clear hb hbu hbe hbx hr hsl hcs hgi hgl hc128 hcell
      go_wp2_with fail
      refine LastH.begin (fun w' => w'.cell? ⟨x, 0, none⟩ = some lv ∧ w'.cell? ⟨x0, 0, none⟩ = some (.slice (some ⟨L, 0, none⟩) d.lasts.length lcap) ∧ w'.cell? ⟨L, k, none⟩ = some (.slice (some ⟨g, 0, none⟩) 128 c)) 18 (by kernel_rfl) ?_
      refine last_yield (i := 0) 36 (.pointer (some ⟨x, 0, none⟩)) rfl rfl (by kernel_rfl) (by kernel_rfl) (by kernel_rfl) (by kernel_rfl) (fun _ _ _ h => h) rfl ?_ (HS.out _ HFd.out) ?_
      · intro w' hw'; skip; go_simp
      simp only [Act.put, List.setIfInBounds_toArray, List.set_cons_succ, List.set_cons_zero]
      refine last_yield (i := 1) 37 (.pointer (some ⟨x, 0, none⟩)) rfl rfl (by kernel_rfl) (by kernel_rfl) (by kernel_rfl) (by kernel_rfl) (fun _ _ _ h => h) rfl ?_ (HS.out _ HFd.out) ?_
      · intro w' hw'; skip; go_simp
      simp only [Act.put, List.setIfInBounds_toArray, List.set_cons_succ, List.set_cons_zero]
      refine last_yield (i := 2) 38 (.pointer (some ⟨x, 0, none⟩)) rfl rfl (by kernel_rfl) (by kernel_rfl) (by kernel_rfl) (by kernel_rfl) (fun _ _ _ h => h) rfl ?_ (HS.out _ HFd.out) ?_
      · intro w' hw'; skip; go_simp
      simp only [Act.put, List.setIfInBounds_toArray, List.set_cons_succ, List.set_cons_zero]
      refine last_yield (i := 3) 39 (.pointer (some ⟨x, 0, none⟩)) rfl rfl (by kernel_rfl) (by kernel_rfl) (by kernel_rfl) (by kernel_rfl) (fun _ _ _ h => h) rfl ?_ (HS.out _ HFd.out) ?_
      · intro w' hw'; skip; go_simp
      simp only [Act.put, List.setIfInBounds_toArray, List.set_cons_succ, List.set_cons_zero]
      refine last_yield (i := 4) 40 (lv) rfl rfl (by kernel_rfl) (by kernel_rfl) (by kernel_rfl) (by kernel_rfl) (fun _ _ _ h => h) rfl ?_ (HS.out _ HFd.out) ?_
      · intro w' hw'; skip; go_simp
      simp only [Act.put, List.setIfInBounds_toArray, List.set_cons_succ, List.set_cons_zero]
      refine last_yield (i := 6) 42 (.pointer (some ⟨x0, 0, none⟩)) rfl rfl (by kernel_rfl) (by kernel_rfl) (by kernel_rfl) (by kernel_rfl) (fun _ _ _ h => h) rfl ?_ (HS.out _ HFd.out) ?_
      · intro w' hw'; skip; go_simp
      simp only [Act.put, List.setIfInBounds_toArray, List.set_cons_succ, List.set_cons_zero]
      refine last_yield (i := 7) 43 (.pointer (some ⟨x0, 0, none⟩)) rfl rfl (by kernel_rfl) (by kernel_rfl) (by kernel_rfl) (by kernel_rfl) (fun _ _ _ h => h) rfl ?_ (HS.out _ HFd.out) ?_
      · intro w' hw'; skip; go_simp
      simp only [Act.put, List.setIfInBounds_toArray, List.set_cons_succ, List.set_cons_zero]
      refine last_yield (i := 8) 44 (.pointer (some ⟨x0, 0, none⟩)) rfl rfl (by kernel_rfl) (by kernel_rfl) (by kernel_rfl) (by kernel_rfl) (fun _ _ _ h => h) rfl ?_ (HS.out _ HFd.out) ?_
      · intro w' hw'; skip; go_simp
      simp only [Act.put, List.setIfInBounds_toArray, List.set_cons_succ, List.set_cons_zero]
      refine last_yield (i := 9) 45 (.slice (some ⟨L, 0, none⟩) d.lasts.length lcap) rfl rfl (by kernel_rfl) (by kernel_rfl) (by kernel_rfl) (by kernel_rfl) (fun _ _ _ h => h) rfl ?_ (HS.out _ HFd.out) ?_
      · intro w' hw'; skip; go_simp
      simp only [Act.put, List.setIfInBounds_toArray, List.set_cons_succ, List.set_cons_zero]
      refine last_yield (i := 10) 46 (.int .i64 (k : Int)) rfl rfl (by kernel_rfl) (by kernel_rfl) (by kernel_rfl) (by kernel_rfl) (fun _ _ _ h => h) rfl ?_ (HS.out _ HFd.out) ?_
      · intro w' hw'; skip; go_simp
      simp only [Act.put, List.setIfInBounds_toArray, List.set_cons_succ, List.set_cons_zero]
      refine last_yield (i := 11) 47 (.pointer (some ⟨L, k, none⟩)) rfl rfl (by kernel_rfl) (by kernel_rfl) (by kernel_rfl) (by kernel_rfl) (fun _ _ _ h => h) rfl ?_ (HS.out _ HFd.out) ?_
      · intro w' hw'; skip; go_simp
      simp only [Act.put, List.setIfInBounds_toArray, List.set_cons_succ, List.set_cons_zero]
      refine last_yield (i := 12) 48 (.slice (some ⟨g, 0, none⟩) 128 c) rfl rfl (by kernel_rfl) (by kernel_rfl) (by kernel_rfl) (by kernel_rfl) (fun _ _ _ h => h) rfl ?_ (HS.out _ HFd.out) ?_
      · intro w' hw'; skip; go_simp
      simp only [Act.put, List.setIfInBounds_toArray, List.set_cons_succ, List.set_cons_zero]
      refine last_one (i := 5) (by kernel_rfl) rfl rfl ?_
      intro K hK
      go_simp
      have o2 : OwnV (wr.alloc (.cells #[] 5)).drew wr.heap.size (.slice (some ⟨wr.heap.size, 0, none⟩) 0 0) [] := (Own.none_ wr wr.heap.size (Nat.le_refl _)).row
      have b2 : Below wr.heap.size wr (wr.alloc (.cells #[] 5)).drew := Below.drew ((Below.refl _ _).alloc (Nat.le_refl _) _)
      have r2 : Rd (wr.alloc (.cells #[] 5)).drew wr.heap.size (some ⟨g, 0, none⟩) s := HRd.out.below b2
      have hx1 := HS.out _ (Fr.of_below b2 _)
      refine hK _ _ (.inr hx1) ?_
      clear hK K hx1
      generalize (wr.alloc (.cells #[] 5)).drew = w1 at *
      refine last_one (i := 13) (by kernel_rfl) rfl rfl ?_
      intro K hK
      refine wp_append_v (.tmp 41) (.tmp 48) rfl wr.heap.size _ [] rfl o2 _ (some ⟨g, 0, none⟩) s c (by rw [HSL.out]; rfl) r2 (fun e => by cases e) (by rw [HSL.out]; simp) b2.size wr b2 ?_
      intro vb w2 o3 b3
      have o3 : OwnV w2 wr.heap.size vb s := o3
      obtain ⟨VV, cc, rfl, hVV, hVVl, hsec⟩ := sec_of_own o3 HSL.out
      have HF2 : Hid (Fr noB wr w2) := Lib.hid (Fr.of_below b3 noB)
      have HSec := Lib.hid (hsec (fun k => k = VV) rfl)
      have HVV : Hid (wr.heap.size ≤ VV) := Lib.hid hVV
      have HVVl : Hid (VV < w2.heap.size) := Lib.hid hVVl
      have hx2 := HS.out _ (HF2.out.wide (fun _ _ e => e.elim))
      refine wp_of_dst (some 49) rfl _ ?_
      refine hK _ _ (.inr hx2) ?_
      clear hK K o2 b2 r2 o3 b3 hsec hVV hVVl hx2
      simp only [Act.put, List.setIfInBounds_toArray, List.set_cons_succ, List.set_cons_zero]
      refine last_one (i := 14) (by kernel_rfl) rfl rfl ?_
      intro K hK
      go_simp
      have hn3 : Has (w2.alloc (.cells #[.slice (some ⟨VV, 0, none⟩) 128 cc] 34)) w2.heap.size 34 #[.slice (some ⟨VV, 0, none⟩) 128 cc] := Has.of_alloc _ _ _
      have f3 : Fr noB wr (w2.alloc (.cells #[.slice (some ⟨VV, 0, none⟩) 128 cc] 34)) := HF2.out.alloc _
      have hs3 := HSec.out.keep (T := noB) ((Fr.refl noB w2).alloc (.cells #[.slice (some ⟨VV, 0, none⟩) 128 cc] 34)) (fun _ _ e => e)
      have hx3 := HS.out _ (f3.wide (fun _ _ e => e.elim))
      refine hK _ _ (.inr hx3) ?_
      clear hK K
      generalize hg3 : w2.heap.size = g3 at *
      generalize (w2.alloc (.cells #[.slice (some ⟨VV, 0, none⟩) 128 cc] 34)) = w3 at *
      refine last_one (i := 15) (by kernel_rfl) rfl rfl ?_
      intro K hK
      have hr3 := ownsRow_keep HR.out.row f3 (fun _ _ e => e)
      refine wp_append_sec (.tmp 40) (.tmp 50) rfl lv _ ls rfl hr3 g3 rfl (.slice (some ⟨VV, 0, none⟩) 128 cc) hn3 rfl HLen.out ?_
      intro L' cap' w4 hrow hgr hL'
      have f4 : Fr (fun k => lv.ownBlock = some k) w3 w4 := Fr.of_grown hgr (fun k hk => hk)
      have hx4 := HS.out _ ((f3.wide (fun _ _ e => e.elim)).trans f4 (fun _ _ e => e))
      refine wp_of_dst (some 51) rfl _ ?_
      refine hK _ _ (.inr hx4) ?_
      clear hK K
      simp only [Act.put, List.setIfInBounds_toArray, List.set_cons_succ, List.set_cons_zero]
      have hb4 := (HBox.out.keep f3 (fun e => e)).keep f4 (fun e => (HR.out.apart HBox.out) _ e rfl)
      have hz4 : w4.frozen? ⟨x, 0, none⟩ = false := hb4.free 0
      have hc4 : w4.cell? ⟨x, 0, none⟩ = some lv := hb4.cell 0
      have hst := HR.out.step HBox.out f3 _ VV cc HVV.out (by have := HVVl.out; have := hn3.lt; omega) hs3 f4 hrow (hL'.imp id (fun e => by omega)) HX0.out HB.out.size
      have HSt := Lib.hid hst.1
      have HBx := Lib.hid (hb4.set 0 (.slice (some ⟨L', 0, none⟩) (((d.lasts.take k).length) + 1) cap'))
      have HBel := Lib.hid (HB.out.trans hst.2)
      have HF4 := Lib.hid ((f3.wide (fun _ _ e => e.elim)).trans f4 (fun _ _ e => e))
      clear hst hrow hgr f4 hb4 hs3 hn3 hr3 hx3 f3 hL'
      refine last_one (i := 16) (by kernel_rfl) rfl rfl ?_
      intro K hK
      go_simp
      refine hK _ _ (.inr hx4) ?_
      clear hK K
      refine last_one (i := 17) (by kernel_rfl) rfl rfl ?_
      intro K hK
      go_simp
      refine hK _ _ (.inr hx4) ?_
      clear hK K
      refine last_one (i := 18) (by kernel_rfl) rfl rfl ?_
      intro K hK
      go_simp
      refine hK _ _ (.inl rfl) ?_
      clear hK K
      refine LastH.done (by kernel_rfl) ?_ 0
      have hlk : (d.lasts.take k).length = k := by rw [List.length_take]; omega
      rw [hlk] at HSt HBx HBel
      rw [← HTake.out] at HSt
      go_wp2_with fail
      exact ⟨⟨k + 1, by omega, rfl, _, _, _, HBx.out, HSt.out, HBel.out⟩, by simp only [intOf]; omega⟩
    · have hk2 : ¬ (k : Int) < d.lasts.length := by omega
      have hkn : k = d.lasts.length := by omega
      have htk : d.lasts.take k = d.lasts := List.take_of_length_le (by omega)
      rw [htk] at HR
      have c1 : wr.cell? ⟨x0, 1, none⟩ = some wv0 := hr.c1
      have HRr := Lib.hid hr
      have e1 : wr.cell? ⟨x, 1, none⟩ = some (.slice none 0 0) := hb.cell 1
      have HSS : Hid (∀ w' : World, Fr noB wr w' → w'.cell? ⟨x, 1, none⟩ = some (.slice none 0 0) ∧ w'.cell? ⟨x0, 1, none⟩ = some wv0) := Lib.hid (fun w' f => ⟨(World.cell?_of_block (f.old x hb.lt (fun e => e))).trans e1, (World.cell?_of_block (f.old x0 hr.box.lt (fun e => e))).trans c1⟩)
      have HDr : Hid (Fr noB wr wr.drew) := Lib.hid (Fr.refl noB wr).drew
      clear hb hbu hbe hbx hr htk e1 c1
      go_wp2_with fail
      refine LastH.begin (fun w' => w'.cell? ⟨x, 1, none⟩ = some (.slice none 0 0) ∧ w'.cell? ⟨x0, 1, none⟩ = some wv0) 12 (by kernel_rfl) ?_
      refine last_yield (i := 0) 54 (.pointer (some ⟨x, 0, none⟩)) rfl rfl (by kernel_rfl) (by kernel_rfl) (by kernel_rfl) (by kernel_rfl) (fun _ _ _ h => h) rfl ?_ (HSS.out _ HDr.out) ?_
      · intro w' hw'; skip; go_simp
      simp only [Act.put, List.setIfInBounds_toArray, List.set_cons_succ, List.set_cons_zero]
      refine last_yield (i := 1) 55 (.pointer (some ⟨x, 0, none⟩)) rfl rfl (by kernel_rfl) (by kernel_rfl) (by kernel_rfl) (by kernel_rfl) (fun _ _ _ h => h) rfl ?_ (HSS.out _ HDr.out) ?_
      · intro w' hw'; skip; go_simp
      simp only [Act.put, List.setIfInBounds_toArray, List.set_cons_succ, List.set_cons_zero]
      refine last_yield (i := 2) 56 (.pointer (some ⟨x, 0, none⟩)) rfl rfl (by kernel_rfl) (by kernel_rfl) (by kernel_rfl) (by kernel_rfl) (fun _ _ _ h => h) rfl ?_ (HSS.out _ HDr.out) ?_
      · intro w' hw'; skip; go_simp
      simp only [Act.put, List.setIfInBounds_toArray, List.set_cons_succ, List.set_cons_zero]
      refine last_yield (i := 3) 57 (.pointer (some ⟨x, 1, none⟩)) rfl rfl (by kernel_rfl) (by kernel_rfl) (by kernel_rfl) (by kernel_rfl) (fun _ _ _ h => h) rfl ?_ (HSS.out _ HDr.out) ?_
      · intro w' hw'; skip; go_simp
      simp only [Act.put, List.setIfInBounds_toArray, List.set_cons_succ, List.set_cons_zero]
      refine last_yield (i := 4) 58 (.slice none 0 0) rfl rfl (by kernel_rfl) (by kernel_rfl) (by kernel_rfl) (by kernel_rfl) (fun _ _ _ h => h) rfl ?_ (HSS.out _ HDr.out) ?_
      · intro w' hw'; skip; go_simp
      simp only [Act.put, List.setIfInBounds_toArray, List.set_cons_succ, List.set_cons_zero]
      refine last_yield (i := 5) 59 (.pointer (some ⟨x0, 0, none⟩)) rfl rfl (by kernel_rfl) (by kernel_rfl) (by kernel_rfl) (by kernel_rfl) (fun _ _ _ h => h) rfl ?_ (HSS.out _ HDr.out) ?_
      · intro w' hw'; skip; go_simp
      simp only [Act.put, List.setIfInBounds_toArray, List.set_cons_succ, List.set_cons_zero]
      refine last_yield (i := 6) 60 (.pointer (some ⟨x0, 0, none⟩)) rfl rfl (by kernel_rfl) (by kernel_rfl) (by kernel_rfl) (by kernel_rfl) (fun _ _ _ h => h) rfl ?_ (HSS.out _ HDr.out) ?_
      · intro w' hw'; skip; go_simp
      simp only [Act.put, List.setIfInBounds_toArray, List.set_cons_succ, List.set_cons_zero]
      refine last_yield (i := 7) 61 (.pointer (some ⟨x0, 1, none⟩)) rfl rfl (by kernel_rfl) (by kernel_rfl) (by kernel_rfl) (by kernel_rfl) (fun _ _ _ h => h) rfl ?_ (HSS.out _ HDr.out) ?_
      · intro w' hw'; skip; go_simp
      simp only [Act.put, List.setIfInBounds_toArray, List.set_cons_succ, List.set_cons_zero]
      refine last_yield (i := 8) 62 (wv0) rfl rfl (by kernel_rfl) (by kernel_rfl) (by kernel_rfl) (by kernel_rfl) (fun _ _ _ h => h) rfl ?_ (HSS.out _ HDr.out) ?_
      · intro w' hw'; skip; go_simp
      simp only [Act.put, List.setIfInBounds_toArray, List.set_cons_succ, List.set_cons_zero]
      refine last_one (i := 9) (by kernel_rfl) rfl rfl ?_
      intro K hK
      have HRd := HRr.out.keep HDr.out (fun _ e => e.elim)
      refine wp_append_ws (.tmp 58) (.tmp 62) rfl rfl wv0 d.waits.length (rcells d.waits vs0) rfl HRd.waits (rcells_one HRr.out.one) hm ?_
      intro v2 w2 hrow f2 hnew
      have hform : ∃ A c, v2 = .slice A d.waits.length c := by
        rcases hrow.2 with ⟨rfl, h0⟩ | ⟨V, cap, cur, rfl, _⟩
        · exact ⟨_, _, by rw [h0]⟩
        · exact ⟨_, _, rfl⟩
      obtain ⟨A2, cc2, rfl⟩ := hform
      have f12 : Fr noB wr w2 := HDr.out.trans f2 (fun _ _ e => e)
      have hx2 := HSS.out _ f12
      refine wp_of_dst (some 63) rfl _ ?_
      refine hK _ _ (.inr hx2) ?_
      clear hK K
      simp only [Act.put, List.setIfInBounds_toArray, List.set_cons_succ, List.set_cons_zero]
      have hb2 := HBox.out.keep f12 (fun e => e)
      have hz2 : w2.frozen? ⟨x, 1, none⟩ = false := hb2.free 1
      have hfx : Fr (oneB x) w2 (w2.setCell ⟨x, 1, none⟩ (.slice A2 d.waits.length cc2)) := (Fr.refl (oneB x) w2).put _
      have hf1x : Fr (oneB x) wr (w2.setCell ⟨x, 1, none⟩ (.slice A2 d.waits.length cc2)) := (f12.wide (fun _ _ e => e.elim)).trans hfx (fun _ _ e => e)
      have hxl := HBox.out.lt
      have hd3 := HRr.out.keep hf1x (fun k e => by
        have e : k = x := e
        subst e
        refine ⟨fun hs => ?_, fun hi => ?_⟩
        · have := H.out.lt _ hs; have := HX0.out; omega
        · have := H.out.low _ hi; have := HX0.out; omega)
      have hdr : wr.drew.heap.size = wr.heap.size := rfl
      have hrow3 := ownsRow_keep hrow hfx (fun k hk e => by have e : k = x := e; have := hnew k hk; omega)
      have hbu3 := HR.out.keep HBox.out hf1x
      have hend := hd3.copied hbu3 (hb2.set 1 (.slice A2 d.waits.length cc2)) hrow3 (fun k hk => ⟨by have := hnew k hk; have := HB.out.size; omega, fun hi => by have := hnew k hk; have := (HR.out.newI k hi).2.1; omega⟩) (fun k hk => H.out.low k hk) HX0.out
      have HE := Lib.hid hend
      have hbel : Below w.heap.size w (w2.setCell ⟨x, 1, none⟩ (.slice A2 d.waits.length cc2)) := HB.out.trans (hf1x.below HB.out.size (fun k e => by have e : k = x := e; have := HX0.out; omega))
      have HBel := Lib.hid hbel
      have hn3 : ∀ k, (Value.slice A2 d.waits.length cc2).ownBlock = some k → w.heap.size ≤ k := fun k hk => by have := hnew k hk; have := HB.out.size; omega
      have HN3 := Lib.hid hn3
      clear hrow f2 hnew f12 hb2 hfx hf1x hd3 hrow3 hbu3 hend hbel hn3 HRd
      refine last_one (i := 10) (by kernel_rfl) rfl rfl ?_
      intro K hK
      go_simp
      refine hK _ _ (.inr hx2) ?_
      clear hK K
      refine last_one (i := 11) (by kernel_rfl) rfl rfl ?_
      intro K hK
      go_simp
      refine hK _ _ (.inr hx2) ?_
      clear hK K
      refine last_one (i := 12) (by kernel_rfl) rfl rfl ?_
      intro K hK
      go_simp
      refine hK _ _ (.inl rfl) ?_
      clear hK K
      refine LastH.done (by kernel_rfl) ?_ 0
      go_wp2_with fail
      go_ret
      refine ⟨x, _, _, rfl, ⟨_, _, _, _, _, _, _, _, HE.out⟩, hw0 ▸ HBel.out, fun k hk => ?_, fun k hk => ?_⟩
      · rcases hk with hk | hk | hk
        · omega
        · have := HR.out.new k hk; omega
        · have := HN3.out k hk; omega
      · rcases hk with hk | hk
        · exact .inl hk
        · exact .inr (by have := (HR.out.newI k hk).1; omega)
end Go.Proofs.Ytpgpalnnmoanpaa

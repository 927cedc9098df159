/-
  Write: it waits, and is counted, or the fuse crashes the disk.
-/
import Derived.Test.YthlmjnlakenmoaaDBuild
namespace Go.Proofs.Ythlmjnlakenmoaa
open Go.RowKit Go.Maps
set_option maxRecDepth 100000

theorem Goes.widen {S R : Nat → Prop} {b : Nat} {d : Dk.St} {w w' : World} (h : Goes S noB b d w w') (hr : ∀ k, R k → ¬ S k ∧ k < w.heap.size) : Goes S R b d w w' := by
  obtain ⟨S', hd, hf, hs⟩ := h
  refine ⟨S', hd.mono (fun _ h => h.elim) (fun k hk => ⟨fun hk' => ?_, Nat.lt_of_lt_of_le (hr k hk).2 hf.size⟩), hf, hs⟩
  rcases hs k hk' with h1 | h1
  · exact (hr k hk).1 h1
  · have := (hr k hk).2; omega
theorem Goes.after {S S1 R : Nat → Prop} {b : Nat} {d : Dk.St} {w w1 w' : World} (hf : Fr S w w1) (hs : ∀ k, S1 k → S k ∨ w.heap.size ≤ k) (h : Goes S1 R b d w1 w') : Goes S R b d w w' := by
  obtain ⟨S', hd, hf', hs'⟩ := h
  have hsz := hf.size
  refine ⟨S', hd, hf.trans hf' (fun k hk h1 => ?_), fun k hk => ?_⟩
  · rcases hs k h1 with h2 | h2
    · exact h2
    · omega
  · rcases hs' k hk with h1 | h1
    · exact hs k h1
    · exact .inr (by omega)

theorem step_due (w : World) (S R : Nat → Prop) (b L cap : Nat) (wv : Value) (M : Nat) (kv : Value) (d : Dk.St) (h : Lies w S R b L cap wv M kv d) (hdue : d.due = true) (hm : d.waits.length ≤ 1000000) :
    Calls Try.prog 69 #[.pointer (some ⟨b, 0, none⟩)] w fun e w' => e = .returned (.int .i64 20) ∧ Goes S noB b (d.crash d.plan) w w' := by
  obtain ⟨c0, c1, c2, c3, c4, c5, c6, c7, c8, c9, hfz⟩ := h.cells
  obtain ⟨hlit, hleft⟩ : d.lit = true ∧ d.left = 0 := by
    unfold Dk.St.due at hdue
    simpa using hdue
  rw [hlit] at c5
  rw [hleft] at c6
  have hcr := crash_any w S R R b L cap wv M kv d h kv d.plan h.kept h.ok.cut0 h.ok.cut1 h.apart hm
  unfold planV at hcr
  have Hcr := Lib.hid hcr
  clear h hdue hlit hleft hcr c0 c1 c2 c3 c4
  go_enter Try.func69, Try.ntmps69
  go_wp2_with (go_at_call 60; refine Hcr.out.mono ?_; rintro e w2 ⟨rfl, hg⟩; have Hg := Lib.hid hg; clear hg)
  go_ret
  exact ⟨rfl, Hg.out⟩
theorem step_any (w : World) (S R : Nat → Prop) (b L cap : Nat) (wv : Value) (M : Nat) (kv : Value) (d : Dk.St) (h : Lies w S R b L cap wv M kv d) (hm : d.waits.length ≤ 1000000) (hdone : d.done < 4611686018427387904) (hleft : d.left ≤ 9223372036854775807) :
    Calls Try.prog 69 #[.pointer (some ⟨b, 0, none⟩)] w fun e w' => e = .returned (.int .i64 d.stepErr) ∧ Goes S R b d.step w w' := by
  unfold Dk.St.stepErr Dk.St.step
  cases hdue : d.due with
  | true => exact (step_due w S R b L cap wv M kv d h hdue hm).mono fun e w' ⟨h1, h2⟩ => ⟨h1, h2.widen fun k hk => ⟨h.apart k hk, h.low k hk⟩⟩
  | false => exact (step_tick w S R b L cap wv M kv d h hdue hdone hleft).mono fun e w' ⟨h1, h2, h3⟩ => ⟨h1, S, ⟨L, cap, wv, M, kv, h2⟩, h3.wide fun k _ hk => (h.own k).2 (.inl hk), fun k hk => .inl hk⟩
theorem NewAt.snoc {w' : World} {M : Nat} {ws : List Dk.Wr} (x : Dk.Wr) {D : DataW Unit} (hD : IsMap D) (h : w'.ownsMap Try.prog 3 (plainElem Try.prog 3) M (ws.length + 1) (D.put (.int .i64 (x.at_ : Int)) (.lit (.int .i64 (ws.length : Int)))))
    (hl : ∀ i : Nat, has D (.int .i64 (i : Int)) = (Dk.lastIx ws i).isSome ∧ D.atKey (.int .i64 (i : Int)) (.lit (.int .i64 0)) = .lit (.int .i64 (((Dk.lastIx ws i).getD 0 : Nat) : Int))) : NewAt w' M (ws ++ [x]) := by
  refine ⟨_, by simpa using h, hD.put _ _, fun i => ?_⟩
  rw [Dk.lastIx_snoc]
  by_cases e : x.at_ = i
  · subst e
    rw [if_pos rfl]
    exact ⟨has_put_same hD (by trivial) _, atKey_put_same hD (by trivial) _ _⟩
  · rw [if_neg e]
    have hne : (Lit.int .i64 (i : Int)) ≠ (Lit.int .i64 (x.at_ : Int)) := fun h => by injection h with _ h; omega
    obtain ⟨h1, h2⟩ := hl i
    exact ⟨by rw [has_put_other hne]; exact h1, by rw [atKey_put_other hne]; exact h2⟩

/-- the disk where the write waits, ahead of its step -/
theorem write_end {w w1 w2 w3 : World} {S R : Nat → Prop} {b L cap : Nat} {wv : Value} {M : Nat} {kv : Value} {d : Dk.St} {i : Nat} {s : Dk.Sec} {V' cap' : Nat} (h : Lies w S R b L cap wv M kv d) (hi : i < d.lasts.length) (hs : s.length = 128)
    (hf1 : Fr (oneB M) w w1) (hn1 : NewAt w1 M (d.waits ++ [⟨i, s⟩])) (hf2 : Fr noB w1 w2) (hg : w2.grownBy w3 wv.ownBlock) (hown : w3.ownsRow 0 116 129 (.slice (some ⟨V', 0, none⟩) (d.waits.length + 1) cap') (d.waits.length + 1) (Dk.wrs d.waits ++ Dk.wrCells ⟨i, s⟩))
    (hV : wv.ownBlock = some V' ∨ V' = w2.heap.size) (u : Value) (hu : u = .slice (some ⟨V', 0, none⟩) (d.waits.length + 1) cap') :
    ∃ S1, Lies (w3.setCell ⟨b, 1, none⟩ u) S1 R b L cap (.slice (some ⟨V', 0, none⟩) (d.waits.length + 1) cap') M kv (d.wait i s) ∧ Fr S w (w3.setCell ⟨b, 1, none⟩ u) ∧ ∀ k, S1 k → S k ∨ w.heap.size ≤ k := by
  subst hu
  obtain ⟨n1, n2, n3, n4⟩ := h.ne
  have hlt := fun k hk => h.lt k hk
  have hsz1 := hf1.size
  have hsz2 := hf2.size
  have hbS : b < w.heap.size := h.box.lt
  have f3 : Fr (fun k => wv.ownBlock = some k) w2 w3 := Fr.of_grown hg (fun k hk => hk)
  have ft : Fr S w (w3.setCell ⟨b, 1, none⟩ (.slice (some ⟨V', 0, none⟩) (d.waits.length + 1) cap')) := by
    refine Fr.setAt ?_ (.inl ((h.own b).2 (.inl rfl))) _
    refine ((hf1.wide (T := S) (fun k _ e => (h.own k).2 (.inr (.inr (.inr e))))).trans hf2 (fun _ _ e => e.elim)).trans f3 (fun k _ e => (h.own k).2 (.inr (.inr (.inl e))))
  have hVb : V' ≠ b ∧ V' ≠ L ∧ V' ≠ M := by
    rcases hV with hV | hV
    · obtain ⟨m1, m2, m3⟩ := n4 _ hV
      exact ⟨Ne.symm m1, Ne.symm m2, Ne.symm m3⟩
    · have hL := hlt L ((h.own L).2 (.inr (.inl rfl)))
      have hM := hlt M ((h.own M).2 (.inr (.inr (.inr rfl))))
      omega
  have fb : Fr (fun k => k = M ∨ wv.ownBlock = some k) w w3 := ((hf1.wide (T := fun k => k = M ∨ wv.ownBlock = some k) (fun k _ e => .inl e)).trans hf2 (fun _ _ e => e.elim)).trans f3 (fun k _ e => .inr e)
  have fc : Fr (oneB b) w3 (w3.setCell ⟨b, 1, none⟩ (.slice (some ⟨V', 0, none⟩) (d.waits.length + 1) cap')) := (Fr.refl (oneB b) w3).put _
  refine ⟨fun k => k = b ∨ k = L ∨ (Value.slice (some ⟨V', 0, none⟩) (d.waits.length + 1) cap').ownBlock = some k ∨ k = M, ?_, ft, ?_⟩
  · exact {
      ok := Dk.St.wait_ok h.ok hi hs
      box := (h.box.keep fb (fun e => by
        rcases e with e | e
        · exact n2 e
        · exact (n4 _ e).1 rfl)).set 1 _
      lasts := ownsRow_keep (ownsRow_keep h.lasts fb (fun k hk e => by
        have hk : L = k := by simpa [Value.ownBlock] using hk
        subst hk
        rcases e with e | e
        · exact n3 e
        · exact (n4 _ e).2.1 rfl)) fc (fun k hk e => by
        have hk : L = k := by simpa [Value.ownBlock] using hk
        exact n1 (hk.trans e).symm)
      waits := by
        rw [show (d.wait i s).waits = d.waits ++ [⟨i, s⟩] from rfl, Dk.wrs_snoc, List.length_append]
        exact ownsRow_keep hown fc (fun k hk e => by
          have hk : V' = k := by simpa [Value.ownBlock] using hk
          exact hVb.1 (hk.trans e))
      new := ((hn1.keep hf2 (fun e => e)).keep f3 (fun e => (n4 _ e).2.2 rfl)).keep fc (fun e => n2 (Eq.symm e))
      kept := h.kept.keep ft h.apart
      own := fun k => Iff.rfl
      apart := fun k hk hS => by
        have hk1 := h.apart k hk
        have hk2 := h.low k hk
        rcases hS with e | e | e | e
        · exact hk1 ((h.own k).2 (.inl e))
        · exact hk1 ((h.own k).2 (.inr (.inl e)))
        · have e : V' = k := by simpa [Value.ownBlock] using e
          subst e
          rcases hV with hV | hV
          · exact hk1 ((h.own _).2 (.inr (.inr (.inl hV))))
          · omega
        · exact hk1 ((h.own k).2 (.inr (.inr (.inr e))))
      low := fun k hk => Nat.lt_of_lt_of_le (h.low k hk) ft.size }
  · intro k hk
    rcases hk with e | e | e | e
    · exact .inl ((h.own k).2 (.inl e))
    · exact .inl ((h.own k).2 (.inr (.inl e)))
    · have e : V' = k := by simpa [Value.ownBlock] using e
      subst e
      rcases hV with hV | hV
      · exact .inl ((h.own _).2 (.inr (.inr (.inl hV))))
      · exact .inr (by omega)
    · exact .inl ((h.own k).2 (.inr (.inr (.inr e))))

set_option maxHeartbeats 400000 in
set_option maxRecDepth 100000 in
theorem write_any (w : World) (S R : Nat → Prop) (b L cap : Nat) (wv : Value) (M : Nat) (kv : Value) (d : Dk.St) (h : Lies w S R b L cap wv M kv d) (hdead : d.dead = false) (hm : d.waits.length < 1000000) (hdone : d.done < 4611686018427387904) (hleft : d.left ≤ 9223372036854775807)
    (i : Nat) (hi : i < d.lasts.length) (g o c : Nat) (s : Dk.Sec) (hs : s.length = 128) (hsrc : w.rangeAt g o (Dk.secCells s)) (hgS : ¬ S g) :
    Calls Try.prog 67 #[.pointer (some ⟨b, 0, none⟩), .int .i64 i, .slice (some ⟨g, o, none⟩) 128 c] w fun e w' => e = .returned (.int .i64 (d.wait i s).stepErr) ∧ Goes S R b (d.write i s) w w' := by
  obtain ⟨c0, c1, c2, c3, c4, c5, c6, c7, c8, c9, hfz⟩ := h.cells
  obtain ⟨A, vcap, rfl, hA⟩ := wait_form h.waits
  obtain ⟨D, hown, hD, hlook⟩ := h.new
  rw [hdead] at c4
  have hd := has_any w b _ _ _ (i : Int) c0
  have hmost := h.ok.most
  rw [decide_eq_true ⟨by omega, by omega⟩] at hd
  have Hd := Lib.hid hd
  have hkey : keyOf Try.prog 3 (.int .i64 (i : Int)) = some (.int .i64 (i : Int)) := keyOf_int_mk und_int (WalkArith.wf_i64 (by omega))
  have hval : plainElem (H := Unit) Try.prog 3 (.int .i64 (d.waits.length : Int)) = some (.lit (.int .i64 (d.waits.length : Int)), []) := plainElem_int und_int (WalkArith.wf_i64 (by omega))
  have H := Lib.hid h
  have Hk := Lib.hid hkey
  have Hv := Lib.hid hval
  have Hl := Lib.hid hlook
  clear h hd hkey hval hlook hA hdead
  go_enter Try.func67, Try.ntmps67
  go_wp2_with (first
    | (go_at_call 58; refine (refuse_any _ _ false c4).mono ?_; rintro e w' ⟨rfl, rfl⟩)
    | (go_at_call 77; refine Hd.out.mono ?_; rintro e w' ⟨rfl, rfl⟩))
  refine wp_region_still_tail 10 (by kernel_rfl) (by kernel_rfl) ?_
  change wpStill _ _ (World.drew _) _ _ _
  simp only [List.take_succ_cons, List.take_zero, List.drop_succ_cons, List.drop_zero]
  repeat still_step
  refine wpStill_nil ?_
  refine wpList_mapUpdate_own _ rfl _ _ _ 94 rfl 3 3 key_int und_map _ M d.waits.length D rfl hown.drew (by unfold maxLen; omega) _ _ _ rfl rfl Hk.out _ [] Hv.out ?_
  intro w1 hown1 hg1
  go_wp2_with fail
  have hsrc1 : w1.rangeAt g o (Dk.secCells s) := by
    intro j v hj
    have hc : w.drew.cell? ⟨g, o + j, none⟩ = some v := hsrc j v hj
    refine hg1.cell hc (fun e => ?_)
    obtain ⟨es, clock, hM, _⟩ := hown
    injection e with e
    have e : g = M := e
    subst e
    have h2 : w.cell? ⟨g, o + j, none⟩ = some v := hsrc j v hj
    simp [World.cell?, hM] at h2
  have harr := run_array g o c
  have HS : Hid (w1.drew.rangeAt g o (Dk.secCells s)) := Lib.hid hsrc1
  have hl : (Dk.secCells s).length = 128 := by rw [Dk.secCells_len, hs]
  have hf1 : Fr (oneB M) w w1 := ((Fr.refl (oneB M) w).drew).trans (T := oneB M) (Fr.of_grown hg1 (fun k hk => by injection hk with hk; exact hk.symm)) (fun _ _ h => h)
  obtain ⟨n1, n2, n3, n4⟩ := H.out.ne
  have hb1 := H.out.box.keep hf1 n2
  have hb2 : Has (w1.drew.alloc (.cells (Dk.wrCells ⟨i, s⟩).toArray 116)) b _ _ := Has.alloc (w := w1.drew) hb1 _
  have HB2 := Lib.hid hb2
  have y1 : w1.cell? ⟨b, 1, none⟩ = some (.slice A d.waits.length vcap) := hb1.cell 1
  have hblt1 := block_lt_of_cell y1
  have hw1 := ownsRow_keep H.out.waits hf1 (fun k hk e => (n4 k hk).2.2 (Eq.symm e))
  have hn1 : NewAt w1 M (d.waits ++ [⟨i, s⟩]) := NewAt.snoc ⟨i, s⟩ hD hown1 Hl.out
  have hxl : (Dk.wrCells ⟨i, s⟩).length = 129 := by rw [Dk.wrCells_len, hs]
  have N1 := Lib.hid hn1
  have W1 := Lib.hid hw1
  have F1 := Lib.hid hf1
  have NE := Lib.hid n4
  have hbA : ∀ k, (Value.slice A d.waits.length vcap).ownBlock = some k → b ≠ k := fun k hk => (NE.out k hk).1
  have HA := Lib.hid hbA
  have gA : ∀ k, (Value.slice A d.waits.length vcap).ownBlock = some k → g ≠ k := fun k hk e => hgS (by rw [e]; exact (H.out.own k).2 (.inr (.inr (.inl hk))))
  have GA := Lib.hid gA
  clear hb2 c0 c1 c2 c3 c4 c5 c6 c7 c8 c9 hfz hn1 hw1 hf1 n1 n2 n3 n4 hb1 hbA gA hown hown1 hg1 hsrc1 hsrc
  refine wp_region_held (S := fun w' => w'.rangeAt g o (Dk.secCells s)) (by kernel_rfl) ?_
  change wpAnyH _ _ _ _ _ _ _ _ (World.drew _)
  refine held_yield (i := 0) 32 (.pointer (some ⟨b, 0, none⟩)) rfl rfl (by kernel_rfl) (by kernel_rfl) (by kernel_rfl) (fun _ _ _ h => h) rfl (fun _ _ => rfl) HS.out ?_
  simp only [Act.put, List.setIfInBounds_toArray, List.set_cons_succ, List.set_cons_zero]
  refine held_yield (i := 1) 33 (.pointer (some ⟨b, 0, none⟩)) rfl rfl (by kernel_rfl) (by kernel_rfl) (by kernel_rfl) (fun _ _ _ h => h) rfl (fun _ _ => rfl) HS.out ?_
  simp only [Act.put, List.setIfInBounds_toArray, List.set_cons_succ, List.set_cons_zero]
  refine held_yield (i := 5) 37 (.int .i64 (i : Int)) rfl rfl (by kernel_rfl) (by kernel_rfl) (by kernel_rfl) (fun _ _ _ h => h) rfl (fun _ _ => rfl) HS.out ?_
  simp only [Act.put, List.setIfInBounds_toArray, List.set_cons_succ, List.set_cons_zero]
  refine held_yield (i := 6) 38 (.slice (some ⟨g, o, none⟩) 128 c) rfl rfl (by kernel_rfl) (by kernel_rfl) (by kernel_rfl) (fun _ _ _ h => h) rfl (fun _ _ => rfl) HS.out ?_
  simp only [Act.put, List.setIfInBounds_toArray, List.set_cons_succ, List.set_cons_zero]
  refine held_yield (i := 2) 34 (.pointer (some ⟨b, 0, none⟩)) rfl rfl (by kernel_rfl) (by kernel_rfl) (by kernel_rfl) (fun _ _ _ h => h) rfl (fun _ _ => rfl) HS.out ?_
  simp only [Act.put, List.setIfInBounds_toArray, List.set_cons_succ, List.set_cons_zero]
  refine held_yield (i := 3) 35 (.pointer (some ⟨b, 1, none⟩)) rfl rfl (by kernel_rfl) (by kernel_rfl) (by kernel_rfl) (fun _ _ _ h => h) rfl ?_ HS.out ?_
  · intro w' _; go_simp
  simp only [Act.put, List.setIfInBounds_toArray, List.set_cons_succ, List.set_cons_zero]
  refine held_yield (i := 7) 39 (.pointer (some ⟨g, o, none⟩)) rfl rfl (by kernel_rfl) (by kernel_rfl) (by kernel_rfl) (fun _ _ _ h => h) rfl ?_ HS.out ?_
  · intro w' _; go_simp
  simp only [Act.put, List.setIfInBounds_toArray, List.set_cons_succ, List.set_cons_zero]
  refine held_yield (i := 8) 40 (.agg (Dk.secCells s).toArray) rfl rfl (by kernel_rfl) (by kernel_rfl) (by kernel_rfl) (fun _ _ _ h => h) rfl (fun w' hw' => exec_load _ _ rfl (.pointer (some ⟨g, o, none⟩)) rfl _ (run_loadAt_mid w' g o _ (Dk.secCells s) _ hw' und_sec rfl (by rw [hl]; exact siz_sec))) HS.out ?_
  simp only [Act.put, List.setIfInBounds_toArray, List.set_cons_succ, List.set_cons_zero]
  refine held_yield (i := 9) 41 (.agg (Dk.wrCells ⟨i, s⟩).toArray) rfl rfl (by kernel_rfl) (by kernel_rfl) (by kernel_rfl) (fun _ _ _ h => h) rfl (fun w' hw' => exec_build _ _ _ rfl (.int .i64 (i : Int)) (.agg (Dk.secCells s).toArray) rfl rfl _ (run_build_wr' i s hs w')) HS.out ?_
  simp only [Act.put, List.setIfInBounds_toArray, List.set_cons_succ, List.set_cons_zero]
  refine held_two (i := 4) (j := 10) (by kernel_rfl) rfl rfl rfl rfl ?_ ?_
  · intro K hK
    go_simp
    refine hK _ _ HS.out ?_
    clear hK K
    refine held_one (i := 10) (by kernel_rfl) rfl rfl ?_
    intro K hK
    refine wp_buildSlice_run _ _ _ rfl _ rfl _ (run_buildSlice_wr (Dk.wrCells ⟨i, s⟩) hxl _) ?_
    refine wp_of_dst (some 42) rfl _ ?_
    refine hK _ _ (World.rangeAt_alloc HS.out _) ?_
    clear hK K
    simp only [Act.put, List.setIfInBounds_toArray, List.set_cons_succ, List.set_cons_zero]
    refine held_one (i := 11) (by kernel_rfl) rfl rfl ?_
    intro K hK
    refine wp_append_wr _ _ rfl (.slice A d.waits.length vcap) d.waits.length (Dk.wrs d.waits) rfl (W1.out.drew.alloc _) w1.heap.size rfl (Dk.wrCells ⟨i, s⟩) hxl (Has.of_alloc _ _ _) (Dk.wrCells_one _) hm ?_
    intro V' cap' w3 hown3 hg3 hV3
    refine wp_of_dst (some 43) rfl _ ?_
    have hs3 : w3.rangeAt g o (Dk.secCells s) := fun j v hj => hg3.cell (World.rangeAt_alloc HS.out _ j v hj) (fun e => GA.out _ e.symm rfl)
    have hb3 := HB2.out.keep (Fr.of_grown (S := fun k => (Value.slice A d.waits.length vcap).ownBlock = some k) hg3 (fun k hk => hk)) (fun e => HA.out b e rfl)
    have z1 : w3.cell? ⟨b, 1, none⟩ = some (.slice A d.waits.length vcap) := hb3.cell 1
    have z2 : w3.frozen? ⟨b, 1, none⟩ = false := hb3.free 1
    clear hb3
    have HS3 := Lib.hid hs3
    have gB : ∀ u : Value, (w3.setCell ⟨b, 1, none⟩ u).rangeAt g o (Dk.secCells s) := fun u j v hj => by
      rw [World.cell?_setCell_other _ _ _ _ (fun e => hgS (by injection e with e; rw [← e]; exact (H.out.own b).2 (.inl rfl)))]
      exact hs3 j v hj
    have GB := Lib.hid gB
    have HO := Lib.hid hown3
    have HG := Lib.hid hg3
    have HV := Lib.hid hV3
    clear hs3 gB hown3 hg3 hV3
    refine hK _ _ HS3.out ?_
    clear hK K
    simp only [Act.put, List.setIfInBounds_toArray, List.set_cons_succ, List.set_cons_zero]
    refine held_one (i := 12) (by kernel_rfl) rfl rfl ?_
    intro K hK
    go_simp
    refine hK _ _ HS3.out ?_
    clear hK K
    refine held_one (i := 13) (by kernel_rfl) rfl rfl ?_
    intro K hK
    go_simp
    refine hK _ _ HS3.out ?_
    clear hK K
    refine held_one (i := 14) (by kernel_rfl) rfl rfl ?_
    intro K hK
    go_simp
    refine hK _ _ (GB.out _) ?_
    clear hK K
    refine wpAnyH_done (by kernel_rfl) ?_ 0
    obtain ⟨S1, hL1, hfs1, hss1⟩ := write_end H.out hi hs F1.out N1.out (((Fr.refl noB w1).drew).alloc (.cells (Dk.wrCells ⟨i, s⟩).toArray 116)) HG.out HO.out HV.out _ rfl
    have hst := step_any _ S1 R b L cap _ M kv (d.wait i s) hL1 (by simp [Dk.St.wait]; omega) hdone hleft
    have Hst := Lib.hid hst
    have Hf := Lib.hid hfs1
    have Hs := Lib.hid hss1
    clear hst hfs1 hss1 hL1 z1 z2 y1 hdone hleft
    go_wp2_with (go_at_call 69; refine Hst.out.mono ?_; rintro e w9 ⟨rfl, hg9⟩; have Hg9 := Lib.hid hg9; clear hg9)
    go_ret
    exact ⟨rfl, Goes.after Hf.out Hs.out Hg9.out⟩
  · intro K hK
    refine wp_buildSlice_run _ _ _ rfl _ rfl _ (run_buildSlice_wr (Dk.wrCells ⟨i, s⟩) hxl _) ?_
    refine wp_of_dst (some 42) rfl _ ?_
    refine hK _ _ (World.rangeAt_alloc HS.out _) ?_
    clear hK K
    simp only [Act.put, List.setIfInBounds_toArray, List.set_cons_succ, List.set_cons_zero]
    refine held_one (i := 4) (by kernel_rfl) rfl rfl ?_
    intro K hK
    go_simp
    refine hK _ _ (World.rangeAt_alloc HS.out _) ?_
    clear hK K
    refine held_one (i := 11) (by kernel_rfl) rfl rfl ?_
    intro K hK
    refine wp_append_wr _ _ rfl (.slice A d.waits.length vcap) d.waits.length (Dk.wrs d.waits) rfl (W1.out.drew.alloc _) w1.heap.size rfl (Dk.wrCells ⟨i, s⟩) hxl (Has.of_alloc _ _ _) (Dk.wrCells_one _) hm ?_
    intro V' cap' w3 hown3 hg3 hV3
    refine wp_of_dst (some 43) rfl _ ?_
    have hs3 : w3.rangeAt g o (Dk.secCells s) := fun j v hj => hg3.cell (World.rangeAt_alloc HS.out _ j v hj) (fun e => GA.out _ e.symm rfl)
    have hb3 := HB2.out.keep (Fr.of_grown (S := fun k => (Value.slice A d.waits.length vcap).ownBlock = some k) hg3 (fun k hk => hk)) (fun e => HA.out b e rfl)
    have z1 : w3.cell? ⟨b, 1, none⟩ = some (.slice A d.waits.length vcap) := hb3.cell 1
    have z2 : w3.frozen? ⟨b, 1, none⟩ = false := hb3.free 1
    clear hb3
    have HS3 := Lib.hid hs3
    have gB : ∀ u : Value, (w3.setCell ⟨b, 1, none⟩ u).rangeAt g o (Dk.secCells s) := fun u j v hj => by
      rw [World.cell?_setCell_other _ _ _ _ (fun e => hgS (by injection e with e; rw [← e]; exact (H.out.own b).2 (.inl rfl)))]
      exact hs3 j v hj
    have GB := Lib.hid gB
    have HO := Lib.hid hown3
    have HG := Lib.hid hg3
    have HV := Lib.hid hV3
    clear hs3 gB hown3 hg3 hV3
    refine hK _ _ HS3.out ?_
    clear hK K
    simp only [Act.put, List.setIfInBounds_toArray, List.set_cons_succ, List.set_cons_zero]
    refine held_one (i := 12) (by kernel_rfl) rfl rfl ?_
    intro K hK
    go_simp
    refine hK _ _ HS3.out ?_
    clear hK K
    refine held_one (i := 13) (by kernel_rfl) rfl rfl ?_
    intro K hK
    go_simp
    refine hK _ _ HS3.out ?_
    clear hK K
    refine held_one (i := 14) (by kernel_rfl) rfl rfl ?_
    intro K hK
    go_simp
    refine hK _ _ (GB.out _) ?_
    clear hK K
    refine wpAnyH_done (by kernel_rfl) ?_ 0
    obtain ⟨S1, hL1, hfs1, hss1⟩ := write_end H.out hi hs F1.out N1.out (((Fr.refl noB w1).drew).alloc (.cells (Dk.wrCells ⟨i, s⟩).toArray 116)) HG.out HO.out HV.out _ rfl
    have hst := step_any _ S1 R b L cap _ M kv (d.wait i s) hL1 (by simp [Dk.St.wait]; omega) hdone hleft
    have Hst := Lib.hid hst
    have Hf := Lib.hid hfs1
    have Hs := Lib.hid hss1
    clear hst hfs1 hss1 hL1 z1 z2 y1 hdone hleft
    go_wp2_with (go_at_call 69; refine Hst.out.mono ?_; rintro e w9 ⟨rfl, hg9⟩; have Hg9 := Lib.hid hg9; clear hg9)
    go_ret
    exact ⟨rfl, Goes.after Hf.out Hs.out Hg9.out⟩
end Go.Proofs.Ythlmjnlakenmoaa

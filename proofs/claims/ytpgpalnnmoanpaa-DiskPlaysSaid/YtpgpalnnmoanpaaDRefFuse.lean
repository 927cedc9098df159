/-
  Fuse of the disk by its words: refused, or laid with a plan of its own.
-/
import Derived.Test.YtpgpalnnmoanpaaDRefFlush
import Derived.Test.YtpgpalnnmoanpaaDFuseB
namespace Go.Proofs.Ytpgpalnnmoanpaa
open Go.RowKit Go.Maps

theorem siz_rplan : (Try.prog.info? 68).map (·.size) = some 3 := by kernel_rfl
theorem wp_store_part {P : Program} {o : Oper} {a : Act} {w : World} {Q : Exit → Act → World → Prop} {K : Act → World → Prop} (ty : TypeId) (x y : Operand) (ho : o.op = .store ty x y) (g off : Nat) (vs : List Value) (hx : a.eval x = .pointer (some ⟨g, off, none⟩)) (hy : a.eval y = .agg vs.toArray)
    {t : TypeId} {cs : Array Value} (hb : Has w g t cs) (hi : (P.info? ty).map (·.size) = some vs.length) (hfit : off + vs.length ≤ cs.size) (h1 : ∀ v ∈ vs, v.oneCell' = true) (cs' : Array Value) (he : (cs.toList.take off ++ vs ++ cs.toList.drop (off + vs.length)).toArray = cs')
    (h : ∀ w', Has w' g t cs' → Fr (oneB g) w w' → K (a.put o.dst undef) w') : o.wp P a w K Q := by
  subst he
  exact wp_store_has ty x y ho g off vs hx hy hb hi hfit h1 (h _ (hb.row _) ((Fr.refl (oneB g) w).setRow (.inl (show oneB g g from rfl)) _))
theorem rfuse_dead (w : World) (x : Nat) (k : Int) (pv : Value) (t c : Int) (hc : w.cell? ⟨x, 3, none⟩ = some (.bool true)) :
    Calls Try.prog 31 #[.pointer (some ⟨x, 0, none⟩), .int .i64 k, .agg #[pv, .int .i64 t, .int .i64 c]] w fun e w' => e = .returned (.int .i64 20) ∧ Below w.heap.size w w' := by
  have c3 : (w.alloc (.cells #[pv, .int .i64 t, .int .i64 c] 68)).cell? ⟨x, 3, none⟩ = some (.bool true) := (World.cell?_alloc_lt _ _ _ (block_lt_of_cell hc)).trans hc
  have HB := Lib.hid ((Below.refl w.heap.size w).alloc (Nat.le_refl _) (.cells #[pv, .int .i64 t, .int .i64 c] 68))
  go_enter Try.func31, Try.ntmps31
  go_wp2_with fail
  go_ret
  exact ⟨rfl, HB.out⟩

theorem rfuse_bad (w : World) (x : Nat) (k : Int) (pv : Value) (t c : Int) (hc : w.cell? ⟨x, 3, none⟩ = some (.bool false)) (h : ¬ (0 ≤ c ∧ c ≤ 128) ∨ k < 0) :
    Calls Try.prog 31 #[.pointer (some ⟨x, 0, none⟩), .int .i64 k, .agg #[pv, .int .i64 t, .int .i64 c]] w fun e w' => e = .returned (.int .i64 1) ∧ Below w.heap.size w w' := by
  have c3 : (w.alloc (.cells #[pv, .int .i64 t, .int .i64 c] 68)).cell? ⟨x, 3, none⟩ = some (.bool false) := (World.cell?_alloc_lt _ _ _ (block_lt_of_cell hc)).trans hc
  have HB := Lib.hid ((Below.refl w.heap.size w).alloc (Nat.le_refl _) (.cells #[pv, .int .i64 t, .int .i64 c] 68))
  rcases Int.lt_or_le c 0 with h0 | h0
  · have hg0 : decide (c < 0) = true := decide_eq_true h0
    clear h h0
    go_enter Try.func31, Try.ntmps31
    go_wp2_with fail
    go_ret
    exact ⟨rfl, HB.out⟩
  · have hg0 : decide (c < 0) = false := decide_eq_false (by omega)
    rcases Int.lt_or_le 128 c with h1 | h1
    · have hg1 : decide (128 < c) = true := decide_eq_true h1
      clear h h0 h1
      go_enter Try.func31, Try.ntmps31
      go_wp2_with fail
      go_ret
      exact ⟨rfl, HB.out⟩
    · have hg1 : decide (128 < c) = false := decide_eq_false (by omega)
      have hg2 : decide (k < 0) = true := decide_eq_true (by omega)
      clear h h0 h1
      go_enter Try.func31, Try.ntmps31
      go_wp2_with fail
      go_ret
      exact ⟨rfl, HB.out⟩

section
variable {w w' : World} {S I : Nat → Prop} {x : Nat} {lv wv kv : Value} {ls vs : List Value} {lit : Bool} {left : Nat} {p0 : Dk.Pl} {d : Dk.St}
/-- the fuse is laid: its plan lies in a block V that is new -/
theorem RLies.fused (h : RLies w S I x lv wv kv ls vs lit left p0 d) (k : Nat) (p : Dk.Pl) (hp0 : 0 ≤ p.cut) (hp1 : p.cut ≤ 128) {V : Nat} {kv' : Value} (hV : w.heap.size ≤ V) (hVlt : V < w'.heap.size)
    (hb : Has w' x 70 (refCells lv wv (d.fuse k p) true k kv' p)) (f : Fr (oneB x) w w') (hk : KeepAt w' (oneB V) kv' p.keep) :
    RLies w' S (fun i => I i ∨ i = V) x lv wv kv' ls vs true k p (d.fuse k p) := by
  have hI : ∀ k, I k → ¬ oneB x k := fun k hk e => h.apart k hk (by have e : k = x := e; rw [e]; exact (h.own x).2 (.inl rfl))
  exact { ok := ⟨h.ok.some_, h.ok.most, h.ok.full, h.ok.fullW, hp0, hp1⟩, box := hb, lives := fun _ => ⟨rfl, rfl, rfl⟩
          lasts := ownsRow_keep h.lasts f (row_apart h.lasts h.box (by decide))
          waits := ownsRow_keep h.waits f (row_apart h.waits h.box (by decide)), vlen := h.vlen
          secs := fun k s hk => by obtain ⟨v, e1, e2⟩ := h.secs k s hk; exact ⟨v, e1, (e2.keep f hI).mono fun _ e => .inl e⟩
          wrs := fun k s hk => by obtain ⟨v, e1, e2⟩ := h.wrs k s hk; exact ⟨v, e1, (e2.keep f hI).mono fun _ e => .inl e⟩
          kept := hk.mono (fun _ e => .inr e), own := h.own
          apart := fun i hi hs => by
            rcases hi with e | e
            · exact h.apart i e hs
            · have := h.lt i hs; omega
          low := fun i hi => by
            rcases hi with e | e
            · exact Nat.lt_of_lt_of_le (h.low i e) f.size
            · rw [e]; exact hVlt }
end
set_option maxHeartbeats 800000 in
theorem rfuse_ok (w : World) (S I R0 : Nat → Prop) (x : Nat) (d : Dk.St) (h : RefAt w S I x d) (hdead : d.dead = false) (k : Nat) (pv : Value) (p : Dk.Pl) (hp : KeepAt w R0 pv p.keep) (hR : ∀ k, R0 k → ¬ S k) (hp0 : 0 ≤ p.cut) (hp1 : p.cut ≤ 128) :
    Calls Try.prog 31 #[.pointer (some ⟨x, 0, none⟩), .int .i64 k, planV pv p] w fun e w' => e = .returned (.int .i64 0) ∧ RGoes S I x (d.fuse k p) w w' := by
  obtain ⟨lv, wv, kv, ls, vs, lit, left, p0, h⟩ := h
  have hkl : p.keep.length ≤ 140737488355328 := by obtain ⟨_, _, _, h, _⟩ := hp; exact h
  have hxS : S x := (h.own x).2 (.inl rfl)
  have hxlt := h.box.lt
  have hg0 : decide (p.cut < 0) = false := decide_eq_false (by omega)
  have hg1 : decide (128 < p.cut) = false := decide_eq_false (by omega)
  have hSlt := h.lt
  have hfx : Fr (oneB x) w (((w.setCell ⟨x, 4, none⟩ (.bool true)).setCell ⟨x, 5, none⟩ (.int .i64 (k : Int))).alloc (.cells #[pv, .int .i64 p.torn, .int .i64 p.cut] 68)) := (((Fr.refl (oneB x) w).put _).put _).alloc _
  have hbx : Has (((w.setCell ⟨x, 4, none⟩ (.bool true)).setCell ⟨x, 5, none⟩ (.int .i64 (k : Int))).alloc (.cells #[pv, .int .i64 p.torn, .int .i64 p.cut] 68)) x _ _ := ((h.box.set 4 (.bool true)).set 5 (.int .i64 (k : Int))).alloc _
  have hS : Has (((w.setCell ⟨x, 4, none⟩ (.bool true)).setCell ⟨x, 5, none⟩ (.int .i64 (k : Int))).alloc (.cells #[pv, .int .i64 p.torn, .int .i64 p.cut] 68)) w.heap.size 68 #[pv, .int .i64 p.torn, .int .i64 p.cut] := by
    have := Has.of_alloc ((w.setCell ⟨x, 4, none⟩ (.bool true)).setCell ⟨x, 5, none⟩ (.int .i64 (k : Int))) 68 #[pv, .int .i64 p.torn, .int .i64 p.cut]
    simpa [World.setCell] using this
  have hK := hp.keep hfx (fun k hk e => hR k hk (by have e : k = x := e; rw [e]; exact hxS))
  have hP1 : Has (w.alloc (.cells #[pv, .int .i64 p.torn, .int .i64 p.cut] 68)) w.heap.size 68 #[pv, .int .i64 p.torn, .int .i64 p.cut] := Has.of_alloc _ _ _
  have t2 : (w.alloc (.cells #[pv, .int .i64 p.torn, .int .i64 p.cut] 68)).cell? ⟨w.heap.size, 2, none⟩ = some (.int .i64 p.cut) := hP1.cell 2
  have c3 : (w.alloc (.cells #[pv, .int .i64 p.torn, .int .i64 p.cut] 68)).cell? ⟨x, 3, none⟩ = some (.bool false) := (World.cell?_alloc_lt _ _ _ hxlt).trans (by rw [← hdead]; exact h.c3)
  have z4 : w.frozen? ⟨x, 4, none⟩ = false := h.box.free 4
  have c4 := h.c4
  have z5' : (w.setCell ⟨x, 4, none⟩ (.bool true)).frozen? ⟨x, 5, none⟩ = false := (h.box.set 4 _).free 5
  have c5' : (w.setCell ⟨x, 4, none⟩ (.bool true)).cell? ⟨x, 5, none⟩ = some (.int .i64 (left : Int)) := (h.box.set 4 _).cell 5
  have H := Lib.hid h
  have Hslt := Lib.hid hSlt
  have Hfx := Lib.hid hfx
  have Hbx := Lib.hid hbx
  have HS := Lib.hid hS
  have HK := Lib.hid hK
  clear h hp hSlt hR hfx hbx hS hK hP1 hdead
  unfold planV
  go_enter Try.func31, Try.ntmps31
  go_wp2_with fail
  have hz : w.heap.size < (((w.setCell ⟨x, 4, none⟩ (.bool true)).setCell ⟨x, 5, none⟩ (.int .i64 (k : Int))).alloc (.cells #[pv, .int .i64 p.torn, .int .i64 p.cut] 68)).heap.size := HS.out.lt
  clear c3 z4 c4 t2 z5' c5'
  generalize (((w.setCell ⟨x, 4, none⟩ (.bool true)).setCell ⟨x, 5, none⟩ (.int .i64 (k : Int))).alloc (.cells #[pv, .int .i64 p.torn, .int .i64 p.cut] 68)) = w7 at *
  refine wp_region_held (S := fun w' => Has w' w.heap.size 68 #[pv, .int .i64 p.torn, .int .i64 p.cut]) (by kernel_rfl) ?_
  change wpAnyH _ _ _ _ _ _ _ _ (World.drew _)
  refine held_yield (i := 0) 30 (.pointer (some ⟨x, 0, none⟩)) rfl rfl (by kernel_rfl) (by kernel_rfl) (by kernel_rfl) (fun _ _ _ h => h) rfl ?_ HS.out ?_
  · intro w' hw'; go_simp
  simp only [Act.put, List.setIfInBounds_toArray, List.set_cons_succ, List.set_cons_zero]
  refine held_yield (i := 2) 32 (.pointer (some ⟨w.heap.size, 0, none⟩)) rfl rfl (by kernel_rfl) (by kernel_rfl) (by kernel_rfl) (fun _ _ _ h => h) rfl ?_ HS.out ?_
  · intro w' hw'; go_simp
  simp only [Act.put, List.setIfInBounds_toArray, List.set_cons_succ, List.set_cons_zero]
  refine held_yield (i := 3) 33 (pv) rfl rfl (by kernel_rfl) (by kernel_rfl) (by kernel_rfl) (fun _ _ _ h => h) rfl ?_ HS.out ?_
  · intro w' hw'; have t0 : w'.cell? ⟨w.heap.size, 0, none⟩ = some pv := hw'.cell 0; go_simp
  simp only [Act.put, List.setIfInBounds_toArray, List.set_cons_succ, List.set_cons_zero]
  refine held_yield (i := 5) 35 (.pointer (some ⟨w.heap.size, 1, none⟩)) rfl rfl (by kernel_rfl) (by kernel_rfl) (by kernel_rfl) (fun _ _ _ h => h) rfl ?_ HS.out ?_
  · intro w' hw'; go_simp
  simp only [Act.put, List.setIfInBounds_toArray, List.set_cons_succ, List.set_cons_zero]
  refine held_yield (i := 6) 36 (.int .i64 p.torn) rfl rfl (by kernel_rfl) (by kernel_rfl) (by kernel_rfl) (fun _ _ _ h => h) rfl ?_ HS.out ?_
  · intro w' hw'; have t0 : w'.cell? ⟨w.heap.size, 1, none⟩ = some (.int .i64 p.torn) := hw'.cell 1; go_simp
  simp only [Act.put, List.setIfInBounds_toArray, List.set_cons_succ, List.set_cons_zero]
  refine held_yield (i := 7) 37 (.pointer (some ⟨w.heap.size, 2, none⟩)) rfl rfl (by kernel_rfl) (by kernel_rfl) (by kernel_rfl) (fun _ _ _ h => h) rfl ?_ HS.out ?_
  · intro w' hw'; go_simp
  simp only [Act.put, List.setIfInBounds_toArray, List.set_cons_succ, List.set_cons_zero]
  refine held_yield (i := 8) 38 (.int .i64 p.cut) rfl rfl (by kernel_rfl) (by kernel_rfl) (by kernel_rfl) (fun _ _ _ h => h) rfl ?_ HS.out ?_
  · intro w' hw'; have t0 : w'.cell? ⟨w.heap.size, 2, none⟩ = some (.int .i64 p.cut) := hw'.cell 2; go_simp
  simp only [Act.put, List.setIfInBounds_toArray, List.set_cons_succ, List.set_cons_zero]
  refine held_one (i := 1) (by kernel_rfl) rfl rfl ?_
  intro K hK
  go_simp
  refine hK _ _ (HS.out.alloc _) ?_
  clear hK K
  have hnE : Has (w7.alloc (.cells #[] 4)).drew w7.heap.size 4 #[] := Has.of_alloc w7 _ _
  have hf8 : Fr noB w7 (w7.alloc (.cells #[] 4)).drew := ((Fr.refl noB w7).alloc _).drew
  have hS8 : Has (w7.alloc (.cells #[] 4)).drew w.heap.size 68 #[pv, .int .i64 p.torn, .int .i64 p.cut] := HS.out.keep hf8 (fun e => e)
  have hK8 := HK.out.keep hf8 (fun _ _ e => e)
  have hb8 := Hbx.out.keep hf8 (fun e => e)
  have hsz8 : w7.heap.size < (w7.alloc (.cells #[] 4)).drew.heap.size := hnE.lt
  generalize (w7.alloc (.cells #[] 4)).drew = w8 at *
  refine held_one (i := 4) (by kernel_rfl) rfl rfl ?_
  intro K hK
  refine wp_append_bools _ _ rfl w7.heap.size rfl hnE _ pv p.keep rfl hK8 ?_
  intro V cap w9 hrow hf9 hV
  have hlv : w.heap.size ≤ V := by rcases hV with e | e <;> omega
  have hS9 := hS8.keep hf9 (fun e => by have e : w.heap.size = w7.heap.size := e; omega)
  have hb9 := hb8.keep hf9 (fun e => by have e : x = w7.heap.size := e; omega)
  refine wp_of_dst (some 34) rfl _ ?_
  refine hK _ _ hS9 ?_
  clear hK K
  simp only [Act.put, List.setIfInBounds_toArray, List.set_cons_succ, List.set_cons_zero]
  refine held_yield (i := 9) 39 (.agg #[.slice (some ⟨V, 0, none⟩) p.keep.length cap, .int .i64 p.torn, .int .i64 p.cut]) rfl rfl (by kernel_rfl) (by kernel_rfl) (by kernel_rfl) (fun _ _ _ h => h) rfl ?_ hS9 ?_
  · intro w' hw'; go_simp
  simp only [Act.put, List.setIfInBounds_toArray, List.set_cons_succ, List.set_cons_zero]
  refine held_yield (i := 10) 40 (.pointer (some ⟨x, 0, none⟩)) rfl rfl (by kernel_rfl) (by kernel_rfl) (by kernel_rfl) (fun _ _ _ h => h) rfl ?_ hS9 ?_
  · intro w' hw'; go_simp
  simp only [Act.put, List.setIfInBounds_toArray, List.set_cons_succ, List.set_cons_zero]
  refine held_yield (i := 11) 41 (.pointer (some ⟨x, 6, none⟩)) rfl rfl (by kernel_rfl) (by kernel_rfl) (by kernel_rfl) (fun _ _ _ h => h) rfl ?_ hS9 ?_
  · intro w' hw'; go_simp
  simp only [Act.put, List.setIfInBounds_toArray, List.set_cons_succ, List.set_cons_zero]
  refine held_one (i := 12) (by kernel_rfl) rfl rfl ?_
  intro K hK
  refine wp_store_part _ _ _ rfl x 6 [.slice (some ⟨V, 0, none⟩) p.keep.length cap, .int .i64 p.torn, .int .i64 p.cut] rfl rfl hb9 siz_rplan (by show 6 + 3 ≤ 9; omega) (by intro u hu; simp at hu; rcases hu with rfl | rfl | rfl <;> rfl) (refCells lv wv (d.fuse k p) true k (.slice (some ⟨V, 0, none⟩) p.keep.length cap) p) rfl ?_
  intro wf hbf hff
  refine hK _ _ (hS9.keep hff (fun e => by have e : w.heap.size = x := e; omega)) ?_
  clear hK K
  have hrow' := hrow.keep hff (fun e => by have e : V = x := e; omega)
  have hall : Fr (oneB x) w wf := ((Hfx.out.trans hf8 (fun _ _ e => e.elim)).trans hf9 (fun k hk e => by have e : k = w7.heap.size := e; omega)).trans hff (fun _ _ e => e)
  have hend := H.out.fused k p hp0 hp1 hlv hrow'.lt hbf hall (hrow'.keepAt hkl)
  refine wpAnyH_done (by kernel_rfl) ?_ 0
  go_wp2_with fail
  go_ret
  exact ⟨rfl, S, _, ⟨_, _, _, _, _, _, _, _, hend⟩, hall.wide (fun k _ e => by have e : k = x := e; rw [e]; exact hxS), fun _ e => .inl e, fun k e => by rcases e with e | e; exact .inl e; exact .inr (by omega)⟩
end Go.Proofs.Ytpgpalnnmoanpaa

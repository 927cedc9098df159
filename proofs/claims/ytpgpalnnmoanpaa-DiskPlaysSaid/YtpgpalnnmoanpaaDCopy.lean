/-
  Copy of the disk: sectors, waits and the map of the newest in new memory; the plan's list shared.
-/
import Derived.Test.YtpgpalnnmoanpaaDMapClone
namespace Go.Proofs.Ytpgpalnnmoanpaa
open Go.RowKit Go.Maps

theorem siz_disk : (Try.prog.info? 65).map (·.size) = some 10 := by kernel_rfl
theorem und_disk : ∃ fs, Try.prog.underlying 65 = some (.struct fs) := ⟨_, rfl⟩
theorem clone_wrs_any (w : World) (v : Value) (ws : List Dk.Wr) (n : Nat) (hown : w.ownsRow 0 81 129 v n (Dk.wrs ws)) (hm : n ≤ 1000000) :
    Calls Try.prog 44 #[v] w fun e w' => ∃ A c, e = .returned (.slice A n c) ∧ w'.ownsRow 0 81 129 (.slice A n c) n (Dk.wrs ws) ∧ Below w.heap.size w w' ∧ ∀ k, (Value.slice A n c).ownBlock = some k → w.heap.size ≤ k := by
  rcases hown.2 with ⟨rfl, rfl⟩ | ⟨V, cap, cur, rfl, _⟩
  · refine (clone_wrs_nil w 0 0).mono ?_
    rintro e w' ⟨rfl, rfl⟩
    have hx : Dk.wrs ws = [] := List.eq_nil_of_length_eq_zero (by rw [hown.1])
    rw [hx]
    exact ⟨none, 0, rfl, World.ownsRow_nil _ _ _ _, Below.refl _ _, fun k hk => by cases hk⟩
  · refine (clone_wrs w ⟨V, 0, none⟩ n cap (Dk.wrs ws) hown.1 (hown.cells (g := V) rfl) hm (Dk.wrs_one _)).mono ?_
    rintro e w' ⟨L', cap', rfl, ho, hL', _, hb⟩
    exact ⟨_, _, rfl, ho, hb, fun k hk => by have hk : L' = k := by simpa [Value.ownBlock] using hk
                                             omega⟩
theorem NewAt.map {w : World} {M : Nat} {ws : List Dk.Wr} (h : NewAt w M ws) : ∃ es clock, w.heap[M]? = some (.map es clock) ∧ ∀ w' M', w'.heap[M']? = some (.map es clock) → NewAt w' M' ws := by
  obtain ⟨D, ⟨es, clock, hb, F, hn, hD⟩, h2⟩ := h
  exact ⟨es, clock, hb, fun w' M' h' => ⟨D, ⟨es, clock, h', F, hn, hD⟩, h2⟩⟩
theorem copy_any (w : World) (S R : Nat → Prop) (b : Nat) (d : Dk.St) (h : DiskAt w S R b d) (hm : d.waits.length ≤ 1000000) :
    Calls Try.prog 22 #[.pointer (some ⟨b, 0, none⟩)] w fun e w' => ∃ b' S', e = .returned (ptr b') ∧ DiskAt w' S' R b' d ∧ Below w.heap.size w w' ∧ ∀ k, S' k → w.heap.size ≤ k := by
  obtain ⟨L, cap, wv, M, kv, h⟩ := h
  obtain ⟨Ak, ck, rfl, _⟩ := id h.kept
  have hform : ∃ A c, wv = .slice A d.waits.length c := by
    rcases h.waits.2 with ⟨rfl, h0⟩ | ⟨V, cap, cur, rfl, _⟩
    · exact ⟨_, _, by rw [h0]⟩
    · exact ⟨_, _, rfl⟩
  obtain ⟨Aw, cw, rfl⟩ := hform
  have H := Lib.hid h
  obtain ⟨fs, hfs⟩ := und_disk
  have f1 : Fr noB w (w.alloc (.cells (diskCells (.slice (some ⟨L, 0, none⟩) d.lasts.length cap) (.slice Aw d.waits.length cw) M d (.slice Ak d.plan.keep.length ck)) 65)) := (Fr.refl noB w).alloc _
  have h1 := h.keep f1 (fun _ e => e.elim)
  have hb1 : Has (w.alloc (.cells (diskCells (.slice (some ⟨L, 0, none⟩) d.lasts.length cap) (.slice Aw d.waits.length cw) M d (.slice Ak d.plan.keep.length ck)) 65)) w.heap.size 65 (diskCells (.slice (some ⟨L, 0, none⟩) d.lasts.length cap) (.slice Aw d.waits.length cw) M d (.slice Ak d.plan.keep.length ck)) := Has.of_alloc _ _ _
  have c0 : (w.alloc (.cells (diskCells (.slice (some ⟨L, 0, none⟩) d.lasts.length cap) (.slice Aw d.waits.length cw) M d (.slice Ak d.plan.keep.length ck)) 65)).cell? ⟨b, 0, none⟩ = some (.slice (some ⟨L, 0, none⟩) d.lasts.length cap) := h1.box.cell 0
  have F1 := Lib.hid f1
  have H1 := Lib.hid h1
  have HB1 := Lib.hid hb1
  clear h f1 h1 hb1
  unfold diskCells at c0 F1 H1 HB1
  go_enter Try.func22, Try.ntmps22
  go_wp2_with (first
    | (refine arm_load rfl 65 (.tmp 7) rfl b 0 10 rfl H.out.box hfs rfl siz_disk [.slice (some ⟨L, 0, none⟩) d.lasts.length cap, .slice Aw d.waits.length cw, .map (some M), .int .i64 (d.done : Int), .bool d.dead, .bool d.lit, .int .i64 (d.left : Int), .slice Ak d.plan.keep.length ck, .int .i64 d.plan.torn, .int .i64 d.plan.cut] rfl rfl ?_)
    | (refine arm_fill rfl 65 (.tmp 3) (.tmp 8) rfl w [.slice (some ⟨L, 0, none⟩) d.lasts.length cap, .slice Aw d.waits.length cw, .map (some M), .int .i64 (d.done : Int), .bool d.dead, .bool d.lit, .int .i64 (d.left : Int), .slice Ak d.plan.keep.length ck, .int .i64 d.plan.torn, .int .i64 d.plan.cut] rfl rfl 65 #[.slice none 0 0, .slice none 0 0, .map none, .int .i64 0, .bool false, .bool false, .int .i64 0, .slice none 0 0, .int .i64 0, .int .i64 0] rfl siz_disk rfl (by intro u hu; simp at hu; rcases hu with rfl | rfl | rfl | rfl | rfl | rfl | rfl | rfl | rfl | rfl <;> rfl) ?_)
    | fail)
  have hxb : ∀ k, (S k ∨ R k) → k < w.heap.size := fun k hk => hk.elim (H.out.lt k) (H.out.low k)
  have HXB := Lib.hid hxb
  have HW : Hid (Below w.heap.size w w) := Lib.hid (Below.refl _ _)
  have HB01 := Lib.hid (F1.out.below (Nat.le_refl _) (fun _ e => e.elim))
  clear hxb c0
  generalize hx : w.heap.size = x at *
  generalize (w.alloc (.cells _ _)) = w1 at *
  have hcl := clone_secs w1 ⟨L, 0, none⟩ d.lasts.length cap (Dk.secs d.lasts) H1.out.lasts.1 (H1.out.lasts.cells (g := L) rfl) (by have := H1.out.ok.most; omega) (Dk.secs_one _)
  refine hcl.mono ?_
  rintro e w2 ⟨L', cap', rfl, ho, hL', hlt, hb⟩
  clear hcl
  have hxl : x < w1.heap.size := HB1.out.lt
  have hb2 := HB1.out.keep (Fr.of_below hb noB) (fun e => e)
  have hz2 : w2.frozen? ⟨x, 0, none⟩ = false := hb2.free 0
  have hk2 : w2.cell? ⟨x, 0, none⟩ = some (.slice (some ⟨L, 0, none⟩) d.lasts.length cap) := hb2.cell 0
  have fx : Fr (oneB x) w2 (w2.setCell ⟨x, 0, none⟩ (.slice (some ⟨L', 0, none⟩) d.lasts.length cap')) := (Fr.refl (oneB x) w2).put _
  have f12 : Fr (oneB x) w1 (w2.setCell ⟨x, 0, none⟩ (.slice (some ⟨L', 0, none⟩) d.lasts.length cap')) := (Fr.of_below hb (oneB x)).trans fx (fun _ _ e => e)
  have hfar : ∀ k, oneB x k → ¬ S k ∧ ¬ R k := fun k e => by
    have e : k = x := e
    exact ⟨fun h => by have := HXB.out k (.inl h); omega, fun h => by have := HXB.out k (.inr h); omega⟩
  have h3 := H1.out.keep f12 hfar
  have HB3 := Lib.hid (hb2.set 0 (.slice (some ⟨L', 0, none⟩) d.lasts.length cap'))
  have HL3 := Lib.hid (ownsRow_keep ho fx (fun k hk e => by have hk : L' = k := by simpa [Value.ownBlock] using hk
                                                            have e : k = x := e
                                                            omega))
  have c1 : (w2.setCell ⟨x, 0, none⟩ (.slice (some ⟨L', 0, none⟩) d.lasts.length cap')).cell? ⟨b, 1, none⟩ = some (.slice Aw d.waits.length cw) := h3.box.cell 1
  have H3 := Lib.hid h3
  have HB03 := Lib.hid (HB01.out.trans (f12.below (by omega) (fun k e => by have e : k = x := e; omega)))
  have HL' : Hid (w1.heap.size ≤ L') := Lib.hid hL'
  have HF := Lib.hid hfar
  have HZ3 : Hid (L' < (w2.setCell ⟨x, 0, none⟩ (.slice (some ⟨L', 0, none⟩) d.lasts.length cap')).heap.size) := Lib.hid (by simpa [World.setCell] using hlt)
  clear ho hL' hlt hb hb2 fx f12 h3 hfar
  go_wp2_with fail
  generalize (w2.setCell ⟨x, 0, none⟩ (.slice (some ⟨L', 0, none⟩) d.lasts.length cap')) = w3 at *
  refine (clone_wrs_any w3 _ d.waits _ H3.out.waits hm).mono ?_
  rintro e w4 ⟨Av, cv, rfl, ho, hb, hnew⟩
  have hxl3 : x < w3.heap.size := HB3.out.lt
  have hb4 := HB3.out.keep (Fr.of_below hb noB) (fun e => e)
  have hz4 : w4.frozen? ⟨x, 1, none⟩ = false := hb4.free 1
  have hk4 : w4.cell? ⟨x, 1, none⟩ = some (.slice Aw d.waits.length cw) := hb4.cell 1
  have fx : Fr (oneB x) w4 (w4.setCell ⟨x, 1, none⟩ (.slice Av d.waits.length cv)) := (Fr.refl (oneB x) w4).put _
  have f34 : Fr (oneB x) w3 (w4.setCell ⟨x, 1, none⟩ (.slice Av d.waits.length cv)) := (Fr.of_below hb (oneB x)).trans fx (fun _ _ e => e)
  have h5 := H3.out.keep f34 HF.out
  have HB5 := Lib.hid (hb4.set 1 (.slice Av d.waits.length cv))
  have HL5 := Lib.hid (ownsRow_keep HL3.out f34 (fun k hk e => by have hk : L' = k := by simpa [Value.ownBlock] using hk
                                                                  have e : k = x := e
                                                                  have := HL'.out
                                                                  omega))
  have HV5 := Lib.hid (ownsRow_keep ho fx (fun k hk e => by have := hnew k hk
                                                            have e : k = x := e
                                                            omega))
  have HN5 := Lib.hid (show ∀ k, (Value.slice Av d.waits.length cv).ownBlock = some k → w3.heap.size ≤ k ∧ k < (w4.setCell ⟨x, 1, none⟩ (.slice Av d.waits.length cv)).heap.size from fun k hk => ⟨hnew k hk, by simpa [World.setCell] using ownsRow_lt ho k hk⟩)
  have c2 : (w4.setCell ⟨x, 1, none⟩ (.slice Av d.waits.length cv)).cell? ⟨b, 2, none⟩ = some (.map (some M)) := h5.box.cell 2
  have H5 := Lib.hid h5
  have hsz : w3.heap.size ≤ (w4.setCell ⟨x, 1, none⟩ (.slice Av d.waits.length cv)).heap.size := f34.size
  have HB05 := Lib.hid (HB03.out.trans (f34.below (by have := HB03.out.size; omega) (fun k e => by have e : k = x := e; omega)))
  clear ho hb hb4 fx f34 h5 hnew c1 hz2 hk2
  go_wp2_with fail
  generalize (w4.setCell ⟨x, 1, none⟩ (.slice Av d.waits.length cv)) = w5 at *
  obtain ⟨es, clock, hmap, hnewat⟩ := H5.out.new.map
  refine (clone_map w5 M es clock hmap).mono ?_
  rintro e w6 ⟨rfl, rfl⟩
  have hxl5 : x < w5.heap.size := HB5.out.lt
  have f56 : Fr noB w5 (w5.alloc (.map es clock)) := (Fr.refl noB w5).alloc _
  have hm6 : (w5.alloc (.map es clock)).heap[w5.heap.size]? = some (.map es clock) := heap_alloc_new w5 _
  have hb6 := HB5.out.keep f56 (fun e => e)
  have hz6 : (w5.alloc (.map es clock)).frozen? ⟨x, 2, none⟩ = false := hb6.free 2
  have hk6 : (w5.alloc (.map es clock)).cell? ⟨x, 2, none⟩ = some (.map (some M)) := hb6.cell 2
  have fx : Fr (oneB x) (w5.alloc (.map es clock)) ((w5.alloc (.map es clock)).setCell ⟨x, 2, none⟩ (.map (some w5.heap.size))) := (Fr.refl (oneB x) _).put _
  have f57 : Fr (oneB x) w5 ((w5.alloc (.map es clock)).setCell ⟨x, 2, none⟩ (.map (some w5.heap.size))) := (f56.wide (fun _ _ e => e.elim)).trans fx (fun _ _ e => e)
  have h7 := H5.out.keep f57 HF.out
  have hL5 := ownsRow_keep HL5.out f57 (fun k hk e => by have hk : L' = k := by simpa [Value.ownBlock] using hk
                                                         have e : k = x := e
                                                         have := HL'.out
                                                         omega)
  have hV5 := ownsRow_keep HV5.out f57 (fun k hk e => by have := (HN5.out k hk).1
                                                         have e : k = x := e
                                                         omega)
  have hn7 : NewAt ((w5.alloc (.map es clock)).setCell ⟨x, 2, none⟩ (.map (some w5.heap.size))) w5.heap.size d.waits := hnewat _ _ ((fx.old _ (lt_of_block hm6) (fun e => by have e : w5.heap.size = x := e; omega)).trans hm6)
  have hend : Lies ((w5.alloc (.map es clock)).setCell ⟨x, 2, none⟩ (.map (some w5.heap.size))) (fun k => k = x ∨ k = L' ∨ (Value.slice Av d.waits.length cv).ownBlock = some k ∨ k = w5.heap.size) R x L' cap' (.slice Av d.waits.length cv) w5.heap.size (.slice Ak d.plan.keep.length ck) d := {
    ok := H5.out.ok
    box := hb6.set 2 (.map (some w5.heap.size))
    lasts := hL5
    waits := hV5
    new := hn7
    kept := h7.kept
    own := fun k => Iff.rfl
    apart := fun k hk hs => by
      have := HXB.out k (.inr hk)
      rcases hs with e | e | e | e
      · omega
      · have := HL'.out; omega
      · have := (HN5.out k e).1; omega
      · omega
    low := h7.low }
  have HE := Lib.hid hend
  have HB7 := Lib.hid (HB05.out.trans (f57.below (by have := HB05.out.size; omega) (fun k e => by have e : k = x := e; omega)))
  have HX7 : Hid (∀ k, (k = x ∨ k = L' ∨ (Value.slice Av d.waits.length cv).ownBlock = some k ∨ k = w5.heap.size) → x ≤ k) := Lib.hid (fun k e => by
    rcases e with e | e | e | e
    · omega
    · have := HL'.out; omega
    · have := (HN5.out k e).1; omega
    · omega)
  clear f56 hm6 hb6 fx f57 h7 hL5 hV5 hn7 hend hmap hnewat
  generalize (w5.alloc (.map es clock)) = w6 at *
  go_wp2_with fail
  go_ret
  subst hx
  exact ⟨_, _, rfl, ⟨_, _, _, _, _, HE.out⟩, HB7.out, HX7.out⟩
end Go.Proofs.Ytpgpalnnmoanpaa

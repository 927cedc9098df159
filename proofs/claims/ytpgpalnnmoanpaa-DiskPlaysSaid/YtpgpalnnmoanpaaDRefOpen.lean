/-
  Reopen of the disk by its words: a new disk of what lasted.
-/
import Derived.Test.YtpgpalnnmoanpaaDRefNew
namespace Go.Proofs.Ytpgpalnnmoanpaa
open Go.RowKit Go.Maps

-- GENERATED (gen/genopen.py)
theorem rreopen_not (w : World) (x : Nat) (hc : w.cell? ⟨x, 3, none⟩ = some (.bool false)) : Calls Try.prog 32 #[.pointer (some ⟨x, 0, none⟩)] w fun e w' => e = .returned (.tuple #[.pointer none, .int .i64 250]) ∧ w = w' := by
  go_enter Try.func32, Try.ntmps32
  go_wp2
  go_ret2
  exact ⟨rfl, rfl⟩
theorem rreopen_ok (w : World) (S I : Nat → Prop) (x0 : Nat) (d : Dk.St) (h : RefAt w S I x0 d) (hdead : d.dead = true) :
    Calls Try.prog 32 #[.pointer (some ⟨x0, 0, none⟩)] w fun e w' => ∃ x S' I', e = .returned (.tuple #[ptr x, .int .i64 0]) ∧ RefAt w' S' I' x (Dk.fresh d.lasts) ∧ Below w.heap.size w w' ∧ (∀ k, S' k → w.heap.size ≤ k) ∧ ∀ k, I' k → w.heap.size ≤ k := by
  obtain ⟨lv0, wv0, kv0, ls0, vs0, lit, left, p, h⟩ := h
  have c3 := h.c3
  rw [hdead] at c3
  obtain ⟨L, lcap, v0, rfl, j0, j1⟩ := h.lcell (k := 0) (by have := h.ok.some_; omega)
  clear j0 j1
  have hmost := h.ok.most
  have hsome := h.ok.some_
  have H := Lib.hid h
  clear h hdead
  generalize hw0 : w.heap.size = x at *
  go_enter Try.func32, Try.ntmps32
  go_wp2_with fail
  have hbx : Has (w.alloc (.cells (baseCells (.slice none 0 0)) 70)) w.heap.size 70 (baseCells (.slice none 0 0)) := Has.of_alloc _ _ _
  rw [hw0] at hbx
  go_loopw [5] (fun i wr => ∃ k : Nat, k ≤ d.lasts.length ∧ i = .int .i64 k ∧ ∃ lv ls I', Has wr x 70 (baseCells lv) ∧ Built w wr x lv ls I' (d.lasts.take k) ∧ Below w.heap.size w wr) (fun i _ => d.lasts.length - (intOf i).toNat)
  case atStart => exact ⟨0, Nat.zero_le _, rfl, _, _, _, hbx, Built.nil _ _ _, (Below.refl _ _).alloc (Nat.le_refl _) _⟩
  case round =>
    rename_i wr
    obtain ⟨k, hk, rfl, lv, ls, I', hb, hbu, hbe⟩ := hrel
    have hr := H.out.keep (Fr.of_below hbe noB) (fun _ e => e.elim)
    have c0 : wr.cell? ⟨x0, 0, none⟩ = some (.slice (some ⟨L, 0, none⟩) d.lasts.length lcap) := hr.c0
    have hx0l := H.out.box.lt
    have hLl : L < w.heap.size := ownsRow_lt H.out.lasts L rfl
    have HBox := Lib.hid hb
    have HR := Lib.hid hbu
    have HB := Lib.hid hbe
    have HFd : Hid (Fr (fun k => lv.ownBlock = some k) wr wr.drew) := Lib.hid ((Fr.refl _ wr).drew)
    have HX0 : Hid (w.heap.size ≤ x) := Lib.hid (by omega)
    have HLen : Hid ((d.lasts.take k).length < 1000000) := Lib.hid (by rw [List.length_take]; omega)
    by_cases hlt : k < d.lasts.length
    · have hk1 : (k : Int) < d.lasts.length := by omega
      obtain ⟨L', lcap', vo, hvv, hcell, hso⟩ := hr.lcell (k := k) hlt
      injection hvv with hvv hq1 hq2
      injection hvv with hvv
      injection hvv with hvv
      subst hvv
      clear hq1 hq2
      have HTake : Hid (d.lasts.take (k + 1) = d.lasts.take k ++ [d.lasts[k]]) := Lib.hid (List.take_succ_eq_append_getElem hlt)
      have hsl := H.out.ok.full _ (List.getElem_mem hlt)
      generalize d.lasts[k] = s at *
      have HSL := Lib.hid hsl
      obtain ⟨g, c, rfl, ⟨hgi, hc128⟩, hgl, hcs⟩ := hso
      have HRd : Hid (Rd wr wr.heap.size (some ⟨g, 0, none⟩) s) := Lib.hid ⟨by omega, fun _ => ⟨g, 0, rfl, hgl, fun j u hj => by rw [Nat.zero_add]; exact hcs j u hj⟩⟩
      have HS : Hid (∀ w' : World, Fr (fun k => lv.ownBlock = some k) wr w' → w'.cell? ⟨x, 0, none⟩ = some lv ∧ w'.cell? ⟨x0, 0, none⟩ = some (.slice (some ⟨L, 0, none⟩) d.lasts.length lcap) ∧ w'.cell? ⟨L, k, none⟩ = some (.slice (some ⟨g, 0, none⟩) 128 c)) :=
        Lib.hid (fun w' f => ⟨(hb.keep f (fun e => hbu.apart hb _ e rfl)).cell 0,
          (World.cell?_of_block (f.old x0 (by have := hbe.size; omega) (fun e => by have := hbu.new _ e; omega))).trans c0,
          (World.cell?_of_block (f.old L (by have := hbe.size; omega) (fun e => by have := hbu.new _ e; omega))).trans hcell⟩)
      clear hb hbu hbe hbx hr hsl hcs hgi hgl hc128 hcell
      go_wp2_with fail
      refine LastH.begin (fun w' => w'.cell? ⟨x, 0, none⟩ = some lv ∧ w'.cell? ⟨x0, 0, none⟩ = some (.slice (some ⟨L, 0, none⟩) d.lasts.length lcap) ∧ w'.cell? ⟨L, k, none⟩ = some (.slice (some ⟨g, 0, none⟩) 128 c)) 18 (by kernel_rfl) ?_
      refine last_yield (i := 0) 22 (.pointer (some ⟨x, 0, none⟩)) rfl rfl (by kernel_rfl) (by kernel_rfl) (by kernel_rfl) (by kernel_rfl) (fun _ _ _ h => h) rfl ?_ (HS.out _ HFd.out) ?_
      · intro w' hw'; skip; go_simp
      simp only [Act.put, List.setIfInBounds_toArray, List.set_cons_succ, List.set_cons_zero]
      refine last_yield (i := 1) 23 (.pointer (some ⟨x, 0, none⟩)) rfl rfl (by kernel_rfl) (by kernel_rfl) (by kernel_rfl) (by kernel_rfl) (fun _ _ _ h => h) rfl ?_ (HS.out _ HFd.out) ?_
      · intro w' hw'; skip; go_simp
      simp only [Act.put, List.setIfInBounds_toArray, List.set_cons_succ, List.set_cons_zero]
      refine last_yield (i := 2) 24 (.pointer (some ⟨x, 0, none⟩)) rfl rfl (by kernel_rfl) (by kernel_rfl) (by kernel_rfl) (by kernel_rfl) (fun _ _ _ h => h) rfl ?_ (HS.out _ HFd.out) ?_
      · intro w' hw'; skip; go_simp
      simp only [Act.put, List.setIfInBounds_toArray, List.set_cons_succ, List.set_cons_zero]
      refine last_yield (i := 3) 25 (.pointer (some ⟨x, 0, none⟩)) rfl rfl (by kernel_rfl) (by kernel_rfl) (by kernel_rfl) (by kernel_rfl) (fun _ _ _ h => h) rfl ?_ (HS.out _ HFd.out) ?_
      · intro w' hw'; skip; go_simp
      simp only [Act.put, List.setIfInBounds_toArray, List.set_cons_succ, List.set_cons_zero]
      refine last_yield (i := 4) 26 (lv) rfl rfl (by kernel_rfl) (by kernel_rfl) (by kernel_rfl) (by kernel_rfl) (fun _ _ _ h => h) rfl ?_ (HS.out _ HFd.out) ?_
      · intro w' hw'; skip; go_simp
      simp only [Act.put, List.setIfInBounds_toArray, List.set_cons_succ, List.set_cons_zero]
      refine last_yield (i := 6) 28 (.pointer (some ⟨x0, 0, none⟩)) rfl rfl (by kernel_rfl) (by kernel_rfl) (by kernel_rfl) (by kernel_rfl) (fun _ _ _ h => h) rfl ?_ (HS.out _ HFd.out) ?_
      · intro w' hw'; skip; go_simp
      simp only [Act.put, List.setIfInBounds_toArray, List.set_cons_succ, List.set_cons_zero]
      refine last_yield (i := 7) 29 (.pointer (some ⟨x0, 0, none⟩)) rfl rfl (by kernel_rfl) (by kernel_rfl) (by kernel_rfl) (by kernel_rfl) (fun _ _ _ h => h) rfl ?_ (HS.out _ HFd.out) ?_
      · intro w' hw'; skip; go_simp
      simp only [Act.put, List.setIfInBounds_toArray, List.set_cons_succ, List.set_cons_zero]
      refine last_yield (i := 8) 30 (.pointer (some ⟨x0, 0, none⟩)) rfl rfl (by kernel_rfl) (by kernel_rfl) (by kernel_rfl) (by kernel_rfl) (fun _ _ _ h => h) rfl ?_ (HS.out _ HFd.out) ?_
      · intro w' hw'; skip; go_simp
      simp only [Act.put, List.setIfInBounds_toArray, List.set_cons_succ, List.set_cons_zero]
      refine last_yield (i := 9) 31 (.slice (some ⟨L, 0, none⟩) d.lasts.length lcap) rfl rfl (by kernel_rfl) (by kernel_rfl) (by kernel_rfl) (by kernel_rfl) (fun _ _ _ h => h) rfl ?_ (HS.out _ HFd.out) ?_
      · intro w' hw'; skip; go_simp
      simp only [Act.put, List.setIfInBounds_toArray, List.set_cons_succ, List.set_cons_zero]
      refine last_yield (i := 10) 32 (.int .i64 (k : Int)) rfl rfl (by kernel_rfl) (by kernel_rfl) (by kernel_rfl) (by kernel_rfl) (fun _ _ _ h => h) rfl ?_ (HS.out _ HFd.out) ?_
      · intro w' hw'; skip; go_simp
      simp only [Act.put, List.setIfInBounds_toArray, List.set_cons_succ, List.set_cons_zero]
      refine last_yield (i := 11) 33 (.pointer (some ⟨L, k, none⟩)) rfl rfl (by kernel_rfl) (by kernel_rfl) (by kernel_rfl) (by kernel_rfl) (fun _ _ _ h => h) rfl ?_ (HS.out _ HFd.out) ?_
      · intro w' hw'; skip; go_simp
      simp only [Act.put, List.setIfInBounds_toArray, List.set_cons_succ, List.set_cons_zero]
      refine last_yield (i := 12) 34 (.slice (some ⟨g, 0, none⟩) 128 c) rfl rfl (by kernel_rfl) (by kernel_rfl) (by kernel_rfl) (by kernel_rfl) (fun _ _ _ h => h) rfl ?_ (HS.out _ HFd.out) ?_
      · intro w' hw'; skip; go_simp
      simp only [Act.put, List.setIfInBounds_toArray, List.set_cons_succ, List.set_cons_zero]
      refine last_one (i := 5) (by kernel_rfl) rfl rfl ?_
      intro K hK
      go_simp
      have o2 : OwnV (wr.alloc (.cells #[] 5)).drew wr.heap.size (.slice (some ⟨wr.heap.size, 0, none⟩) 0 0) [] := (Own.none_ wr wr.heap.size (Nat.le_refl _)).row
      have b2 : Below wr.heap.size wr (wr.alloc (.cells #[] 5)).drew := Below.drew ((Below.refl _ _).alloc (Nat.le_refl _) _)
      have r2 : Rd (wr.alloc (.cells #[] 5)).drew wr.heap.size (some ⟨g, 0, none⟩) s := HRd.out.below b2
      have hx1 := HS.out _ (Fr.of_below b2 _)
      refine hK _ _ (.inr hx1) ?_
      clear hK K hx1
      generalize (wr.alloc (.cells #[] 5)).drew = w1 at *
      refine last_one (i := 13) (by kernel_rfl) rfl rfl ?_
      intro K hK
      refine wp_append_v (.tmp 27) (.tmp 34) rfl wr.heap.size _ [] rfl o2 _ (some ⟨g, 0, none⟩) s c (by rw [HSL.out]; rfl) r2 (fun e => by cases e) (by rw [HSL.out]; simp) b2.size wr b2 ?_
      intro vb w2 o3 b3
      have o3 : OwnV w2 wr.heap.size vb s := o3
      obtain ⟨VV, cc, rfl, hVV, hVVl, hsec⟩ := sec_of_own o3 HSL.out
      have HF2 : Hid (Fr noB wr w2) := Lib.hid (Fr.of_below b3 noB)
      have HSec := Lib.hid (hsec (fun k => k = VV) rfl)
      have HVV : Hid (wr.heap.size ≤ VV) := Lib.hid hVV
      have HVVl : Hid (VV < w2.heap.size) := Lib.hid hVVl
      have hx2 := HS.out _ (HF2.out.wide (fun _ _ e => e.elim))
      refine wp_of_dst (some 35) rfl _ ?_
      refine hK _ _ (.inr hx2) ?_
      clear hK K o2 b2 r2 o3 b3 hsec hVV hVVl hx2
      simp only [Act.put, List.setIfInBounds_toArray, List.set_cons_succ, List.set_cons_zero]
      refine last_one (i := 14) (by kernel_rfl) rfl rfl ?_
      intro K hK
      go_simp
      have hn3 : Has (w2.alloc (.cells #[.slice (some ⟨VV, 0, none⟩) 128 cc] 34)) w2.heap.size 34 #[.slice (some ⟨VV, 0, none⟩) 128 cc] := Has.of_alloc _ _ _
      have f3 : Fr noB wr (w2.alloc (.cells #[.slice (some ⟨VV, 0, none⟩) 128 cc] 34)) := HF2.out.alloc _
      have hs3 := HSec.out.keep (T := noB) ((Fr.refl noB w2).alloc (.cells #[.slice (some ⟨VV, 0, none⟩) 128 cc] 34)) (fun _ _ e => e)
      have hx3 := HS.out _ (f3.wide (fun _ _ e => e.elim))
      refine hK _ _ (.inr hx3) ?_
      clear hK K
      generalize hg3 : w2.heap.size = g3 at *
      generalize (w2.alloc (.cells #[.slice (some ⟨VV, 0, none⟩) 128 cc] 34)) = w3 at *
      refine last_one (i := 15) (by kernel_rfl) rfl rfl ?_
      intro K hK
      have hr3 := ownsRow_keep HR.out.row f3 (fun _ _ e => e)
      refine wp_append_sec (.tmp 26) (.tmp 36) rfl lv _ ls rfl hr3 g3 rfl (.slice (some ⟨VV, 0, none⟩) 128 cc) hn3 rfl HLen.out ?_
      intro L' cap' w4 hrow hgr hL'
      have f4 : Fr (fun k => lv.ownBlock = some k) w3 w4 := Fr.of_grown hgr (fun k hk => hk)
      have hx4 := HS.out _ ((f3.wide (fun _ _ e => e.elim)).trans f4 (fun _ _ e => e))
      refine wp_of_dst (some 37) rfl _ ?_
      refine hK _ _ (.inr hx4) ?_
      clear hK K
      simp only [Act.put, List.setIfInBounds_toArray, List.set_cons_succ, List.set_cons_zero]
      have hb4 := (HBox.out.keep f3 (fun e => e)).keep f4 (fun e => (HR.out.apart HBox.out) _ e rfl)
      have hz4 : w4.frozen? ⟨x, 0, none⟩ = false := hb4.free 0
      have hc4 : w4.cell? ⟨x, 0, none⟩ = some lv := hb4.cell 0
      have hst := HR.out.step HBox.out f3 _ VV cc HVV.out (by have := HVVl.out; have := hn3.lt; omega) hs3 f4 hrow (hL'.imp id (fun e => by omega)) HX0.out HB.out.size
      have HSt := Lib.hid hst.1
      have HBx := Lib.hid (hb4.set 0 (.slice (some ⟨L', 0, none⟩) (((d.lasts.take k).length) + 1) cap'))
      have HBel := Lib.hid (HB.out.trans hst.2)
      have HF4 := Lib.hid ((f3.wide (fun _ _ e => e.elim)).trans f4 (fun _ _ e => e))
      clear hst hrow hgr f4 hb4 hs3 hn3 hr3 hx3 f3 hL'
      refine last_one (i := 16) (by kernel_rfl) rfl rfl ?_
      intro K hK
      go_simp
      refine hK _ _ (.inr hx4) ?_
      clear hK K
      refine last_one (i := 17) (by kernel_rfl) rfl rfl ?_
      intro K hK
      go_simp
      refine hK _ _ (.inr hx4) ?_
      clear hK K
      refine last_one (i := 18) (by kernel_rfl) rfl rfl ?_
      intro K hK
      go_simp
      refine hK _ _ (.inl rfl) ?_
      clear hK K
      refine LastH.done (by kernel_rfl) ?_ 0
      have hlk : (d.lasts.take k).length = k := by rw [List.length_take]; omega
      rw [hlk] at HSt HBx HBel
      rw [← HTake.out] at HSt
      go_wp2_with fail
      exact ⟨⟨k + 1, by omega, rfl, _, _, _, HBx.out, HSt.out, HBel.out⟩, by simp only [intOf]; omega⟩
    · have hk2 : ¬ (k : Int) < d.lasts.length := by omega
      have hkn : k = d.lasts.length := by omega
      have htk : d.lasts.take k = d.lasts := List.take_of_length_le (by omega)
      rw [htk] at HR
      clear hb hbu hbe hbx hr htk
      go_wp2_with fail
      go_ret2
      refine ⟨x, rfl, _, I', HR.out.done HBox.out hsome hmost H.out.ok.full, hw0 ▸ HB.out, fun k hk => ?_, fun k hk => ?_⟩
      · rcases hk with hk | hk
        · omega
        · have := HR.out.new k hk; omega
      · have := (HR.out.newI k hk).1; omega
end Go.Proofs.Ytpgpalnnmoanpaa

/-
  The statement's do, kind 4 (written by wip/gen/gendo.py).
-/
import Derived.Test.YtpgpalnnmoanpaaDDo
namespace Go.Proofs.Ytpgpalnnmoanpaa
open Go.RowKit Go.Maps

set_option maxRecDepth 100000 in
set_option maxHeartbeats 1600000 in
theorem do_4 (w : World) (B b x : Nat) (d : Dk.St) (S R X I : Nat → Prop) (h : Two B w b x d d S R X I) (hs : Small d) (at_ torn cut : Int) (hat : at_ ≤ 9223372036854775807) (A : Option Addr) (l : List UInt8) (c : Nat) (whole : Bool) (Ak : Option Addr) (keep : List Bool) (ck : Nat)
    (hr : Rd w B A l) (hA : A = none → c = 0) (hlc : l.length ≤ c) (hk : KeepAt w (fun k => k < B) (.slice Ak keep.length ck) keep) (hck : keep.length ≤ ck) :
    Calls Try.prog 11 #[.agg #[.int .i64 4, .int .i64 at_, .slice A l.length c, .bool whole, .slice Ak keep.length ck, .int .i64 torn, .int .i64 cut], .pointer (some ⟨b, 0, none⟩), .pointer (some ⟨x, 0, none⟩)] w (DoneBy B w d) := by
  have H := Lib.hid h
  have HF := Lib.hid hs.few
  have HSm := Lib.hid hs
  have HK := Lib.hid hk
  have HR := Lib.hid hr
  have HA := Lib.hid hA
  have HLC := Lib.hid hlc
  have HAT := Lib.hid hat
  have hcI : (keep.length : Int) ≤ ck := by omega
  clear h hs hk hck hr hA hlc hat
  obtain ⟨k1, hk1⟩ : ∃ k1, k1 = keep.take 100 := ⟨_, rfl⟩
  have HK1 := Lib.hid (HK.out.take 100)
  rw [← hk1] at HK1
  rcases Nat.lt_or_ge 100 keep.length with h100 | h100
  · have e100 : (100 : Int) < keep.length := by omega
    have e101 : ¬ (keep.length : Int) < 100 := by omega
    have hkt : k1.length = 100 := by rw [hk1]; exact List.length_take_of_le (by omega)
    have HKT := Lib.hid hkt
    have f1 : Fr noB w ((w.alloc (.cells #[.int .i64 4, .int .i64 at_, .slice A l.length c, .bool whole, .slice Ak keep.length ck, .int .i64 torn, .int .i64 cut] 37)).alloc (.cells #[] 4)) := ((Fr.refl noB w).alloc _).alloc _
    have hkk : KeepAt ((w.alloc (.cells #[.int .i64 4, .int .i64 at_, .slice A l.length c, .bool whole, .slice Ak keep.length ck, .int .i64 torn, .int .i64 cut] 37)).alloc (.cells #[] 4)) (fun k => k < B) (.slice Ak k1.length ck) k1 := HK1.out.keep f1 (fun _ _ e => e)
    rw [hkt] at hkk
    have HEQ := Lib.hid hk1
    have HKK := Lib.hid hkk
    have hE : Has ((w.alloc (.cells #[.int .i64 4, .int .i64 at_, .slice A l.length c, .bool whole, .slice Ak keep.length ck, .int .i64 torn, .int .i64 cut] 37)).alloc (.cells #[] 4)) (w.heap.size + 1) 4 #[] := by
      have := Has.of_alloc (w.alloc (.cells #[.int .i64 4, .int .i64 at_, .slice A l.length c, .bool whole, .slice Ak keep.length ck, .int .i64 torn, .int .i64 cut] 37)) 4 #[]
      simpa using this
    have hX : Has ((w.alloc (.cells #[.int .i64 4, .int .i64 at_, .slice A l.length c, .bool whole, .slice Ak keep.length ck, .int .i64 torn, .int .i64 cut] 37)).alloc (.cells #[] 4)) w.heap.size 37 #[.int .i64 4, .int .i64 at_, .slice A l.length c, .bool whole, .slice Ak keep.length ck, .int .i64 torn, .int .i64 cut] := (Has.of_alloc _ _ _).alloc _
    have HE := Lib.hid hE
    have HX := Lib.hid hX
    have F1 := Lib.hid f1
    have HSZ : Hid (((w.alloc (.cells #[.int .i64 4, .int .i64 at_, .slice A l.length c, .bool whole, .slice Ak keep.length ck, .int .i64 torn, .int .i64 cut] 37)).alloc (.cells #[] 4)).heap.size = w.heap.size + 2) := Lib.hid (by simp)
    clear hE hX f1 hkk hkt hk1
    go_enter Try.func11, Try.ntmps11
    go_wp2_with (first
      | (at_builtin; refine wpList_append_bools' rfl (.tmp 29) (.tmp 36) rfl (w.heap.size + 1) rfl HE.out _ _ k1 rfl HKK.out ?_; intro V cap w2 O2 F2 V2; have b2 : Hid (Has w2 w.heap.size 37 #[.int .i64 4, .int .i64 at_, .slice A l.length c, .bool whole, .slice Ak keep.length ck, .int .i64 torn, .int .i64 cut]) := Lib.hid (HX.out.keep F2.out (fun e => by have e : w.heap.size = w.heap.size + 1 := e; omega)); have x0 : w2.cell? ⟨w.heap.size, 0, none⟩ = some (.int .i64 4) := b2.out.cell 0; have x1 : w2.cell? ⟨w.heap.size, 1, none⟩ = some (.int .i64 at_) := b2.out.cell 1; have x4 : w2.cell? ⟨w.heap.size, 4, none⟩ = some (.slice Ak keep.length ck) := b2.out.cell 4; have x5 : w2.cell? ⟨w.heap.size, 5, none⟩ = some (.int .i64 torn) := b2.out.cell 5; have x6 : w2.cell? ⟨w.heap.size, 6, none⟩ = some (.int .i64 cut) := b2.out.cell 6; have B2 : Hid (Below w.heap.size w w2) := Lib.hid ((F1.out.below (Nat.le_refl _) (fun _ e => e.elim)).trans (F2.out.below (by have := HSZ.out; omega) (fun k e => by have e : k = w.heap.size + 1 := e; omega))); have T2 : Hid (Two B w2 b x d d S R X I) := Lib.hid (H.out.next B2.out); have hVn : Hid (w.heap.size + 1 ≤ V) := Lib.hid (by rcases V2.out with q | q; omega; have := HSZ.out; omega); clear HE HX F1 HSZ F2 V2 HKK e100 h100 hcI e101)
      | fail)
    have hP : Has (w2.alloc (.cells #[.slice (some ⟨V, 0, none⟩) k1.length cap, .int .i64 torn, .int .i64 cut] 46)) w2.heap.size 46 #[.slice (some ⟨V, 0, none⟩) k1.length cap, .int .i64 torn, .int .i64 cut] := Has.of_alloc _ _ _
    have b3 : Below w2.heap.size w2 (w2.alloc (.cells #[.slice (some ⟨V, 0, none⟩) k1.length cap, .int .i64 torn, .int .i64 cut] 46)) := (Below.refl _ _).alloc (Nat.le_refl _) _
    have BX3 := Lib.hid (b2.out.keep (Fr.of_below b3 noB) (fun e => e))
    have HP := Lib.hid hP
    have T3 := Lib.hid (T2.out.next b3)
    have BB3 : Hid (Below B w (w2.alloc (.cells #[.slice (some ⟨V, 0, none⟩) k1.length cap, .int .i64 torn, .int .i64 cut] 46))) := Lib.hid ((B2.out.mono H.out.size).trans (b3.mono T2.out.size))
    have O3 := Lib.hid (O2.out.keep (Fr.of_below b3 noB) (fun e => e))
    have FPB := Lib.hid (T2.out.far w2.heap.size (.inl (Nat.le_refl _)))
    have FV := Lib.hid (H.out.far V (.inl (by have := hVn.out; omega)))
    have FBX := Lib.hid (H.out.far w.heap.size (.inl (Nat.le_refl _)))
    have hVl : Hid (V < w2.heap.size) := Lib.hid O2.out.lt
    have hbl : Hid (w.heap.size < w2.heap.size) := Lib.hid b2.out.lt
    have hwB : Hid (B ≤ w2.heap.size) := Lib.hid T2.out.size
    have KL : Hid (k1.length ≤ 140737488355328) := Lib.hid (by have := HK1.out; obtain ⟨_, _, _, q, _⟩ := this; exact q)
    clear hP b3 x0 x1 x4 x5 x6
    generalize (w2.alloc (.cells #[.slice (some ⟨V, 0, none⟩) k1.length cap, .int .i64 torn, .int .i64 cut] 46)) = w3 at *
    generalize hPB : w2.heap.size = PB at *
    have HSb : Hid (∀ (T : Nat → Prop) (w' : World), Fr T w3 w' → ¬ T w.heap.size → ¬ T PB → w'.cell? ⟨w.heap.size, 1, none⟩ = some (.int .i64 at_) ∧ w'.cell? ⟨w.heap.size, 5, none⟩ = some (.int .i64 torn) ∧ w'.cell? ⟨w.heap.size, 6, none⟩ = some (.int .i64 cut) ∧ w'.cell? ⟨PB, 0, none⟩ = some (.slice (some ⟨V, 0, none⟩) k1.length cap) ∧ w'.cell? ⟨PB, 1, none⟩ = some (.int .i64 torn) ∧ w'.cell? ⟨PB, 2, none⟩ = some (.int .i64 cut)) :=
      Lib.hid (fun T w' f h1 h2 => ⟨(BX3.out.keep f h1).cell 1, (BX3.out.keep f h1).cell 5, (BX3.out.keep f h1).cell 6, (HP.out.keep f h2).cell 0, (HP.out.keep f h2).cell 1, (HP.out.keep f h2).cell 2⟩)
    have HS4 := Lib.hid (HSb.out noB w3.drew ((Fr.refl noB w3).drew) (fun e => e) (fun e => e))
    have F34 : Hid (Fr noB w3 w3.drew) := Lib.hid ((Fr.refl noB w3).drew)
    have b4 : Below w3.heap.size w3 w3.drew := (Below.refl _ _).drew
    have T4 := Lib.hid (T3.out.next b4)
    have BB4 := Lib.hid (BB3.out.trans (b4.mono T3.out.size))
    have O4 := Lib.hid (O3.out.keep F34.out (fun e => e))
    have hPl : Hid (PB < w3.drew.heap.size) := Lib.hid HP.out.lt
    clear b4
    refine wp_region_held (S := fun w' => w'.cell? ⟨w.heap.size, 1, none⟩ = some (.int .i64 at_) ∧ w'.cell? ⟨w.heap.size, 5, none⟩ = some (.int .i64 torn) ∧ w'.cell? ⟨w.heap.size, 6, none⟩ = some (.int .i64 cut) ∧ w'.cell? ⟨PB, 0, none⟩ = some (.slice (some ⟨V, 0, none⟩) k1.length cap) ∧ w'.cell? ⟨PB, 1, none⟩ = some (.int .i64 torn) ∧ w'.cell? ⟨PB, 2, none⟩ = some (.int .i64 cut)) (by kernel_rfl) ?_
    change wpAnyH _ _ _ _ _ _ _ _ (World.drew _)
    generalize w3.drew = w4 at *
    refine held_yield (i := 0) 162 (.pointer (some ⟨b, 0, none⟩)) rfl rfl (by kernel_rfl) (by kernel_rfl) (by kernel_rfl) (fun _ _ _ h => h) rfl ?_ (HS4.out) ?_
    · intro w' hw'; obtain ⟨s0, s1, s2, s3, s4, s5⟩ := hw'; go_simp
    simp only [Act.put, List.setIfInBounds_toArray, List.set_cons_succ, List.set_cons_zero]
    refine held_yield (i := 1) 163 (.pointer (some ⟨w.heap.size, 1, none⟩)) rfl rfl (by kernel_rfl) (by kernel_rfl) (by kernel_rfl) (fun _ _ _ h => h) rfl ?_ (HS4.out) ?_
    · intro w' hw'; obtain ⟨s0, s1, s2, s3, s4, s5⟩ := hw'; go_simp
    simp only [Act.put, List.setIfInBounds_toArray, List.set_cons_succ, List.set_cons_zero]
    refine held_yield (i := 2) 164 (.int .i64 at_) rfl rfl (by kernel_rfl) (by kernel_rfl) (by kernel_rfl) (fun _ _ _ h => h) rfl ?_ (HS4.out) ?_
    · intro w' hw'; obtain ⟨s0, s1, s2, s3, s4, s5⟩ := hw'; go_simp
    simp only [Act.put, List.setIfInBounds_toArray, List.set_cons_succ, List.set_cons_zero]
    refine held_yield (i := 3) 165 (.agg #[.slice (some ⟨V, 0, none⟩) k1.length cap, .int .i64 torn, .int .i64 cut]) rfl rfl (by kernel_rfl) (by kernel_rfl) (by kernel_rfl) (fun _ _ _ h => h) rfl ?_ (HS4.out) ?_
    · intro w' hw'; obtain ⟨s0, s1, s2, s3, s4, s5⟩ := hw'; go_simp
    simp only [Act.put, List.setIfInBounds_toArray, List.set_cons_succ, List.set_cons_zero]
    refine held_yield (i := 5) 167 (.pointer (some ⟨x, 0, none⟩)) rfl rfl (by kernel_rfl) (by kernel_rfl) (by kernel_rfl) (fun _ _ _ h => h) rfl ?_ (HS4.out) ?_
    · intro w' hw'; obtain ⟨s0, s1, s2, s3, s4, s5⟩ := hw'; go_simp
    simp only [Act.put, List.setIfInBounds_toArray, List.set_cons_succ, List.set_cons_zero]
    refine held_yield (i := 6) 168 (.pointer (some ⟨w.heap.size, 1, none⟩)) rfl rfl (by kernel_rfl) (by kernel_rfl) (by kernel_rfl) (fun _ _ _ h => h) rfl ?_ (HS4.out) ?_
    · intro w' hw'; obtain ⟨s0, s1, s2, s3, s4, s5⟩ := hw'; go_simp
    simp only [Act.put, List.setIfInBounds_toArray, List.set_cons_succ, List.set_cons_zero]
    refine held_yield (i := 7) 169 (.int .i64 at_) rfl rfl (by kernel_rfl) (by kernel_rfl) (by kernel_rfl) (fun _ _ _ h => h) rfl ?_ (HS4.out) ?_
    · intro w' hw'; obtain ⟨s0, s1, s2, s3, s4, s5⟩ := hw'; go_simp
    simp only [Act.put, List.setIfInBounds_toArray, List.set_cons_succ, List.set_cons_zero]
    refine held_yield (i := 9) 171 (.slice (some ⟨V, 0, none⟩) k1.length cap) rfl rfl (by kernel_rfl) (by kernel_rfl) (by kernel_rfl) (fun _ _ _ h => h) rfl ?_ (HS4.out) ?_
    · intro w' hw'; obtain ⟨s0, s1, s2, s3, s4, s5⟩ := hw'; go_simp
    simp only [Act.put, List.setIfInBounds_toArray, List.set_cons_succ, List.set_cons_zero]
    refine held_yield (i := 11) 173 (.pointer (some ⟨w.heap.size, 5, none⟩)) rfl rfl (by kernel_rfl) (by kernel_rfl) (by kernel_rfl) (fun _ _ _ h => h) rfl ?_ (HS4.out) ?_
    · intro w' hw'; obtain ⟨s0, s1, s2, s3, s4, s5⟩ := hw'; go_simp
    simp only [Act.put, List.setIfInBounds_toArray, List.set_cons_succ, List.set_cons_zero]
    refine held_yield (i := 12) 174 (.int .i64 torn) rfl rfl (by kernel_rfl) (by kernel_rfl) (by kernel_rfl) (fun _ _ _ h => h) rfl ?_ (HS4.out) ?_
    · intro w' hw'; obtain ⟨s0, s1, s2, s3, s4, s5⟩ := hw'; go_simp
    simp only [Act.put, List.setIfInBounds_toArray, List.set_cons_succ, List.set_cons_zero]
    refine held_yield (i := 13) 175 (.pointer (some ⟨w.heap.size, 6, none⟩)) rfl rfl (by kernel_rfl) (by kernel_rfl) (by kernel_rfl) (fun _ _ _ h => h) rfl ?_ (HS4.out) ?_
    · intro w' hw'; obtain ⟨s0, s1, s2, s3, s4, s5⟩ := hw'; go_simp
    simp only [Act.put, List.setIfInBounds_toArray, List.set_cons_succ, List.set_cons_zero]
    refine held_yield (i := 14) 176 (.int .i64 cut) rfl rfl (by kernel_rfl) (by kernel_rfl) (by kernel_rfl) (fun _ _ _ h => h) rfl ?_ (HS4.out) ?_
    · intro w' hw'; obtain ⟨s0, s1, s2, s3, s4, s5⟩ := hw'; go_simp
    simp only [Act.put, List.setIfInBounds_toArray, List.set_cons_succ, List.set_cons_zero]
    have SZ4 : Hid (PB < w4.heap.size) := hPl
    refine held_two (i := 4) (j := 8) (by kernel_rfl) rfl rfl rfl rfl ?_ ?_
    · intro K hK
      go_simp
      have hfu := fuse_full w4 S R (oneB V) b d T4.out.disk at_ HAT.out (.slice (some ⟨V, 0, none⟩) k1.length cap) ⟨k1, torn, cut⟩ (O4.out.keepAt KL.out)
      unfold planV at hfu
      refine hfu.mono ?_
      clear hfu
      rintro e w5 ⟨rfl, R5, d5, f5, r5⟩
      have hbS := disk_own T4.out.disk
      have hVb : V ≠ b := fun e => FV.out.1 (by rw [e]; exact hbS)
      have T5 := Lib.hid (T4.out.fused d5 f5 r5)
      have O5 := Lib.hid (O4.out.keep f5 (fun e => hVb e))
      have BB5 := Lib.hid (BB4.out.trans (f5.below T4.out.size (fun k e => by have e : k = b := e; rw [e]; exact T4.out.news b (.inl hbS))))
      have RV5 : Hid (¬ R5 V) := Lib.hid (fun q => by
        rcases r5 V q with q | q
        · exact FV.out.2.1 q
        · have := hVl.out; have := hPl.out; have q : w4.heap.size ≤ V := q; have := SZ4.out; omega)
      have hs5 := HSb.out (oneB b) w5 ((F34.out.wide (fun _ _ e => e.elim)).trans f5 (fun _ _ e => e)) (fun e => FBX.out.1 (by have e : w.heap.size = b := e; rw [e]; exact hbS)) (fun e => FPB.out.1 (by have e : PB = b := e; rw [e]; exact hbS))
      have F35 : Hid (Fr (oneB b) w3 w5) := Lib.hid ((F34.out.wide (fun _ _ e => e.elim)).trans f5 (fun _ _ e => e))
      have hbl5 : b < w5.heap.size := T5.out.disk.lt b (disk_own T5.out.disk)
      have SZ5 : Hid (PB < w5.heap.size) := Lib.hid (by have := f5.size; have := SZ4.out; omega)
      have HbS := Lib.hid hbS
      refine hK _ _ hs5 ?_
      clear hK K hs5 d5 f5 r5 hVb
      refine held_one (i := 8) (by kernel_rfl) rfl rfl ?_
      intro K hK
      go_simp
      have b6 : Below w5.heap.size w5 (w5.alloc (.cells #[] 4)) := (Below.refl _ _).alloc (Nat.le_refl _) _
      have HE6 : Hid (Has (w5.alloc (.cells #[] 4)) w5.heap.size 4 #[]) := Lib.hid (Has.of_alloc _ _ _)
      have T6 := Lib.hid (T5.out.next b6)
      have O6 := Lib.hid (O5.out.keep (Fr.of_below b6 noB) (fun e => e))
      have BB6 := Lib.hid (BB5.out.trans (b6.mono T5.out.size))
      have F36 : Hid (Fr (oneB b) w3 (w5.alloc (.cells #[] 4))) := Lib.hid (F35.out.trans (Fr.of_below b6 _) (fun _ _ e => e))
      have hs6 := HSb.out (oneB b) (w5.alloc (.cells #[] 4)) F36.out (fun e => FBX.out.1 (by have e : w.heap.size = b := e; rw [e]; exact HbS.out)) (fun e => FPB.out.1 (by have e : PB = b := e; rw [e]; exact HbS.out))
      have FE := Lib.hid (T5.out.far w5.heap.size (.inl (Nat.le_refl _)))
      have hEB : Hid (B ≤ w5.heap.size) := Lib.hid T5.out.size
      have hEV : Hid (w5.heap.size ≠ V) := Lib.hid (by have := hVl.out; have := SZ5.out; omega)
      have hTb : Hid (¬ (w.heap.size = b ∨ w.heap.size = w5.heap.size)) := Lib.hid (fun e => e.elim (fun e => FBX.out.1 (by rw [e]; exact HbS.out)) (fun e => by have := hbl.out; have := SZ5.out; omega))
      have hTp : Hid (¬ (PB = b ∨ PB = w5.heap.size)) := Lib.hid (fun e => e.elim (fun e => FPB.out.1 (by rw [e]; exact HbS.out)) (fun e => by have := SZ5.out; omega))
      refine hK _ _ hs6 ?_
      clear hK K b6 hs6 hbl5 hbS
      generalize hEE : w5.heap.size = E at *
      generalize (w5.alloc (.cells #[] 4)) = w6 at *
      refine held_one (i := 10) (by kernel_rfl) rfl rfl ?_
      intro K hK
      refine wp_append_bools (.tmp 170) (.tmp 171) rfl E rfl HE6.out (oneB V) (.slice (some ⟨V, 0, none⟩) k1.length cap) k1 rfl (O6.out.keepAt KL.out) ?_
      intro V7 cap7 w7 o7 f7 hV7
      have T7 := Lib.hid (T6.out.frame f7 (fun k hk => by have hk : k = E := hk; rw [hk]; exact FE.out))
      have OV7 := Lib.hid (O6.out.keep f7 (fun e => hEV.out e.symm))
      have O7 := Lib.hid o7
      have F7 : Hid (Fr (fun k => k = b ∨ k = E) w3 w7) := Lib.hid ((F36.out.wide (fun _ _ e => .inl e)).trans (f7.wide (T := fun k => k = b ∨ k = E) (fun _ _ e => .inr e)) (fun _ _ e => e))
      have hs7 := HSb.out _ w7 F7.out hTb.out hTp.out
      have BB7 := Lib.hid (BB6.out.trans (f7.below T6.out.size (fun k e => by have e : k = E := e; rw [e]; exact hEB.out)))
      have FX7 : Hid (∀ k, oneB V7 k → ¬ X k) := Lib.hid (fun k e q => by
        have e : k = V7 := e
        rw [e] at q
        rcases hV7 with e2 | e2
        · rw [e2] at q; exact FE.out.2.2.1 q
        · exact (T6.out.far V7 (.inl (by omega))).2.2.1 q)
      refine wp_of_dst (some 172) rfl _ ?_
      refine hK _ _ hs7 ?_
      clear hK K o7 f7 hV7
      have HS7 := Lib.hid hs7
      clear hs7
      simp only [Act.put, List.setIfInBounds_toArray, List.set_cons_succ, List.set_cons_zero]
      refine held_yield (i := 15) 177 (.agg #[.slice (some ⟨V7, 0, none⟩) k1.length cap7, .int .i64 torn, .int .i64 cut]) rfl rfl (by kernel_rfl) (by kernel_rfl) (by kernel_rfl) (fun _ _ _ h => h) rfl ?_ (HS7.out) ?_
      · intro w' hw'; skip; go_simp
      simp only [Act.put, List.setIfInBounds_toArray, List.set_cons_succ, List.set_cons_zero]
      refine held_one (i := 16) (by kernel_rfl) rfl rfl ?_
      intro K hK
      go_simp
      have hfu := rfuse_full w7 X I (oneB V7) x d T7.out.ref at_ (.slice (some ⟨V7, 0, none⟩) k1.length cap7) ⟨k1, torn, cut⟩ (O7.out.keepAt KL.out) FX7.out
      unfold planV at hfu
      refine hfu.mono ?_
      clear hfu
      rintro e w8 ⟨rfl, g8⟩
      obtain ⟨X8, I8, t8, f8, rx8, ri8⟩ := T7.out.goesX2 g8
      have T8 := Lib.hid t8
      have hV8 : V < w7.heap.size := OV7.out.lt
      have FV8 : Hid (¬ S V ∧ ¬ R5 V ∧ ¬ X8 V ∧ ¬ I8 V) := Lib.hid ⟨FV.out.1, RV5.out, fun q => by
        rcases rx8 V q with q | q
        · exact FV.out.2.2.1 q
        · omega, fun q => by
        rcases ri8 V q with q | q
        · exact FV.out.2.2.2 q
        · omega⟩
      have O8 := Lib.hid (OV7.out.keep f8 FV.out.2.2.1)
      have BB8 := Lib.hid (BB7.out.trans (T7.out.belowX f8))
      have hs8 := HSb.out (fun k => (k = b ∨ k = E) ∨ X k) w8 ((F7.out.wide (fun _ _ e => .inl e)).trans f8 (fun _ _ e => .inr e)) (fun e => e.elim hTb.out FBX.out.2.2.1) (fun e => e.elim hTp.out FPB.out.2.2.1)
      have HS8 := Lib.hid hs8
      refine hK _ _ hs8 ?_
      clear hK K g8 t8 f8 rx8 ri8 hs8 hV8
      generalize d.uErr at_ ⟨k1, torn, cut⟩ = er at *
      refine held_yield (i := 17) 179 (.bool true) rfl rfl (by kernel_rfl) (by kernel_rfl) (by kernel_rfl) (fun _ _ _ h => h) rfl ?_ (HS8.out) ?_
      · intro w' hw'; skip; go_simp
      simp only [Act.put, List.setIfInBounds_toArray, List.set_cons_succ, List.set_cons_zero]
      refine held_yield (i := 18) 21 (.bool true) rfl rfl (by kernel_rfl) (by kernel_rfl) (by kernel_rfl) (fun _ _ _ h => h) rfl ?_ (HS8.out) ?_
      · intro w' hw'; skip; go_simp
      simp only [Act.put, List.setIfInBounds_toArray, List.set_cons_succ, List.set_cons_zero]
      refine wpAnyH_done (by kernel_rfl) ?_ 0
      have hkI : (k1.length : Int) ≤ 140737488355328 := by have := KL.out; omega
      have hVB : Hid (B ≤ V) := Lib.hid (by have := hVn.out; have := H.out.size; omega)
      go_wp2_with fail
      go_loopw [22] (fun v wr => ∃ i : Nat, i ≤ k1.length ∧ v = .int .i64 i ∧ ∃ l : List Bool, Hid (l.length = k1.length) ∧ Hid (OwnB wr V l) ∧ Hid (Fr (oneB V) w8 wr)) (fun v _ => k1.length - (intOf v).toNat)
      case atStart => exact ⟨0, Nat.zero_le _, rfl, k1, Lib.hid rfl, O8, Lib.hid (Fr.refl _ _)⟩
      case round =>
        rename World => wr
        obtain ⟨i, hi, rfl, l6, hl6, ho6, hf6⟩ := hrel
        by_cases hlt : i < k1.length
        · have hiI : (i : Int) < k1.length := by omega
          have hil : i < l6.length := by rw [hl6.out]; exact hlt
          have hcell : wr.cell? ⟨V, i, none⟩ = some (.bool l6[i]) := ho6.out.cell (List.getElem?_eq_getElem hil)
          have hfz : wr.frozen? ⟨V, i, none⟩ = false := ho6.out.free i
          have HO := Lib.hid (ho6.out.set i (!l6[i]))
          have HFn := Lib.hid (hf6.out.put (i := i) (.bool (!l6[i])))
          generalize l6[i] = cb at *
          clear hil
          go_wp2_with fail
          exact ⟨⟨i + 1, by omega, rfl, _, Lib.hid (by rw [List.length_set]; exact hl6.out), HO, HFn⟩, by simp only [intOf]; omega⟩
        · have hiN : ¬ (i : Int) < k1.length := by omega
          go_wp2_with fail
          go_ret3
          have t9 := T8.out.frame hf6.out (fun k hk => by have hk : k = V := hk; rw [hk]; exact FV8.out)
          exact ⟨b, x, d.uTo at_ ⟨k1, torn, cut⟩, S, R5, X8, I8, rfl, t9, BB8.out.trans (hf6.out.below T8.out.size (fun k hk => by have hk : k = V := hk; rw [hk]; exact hVB.out)), grows_u d at_ HAT.out _⟩
    · intro K hK
      go_simp
      have b5 : Below w4.heap.size w4 (w4.alloc (.cells #[] 4)) := (Below.refl _ _).alloc (Nat.le_refl _) _
      have HE5 : Hid (Has (w4.alloc (.cells #[] 4)) w4.heap.size 4 #[]) := Lib.hid (Has.of_alloc _ _ _)
      have T5 := Lib.hid (T4.out.next b5)
      have O5 := Lib.hid (O4.out.keep (Fr.of_below b5 noB) (fun e => e))
      have BB5 := Lib.hid (BB4.out.trans (b5.mono T4.out.size))
      have F35 : Hid (Fr noB w3 (w4.alloc (.cells #[] 4))) := Lib.hid (F34.out.trans (Fr.of_below b5 _) (fun _ _ e => e))
      have hs5 := HSb.out noB (w4.alloc (.cells #[] 4)) F35.out (fun e => e) (fun e => e)
      have FE4 := Lib.hid (T4.out.far w4.heap.size (.inl (Nat.le_refl _)))
      have hEB : Hid (B ≤ w4.heap.size) := Lib.hid T4.out.size
      have hEV : Hid (w4.heap.size ≠ V) := Lib.hid (by have := hVl.out; have := SZ4.out; omega)
      have SZ5 : Hid (w4.heap.size < (w4.alloc (.cells #[] 4)).heap.size) := Lib.hid HE5.out.lt
      have hbE : Hid (b < w4.heap.size) := Lib.hid (T4.out.disk.lt b (disk_own T4.out.disk))
      refine hK _ _ hs5 ?_
      clear hK K b5 hs5
      generalize hEE : w4.heap.size = E at *
      generalize (w4.alloc (.cells #[] 4)) = w5 at *
      refine held_one (i := 4) (by kernel_rfl) rfl rfl ?_
      intro K hK
      go_simp
      have hfu := fuse_full w5 S R (oneB V) b d T5.out.disk at_ HAT.out (.slice (some ⟨V, 0, none⟩) k1.length cap) ⟨k1, torn, cut⟩ (O5.out.keepAt KL.out)
      unfold planV at hfu
      refine hfu.mono ?_
      clear hfu
      rintro e w6 ⟨rfl, R6, d6, f6, r6⟩
      have hbS := disk_own T5.out.disk
      have hVb : V ≠ b := fun e => FV.out.1 (by rw [e]; exact hbS)
      have T6 := Lib.hid (T5.out.fused d6 f6 r6)
      have O6 := Lib.hid (O5.out.keep f6 (fun e => hVb e))
      have BB6 := Lib.hid (BB5.out.trans (f6.below T5.out.size (fun k e => by have e : k = b := e; rw [e]; exact T5.out.news b (.inl hbS))))
      have RV6 : Hid (¬ R6 V) := Lib.hid (fun q => by
        rcases r6 V q with q | q
        · exact FV.out.2.1 q
        · have := hVl.out; have := hPl.out; have q : w5.heap.size ≤ V := q; have := SZ5.out; have := SZ4.out; omega)
      have F36 : Hid (Fr (oneB b) w3 w6) := Lib.hid ((F35.out.wide (fun _ _ e => e.elim)).trans f6 (fun _ _ e => e))
      have hs6 := HSb.out (oneB b) w6 F36.out (fun e => FBX.out.1 (by have e : w.heap.size = b := e; rw [e]; exact hbS)) (fun e => FPB.out.1 (by have e : PB = b := e; rw [e]; exact hbS))
      have HE6 := Lib.hid (HE5.out.keep f6 (fun e => by have e : E = b := e; have := hbE.out; omega))
      have FE : Hid (¬ S E ∧ ¬ R6 E ∧ ¬ X E ∧ ¬ I E) := Lib.hid ⟨FE4.out.1, fun q => by
        rcases r6 E q with q | q
        · exact FE4.out.2.1 q
        · have := SZ5.out; omega, FE4.out.2.2⟩
      have hTb : Hid (¬ (w.heap.size = b ∨ w.heap.size = E)) := Lib.hid (fun e => e.elim (fun e => FBX.out.1 (by rw [e]; exact hbS)) (fun e => by have := hbl.out; have := SZ4.out; omega))
      have hTp : Hid (¬ (PB = b ∨ PB = E)) := Lib.hid (fun e => e.elim (fun e => FPB.out.1 (by rw [e]; exact hbS)) (fun e => by have := SZ4.out; omega))
      refine hK _ _ hs6 ?_
      clear hK K hs6 d6 f6 r6 hVb hbS
      refine held_one (i := 10) (by kernel_rfl) rfl rfl ?_
      intro K hK
      refine wp_append_bools (.tmp 170) (.tmp 171) rfl E rfl HE6.out (oneB V) (.slice (some ⟨V, 0, none⟩) k1.length cap) k1 rfl (O6.out.keepAt KL.out) ?_
      intro V7 cap7 w7 o7 f7 hV7
      have T7 := Lib.hid (T6.out.frame f7 (fun k hk => by have hk : k = E := hk; rw [hk]; exact FE.out))
      have OV7 := Lib.hid (O6.out.keep f7 (fun e => hEV.out e.symm))
      have O7 := Lib.hid o7
      have F7 : Hid (Fr (fun k => k = b ∨ k = E) w3 w7) := Lib.hid ((F36.out.wide (fun _ _ e => .inl e)).trans (f7.wide (T := fun k => k = b ∨ k = E) (fun _ _ e => .inr e)) (fun _ _ e => e))
      have hs7 := HSb.out _ w7 F7.out hTb.out hTp.out
      have BB7 := Lib.hid (BB6.out.trans (f7.below T6.out.size (fun k e => by have e : k = E := e; rw [e]; exact hEB.out)))
      have FX7 : Hid (∀ k, oneB V7 k → ¬ X k) := Lib.hid (fun k e q => by
        have e : k = V7 := e
        rw [e] at q
        rcases hV7 with e2 | e2
        · rw [e2] at q; exact FE.out.2.2.1 q
        · exact (T6.out.far V7 (.inl (by omega))).2.2.1 q)
      refine wp_of_dst (some 172) rfl _ ?_
      refine hK _ _ hs7 ?_
      clear hK K o7 f7 hV7
      have HS7 := Lib.hid hs7
      clear hs7
      simp only [Act.put, List.setIfInBounds_toArray, List.set_cons_succ, List.set_cons_zero]
      refine held_yield (i := 15) 177 (.agg #[.slice (some ⟨V7, 0, none⟩) k1.length cap7, .int .i64 torn, .int .i64 cut]) rfl rfl (by kernel_rfl) (by kernel_rfl) (by kernel_rfl) (fun _ _ _ h => h) rfl ?_ (HS7.out) ?_
      · intro w' hw'; skip; go_simp
      simp only [Act.put, List.setIfInBounds_toArray, List.set_cons_succ, List.set_cons_zero]
      refine held_one (i := 16) (by kernel_rfl) rfl rfl ?_
      intro K hK
      go_simp
      have hfu := rfuse_full w7 X I (oneB V7) x d T7.out.ref at_ (.slice (some ⟨V7, 0, none⟩) k1.length cap7) ⟨k1, torn, cut⟩ (O7.out.keepAt KL.out) FX7.out
      unfold planV at hfu
      refine hfu.mono ?_
      clear hfu
      rintro e w8 ⟨rfl, g8⟩
      obtain ⟨X8, I8, t8, f8, rx8, ri8⟩ := T7.out.goesX2 g8
      have T8 := Lib.hid t8
      have hV8 : V < w7.heap.size := OV7.out.lt
      have FV8 : Hid (¬ S V ∧ ¬ R6 V ∧ ¬ X8 V ∧ ¬ I8 V) := Lib.hid ⟨FV.out.1, RV6.out, fun q => by
        rcases rx8 V q with q | q
        · exact FV.out.2.2.1 q
        · omega, fun q => by
        rcases ri8 V q with q | q
        · exact FV.out.2.2.2 q
        · omega⟩
      have O8 := Lib.hid (OV7.out.keep f8 FV.out.2.2.1)
      have BB8 := Lib.hid (BB7.out.trans (T7.out.belowX f8))
      have hs8 := HSb.out (fun k => (k = b ∨ k = E) ∨ X k) w8 ((F7.out.wide (fun _ _ e => .inl e)).trans f8 (fun _ _ e => .inr e)) (fun e => e.elim hTb.out FBX.out.2.2.1) (fun e => e.elim hTp.out FPB.out.2.2.1)
      have HS8 := Lib.hid hs8
      refine hK _ _ hs8 ?_
      clear hK K g8 t8 f8 rx8 ri8 hs8 hV8
      generalize d.uErr at_ ⟨k1, torn, cut⟩ = er at *
      refine held_yield (i := 17) 179 (.bool true) rfl rfl (by kernel_rfl) (by kernel_rfl) (by kernel_rfl) (fun _ _ _ h => h) rfl ?_ (HS8.out) ?_
      · intro w' hw'; skip; go_simp
      simp only [Act.put, List.setIfInBounds_toArray, List.set_cons_succ, List.set_cons_zero]
      refine held_yield (i := 18) 21 (.bool true) rfl rfl (by kernel_rfl) (by kernel_rfl) (by kernel_rfl) (fun _ _ _ h => h) rfl ?_ (HS8.out) ?_
      · intro w' hw'; skip; go_simp
      simp only [Act.put, List.setIfInBounds_toArray, List.set_cons_succ, List.set_cons_zero]
      refine wpAnyH_done (by kernel_rfl) ?_ 0
      have hkI : (k1.length : Int) ≤ 140737488355328 := by have := KL.out; omega
      have hVB : Hid (B ≤ V) := Lib.hid (by have := hVn.out; have := H.out.size; omega)
      go_wp2_with fail
      go_loopw [22] (fun v wr => ∃ i : Nat, i ≤ k1.length ∧ v = .int .i64 i ∧ ∃ l : List Bool, Hid (l.length = k1.length) ∧ Hid (OwnB wr V l) ∧ Hid (Fr (oneB V) w8 wr)) (fun v _ => k1.length - (intOf v).toNat)
      case atStart => exact ⟨0, Nat.zero_le _, rfl, k1, Lib.hid rfl, O8, Lib.hid (Fr.refl _ _)⟩
      case round =>
        rename World => wr
        obtain ⟨i, hi, rfl, l6, hl6, ho6, hf6⟩ := hrel
        by_cases hlt : i < k1.length
        · have hiI : (i : Int) < k1.length := by omega
          have hil : i < l6.length := by rw [hl6.out]; exact hlt
          have hcell : wr.cell? ⟨V, i, none⟩ = some (.bool l6[i]) := ho6.out.cell (List.getElem?_eq_getElem hil)
          have hfz : wr.frozen? ⟨V, i, none⟩ = false := ho6.out.free i
          have HO := Lib.hid (ho6.out.set i (!l6[i]))
          have HFn := Lib.hid (hf6.out.put (i := i) (.bool (!l6[i])))
          generalize l6[i] = cb at *
          clear hil
          go_wp2_with fail
          exact ⟨⟨i + 1, by omega, rfl, _, Lib.hid (by rw [List.length_set]; exact hl6.out), HO, HFn⟩, by simp only [intOf]; omega⟩
        · have hiN : ¬ (i : Int) < k1.length := by omega
          go_wp2_with fail
          go_ret3
          have t9 := T8.out.frame hf6.out (fun k hk => by have hk : k = V := hk; rw [hk]; exact FV8.out)
          exact ⟨b, x, d.uTo at_ ⟨k1, torn, cut⟩, S, R6, X8, I8, rfl, t9, BB8.out.trans (hf6.out.below T8.out.size (fun k hk => by have hk : k = V := hk; rw [hk]; exact hVB.out)), grows_u d at_ HAT.out _⟩
  · have e100 : ¬ (100 : Int) < keep.length := by omega
    have hkt : k1.length = keep.length := by rw [hk1, List.length_take]; omega
    have HKT := Lib.hid hkt
    have f1 : Fr noB w ((w.alloc (.cells #[.int .i64 4, .int .i64 at_, .slice A l.length c, .bool whole, .slice Ak keep.length ck, .int .i64 torn, .int .i64 cut] 37)).alloc (.cells #[] 4)) := ((Fr.refl noB w).alloc _).alloc _
    have hkk : KeepAt ((w.alloc (.cells #[.int .i64 4, .int .i64 at_, .slice A l.length c, .bool whole, .slice Ak keep.length ck, .int .i64 torn, .int .i64 cut] 37)).alloc (.cells #[] 4)) (fun k => k < B) (.slice Ak k1.length ck) k1 := HK1.out.keep f1 (fun _ _ e => e)
    rw [hkt] at hkk
    have HEQ := Lib.hid hk1
    have HKK := Lib.hid hkk
    have hE : Has ((w.alloc (.cells #[.int .i64 4, .int .i64 at_, .slice A l.length c, .bool whole, .slice Ak keep.length ck, .int .i64 torn, .int .i64 cut] 37)).alloc (.cells #[] 4)) (w.heap.size + 1) 4 #[] := by
      have := Has.of_alloc (w.alloc (.cells #[.int .i64 4, .int .i64 at_, .slice A l.length c, .bool whole, .slice Ak keep.length ck, .int .i64 torn, .int .i64 cut] 37)) 4 #[]
      simpa using this
    have hX : Has ((w.alloc (.cells #[.int .i64 4, .int .i64 at_, .slice A l.length c, .bool whole, .slice Ak keep.length ck, .int .i64 torn, .int .i64 cut] 37)).alloc (.cells #[] 4)) w.heap.size 37 #[.int .i64 4, .int .i64 at_, .slice A l.length c, .bool whole, .slice Ak keep.length ck, .int .i64 torn, .int .i64 cut] := (Has.of_alloc _ _ _).alloc _
    have HE := Lib.hid hE
    have HX := Lib.hid hX
    have F1 := Lib.hid f1
    have HSZ : Hid (((w.alloc (.cells #[.int .i64 4, .int .i64 at_, .slice A l.length c, .bool whole, .slice Ak keep.length ck, .int .i64 torn, .int .i64 cut] 37)).alloc (.cells #[] 4)).heap.size = w.heap.size + 2) := Lib.hid (by simp)
    clear hE hX f1 hkk hkt hk1
    go_enter Try.func11, Try.ntmps11
    go_wp2_with (first
      | (at_builtin; refine wpList_append_bools' rfl (.tmp 29) (.tmp 36) rfl (w.heap.size + 1) rfl HE.out _ _ k1 rfl HKK.out ?_; intro V cap w2 O2 F2 V2; have b2 : Hid (Has w2 w.heap.size 37 #[.int .i64 4, .int .i64 at_, .slice A l.length c, .bool whole, .slice Ak keep.length ck, .int .i64 torn, .int .i64 cut]) := Lib.hid (HX.out.keep F2.out (fun e => by have e : w.heap.size = w.heap.size + 1 := e; omega)); have x0 : w2.cell? ⟨w.heap.size, 0, none⟩ = some (.int .i64 4) := b2.out.cell 0; have x1 : w2.cell? ⟨w.heap.size, 1, none⟩ = some (.int .i64 at_) := b2.out.cell 1; have x4 : w2.cell? ⟨w.heap.size, 4, none⟩ = some (.slice Ak keep.length ck) := b2.out.cell 4; have x5 : w2.cell? ⟨w.heap.size, 5, none⟩ = some (.int .i64 torn) := b2.out.cell 5; have x6 : w2.cell? ⟨w.heap.size, 6, none⟩ = some (.int .i64 cut) := b2.out.cell 6; have B2 : Hid (Below w.heap.size w w2) := Lib.hid ((F1.out.below (Nat.le_refl _) (fun _ e => e.elim)).trans (F2.out.below (by have := HSZ.out; omega) (fun k e => by have e : k = w.heap.size + 1 := e; omega))); have T2 : Hid (Two B w2 b x d d S R X I) := Lib.hid (H.out.next B2.out); have hVn : Hid (w.heap.size + 1 ≤ V) := Lib.hid (by rcases V2.out with q | q; omega; have := HSZ.out; omega); clear HE HX F1 HSZ F2 V2 HKK e100 h100 hcI)
      | fail)
    have hP : Has (w2.alloc (.cells #[.slice (some ⟨V, 0, none⟩) k1.length cap, .int .i64 torn, .int .i64 cut] 46)) w2.heap.size 46 #[.slice (some ⟨V, 0, none⟩) k1.length cap, .int .i64 torn, .int .i64 cut] := Has.of_alloc _ _ _
    have b3 : Below w2.heap.size w2 (w2.alloc (.cells #[.slice (some ⟨V, 0, none⟩) k1.length cap, .int .i64 torn, .int .i64 cut] 46)) := (Below.refl _ _).alloc (Nat.le_refl _) _
    have BX3 := Lib.hid (b2.out.keep (Fr.of_below b3 noB) (fun e => e))
    have HP := Lib.hid hP
    have T3 := Lib.hid (T2.out.next b3)
    have BB3 : Hid (Below B w (w2.alloc (.cells #[.slice (some ⟨V, 0, none⟩) k1.length cap, .int .i64 torn, .int .i64 cut] 46))) := Lib.hid ((B2.out.mono H.out.size).trans (b3.mono T2.out.size))
    have O3 := Lib.hid (O2.out.keep (Fr.of_below b3 noB) (fun e => e))
    have FPB := Lib.hid (T2.out.far w2.heap.size (.inl (Nat.le_refl _)))
    have FV := Lib.hid (H.out.far V (.inl (by have := hVn.out; omega)))
    have FBX := Lib.hid (H.out.far w.heap.size (.inl (Nat.le_refl _)))
    have hVl : Hid (V < w2.heap.size) := Lib.hid O2.out.lt
    have hbl : Hid (w.heap.size < w2.heap.size) := Lib.hid b2.out.lt
    have hwB : Hid (B ≤ w2.heap.size) := Lib.hid T2.out.size
    have KL : Hid (k1.length ≤ 140737488355328) := Lib.hid (by have := HK1.out; obtain ⟨_, _, _, q, _⟩ := this; exact q)
    clear hP b3 x0 x1 x4 x5 x6
    generalize (w2.alloc (.cells #[.slice (some ⟨V, 0, none⟩) k1.length cap, .int .i64 torn, .int .i64 cut] 46)) = w3 at *
    generalize hPB : w2.heap.size = PB at *
    have HSb : Hid (∀ (T : Nat → Prop) (w' : World), Fr T w3 w' → ¬ T w.heap.size → ¬ T PB → w'.cell? ⟨w.heap.size, 1, none⟩ = some (.int .i64 at_) ∧ w'.cell? ⟨w.heap.size, 5, none⟩ = some (.int .i64 torn) ∧ w'.cell? ⟨w.heap.size, 6, none⟩ = some (.int .i64 cut) ∧ w'.cell? ⟨PB, 0, none⟩ = some (.slice (some ⟨V, 0, none⟩) k1.length cap) ∧ w'.cell? ⟨PB, 1, none⟩ = some (.int .i64 torn) ∧ w'.cell? ⟨PB, 2, none⟩ = some (.int .i64 cut)) :=
      Lib.hid (fun T w' f h1 h2 => ⟨(BX3.out.keep f h1).cell 1, (BX3.out.keep f h1).cell 5, (BX3.out.keep f h1).cell 6, (HP.out.keep f h2).cell 0, (HP.out.keep f h2).cell 1, (HP.out.keep f h2).cell 2⟩)
    have HS4 := Lib.hid (HSb.out noB w3.drew ((Fr.refl noB w3).drew) (fun e => e) (fun e => e))
    have F34 : Hid (Fr noB w3 w3.drew) := Lib.hid ((Fr.refl noB w3).drew)
    have b4 : Below w3.heap.size w3 w3.drew := (Below.refl _ _).drew
    have T4 := Lib.hid (T3.out.next b4)
    have BB4 := Lib.hid (BB3.out.trans (b4.mono T3.out.size))
    have O4 := Lib.hid (O3.out.keep F34.out (fun e => e))
    have hPl : Hid (PB < w3.drew.heap.size) := Lib.hid HP.out.lt
    clear b4
    refine wp_region_held (S := fun w' => w'.cell? ⟨w.heap.size, 1, none⟩ = some (.int .i64 at_) ∧ w'.cell? ⟨w.heap.size, 5, none⟩ = some (.int .i64 torn) ∧ w'.cell? ⟨w.heap.size, 6, none⟩ = some (.int .i64 cut) ∧ w'.cell? ⟨PB, 0, none⟩ = some (.slice (some ⟨V, 0, none⟩) k1.length cap) ∧ w'.cell? ⟨PB, 1, none⟩ = some (.int .i64 torn) ∧ w'.cell? ⟨PB, 2, none⟩ = some (.int .i64 cut)) (by kernel_rfl) ?_
    change wpAnyH _ _ _ _ _ _ _ _ (World.drew _)
    generalize w3.drew = w4 at *
    refine held_yield (i := 0) 162 (.pointer (some ⟨b, 0, none⟩)) rfl rfl (by kernel_rfl) (by kernel_rfl) (by kernel_rfl) (fun _ _ _ h => h) rfl ?_ (HS4.out) ?_
    · intro w' hw'; obtain ⟨s0, s1, s2, s3, s4, s5⟩ := hw'; go_simp
    simp only [Act.put, List.setIfInBounds_toArray, List.set_cons_succ, List.set_cons_zero]
    refine held_yield (i := 1) 163 (.pointer (some ⟨w.heap.size, 1, none⟩)) rfl rfl (by kernel_rfl) (by kernel_rfl) (by kernel_rfl) (fun _ _ _ h => h) rfl ?_ (HS4.out) ?_
    · intro w' hw'; obtain ⟨s0, s1, s2, s3, s4, s5⟩ := hw'; go_simp
    simp only [Act.put, List.setIfInBounds_toArray, List.set_cons_succ, List.set_cons_zero]
    refine held_yield (i := 2) 164 (.int .i64 at_) rfl rfl (by kernel_rfl) (by kernel_rfl) (by kernel_rfl) (fun _ _ _ h => h) rfl ?_ (HS4.out) ?_
    · intro w' hw'; obtain ⟨s0, s1, s2, s3, s4, s5⟩ := hw'; go_simp
    simp only [Act.put, List.setIfInBounds_toArray, List.set_cons_succ, List.set_cons_zero]
    refine held_yield (i := 3) 165 (.agg #[.slice (some ⟨V, 0, none⟩) k1.length cap, .int .i64 torn, .int .i64 cut]) rfl rfl (by kernel_rfl) (by kernel_rfl) (by kernel_rfl) (fun _ _ _ h => h) rfl ?_ (HS4.out) ?_
    · intro w' hw'; obtain ⟨s0, s1, s2, s3, s4, s5⟩ := hw'; go_simp
    simp only [Act.put, List.setIfInBounds_toArray, List.set_cons_succ, List.set_cons_zero]
    refine held_yield (i := 5) 167 (.pointer (some ⟨x, 0, none⟩)) rfl rfl (by kernel_rfl) (by kernel_rfl) (by kernel_rfl) (fun _ _ _ h => h) rfl ?_ (HS4.out) ?_
    · intro w' hw'; obtain ⟨s0, s1, s2, s3, s4, s5⟩ := hw'; go_simp
    simp only [Act.put, List.setIfInBounds_toArray, List.set_cons_succ, List.set_cons_zero]
    refine held_yield (i := 6) 168 (.pointer (some ⟨w.heap.size, 1, none⟩)) rfl rfl (by kernel_rfl) (by kernel_rfl) (by kernel_rfl) (fun _ _ _ h => h) rfl ?_ (HS4.out) ?_
    · intro w' hw'; obtain ⟨s0, s1, s2, s3, s4, s5⟩ := hw'; go_simp
    simp only [Act.put, List.setIfInBounds_toArray, List.set_cons_succ, List.set_cons_zero]
    refine held_yield (i := 7) 169 (.int .i64 at_) rfl rfl (by kernel_rfl) (by kernel_rfl) (by kernel_rfl) (fun _ _ _ h => h) rfl ?_ (HS4.out) ?_
    · intro w' hw'; obtain ⟨s0, s1, s2, s3, s4, s5⟩ := hw'; go_simp
    simp only [Act.put, List.setIfInBounds_toArray, List.set_cons_succ, List.set_cons_zero]
    refine held_yield (i := 9) 171 (.slice (some ⟨V, 0, none⟩) k1.length cap) rfl rfl (by kernel_rfl) (by kernel_rfl) (by kernel_rfl) (fun _ _ _ h => h) rfl ?_ (HS4.out) ?_
    · intro w' hw'; obtain ⟨s0, s1, s2, s3, s4, s5⟩ := hw'; go_simp
    simp only [Act.put, List.setIfInBounds_toArray, List.set_cons_succ, List.set_cons_zero]
    refine held_yield (i := 11) 173 (.pointer (some ⟨w.heap.size, 5, none⟩)) rfl rfl (by kernel_rfl) (by kernel_rfl) (by kernel_rfl) (fun _ _ _ h => h) rfl ?_ (HS4.out) ?_
    · intro w' hw'; obtain ⟨s0, s1, s2, s3, s4, s5⟩ := hw'; go_simp
    simp only [Act.put, List.setIfInBounds_toArray, List.set_cons_succ, List.set_cons_zero]
    refine held_yield (i := 12) 174 (.int .i64 torn) rfl rfl (by kernel_rfl) (by kernel_rfl) (by kernel_rfl) (fun _ _ _ h => h) rfl ?_ (HS4.out) ?_
    · intro w' hw'; obtain ⟨s0, s1, s2, s3, s4, s5⟩ := hw'; go_simp
    simp only [Act.put, List.setIfInBounds_toArray, List.set_cons_succ, List.set_cons_zero]
    refine held_yield (i := 13) 175 (.pointer (some ⟨w.heap.size, 6, none⟩)) rfl rfl (by kernel_rfl) (by kernel_rfl) (by kernel_rfl) (fun _ _ _ h => h) rfl ?_ (HS4.out) ?_
    · intro w' hw'; obtain ⟨s0, s1, s2, s3, s4, s5⟩ := hw'; go_simp
    simp only [Act.put, List.setIfInBounds_toArray, List.set_cons_succ, List.set_cons_zero]
    refine held_yield (i := 14) 176 (.int .i64 cut) rfl rfl (by kernel_rfl) (by kernel_rfl) (by kernel_rfl) (fun _ _ _ h => h) rfl ?_ (HS4.out) ?_
    · intro w' hw'; obtain ⟨s0, s1, s2, s3, s4, s5⟩ := hw'; go_simp
    simp only [Act.put, List.setIfInBounds_toArray, List.set_cons_succ, List.set_cons_zero]
    have SZ4 : Hid (PB < w4.heap.size) := hPl
    refine held_two (i := 4) (j := 8) (by kernel_rfl) rfl rfl rfl rfl ?_ ?_
    · intro K hK
      go_simp
      have hfu := fuse_full w4 S R (oneB V) b d T4.out.disk at_ HAT.out (.slice (some ⟨V, 0, none⟩) k1.length cap) ⟨k1, torn, cut⟩ (O4.out.keepAt KL.out)
      unfold planV at hfu
      refine hfu.mono ?_
      clear hfu
      rintro e w5 ⟨rfl, R5, d5, f5, r5⟩
      have hbS := disk_own T4.out.disk
      have hVb : V ≠ b := fun e => FV.out.1 (by rw [e]; exact hbS)
      have T5 := Lib.hid (T4.out.fused d5 f5 r5)
      have O5 := Lib.hid (O4.out.keep f5 (fun e => hVb e))
      have BB5 := Lib.hid (BB4.out.trans (f5.below T4.out.size (fun k e => by have e : k = b := e; rw [e]; exact T4.out.news b (.inl hbS))))
      have RV5 : Hid (¬ R5 V) := Lib.hid (fun q => by
        rcases r5 V q with q | q
        · exact FV.out.2.1 q
        · have := hVl.out; have := hPl.out; have q : w4.heap.size ≤ V := q; have := SZ4.out; omega)
      have hs5 := HSb.out (oneB b) w5 ((F34.out.wide (fun _ _ e => e.elim)).trans f5 (fun _ _ e => e)) (fun e => FBX.out.1 (by have e : w.heap.size = b := e; rw [e]; exact hbS)) (fun e => FPB.out.1 (by have e : PB = b := e; rw [e]; exact hbS))
      have F35 : Hid (Fr (oneB b) w3 w5) := Lib.hid ((F34.out.wide (fun _ _ e => e.elim)).trans f5 (fun _ _ e => e))
      have hbl5 : b < w5.heap.size := T5.out.disk.lt b (disk_own T5.out.disk)
      have SZ5 : Hid (PB < w5.heap.size) := Lib.hid (by have := f5.size; have := SZ4.out; omega)
      have HbS := Lib.hid hbS
      refine hK _ _ hs5 ?_
      clear hK K hs5 d5 f5 r5 hVb
      refine held_one (i := 8) (by kernel_rfl) rfl rfl ?_
      intro K hK
      go_simp
      have b6 : Below w5.heap.size w5 (w5.alloc (.cells #[] 4)) := (Below.refl _ _).alloc (Nat.le_refl _) _
      have HE6 : Hid (Has (w5.alloc (.cells #[] 4)) w5.heap.size 4 #[]) := Lib.hid (Has.of_alloc _ _ _)
      have T6 := Lib.hid (T5.out.next b6)
      have O6 := Lib.hid (O5.out.keep (Fr.of_below b6 noB) (fun e => e))
      have BB6 := Lib.hid (BB5.out.trans (b6.mono T5.out.size))
      have F36 : Hid (Fr (oneB b) w3 (w5.alloc (.cells #[] 4))) := Lib.hid (F35.out.trans (Fr.of_below b6 _) (fun _ _ e => e))
      have hs6 := HSb.out (oneB b) (w5.alloc (.cells #[] 4)) F36.out (fun e => FBX.out.1 (by have e : w.heap.size = b := e; rw [e]; exact HbS.out)) (fun e => FPB.out.1 (by have e : PB = b := e; rw [e]; exact HbS.out))
      have FE := Lib.hid (T5.out.far w5.heap.size (.inl (Nat.le_refl _)))
      have hEB : Hid (B ≤ w5.heap.size) := Lib.hid T5.out.size
      have hEV : Hid (w5.heap.size ≠ V) := Lib.hid (by have := hVl.out; have := SZ5.out; omega)
      have hTb : Hid (¬ (w.heap.size = b ∨ w.heap.size = w5.heap.size)) := Lib.hid (fun e => e.elim (fun e => FBX.out.1 (by rw [e]; exact HbS.out)) (fun e => by have := hbl.out; have := SZ5.out; omega))
      have hTp : Hid (¬ (PB = b ∨ PB = w5.heap.size)) := Lib.hid (fun e => e.elim (fun e => FPB.out.1 (by rw [e]; exact HbS.out)) (fun e => by have := SZ5.out; omega))
      refine hK _ _ hs6 ?_
      clear hK K b6 hs6 hbl5 hbS
      generalize hEE : w5.heap.size = E at *
      generalize (w5.alloc (.cells #[] 4)) = w6 at *
      refine held_one (i := 10) (by kernel_rfl) rfl rfl ?_
      intro K hK
      refine wp_append_bools (.tmp 170) (.tmp 171) rfl E rfl HE6.out (oneB V) (.slice (some ⟨V, 0, none⟩) k1.length cap) k1 rfl (O6.out.keepAt KL.out) ?_
      intro V7 cap7 w7 o7 f7 hV7
      have T7 := Lib.hid (T6.out.frame f7 (fun k hk => by have hk : k = E := hk; rw [hk]; exact FE.out))
      have OV7 := Lib.hid (O6.out.keep f7 (fun e => hEV.out e.symm))
      have O7 := Lib.hid o7
      have F7 : Hid (Fr (fun k => k = b ∨ k = E) w3 w7) := Lib.hid ((F36.out.wide (fun _ _ e => .inl e)).trans (f7.wide (T := fun k => k = b ∨ k = E) (fun _ _ e => .inr e)) (fun _ _ e => e))
      have hs7 := HSb.out _ w7 F7.out hTb.out hTp.out
      have BB7 := Lib.hid (BB6.out.trans (f7.below T6.out.size (fun k e => by have e : k = E := e; rw [e]; exact hEB.out)))
      have FX7 : Hid (∀ k, oneB V7 k → ¬ X k) := Lib.hid (fun k e q => by
        have e : k = V7 := e
        rw [e] at q
        rcases hV7 with e2 | e2
        · rw [e2] at q; exact FE.out.2.2.1 q
        · exact (T6.out.far V7 (.inl (by omega))).2.2.1 q)
      refine wp_of_dst (some 172) rfl _ ?_
      refine hK _ _ hs7 ?_
      clear hK K o7 f7 hV7
      have HS7 := Lib.hid hs7
      clear hs7
      simp only [Act.put, List.setIfInBounds_toArray, List.set_cons_succ, List.set_cons_zero]
      refine held_yield (i := 15) 177 (.agg #[.slice (some ⟨V7, 0, none⟩) k1.length cap7, .int .i64 torn, .int .i64 cut]) rfl rfl (by kernel_rfl) (by kernel_rfl) (by kernel_rfl) (fun _ _ _ h => h) rfl ?_ (HS7.out) ?_
      · intro w' hw'; skip; go_simp
      simp only [Act.put, List.setIfInBounds_toArray, List.set_cons_succ, List.set_cons_zero]
      refine held_one (i := 16) (by kernel_rfl) rfl rfl ?_
      intro K hK
      go_simp
      have hfu := rfuse_full w7 X I (oneB V7) x d T7.out.ref at_ (.slice (some ⟨V7, 0, none⟩) k1.length cap7) ⟨k1, torn, cut⟩ (O7.out.keepAt KL.out) FX7.out
      unfold planV at hfu
      refine hfu.mono ?_
      clear hfu
      rintro e w8 ⟨rfl, g8⟩
      obtain ⟨X8, I8, t8, f8, rx8, ri8⟩ := T7.out.goesX2 g8
      have T8 := Lib.hid t8
      have hV8 : V < w7.heap.size := OV7.out.lt
      have FV8 : Hid (¬ S V ∧ ¬ R5 V ∧ ¬ X8 V ∧ ¬ I8 V) := Lib.hid ⟨FV.out.1, RV5.out, fun q => by
        rcases rx8 V q with q | q
        · exact FV.out.2.2.1 q
        · omega, fun q => by
        rcases ri8 V q with q | q
        · exact FV.out.2.2.2 q
        · omega⟩
      have O8 := Lib.hid (OV7.out.keep f8 FV.out.2.2.1)
      have BB8 := Lib.hid (BB7.out.trans (T7.out.belowX f8))
      have hs8 := HSb.out (fun k => (k = b ∨ k = E) ∨ X k) w8 ((F7.out.wide (fun _ _ e => .inl e)).trans f8 (fun _ _ e => .inr e)) (fun e => e.elim hTb.out FBX.out.2.2.1) (fun e => e.elim hTp.out FPB.out.2.2.1)
      have HS8 := Lib.hid hs8
      refine hK _ _ hs8 ?_
      clear hK K g8 t8 f8 rx8 ri8 hs8 hV8
      generalize d.uErr at_ ⟨k1, torn, cut⟩ = er at *
      refine held_yield (i := 17) 179 (.bool true) rfl rfl (by kernel_rfl) (by kernel_rfl) (by kernel_rfl) (fun _ _ _ h => h) rfl ?_ (HS8.out) ?_
      · intro w' hw'; skip; go_simp
      simp only [Act.put, List.setIfInBounds_toArray, List.set_cons_succ, List.set_cons_zero]
      refine held_yield (i := 18) 21 (.bool true) rfl rfl (by kernel_rfl) (by kernel_rfl) (by kernel_rfl) (fun _ _ _ h => h) rfl ?_ (HS8.out) ?_
      · intro w' hw'; skip; go_simp
      simp only [Act.put, List.setIfInBounds_toArray, List.set_cons_succ, List.set_cons_zero]
      refine wpAnyH_done (by kernel_rfl) ?_ 0
      have hkI : (k1.length : Int) ≤ 140737488355328 := by have := KL.out; omega
      have hVB : Hid (B ≤ V) := Lib.hid (by have := hVn.out; have := H.out.size; omega)
      go_wp2_with fail
      go_loopw [22] (fun v wr => ∃ i : Nat, i ≤ k1.length ∧ v = .int .i64 i ∧ ∃ l : List Bool, Hid (l.length = k1.length) ∧ Hid (OwnB wr V l) ∧ Hid (Fr (oneB V) w8 wr)) (fun v _ => k1.length - (intOf v).toNat)
      case atStart => exact ⟨0, Nat.zero_le _, rfl, k1, Lib.hid rfl, O8, Lib.hid (Fr.refl _ _)⟩
      case round =>
        rename World => wr
        obtain ⟨i, hi, rfl, l6, hl6, ho6, hf6⟩ := hrel
        by_cases hlt : i < k1.length
        · have hiI : (i : Int) < k1.length := by omega
          have hil : i < l6.length := by rw [hl6.out]; exact hlt
          have hcell : wr.cell? ⟨V, i, none⟩ = some (.bool l6[i]) := ho6.out.cell (List.getElem?_eq_getElem hil)
          have hfz : wr.frozen? ⟨V, i, none⟩ = false := ho6.out.free i
          have HO := Lib.hid (ho6.out.set i (!l6[i]))
          have HFn := Lib.hid (hf6.out.put (i := i) (.bool (!l6[i])))
          generalize l6[i] = cb at *
          clear hil
          go_wp2_with fail
          exact ⟨⟨i + 1, by omega, rfl, _, Lib.hid (by rw [List.length_set]; exact hl6.out), HO, HFn⟩, by simp only [intOf]; omega⟩
        · have hiN : ¬ (i : Int) < k1.length := by omega
          go_wp2_with fail
          go_ret3
          have t9 := T8.out.frame hf6.out (fun k hk => by have hk : k = V := hk; rw [hk]; exact FV8.out)
          exact ⟨b, x, d.uTo at_ ⟨k1, torn, cut⟩, S, R5, X8, I8, rfl, t9, BB8.out.trans (hf6.out.below T8.out.size (fun k hk => by have hk : k = V := hk; rw [hk]; exact hVB.out)), grows_u d at_ HAT.out _⟩
    · intro K hK
      go_simp
      have b5 : Below w4.heap.size w4 (w4.alloc (.cells #[] 4)) := (Below.refl _ _).alloc (Nat.le_refl _) _
      have HE5 : Hid (Has (w4.alloc (.cells #[] 4)) w4.heap.size 4 #[]) := Lib.hid (Has.of_alloc _ _ _)
      have T5 := Lib.hid (T4.out.next b5)
      have O5 := Lib.hid (O4.out.keep (Fr.of_below b5 noB) (fun e => e))
      have BB5 := Lib.hid (BB4.out.trans (b5.mono T4.out.size))
      have F35 : Hid (Fr noB w3 (w4.alloc (.cells #[] 4))) := Lib.hid (F34.out.trans (Fr.of_below b5 _) (fun _ _ e => e))
      have hs5 := HSb.out noB (w4.alloc (.cells #[] 4)) F35.out (fun e => e) (fun e => e)
      have FE4 := Lib.hid (T4.out.far w4.heap.size (.inl (Nat.le_refl _)))
      have hEB : Hid (B ≤ w4.heap.size) := Lib.hid T4.out.size
      have hEV : Hid (w4.heap.size ≠ V) := Lib.hid (by have := hVl.out; have := SZ4.out; omega)
      have SZ5 : Hid (w4.heap.size < (w4.alloc (.cells #[] 4)).heap.size) := Lib.hid HE5.out.lt
      have hbE : Hid (b < w4.heap.size) := Lib.hid (T4.out.disk.lt b (disk_own T4.out.disk))
      refine hK _ _ hs5 ?_
      clear hK K b5 hs5
      generalize hEE : w4.heap.size = E at *
      generalize (w4.alloc (.cells #[] 4)) = w5 at *
      refine held_one (i := 4) (by kernel_rfl) rfl rfl ?_
      intro K hK
      go_simp
      have hfu := fuse_full w5 S R (oneB V) b d T5.out.disk at_ HAT.out (.slice (some ⟨V, 0, none⟩) k1.length cap) ⟨k1, torn, cut⟩ (O5.out.keepAt KL.out)
      unfold planV at hfu
      refine hfu.mono ?_
      clear hfu
      rintro e w6 ⟨rfl, R6, d6, f6, r6⟩
      have hbS := disk_own T5.out.disk
      have hVb : V ≠ b := fun e => FV.out.1 (by rw [e]; exact hbS)
      have T6 := Lib.hid (T5.out.fused d6 f6 r6)
      have O6 := Lib.hid (O5.out.keep f6 (fun e => hVb e))
      have BB6 := Lib.hid (BB5.out.trans (f6.below T5.out.size (fun k e => by have e : k = b := e; rw [e]; exact T5.out.news b (.inl hbS))))
      have RV6 : Hid (¬ R6 V) := Lib.hid (fun q => by
        rcases r6 V q with q | q
        · exact FV.out.2.1 q
        · have := hVl.out; have := hPl.out; have q : w5.heap.size ≤ V := q; have := SZ5.out; have := SZ4.out; omega)
      have F36 : Hid (Fr (oneB b) w3 w6) := Lib.hid ((F35.out.wide (fun _ _ e => e.elim)).trans f6 (fun _ _ e => e))
      have hs6 := HSb.out (oneB b) w6 F36.out (fun e => FBX.out.1 (by have e : w.heap.size = b := e; rw [e]; exact hbS)) (fun e => FPB.out.1 (by have e : PB = b := e; rw [e]; exact hbS))
      have HE6 := Lib.hid (HE5.out.keep f6 (fun e => by have e : E = b := e; have := hbE.out; omega))
      have FE : Hid (¬ S E ∧ ¬ R6 E ∧ ¬ X E ∧ ¬ I E) := Lib.hid ⟨FE4.out.1, fun q => by
        rcases r6 E q with q | q
        · exact FE4.out.2.1 q
        · have := SZ5.out; omega, FE4.out.2.2⟩
      have hTb : Hid (¬ (w.heap.size = b ∨ w.heap.size = E)) := Lib.hid (fun e => e.elim (fun e => FBX.out.1 (by rw [e]; exact hbS)) (fun e => by have := hbl.out; have := SZ4.out; omega))
      have hTp : Hid (¬ (PB = b ∨ PB = E)) := Lib.hid (fun e => e.elim (fun e => FPB.out.1 (by rw [e]; exact hbS)) (fun e => by have := SZ4.out; omega))
      refine hK _ _ hs6 ?_
      clear hK K hs6 d6 f6 r6 hVb hbS
      refine held_one (i := 10) (by kernel_rfl) rfl rfl ?_
      intro K hK
      refine wp_append_bools (.tmp 170) (.tmp 171) rfl E rfl HE6.out (oneB V) (.slice (some ⟨V, 0, none⟩) k1.length cap) k1 rfl (O6.out.keepAt KL.out) ?_
      intro V7 cap7 w7 o7 f7 hV7
      have T7 := Lib.hid (T6.out.frame f7 (fun k hk => by have hk : k = E := hk; rw [hk]; exact FE.out))
      have OV7 := Lib.hid (O6.out.keep f7 (fun e => hEV.out e.symm))
      have O7 := Lib.hid o7
      have F7 : Hid (Fr (fun k => k = b ∨ k = E) w3 w7) := Lib.hid ((F36.out.wide (fun _ _ e => .inl e)).trans (f7.wide (T := fun k => k = b ∨ k = E) (fun _ _ e => .inr e)) (fun _ _ e => e))
      have hs7 := HSb.out _ w7 F7.out hTb.out hTp.out
      have BB7 := Lib.hid (BB6.out.trans (f7.below T6.out.size (fun k e => by have e : k = E := e; rw [e]; exact hEB.out)))
      have FX7 : Hid (∀ k, oneB V7 k → ¬ X k) := Lib.hid (fun k e q => by
        have e : k = V7 := e
        rw [e] at q
        rcases hV7 with e2 | e2
        · rw [e2] at q; exact FE.out.2.2.1 q
        · exact (T6.out.far V7 (.inl (by omega))).2.2.1 q)
      refine wp_of_dst (some 172) rfl _ ?_
      refine hK _ _ hs7 ?_
      clear hK K o7 f7 hV7
      have HS7 := Lib.hid hs7
      clear hs7
      simp only [Act.put, List.setIfInBounds_toArray, List.set_cons_succ, List.set_cons_zero]
      refine held_yield (i := 15) 177 (.agg #[.slice (some ⟨V7, 0, none⟩) k1.length cap7, .int .i64 torn, .int .i64 cut]) rfl rfl (by kernel_rfl) (by kernel_rfl) (by kernel_rfl) (fun _ _ _ h => h) rfl ?_ (HS7.out) ?_
      · intro w' hw'; skip; go_simp
      simp only [Act.put, List.setIfInBounds_toArray, List.set_cons_succ, List.set_cons_zero]
      refine held_one (i := 16) (by kernel_rfl) rfl rfl ?_
      intro K hK
      go_simp
      have hfu := rfuse_full w7 X I (oneB V7) x d T7.out.ref at_ (.slice (some ⟨V7, 0, none⟩) k1.length cap7) ⟨k1, torn, cut⟩ (O7.out.keepAt KL.out) FX7.out
      unfold planV at hfu
      refine hfu.mono ?_
      clear hfu
      rintro e w8 ⟨rfl, g8⟩
      obtain ⟨X8, I8, t8, f8, rx8, ri8⟩ := T7.out.goesX2 g8
      have T8 := Lib.hid t8
      have hV8 : V < w7.heap.size := OV7.out.lt
      have FV8 : Hid (¬ S V ∧ ¬ R6 V ∧ ¬ X8 V ∧ ¬ I8 V) := Lib.hid ⟨FV.out.1, RV6.out, fun q => by
        rcases rx8 V q with q | q
        · exact FV.out.2.2.1 q
        · omega, fun q => by
        rcases ri8 V q with q | q
        · exact FV.out.2.2.2 q
        · omega⟩
      have O8 := Lib.hid (OV7.out.keep f8 FV.out.2.2.1)
      have BB8 := Lib.hid (BB7.out.trans (T7.out.belowX f8))
      have hs8 := HSb.out (fun k => (k = b ∨ k = E) ∨ X k) w8 ((F7.out.wide (fun _ _ e => .inl e)).trans f8 (fun _ _ e => .inr e)) (fun e => e.elim hTb.out FBX.out.2.2.1) (fun e => e.elim hTp.out FPB.out.2.2.1)
      have HS8 := Lib.hid hs8
      refine hK _ _ hs8 ?_
      clear hK K g8 t8 f8 rx8 ri8 hs8 hV8
      generalize d.uErr at_ ⟨k1, torn, cut⟩ = er at *
      refine held_yield (i := 17) 179 (.bool true) rfl rfl (by kernel_rfl) (by kernel_rfl) (by kernel_rfl) (fun _ _ _ h => h) rfl ?_ (HS8.out) ?_
      · intro w' hw'; skip; go_simp
      simp only [Act.put, List.setIfInBounds_toArray, List.set_cons_succ, List.set_cons_zero]
      refine held_yield (i := 18) 21 (.bool true) rfl rfl (by kernel_rfl) (by kernel_rfl) (by kernel_rfl) (fun _ _ _ h => h) rfl ?_ (HS8.out) ?_
      · intro w' hw'; skip; go_simp
      simp only [Act.put, List.setIfInBounds_toArray, List.set_cons_succ, List.set_cons_zero]
      refine wpAnyH_done (by kernel_rfl) ?_ 0
      have hkI : (k1.length : Int) ≤ 140737488355328 := by have := KL.out; omega
      have hVB : Hid (B ≤ V) := Lib.hid (by have := hVn.out; have := H.out.size; omega)
      go_wp2_with fail
      go_loopw [22] (fun v wr => ∃ i : Nat, i ≤ k1.length ∧ v = .int .i64 i ∧ ∃ l : List Bool, Hid (l.length = k1.length) ∧ Hid (OwnB wr V l) ∧ Hid (Fr (oneB V) w8 wr)) (fun v _ => k1.length - (intOf v).toNat)
      case atStart => exact ⟨0, Nat.zero_le _, rfl, k1, Lib.hid rfl, O8, Lib.hid (Fr.refl _ _)⟩
      case round =>
        rename World => wr
        obtain ⟨i, hi, rfl, l6, hl6, ho6, hf6⟩ := hrel
        by_cases hlt : i < k1.length
        · have hiI : (i : Int) < k1.length := by omega
          have hil : i < l6.length := by rw [hl6.out]; exact hlt
          have hcell : wr.cell? ⟨V, i, none⟩ = some (.bool l6[i]) := ho6.out.cell (List.getElem?_eq_getElem hil)
          have hfz : wr.frozen? ⟨V, i, none⟩ = false := ho6.out.free i
          have HO := Lib.hid (ho6.out.set i (!l6[i]))
          have HFn := Lib.hid (hf6.out.put (i := i) (.bool (!l6[i])))
          generalize l6[i] = cb at *
          clear hil
          go_wp2_with fail
          exact ⟨⟨i + 1, by omega, rfl, _, Lib.hid (by rw [List.length_set]; exact hl6.out), HO, HFn⟩, by simp only [intOf]; omega⟩
        · have hiN : ¬ (i : Int) < k1.length := by omega
          go_wp2_with fail
          go_ret3
          have t9 := T8.out.frame hf6.out (fun k hk => by have hk : k = V := hk; rw [hk]; exact FV8.out)
          exact ⟨b, x, d.uTo at_ ⟨k1, torn, cut⟩, S, R6, X8, I8, rfl, t9, BB8.out.trans (hf6.out.below T8.out.size (fun k hk => by have hk : k = V := hk; rw [hk]; exact hVB.out)), grows_u d at_ HAT.out _⟩
end Go.Proofs.Ytpgpalnnmoanpaa

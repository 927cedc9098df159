/-
  The statement's do, kind 3 (written by wip/gen/gendo.py).
-/
import Derived.Test.YtpgpalnnmoanpaaDDo
namespace Go.Proofs.Ytpgpalnnmoanpaa
open Go.RowKit Go.Maps

set_option maxRecDepth 100000 in
set_option maxHeartbeats 1600000 in
theorem do_3 (w : World) (B b x : Nat) (d : Dk.St) (S R X I : Nat → Prop) (h : Two B w b x d d S R X I) (hs : Small d) (at_ torn cut : Int) (hat : at_ ≤ 9223372036854775807) (A : Option Addr) (l : List UInt8) (c : Nat) (whole : Bool) (Ak : Option Addr) (keep : List Bool) (ck : Nat)
    (hr : Rd w B A l) (hA : A = none → c = 0) (hlc : l.length ≤ c) (hk : KeepAt w (fun k => k < B) (.slice Ak keep.length ck) keep) (hck : keep.length ≤ ck) :
    Calls Try.prog 11 #[.agg #[.int .i64 3, .int .i64 at_, .slice A l.length c, .bool whole, .slice Ak keep.length ck, .int .i64 torn, .int .i64 cut], .pointer (some ⟨b, 0, none⟩), .pointer (some ⟨x, 0, none⟩)] w (DoneBy B w d) := by
  have H := Lib.hid h
  have HF := Lib.hid hs.few
  have HSm := Lib.hid hs
  have HK := Lib.hid hk
  have HR := Lib.hid hr
  have HA := Lib.hid hA
  have HLC := Lib.hid hlc
  have HAT := Lib.hid hat
  have hcI : (keep.length : Int) ≤ ck := by omega
  clear h hs hk hck hr hA hlc hat
  obtain ⟨k1, hk1⟩ : ∃ k1, k1 = keep.take 100 := ⟨_, rfl⟩
  have HK1 := Lib.hid (HK.out.take 100)
  rw [← hk1] at HK1
  rcases Nat.lt_or_ge 100 keep.length with h100 | h100
  · have e100 : (100 : Int) < keep.length := by omega
    have e101 : ¬ (keep.length : Int) < 100 := by omega
    have hkt : k1.length = 100 := by rw [hk1]; exact List.length_take_of_le (by omega)
    have HKT := Lib.hid hkt
    have f1 : Fr noB w ((w.alloc (.cells #[.int .i64 3, .int .i64 at_, .slice A l.length c, .bool whole, .slice Ak keep.length ck, .int .i64 torn, .int .i64 cut] 37)).alloc (.cells #[] 4)) := ((Fr.refl noB w).alloc _).alloc _
    have hkk : KeepAt ((w.alloc (.cells #[.int .i64 3, .int .i64 at_, .slice A l.length c, .bool whole, .slice Ak keep.length ck, .int .i64 torn, .int .i64 cut] 37)).alloc (.cells #[] 4)) (fun k => k < B) (.slice Ak k1.length ck) k1 := HK1.out.keep f1 (fun _ _ e => e)
    rw [hkt] at hkk
    have HEQ := Lib.hid hk1
    have HKK := Lib.hid hkk
    have hE : Has ((w.alloc (.cells #[.int .i64 3, .int .i64 at_, .slice A l.length c, .bool whole, .slice Ak keep.length ck, .int .i64 torn, .int .i64 cut] 37)).alloc (.cells #[] 4)) (w.heap.size + 1) 4 #[] := by
      have := Has.of_alloc (w.alloc (.cells #[.int .i64 3, .int .i64 at_, .slice A l.length c, .bool whole, .slice Ak keep.length ck, .int .i64 torn, .int .i64 cut] 37)) 4 #[]
      simpa using this
    have hX : Has ((w.alloc (.cells #[.int .i64 3, .int .i64 at_, .slice A l.length c, .bool whole, .slice Ak keep.length ck, .int .i64 torn, .int .i64 cut] 37)).alloc (.cells #[] 4)) w.heap.size 37 #[.int .i64 3, .int .i64 at_, .slice A l.length c, .bool whole, .slice Ak keep.length ck, .int .i64 torn, .int .i64 cut] := (Has.of_alloc _ _ _).alloc _
    have HE := Lib.hid hE
    have HX := Lib.hid hX
    have F1 := Lib.hid f1
    have HSZ : Hid (((w.alloc (.cells #[.int .i64 3, .int .i64 at_, .slice A l.length c, .bool whole, .slice Ak keep.length ck, .int .i64 torn, .int .i64 cut] 37)).alloc (.cells #[] 4)).heap.size = w.heap.size + 2) := Lib.hid (by simp)
    clear hE hX f1 hkk hkt hk1
    go_enter Try.func11, Try.ntmps11
    go_wp2_with (first
      | (at_builtin; refine wpList_append_bools' rfl (.tmp 29) (.tmp 36) rfl (w.heap.size + 1) rfl HE.out _ _ k1 rfl HKK.out ?_; intro V cap w2 O2 F2 V2; have b2 : Hid (Has w2 w.heap.size 37 #[.int .i64 3, .int .i64 at_, .slice A l.length c, .bool whole, .slice Ak keep.length ck, .int .i64 torn, .int .i64 cut]) := Lib.hid (HX.out.keep F2.out (fun e => by have e : w.heap.size = w.heap.size + 1 := e; omega)); have x0 : w2.cell? ⟨w.heap.size, 0, none⟩ = some (.int .i64 3) := b2.out.cell 0; have x1 : w2.cell? ⟨w.heap.size, 1, none⟩ = some (.int .i64 at_) := b2.out.cell 1; have x4 : w2.cell? ⟨w.heap.size, 4, none⟩ = some (.slice Ak keep.length ck) := b2.out.cell 4; have x5 : w2.cell? ⟨w.heap.size, 5, none⟩ = some (.int .i64 torn) := b2.out.cell 5; have x6 : w2.cell? ⟨w.heap.size, 6, none⟩ = some (.int .i64 cut) := b2.out.cell 6; have B2 : Hid (Below w.heap.size w w2) := Lib.hid ((F1.out.below (Nat.le_refl _) (fun _ e => e.elim)).trans (F2.out.below (by have := HSZ.out; omega) (fun k e => by have e : k = w.heap.size + 1 := e; omega))); have T2 : Hid (Two B w2 b x d d S R X I) := Lib.hid (H.out.next B2.out); have hVn : Hid (w.heap.size + 1 ≤ V) := Lib.hid (by rcases V2.out with q | q; omega; have := HSZ.out; omega); clear HE HX F1 HSZ F2 V2 HKK e100 h100 hcI e101)
      | fail)
    have HSb : Hid (∀ (T : Nat → Prop) (w' : World), Fr T w2 w' → ¬ T w.heap.size → w'.cell? ⟨w.heap.size, 4, none⟩ = some (.slice Ak keep.length ck) ∧ w'.cell? ⟨w.heap.size, 5, none⟩ = some (.int .i64 torn) ∧ w'.cell? ⟨w.heap.size, 6, none⟩ = some (.int .i64 cut)) :=
      Lib.hid (fun T w' f ht => ⟨(World.cell?_of_block (f.old _ b2.out.lt ht)).trans x4, (World.cell?_of_block (f.old _ b2.out.lt ht)).trans x5, (World.cell?_of_block (f.old _ b2.out.lt ht)).trans x6⟩)
    have hS0 := HSb.out noB w2.drew ((Fr.refl noB w2).drew) (fun e => e)
    have HS0 := Lib.hid hS0
    have hbox := H.out.far w.heap.size (.inl (Nat.le_refl _))
    have HFar := Lib.hid hbox
    have hV := H.out.far V (.inl (by have := hVn.out; omega))
    have b2d : Below w2.heap.size w2 w2.drew := (Below.refl _ _).drew
    have hkd := (O2.out.keep ((Fr.refl noB w2).drew) (fun e => e)).keepAt (cap := cap) (by have := HK1.out; obtain ⟨_, _, _, q, _⟩ := this; exact q)
    have hcr : Calls Try.prog 16 #[.pointer (some ⟨b, 0, none⟩), .agg #[.slice (some ⟨V, 0, none⟩) k1.length cap, .int .i64 torn, .int .i64 cut]] w2.drew fun e w' => e = .returned (.int .i64 (d.cErr ⟨keep, torn, cut⟩)) ∧ Goes S R b (d.cTo ⟨keep, torn, cut⟩) w2.drew w' := by
      have := crash_full w2.drew S R (oneB V) b d (T2.out.next b2d).disk HF.out _ ⟨k1, torn, cut⟩ hkd (fun k hk q => by
        have hk : k = V := hk
        rw [hk] at q
        exact hV.1 q)
      have e1 : (⟨k1, torn, cut⟩ : Dk.Pl) = (⟨keep, torn, cut⟩ : Dk.Pl).first := by rw [HEQ.out]; rfl
      rw [e1, Dk.St.cTo_first d _ (by have := HF.out.waits; omega), Dk.St.cErr_first] at this
      rw [← e1] at this
      exact this
    have HCR := Lib.hid hcr
    have T2d := Lib.hid (T2.out.next b2d)
    have hk2 := (HK.out.keep (Fr.of_below B2.out noB) (fun _ _ e => e)).keep ((Fr.refl noB w2).drew) (fun _ _ e => e)
    have HK2 := Lib.hid hk2
    have BB2 : Hid (Below B w w2.drew) := Lib.hid ((B2.out.mono H.out.size).trans (b2d.mono T2.out.size))
    clear x0 x1 x4 x5 x6 hS0 hbox hV b2d hkd hcr hk2
    refine wp_region_held (S := fun w' => w'.cell? ⟨w.heap.size, 4, none⟩ = some (.slice Ak keep.length ck) ∧ w'.cell? ⟨w.heap.size, 5, none⟩ = some (.int .i64 torn) ∧ w'.cell? ⟨w.heap.size, 6, none⟩ = some (.int .i64 cut)) (by kernel_rfl) ?_
    change wpAnyH _ _ _ _ _ _ _ _ (World.drew _)
    refine held_yield (i := 0) 134 (.pointer (some ⟨b, 0, none⟩)) rfl rfl (by kernel_rfl) (by kernel_rfl) (by kernel_rfl) (fun _ _ _ h => h) rfl ?_ (HS0.out) ?_
    · intro w' hw'; obtain ⟨s0, s1, s2⟩ := hw'; go_simp
    simp only [Act.put, List.setIfInBounds_toArray, List.set_cons_succ, List.set_cons_zero]
    refine held_yield (i := 1) 135 (.pointer (some ⟨x, 0, none⟩)) rfl rfl (by kernel_rfl) (by kernel_rfl) (by kernel_rfl) (fun _ _ _ h => h) rfl ?_ (HS0.out) ?_
    · intro w' hw'; obtain ⟨s0, s1, s2⟩ := hw'; go_simp
    simp only [Act.put, List.setIfInBounds_toArray, List.set_cons_succ, List.set_cons_zero]
    refine held_yield (i := 2) 136 (.pointer (some ⟨b, 0, none⟩)) rfl rfl (by kernel_rfl) (by kernel_rfl) (by kernel_rfl) (fun _ _ _ h => h) rfl ?_ (HS0.out) ?_
    · intro w' hw'; obtain ⟨s0, s1, s2⟩ := hw'; go_simp
    simp only [Act.put, List.setIfInBounds_toArray, List.set_cons_succ, List.set_cons_zero]
    refine held_yield (i := 3) 137 (.slice (some ⟨V, 0, none⟩) k1.length cap) rfl rfl (by kernel_rfl) (by kernel_rfl) (by kernel_rfl) (fun _ _ _ h => h) rfl ?_ (HS0.out) ?_
    · intro w' hw'; obtain ⟨s0, s1, s2⟩ := hw'; go_simp
    simp only [Act.put, List.setIfInBounds_toArray, List.set_cons_succ, List.set_cons_zero]
    refine held_yield (i := 4) 138 (.pointer (some ⟨w.heap.size, 5, none⟩)) rfl rfl (by kernel_rfl) (by kernel_rfl) (by kernel_rfl) (fun _ _ _ h => h) rfl ?_ (HS0.out) ?_
    · intro w' hw'; obtain ⟨s0, s1, s2⟩ := hw'; go_simp
    simp only [Act.put, List.setIfInBounds_toArray, List.set_cons_succ, List.set_cons_zero]
    refine held_yield (i := 5) 139 (.int .i64 torn) rfl rfl (by kernel_rfl) (by kernel_rfl) (by kernel_rfl) (fun _ _ _ h => h) rfl ?_ (HS0.out) ?_
    · intro w' hw'; obtain ⟨s0, s1, s2⟩ := hw'; go_simp
    simp only [Act.put, List.setIfInBounds_toArray, List.set_cons_succ, List.set_cons_zero]
    refine held_yield (i := 6) 140 (.pointer (some ⟨w.heap.size, 6, none⟩)) rfl rfl (by kernel_rfl) (by kernel_rfl) (by kernel_rfl) (fun _ _ _ h => h) rfl ?_ (HS0.out) ?_
    · intro w' hw'; obtain ⟨s0, s1, s2⟩ := hw'; go_simp
    simp only [Act.put, List.setIfInBounds_toArray, List.set_cons_succ, List.set_cons_zero]
    refine held_yield (i := 7) 141 (.int .i64 cut) rfl rfl (by kernel_rfl) (by kernel_rfl) (by kernel_rfl) (fun _ _ _ h => h) rfl ?_ (HS0.out) ?_
    · intro w' hw'; obtain ⟨s0, s1, s2⟩ := hw'; go_simp
    simp only [Act.put, List.setIfInBounds_toArray, List.set_cons_succ, List.set_cons_zero]
    refine held_yield (i := 8) 142 (.agg #[.slice (some ⟨V, 0, none⟩) k1.length cap, .int .i64 torn, .int .i64 cut]) rfl rfl (by kernel_rfl) (by kernel_rfl) (by kernel_rfl) (fun _ _ _ h => h) rfl ?_ (HS0.out) ?_
    · intro w' hw'; obtain ⟨s0, s1, s2⟩ := hw'; go_simp
    simp only [Act.put, List.setIfInBounds_toArray, List.set_cons_succ, List.set_cons_zero]
    refine held_yield (i := 10) 144 (.pointer (some ⟨x, 0, none⟩)) rfl rfl (by kernel_rfl) (by kernel_rfl) (by kernel_rfl) (fun _ _ _ h => h) rfl ?_ (HS0.out) ?_
    · intro w' hw'; obtain ⟨s0, s1, s2⟩ := hw'; go_simp
    simp only [Act.put, List.setIfInBounds_toArray, List.set_cons_succ, List.set_cons_zero]
    refine held_yield (i := 11) 145 (.pointer (some ⟨w.heap.size, 4, none⟩)) rfl rfl (by kernel_rfl) (by kernel_rfl) (by kernel_rfl) (fun _ _ _ h => h) rfl ?_ (HS0.out) ?_
    · intro w' hw'; obtain ⟨s0, s1, s2⟩ := hw'; go_simp
    simp only [Act.put, List.setIfInBounds_toArray, List.set_cons_succ, List.set_cons_zero]
    refine held_yield (i := 12) 146 (.slice Ak keep.length ck) rfl rfl (by kernel_rfl) (by kernel_rfl) (by kernel_rfl) (fun _ _ _ h => h) rfl ?_ (HS0.out) ?_
    · intro w' hw'; obtain ⟨s0, s1, s2⟩ := hw'; go_simp
    simp only [Act.put, List.setIfInBounds_toArray, List.set_cons_succ, List.set_cons_zero]
    refine held_yield (i := 13) 147 (.pointer (some ⟨w.heap.size, 5, none⟩)) rfl rfl (by kernel_rfl) (by kernel_rfl) (by kernel_rfl) (fun _ _ _ h => h) rfl ?_ (HS0.out) ?_
    · intro w' hw'; obtain ⟨s0, s1, s2⟩ := hw'; go_simp
    simp only [Act.put, List.setIfInBounds_toArray, List.set_cons_succ, List.set_cons_zero]
    refine held_yield (i := 14) 148 (.int .i64 torn) rfl rfl (by kernel_rfl) (by kernel_rfl) (by kernel_rfl) (fun _ _ _ h => h) rfl ?_ (HS0.out) ?_
    · intro w' hw'; obtain ⟨s0, s1, s2⟩ := hw'; go_simp
    simp only [Act.put, List.setIfInBounds_toArray, List.set_cons_succ, List.set_cons_zero]
    refine held_yield (i := 15) 149 (.pointer (some ⟨w.heap.size, 6, none⟩)) rfl rfl (by kernel_rfl) (by kernel_rfl) (by kernel_rfl) (fun _ _ _ h => h) rfl ?_ (HS0.out) ?_
    · intro w' hw'; obtain ⟨s0, s1, s2⟩ := hw'; go_simp
    simp only [Act.put, List.setIfInBounds_toArray, List.set_cons_succ, List.set_cons_zero]
    refine held_yield (i := 16) 150 (.int .i64 cut) rfl rfl (by kernel_rfl) (by kernel_rfl) (by kernel_rfl) (fun _ _ _ h => h) rfl ?_ (HS0.out) ?_
    · intro w' hw'; obtain ⟨s0, s1, s2⟩ := hw'; go_simp
    simp only [Act.put, List.setIfInBounds_toArray, List.set_cons_succ, List.set_cons_zero]
    refine held_yield (i := 17) 151 (.agg #[.slice Ak keep.length ck, .int .i64 torn, .int .i64 cut]) rfl rfl (by kernel_rfl) (by kernel_rfl) (by kernel_rfl) (fun _ _ _ h => h) rfl ?_ (HS0.out) ?_
    · intro w' hw'; obtain ⟨s0, s1, s2⟩ := hw'; go_simp
    simp only [Act.put, List.setIfInBounds_toArray, List.set_cons_succ, List.set_cons_zero]
    refine held_one (i := 9) (by kernel_rfl) rfl rfl ?_
    intro K hK
    go_simp
    refine HCR.out.mono ?_
    rintro e w3 ⟨rfl, g3⟩
    obtain ⟨S3, t3, fr3⟩ := T2d.out.goesD g3
    have hs3 := HSb.out S w3 (((Fr.refl S w2).drew).trans fr3 (fun _ _ e => e)) HFar.out.1
    have HS3 := Lib.hid hs3
    have T3 := Lib.hid t3
    have BB3 := Lib.hid (BB2.out.trans (T2d.out.belowD fr3))
    have HK3 := Lib.hid (HK2.out.keep fr3 (fun k hk q => by have hk : k < B := hk; have := T2d.out.news k (.inl q); omega))
    have F3 := Lib.hid fr3
    refine hK _ _ hs3 ?_
    clear hK K g3 t3 fr3 hs3
    refine held_one (i := 18) (by kernel_rfl) rfl rfl ?_
    intro K hK
    go_simp
    have hcr := rcrash_full w3 X I (fun k => k < B) x d T3.out.ref HF.out (.slice Ak keep.length ck) ⟨keep, torn, cut⟩ HK3.out (fun k hk q => by have hk : k < B := hk; have := T3.out.news k (.inr (.inr (.inl q))); omega)
    unfold planV at hcr
    refine hcr.mono ?_
    clear hcr
    rintro e w4 ⟨rfl, g4⟩
    obtain ⟨X4, I4, t4, fr4⟩ := T3.out.goesX g4
    have hs4 := HSb.out (fun k => S k ∨ X k) w4 ((((Fr.refl (fun k => S k ∨ X k) w2).drew).trans F3.out (fun _ _ e => .inl e)).trans fr4 (fun _ _ e => .inr e)) (fun e => e.elim HFar.out.1 HFar.out.2.2.1)
    have HS4 := Lib.hid hs4
    have T4 := Lib.hid t4
    have BB4 := Lib.hid (BB3.out.trans (T3.out.belowX fr4))
    refine hK _ _ hs4 ?_
    clear hK K g4 t4 fr4 hs4
    generalize d.cErr ⟨keep, torn, cut⟩ = er at *
    refine held_yield (i := 19) 153 (.bool true) rfl rfl (by kernel_rfl) (by kernel_rfl) (by kernel_rfl) (fun _ _ _ h => h) rfl ?_ (HS4.out) ?_
    · intro w' hw'; skip; go_simp
    simp only [Act.put, List.setIfInBounds_toArray, List.set_cons_succ, List.set_cons_zero]
    refine held_yield (i := 20) 6 (.pointer (some ⟨b, 0, none⟩)) rfl rfl (by kernel_rfl) (by kernel_rfl) (by kernel_rfl) (fun _ _ _ h => h) rfl ?_ (HS4.out) ?_
    · intro w' hw'; skip; go_simp
    simp only [Act.put, List.setIfInBounds_toArray, List.set_cons_succ, List.set_cons_zero]
    refine held_yield (i := 21) 7 (.pointer (some ⟨x, 0, none⟩)) rfl rfl (by kernel_rfl) (by kernel_rfl) (by kernel_rfl) (fun _ _ _ h => h) rfl ?_ (HS4.out) ?_
    · intro w' hw'; skip; go_simp
    simp only [Act.put, List.setIfInBounds_toArray, List.set_cons_succ, List.set_cons_zero]
    refine held_yield (i := 22) 8 (.bool true) rfl rfl (by kernel_rfl) (by kernel_rfl) (by kernel_rfl) (fun _ _ _ h => h) rfl ?_ (HS4.out) ?_
    · intro w' hw'; skip; go_simp
    simp only [Act.put, List.setIfInBounds_toArray, List.set_cons_succ, List.set_cons_zero]
    refine wpAnyH_done (by kernel_rfl) ?_ 0
    go_wp2_with fail
    go_ret3
    exact ⟨b, x, d.cTo ⟨keep, torn, cut⟩, S3, R, X4, I4, rfl, T4.out, BB4.out, grows_c d _⟩
  · have e100 : ¬ (100 : Int) < keep.length := by omega
    have hkt : k1.length = keep.length := by rw [hk1, List.length_take]; omega
    have HKT := Lib.hid hkt
    have f1 : Fr noB w ((w.alloc (.cells #[.int .i64 3, .int .i64 at_, .slice A l.length c, .bool whole, .slice Ak keep.length ck, .int .i64 torn, .int .i64 cut] 37)).alloc (.cells #[] 4)) := ((Fr.refl noB w).alloc _).alloc _
    have hkk : KeepAt ((w.alloc (.cells #[.int .i64 3, .int .i64 at_, .slice A l.length c, .bool whole, .slice Ak keep.length ck, .int .i64 torn, .int .i64 cut] 37)).alloc (.cells #[] 4)) (fun k => k < B) (.slice Ak k1.length ck) k1 := HK1.out.keep f1 (fun _ _ e => e)
    rw [hkt] at hkk
    have HEQ := Lib.hid hk1
    have HKK := Lib.hid hkk
    have hE : Has ((w.alloc (.cells #[.int .i64 3, .int .i64 at_, .slice A l.length c, .bool whole, .slice Ak keep.length ck, .int .i64 torn, .int .i64 cut] 37)).alloc (.cells #[] 4)) (w.heap.size + 1) 4 #[] := by
      have := Has.of_alloc (w.alloc (.cells #[.int .i64 3, .int .i64 at_, .slice A l.length c, .bool whole, .slice Ak keep.length ck, .int .i64 torn, .int .i64 cut] 37)) 4 #[]
      simpa using this
    have hX : Has ((w.alloc (.cells #[.int .i64 3, .int .i64 at_, .slice A l.length c, .bool whole, .slice Ak keep.length ck, .int .i64 torn, .int .i64 cut] 37)).alloc (.cells #[] 4)) w.heap.size 37 #[.int .i64 3, .int .i64 at_, .slice A l.length c, .bool whole, .slice Ak keep.length ck, .int .i64 torn, .int .i64 cut] := (Has.of_alloc _ _ _).alloc _
    have HE := Lib.hid hE
    have HX := Lib.hid hX
    have F1 := Lib.hid f1
    have HSZ : Hid (((w.alloc (.cells #[.int .i64 3, .int .i64 at_, .slice A l.length c, .bool whole, .slice Ak keep.length ck, .int .i64 torn, .int .i64 cut] 37)).alloc (.cells #[] 4)).heap.size = w.heap.size + 2) := Lib.hid (by simp)
    clear hE hX f1 hkk hkt hk1
    go_enter Try.func11, Try.ntmps11
    go_wp2_with (first
      | (at_builtin; refine wpList_append_bools' rfl (.tmp 29) (.tmp 36) rfl (w.heap.size + 1) rfl HE.out _ _ k1 rfl HKK.out ?_; intro V cap w2 O2 F2 V2; have b2 : Hid (Has w2 w.heap.size 37 #[.int .i64 3, .int .i64 at_, .slice A l.length c, .bool whole, .slice Ak keep.length ck, .int .i64 torn, .int .i64 cut]) := Lib.hid (HX.out.keep F2.out (fun e => by have e : w.heap.size = w.heap.size + 1 := e; omega)); have x0 : w2.cell? ⟨w.heap.size, 0, none⟩ = some (.int .i64 3) := b2.out.cell 0; have x1 : w2.cell? ⟨w.heap.size, 1, none⟩ = some (.int .i64 at_) := b2.out.cell 1; have x4 : w2.cell? ⟨w.heap.size, 4, none⟩ = some (.slice Ak keep.length ck) := b2.out.cell 4; have x5 : w2.cell? ⟨w.heap.size, 5, none⟩ = some (.int .i64 torn) := b2.out.cell 5; have x6 : w2.cell? ⟨w.heap.size, 6, none⟩ = some (.int .i64 cut) := b2.out.cell 6; have B2 : Hid (Below w.heap.size w w2) := Lib.hid ((F1.out.below (Nat.le_refl _) (fun _ e => e.elim)).trans (F2.out.below (by have := HSZ.out; omega) (fun k e => by have e : k = w.heap.size + 1 := e; omega))); have T2 : Hid (Two B w2 b x d d S R X I) := Lib.hid (H.out.next B2.out); have hVn : Hid (w.heap.size + 1 ≤ V) := Lib.hid (by rcases V2.out with q | q; omega; have := HSZ.out; omega); clear HE HX F1 HSZ F2 V2 HKK e100 h100 hcI)
      | fail)
    have HSb : Hid (∀ (T : Nat → Prop) (w' : World), Fr T w2 w' → ¬ T w.heap.size → w'.cell? ⟨w.heap.size, 4, none⟩ = some (.slice Ak keep.length ck) ∧ w'.cell? ⟨w.heap.size, 5, none⟩ = some (.int .i64 torn) ∧ w'.cell? ⟨w.heap.size, 6, none⟩ = some (.int .i64 cut)) :=
      Lib.hid (fun T w' f ht => ⟨(World.cell?_of_block (f.old _ b2.out.lt ht)).trans x4, (World.cell?_of_block (f.old _ b2.out.lt ht)).trans x5, (World.cell?_of_block (f.old _ b2.out.lt ht)).trans x6⟩)
    have hS0 := HSb.out noB w2.drew ((Fr.refl noB w2).drew) (fun e => e)
    have HS0 := Lib.hid hS0
    have hbox := H.out.far w.heap.size (.inl (Nat.le_refl _))
    have HFar := Lib.hid hbox
    have hV := H.out.far V (.inl (by have := hVn.out; omega))
    have b2d : Below w2.heap.size w2 w2.drew := (Below.refl _ _).drew
    have hkd := (O2.out.keep ((Fr.refl noB w2).drew) (fun e => e)).keepAt (cap := cap) (by have := HK1.out; obtain ⟨_, _, _, q, _⟩ := this; exact q)
    have hcr : Calls Try.prog 16 #[.pointer (some ⟨b, 0, none⟩), .agg #[.slice (some ⟨V, 0, none⟩) k1.length cap, .int .i64 torn, .int .i64 cut]] w2.drew fun e w' => e = .returned (.int .i64 (d.cErr ⟨keep, torn, cut⟩)) ∧ Goes S R b (d.cTo ⟨keep, torn, cut⟩) w2.drew w' := by
      have := crash_full w2.drew S R (oneB V) b d (T2.out.next b2d).disk HF.out _ ⟨k1, torn, cut⟩ hkd (fun k hk q => by
        have hk : k = V := hk
        rw [hk] at q
        exact hV.1 q)
      have e1 : (⟨k1, torn, cut⟩ : Dk.Pl) = (⟨keep, torn, cut⟩ : Dk.Pl).first := by rw [HEQ.out]; rfl
      rw [e1, Dk.St.cTo_first d _ (by have := HF.out.waits; omega), Dk.St.cErr_first] at this
      rw [← e1] at this
      exact this
    have HCR := Lib.hid hcr
    have T2d := Lib.hid (T2.out.next b2d)
    have hk2 := (HK.out.keep (Fr.of_below B2.out noB) (fun _ _ e => e)).keep ((Fr.refl noB w2).drew) (fun _ _ e => e)
    have HK2 := Lib.hid hk2
    have BB2 : Hid (Below B w w2.drew) := Lib.hid ((B2.out.mono H.out.size).trans (b2d.mono T2.out.size))
    clear x0 x1 x4 x5 x6 hS0 hbox hV b2d hkd hcr hk2
    refine wp_region_held (S := fun w' => w'.cell? ⟨w.heap.size, 4, none⟩ = some (.slice Ak keep.length ck) ∧ w'.cell? ⟨w.heap.size, 5, none⟩ = some (.int .i64 torn) ∧ w'.cell? ⟨w.heap.size, 6, none⟩ = some (.int .i64 cut)) (by kernel_rfl) ?_
    change wpAnyH _ _ _ _ _ _ _ _ (World.drew _)
    refine held_yield (i := 0) 134 (.pointer (some ⟨b, 0, none⟩)) rfl rfl (by kernel_rfl) (by kernel_rfl) (by kernel_rfl) (fun _ _ _ h => h) rfl ?_ (HS0.out) ?_
    · intro w' hw'; obtain ⟨s0, s1, s2⟩ := hw'; go_simp
    simp only [Act.put, List.setIfInBounds_toArray, List.set_cons_succ, List.set_cons_zero]
    refine held_yield (i := 1) 135 (.pointer (some ⟨x, 0, none⟩)) rfl rfl (by kernel_rfl) (by kernel_rfl) (by kernel_rfl) (fun _ _ _ h => h) rfl ?_ (HS0.out) ?_
    · intro w' hw'; obtain ⟨s0, s1, s2⟩ := hw'; go_simp
    simp only [Act.put, List.setIfInBounds_toArray, List.set_cons_succ, List.set_cons_zero]
    refine held_yield (i := 2) 136 (.pointer (some ⟨b, 0, none⟩)) rfl rfl (by kernel_rfl) (by kernel_rfl) (by kernel_rfl) (fun _ _ _ h => h) rfl ?_ (HS0.out) ?_
    · intro w' hw'; obtain ⟨s0, s1, s2⟩ := hw'; go_simp
    simp only [Act.put, List.setIfInBounds_toArray, List.set_cons_succ, List.set_cons_zero]
    refine held_yield (i := 3) 137 (.slice (some ⟨V, 0, none⟩) k1.length cap) rfl rfl (by kernel_rfl) (by kernel_rfl) (by kernel_rfl) (fun _ _ _ h => h) rfl ?_ (HS0.out) ?_
    · intro w' hw'; obtain ⟨s0, s1, s2⟩ := hw'; go_simp
    simp only [Act.put, List.setIfInBounds_toArray, List.set_cons_succ, List.set_cons_zero]
    refine held_yield (i := 4) 138 (.pointer (some ⟨w.heap.size, 5, none⟩)) rfl rfl (by kernel_rfl) (by kernel_rfl) (by kernel_rfl) (fun _ _ _ h => h) rfl ?_ (HS0.out) ?_
    · intro w' hw'; obtain ⟨s0, s1, s2⟩ := hw'; go_simp
    simp only [Act.put, List.setIfInBounds_toArray, List.set_cons_succ, List.set_cons_zero]
    refine held_yield (i := 5) 139 (.int .i64 torn) rfl rfl (by kernel_rfl) (by kernel_rfl) (by kernel_rfl) (fun _ _ _ h => h) rfl ?_ (HS0.out) ?_
    · intro w' hw'; obtain ⟨s0, s1, s2⟩ := hw'; go_simp
    simp only [Act.put, List.setIfInBounds_toArray, List.set_cons_succ, List.set_cons_zero]
    refine held_yield (i := 6) 140 (.pointer (some ⟨w.heap.size, 6, none⟩)) rfl rfl (by kernel_rfl) (by kernel_rfl) (by kernel_rfl) (fun _ _ _ h => h) rfl ?_ (HS0.out) ?_
    · intro w' hw'; obtain ⟨s0, s1, s2⟩ := hw'; go_simp
    simp only [Act.put, List.setIfInBounds_toArray, List.set_cons_succ, List.set_cons_zero]
    refine held_yield (i := 7) 141 (.int .i64 cut) rfl rfl (by kernel_rfl) (by kernel_rfl) (by kernel_rfl) (fun _ _ _ h => h) rfl ?_ (HS0.out) ?_
    · intro w' hw'; obtain ⟨s0, s1, s2⟩ := hw'; go_simp
    simp only [Act.put, List.setIfInBounds_toArray, List.set_cons_succ, List.set_cons_zero]
    refine held_yield (i := 8) 142 (.agg #[.slice (some ⟨V, 0, none⟩) k1.length cap, .int .i64 torn, .int .i64 cut]) rfl rfl (by kernel_rfl) (by kernel_rfl) (by kernel_rfl) (fun _ _ _ h => h) rfl ?_ (HS0.out) ?_
    · intro w' hw'; obtain ⟨s0, s1, s2⟩ := hw'; go_simp
    simp only [Act.put, List.setIfInBounds_toArray, List.set_cons_succ, List.set_cons_zero]
    refine held_yield (i := 10) 144 (.pointer (some ⟨x, 0, none⟩)) rfl rfl (by kernel_rfl) (by kernel_rfl) (by kernel_rfl) (fun _ _ _ h => h) rfl ?_ (HS0.out) ?_
    · intro w' hw'; obtain ⟨s0, s1, s2⟩ := hw'; go_simp
    simp only [Act.put, List.setIfInBounds_toArray, List.set_cons_succ, List.set_cons_zero]
    refine held_yield (i := 11) 145 (.pointer (some ⟨w.heap.size, 4, none⟩)) rfl rfl (by kernel_rfl) (by kernel_rfl) (by kernel_rfl) (fun _ _ _ h => h) rfl ?_ (HS0.out) ?_
    · intro w' hw'; obtain ⟨s0, s1, s2⟩ := hw'; go_simp
    simp only [Act.put, List.setIfInBounds_toArray, List.set_cons_succ, List.set_cons_zero]
    refine held_yield (i := 12) 146 (.slice Ak keep.length ck) rfl rfl (by kernel_rfl) (by kernel_rfl) (by kernel_rfl) (fun _ _ _ h => h) rfl ?_ (HS0.out) ?_
    · intro w' hw'; obtain ⟨s0, s1, s2⟩ := hw'; go_simp
    simp only [Act.put, List.setIfInBounds_toArray, List.set_cons_succ, List.set_cons_zero]
    refine held_yield (i := 13) 147 (.pointer (some ⟨w.heap.size, 5, none⟩)) rfl rfl (by kernel_rfl) (by kernel_rfl) (by kernel_rfl) (fun _ _ _ h => h) rfl ?_ (HS0.out) ?_
    · intro w' hw'; obtain ⟨s0, s1, s2⟩ := hw'; go_simp
    simp only [Act.put, List.setIfInBounds_toArray, List.set_cons_succ, List.set_cons_zero]
    refine held_yield (i := 14) 148 (.int .i64 torn) rfl rfl (by kernel_rfl) (by kernel_rfl) (by kernel_rfl) (fun _ _ _ h => h) rfl ?_ (HS0.out) ?_
    · intro w' hw'; obtain ⟨s0, s1, s2⟩ := hw'; go_simp
    simp only [Act.put, List.setIfInBounds_toArray, List.set_cons_succ, List.set_cons_zero]
    refine held_yield (i := 15) 149 (.pointer (some ⟨w.heap.size, 6, none⟩)) rfl rfl (by kernel_rfl) (by kernel_rfl) (by kernel_rfl) (fun _ _ _ h => h) rfl ?_ (HS0.out) ?_
    · intro w' hw'; obtain ⟨s0, s1, s2⟩ := hw'; go_simp
    simp only [Act.put, List.setIfInBounds_toArray, List.set_cons_succ, List.set_cons_zero]
    refine held_yield (i := 16) 150 (.int .i64 cut) rfl rfl (by kernel_rfl) (by kernel_rfl) (by kernel_rfl) (fun _ _ _ h => h) rfl ?_ (HS0.out) ?_
    · intro w' hw'; obtain ⟨s0, s1, s2⟩ := hw'; go_simp
    simp only [Act.put, List.setIfInBounds_toArray, List.set_cons_succ, List.set_cons_zero]
    refine held_yield (i := 17) 151 (.agg #[.slice Ak keep.length ck, .int .i64 torn, .int .i64 cut]) rfl rfl (by kernel_rfl) (by kernel_rfl) (by kernel_rfl) (fun _ _ _ h => h) rfl ?_ (HS0.out) ?_
    · intro w' hw'; obtain ⟨s0, s1, s2⟩ := hw'; go_simp
    simp only [Act.put, List.setIfInBounds_toArray, List.set_cons_succ, List.set_cons_zero]
    refine held_one (i := 9) (by kernel_rfl) rfl rfl ?_
    intro K hK
    go_simp
    refine HCR.out.mono ?_
    rintro e w3 ⟨rfl, g3⟩
    obtain ⟨S3, t3, fr3⟩ := T2d.out.goesD g3
    have hs3 := HSb.out S w3 (((Fr.refl S w2).drew).trans fr3 (fun _ _ e => e)) HFar.out.1
    have HS3 := Lib.hid hs3
    have T3 := Lib.hid t3
    have BB3 := Lib.hid (BB2.out.trans (T2d.out.belowD fr3))
    have HK3 := Lib.hid (HK2.out.keep fr3 (fun k hk q => by have hk : k < B := hk; have := T2d.out.news k (.inl q); omega))
    have F3 := Lib.hid fr3
    refine hK _ _ hs3 ?_
    clear hK K g3 t3 fr3 hs3
    refine held_one (i := 18) (by kernel_rfl) rfl rfl ?_
    intro K hK
    go_simp
    have hcr := rcrash_full w3 X I (fun k => k < B) x d T3.out.ref HF.out (.slice Ak keep.length ck) ⟨keep, torn, cut⟩ HK3.out (fun k hk q => by have hk : k < B := hk; have := T3.out.news k (.inr (.inr (.inl q))); omega)
    unfold planV at hcr
    refine hcr.mono ?_
    clear hcr
    rintro e w4 ⟨rfl, g4⟩
    obtain ⟨X4, I4, t4, fr4⟩ := T3.out.goesX g4
    have hs4 := HSb.out (fun k => S k ∨ X k) w4 ((((Fr.refl (fun k => S k ∨ X k) w2).drew).trans F3.out (fun _ _ e => .inl e)).trans fr4 (fun _ _ e => .inr e)) (fun e => e.elim HFar.out.1 HFar.out.2.2.1)
    have HS4 := Lib.hid hs4
    have T4 := Lib.hid t4
    have BB4 := Lib.hid (BB3.out.trans (T3.out.belowX fr4))
    refine hK _ _ hs4 ?_
    clear hK K g4 t4 fr4 hs4
    generalize d.cErr ⟨keep, torn, cut⟩ = er at *
    refine held_yield (i := 19) 153 (.bool true) rfl rfl (by kernel_rfl) (by kernel_rfl) (by kernel_rfl) (fun _ _ _ h => h) rfl ?_ (HS4.out) ?_
    · intro w' hw'; skip; go_simp
    simp only [Act.put, List.setIfInBounds_toArray, List.set_cons_succ, List.set_cons_zero]
    refine held_yield (i := 20) 6 (.pointer (some ⟨b, 0, none⟩)) rfl rfl (by kernel_rfl) (by kernel_rfl) (by kernel_rfl) (fun _ _ _ h => h) rfl ?_ (HS4.out) ?_
    · intro w' hw'; skip; go_simp
    simp only [Act.put, List.setIfInBounds_toArray, List.set_cons_succ, List.set_cons_zero]
    refine held_yield (i := 21) 7 (.pointer (some ⟨x, 0, none⟩)) rfl rfl (by kernel_rfl) (by kernel_rfl) (by kernel_rfl) (fun _ _ _ h => h) rfl ?_ (HS4.out) ?_
    · intro w' hw'; skip; go_simp
    simp only [Act.put, List.setIfInBounds_toArray, List.set_cons_succ, List.set_cons_zero]
    refine held_yield (i := 22) 8 (.bool true) rfl rfl (by kernel_rfl) (by kernel_rfl) (by kernel_rfl) (fun _ _ _ h => h) rfl ?_ (HS4.out) ?_
    · intro w' hw'; skip; go_simp
    simp only [Act.put, List.setIfInBounds_toArray, List.set_cons_succ, List.set_cons_zero]
    refine wpAnyH_done (by kernel_rfl) ?_ 0
    go_wp2_with fail
    go_ret3
    exact ⟨b, x, d.cTo ⟨keep, torn, cut⟩, S3, R, X4, I4, rfl, T4.out, BB4.out, grows_c d _⟩
end Go.Proofs.Ytpgpalnnmoanpaa

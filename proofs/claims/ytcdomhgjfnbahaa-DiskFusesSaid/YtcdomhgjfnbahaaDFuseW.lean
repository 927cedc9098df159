/-
  DiskFuses: a fuse crashes a disk as a crash at that moment would.
-/
import Derived.Test.YtcdomhgjfnbahaaDFuseB
import Derived.Test.YtcdomhgjfnbahaaDLastW
import Derived.StillTailTactics
import Derived.Deep.CutRange
import Derived.Deep.CutBlock
namespace Go.Proofs.Ytcdomhgjfnbahaa
open Go.RowKit Go.Maps

theorem fuse_of (n : Int) : ∃ m : Nat, m < 100 ∧ wrap64 ((IntKind.u64.wrap n).tmod 100) = (m : Int) := by
  have h0 : 0 ≤ IntKind.u64.wrap n := by rw [IntKind.wrap_u64]; exact Int.emod_nonneg _ (by omega)
  have h1 : 0 ≤ (IntKind.u64.wrap n).tmod 100 := Int.tmod_nonneg _ h0
  have h2 : (IntKind.u64.wrap n).tmod 100 < 100 := Int.tmod_lt_of_pos _ (by omega)
  generalize (IntKind.u64.wrap n).tmod 100 = r at *
  exact ⟨r.toNat, by omega, by rw [IntWalk.wrap64_in r ⟨by omega, by omega⟩]; omega⟩

set_option maxHeartbeats 1600000 in
set_option maxRecDepth 100000 in
theorem fuses_any (W : World) (n : Int) (lv : Value) (ls : List Put) (hl : PutsAt W lv ls) (pv : Value) (p : Dk.Pl) (hp : KeepAt W (fun k => k < W.heap.size) pv p.keep) (hp0 : 0 ≤ p.cut) (hp1 : p.cut ≤ 128) :
    Calls Try.prog 6 #[lv, .int .i64 n, planV pv p] W fun e w' => e = .returned (.bool true) ∧ Below W.heap.size W w' := by
  unfold planV
  obtain ⟨A, c, rfl, hlen, hcl⟩ := hl
  have HC := Lib.hid hcl
  have HP := Lib.hid hp
  have hkl : p.keep.length ≤ 140737488355328 := by obtain ⟨_, _, _, h, _⟩ := hp; exact h
  clear hcl hp
  have hg0 : decide (p.cut < 0) = false := decide_eq_false (by omega)
  have hg1 : decide (128 < p.cut) = false := decide_eq_false (by omega)
  go_enter Try.func6, Try.ntmps6
  go_wp2_with fail
  have hb0 : Below W.heap.size W (W.alloc (.cells #[pv, .int .i64 p.torn, .int .i64 p.cut] 46)) := (Below.refl _ _).alloc (Nat.le_refl _) _
  have hP0 := Has.of_alloc W 46 #[pv, .int .i64 p.torn, .int .i64 p.cut]
  have hz0 : (W.alloc (.cells #[pv, .int .i64 p.torn, .int .i64 p.cut] 46)).heap.size = W.heap.size + 1 := by simp
  generalize (W.alloc (.cells #[pv, .int .i64 p.torn, .int .i64 p.cut] 46)) = w0 at *
  refine (awake_any w0).mono ?_
  rintro e w1 ⟨rfl, hb1⟩
  have HP1 := Lib.hid (hP0.keep (Fr.of_below hb1 noB) (fun h => h))
  have HB1 := Lib.hid (hb0.trans (hb1.mono (by omega)))
  have hs1 := hb1.size
  clear hb1 hP0 hb0
  go_wp2_with fail
  refine (new_any w1 7 (by omega) (by omega)).mono ?_
  rintro e w2 ⟨b, S, rfl, hd, hb, hs⟩
  have Y2 := Lib.hid (Sys.made HB1.out hd hb hs)
  have HP2 := Lib.hid (HP1.out.keep (Fr.of_below hb noB) (fun h => h))
  have HS2 := Lib.hid hs
  clear hd hb hs HB1 HP1
  unfold ptr
  go_wp2_with fail
  refine (new_any w2 7 (by omega) (by omega)).mono ?_
  rintro e w3 ⟨bx, X, rfl, hd, hb, hs⟩
  have hM : FMem W b bx pv p (Dk.made 7) (Dk.made 7) S noB X w3 := ⟨Y2.out.next hb, Sys.made Y2.out.below hd hb hs, HP2.out.keep (Fr.of_below hb noB) (fun h => h),
    fun k hk => ⟨fun e => by have := hs k hk; have := Y2.out.disk.lt k e; omega, fun e => e⟩, fun e => by have := HS2.out _ e; omega, fun e => by have := hs _ e; have := HP2.out.lt; omega⟩
  have HM := Lib.hid hM
  clear hd hb hs hM HS2 HP2 Y2
  unfold ptr
  go_wp2_with fail
  obtain ⟨m, hm, hmn⟩ := fuse_of n
  rw [hmn]
  clear hmn
  have hlo : W.heap.size < w3.heap.size := HM.out.plan.lt
  go_cut [11] from 54 to 62 (fun v wc => ∃ PB V cap, v = .pointer (some ⟨PB, 0, none⟩) ∧ OwnAt w3.heap.size p p.keep PB V cap wc ∧ Below w3.heap.size w3 wc)
  case first =>
    have hS : Has w3.drew W.heap.size 46 #[pv, .int .i64 p.torn, .int .i64 p.cut] := HM.out.plan
    have HS := Lib.hid hS
    have HP3 := Lib.hid (HM.out.keep HP.out)
    clear hS
    refine wp_region_held (S := fun w' => Has w' W.heap.size 46 #[pv, .int .i64 p.torn, .int .i64 p.cut]) (by kernel_rfl) ?_
    change wpAnyH _ _ _ _ _ _ _ _ (World.drew _)
    refine held_yield (i := 1) 55 (.pointer (some ⟨W.heap.size, 0, none⟩)) rfl rfl (by kernel_rfl) (by kernel_rfl) (by kernel_rfl) (fun _ _ _ h => h) rfl ?_ HS.out ?_
    · intro w' hw'; go_simp
    simp only [Act.put, List.setIfInBounds_toArray, List.set_cons_succ, List.set_cons_zero]
    refine held_yield (i := 2) 56 (pv) rfl rfl (by kernel_rfl) (by kernel_rfl) (by kernel_rfl) (fun _ _ _ h => h) rfl ?_ HS.out ?_
    · intro w' hw'; have t0 : w'.cell? ⟨W.heap.size, 0, none⟩ = some pv := hw'.cell 0; go_simp
    simp only [Act.put, List.setIfInBounds_toArray, List.set_cons_succ, List.set_cons_zero]
    refine held_yield (i := 4) 58 (.pointer (some ⟨W.heap.size, 1, none⟩)) rfl rfl (by kernel_rfl) (by kernel_rfl) (by kernel_rfl) (fun _ _ _ h => h) rfl ?_ HS.out ?_
    · intro w' hw'; go_simp
    simp only [Act.put, List.setIfInBounds_toArray, List.set_cons_succ, List.set_cons_zero]
    refine held_yield (i := 5) 59 (.int .i64 p.torn) rfl rfl (by kernel_rfl) (by kernel_rfl) (by kernel_rfl) (fun _ _ _ h => h) rfl ?_ HS.out ?_
    · intro w' hw'; have t0 : w'.cell? ⟨W.heap.size, 1, none⟩ = some (.int .i64 p.torn) := hw'.cell 1; go_simp
    simp only [Act.put, List.setIfInBounds_toArray, List.set_cons_succ, List.set_cons_zero]
    refine held_yield (i := 6) 60 (.pointer (some ⟨W.heap.size, 2, none⟩)) rfl rfl (by kernel_rfl) (by kernel_rfl) (by kernel_rfl) (fun _ _ _ h => h) rfl ?_ HS.out ?_
    · intro w' hw'; go_simp
    simp only [Act.put, List.setIfInBounds_toArray, List.set_cons_succ, List.set_cons_zero]
    refine held_yield (i := 7) 61 (.int .i64 p.cut) rfl rfl (by kernel_rfl) (by kernel_rfl) (by kernel_rfl) (fun _ _ _ h => h) rfl ?_ HS.out ?_
    · intro w' hw'; have t0 : w'.cell? ⟨W.heap.size, 2, none⟩ = some (.int .i64 p.cut) := hw'.cell 2; go_simp
    simp only [Act.put, List.setIfInBounds_toArray, List.set_cons_succ, List.set_cons_zero]
    have hs3 : Has w3 W.heap.size 46 #[pv, .int .i64 p.torn, .int .i64 p.cut] := HS.out
    have hbl3 : Below w3.heap.size w3 w3 := Below.refl _ _
    have hk3 := HP3.out
    refine held_two (i := 0) (j := 9) (by kernel_rfl) rfl rfl rfl rfl ?_ ?_
    · intro K hK
      go_simp
      have hs4 : Has (w3.alloc (.cells #[] 4)).drew W.heap.size 46 #[pv, .int .i64 p.torn, .int .i64 p.cut] := hs3.alloc _
      refine hK _ _ hs4 ?_
      clear hK K
      have hn4 : Has (w3.alloc (.cells #[] 4)).drew w3.heap.size _ _ := Has.of_alloc w3 _ _
      have hf4 : Below w3.heap.size w3 (w3.alloc (.cells #[] 4)).drew := ((Below.refl _ _).alloc (Nat.le_refl _) _).drew
      have hbl4 : Below w3.heap.size w3 (w3.alloc (.cells #[] 4)).drew := hbl3.trans (hf4.mono hbl3.size)
      have hk4 := hk3.keep (Fr.of_below hf4 noB) (fun _ _ e => e)
      have hle4 : w3.heap.size < (w3.alloc (.cells #[] 4)).drew.heap.size := by simp [World.drew]
      generalize (w3.alloc (.cells #[] 4)).drew = w4 at *
      have he4 := hn4
      clear hn4 hf4
      refine held_two (i := 3) (j := 9) (by kernel_rfl) rfl rfl rfl rfl ?_ ?_
      · intro K hK
        refine wp_append_bools _ _ rfl w3.heap.size rfl he4 _ pv p.keep rfl hk4 ?_
        intro V cap w5 hrow5 hfr hV
        have hlv : w3.heap.size ≤ V := by have := hbl4.size; rcases hV with e | e <;> omega
        have hs5 := hs4.keep hfr (fun e => by have e : W.heap.size = w3.heap.size := e; omega)
        have hbl5 := hbl4.trans (hfr.below hbl4.size (fun k hk => by have hk : k = w3.heap.size := hk; omega))
        refine wp_of_dst (some 57) rfl _ ?_
        refine hK _ _ hs5 ?_
        clear hK K hfr hV
        simp only [Act.put, List.setIfInBounds_toArray, List.set_cons_succ, List.set_cons_zero]
        refine held_yield (i := 8) 62 (.agg #[.slice (some ⟨V, 0, none⟩) p.keep.length cap, .int .i64 p.torn, .int .i64 p.cut]) rfl rfl (by kernel_rfl) (by kernel_rfl) (by kernel_rfl) (fun _ _ _ h => h) rfl ?_ hs5 ?_
        · intro w' hw'; go_simp
        simp only [Act.put, List.setIfInBounds_toArray, List.set_cons_succ, List.set_cons_zero]
        refine held_one (i := 9) (by kernel_rfl) rfl rfl ?_
        intro K hK
        go_simp
        have hs6 : Has (w5.alloc (.cells #[Value.slice none 0 0, Value.int IntKind.i64 0, Value.int IntKind.i64 0] 46)) W.heap.size 46 #[pv, .int .i64 p.torn, .int .i64 p.cut] := hs5.alloc _
        refine hK _ _ hs6 ?_
        clear hK K
        have hn6 : Has (w5.alloc (.cells #[Value.slice none 0 0, Value.int IntKind.i64 0, Value.int IntKind.i64 0] 46)) w5.heap.size _ _ := Has.of_alloc w5 _ _
        have hf6 : Below w5.heap.size w5 (w5.alloc (.cells #[Value.slice none 0 0, Value.int IntKind.i64 0, Value.int IntKind.i64 0] 46)) := ((Below.refl _ _).alloc (Nat.le_refl _) _)
        have hbl6 : Below w3.heap.size w3 (w5.alloc (.cells #[Value.slice none 0 0, Value.int IntKind.i64 0, Value.int IntKind.i64 0] 46)) := hbl5.trans (hf6.mono hbl5.size)
        have hrow6 := hrow5.keep (Fr.of_below hf6 noB) (fun e => e)
        have hz5 := hbl5.size
        have hle6 : w5.heap.size < (w5.alloc (.cells #[Value.slice none 0 0, Value.int IntKind.i64 0, Value.int IntKind.i64 0] 46)).heap.size := by simp
        generalize (w5.alloc (.cells #[Value.slice none 0 0, Value.int IntKind.i64 0, Value.int IntKind.i64 0] 46)) = w6 at *
        have hpb6 := hn6
        clear hn6 hf6
        refine held_one (i := 10) (by kernel_rfl) rfl rfl ?_
        intro K hK
        refine wp_store_plan _ _ rfl w5.heap.size rfl _ _ _ rfl (by intro u hu; simp at hu; rcases hu with rfl | rfl | rfl <;> rfl) _ hpb6 rfl ?_
        intro wf hf0 hff
        have hO := own_fin (p := p) hrow6 hpb6 hf0 hff (show w3.heap.size ≤ w5.heap.size by omega) hlv
        have hblf := hbl6.trans (hff.below hbl6.size (fun k hk => by have hk : k = w5.heap.size := hk; omega))
        refine hK _ _ (hs6.keep hff (fun e => by have e : W.heap.size = w5.heap.size := e; omega)) ?_
        clear hK K
        refine wpAnyH_done (by kernel_rfl) ?_ 0
        go_wp2_with fail
        go_meet
        exact ⟨w5.heap.size, V, cap, rfl, hO, hblf⟩
      · intro K hK
        go_simp
        have hs5 : Has (w4.alloc (.cells #[Value.slice none 0 0, Value.int IntKind.i64 0, Value.int IntKind.i64 0] 46)) W.heap.size 46 #[pv, .int .i64 p.torn, .int .i64 p.cut] := hs4.alloc _
        refine hK _ _ hs5 ?_
        clear hK K
        have hn5 : Has (w4.alloc (.cells #[Value.slice none 0 0, Value.int IntKind.i64 0, Value.int IntKind.i64 0] 46)) w4.heap.size _ _ := Has.of_alloc w4 _ _
        have hf5 : Below w4.heap.size w4 (w4.alloc (.cells #[Value.slice none 0 0, Value.int IntKind.i64 0, Value.int IntKind.i64 0] 46)) := ((Below.refl _ _).alloc (Nat.le_refl _) _)
        have hbl5 : Below w3.heap.size w3 (w4.alloc (.cells #[Value.slice none 0 0, Value.int IntKind.i64 0, Value.int IntKind.i64 0] 46)) := hbl4.trans (hf5.mono hbl4.size)
        have hk5 := hk4.keep (Fr.of_below hf5 noB) (fun _ _ e => e)
        have hle5 : w4.heap.size < (w4.alloc (.cells #[Value.slice none 0 0, Value.int IntKind.i64 0, Value.int IntKind.i64 0] 46)).heap.size := by simp
        have he5 := he4.keep (Fr.of_below hf5 noB) (fun e => e)
        generalize (w4.alloc (.cells #[Value.slice none 0 0, Value.int IntKind.i64 0, Value.int IntKind.i64 0] 46)) = w5 at *
        have hpb5 := hn5
        clear hn5 hf5
        refine held_one (i := 3) (by kernel_rfl) rfl rfl ?_
        intro K hK
        refine wp_append_bools _ _ rfl w3.heap.size rfl he5 _ pv p.keep rfl hk5 ?_
        intro V cap w6 hrow6 hfr hV
        have hlv : w3.heap.size ≤ V := by have := hbl5.size; rcases hV with e | e <;> omega
        have hs6 := hs5.keep hfr (fun e => by have e : W.heap.size = w3.heap.size := e; omega)
        have hbl6 := hbl5.trans (hfr.below hbl5.size (fun k hk => by have hk : k = w3.heap.size := hk; omega))
        have hpb6 := hpb5.keep hfr (fun e => Has.apart hpb5 he5 (by decide) e)
        refine wp_of_dst (some 57) rfl _ ?_
        refine hK _ _ hs6 ?_
        clear hK K hfr hV
        simp only [Act.put, List.setIfInBounds_toArray, List.set_cons_succ, List.set_cons_zero]
        refine held_yield (i := 8) 62 (.agg #[.slice (some ⟨V, 0, none⟩) p.keep.length cap, .int .i64 p.torn, .int .i64 p.cut]) rfl rfl (by kernel_rfl) (by kernel_rfl) (by kernel_rfl) (fun _ _ _ h => h) rfl ?_ hs6 ?_
        · intro w' hw'; go_simp
        simp only [Act.put, List.setIfInBounds_toArray, List.set_cons_succ, List.set_cons_zero]
        refine held_one (i := 10) (by kernel_rfl) rfl rfl ?_
        intro K hK
        refine wp_store_plan _ _ rfl w4.heap.size rfl _ _ _ rfl (by intro u hu; simp at hu; rcases hu with rfl | rfl | rfl <;> rfl) _ hpb6 rfl ?_
        intro wf hf0 hff
        have hO := own_fin (p := p) hrow6 hpb6 hf0 hff (show w3.heap.size ≤ w4.heap.size by omega) hlv
        have hblf := hbl6.trans (hff.below hbl6.size (fun k hk => by have hk : k = w4.heap.size := hk; omega))
        refine hK _ _ (hs6.keep hff (fun e => by have e : W.heap.size = w4.heap.size := e; omega)) ?_
        clear hK K
        refine wpAnyH_done (by kernel_rfl) ?_ 0
        go_wp2_with fail
        go_meet
        exact ⟨w4.heap.size, V, cap, rfl, hO, hblf⟩
    · intro K hK
      go_simp
      have hs4 : Has (w3.alloc (.cells #[Value.slice none 0 0, Value.int IntKind.i64 0, Value.int IntKind.i64 0] 46)).drew W.heap.size 46 #[pv, .int .i64 p.torn, .int .i64 p.cut] := hs3.alloc _
      refine hK _ _ hs4 ?_
      clear hK K
      have hn4 : Has (w3.alloc (.cells #[Value.slice none 0 0, Value.int IntKind.i64 0, Value.int IntKind.i64 0] 46)).drew w3.heap.size _ _ := Has.of_alloc w3 _ _
      have hf4 : Below w3.heap.size w3 (w3.alloc (.cells #[Value.slice none 0 0, Value.int IntKind.i64 0, Value.int IntKind.i64 0] 46)).drew := ((Below.refl _ _).alloc (Nat.le_refl _) _).drew
      have hbl4 : Below w3.heap.size w3 (w3.alloc (.cells #[Value.slice none 0 0, Value.int IntKind.i64 0, Value.int IntKind.i64 0] 46)).drew := hbl3.trans (hf4.mono hbl3.size)
      have hk4 := hk3.keep (Fr.of_below hf4 noB) (fun _ _ e => e)
      have hle4 : w3.heap.size < (w3.alloc (.cells #[Value.slice none 0 0, Value.int IntKind.i64 0, Value.int IntKind.i64 0] 46)).drew.heap.size := by simp [World.drew]
      generalize (w3.alloc (.cells #[Value.slice none 0 0, Value.int IntKind.i64 0, Value.int IntKind.i64 0] 46)).drew = w4 at *
      have hpb4 := hn4
      clear hn4 hf4
      refine held_one (i := 0) (by kernel_rfl) rfl rfl ?_
      intro K hK
      go_simp
      have hs5 : Has (w4.alloc (.cells #[] 4)) W.heap.size 46 #[pv, .int .i64 p.torn, .int .i64 p.cut] := hs4.alloc _
      refine hK _ _ hs5 ?_
      clear hK K
      have hn5 : Has (w4.alloc (.cells #[] 4)) w4.heap.size _ _ := Has.of_alloc w4 _ _
      have hf5 : Below w4.heap.size w4 (w4.alloc (.cells #[] 4)) := ((Below.refl _ _).alloc (Nat.le_refl _) _)
      have hbl5 : Below w3.heap.size w3 (w4.alloc (.cells #[] 4)) := hbl4.trans (hf5.mono hbl4.size)
      have hk5 := hk4.keep (Fr.of_below hf5 noB) (fun _ _ e => e)
      have hle5 : w4.heap.size < (w4.alloc (.cells #[] 4)).heap.size := by simp
      have hpb5 := hpb4.keep (Fr.of_below hf5 noB) (fun e => e)
      generalize (w4.alloc (.cells #[] 4)) = w5 at *
      have he5 := hn5
      clear hn5 hf5
      refine held_one (i := 3) (by kernel_rfl) rfl rfl ?_
      intro K hK
      refine wp_append_bools _ _ rfl w4.heap.size rfl he5 _ pv p.keep rfl hk5 ?_
      intro V cap w6 hrow6 hfr hV
      have hlv : w3.heap.size ≤ V := by have := hbl5.size; rcases hV with e | e <;> omega
      have hs6 := hs5.keep hfr (fun e => by have e : W.heap.size = w4.heap.size := e; omega)
      have hbl6 := hbl5.trans (hfr.below hbl5.size (fun k hk => by have hk : k = w4.heap.size := hk; omega))
      have hpb6 := hpb5.keep hfr (fun e => Has.apart hpb5 he5 (by decide) e)
      refine wp_of_dst (some 57) rfl _ ?_
      refine hK _ _ hs6 ?_
      clear hK K hfr hV
      simp only [Act.put, List.setIfInBounds_toArray, List.set_cons_succ, List.set_cons_zero]
      refine held_yield (i := 8) 62 (.agg #[.slice (some ⟨V, 0, none⟩) p.keep.length cap, .int .i64 p.torn, .int .i64 p.cut]) rfl rfl (by kernel_rfl) (by kernel_rfl) (by kernel_rfl) (fun _ _ _ h => h) rfl ?_ hs6 ?_
      · intro w' hw'; go_simp
      simp only [Act.put, List.setIfInBounds_toArray, List.set_cons_succ, List.set_cons_zero]
      refine held_one (i := 10) (by kernel_rfl) rfl rfl ?_
      intro K hK
      refine wp_store_plan _ _ rfl w3.heap.size rfl _ _ _ rfl (by intro u hu; simp at hu; rcases hu with rfl | rfl | rfl <;> rfl) _ hpb6 rfl ?_
      intro wf hf0 hff
      have hO := own_fin (p := p) hrow6 hpb6 hf0 hff (show w3.heap.size ≤ w3.heap.size by omega) hlv
      have hblf := hbl6.trans (hff.below hbl6.size (fun k hk => by have hk : k = w3.heap.size := hk; omega))
      refine hK _ _ (hs6.keep hff (fun e => by have e : W.heap.size = w3.heap.size := e; omega)) ?_
      clear hK K
      refine wpAnyH_done (by kernel_rfl) ?_ 0
      go_wp2_with fail
      go_meet
      exact ⟨w3.heap.size, V, cap, rfl, hO, hblf⟩
  case rest =>
    obtain ⟨PB, V, cap, rfl, hO, hbo⟩ := hcut
    rename World => w4
    have hM4 : FMem W b bx pv p (Dk.made 7) (Dk.made 7) S noB X w4 := HM.out.next hbo
    have hSlt : ∀ k, S k → k < w3.heap.size := HM.out.sd.disk.lt
    have hXlt : ∀ k, X k → k < w3.heap.size := HM.out.sx.disk.lt
    have hfu := fuse_ok w4 S noB (oneB V) b _ hM4.sd.disk rfl m (by omega) (.slice (some ⟨V, 0, none⟩) p.keep.length cap) p (hO.row.keepAt hkl) hp0 hp1
    have o0 : w4.cell? ⟨PB, 0, none⟩ = some (.slice (some ⟨V, 0, none⟩) p.keep.length cap) := hO.box.cell 0
    have o1 : w4.cell? ⟨PB, 1, none⟩ = some (.int .i64 p.torn) := hO.box.cell 1
    have o2 : w4.cell? ⟨PB, 2, none⟩ = some (.int .i64 p.cut) := hO.box.cell 2
    unfold planV at hfu
    have Hfu := Lib.hid hfu
    have HM4 := Lib.hid hM4
    have HO := Lib.hid hO
    have HSl := Lib.hid hSlt
    have HXl := Lib.hid hXlt
    have hs4 := hbo.size
    clear hfu hM4 hO hSlt hXlt hbo HM
    go_wp2_with fail
    refine Hfu.out.mono ?_
    rintro e w5 ⟨rfl, R, hd5, hf5, hr5⟩
    have hVlt : V < w4.heap.size := HO.out.row.lt
    have hlb : b < w3.heap.size := HSl.out _ (disk_own HM4.out.sd.disk)
    have hV3 := HO.out.hV
    have hP3 := HO.out.hP
    have HM5 := Lib.hid (HM4.out.fused hd5 hf5 hr5)
    have HO5 : Hid (OwnAt w3.heap.size p p.keep PB V cap w5) := Lib.hid ⟨HO.out.box.keep hf5 (fun e => by have e : PB = b := e; omega), HO.out.row.keep hf5 (fun e => by have e : V = b := e; omega), hP3, hV3⟩
    have HT : Hid (∀ k, oneB V k → ¬ S k ∧ ¬ R k ∧ ¬ X k ∧ k ≠ W.heap.size ∧ W.heap.size ≤ k) := Lib.hid (fun k hk => by
      have hk : k = V := hk
      subst hk
      exact ⟨fun e => by have := HSl.out _ e; omega, fun e => by have := hr5 _ e; omega, fun e => by have := HXl.out _ e; omega, by omega, by omega⟩)
    clear hd5 hf5 hr5 HM4 HO Hfu o0 o1 o2 HSl HXl
    go_wp2_with fail
    go_loopw [12] (fun i wr => ∃ k : Nat, k ≤ p.keep.length ∧ i = .int .i64 k ∧ FMem W b bx pv p ((Dk.made 7).fuse m p) (Dk.made 7) S R X wr ∧ ∃ l, l.length = p.keep.length ∧ OwnAt w3.heap.size p l PB V cap wr) (fun i _ => p.keep.length - (intOf i).toNat)
    case atStart => exact ⟨0, Nat.zero_le _, rfl, HM5.out, p.keep, rfl, HO5.out⟩
    case round =>
      obtain ⟨k, hk, rfl, hM6, l, hl6, hO6⟩ := hrel
      have o0 : wr.cell? ⟨PB, 0, none⟩ = some (.slice (some ⟨V, 0, none⟩) p.keep.length cap) := by rw [← hl6]; exact hO6.box.cell 0
      by_cases hlt : k < p.keep.length
      · have hc : wr.cell? ⟨V, k, none⟩ = some (.bool l[k]) := hO6.row.cell (List.getElem?_eq_getElem (by omega))
        have hfz : wr.drew.frozen? ⟨V, k, none⟩ = false := hO6.row.free k
        have hM7 : FMem W b bx pv p ((Dk.made 7).fuse m p) (Dk.made 7) S R X (wr.drew.setCell ⟨V, k, none⟩ (.bool (!l[k]))) := hM6.drew.frame ((Fr.refl (oneB V) wr.drew).put _) HT.out
        have hO7 : OwnAt w3.heap.size p (l.set k (!l[k])) PB V cap (wr.drew.setCell ⟨V, k, none⟩ (.bool (!l[k]))) := ⟨by rw [List.length_set]; exact hO6.box.far (fun e => by obtain ⟨c2, hb2, _⟩ := hO6.row; exact Has.apart hO6.box hb2 (by decide) e) _, hO6.row.set k _, hO6.hP, hO6.hV⟩
        have HM7 := Lib.hid hM7
        have HO7 := Lib.hid hO7
        have Hl6 := Lib.hid hl6
        have hk1 : (k : Int) < p.keep.length := by omega
        clear hM6 hO6 hM7 hO7
        generalize l[k] = cb at *
        clear hl6
        go_wp2_with fail
        go_still_tail 10, (by kernel_rfl)
        change wpList _ _ _ _ _ wr.drew
        have hc' : wr.drew.cell? ⟨V, k, none⟩ = some (.bool cb) := hc
        go_wp2_with fail
        go_roundw
        case rel => exact ⟨k + 1, by omega, by go_num, HM7.out, _, by rw [List.length_set]; exact Hl6.out, HO7.out⟩
        case measure => simp [intOf]; omega
      · have hk1 : (p.keep.length : Int) ≤ k := by omega
        have HM6 := Lib.hid hM6
        clear hM6 hO6 hl6 HO5 HM5 HT
        go_upto_block 2 with fail
        clear hk hlt hk1 o0
        go_cut [13, 14, 15, 16, 17] from 85 to 181 (fun _ _ _ _ _ wc => ∃ d x S R X, FMem W b bx pv p d x S R X wc ∧ Ends d x)
        case first =>
          go_wp2_with fail
          go_loopw [13, 14] (fun dn i wr => ∃ k : Nat, k ≤ ls.length ∧ k ≤ 60 ∧ i = .int .i64 k ∧ ∃ q j : Nat, dn = .int .i64 q ∧ q + j = m ∧ ∃ x S R X, Free x q k ∧ FMem W b bx pv p (x.fuse j p) x S R X wr) (fun _ i _ => ls.length - (intOf i).toNat)
          case atStart => exact ⟨0, Nat.zero_le _, Nat.zero_le _, rfl, 0, m, rfl, by omega, _, _, _, _, Free.made, HM6.out⟩
          case round =>
            obtain ⟨k, hk, hk60, rfl, q, j, rfl, hqj, x, S, R, X, hfx, hM⟩ := hrel
            by_cases hgo : k < ls.length ∧ k < 60
            · obtain ⟨hlt, h60⟩ := hgo
              obtain ⟨g, o, rfl, hc⟩ := HC.out (by omega)
              obtain ⟨q0, q1, q2⟩ := hc k _ (List.getElem?_eq_getElem hlt)
              generalize ls[k] = y at *
              have p0 := hM.arg q0
              have hk1 : (k : Int) < ls.length := by omega
              have hk2 : (k : Int) < 60 := by omega
              have HM := Lib.hid hM
              have Hfx := Lib.hid hfx
              have Hqj := Lib.hid hqj
              have Q1 := Lib.hid q1
              have Q2 := Lib.hid q2
              have hx256 : (y.at_.toNat : Int) < 256 := by have := UInt8.toNat_lt y.at_; omega
              clear hM hfx hqj q0 q1 q2 hc
              go_wp2_with fail
              have em : ((y.at_.toNat : Int) % 7) = ((y.at_.toNat % 7 : Nat) : Int) := (Int.natCast_emod _ _).symm
              rw [em]
              clear em
              have hat : y.at_.toNat % 7 < 7 := Nat.mod_lt _ (by omega)
              generalize y.at_.toNat % 7 = at7 at *
              have hS : wr.drew.cell? ⟨g, o + k * 3 + 1, none⟩ = some (.int .u8 (y.what.toNat : Int)) := HM.out.arg Q1.out
              have HS := Lib.hid hS
              clear hS
              refine wp_region_held (S := fun w' => w'.cell? ⟨g, o + k * 3 + 1, none⟩ = some (.int .u8 (y.what.toNat : Int))) (by kernel_rfl) ?_
              change wpAnyH _ _ _ _ _ _ _ _ (World.drew _)
              refine held_yield (i := 0) 102 (.pointer (some ⟨b, 0, none⟩)) rfl rfl (by kernel_rfl) (by kernel_rfl) (by kernel_rfl) (fun _ _ _ h => h) rfl ?_ HS.out ?_
              · intro w' hw'; go_simp
              simp only [Act.put, List.setIfInBounds_toArray, List.set_cons_succ, List.set_cons_zero]
              refine held_yield (i := 1) 103 (.int .i64 (at7 : Int)) rfl rfl (by kernel_rfl) (by kernel_rfl) (by kernel_rfl) (fun _ _ _ h => h) rfl ?_ HS.out ?_
              · intro w' hw'; go_simp
              simp only [Act.put, List.setIfInBounds_toArray, List.set_cons_succ, List.set_cons_zero]
              refine held_yield (i := 2) 104 (.slice (some ⟨g, o, none⟩) ls.length c) rfl rfl (by kernel_rfl) (by kernel_rfl) (by kernel_rfl) (fun _ _ _ h => h) rfl ?_ HS.out ?_
              · intro w' hw'; go_simp
              simp only [Act.put, List.setIfInBounds_toArray, List.set_cons_succ, List.set_cons_zero]
              refine held_yield (i := 3) 105 (.int .i64 (k : Int)) rfl rfl (by kernel_rfl) (by kernel_rfl) (by kernel_rfl) (fun _ _ _ h => h) rfl ?_ HS.out ?_
              · intro w' hw'; go_simp
              simp only [Act.put, List.setIfInBounds_toArray, List.set_cons_succ, List.set_cons_zero]
              refine held_yield (i := 4) 106 (.pointer (some ⟨g, o + k * 3, none⟩)) rfl rfl (by kernel_rfl) (by kernel_rfl) (by kernel_rfl) (fun _ _ _ h => h) rfl ?_ HS.out ?_
              · intro w' hw'; go_simp
              simp only [Act.put, List.setIfInBounds_toArray, List.set_cons_succ, List.set_cons_zero]
              refine held_yield (i := 5) 107 (.pointer (some ⟨g, o + k * 3 + 1, none⟩)) rfl rfl (by kernel_rfl) (by kernel_rfl) (by kernel_rfl) (fun _ _ _ h => h) rfl ?_ HS.out ?_
              · intro w' hw'; go_simp
              simp only [Act.put, List.setIfInBounds_toArray, List.set_cons_succ, List.set_cons_zero]
              refine held_yield (i := 6) 108 (.int .u8 (y.what.toNat : Int)) rfl rfl (by kernel_rfl) (by kernel_rfl) (by kernel_rfl) (fun _ _ _ h => h) rfl ?_ HS.out ?_
              · intro w' hw'; go_simp
              simp only [Act.put, List.setIfInBounds_toArray, List.set_cons_succ, List.set_cons_zero]
              refine held_yield (i := 9) 111 (.pointer (some ⟨bx, 0, none⟩)) rfl rfl (by kernel_rfl) (by kernel_rfl) (by kernel_rfl) (fun _ _ _ h => h) rfl ?_ HS.out ?_
              · intro w' hw'; go_simp
              simp only [Act.put, List.setIfInBounds_toArray, List.set_cons_succ, List.set_cons_zero]
              refine held_yield (i := 10) 112 (.int .i64 (at7 : Int)) rfl rfl (by kernel_rfl) (by kernel_rfl) (by kernel_rfl) (fun _ _ _ h => h) rfl ?_ HS.out ?_
              · intro w' hw'; go_simp
              simp only [Act.put, List.setIfInBounds_toArray, List.set_cons_succ, List.set_cons_zero]
              refine held_yield (i := 11) 113 (.slice (some ⟨g, o, none⟩) ls.length c) rfl rfl (by kernel_rfl) (by kernel_rfl) (by kernel_rfl) (fun _ _ _ h => h) rfl ?_ HS.out ?_
              · intro w' hw'; go_simp
              simp only [Act.put, List.setIfInBounds_toArray, List.set_cons_succ, List.set_cons_zero]
              refine held_yield (i := 12) 114 (.int .i64 (k : Int)) rfl rfl (by kernel_rfl) (by kernel_rfl) (by kernel_rfl) (fun _ _ _ h => h) rfl ?_ HS.out ?_
              · intro w' hw'; go_simp
              simp only [Act.put, List.setIfInBounds_toArray, List.set_cons_succ, List.set_cons_zero]
              refine held_yield (i := 13) 115 (.pointer (some ⟨g, o + k * 3, none⟩)) rfl rfl (by kernel_rfl) (by kernel_rfl) (by kernel_rfl) (fun _ _ _ h => h) rfl ?_ HS.out ?_
              · intro w' hw'; go_simp
              simp only [Act.put, List.setIfInBounds_toArray, List.set_cons_succ, List.set_cons_zero]
              refine held_yield (i := 14) 116 (.pointer (some ⟨g, o + k * 3 + 1, none⟩)) rfl rfl (by kernel_rfl) (by kernel_rfl) (by kernel_rfl) (fun _ _ _ h => h) rfl ?_ HS.out ?_
              · intro w' hw'; go_simp
              simp only [Act.put, List.setIfInBounds_toArray, List.set_cons_succ, List.set_cons_zero]
              refine held_yield (i := 15) 117 (.int .u8 (y.what.toNat : Int)) rfl rfl (by kernel_rfl) (by kernel_rfl) (by kernel_rfl) (fun _ _ _ h => h) rfl ?_ HS.out ?_
              · intro w' hw'; go_simp
              simp only [Act.put, List.setIfInBounds_toArray, List.set_cons_succ, List.set_cons_zero]
              refine held_one (i := 7) (by kernel_rfl) rfl rfl ?_
              intro K hK
              go_simp
              refine (full_any y.what wr.drew).mono ?_
              rintro e w6 ⟨rfl, hg6, hb6⟩
              have HM6 := Lib.hid (HM.out.drew.next hb6)
              have HG6 := Lib.hid hg6
              have hnS : ¬ S wr.drew.heap.size := HM.out.drew.sd.fresh
              clear hg6 hb6
              refine hK _ _ (HM6.out.arg Q1.out) ?_
              clear hK K
              refine held_one (i := 8) (by kernel_rfl) rfl rfl ?_
              intro K hK
              go_simp
              have hw6 := write_at w6 S R b _ HM6.out.sd.disk Hfx.out.dead (by show x.waits.length < 1000000; have := Hfx.out.few; omega) (by show x.done < 4611686018427387904; have := Hfx.out.done; have := Hqj.out; omega) (by show j ≤ 9223372036854775807; have := Hqj.out; omega) at7 (by show at7 < x.lasts.length; rw [Hfx.out.len]; exact hat) wr.drew.heap.size 128 _ (fullS y.what) (fullS_len _) HG6.out hnS
              refine hw6.mono ?_
              rintro e w7 ⟨rfl, hg7⟩
              clear hw6
              obtain ⟨S7, hM7⟩ := HM6.out.goesD hg7
              have HM7 := Lib.hid hM7
              clear hM7 hg7 HM6 HG6 hnS
              refine hK _ _ (HM7.out.arg Q1.out) ?_
              clear hK K
              refine held_one (i := 16) (by kernel_rfl) rfl rfl ?_
              intro K hK
              go_simp
              refine (full_any y.what w7).mono ?_
              rintro e w8 ⟨rfl, hg8, hb8⟩
              have HM8 := Lib.hid (HM7.out.next hb8)
              have HG8 := Lib.hid hg8
              have hnX : ¬ X w7.heap.size := HM7.out.sx.fresh
              clear hg8 hb8
              refine hK _ _ (HM8.out.arg Q1.out) ?_
              clear hK K
              refine held_one (i := 17) (by kernel_rfl) rfl rfl ?_
              intro K hK
              go_simp
              have hw8 := write_at w8 X noB bx _ HM8.out.sx.disk Hfx.out.dead (by have := Hfx.out.few; omega) (by have := Hfx.out.done; have := Hqj.out; omega) Hfx.out.left at7 (by rw [Hfx.out.len]; exact hat) w7.heap.size 128 _ (fullS y.what) (fullS_len _) HG8.out hnX
              rw [free_err (x := x.wait at7 (fullS y.what)) Hfx.out.lit] at hw8
              refine hw8.mono ?_
              rintro e w9 ⟨rfl, hg9⟩
              clear hw8
              obtain ⟨X9, hM9⟩ := HM8.out.goesX hg9
              have HM9 := Lib.hid hM9
              clear hM9 hg9 HM8 HG8 hnX HM7 HM
              refine hK _ _ (HM9.out.arg Q1.out) ?_
              clear hK K
              refine held_one (i := 18) (by kernel_rfl) rfl rfl ?_
              intro K hK
              go_simp
              refine hK _ _ (HM9.out.arg Q1.out) ?_
              clear hK K
              refine held_one (i := 19) (by kernel_rfl) rfl rfl ?_
              intro K hK
              go_simp
              refine hK _ _ (HM9.out.arg Q1.out) ?_
              clear hK K
              refine wpAnyH_done (by kernel_rfl) ?_ 0
              have Hfw := Lib.hid (Hfx.out.write at7 (fullS y.what))
              have t0 : w9.cell? ⟨W.heap.size, 0, none⟩ = some pv := HM9.out.plan.cell 0
              have t1 : w9.cell? ⟨W.heap.size, 1, none⟩ = some (.int .i64 p.torn) := HM9.out.plan.cell 1
              have t2 : w9.cell? ⟨W.heap.size, 2, none⟩ = some (.int .i64 p.cut) := HM9.out.plan.cell 2
              cases j with
              | zero =>
                rw [write_err0]
                have hqm : q = m := Hqj.out
                subst hqm
                have hen := Hfx.out.ends_write p at7 (fullS y.what)
                have hcr := crash_ok w9 X9 noB (fun k => k < W.heap.size) bx _ HM9.out.sx.disk Hfw.out.dead pv p (HM9.out.keep HP.out) hp0 hp1 (fun k hk h => by have := HM9.out.sx.news k h; omega) (by have := Hfw.out.few; omega)
                unfold planV at hcr
                have Hcr := Lib.hid hcr
                have Hen := Lib.hid hen
                clear hcr hen
                have hqe : ((q : Int) == (q : Int)) = true := by simp
                go_wp2_with fail
                refine Hcr.out.mono ?_
                rintro e wa ⟨rfl, hga⟩
                obtain ⟨Xa, hMa⟩ := HM9.out.goesX hga
                have HMa := Lib.hid hMa
                clear hga hMa HM9 Hcr t0 t1 t2
                go_wp2_with fail
                refine (dead_at wa _ _ b _ HMa.out.sd.disk).mono ?_
                rintro e w' ⟨he, rfl⟩
                obtain rfl : e = .returned (.bool true) := he
                go_wp2_with fail
                go_meet
                exact ⟨_, _, _, _, _, HMa.out, Hen.out⟩
              | succ j =>
                rw [write_errS]
                rw [fuse_write x Hfx.out.lit] at HM9
                have hq1 : ((q : Int) == (m : Int)) = false := by rw [beq_eq_false_iff_ne]; have := Hqj.out; omega
                have hq2 : (q : Int) < 100 := by have := Hqj.out; omega
                generalize x.write at7 (fullS y.what) = x9 at *
                have q2 := HM9.out.arg Q2.out
                clear Hfx
                cases hfl : y.flush with
                | false =>
                  rw [hfl] at q2
                  clear hfl t0 t1 t2
                  go_wp2_with fail
                  go_roundw
                  case rel => exact ⟨k + 1, by omega, by omega, by go_num, q + 1, j, by go_num, by have := Hqj.out; omega, x9, _, _, _, Hfw.out, HM9.out⟩
                  case measure => simp [intOf]; omega
                | true =>
                  rw [hfl] at q2
                  clear hfl
                  cases j with
                  | zero =>
                    have hq3 : (q : Int) + 1 = m := by have := Hqj.out; omega
                    have hq4 : (((q : Int) + 1) == (m : Int)) = true := by rw [beq_iff_eq]; exact hq3
                    clear hq3
                    have hen := Hfw.out.ends_flush p
                    have hcr := crash_ok w9 X9 noB (fun k => k < W.heap.size) bx _ HM9.out.sx.disk Hfw.out.dead pv p (HM9.out.keep HP.out) hp0 hp1 (fun k hk h => by have := HM9.out.sx.news k h; omega) (by have := Hfw.out.few; omega)
                    unfold planV at hcr
                    have Hcr := Lib.hid hcr
                    have Hen := Lib.hid hen
                    clear hcr hen
                    go_wp2_with fail
                    refine Hcr.out.mono ?_
                    rintro e wa ⟨rfl, hga⟩
                    obtain ⟨Xa, hMa⟩ := HM9.out.goesX hga
                    have HMa := Lib.hid hMa
                    clear hga hMa HM9 Hcr t0 t1 t2
                    go_wp2_with fail
                    refine (flush_at wa _ _ b _ HMa.out.sd.disk Hfw.out.dead (by show x9.waits.length ≤ 1000000; have := Hfw.out.few; omega) (by show x9.done < 4611686018427387904; have := Hfw.out.done; have := Hqj.out; omega) (Nat.zero_le _)).mono ?_
                    rintro e wb ⟨he, hgb⟩
                    obtain rfl : e = .returned (.int .i64 20) := he
                    obtain ⟨Sb, hMb⟩ := HMa.out.goesD hgb
                    have HMb := Lib.hid hMb
                    clear hgb hMb HMa
                    go_wp2_with fail
                    refine (dead_at wb _ _ b _ HMb.out.sd.disk).mono ?_
                    rintro e w' ⟨he, rfl⟩
                    obtain rfl : e = .returned (.bool true) := he
                    go_wp2_with fail
                    go_meet
                    exact ⟨_, _, _, _, _, HMb.out, Hen.out⟩
                  | succ j =>
                    have hq4 : (((q : Int) + 1) == (m : Int)) = false := by rw [beq_eq_false_iff_ne]; have := Hqj.out; omega
                    clear t0 t1 t2
                    go_wp2_with fail
                    refine (flush_at w9 _ _ b _ HM9.out.sd.disk Hfw.out.dead (by show x9.waits.length ≤ 1000000; have := Hfw.out.few; omega) (by show x9.done < 4611686018427387904; have := Hfw.out.done; have := Hqj.out; omega) (by show j + 1 ≤ 9223372036854775807; have := Hqj.out; omega)).mono ?_
                    rintro e wb ⟨he, hgb⟩
                    rw [flush_errS] at he
                    subst he
                    rw [fuse_flush x9 Hfw.out.lit] at hgb
                    obtain ⟨Sb, hMb⟩ := HM9.out.goesD hgb
                    have HMb := Lib.hid hMb
                    clear hgb hMb HM9
                    go_wp2_with fail
                    refine (flush_at wb _ _ bx _ HMb.out.sx.disk Hfw.out.dead (by have := Hfw.out.few; omega) (by have := Hfw.out.done; have := Hqj.out; omega) Hfw.out.left).mono ?_
                    rintro e wd ⟨he, hgd⟩
                    rw [free_err Hfw.out.lit] at he
                    subst he
                    obtain ⟨Xd, hMd⟩ := HMb.out.goesX hgd
                    have HMd := Lib.hid hMd
                    clear hgd hMd HMb
                    go_wp2_with fail
                    go_roundw
                    case rel => exact ⟨k + 1, by omega, by omega, by go_num, q + 2, j, by go_num, by have := Hqj.out; omega, x9.flush, _, _, _, Hfw.out.flush, HMd.out⟩
                    case measure => simp [intOf]; omega
            · have HM := Lib.hid hM
              have Hen := Lib.hid (hfx.ends j p)
              clear hM hfx
              rcases Nat.lt_or_ge k ls.length with h | h
              · have hk1 : (k : Int) < ls.length := by omega
                have hk2 : (60 : Int) ≤ k := by omega
                clear hgo h
                go_wp2_with fail
                go_meet
                exact ⟨_, _, _, _, _, HM.out, Hen.out⟩
              · have hk1 : (ls.length : Int) ≤ k := by omega
                clear hgo h
                go_wp2_with fail
                go_meet
                exact ⟨_, _, _, _, _, HM.out, Hen.out⟩
        case rest =>
          obtain ⟨d, x, S, R, X, hM, hen⟩ := hcut
          rename World => wc
          have hda := dead_at wc _ _ b _ hM.sd.disk
          have hxa := dead_at wc _ _ bx _ hM.sx.disk
          have hdw := waits_at wc _ _ b _ hM.sd.disk
          have hxw := waits_at wc _ _ bx _ hM.sx.disk
          rw [hen.same.dead] at hda
          rw [hen.same.waits] at hdw
          have HM := Lib.hid hM
          have Hen := Lib.hid hen
          have Hda := Lib.hid hda
          have Hxa := Lib.hid hxa
          have Hdw := Lib.hid hdw
          have Hxw := Lib.hid hxw
          clear hM hen hda hxa hdw hxw
          have hne : ((x.waits.length : Int) != (x.waits.length : Int)) = false := by simp
          cases hxd : x.dead with
          | true =>
            rw [hxd] at Hda Hxa
            have Hxd := Lib.hid hxd
            clear hxd
            go_wp2_with fail
            refine Hda.out.mono ?_
            rintro e w' ⟨rfl, rfl⟩
            go_wp2_with fail
            refine Hxa.out.mono ?_
            rintro e w' ⟨rfl, rfl⟩
            go_wp2_with fail
            refine Hdw.out.mono ?_
            rintro e w' ⟨rfl, rfl⟩
            go_wp2_with fail
            refine Hxw.out.mono ?_
            rintro e w' ⟨rfl, rfl⟩
            go_wp2_with fail
            refine Hda.out.mono ?_
            rintro e w' ⟨rfl, rfl⟩
            go_wp2_with fail
            refine (reopen_ok wc S R b _ HM.out.sd.disk (by rw [Hen.out.same.dead]; exact Hxd.out)).mono ?_
            rintro e w6 ⟨b6, S6, rfl, hd6, hb6, hs6⟩
            have hx6 := (HM.out.next hb6).sx.disk
            have Hx6 := Lib.hid hx6
            have Hd6 := Lib.hid hd6
            have Hb6 := Lib.hid hb6
            have Hs6 := Lib.hid hs6
            clear hx6 hd6 hb6 hs6
            unfold ptr
            go_wp2_with fail
            refine (reopen_ok w6 X noB bx _ Hx6.out Hxd.out).mono ?_
            rintro e w7 ⟨b7, X7, rfl, hd7, hb7, hs7⟩
            have HM7 := Lib.hid (HM.out.anew Hd6.out Hb6.out Hs6.out hd7 hb7 hs7)
            have Hen7 := Lib.hid Hen.out.fresh
            clear hd7 hb7 hs7 HM Hd6 Hb6 Hs6 Hx6 Hda Hxa Hdw Hxw
            unfold ptr
            go_wp2_with fail
            go_loopw [18] (fun i wr => ∃ k : Nat, k ≤ 7 ∧ i = .int .i64 k ∧ FMem W b6 b7 pv p (Dk.fresh d.lasts) (Dk.fresh x.lasts) S6 noB X7 wr) (fun i _ => 7 - (intOf i).toNat)
            case atStart => exact ⟨0, Nat.zero_le _, rfl, HM7.out⟩
            case round =>
              obtain ⟨k, hk, rfl, hM⟩ := hrel
              by_cases hlt : k < 7
              · have hsame := same_read Hen7.out.same k
                have hrd := read_at wr S6 noB b6 _ hM.sd.disk rfl k (by rw [Hen7.out.same.lasts, Hen7.out.len]; exact hlt)
                have hlr : ((Dk.fresh d.lasts).read k).length = 128 := Dk.St.read_len hM.sd.disk.ok (by rw [Hen7.out.same.lasts, Hen7.out.len]; exact hlt)
                have HMr := Lib.hid hM
                have Hrd := Lib.hid hrd
                have Hsame := Lib.hid hsame
                have Hlr := Lib.hid hlr
                have hk1 : (k : Int) < 7 := by omega
                clear hM hrd hsame hlr
                go_wp2_with fail
                refine Hrd.out.mono ?_
                rintro e w8 ⟨rfl, hr8, hb8⟩
                have HM8 := Lib.hid (HMr.out.next hb8)
                have HR8 := Lib.hid hr8
                clear hr8 hb8 HMr Hrd
                go_wp2_with fail
                refine (read_at w8 X7 noB b7 _ HM8.out.sx.disk rfl k (by rw [Hen7.out.len]; exact hlt)).mono ?_
                rintro e w9 ⟨rfl, hr9, hb9⟩
                rw [← Hsame.out] at hr9
                have HM9 := Lib.hid (HM8.out.next hb9)
                have HR9 := Lib.hid hr9
                have HR10 := Lib.hid (HR8.out.keep (Fr.of_below hb9 noB) (fun h => h))
                clear hr9 hb9 HM8 HR8
                go_wp2_with fail
                have hb1 : BytesAt w9 (.slice (some ⟨wr.heap.size, 0, none⟩) 128 128) ((Dk.fresh d.lasts).read k) := by have := BytesAt.of_has HR10.out (by rw [Hlr.out]; omega) 128; rwa [Hlr.out] at this
                have hb2 : BytesAt w9 (.slice (some ⟨w8.heap.size, 0, none⟩) 128 128) ((Dk.fresh d.lasts).read k) := by have := BytesAt.of_has HR9.out (by rw [Hlr.out]; omega) 128; rwa [Hlr.out] at this
                refine (bytes_any w9 _ _ _ _ hb1 hb2).mono ?_
                rintro e w10 ⟨he, hf10⟩
                obtain rfl : e = .returned (.bool true) := by rw [he]; simp
                have HM10 := Lib.hid (HM9.out.next (hf10.below (Nat.le_refl _) (fun _ h => h.elim)))
                clear hf10 HM9 HR9 HR10 hb1 hb2 he
                go_wp2_with fail
                go_roundw
                case rel => exact ⟨k + 1, by omega, by go_num, HM10.out⟩
                case measure => simp [intOf]; omega
              · have hk1 : (7 : Int) ≤ k := by omega
                have HB := Lib.hid hM.sd.below
                clear hM
                go_wp2_with fail
                go_ret
                exact ⟨rfl, HB.out⟩
          | false =>
            rw [hxd] at Hda Hxa
            have Hxd := Lib.hid hxd
            clear hxd
            go_wp2_with fail
            refine Hda.out.mono ?_
            rintro e w' ⟨rfl, rfl⟩
            go_wp2_with fail
            refine Hxa.out.mono ?_
            rintro e w' ⟨rfl, rfl⟩
            go_wp2_with fail
            refine Hdw.out.mono ?_
            rintro e w' ⟨rfl, rfl⟩
            go_wp2_with fail
            refine Hxw.out.mono ?_
            rintro e w' ⟨rfl, rfl⟩
            go_wp2_with fail
            refine Hda.out.mono ?_
            rintro e w' ⟨rfl, rfl⟩
            go_wp2_with fail
            go_loopw [18] (fun i wr => ∃ k : Nat, k ≤ 7 ∧ i = .int .i64 k ∧ FMem W b bx pv p d x S R X wr) (fun i _ => 7 - (intOf i).toNat)
            case atStart => exact ⟨0, Nat.zero_le _, rfl, HM.out⟩
            case round =>
              obtain ⟨k, hk, rfl, hM⟩ := hrel
              by_cases hlt : k < 7
              · have hsame := same_read Hen.out.same k
                have hrd := read_at wr S R b _ hM.sd.disk (by rw [Hen.out.same.dead]; exact Hxd.out) k (by rw [Hen.out.same.lasts, Hen.out.len]; exact hlt)
                have hlr : (d.read k).length = 128 := Dk.St.read_len hM.sd.disk.ok (by rw [Hen.out.same.lasts, Hen.out.len]; exact hlt)
                have HMr := Lib.hid hM
                have Hrd := Lib.hid hrd
                have Hsame := Lib.hid hsame
                have Hlr := Lib.hid hlr
                have hk1 : (k : Int) < 7 := by omega
                clear hM hrd hsame hlr
                go_wp2_with fail
                refine Hrd.out.mono ?_
                rintro e w8 ⟨rfl, hr8, hb8⟩
                have HM8 := Lib.hid (HMr.out.next hb8)
                have HR8 := Lib.hid hr8
                clear hr8 hb8 HMr Hrd
                go_wp2_with fail
                refine (read_at w8 X noB bx _ HM8.out.sx.disk Hxd.out k (by rw [Hen.out.len]; exact hlt)).mono ?_
                rintro e w9 ⟨rfl, hr9, hb9⟩
                rw [← Hsame.out] at hr9
                have HM9 := Lib.hid (HM8.out.next hb9)
                have HR9 := Lib.hid hr9
                have HR10 := Lib.hid (HR8.out.keep (Fr.of_below hb9 noB) (fun h => h))
                clear hr9 hb9 HM8 HR8
                go_wp2_with fail
                have hb1 : BytesAt w9 (.slice (some ⟨wr.heap.size, 0, none⟩) 128 128) (d.read k) := by have := BytesAt.of_has HR10.out (by rw [Hlr.out]; omega) 128; rwa [Hlr.out] at this
                have hb2 : BytesAt w9 (.slice (some ⟨w8.heap.size, 0, none⟩) 128 128) (d.read k) := by have := BytesAt.of_has HR9.out (by rw [Hlr.out]; omega) 128; rwa [Hlr.out] at this
                refine (bytes_any w9 _ _ _ _ hb1 hb2).mono ?_
                rintro e w10 ⟨he, hf10⟩
                obtain rfl : e = .returned (.bool true) := by rw [he]; simp
                have HM10 := Lib.hid (HM9.out.next (hf10.below (Nat.le_refl _) (fun _ h => h.elim)))
                clear hf10 HM9 HR9 HR10 hb1 hb2 he
                go_wp2_with fail
                go_roundw
                case rel => exact ⟨k + 1, by omega, by go_num, HM10.out⟩
                case measure => simp [intOf]; omega
              · have hk1 : (7 : Int) ≤ k := by omega
                have HB := Lib.hid hM.sd.below
                clear hM
                go_wp2_with fail
                go_ret
                exact ⟨rfl, HB.out⟩
end Go.Proofs.Ytcdomhgjfnbahaa

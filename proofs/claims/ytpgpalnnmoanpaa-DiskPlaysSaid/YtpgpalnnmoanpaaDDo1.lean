/-
  The statement's do, kind 1 (written by wip/gen/gendo.py).
-/
import Derived.Test.YtpgpalnnmoanpaaDDo
namespace Go.Proofs.Ytpgpalnnmoanpaa
open Go.RowKit Go.Maps

set_option maxRecDepth 100000 in
set_option maxHeartbeats 1600000 in
theorem do_1 (w : World) (B b x : Nat) (d : Dk.St) (S R X I : Nat → Prop) (h : Two B w b x d d S R X I) (hs : Small d) (at_ torn cut : Int) (hat : at_ ≤ 9223372036854775807) (A : Option Addr) (l : List UInt8) (c : Nat) (whole : Bool) (Ak : Option Addr) (keep : List Bool) (ck : Nat)
    (hr : Rd w B A l) (hA : A = none → c = 0) (hlc : l.length ≤ c) (hk : KeepAt w (fun k => k < B) (.slice Ak keep.length ck) keep) (hck : keep.length ≤ ck) :
    Calls Try.prog 11 #[.agg #[.int .i64 1, .int .i64 at_, .slice A l.length c, .bool whole, .slice Ak keep.length ck, .int .i64 torn, .int .i64 cut], .pointer (some ⟨b, 0, none⟩), .pointer (some ⟨x, 0, none⟩)] w (DoneBy B w d) := by
  have H := Lib.hid h
  have HF := Lib.hid hs.few
  have HSm := Lib.hid hs
  have HK := Lib.hid hk
  have HR := Lib.hid hr
  have HA := Lib.hid hA
  have HLC := Lib.hid hlc
  have HAT := Lib.hid hat
  have hcI : (keep.length : Int) ≤ ck := by omega
  clear h hs hk hck hr hA hlc hat
  obtain ⟨k1, hk1⟩ : ∃ k1, k1 = keep.take 100 := ⟨_, rfl⟩
  have HK1 := Lib.hid (HK.out.take 100)
  rw [← hk1] at HK1
  rcases Nat.lt_or_ge 100 keep.length with h100 | h100
  · have e100 : (100 : Int) < keep.length := by omega
    have e101 : ¬ (keep.length : Int) < 100 := by omega
    have hkt : k1.length = 100 := by rw [hk1]; exact List.length_take_of_le (by omega)
    have HKT := Lib.hid hkt
    have f1 : Fr noB w ((w.alloc (.cells #[.int .i64 1, .int .i64 at_, .slice A l.length c, .bool whole, .slice Ak keep.length ck, .int .i64 torn, .int .i64 cut] 37)).alloc (.cells #[] 4)) := ((Fr.refl noB w).alloc _).alloc _
    have hkk : KeepAt ((w.alloc (.cells #[.int .i64 1, .int .i64 at_, .slice A l.length c, .bool whole, .slice Ak keep.length ck, .int .i64 torn, .int .i64 cut] 37)).alloc (.cells #[] 4)) (fun k => k < B) (.slice Ak k1.length ck) k1 := HK1.out.keep f1 (fun _ _ e => e)
    rw [hkt] at hkk
    have HEQ := Lib.hid hk1
    have HKK := Lib.hid hkk
    have hE : Has ((w.alloc (.cells #[.int .i64 1, .int .i64 at_, .slice A l.length c, .bool whole, .slice Ak keep.length ck, .int .i64 torn, .int .i64 cut] 37)).alloc (.cells #[] 4)) (w.heap.size + 1) 4 #[] := by
      have := Has.of_alloc (w.alloc (.cells #[.int .i64 1, .int .i64 at_, .slice A l.length c, .bool whole, .slice Ak keep.length ck, .int .i64 torn, .int .i64 cut] 37)) 4 #[]
      simpa using this
    have hX : Has ((w.alloc (.cells #[.int .i64 1, .int .i64 at_, .slice A l.length c, .bool whole, .slice Ak keep.length ck, .int .i64 torn, .int .i64 cut] 37)).alloc (.cells #[] 4)) w.heap.size 37 #[.int .i64 1, .int .i64 at_, .slice A l.length c, .bool whole, .slice Ak keep.length ck, .int .i64 torn, .int .i64 cut] := (Has.of_alloc _ _ _).alloc _
    have HE := Lib.hid hE
    have HX := Lib.hid hX
    have F1 := Lib.hid f1
    have HSZ : Hid (((w.alloc (.cells #[.int .i64 1, .int .i64 at_, .slice A l.length c, .bool whole, .slice Ak keep.length ck, .int .i64 torn, .int .i64 cut] 37)).alloc (.cells #[] 4)).heap.size = w.heap.size + 2) := Lib.hid (by simp)
    clear hE hX f1 hkk hkt hk1
    go_enter Try.func11, Try.ntmps11
    go_wp2_with (first
      | (at_builtin; refine wpList_append_bools' rfl (.tmp 29) (.tmp 36) rfl (w.heap.size + 1) rfl HE.out _ _ k1 rfl HKK.out ?_; intro V cap w2 O2 F2 V2; have b2 : Hid (Has w2 w.heap.size 37 #[.int .i64 1, .int .i64 at_, .slice A l.length c, .bool whole, .slice Ak keep.length ck, .int .i64 torn, .int .i64 cut]) := Lib.hid (HX.out.keep F2.out (fun e => by have e : w.heap.size = w.heap.size + 1 := e; omega)); have x0 : w2.cell? ⟨w.heap.size, 0, none⟩ = some (.int .i64 1) := b2.out.cell 0; have x1 : w2.cell? ⟨w.heap.size, 1, none⟩ = some (.int .i64 at_) := b2.out.cell 1; have x2 : w2.cell? ⟨w.heap.size, 2, none⟩ = some (.slice A l.length c) := b2.out.cell 2; have x3 : w2.cell? ⟨w.heap.size, 3, none⟩ = some (.bool whole) := b2.out.cell 3; have x4 : w2.cell? ⟨w.heap.size, 4, none⟩ = some (.slice Ak keep.length ck) := b2.out.cell 4; have x5 : w2.cell? ⟨w.heap.size, 5, none⟩ = some (.int .i64 torn) := b2.out.cell 5; have x6 : w2.cell? ⟨w.heap.size, 6, none⟩ = some (.int .i64 cut) := b2.out.cell 6; have B2 : Hid (Below w.heap.size w w2) := Lib.hid ((F1.out.below (Nat.le_refl _) (fun _ e => e.elim)).trans (F2.out.below (by have := HSZ.out; omega) (fun k e => by have e : k = w.heap.size + 1 := e; omega))); have T2 : Hid (Two B w2 b x d d S R X I) := Lib.hid (H.out.next B2.out); have hVn : Hid (w.heap.size + 1 ≤ V) := Lib.hid (by rcases V2.out with q | q; omega; have := HSZ.out; omega); clear HE HX F1 HSZ F2 V2 HKK e100 h100 hcI e101)
      | fail)
    have HSb : Hid (∀ (T : Nat → Prop) (w' : World), Fr T w2 w' → ¬ T w.heap.size → w'.cell? ⟨w.heap.size, 0, none⟩ = some (.int .i64 1) ∧ w'.cell? ⟨w.heap.size, 1, none⟩ = some (.int .i64 at_) ∧ w'.cell? ⟨w.heap.size, 2, none⟩ = some (.slice A l.length c) ∧ w'.cell? ⟨w.heap.size, 3, none⟩ = some (.bool whole) ∧ w'.cell? ⟨w.heap.size, 4, none⟩ = some (.slice Ak keep.length ck) ∧ w'.cell? ⟨w.heap.size, 5, none⟩ = some (.int .i64 torn) ∧ w'.cell? ⟨w.heap.size, 6, none⟩ = some (.int .i64 cut)) :=
      Lib.hid (fun T w' f ht => ⟨(World.cell?_of_block (f.old _ b2.out.lt ht)).trans x0, (World.cell?_of_block (f.old _ b2.out.lt ht)).trans x1, (World.cell?_of_block (f.old _ b2.out.lt ht)).trans x2, (World.cell?_of_block (f.old _ b2.out.lt ht)).trans x3, (World.cell?_of_block (f.old _ b2.out.lt ht)).trans x4, (World.cell?_of_block (f.old _ b2.out.lt ht)).trans x5, (World.cell?_of_block (f.old _ b2.out.lt ht)).trans x6⟩)
    have hbox := H.out.far w.heap.size (.inl (Nat.le_refl _))
    have HFar := Lib.hid hbox
    have BBw2 : Hid (Below B w w2) := Lib.hid (B2.out.mono H.out.size)
    have HRd : Hid (∀ w', Below B w w' → Rd w' w'.heap.size A l) := Lib.hid (fun w' hb => (HR.out.below hb).more (Nat.le_trans H.out.size hb.size))
    obtain ⟨s, hs⟩ : ∃ s, s = Dk.secOf l whole := ⟨_, rfl⟩
    have HSEC : Hid (∀ w', Below B w w' → Calls Try.prog 27 #[.agg #[.int .i64 1, .int .i64 at_, .slice A l.length c, .bool whole, .slice Ak keep.length ck, .int .i64 torn, .int .i64 cut]] w' (NewBytes w' s)) := Lib.hid (fun w' hb => by
      rw [hs]
      exact sector_any w' 1 at_ torn cut A l c whole (.slice Ak keep.length ck) (HRd.out w' hb) HA.out HLC.out)
    have HL : Hid (s.length ≤ 140737488355328) := Lib.hid (by rw [hs]; have := secOf_len l whole; omega)
    clear x0 x1 x2 x3 x4 x5 x6 hbox hs
    refine (HSEC.out w2 BBw2.out).mono ?_
    rintro e w3 ⟨g, n, c', cur, rfl, hn, hg, hh, hz, ht, hb⟩
    have HN := Lib.hid hn
    have HH := Lib.hid hh
    have HZ := Lib.hid hz
    have HT := Lib.hid ht
    have HG := Lib.hid hg
    have F3 : Hid (Fr noB w2 w3) := Lib.hid (Fr.of_below hb noB)
    have T3 := Lib.hid (T2.out.next hb)
    have BB3 := Lib.hid (BBw2.out.trans (hb.mono T2.out.size))
    have FG := Lib.hid (T2.out.far g (.inl hg))
    clear hn hh hz ht hg hb
    have hs3 := HSb.out noB w3.drew F3.out.drew (fun e => e)
    have HS3 := Lib.hid hs3
    clear hs3
    go_wp2_with fail
    refine wp_region_held (S := fun w' => w'.cell? ⟨w.heap.size, 0, none⟩ = some (.int .i64 1) ∧ w'.cell? ⟨w.heap.size, 1, none⟩ = some (.int .i64 at_) ∧ w'.cell? ⟨w.heap.size, 2, none⟩ = some (.slice A l.length c) ∧ w'.cell? ⟨w.heap.size, 3, none⟩ = some (.bool whole) ∧ w'.cell? ⟨w.heap.size, 4, none⟩ = some (.slice Ak keep.length ck) ∧ w'.cell? ⟨w.heap.size, 5, none⟩ = some (.int .i64 torn) ∧ w'.cell? ⟨w.heap.size, 6, none⟩ = some (.int .i64 cut)) (by kernel_rfl) ?_
    change wpAnyH _ _ _ _ _ _ _ _ (World.drew _)
    refine held_yield (i := 0) 91 (.pointer (some ⟨b, 0, none⟩)) rfl rfl (by kernel_rfl) (by kernel_rfl) (by kernel_rfl) (fun _ _ _ h => h) rfl ?_ (HS3.out) ?_
    · intro w' hw'; obtain ⟨s0, s1, s2, s3, s4, s5, s6⟩ := hw'; go_simp
    simp only [Act.put, List.setIfInBounds_toArray, List.set_cons_succ, List.set_cons_zero]
    refine held_yield (i := 1) 92 (.pointer (some ⟨w.heap.size, 1, none⟩)) rfl rfl (by kernel_rfl) (by kernel_rfl) (by kernel_rfl) (fun _ _ _ h => h) rfl ?_ (HS3.out) ?_
    · intro w' hw'; obtain ⟨s0, s1, s2, s3, s4, s5, s6⟩ := hw'; go_simp
    simp only [Act.put, List.setIfInBounds_toArray, List.set_cons_succ, List.set_cons_zero]
    refine held_yield (i := 2) 93 (.int .i64 at_) rfl rfl (by kernel_rfl) (by kernel_rfl) (by kernel_rfl) (fun _ _ _ h => h) rfl ?_ (HS3.out) ?_
    · intro w' hw'; obtain ⟨s0, s1, s2, s3, s4, s5, s6⟩ := hw'; go_simp
    simp only [Act.put, List.setIfInBounds_toArray, List.set_cons_succ, List.set_cons_zero]
    refine held_yield (i := 3) 94 (.slice (some ⟨g, 0, none⟩) n c') rfl rfl (by kernel_rfl) (by kernel_rfl) (by kernel_rfl) (fun _ _ _ h => h) rfl ?_ (HS3.out) ?_
    · intro w' hw'; obtain ⟨s0, s1, s2, s3, s4, s5, s6⟩ := hw'; go_simp
    simp only [Act.put, List.setIfInBounds_toArray, List.set_cons_succ, List.set_cons_zero]
    refine held_yield (i := 5) 96 (.pointer (some ⟨x, 0, none⟩)) rfl rfl (by kernel_rfl) (by kernel_rfl) (by kernel_rfl) (fun _ _ _ h => h) rfl ?_ (HS3.out) ?_
    · intro w' hw'; obtain ⟨s0, s1, s2, s3, s4, s5, s6⟩ := hw'; go_simp
    simp only [Act.put, List.setIfInBounds_toArray, List.set_cons_succ, List.set_cons_zero]
    refine held_yield (i := 6) 97 (.pointer (some ⟨w.heap.size, 1, none⟩)) rfl rfl (by kernel_rfl) (by kernel_rfl) (by kernel_rfl) (fun _ _ _ h => h) rfl ?_ (HS3.out) ?_
    · intro w' hw'; obtain ⟨s0, s1, s2, s3, s4, s5, s6⟩ := hw'; go_simp
    simp only [Act.put, List.setIfInBounds_toArray, List.set_cons_succ, List.set_cons_zero]
    refine held_yield (i := 7) 98 (.int .i64 at_) rfl rfl (by kernel_rfl) (by kernel_rfl) (by kernel_rfl) (fun _ _ _ h => h) rfl ?_ (HS3.out) ?_
    · intro w' hw'; obtain ⟨s0, s1, s2, s3, s4, s5, s6⟩ := hw'; go_simp
    simp only [Act.put, List.setIfInBounds_toArray, List.set_cons_succ, List.set_cons_zero]
    refine held_yield (i := 8) 99 (.agg #[.int .i64 1, .int .i64 at_, .slice A l.length c, .bool whole, .slice Ak keep.length ck, .int .i64 torn, .int .i64 cut]) rfl rfl (by kernel_rfl) (by kernel_rfl) (by kernel_rfl) (fun _ _ _ h => h) rfl ?_ (HS3.out) ?_
    · intro w' hw'; obtain ⟨s0, s1, s2, s3, s4, s5, s6⟩ := hw'; go_simp
    simp only [Act.put, List.setIfInBounds_toArray, List.set_cons_succ, List.set_cons_zero]
    have b3d : Below w3.heap.size w3 w3.drew := (Below.refl _ _).drew
    have T3d := Lib.hid (T3.out.next b3d)
    have HH3 := Lib.hid (HH.out.keep (Fr.of_below b3d noB) (fun e => e))
    have BB3d := Lib.hid (BB3.out.trans (b3d.mono T3.out.size))
    have hgl : Hid (g < w3.heap.size) := Lib.hid HH.out.lt
    clear b3d
    refine held_one (i := 4) (by kernel_rfl) rfl rfl ?_
    intro K hK
    go_simp
    refine (write_full w3.drew S R b d T3d.out.disk HF.out at_ g n c' s HN.out (range_new HH3.out HT.out) FG.out.1).mono ?_
    rintro e w4 ⟨rfl, g4⟩
    obtain ⟨S4, t4, fr4, r4⟩ := T3d.out.goesD2 g4
    have T4 := Lib.hid t4
    have F4 : Hid (Fr S w2 w4) := Lib.hid ((F3.out.drew.wide (fun _ _ e => e.elim)).trans fr4 (fun _ _ e => e))
    have hs4 := HSb.out S w4 F4.out HFar.out.1
    have HH4 := Lib.hid (HH3.out.keep fr4 FG.out.1)
    have BB4 := Lib.hid (BB3d.out.trans (T3d.out.belowD fr4))
    have FG4 : Hid (¬ S4 g ∧ ¬ R g ∧ ¬ X g ∧ ¬ I g) := Lib.hid ⟨fun q => by
      rcases r4 g q with q | q
      · exact FG.out.1 q
      · have q : w3.heap.size ≤ g := q
        have := hgl.out
        omega, FG.out.2⟩
    refine hK _ _ hs4 ?_
    clear hK K g4 t4 fr4 r4 hs4
    refine held_one (i := 9) (by kernel_rfl) rfl rfl ?_
    intro K hK
    go_simp
    refine (HSEC.out w4 BB4.out).mono ?_
    rintro e w5 ⟨g5, n5, c5, cur5, rfl, hn5, hg5, hh5, hz5, ht5, hb5⟩
    have F5 : Hid (Fr S w2 w5) := Lib.hid (F4.out.trans (Fr.of_below hb5 S) (fun _ _ e => e))
    have hs5 := HSb.out S w5 F5.out HFar.out.1
    have T5 := Lib.hid (T4.out.next hb5)
    have BB5 := Lib.hid (BB4.out.trans (hb5.mono T4.out.size))
    have HH5 := Lib.hid (HH4.out.keep (Fr.of_below hb5 noB) (fun e => e))
    have HN5 := Lib.hid hn5
    have HR5 := Lib.hid (rd_new hh5 ht5 HL.out)
    have FX5 := Lib.hid (T4.out.far g5 (.inl hg5)).2.2.1
    refine hK _ _ hs5 ?_
    clear hK K hn5 hg5 hh5 hz5 ht5 hb5 hs5
    refine held_one (i := 10) (by kernel_rfl) rfl rfl ?_
    intro K hK
    go_simp
    refine (rwrite_full w5 X I x d T5.out.ref HF.out at_ g5 n5 c5 s HN5.out HR5.out FX5.out).mono ?_
    rintro e w6 ⟨rfl, g6⟩
    obtain ⟨X6, I6, t6, fr6, rx6, ri6⟩ := T5.out.goesX2 g6
    have T6 := Lib.hid t6
    have hs6 := HSb.out (fun k => S k ∨ X k) w6 ((F5.out.wide (fun _ _ e => .inl e)).trans fr6 (fun _ _ e => .inr e)) (fun e => e.elim HFar.out.1 HFar.out.2.2.1)
    have HS6 := Lib.hid hs6
    have HH6 := Lib.hid (HH5.out.keep fr6 FG4.out.2.2.1)
    have BB6 := Lib.hid (BB5.out.trans (T5.out.belowX fr6))
    have hg5l := HH5.out.lt
    have FG6 : Hid (¬ S4 g ∧ ¬ R g ∧ ¬ X6 g ∧ ¬ I6 g) := Lib.hid ⟨FG4.out.1, FG4.out.2.1, fun q => by
      rcases rx6 g q with q | q
      · exact FG4.out.2.2.1 q
      · omega, fun q => by
      rcases ri6 g q with q | q
      · exact FG4.out.2.2.2 q
      · omega⟩
    refine hK _ _ hs6 ?_
    clear hK K g6 t6 fr6 rx6 ri6 hs6 hg5l
    generalize d.wErr at_ s = er at *
    refine held_yield (i := 11) 16 (.int .i64 er) rfl rfl (by kernel_rfl) (by kernel_rfl) (by kernel_rfl) (fun _ _ _ h => h) rfl ?_ (HS6.out) ?_
    · intro w' hw'; skip; go_simp
    simp only [Act.put, List.setIfInBounds_toArray, List.set_cons_succ, List.set_cons_zero]
    refine held_yield (i := 12) 17 (.int .i64 er) rfl rfl (by kernel_rfl) (by kernel_rfl) (by kernel_rfl) (fun _ _ _ h => h) rfl ?_ (HS6.out) ?_
    · intro w' hw'; skip; go_simp
    simp only [Act.put, List.setIfInBounds_toArray, List.set_cons_succ, List.set_cons_zero]
    refine wpAnyH_done (by kernel_rfl) ?_ 0
    obtain ⟨q0, q1, q2, q3, q4, q5, q6⟩ := HS6.out
    go_wp2_with fail
    refine (HSEC.out w6 BB6.out).mono ?_
    rintro e w7 ⟨g7, n7, c7, cur7, rfl, hn7, hg7, hh7, hz7, ht7, hb7⟩
    have hh7g := HH6.out.keep (Fr.of_below hb7 noB) (fun e => e)
    have hby := bytes_any w7 _ _ s s (bytes_new (c := c') hh7g HT.out HN.out HL.out) (bytes_new (c := c7) hh7 ht7 hn7 HL.out)
    rw [decide_eq_true rfl] at hby
    have HBY := Lib.hid hby
    have HH7 := Lib.hid hh7g
    have T7 := Lib.hid (T6.out.next hb7)
    have BB7 := Lib.hid (BB6.out.trans (hb7.mono T6.out.size))
    clear q0 q1 q2 q3 q4 q5 q6 hn7 hg7 hh7 hz7 ht7 hb7 hh7g hby
    go_wp2_with fail
    refine HBY.out.mono ?_
    rintro e w8 ⟨rfl, f8⟩
    have HH8 := Lib.hid (HH7.out.keep f8 (fun e => e))
    have b8 := f8.below (Nat.le_refl _) (fun _ e => e.elim)
    have T8 := Lib.hid (T7.out.next b8)
    have BB8 := Lib.hid (BB7.out.trans (b8.mono T7.out.size))
    have hgB : Hid (B ≤ g) := Lib.hid (Nat.le_trans T2.out.size HG.out)
    have hnI : (n : Int) ≤ 140737488355328 := by have := HL.out; have := HN.out; omega
    clear f8 b8
    go_wp2_with fail
    go_loopw [19] (fun v wr => ∃ i : Nat, i ≤ n ∧ v = .int .i64 i ∧ ∃ cs : Array Value, Hid (Has wr g 5 cs) ∧ Hid (n ≤ cs.size) ∧ Hid (Fr (oneB g) w8 wr)) (fun v _ => n - (intOf v).toNat)
    case atStart => exact ⟨0, Nat.zero_le _, rfl, _, HH8, HZ, Lib.hid (Fr.refl _ _)⟩
    case round =>
      rename World => wr
      obtain ⟨i, hi, rfl, cs, hh, hsz, hfr⟩ := hrel
      by_cases hlt : i < n
      · have hiI : (i : Int) < n := by omega
        have hcell : wr.cell? ⟨g, i, none⟩ = some (cs[i]'(Nat.lt_of_lt_of_le hlt hsz.out)) := by rw [hh.out.cell]; exact Array.getElem?_eq_getElem _
        have hfz : wr.frozen? ⟨g, i, none⟩ = false := hh.out.free i
        have HNw := Lib.hid (hh.out.set i (.int .u8 221))
        have HNS : Hid (n ≤ (cs.setIfInBounds i (.int .u8 221)).size) := Lib.hid (by rw [Array.size_setIfInBounds]; exact hsz.out)
        have HNF := Lib.hid (hfr.out.put (i := i) (.int .u8 221))
        generalize (cs[i]'(Nat.lt_of_lt_of_le hlt hsz.out)) = u at *
        go_wp2_with fail
        exact ⟨⟨i + 1, by omega, rfl, _, HNw, HNS, HNF⟩, by simp only [intOf]; omega⟩
      · have hiN : ¬ (i : Int) < n := by omega
        go_wp2_with fail
        go_ret3
        have t9 := T8.out.frame hfr.out (fun k hk => by have hk : k = g := hk; rw [hk]; exact FG6.out)
        exact ⟨b, x, d.wTo at_ s, S4, R, X6, I6, rfl, t9, BB8.out.trans (hfr.out.below T8.out.size (fun k hk => by have hk : k = g := hk; rw [hk]; exact hgB.out)), grows_w d at_ s⟩
  · have e100 : ¬ (100 : Int) < keep.length := by omega
    have hkt : k1.length = keep.length := by rw [hk1, List.length_take]; omega
    have HKT := Lib.hid hkt
    have f1 : Fr noB w ((w.alloc (.cells #[.int .i64 1, .int .i64 at_, .slice A l.length c, .bool whole, .slice Ak keep.length ck, .int .i64 torn, .int .i64 cut] 37)).alloc (.cells #[] 4)) := ((Fr.refl noB w).alloc _).alloc _
    have hkk : KeepAt ((w.alloc (.cells #[.int .i64 1, .int .i64 at_, .slice A l.length c, .bool whole, .slice Ak keep.length ck, .int .i64 torn, .int .i64 cut] 37)).alloc (.cells #[] 4)) (fun k => k < B) (.slice Ak k1.length ck) k1 := HK1.out.keep f1 (fun _ _ e => e)
    rw [hkt] at hkk
    have HEQ := Lib.hid hk1
    have HKK := Lib.hid hkk
    have hE : Has ((w.alloc (.cells #[.int .i64 1, .int .i64 at_, .slice A l.length c, .bool whole, .slice Ak keep.length ck, .int .i64 torn, .int .i64 cut] 37)).alloc (.cells #[] 4)) (w.heap.size + 1) 4 #[] := by
      have := Has.of_alloc (w.alloc (.cells #[.int .i64 1, .int .i64 at_, .slice A l.length c, .bool whole, .slice Ak keep.length ck, .int .i64 torn, .int .i64 cut] 37)) 4 #[]
      simpa using this
    have hX : Has ((w.alloc (.cells #[.int .i64 1, .int .i64 at_, .slice A l.length c, .bool whole, .slice Ak keep.length ck, .int .i64 torn, .int .i64 cut] 37)).alloc (.cells #[] 4)) w.heap.size 37 #[.int .i64 1, .int .i64 at_, .slice A l.length c, .bool whole, .slice Ak keep.length ck, .int .i64 torn, .int .i64 cut] := (Has.of_alloc _ _ _).alloc _
    have HE := Lib.hid hE
    have HX := Lib.hid hX
    have F1 := Lib.hid f1
    have HSZ : Hid (((w.alloc (.cells #[.int .i64 1, .int .i64 at_, .slice A l.length c, .bool whole, .slice Ak keep.length ck, .int .i64 torn, .int .i64 cut] 37)).alloc (.cells #[] 4)).heap.size = w.heap.size + 2) := Lib.hid (by simp)
    clear hE hX f1 hkk hkt hk1
    go_enter Try.func11, Try.ntmps11
    go_wp2_with (first
      | (at_builtin; refine wpList_append_bools' rfl (.tmp 29) (.tmp 36) rfl (w.heap.size + 1) rfl HE.out _ _ k1 rfl HKK.out ?_; intro V cap w2 O2 F2 V2; have b2 : Hid (Has w2 w.heap.size 37 #[.int .i64 1, .int .i64 at_, .slice A l.length c, .bool whole, .slice Ak keep.length ck, .int .i64 torn, .int .i64 cut]) := Lib.hid (HX.out.keep F2.out (fun e => by have e : w.heap.size = w.heap.size + 1 := e; omega)); have x0 : w2.cell? ⟨w.heap.size, 0, none⟩ = some (.int .i64 1) := b2.out.cell 0; have x1 : w2.cell? ⟨w.heap.size, 1, none⟩ = some (.int .i64 at_) := b2.out.cell 1; have x2 : w2.cell? ⟨w.heap.size, 2, none⟩ = some (.slice A l.length c) := b2.out.cell 2; have x3 : w2.cell? ⟨w.heap.size, 3, none⟩ = some (.bool whole) := b2.out.cell 3; have x4 : w2.cell? ⟨w.heap.size, 4, none⟩ = some (.slice Ak keep.length ck) := b2.out.cell 4; have x5 : w2.cell? ⟨w.heap.size, 5, none⟩ = some (.int .i64 torn) := b2.out.cell 5; have x6 : w2.cell? ⟨w.heap.size, 6, none⟩ = some (.int .i64 cut) := b2.out.cell 6; have B2 : Hid (Below w.heap.size w w2) := Lib.hid ((F1.out.below (Nat.le_refl _) (fun _ e => e.elim)).trans (F2.out.below (by have := HSZ.out; omega) (fun k e => by have e : k = w.heap.size + 1 := e; omega))); have T2 : Hid (Two B w2 b x d d S R X I) := Lib.hid (H.out.next B2.out); have hVn : Hid (w.heap.size + 1 ≤ V) := Lib.hid (by rcases V2.out with q | q; omega; have := HSZ.out; omega); clear HE HX F1 HSZ F2 V2 HKK e100 h100 hcI)
      | fail)
    have HSb : Hid (∀ (T : Nat → Prop) (w' : World), Fr T w2 w' → ¬ T w.heap.size → w'.cell? ⟨w.heap.size, 0, none⟩ = some (.int .i64 1) ∧ w'.cell? ⟨w.heap.size, 1, none⟩ = some (.int .i64 at_) ∧ w'.cell? ⟨w.heap.size, 2, none⟩ = some (.slice A l.length c) ∧ w'.cell? ⟨w.heap.size, 3, none⟩ = some (.bool whole) ∧ w'.cell? ⟨w.heap.size, 4, none⟩ = some (.slice Ak keep.length ck) ∧ w'.cell? ⟨w.heap.size, 5, none⟩ = some (.int .i64 torn) ∧ w'.cell? ⟨w.heap.size, 6, none⟩ = some (.int .i64 cut)) :=
      Lib.hid (fun T w' f ht => ⟨(World.cell?_of_block (f.old _ b2.out.lt ht)).trans x0, (World.cell?_of_block (f.old _ b2.out.lt ht)).trans x1, (World.cell?_of_block (f.old _ b2.out.lt ht)).trans x2, (World.cell?_of_block (f.old _ b2.out.lt ht)).trans x3, (World.cell?_of_block (f.old _ b2.out.lt ht)).trans x4, (World.cell?_of_block (f.old _ b2.out.lt ht)).trans x5, (World.cell?_of_block (f.old _ b2.out.lt ht)).trans x6⟩)
    have hbox := H.out.far w.heap.size (.inl (Nat.le_refl _))
    have HFar := Lib.hid hbox
    have BBw2 : Hid (Below B w w2) := Lib.hid (B2.out.mono H.out.size)
    have HRd : Hid (∀ w', Below B w w' → Rd w' w'.heap.size A l) := Lib.hid (fun w' hb => (HR.out.below hb).more (Nat.le_trans H.out.size hb.size))
    obtain ⟨s, hs⟩ : ∃ s, s = Dk.secOf l whole := ⟨_, rfl⟩
    have HSEC : Hid (∀ w', Below B w w' → Calls Try.prog 27 #[.agg #[.int .i64 1, .int .i64 at_, .slice A l.length c, .bool whole, .slice Ak keep.length ck, .int .i64 torn, .int .i64 cut]] w' (NewBytes w' s)) := Lib.hid (fun w' hb => by
      rw [hs]
      exact sector_any w' 1 at_ torn cut A l c whole (.slice Ak keep.length ck) (HRd.out w' hb) HA.out HLC.out)
    have HL : Hid (s.length ≤ 140737488355328) := Lib.hid (by rw [hs]; have := secOf_len l whole; omega)
    clear x0 x1 x2 x3 x4 x5 x6 hbox hs
    refine (HSEC.out w2 BBw2.out).mono ?_
    rintro e w3 ⟨g, n, c', cur, rfl, hn, hg, hh, hz, ht, hb⟩
    have HN := Lib.hid hn
    have HH := Lib.hid hh
    have HZ := Lib.hid hz
    have HT := Lib.hid ht
    have HG := Lib.hid hg
    have F3 : Hid (Fr noB w2 w3) := Lib.hid (Fr.of_below hb noB)
    have T3 := Lib.hid (T2.out.next hb)
    have BB3 := Lib.hid (BBw2.out.trans (hb.mono T2.out.size))
    have FG := Lib.hid (T2.out.far g (.inl hg))
    clear hn hh hz ht hg hb
    have hs3 := HSb.out noB w3.drew F3.out.drew (fun e => e)
    have HS3 := Lib.hid hs3
    clear hs3
    go_wp2_with fail
    refine wp_region_held (S := fun w' => w'.cell? ⟨w.heap.size, 0, none⟩ = some (.int .i64 1) ∧ w'.cell? ⟨w.heap.size, 1, none⟩ = some (.int .i64 at_) ∧ w'.cell? ⟨w.heap.size, 2, none⟩ = some (.slice A l.length c) ∧ w'.cell? ⟨w.heap.size, 3, none⟩ = some (.bool whole) ∧ w'.cell? ⟨w.heap.size, 4, none⟩ = some (.slice Ak keep.length ck) ∧ w'.cell? ⟨w.heap.size, 5, none⟩ = some (.int .i64 torn) ∧ w'.cell? ⟨w.heap.size, 6, none⟩ = some (.int .i64 cut)) (by kernel_rfl) ?_
    change wpAnyH _ _ _ _ _ _ _ _ (World.drew _)
    refine held_yield (i := 0) 91 (.pointer (some ⟨b, 0, none⟩)) rfl rfl (by kernel_rfl) (by kernel_rfl) (by kernel_rfl) (fun _ _ _ h => h) rfl ?_ (HS3.out) ?_
    · intro w' hw'; obtain ⟨s0, s1, s2, s3, s4, s5, s6⟩ := hw'; go_simp
    simp only [Act.put, List.setIfInBounds_toArray, List.set_cons_succ, List.set_cons_zero]
    refine held_yield (i := 1) 92 (.pointer (some ⟨w.heap.size, 1, none⟩)) rfl rfl (by kernel_rfl) (by kernel_rfl) (by kernel_rfl) (fun _ _ _ h => h) rfl ?_ (HS3.out) ?_
    · intro w' hw'; obtain ⟨s0, s1, s2, s3, s4, s5, s6⟩ := hw'; go_simp
    simp only [Act.put, List.setIfInBounds_toArray, List.set_cons_succ, List.set_cons_zero]
    refine held_yield (i := 2) 93 (.int .i64 at_) rfl rfl (by kernel_rfl) (by kernel_rfl) (by kernel_rfl) (fun _ _ _ h => h) rfl ?_ (HS3.out) ?_
    · intro w' hw'; obtain ⟨s0, s1, s2, s3, s4, s5, s6⟩ := hw'; go_simp
    simp only [Act.put, List.setIfInBounds_toArray, List.set_cons_succ, List.set_cons_zero]
    refine held_yield (i := 3) 94 (.slice (some ⟨g, 0, none⟩) n c') rfl rfl (by kernel_rfl) (by kernel_rfl) (by kernel_rfl) (fun _ _ _ h => h) rfl ?_ (HS3.out) ?_
    · intro w' hw'; obtain ⟨s0, s1, s2, s3, s4, s5, s6⟩ := hw'; go_simp
    simp only [Act.put, List.setIfInBounds_toArray, List.set_cons_succ, List.set_cons_zero]
    refine held_yield (i := 5) 96 (.pointer (some ⟨x, 0, none⟩)) rfl rfl (by kernel_rfl) (by kernel_rfl) (by kernel_rfl) (fun _ _ _ h => h) rfl ?_ (HS3.out) ?_
    · intro w' hw'; obtain ⟨s0, s1, s2, s3, s4, s5, s6⟩ := hw'; go_simp
    simp only [Act.put, List.setIfInBounds_toArray, List.set_cons_succ, List.set_cons_zero]
    refine held_yield (i := 6) 97 (.pointer (some ⟨w.heap.size, 1, none⟩)) rfl rfl (by kernel_rfl) (by kernel_rfl) (by kernel_rfl) (fun _ _ _ h => h) rfl ?_ (HS3.out) ?_
    · intro w' hw'; obtain ⟨s0, s1, s2, s3, s4, s5, s6⟩ := hw'; go_simp
    simp only [Act.put, List.setIfInBounds_toArray, List.set_cons_succ, List.set_cons_zero]
    refine held_yield (i := 7) 98 (.int .i64 at_) rfl rfl (by kernel_rfl) (by kernel_rfl) (by kernel_rfl) (fun _ _ _ h => h) rfl ?_ (HS3.out) ?_
    · intro w' hw'; obtain ⟨s0, s1, s2, s3, s4, s5, s6⟩ := hw'; go_simp
    simp only [Act.put, List.setIfInBounds_toArray, List.set_cons_succ, List.set_cons_zero]
    refine held_yield (i := 8) 99 (.agg #[.int .i64 1, .int .i64 at_, .slice A l.length c, .bool whole, .slice Ak keep.length ck, .int .i64 torn, .int .i64 cut]) rfl rfl (by kernel_rfl) (by kernel_rfl) (by kernel_rfl) (fun _ _ _ h => h) rfl ?_ (HS3.out) ?_
    · intro w' hw'; obtain ⟨s0, s1, s2, s3, s4, s5, s6⟩ := hw'; go_simp
    simp only [Act.put, List.setIfInBounds_toArray, List.set_cons_succ, List.set_cons_zero]
    have b3d : Below w3.heap.size w3 w3.drew := (Below.refl _ _).drew
    have T3d := Lib.hid (T3.out.next b3d)
    have HH3 := Lib.hid (HH.out.keep (Fr.of_below b3d noB) (fun e => e))
    have BB3d := Lib.hid (BB3.out.trans (b3d.mono T3.out.size))
    have hgl : Hid (g < w3.heap.size) := Lib.hid HH.out.lt
    clear b3d
    refine held_one (i := 4) (by kernel_rfl) rfl rfl ?_
    intro K hK
    go_simp
    refine (write_full w3.drew S R b d T3d.out.disk HF.out at_ g n c' s HN.out (range_new HH3.out HT.out) FG.out.1).mono ?_
    rintro e w4 ⟨rfl, g4⟩
    obtain ⟨S4, t4, fr4, r4⟩ := T3d.out.goesD2 g4
    have T4 := Lib.hid t4
    have F4 : Hid (Fr S w2 w4) := Lib.hid ((F3.out.drew.wide (fun _ _ e => e.elim)).trans fr4 (fun _ _ e => e))
    have hs4 := HSb.out S w4 F4.out HFar.out.1
    have HH4 := Lib.hid (HH3.out.keep fr4 FG.out.1)
    have BB4 := Lib.hid (BB3d.out.trans (T3d.out.belowD fr4))
    have FG4 : Hid (¬ S4 g ∧ ¬ R g ∧ ¬ X g ∧ ¬ I g) := Lib.hid ⟨fun q => by
      rcases r4 g q with q | q
      · exact FG.out.1 q
      · have q : w3.heap.size ≤ g := q
        have := hgl.out
        omega, FG.out.2⟩
    refine hK _ _ hs4 ?_
    clear hK K g4 t4 fr4 r4 hs4
    refine held_one (i := 9) (by kernel_rfl) rfl rfl ?_
    intro K hK
    go_simp
    refine (HSEC.out w4 BB4.out).mono ?_
    rintro e w5 ⟨g5, n5, c5, cur5, rfl, hn5, hg5, hh5, hz5, ht5, hb5⟩
    have F5 : Hid (Fr S w2 w5) := Lib.hid (F4.out.trans (Fr.of_below hb5 S) (fun _ _ e => e))
    have hs5 := HSb.out S w5 F5.out HFar.out.1
    have T5 := Lib.hid (T4.out.next hb5)
    have BB5 := Lib.hid (BB4.out.trans (hb5.mono T4.out.size))
    have HH5 := Lib.hid (HH4.out.keep (Fr.of_below hb5 noB) (fun e => e))
    have HN5 := Lib.hid hn5
    have HR5 := Lib.hid (rd_new hh5 ht5 HL.out)
    have FX5 := Lib.hid (T4.out.far g5 (.inl hg5)).2.2.1
    refine hK _ _ hs5 ?_
    clear hK K hn5 hg5 hh5 hz5 ht5 hb5 hs5
    refine held_one (i := 10) (by kernel_rfl) rfl rfl ?_
    intro K hK
    go_simp
    refine (rwrite_full w5 X I x d T5.out.ref HF.out at_ g5 n5 c5 s HN5.out HR5.out FX5.out).mono ?_
    rintro e w6 ⟨rfl, g6⟩
    obtain ⟨X6, I6, t6, fr6, rx6, ri6⟩ := T5.out.goesX2 g6
    have T6 := Lib.hid t6
    have hs6 := HSb.out (fun k => S k ∨ X k) w6 ((F5.out.wide (fun _ _ e => .inl e)).trans fr6 (fun _ _ e => .inr e)) (fun e => e.elim HFar.out.1 HFar.out.2.2.1)
    have HS6 := Lib.hid hs6
    have HH6 := Lib.hid (HH5.out.keep fr6 FG4.out.2.2.1)
    have BB6 := Lib.hid (BB5.out.trans (T5.out.belowX fr6))
    have hg5l := HH5.out.lt
    have FG6 : Hid (¬ S4 g ∧ ¬ R g ∧ ¬ X6 g ∧ ¬ I6 g) := Lib.hid ⟨FG4.out.1, FG4.out.2.1, fun q => by
      rcases rx6 g q with q | q
      · exact FG4.out.2.2.1 q
      · omega, fun q => by
      rcases ri6 g q with q | q
      · exact FG4.out.2.2.2 q
      · omega⟩
    refine hK _ _ hs6 ?_
    clear hK K g6 t6 fr6 rx6 ri6 hs6 hg5l
    generalize d.wErr at_ s = er at *
    refine held_yield (i := 11) 16 (.int .i64 er) rfl rfl (by kernel_rfl) (by kernel_rfl) (by kernel_rfl) (fun _ _ _ h => h) rfl ?_ (HS6.out) ?_
    · intro w' hw'; skip; go_simp
    simp only [Act.put, List.setIfInBounds_toArray, List.set_cons_succ, List.set_cons_zero]
    refine held_yield (i := 12) 17 (.int .i64 er) rfl rfl (by kernel_rfl) (by kernel_rfl) (by kernel_rfl) (fun _ _ _ h => h) rfl ?_ (HS6.out) ?_
    · intro w' hw'; skip; go_simp
    simp only [Act.put, List.setIfInBounds_toArray, List.set_cons_succ, List.set_cons_zero]
    refine wpAnyH_done (by kernel_rfl) ?_ 0
    obtain ⟨q0, q1, q2, q3, q4, q5, q6⟩ := HS6.out
    go_wp2_with fail
    refine (HSEC.out w6 BB6.out).mono ?_
    rintro e w7 ⟨g7, n7, c7, cur7, rfl, hn7, hg7, hh7, hz7, ht7, hb7⟩
    have hh7g := HH6.out.keep (Fr.of_below hb7 noB) (fun e => e)
    have hby := bytes_any w7 _ _ s s (bytes_new (c := c') hh7g HT.out HN.out HL.out) (bytes_new (c := c7) hh7 ht7 hn7 HL.out)
    rw [decide_eq_true rfl] at hby
    have HBY := Lib.hid hby
    have HH7 := Lib.hid hh7g
    have T7 := Lib.hid (T6.out.next hb7)
    have BB7 := Lib.hid (BB6.out.trans (hb7.mono T6.out.size))
    clear q0 q1 q2 q3 q4 q5 q6 hn7 hg7 hh7 hz7 ht7 hb7 hh7g hby
    go_wp2_with fail
    refine HBY.out.mono ?_
    rintro e w8 ⟨rfl, f8⟩
    have HH8 := Lib.hid (HH7.out.keep f8 (fun e => e))
    have b8 := f8.below (Nat.le_refl _) (fun _ e => e.elim)
    have T8 := Lib.hid (T7.out.next b8)
    have BB8 := Lib.hid (BB7.out.trans (b8.mono T7.out.size))
    have hgB : Hid (B ≤ g) := Lib.hid (Nat.le_trans T2.out.size HG.out)
    have hnI : (n : Int) ≤ 140737488355328 := by have := HL.out; have := HN.out; omega
    clear f8 b8
    go_wp2_with fail
    go_loopw [19] (fun v wr => ∃ i : Nat, i ≤ n ∧ v = .int .i64 i ∧ ∃ cs : Array Value, Hid (Has wr g 5 cs) ∧ Hid (n ≤ cs.size) ∧ Hid (Fr (oneB g) w8 wr)) (fun v _ => n - (intOf v).toNat)
    case atStart => exact ⟨0, Nat.zero_le _, rfl, _, HH8, HZ, Lib.hid (Fr.refl _ _)⟩
    case round =>
      rename World => wr
      obtain ⟨i, hi, rfl, cs, hh, hsz, hfr⟩ := hrel
      by_cases hlt : i < n
      · have hiI : (i : Int) < n := by omega
        have hcell : wr.cell? ⟨g, i, none⟩ = some (cs[i]'(Nat.lt_of_lt_of_le hlt hsz.out)) := by rw [hh.out.cell]; exact Array.getElem?_eq_getElem _
        have hfz : wr.frozen? ⟨g, i, none⟩ = false := hh.out.free i
        have HNw := Lib.hid (hh.out.set i (.int .u8 221))
        have HNS : Hid (n ≤ (cs.setIfInBounds i (.int .u8 221)).size) := Lib.hid (by rw [Array.size_setIfInBounds]; exact hsz.out)
        have HNF := Lib.hid (hfr.out.put (i := i) (.int .u8 221))
        generalize (cs[i]'(Nat.lt_of_lt_of_le hlt hsz.out)) = u at *
        go_wp2_with fail
        exact ⟨⟨i + 1, by omega, rfl, _, HNw, HNS, HNF⟩, by simp only [intOf]; omega⟩
      · have hiN : ¬ (i : Int) < n := by omega
        go_wp2_with fail
        go_ret3
        have t9 := T8.out.frame hfr.out (fun k hk => by have hk : k = g := hk; rw [hk]; exact FG6.out)
        exact ⟨b, x, d.wTo at_ s, S4, R, X6, I6, rfl, t9, BB8.out.trans (hfr.out.below T8.out.size (fun k hk => by have hk : k = g := hk; rw [hk]; exact hgB.out)), grows_w d at_ s⟩
end Go.Proofs.Ytpgpalnnmoanpaa

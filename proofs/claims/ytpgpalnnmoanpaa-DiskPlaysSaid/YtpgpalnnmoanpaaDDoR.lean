/-
  The statement's do, kind kind (written by wip/gen/gendo.py).
-/
import Derived.Test.YtpgpalnnmoanpaaDDo
namespace Go.Proofs.Ytpgpalnnmoanpaa
open Go.RowKit Go.Maps

set_option maxRecDepth 100000 in
set_option maxHeartbeats 1600000 in
theorem do_kind (kind : Int) (n0 : (kind == 0) = false) (n1 : (kind == 1) = false) (n2 : (kind == 2) = false) (n3 : (kind == 3) = false) (n4 : (kind == 4) = false) (n5 : (kind == 5) = false) (n7 : (kind == 7) = false) (w : World) (B b x : Nat) (d : Dk.St) (S R X I : Nat → Prop) (h : Two B w b x d d S R X I) (hs : Small d) (at_ torn cut : Int) (hat : at_ ≤ 9223372036854775807) (A : Option Addr) (l : List UInt8) (c : Nat) (whole : Bool) (Ak : Option Addr) (keep : List Bool) (ck : Nat)
    (hr : Rd w B A l) (hA : A = none → c = 0) (hlc : l.length ≤ c) (hk : KeepAt w (fun k => k < B) (.slice Ak keep.length ck) keep) (hck : keep.length ≤ ck) :
    Calls Try.prog 11 #[.agg #[.int .i64 kind, .int .i64 at_, .slice A l.length c, .bool whole, .slice Ak keep.length ck, .int .i64 torn, .int .i64 cut], .pointer (some ⟨b, 0, none⟩), .pointer (some ⟨x, 0, none⟩)] w (DoneBy B w d) := by
  have H := Lib.hid h
  have HF := Lib.hid hs.few
  have HSm := Lib.hid hs
  have HK := Lib.hid hk
  have HR := Lib.hid hr
  have HA := Lib.hid hA
  have HLC := Lib.hid hlc
  have HAT := Lib.hid hat
  have hcI : (keep.length : Int) ≤ ck := by omega
  clear h hs hk hck hr hA hlc hat
  obtain ⟨k1, hk1⟩ : ∃ k1, k1 = keep.take 100 := ⟨_, rfl⟩
  have HK1 := Lib.hid (HK.out.take 100)
  rw [← hk1] at HK1
  rcases Nat.lt_or_ge 100 keep.length with h100 | h100
  · have e100 : (100 : Int) < keep.length := by omega
    have e101 : ¬ (keep.length : Int) < 100 := by omega
    have hkt : k1.length = 100 := by rw [hk1]; exact List.length_take_of_le (by omega)
    have HKT := Lib.hid hkt
    have f1 : Fr noB w ((w.alloc (.cells #[.int .i64 kind, .int .i64 at_, .slice A l.length c, .bool whole, .slice Ak keep.length ck, .int .i64 torn, .int .i64 cut] 37)).alloc (.cells #[] 4)) := ((Fr.refl noB w).alloc _).alloc _
    have hkk : KeepAt ((w.alloc (.cells #[.int .i64 kind, .int .i64 at_, .slice A l.length c, .bool whole, .slice Ak keep.length ck, .int .i64 torn, .int .i64 cut] 37)).alloc (.cells #[] 4)) (fun k => k < B) (.slice Ak k1.length ck) k1 := HK1.out.keep f1 (fun _ _ e => e)
    rw [hkt] at hkk
    have HEQ := Lib.hid hk1
    have HKK := Lib.hid hkk
    have hE : Has ((w.alloc (.cells #[.int .i64 kind, .int .i64 at_, .slice A l.length c, .bool whole, .slice Ak keep.length ck, .int .i64 torn, .int .i64 cut] 37)).alloc (.cells #[] 4)) (w.heap.size + 1) 4 #[] := by
      have := Has.of_alloc (w.alloc (.cells #[.int .i64 kind, .int .i64 at_, .slice A l.length c, .bool whole, .slice Ak keep.length ck, .int .i64 torn, .int .i64 cut] 37)) 4 #[]
      simpa using this
    have hX : Has ((w.alloc (.cells #[.int .i64 kind, .int .i64 at_, .slice A l.length c, .bool whole, .slice Ak keep.length ck, .int .i64 torn, .int .i64 cut] 37)).alloc (.cells #[] 4)) w.heap.size 37 #[.int .i64 kind, .int .i64 at_, .slice A l.length c, .bool whole, .slice Ak keep.length ck, .int .i64 torn, .int .i64 cut] := (Has.of_alloc _ _ _).alloc _
    have HE := Lib.hid hE
    have HX := Lib.hid hX
    have F1 := Lib.hid f1
    have HSZ : Hid (((w.alloc (.cells #[.int .i64 kind, .int .i64 at_, .slice A l.length c, .bool whole, .slice Ak keep.length ck, .int .i64 torn, .int .i64 cut] 37)).alloc (.cells #[] 4)).heap.size = w.heap.size + 2) := Lib.hid (by simp)
    clear hE hX f1 hkk hkt hk1
    go_enter Try.func11, Try.ntmps11
    go_wp2_with (first
      | (at_builtin; refine wpList_append_bools' rfl (.tmp 29) (.tmp 36) rfl (w.heap.size + 1) rfl HE.out _ _ k1 rfl HKK.out ?_; intro V cap w2 O2 F2 V2; have b2 : Hid (Has w2 w.heap.size 37 #[.int .i64 kind, .int .i64 at_, .slice A l.length c, .bool whole, .slice Ak keep.length ck, .int .i64 torn, .int .i64 cut]) := Lib.hid (HX.out.keep F2.out (fun e => by have e : w.heap.size = w.heap.size + 1 := e; omega)); have x0 : w2.cell? ⟨w.heap.size, 0, none⟩ = some (.int .i64 kind) := b2.out.cell 0; have x1 : w2.cell? ⟨w.heap.size, 1, none⟩ = some (.int .i64 at_) := b2.out.cell 1; have x4 : w2.cell? ⟨w.heap.size, 4, none⟩ = some (.slice Ak keep.length ck) := b2.out.cell 4; have x5 : w2.cell? ⟨w.heap.size, 5, none⟩ = some (.int .i64 torn) := b2.out.cell 5; have x6 : w2.cell? ⟨w.heap.size, 6, none⟩ = some (.int .i64 cut) := b2.out.cell 6; have B2 : Hid (Below w.heap.size w w2) := Lib.hid ((F1.out.below (Nat.le_refl _) (fun _ e => e.elim)).trans (F2.out.below (by have := HSZ.out; omega) (fun k e => by have e : k = w.heap.size + 1 := e; omega))); have T2 : Hid (Two B w2 b x d d S R X I) := Lib.hid (H.out.next B2.out); have hVn : Hid (w.heap.size + 1 ≤ V) := Lib.hid (by rcases V2.out with q | q; omega; have := HSZ.out; omega); clear HE HX F1 HSZ F2 V2 HKK e100 h100 hcI e101)
      | fail)
    have hmw : d.waits.length ≤ 1000000 := by have := HF.out.waits; omega
    have HM := Lib.hid hmw
    have hbx2 := b2.out.lt
    clear hmw x0 x1 x4 x5 x6
    refine (copy_any w2 S R b d T2.out.disk HM.out).mono ?_
    rintro e w3 ⟨b3, S3, rfl, d3, be3, s3⟩
    unfold ptr
    have D3 := Lib.hid d3
    have BE3 := Lib.hid be3
    have S3' := Lib.hid s3
    have X3 := Lib.hid (T2.out.ref.keep (Fr.of_below be3 noB) (fun _ e => e.elim))
    clear d3 be3 s3
    go_wp2_with fail
    refine (rcopy_ok w3 X I x d X3.out HM.out).mono ?_
    rintro e w4 ⟨x4', S4, I4, rfl, d4, be4, s4, i4⟩
    unfold ptr
    have BE24 : Hid (Below w2.heap.size w2 w4) := Lib.hid (BE3.out.trans (be4.mono BE3.out.size))
    have H4 : Hid (Two B w4 b3 x4' d d S3 R S4 I4) := Lib.hid (T2.out.anew D3.out BE3.out S3'.out (fun _ e => .inl e) d4 be4 s4 i4)
    have S4' := Lib.hid s4
    have I4' := Lib.hid i4
    clear d4 be4 s4 i4
    go_wp2_with fail
    refine (told_any w4 S3 R S4 I4 b3 x4' d H4.out.disk H4.out.ref HM.out).mono ?_
    rintro e w5 ⟨rfl, b5⟩
    have H5 := Lib.hid (H4.out.next b5)
    have BE25 : Hid (Below w2.heap.size w2 w5) := Lib.hid (BE24.out.trans (b5.mono BE24.out.size))
    have T5 := Lib.hid (T2.out.next BE25.out)
    have x0 : w5.cell? ⟨w.heap.size, 0, none⟩ = some (.int .i64 kind) := (World.cell?_of_block (BE25.out.block _ hbx2)).trans (b2.out.cell 0)
    have SEP : Hid (∀ k, S k → B ≤ k ∧ ¬ S3 k ∧ ¬ R k ∧ ¬ S4 k ∧ ¬ I4 k) := Lib.hid (fun k hk => by
      have hl := T2.out.disk.lt k hk
      refine ⟨T2.out.news k (.inl hk), fun q => ?_, fun q => T2.out.disk.apart k q hk, fun q => ?_, fun q => ?_⟩
      · have := S3'.out k q; omega
      · have := S4'.out k q; have := BE3.out.size; omega
      · rcases I4'.out k q with q | q
        · exact (T2.out.apart k hk).2 q
        · have := BE3.out.size; omega)
    have SEP3 : Hid (∀ k, S3 k → B ≤ k ∧ ¬ S k ∧ ¬ R k ∧ ¬ X k ∧ ¬ I k) := Lib.hid (fun k hk => ⟨by have := S3'.out k hk; have := T2.out.size; omega, T2.out.far k (.inl (S3'.out k hk))⟩)
    have BB5 : Hid (Below B w w5) := Lib.hid ((B2.out.mono H.out.size).trans (BE25.out.mono T2.out.size))
    have hmk := run_make128 w5
    have b6 : Below w5.heap.size w5 (w5.alloc (.cells zero128 5)) := (Below.refl _ _).alloc (Nat.le_refl _) _
    have HZ : Hid (Has (w5.alloc (.cells zero128 5)) w5.heap.size 5 zero128) := Lib.hid (Has.of_alloc _ _ _)
    have RZ : Hid ((w5.alloc (.cells zero128 5)).rangeAt w5.heap.size 0 (Dk.secCells Dk.zsec)) := Lib.hid (fun j u hj => by rw [Nat.zero_add, HZ.out.cell]; simpa [zero128] using hj)
    have H6 := Lib.hid (H5.out.next b6)
    have T6 := Lib.hid (T5.out.next b6)
    have BB6 : Hid (Below B w (w5.alloc (.cells zero128 5))) := Lib.hid (BB5.out.trans (b6.mono T5.out.size))
    have FS6 := T5.out.far w5.heap.size (.inl (Nat.le_refl _))
    have FH6 := H5.out.far w5.heap.size (.inl (Nat.le_refl _))
    have FS := Lib.hid FS6
    have FH := Lib.hid FH6
    clear b5 b6 FS6 FH6
    go_wp2_with fail
    generalize (w5.alloc (.cells zero128 5)) = w6 at *
    generalize hg5 : w5.heap.size = g5 at *
    clear hmk x0
    refine (write_full w6 S3 R b3 d H6.out.disk HF.out 0 g5 128 128 Dk.zsec rfl RZ.out FH.out.1).mono ?_
    rintro e w7 ⟨rfl, g7⟩
    obtain ⟨S7, d7, h7, sep7, be7⟩ := aside T6.out SEP3.out g7
    have D7 := Lib.hid d7
    have T7 := Lib.hid h7
    have SEP7 := Lib.hid sep7
    have BB7 := Lib.hid (BB6.out.trans be7)
    clear g7 d7 h7 sep7 be7
    generalize d.wErr 0 Dk.zsec = er at *
    go_wp2_with fail
    have b8 : Below w7.heap.size w7 (w7.alloc (.cells #[.bool true] 4)) := (Below.refl _ _).alloc (Nat.le_refl _) _
    have own8 : OwnB (w7.alloc (.cells #[.bool true] 4)) w7.heap.size [true] := ⟨#[.bool true], Has.of_alloc _ _ _, fun j c hj => by
      rcases j with _ | j
      · simp at hj; subst hj; rfl
      · simp at hj⟩
    have d8 := D7.out.keep (Fr.of_below b8 noB) (fun _ e => e.elim)
    have hcr := crash_full (w7.alloc (.cells #[.bool true] 4)) S7 R (oneB w7.heap.size) b3 (d.wTo 0 Dk.zsec) d8 (HSm.out.grown (grows_w d 0 Dk.zsec)) (.slice (some ⟨w7.heap.size, 0, none⟩) 1 1) ⟨[true], -1, 0⟩ (own8.keepAt (by simp)) (fun k hk q => by
      have hk : k = w7.heap.size := hk
      have := D7.out.lt k q
      omega)
    unfold planV at hcr
    have T8 := Lib.hid (T7.out.next b8)
    have BB8 := Lib.hid (BB7.out.trans (b8.mono T7.out.size))
    refine hcr.mono ?_
    clear hcr d8 own8 b8
    rintro e w9 ⟨rfl, g9⟩
    obtain ⟨S9, d9, h9, sep9, be9⟩ := aside T8.out SEP7.out g9
    have T9 := Lib.hid h9
    have BB9 := Lib.hid (BB8.out.trans be9)
    clear g9 d9 h9 sep9 be9
    generalize (d.wTo 0 Dk.zsec).cErr _ = er9 at *
    go_wp2_with fail
    go_ret3
    exact ⟨b, x, d, S, R, X, I, rfl, T9.out, BB9.out, .refl d⟩
  · have e100 : ¬ (100 : Int) < keep.length := by omega
    have hkt : k1.length = keep.length := by rw [hk1, List.length_take]; omega
    have HKT := Lib.hid hkt
    have f1 : Fr noB w ((w.alloc (.cells #[.int .i64 kind, .int .i64 at_, .slice A l.length c, .bool whole, .slice Ak keep.length ck, .int .i64 torn, .int .i64 cut] 37)).alloc (.cells #[] 4)) := ((Fr.refl noB w).alloc _).alloc _
    have hkk : KeepAt ((w.alloc (.cells #[.int .i64 kind, .int .i64 at_, .slice A l.length c, .bool whole, .slice Ak keep.length ck, .int .i64 torn, .int .i64 cut] 37)).alloc (.cells #[] 4)) (fun k => k < B) (.slice Ak k1.length ck) k1 := HK1.out.keep f1 (fun _ _ e => e)
    rw [hkt] at hkk
    have HEQ := Lib.hid hk1
    have HKK := Lib.hid hkk
    have hE : Has ((w.alloc (.cells #[.int .i64 kind, .int .i64 at_, .slice A l.length c, .bool whole, .slice Ak keep.length ck, .int .i64 torn, .int .i64 cut] 37)).alloc (.cells #[] 4)) (w.heap.size + 1) 4 #[] := by
      have := Has.of_alloc (w.alloc (.cells #[.int .i64 kind, .int .i64 at_, .slice A l.length c, .bool whole, .slice Ak keep.length ck, .int .i64 torn, .int .i64 cut] 37)) 4 #[]
      simpa using this
    have hX : Has ((w.alloc (.cells #[.int .i64 kind, .int .i64 at_, .slice A l.length c, .bool whole, .slice Ak keep.length ck, .int .i64 torn, .int .i64 cut] 37)).alloc (.cells #[] 4)) w.heap.size 37 #[.int .i64 kind, .int .i64 at_, .slice A l.length c, .bool whole, .slice Ak keep.length ck, .int .i64 torn, .int .i64 cut] := (Has.of_alloc _ _ _).alloc _
    have HE := Lib.hid hE
    have HX := Lib.hid hX
    have F1 := Lib.hid f1
    have HSZ : Hid (((w.alloc (.cells #[.int .i64 kind, .int .i64 at_, .slice A l.length c, .bool whole, .slice Ak keep.length ck, .int .i64 torn, .int .i64 cut] 37)).alloc (.cells #[] 4)).heap.size = w.heap.size + 2) := Lib.hid (by simp)
    clear hE hX f1 hkk hkt hk1
    go_enter Try.func11, Try.ntmps11
    go_wp2_with (first
      | (at_builtin; refine wpList_append_bools' rfl (.tmp 29) (.tmp 36) rfl (w.heap.size + 1) rfl HE.out _ _ k1 rfl HKK.out ?_; intro V cap w2 O2 F2 V2; have b2 : Hid (Has w2 w.heap.size 37 #[.int .i64 kind, .int .i64 at_, .slice A l.length c, .bool whole, .slice Ak keep.length ck, .int .i64 torn, .int .i64 cut]) := Lib.hid (HX.out.keep F2.out (fun e => by have e : w.heap.size = w.heap.size + 1 := e; omega)); have x0 : w2.cell? ⟨w.heap.size, 0, none⟩ = some (.int .i64 kind) := b2.out.cell 0; have x1 : w2.cell? ⟨w.heap.size, 1, none⟩ = some (.int .i64 at_) := b2.out.cell 1; have x4 : w2.cell? ⟨w.heap.size, 4, none⟩ = some (.slice Ak keep.length ck) := b2.out.cell 4; have x5 : w2.cell? ⟨w.heap.size, 5, none⟩ = some (.int .i64 torn) := b2.out.cell 5; have x6 : w2.cell? ⟨w.heap.size, 6, none⟩ = some (.int .i64 cut) := b2.out.cell 6; have B2 : Hid (Below w.heap.size w w2) := Lib.hid ((F1.out.below (Nat.le_refl _) (fun _ e => e.elim)).trans (F2.out.below (by have := HSZ.out; omega) (fun k e => by have e : k = w.heap.size + 1 := e; omega))); have T2 : Hid (Two B w2 b x d d S R X I) := Lib.hid (H.out.next B2.out); have hVn : Hid (w.heap.size + 1 ≤ V) := Lib.hid (by rcases V2.out with q | q; omega; have := HSZ.out; omega); clear HE HX F1 HSZ F2 V2 HKK e100 h100 hcI)
      | fail)
    have hmw : d.waits.length ≤ 1000000 := by have := HF.out.waits; omega
    have HM := Lib.hid hmw
    have hbx2 := b2.out.lt
    clear hmw x0 x1 x4 x5 x6
    refine (copy_any w2 S R b d T2.out.disk HM.out).mono ?_
    rintro e w3 ⟨b3, S3, rfl, d3, be3, s3⟩
    unfold ptr
    have D3 := Lib.hid d3
    have BE3 := Lib.hid be3
    have S3' := Lib.hid s3
    have X3 := Lib.hid (T2.out.ref.keep (Fr.of_below be3 noB) (fun _ e => e.elim))
    clear d3 be3 s3
    go_wp2_with fail
    refine (rcopy_ok w3 X I x d X3.out HM.out).mono ?_
    rintro e w4 ⟨x4', S4, I4, rfl, d4, be4, s4, i4⟩
    unfold ptr
    have BE24 : Hid (Below w2.heap.size w2 w4) := Lib.hid (BE3.out.trans (be4.mono BE3.out.size))
    have H4 : Hid (Two B w4 b3 x4' d d S3 R S4 I4) := Lib.hid (T2.out.anew D3.out BE3.out S3'.out (fun _ e => .inl e) d4 be4 s4 i4)
    have S4' := Lib.hid s4
    have I4' := Lib.hid i4
    clear d4 be4 s4 i4
    go_wp2_with fail
    refine (told_any w4 S3 R S4 I4 b3 x4' d H4.out.disk H4.out.ref HM.out).mono ?_
    rintro e w5 ⟨rfl, b5⟩
    have H5 := Lib.hid (H4.out.next b5)
    have BE25 : Hid (Below w2.heap.size w2 w5) := Lib.hid (BE24.out.trans (b5.mono BE24.out.size))
    have T5 := Lib.hid (T2.out.next BE25.out)
    have x0 : w5.cell? ⟨w.heap.size, 0, none⟩ = some (.int .i64 kind) := (World.cell?_of_block (BE25.out.block _ hbx2)).trans (b2.out.cell 0)
    have SEP : Hid (∀ k, S k → B ≤ k ∧ ¬ S3 k ∧ ¬ R k ∧ ¬ S4 k ∧ ¬ I4 k) := Lib.hid (fun k hk => by
      have hl := T2.out.disk.lt k hk
      refine ⟨T2.out.news k (.inl hk), fun q => ?_, fun q => T2.out.disk.apart k q hk, fun q => ?_, fun q => ?_⟩
      · have := S3'.out k q; omega
      · have := S4'.out k q; have := BE3.out.size; omega
      · rcases I4'.out k q with q | q
        · exact (T2.out.apart k hk).2 q
        · have := BE3.out.size; omega)
    have SEP3 : Hid (∀ k, S3 k → B ≤ k ∧ ¬ S k ∧ ¬ R k ∧ ¬ X k ∧ ¬ I k) := Lib.hid (fun k hk => ⟨by have := S3'.out k hk; have := T2.out.size; omega, T2.out.far k (.inl (S3'.out k hk))⟩)
    have BB5 : Hid (Below B w w5) := Lib.hid ((B2.out.mono H.out.size).trans (BE25.out.mono T2.out.size))
    have hmk := run_make128 w5
    have b6 : Below w5.heap.size w5 (w5.alloc (.cells zero128 5)) := (Below.refl _ _).alloc (Nat.le_refl _) _
    have HZ : Hid (Has (w5.alloc (.cells zero128 5)) w5.heap.size 5 zero128) := Lib.hid (Has.of_alloc _ _ _)
    have RZ : Hid ((w5.alloc (.cells zero128 5)).rangeAt w5.heap.size 0 (Dk.secCells Dk.zsec)) := Lib.hid (fun j u hj => by rw [Nat.zero_add, HZ.out.cell]; simpa [zero128] using hj)
    have H6 := Lib.hid (H5.out.next b6)
    have T6 := Lib.hid (T5.out.next b6)
    have BB6 : Hid (Below B w (w5.alloc (.cells zero128 5))) := Lib.hid (BB5.out.trans (b6.mono T5.out.size))
    have FS6 := T5.out.far w5.heap.size (.inl (Nat.le_refl _))
    have FH6 := H5.out.far w5.heap.size (.inl (Nat.le_refl _))
    have FS := Lib.hid FS6
    have FH := Lib.hid FH6
    clear b5 b6 FS6 FH6
    go_wp2_with fail
    generalize (w5.alloc (.cells zero128 5)) = w6 at *
    generalize hg5 : w5.heap.size = g5 at *
    clear hmk x0
    refine (write_full w6 S3 R b3 d H6.out.disk HF.out 0 g5 128 128 Dk.zsec rfl RZ.out FH.out.1).mono ?_
    rintro e w7 ⟨rfl, g7⟩
    obtain ⟨S7, d7, h7, sep7, be7⟩ := aside T6.out SEP3.out g7
    have D7 := Lib.hid d7
    have T7 := Lib.hid h7
    have SEP7 := Lib.hid sep7
    have BB7 := Lib.hid (BB6.out.trans be7)
    clear g7 d7 h7 sep7 be7
    generalize d.wErr 0 Dk.zsec = er at *
    go_wp2_with fail
    have b8 : Below w7.heap.size w7 (w7.alloc (.cells #[.bool true] 4)) := (Below.refl _ _).alloc (Nat.le_refl _) _
    have own8 : OwnB (w7.alloc (.cells #[.bool true] 4)) w7.heap.size [true] := ⟨#[.bool true], Has.of_alloc _ _ _, fun j c hj => by
      rcases j with _ | j
      · simp at hj; subst hj; rfl
      · simp at hj⟩
    have d8 := D7.out.keep (Fr.of_below b8 noB) (fun _ e => e.elim)
    have hcr := crash_full (w7.alloc (.cells #[.bool true] 4)) S7 R (oneB w7.heap.size) b3 (d.wTo 0 Dk.zsec) d8 (HSm.out.grown (grows_w d 0 Dk.zsec)) (.slice (some ⟨w7.heap.size, 0, none⟩) 1 1) ⟨[true], -1, 0⟩ (own8.keepAt (by simp)) (fun k hk q => by
      have hk : k = w7.heap.size := hk
      have := D7.out.lt k q
      omega)
    unfold planV at hcr
    have T8 := Lib.hid (T7.out.next b8)
    have BB8 := Lib.hid (BB7.out.trans (b8.mono T7.out.size))
    refine hcr.mono ?_
    clear hcr d8 own8 b8
    rintro e w9 ⟨rfl, g9⟩
    obtain ⟨S9, d9, h9, sep9, be9⟩ := aside T8.out SEP7.out g9
    have T9 := Lib.hid h9
    have BB9 := Lib.hid (BB8.out.trans be9)
    clear g9 d9 h9 sep9 be9
    generalize (d.wTo 0 Dk.zsec).cErr _ = er9 at *
    go_wp2_with fail
    go_ret3
    exact ⟨b, x, d, S, R, X, I, rfl, T9.out, BB9.out, .refl d⟩
end Go.Proofs.Ytpgpalnnmoanpaa

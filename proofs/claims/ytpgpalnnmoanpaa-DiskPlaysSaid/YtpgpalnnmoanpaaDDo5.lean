/-
  The statement's do, kind 5 (written by wip/gen/gendo.py).
-/
import Derived.Test.YtpgpalnnmoanpaaDDo
namespace Go.Proofs.Ytpgpalnnmoanpaa
open Go.RowKit Go.Maps

set_option maxRecDepth 100000 in
set_option maxHeartbeats 1600000 in
theorem do_5 (w : World) (B b x : Nat) (d : Dk.St) (S R X I : Nat → Prop) (h : Two B w b x d d S R X I) (hs : Small d) (at_ torn cut : Int) (hat : at_ ≤ 9223372036854775807) (A : Option Addr) (l : List UInt8) (c : Nat) (whole : Bool) (Ak : Option Addr) (keep : List Bool) (ck : Nat)
    (hr : Rd w B A l) (hA : A = none → c = 0) (hlc : l.length ≤ c) (hk : KeepAt w (fun k => k < B) (.slice Ak keep.length ck) keep) (hck : keep.length ≤ ck) :
    Calls Try.prog 11 #[.agg #[.int .i64 5, .int .i64 at_, .slice A l.length c, .bool whole, .slice Ak keep.length ck, .int .i64 torn, .int .i64 cut], .pointer (some ⟨b, 0, none⟩), .pointer (some ⟨x, 0, none⟩)] w (DoneBy B w d) := by
  have H := Lib.hid h
  have HF := Lib.hid hs.few
  have HSm := Lib.hid hs
  have HK := Lib.hid hk
  have HR := Lib.hid hr
  have HA := Lib.hid hA
  have HLC := Lib.hid hlc
  have HAT := Lib.hid hat
  have hcI : (keep.length : Int) ≤ ck := by omega
  clear h hs hk hck hr hA hlc hat
  obtain ⟨k1, hk1⟩ : ∃ k1, k1 = keep.take 100 := ⟨_, rfl⟩
  have HK1 := Lib.hid (HK.out.take 100)
  rw [← hk1] at HK1
  rcases Nat.lt_or_ge 100 keep.length with h100 | h100
  · have e100 : (100 : Int) < keep.length := by omega
    have e101 : ¬ (keep.length : Int) < 100 := by omega
    have hkt : k1.length = 100 := by rw [hk1]; exact List.length_take_of_le (by omega)
    have HKT := Lib.hid hkt
    have f1 : Fr noB w ((w.alloc (.cells #[.int .i64 5, .int .i64 at_, .slice A l.length c, .bool whole, .slice Ak keep.length ck, .int .i64 torn, .int .i64 cut] 37)).alloc (.cells #[] 4)) := ((Fr.refl noB w).alloc _).alloc _
    have hkk : KeepAt ((w.alloc (.cells #[.int .i64 5, .int .i64 at_, .slice A l.length c, .bool whole, .slice Ak keep.length ck, .int .i64 torn, .int .i64 cut] 37)).alloc (.cells #[] 4)) (fun k => k < B) (.slice Ak k1.length ck) k1 := HK1.out.keep f1 (fun _ _ e => e)
    rw [hkt] at hkk
    have HEQ := Lib.hid hk1
    have HKK := Lib.hid hkk
    have hE : Has ((w.alloc (.cells #[.int .i64 5, .int .i64 at_, .slice A l.length c, .bool whole, .slice Ak keep.length ck, .int .i64 torn, .int .i64 cut] 37)).alloc (.cells #[] 4)) (w.heap.size + 1) 4 #[] := by
      have := Has.of_alloc (w.alloc (.cells #[.int .i64 5, .int .i64 at_, .slice A l.length c, .bool whole, .slice Ak keep.length ck, .int .i64 torn, .int .i64 cut] 37)) 4 #[]
      simpa using this
    have hX : Has ((w.alloc (.cells #[.int .i64 5, .int .i64 at_, .slice A l.length c, .bool whole, .slice Ak keep.length ck, .int .i64 torn, .int .i64 cut] 37)).alloc (.cells #[] 4)) w.heap.size 37 #[.int .i64 5, .int .i64 at_, .slice A l.length c, .bool whole, .slice Ak keep.length ck, .int .i64 torn, .int .i64 cut] := (Has.of_alloc _ _ _).alloc _
    have HE := Lib.hid hE
    have HX := Lib.hid hX
    have F1 := Lib.hid f1
    have HSZ : Hid (((w.alloc (.cells #[.int .i64 5, .int .i64 at_, .slice A l.length c, .bool whole, .slice Ak keep.length ck, .int .i64 torn, .int .i64 cut] 37)).alloc (.cells #[] 4)).heap.size = w.heap.size + 2) := Lib.hid (by simp)
    clear hE hX f1 hkk hkt hk1
    go_enter Try.func11, Try.ntmps11
    go_wp2_with (first
      | (at_builtin; refine wpList_append_bools' rfl (.tmp 29) (.tmp 36) rfl (w.heap.size + 1) rfl HE.out _ _ k1 rfl HKK.out ?_; intro V cap w2 O2 F2 V2; have b2 : Hid (Has w2 w.heap.size 37 #[.int .i64 5, .int .i64 at_, .slice A l.length c, .bool whole, .slice Ak keep.length ck, .int .i64 torn, .int .i64 cut]) := Lib.hid (HX.out.keep F2.out (fun e => by have e : w.heap.size = w.heap.size + 1 := e; omega)); have x0 : w2.cell? ⟨w.heap.size, 0, none⟩ = some (.int .i64 5) := b2.out.cell 0; have x1 : w2.cell? ⟨w.heap.size, 1, none⟩ = some (.int .i64 at_) := b2.out.cell 1; have x4 : w2.cell? ⟨w.heap.size, 4, none⟩ = some (.slice Ak keep.length ck) := b2.out.cell 4; have x5 : w2.cell? ⟨w.heap.size, 5, none⟩ = some (.int .i64 torn) := b2.out.cell 5; have x6 : w2.cell? ⟨w.heap.size, 6, none⟩ = some (.int .i64 cut) := b2.out.cell 6; have B2 : Hid (Below w.heap.size w w2) := Lib.hid ((F1.out.below (Nat.le_refl _) (fun _ e => e.elim)).trans (F2.out.below (by have := HSZ.out; omega) (fun k e => by have e : k = w.heap.size + 1 := e; omega))); have T2 : Hid (Two B w2 b x d d S R X I) := Lib.hid (H.out.next B2.out); have hVn : Hid (w.heap.size + 1 ≤ V) := Lib.hid (by rcases V2.out with q | q; omega; have := HSZ.out; omega); clear HE HX F1 HSZ F2 V2 HKK e100 h100 hcI e101)
      | fail)
    have hmw : d.waits.length ≤ 1000000 := by have := HF.out.waits; omega
    have HM := Lib.hid hmw
    have c4 := T2.out.disk.c4
    have c3 := T2.out.ref.c3
    clear hmw x0 x1 x4 x5 x6
    cases hd : d.dead with
    | false =>
      rw [hd] at c3 c4
      refine (reopen_not w2 b c4).mono ?_
      rintro e w3 ⟨rfl, rfl⟩
      go_wp2_with fail
      refine (rreopen_not w2 x c3).mono ?_
      rintro e w3 ⟨rfl, rfl⟩
      have HD := Lib.hid hd
      clear hd c3 c4
      go_wp2_with fail
      refine (told_any w2 S R X I b x d T2.out.disk T2.out.ref HM.out).mono ?_
      rintro e w5 ⟨rfl, b5⟩
      have B5 := Lib.hid b5
      clear b5
      go_wp2_with fail
      go_ret3
      exact ⟨b, x, d, S, R, X, I, rfl, T2.out.next B5.out, (B2.out.mono H.out.size).trans (B5.out.mono T2.out.size), .refl d⟩
    | true =>
      rw [hd] at c3 c4
      have HD := Lib.hid hd
      clear hd c3 c4
      refine (reopen_ok w2 S R b d T2.out.disk HD.out).mono ?_
      rintro e w3 ⟨b3, S3, rfl, d3, be3, s3⟩
      unfold ptr
      have D3 := Lib.hid d3
      have BE3 := Lib.hid be3
      have S3' := Lib.hid s3
      have X3 := Lib.hid (T2.out.ref.keep (Fr.of_below be3 noB) (fun _ e => e.elim))
      clear d3 be3 s3
      go_wp2_with fail
      refine (rreopen_ok w3 X I x d X3.out HD.out).mono ?_
      rintro e w4 ⟨x4', S4, I4, rfl, d4, be4, s4, i4⟩
      unfold ptr
      have D4 := Lib.hid d4
      have BE4 := Lib.hid be4
      have S4' := Lib.hid s4
      have I4' := Lib.hid i4
      have BE24 : Hid (Below w2.heap.size w2 w4) := Lib.hid (BE3.out.trans (be4.mono BE3.out.size))
      clear d4 be4 s4 i4
      go_wp2_with fail
      refine (told_any w4 S R X I b x d (T2.out.next BE24.out).disk (T2.out.next BE24.out).ref HM.out).mono ?_
      rintro e w5 ⟨rfl, b5⟩
      have B5 := Lib.hid b5
      clear b5
      go_wp2_with fail
      go_ret3
      have h5 : Two B w4 b3 x4' (Dk.fresh d.lasts) (Dk.fresh d.lasts) S3 noB S4 I4 := T2.out.anew D3.out BE3.out S3'.out (fun _ e => e.elim) D4.out BE4.out S4'.out (fun k e => .inr (I4'.out k e))
      exact ⟨b3, x4', Dk.fresh d.lasts, S3, noB, S4, I4, rfl, h5.next B5.out, ((B2.out.mono H.out.size).trans (BE24.out.mono T2.out.size)).trans (B5.out.mono h5.size), grows_fresh d⟩
  · have e100 : ¬ (100 : Int) < keep.length := by omega
    have hkt : k1.length = keep.length := by rw [hk1, List.length_take]; omega
    have HKT := Lib.hid hkt
    have f1 : Fr noB w ((w.alloc (.cells #[.int .i64 5, .int .i64 at_, .slice A l.length c, .bool whole, .slice Ak keep.length ck, .int .i64 torn, .int .i64 cut] 37)).alloc (.cells #[] 4)) := ((Fr.refl noB w).alloc _).alloc _
    have hkk : KeepAt ((w.alloc (.cells #[.int .i64 5, .int .i64 at_, .slice A l.length c, .bool whole, .slice Ak keep.length ck, .int .i64 torn, .int .i64 cut] 37)).alloc (.cells #[] 4)) (fun k => k < B) (.slice Ak k1.length ck) k1 := HK1.out.keep f1 (fun _ _ e => e)
    rw [hkt] at hkk
    have HEQ := Lib.hid hk1
    have HKK := Lib.hid hkk
    have hE : Has ((w.alloc (.cells #[.int .i64 5, .int .i64 at_, .slice A l.length c, .bool whole, .slice Ak keep.length ck, .int .i64 torn, .int .i64 cut] 37)).alloc (.cells #[] 4)) (w.heap.size + 1) 4 #[] := by
      have := Has.of_alloc (w.alloc (.cells #[.int .i64 5, .int .i64 at_, .slice A l.length c, .bool whole, .slice Ak keep.length ck, .int .i64 torn, .int .i64 cut] 37)) 4 #[]
      simpa using this
    have hX : Has ((w.alloc (.cells #[.int .i64 5, .int .i64 at_, .slice A l.length c, .bool whole, .slice Ak keep.length ck, .int .i64 torn, .int .i64 cut] 37)).alloc (.cells #[] 4)) w.heap.size 37 #[.int .i64 5, .int .i64 at_, .slice A l.length c, .bool whole, .slice Ak keep.length ck, .int .i64 torn, .int .i64 cut] := (Has.of_alloc _ _ _).alloc _
    have HE := Lib.hid hE
    have HX := Lib.hid hX
    have F1 := Lib.hid f1
    have HSZ : Hid (((w.alloc (.cells #[.int .i64 5, .int .i64 at_, .slice A l.length c, .bool whole, .slice Ak keep.length ck, .int .i64 torn, .int .i64 cut] 37)).alloc (.cells #[] 4)).heap.size = w.heap.size + 2) := Lib.hid (by simp)
    clear hE hX f1 hkk hkt hk1
    go_enter Try.func11, Try.ntmps11
    go_wp2_with (first
      | (at_builtin; refine wpList_append_bools' rfl (.tmp 29) (.tmp 36) rfl (w.heap.size + 1) rfl HE.out _ _ k1 rfl HKK.out ?_; intro V cap w2 O2 F2 V2; have b2 : Hid (Has w2 w.heap.size 37 #[.int .i64 5, .int .i64 at_, .slice A l.length c, .bool whole, .slice Ak keep.length ck, .int .i64 torn, .int .i64 cut]) := Lib.hid (HX.out.keep F2.out (fun e => by have e : w.heap.size = w.heap.size + 1 := e; omega)); have x0 : w2.cell? ⟨w.heap.size, 0, none⟩ = some (.int .i64 5) := b2.out.cell 0; have x1 : w2.cell? ⟨w.heap.size, 1, none⟩ = some (.int .i64 at_) := b2.out.cell 1; have x4 : w2.cell? ⟨w.heap.size, 4, none⟩ = some (.slice Ak keep.length ck) := b2.out.cell 4; have x5 : w2.cell? ⟨w.heap.size, 5, none⟩ = some (.int .i64 torn) := b2.out.cell 5; have x6 : w2.cell? ⟨w.heap.size, 6, none⟩ = some (.int .i64 cut) := b2.out.cell 6; have B2 : Hid (Below w.heap.size w w2) := Lib.hid ((F1.out.below (Nat.le_refl _) (fun _ e => e.elim)).trans (F2.out.below (by have := HSZ.out; omega) (fun k e => by have e : k = w.heap.size + 1 := e; omega))); have T2 : Hid (Two B w2 b x d d S R X I) := Lib.hid (H.out.next B2.out); have hVn : Hid (w.heap.size + 1 ≤ V) := Lib.hid (by rcases V2.out with q | q; omega; have := HSZ.out; omega); clear HE HX F1 HSZ F2 V2 HKK e100 h100 hcI)
      | fail)
    have hmw : d.waits.length ≤ 1000000 := by have := HF.out.waits; omega
    have HM := Lib.hid hmw
    have c4 := T2.out.disk.c4
    have c3 := T2.out.ref.c3
    clear hmw x0 x1 x4 x5 x6
    cases hd : d.dead with
    | false =>
      rw [hd] at c3 c4
      refine (reopen_not w2 b c4).mono ?_
      rintro e w3 ⟨rfl, rfl⟩
      go_wp2_with fail
      refine (rreopen_not w2 x c3).mono ?_
      rintro e w3 ⟨rfl, rfl⟩
      have HD := Lib.hid hd
      clear hd c3 c4
      go_wp2_with fail
      refine (told_any w2 S R X I b x d T2.out.disk T2.out.ref HM.out).mono ?_
      rintro e w5 ⟨rfl, b5⟩
      have B5 := Lib.hid b5
      clear b5
      go_wp2_with fail
      go_ret3
      exact ⟨b, x, d, S, R, X, I, rfl, T2.out.next B5.out, (B2.out.mono H.out.size).trans (B5.out.mono T2.out.size), .refl d⟩
    | true =>
      rw [hd] at c3 c4
      have HD := Lib.hid hd
      clear hd c3 c4
      refine (reopen_ok w2 S R b d T2.out.disk HD.out).mono ?_
      rintro e w3 ⟨b3, S3, rfl, d3, be3, s3⟩
      unfold ptr
      have D3 := Lib.hid d3
      have BE3 := Lib.hid be3
      have S3' := Lib.hid s3
      have X3 := Lib.hid (T2.out.ref.keep (Fr.of_below be3 noB) (fun _ e => e.elim))
      clear d3 be3 s3
      go_wp2_with fail
      refine (rreopen_ok w3 X I x d X3.out HD.out).mono ?_
      rintro e w4 ⟨x4', S4, I4, rfl, d4, be4, s4, i4⟩
      unfold ptr
      have D4 := Lib.hid d4
      have BE4 := Lib.hid be4
      have S4' := Lib.hid s4
      have I4' := Lib.hid i4
      have BE24 : Hid (Below w2.heap.size w2 w4) := Lib.hid (BE3.out.trans (be4.mono BE3.out.size))
      clear d4 be4 s4 i4
      go_wp2_with fail
      refine (told_any w4 S R X I b x d (T2.out.next BE24.out).disk (T2.out.next BE24.out).ref HM.out).mono ?_
      rintro e w5 ⟨rfl, b5⟩
      have B5 := Lib.hid b5
      clear b5
      go_wp2_with fail
      go_ret3
      have h5 : Two B w4 b3 x4' (Dk.fresh d.lasts) (Dk.fresh d.lasts) S3 noB S4 I4 := T2.out.anew D3.out BE3.out S3'.out (fun _ e => e.elim) D4.out BE4.out S4'.out (fun k e => .inr (I4'.out k e))
      exact ⟨b3, x4', Dk.fresh d.lasts, S3, noB, S4, I4, rfl, h5.next B5.out, ((B2.out.mono H.out.size).trans (BE24.out.mono T2.out.size)).trans (B5.out.mono h5.size), grows_fresh d⟩
end Go.Proofs.Ytpgpalnnmoanpaa

/-
  The statement's do, kind 2 (written by wip/gen/gendo.py).
-/
import Derived.Test.YtpgpalnnmoanpaaDDo
namespace Go.Proofs.Ytpgpalnnmoanpaa
open Go.RowKit Go.Maps

set_option maxRecDepth 100000 in
set_option maxHeartbeats 1600000 in
theorem do_2 (w : World) (B b x : Nat) (d : Dk.St) (S R X I : Nat → Prop) (h : Two B w b x d d S R X I) (hs : Small d) (at_ torn cut : Int) (hat : at_ ≤ 9223372036854775807) (A : Option Addr) (l : List UInt8) (c : Nat) (whole : Bool) (Ak : Option Addr) (keep : List Bool) (ck : Nat)
    (hr : Rd w B A l) (hA : A = none → c = 0) (hlc : l.length ≤ c) (hk : KeepAt w (fun k => k < B) (.slice Ak keep.length ck) keep) (hck : keep.length ≤ ck) :
    Calls Try.prog 11 #[.agg #[.int .i64 2, .int .i64 at_, .slice A l.length c, .bool whole, .slice Ak keep.length ck, .int .i64 torn, .int .i64 cut], .pointer (some ⟨b, 0, none⟩), .pointer (some ⟨x, 0, none⟩)] w (DoneBy B w d) := by
  have H := Lib.hid h
  have HF := Lib.hid hs.few
  have HSm := Lib.hid hs
  have HK := Lib.hid hk
  have HR := Lib.hid hr
  have HA := Lib.hid hA
  have HLC := Lib.hid hlc
  have HAT := Lib.hid hat
  have hcI : (keep.length : Int) ≤ ck := by omega
  clear h hs hk hck hr hA hlc hat
  obtain ⟨k1, hk1⟩ : ∃ k1, k1 = keep.take 100 := ⟨_, rfl⟩
  have HK1 := Lib.hid (HK.out.take 100)
  rw [← hk1] at HK1
  rcases Nat.lt_or_ge 100 keep.length with h100 | h100
  · have e100 : (100 : Int) < keep.length := by omega
    have e101 : ¬ (keep.length : Int) < 100 := by omega
    have hkt : k1.length = 100 := by rw [hk1]; exact List.length_take_of_le (by omega)
    have HKT := Lib.hid hkt
    have f1 : Fr noB w ((w.alloc (.cells #[.int .i64 2, .int .i64 at_, .slice A l.length c, .bool whole, .slice Ak keep.length ck, .int .i64 torn, .int .i64 cut] 37)).alloc (.cells #[] 4)) := ((Fr.refl noB w).alloc _).alloc _
    have hkk : KeepAt ((w.alloc (.cells #[.int .i64 2, .int .i64 at_, .slice A l.length c, .bool whole, .slice Ak keep.length ck, .int .i64 torn, .int .i64 cut] 37)).alloc (.cells #[] 4)) (fun k => k < B) (.slice Ak k1.length ck) k1 := HK1.out.keep f1 (fun _ _ e => e)
    rw [hkt] at hkk
    have HEQ := Lib.hid hk1
    have HKK := Lib.hid hkk
    have hE : Has ((w.alloc (.cells #[.int .i64 2, .int .i64 at_, .slice A l.length c, .bool whole, .slice Ak keep.length ck, .int .i64 torn, .int .i64 cut] 37)).alloc (.cells #[] 4)) (w.heap.size + 1) 4 #[] := by
      have := Has.of_alloc (w.alloc (.cells #[.int .i64 2, .int .i64 at_, .slice A l.length c, .bool whole, .slice Ak keep.length ck, .int .i64 torn, .int .i64 cut] 37)) 4 #[]
      simpa using this
    have hX : Has ((w.alloc (.cells #[.int .i64 2, .int .i64 at_, .slice A l.length c, .bool whole, .slice Ak keep.length ck, .int .i64 torn, .int .i64 cut] 37)).alloc (.cells #[] 4)) w.heap.size 37 #[.int .i64 2, .int .i64 at_, .slice A l.length c, .bool whole, .slice Ak keep.length ck, .int .i64 torn, .int .i64 cut] := (Has.of_alloc _ _ _).alloc _
    have HE := Lib.hid hE
    have HX := Lib.hid hX
    have F1 := Lib.hid f1
    have HSZ : Hid (((w.alloc (.cells #[.int .i64 2, .int .i64 at_, .slice A l.length c, .bool whole, .slice Ak keep.length ck, .int .i64 torn, .int .i64 cut] 37)).alloc (.cells #[] 4)).heap.size = w.heap.size + 2) := Lib.hid (by simp)
    clear hE hX f1 hkk hkt hk1
    go_enter Try.func11, Try.ntmps11
    go_wp2_with (first
      | (at_builtin; refine wpList_append_bools' rfl (.tmp 29) (.tmp 36) rfl (w.heap.size + 1) rfl HE.out _ _ k1 rfl HKK.out ?_; intro V cap w2 O2 F2 V2; have b2 : Hid (Has w2 w.heap.size 37 #[.int .i64 2, .int .i64 at_, .slice A l.length c, .bool whole, .slice Ak keep.length ck, .int .i64 torn, .int .i64 cut]) := Lib.hid (HX.out.keep F2.out (fun e => by have e : w.heap.size = w.heap.size + 1 := e; omega)); have x0 : w2.cell? ⟨w.heap.size, 0, none⟩ = some (.int .i64 2) := b2.out.cell 0; have x1 : w2.cell? ⟨w.heap.size, 1, none⟩ = some (.int .i64 at_) := b2.out.cell 1; have x4 : w2.cell? ⟨w.heap.size, 4, none⟩ = some (.slice Ak keep.length ck) := b2.out.cell 4; have x5 : w2.cell? ⟨w.heap.size, 5, none⟩ = some (.int .i64 torn) := b2.out.cell 5; have x6 : w2.cell? ⟨w.heap.size, 6, none⟩ = some (.int .i64 cut) := b2.out.cell 6; have B2 : Hid (Below w.heap.size w w2) := Lib.hid ((F1.out.below (Nat.le_refl _) (fun _ e => e.elim)).trans (F2.out.below (by have := HSZ.out; omega) (fun k e => by have e : k = w.heap.size + 1 := e; omega))); have T2 : Hid (Two B w2 b x d d S R X I) := Lib.hid (H.out.next B2.out); have hVn : Hid (w.heap.size + 1 ≤ V) := Lib.hid (by rcases V2.out with q | q; omega; have := HSZ.out; omega); clear HE HX F1 HSZ F2 V2 HKK e100 h100 hcI e101)
      | fail)
    refine (flush_full w2 S R b d T2.out.disk HF.out).mono ?_
    rintro e w3 ⟨rfl, g3⟩
    obtain ⟨S3, t3, fr3⟩ := T2.out.goesD g3
    have T3 := Lib.hid t3
    have B3 : Hid (Below B w w3) := Lib.hid ((B2.out.mono H.out.size).trans (T2.out.belowD fr3))
    clear g3 t3 fr3 x0 x1 x4 x5 x6
    go_wp2_with fail
    refine (rflush_full w3 X I x d T3.out.ref HF.out).mono ?_
    rintro e w4 ⟨rfl, g4⟩
    obtain ⟨X4, I4, t4, fr4⟩ := T3.out.goesX g4
    have T4 := Lib.hid t4
    have B4 : Hid (Below B w w4) := Lib.hid (B3.out.trans (T3.out.belowX fr4))
    clear g4 t4 fr4
    generalize d.fErr = er at *
    go_wp2_with fail
    go_ret3
    exact ⟨b, x, d.fTo, S3, R, X4, I4, rfl, T4.out, B4.out, grows_f d⟩
  · have e100 : ¬ (100 : Int) < keep.length := by omega
    have hkt : k1.length = keep.length := by rw [hk1, List.length_take]; omega
    have HKT := Lib.hid hkt
    have f1 : Fr noB w ((w.alloc (.cells #[.int .i64 2, .int .i64 at_, .slice A l.length c, .bool whole, .slice Ak keep.length ck, .int .i64 torn, .int .i64 cut] 37)).alloc (.cells #[] 4)) := ((Fr.refl noB w).alloc _).alloc _
    have hkk : KeepAt ((w.alloc (.cells #[.int .i64 2, .int .i64 at_, .slice A l.length c, .bool whole, .slice Ak keep.length ck, .int .i64 torn, .int .i64 cut] 37)).alloc (.cells #[] 4)) (fun k => k < B) (.slice Ak k1.length ck) k1 := HK1.out.keep f1 (fun _ _ e => e)
    rw [hkt] at hkk
    have HEQ := Lib.hid hk1
    have HKK := Lib.hid hkk
    have hE : Has ((w.alloc (.cells #[.int .i64 2, .int .i64 at_, .slice A l.length c, .bool whole, .slice Ak keep.length ck, .int .i64 torn, .int .i64 cut] 37)).alloc (.cells #[] 4)) (w.heap.size + 1) 4 #[] := by
      have := Has.of_alloc (w.alloc (.cells #[.int .i64 2, .int .i64 at_, .slice A l.length c, .bool whole, .slice Ak keep.length ck, .int .i64 torn, .int .i64 cut] 37)) 4 #[]
      simpa using this
    have hX : Has ((w.alloc (.cells #[.int .i64 2, .int .i64 at_, .slice A l.length c, .bool whole, .slice Ak keep.length ck, .int .i64 torn, .int .i64 cut] 37)).alloc (.cells #[] 4)) w.heap.size 37 #[.int .i64 2, .int .i64 at_, .slice A l.length c, .bool whole, .slice Ak keep.length ck, .int .i64 torn, .int .i64 cut] := (Has.of_alloc _ _ _).alloc _
    have HE := Lib.hid hE
    have HX := Lib.hid hX
    have F1 := Lib.hid f1
    have HSZ : Hid (((w.alloc (.cells #[.int .i64 2, .int .i64 at_, .slice A l.length c, .bool whole, .slice Ak keep.length ck, .int .i64 torn, .int .i64 cut] 37)).alloc (.cells #[] 4)).heap.size = w.heap.size + 2) := Lib.hid (by simp)
    clear hE hX f1 hkk hkt hk1
    go_enter Try.func11, Try.ntmps11
    go_wp2_with (first
      | (at_builtin; refine wpList_append_bools' rfl (.tmp 29) (.tmp 36) rfl (w.heap.size + 1) rfl HE.out _ _ k1 rfl HKK.out ?_; intro V cap w2 O2 F2 V2; have b2 : Hid (Has w2 w.heap.size 37 #[.int .i64 2, .int .i64 at_, .slice A l.length c, .bool whole, .slice Ak keep.length ck, .int .i64 torn, .int .i64 cut]) := Lib.hid (HX.out.keep F2.out (fun e => by have e : w.heap.size = w.heap.size + 1 := e; omega)); have x0 : w2.cell? ⟨w.heap.size, 0, none⟩ = some (.int .i64 2) := b2.out.cell 0; have x1 : w2.cell? ⟨w.heap.size, 1, none⟩ = some (.int .i64 at_) := b2.out.cell 1; have x4 : w2.cell? ⟨w.heap.size, 4, none⟩ = some (.slice Ak keep.length ck) := b2.out.cell 4; have x5 : w2.cell? ⟨w.heap.size, 5, none⟩ = some (.int .i64 torn) := b2.out.cell 5; have x6 : w2.cell? ⟨w.heap.size, 6, none⟩ = some (.int .i64 cut) := b2.out.cell 6; have B2 : Hid (Below w.heap.size w w2) := Lib.hid ((F1.out.below (Nat.le_refl _) (fun _ e => e.elim)).trans (F2.out.below (by have := HSZ.out; omega) (fun k e => by have e : k = w.heap.size + 1 := e; omega))); have T2 : Hid (Two B w2 b x d d S R X I) := Lib.hid (H.out.next B2.out); have hVn : Hid (w.heap.size + 1 ≤ V) := Lib.hid (by rcases V2.out with q | q; omega; have := HSZ.out; omega); clear HE HX F1 HSZ F2 V2 HKK e100 h100 hcI)
      | fail)
    refine (flush_full w2 S R b d T2.out.disk HF.out).mono ?_
    rintro e w3 ⟨rfl, g3⟩
    obtain ⟨S3, t3, fr3⟩ := T2.out.goesD g3
    have T3 := Lib.hid t3
    have B3 : Hid (Below B w w3) := Lib.hid ((B2.out.mono H.out.size).trans (T2.out.belowD fr3))
    clear g3 t3 fr3 x0 x1 x4 x5 x6
    go_wp2_with fail
    refine (rflush_full w3 X I x d T3.out.ref HF.out).mono ?_
    rintro e w4 ⟨rfl, g4⟩
    obtain ⟨X4, I4, t4, fr4⟩ := T3.out.goesX g4
    have T4 := Lib.hid t4
    have B4 : Hid (Below B w w4) := Lib.hid (B3.out.trans (T3.out.belowX fr4))
    clear g4 t4 fr4
    generalize d.fErr = er at *
    go_wp2_with fail
    go_ret3
    exact ⟨b, x, d.fTo, S3, R, X4, I4, rfl, T4.out, B4.out, grows_f d⟩
end Go.Proofs.Ytpgpalnnmoanpaa

/-
  The statement's do, kind 0 (written by wip/gen/gendo.py).
-/
import Derived.Test.YtpgpalnnmoanpaaDDo
namespace Go.Proofs.Ytpgpalnnmoanpaa
open Go.RowKit Go.Maps

set_option maxRecDepth 100000 in
set_option maxHeartbeats 1600000 in
theorem do_0 (w : World) (B b x : Nat) (d : Dk.St) (S R X I : Nat → Prop) (h : Two B w b x d d S R X I) (hs : Small d) (at_ torn cut : Int) (hat : at_ ≤ 9223372036854775807) (A : Option Addr) (l : List UInt8) (c : Nat) (whole : Bool) (Ak : Option Addr) (keep : List Bool) (ck : Nat)
    (hr : Rd w B A l) (hA : A = none → c = 0) (hlc : l.length ≤ c) (hk : KeepAt w (fun k => k < B) (.slice Ak keep.length ck) keep) (hck : keep.length ≤ ck) :
    Calls Try.prog 11 #[.agg #[.int .i64 0, .int .i64 at_, .slice A l.length c, .bool whole, .slice Ak keep.length ck, .int .i64 torn, .int .i64 cut], .pointer (some ⟨b, 0, none⟩), .pointer (some ⟨x, 0, none⟩)] w (DoneBy B w d) := by
  have H := Lib.hid h
  have HF := Lib.hid hs.few
  have HSm := Lib.hid hs
  have HK := Lib.hid hk
  have HR := Lib.hid hr
  have HA := Lib.hid hA
  have HLC := Lib.hid hlc
  have HAT := Lib.hid hat
  have hcI : (keep.length : Int) ≤ ck := by omega
  clear h hs hk hck hr hA hlc hat
  obtain ⟨k1, hk1⟩ : ∃ k1, k1 = keep.take 100 := ⟨_, rfl⟩
  have HK1 := Lib.hid (HK.out.take 100)
  rw [← hk1] at HK1
  rcases Nat.lt_or_ge 100 keep.length with h100 | h100
  · have e100 : (100 : Int) < keep.length := by omega
    have e101 : ¬ (keep.length : Int) < 100 := by omega
    have hkt : k1.length = 100 := by rw [hk1]; exact List.length_take_of_le (by omega)
    have HKT := Lib.hid hkt
    have f1 : Fr noB w ((w.alloc (.cells #[.int .i64 0, .int .i64 at_, .slice A l.length c, .bool whole, .slice Ak keep.length ck, .int .i64 torn, .int .i64 cut] 37)).alloc (.cells #[] 4)) := ((Fr.refl noB w).alloc _).alloc _
    have hkk : KeepAt ((w.alloc (.cells #[.int .i64 0, .int .i64 at_, .slice A l.length c, .bool whole, .slice Ak keep.length ck, .int .i64 torn, .int .i64 cut] 37)).alloc (.cells #[] 4)) (fun k => k < B) (.slice Ak k1.length ck) k1 := HK1.out.keep f1 (fun _ _ e => e)
    rw [hkt] at hkk
    have HEQ := Lib.hid hk1
    have HKK := Lib.hid hkk
    have hE : Has ((w.alloc (.cells #[.int .i64 0, .int .i64 at_, .slice A l.length c, .bool whole, .slice Ak keep.length ck, .int .i64 torn, .int .i64 cut] 37)).alloc (.cells #[] 4)) (w.heap.size + 1) 4 #[] := by
      have := Has.of_alloc (w.alloc (.cells #[.int .i64 0, .int .i64 at_, .slice A l.length c, .bool whole, .slice Ak keep.length ck, .int .i64 torn, .int .i64 cut] 37)) 4 #[]
      simpa using this
    have hX : Has ((w.alloc (.cells #[.int .i64 0, .int .i64 at_, .slice A l.length c, .bool whole, .slice Ak keep.length ck, .int .i64 torn, .int .i64 cut] 37)).alloc (.cells #[] 4)) w.heap.size 37 #[.int .i64 0, .int .i64 at_, .slice A l.length c, .bool whole, .slice Ak keep.length ck, .int .i64 torn, .int .i64 cut] := (Has.of_alloc _ _ _).alloc _
    have HE := Lib.hid hE
    have HX := Lib.hid hX
    have F1 := Lib.hid f1
    have HSZ : Hid (((w.alloc (.cells #[.int .i64 0, .int .i64 at_, .slice A l.length c, .bool whole, .slice Ak keep.length ck, .int .i64 torn, .int .i64 cut] 37)).alloc (.cells #[] 4)).heap.size = w.heap.size + 2) := Lib.hid (by simp)
    clear hE hX f1 hkk hkt hk1
    go_enter Try.func11, Try.ntmps11
    go_wp2_with (first
      | (at_builtin; refine wpList_append_bools' rfl (.tmp 29) (.tmp 36) rfl (w.heap.size + 1) rfl HE.out _ _ k1 rfl HKK.out ?_; intro V cap w2 O2 F2 V2; have b2 : Hid (Has w2 w.heap.size 37 #[.int .i64 0, .int .i64 at_, .slice A l.length c, .bool whole, .slice Ak keep.length ck, .int .i64 torn, .int .i64 cut]) := Lib.hid (HX.out.keep F2.out (fun e => by have e : w.heap.size = w.heap.size + 1 := e; omega)); have x0 : w2.cell? ⟨w.heap.size, 0, none⟩ = some (.int .i64 0) := b2.out.cell 0; have x1 : w2.cell? ⟨w.heap.size, 1, none⟩ = some (.int .i64 at_) := b2.out.cell 1; have x4 : w2.cell? ⟨w.heap.size, 4, none⟩ = some (.slice Ak keep.length ck) := b2.out.cell 4; have x5 : w2.cell? ⟨w.heap.size, 5, none⟩ = some (.int .i64 torn) := b2.out.cell 5; have x6 : w2.cell? ⟨w.heap.size, 6, none⟩ = some (.int .i64 cut) := b2.out.cell 6; have B2 : Hid (Below w.heap.size w w2) := Lib.hid ((F1.out.below (Nat.le_refl _) (fun _ e => e.elim)).trans (F2.out.below (by have := HSZ.out; omega) (fun k e => by have e : k = w.heap.size + 1 := e; omega))); have T2 : Hid (Two B w2 b x d d S R X I) := Lib.hid (H.out.next B2.out); have hVn : Hid (w.heap.size + 1 ≤ V) := Lib.hid (by rcases V2.out with q | q; omega; have := HSZ.out; omega); clear HE HX F1 HSZ F2 V2 HKK e100 h100 hcI e101)
      | fail)
    have hbx2 := b2.out.lt
    have hmw : d.waits.length ≤ 1000000 := by have := HF.out.waits; omega
    have HM := Lib.hid hmw
    clear x0 x4 x5 x6 hmw
    refine (read_full w2 S R b d T2.out.disk at_).mono ?_
    rintro e w3 ⟨v3, rfl, g3, b3⟩
    have y1 : w3.cell? ⟨w.heap.size, 1, none⟩ = some (.int .i64 at_) := (World.cell?_of_block (b3.block _ hbx2)).trans x1
    have T3 := Lib.hid (T2.out.next b3)
    have B3 := Lib.hid b3
    have G3 := Lib.hid g3
    clear g3 b3 x1
    go_wp2_with fail
    refine (rread_full w3 X I x d T3.out.ref HM.out at_).mono ?_
    rintro e w4 ⟨v4, rfl, g4, b4⟩
    have hby := bytes_any w4 v3 v4 _ _ (G3.out.bytes.keep (Fr.of_below b4 noB) (fun _ _ _ _ e => e)) g4
    rw [decide_eq_true rfl] at hby
    have HBY := Lib.hid hby
    have T4 := Lib.hid (T3.out.next b4)
    have B4 := Lib.hid b4
    have G4 := Lib.hid g4
    clear g4 b4 hby y1
    generalize d.errOf at_ = er at *
    go_wp2_with fail
    refine HBY.out.mono ?_
    rintro e w5 ⟨rfl, f5⟩
    have b5 := f5.below (Nat.le_refl _) (fun _ e => e.elim)
    have T5 := Lib.hid (T4.out.next b5)
    have BB5 : Hid (Below B w w5) := Lib.hid ((((B2.out.mono H.out.size).trans (B3.out.mono T2.out.size)).trans (B4.out.mono T3.out.size)).trans (b5.mono T4.out.size))
    obtain ⟨A4, c4, e4, _, _⟩ := G4.out
    rcases G3.out with ⟨e3, eb⟩ | ⟨e3, eg, el⟩
    · rw [eb] at e4
      subst e3 e4
      clear f5 b5
      go_wp2_with fail
      refine wp_loop_rounds 1 ?_
      rw [rounds_succ]
      have HN5 : Hid (Has (w5.alloc (.cells #[.int .u8 1, .int .u8 2, .int .u8 3] 5)) w5.heap.size 5 #[.int .u8 1, .int .u8 2, .int .u8 3]) := Lib.hid (Has.of_alloc _ _ _)
      have HB5 : Hid (Below w5.heap.size w5 (w5.alloc (.cells #[.int .u8 1, .int .u8 2, .int .u8 3] 5))) := Lib.hid ((Below.refl _ _).alloc (Nat.le_refl _) _)
      go_wp2_with (first
        | (at_builtin; refine wpList_append_three rfl _ _ rfl (.slice none 0 0) 0 [] rfl (by omega) (.inl ⟨rfl, rfl⟩) w5.heap.size rfl [.int .u8 1, .int .u8 2, .int .u8 3] rfl HN5.out ?_; intro c6 w6 B6)
        | fail)
      go_ret3
      have hb6 := HB5.out.trans (B6.out.mono HB5.out.size)
      exact ⟨b, x, d, S, R, X, I, rfl, T5.out.next hb6, BB5.out.trans (hb6.mono T5.out.size), .refl d⟩
    · rw [el] at e4
      subst e3 e4
      have hg5 := (eg.keep (Fr.of_below B4.out noB) (fun e => e)).keep f5 (fun e => e)
      have HG5 := Lib.hid hg5
      have hcs : (Dk.secCells (d.bytesOf at_)).toArray.size = 128 := by rw [List.size_toArray, Dk.secCells_len, el]
      have HCS := Lib.hid hcs
      have hFG := T2.out.far w2.heap.size (.inl (Nat.le_refl _))
      have HFG := Lib.hid hFG
      have hGB : Hid (B ≤ w2.heap.size) := Lib.hid T2.out.size
      clear f5 b5 hg5 eg hcs hFG
      generalize hG : w2.heap.size = G at *
      go_wp2_with fail
      go_loopw [14] (fun v wr => ∃ i : Nat, i ≤ 128 ∧ v = .int .i64 i ∧ ∃ cs : Array Value, Hid (Has wr G 78 cs) ∧ Hid (cs.size = 128) ∧ Hid (Fr (oneB G) w5 wr)) (fun v _ => 128 - (intOf v).toNat)
      case atStart => exact ⟨0, by omega, rfl, _, HG5, HCS, Lib.hid (Fr.refl _ _)⟩
      case round =>
        rename World => wr
        obtain ⟨i, hi, rfl, cs, hh, hsz, hfr⟩ := hrel
        by_cases hlt : i < 128
        · have hiI : (i : Int) < 128 := by omega
          have hcell : wr.cell? ⟨G, i, none⟩ = some (cs[i]'(by rw [hsz.out]; exact hlt)) := by rw [hh.out.cell]; exact Array.getElem?_eq_getElem _
          have hfz : wr.frozen? ⟨G, i, none⟩ = false := hh.out.free i
          have HN := Lib.hid (hh.out.set i (.int .u8 238))
          have HNS : Hid ((cs.setIfInBounds i (.int .u8 238)).size = 128) := Lib.hid (by rw [Array.size_setIfInBounds]; exact hsz.out)
          have HNF := Lib.hid (hfr.out.put (i := i) (.int .u8 238))
          generalize (cs[i]'(by rw [hsz.out]; exact hlt)) = u at *
          go_wp2_with fail
          exact ⟨⟨i + 1, by omega, rfl, _, HN, HNS, HNF⟩, by simp only [intOf]; omega⟩
        · obtain rfl : i = 128 := by omega
          have HN5 : Hid (Has (wr.alloc (.cells #[.int .u8 1, .int .u8 2, .int .u8 3] 5)) wr.heap.size 5 #[.int .u8 1, .int .u8 2, .int .u8 3]) := Lib.hid (Has.of_alloc _ _ _)
          have HB5 : Hid (Below wr.heap.size wr (wr.alloc (.cells #[.int .u8 1, .int .u8 2, .int .u8 3] 5))) := Lib.hid ((Below.refl _ _).alloc (Nat.le_refl _) _)
          have HH5 := Lib.hid (hh.out.keep (Fr.of_below HB5.out noB) (fun e => e))
          go_wp2_with (first
            | (at_builtin; refine wpList_append_three rfl _ _ rfl (.slice (some ⟨G, 0, none⟩) 128 128) 128 cs.toList rfl (by omega) (.inr ⟨G, rfl, by rw [Array.length_toList]; exact hsz.out, fun j v hj => by rw [HH5.out.cell, ← Array.getElem?_toList]; exact hj⟩) wr.heap.size rfl [.int .u8 1, .int .u8 2, .int .u8 3] rfl HN5.out ?_; intro c6 w6 B6)
            | fail)
          go_ret3
          have t6 := T5.out.frame hfr.out (fun k hk => by have hk : k = G := hk; rw [hk]; exact HFG.out)
          have hb6 := HB5.out.trans (B6.out.mono HB5.out.size)
          have hbG : Below B w5 wr := hfr.out.below T5.out.size (fun k hk => by have hk : k = G := hk; rw [hk]; exact hGB.out)
          exact ⟨b, x, d, S, R, X, I, rfl, t6.next hb6, (BB5.out.trans hbG).trans (hb6.mono t6.size), .refl d⟩
  · have e100 : ¬ (100 : Int) < keep.length := by omega
    have hkt : k1.length = keep.length := by rw [hk1, List.length_take]; omega
    have HKT := Lib.hid hkt
    have f1 : Fr noB w ((w.alloc (.cells #[.int .i64 0, .int .i64 at_, .slice A l.length c, .bool whole, .slice Ak keep.length ck, .int .i64 torn, .int .i64 cut] 37)).alloc (.cells #[] 4)) := ((Fr.refl noB w).alloc _).alloc _
    have hkk : KeepAt ((w.alloc (.cells #[.int .i64 0, .int .i64 at_, .slice A l.length c, .bool whole, .slice Ak keep.length ck, .int .i64 torn, .int .i64 cut] 37)).alloc (.cells #[] 4)) (fun k => k < B) (.slice Ak k1.length ck) k1 := HK1.out.keep f1 (fun _ _ e => e)
    rw [hkt] at hkk
    have HEQ := Lib.hid hk1
    have HKK := Lib.hid hkk
    have hE : Has ((w.alloc (.cells #[.int .i64 0, .int .i64 at_, .slice A l.length c, .bool whole, .slice Ak keep.length ck, .int .i64 torn, .int .i64 cut] 37)).alloc (.cells #[] 4)) (w.heap.size + 1) 4 #[] := by
      have := Has.of_alloc (w.alloc (.cells #[.int .i64 0, .int .i64 at_, .slice A l.length c, .bool whole, .slice Ak keep.length ck, .int .i64 torn, .int .i64 cut] 37)) 4 #[]
      simpa using this
    have hX : Has ((w.alloc (.cells #[.int .i64 0, .int .i64 at_, .slice A l.length c, .bool whole, .slice Ak keep.length ck, .int .i64 torn, .int .i64 cut] 37)).alloc (.cells #[] 4)) w.heap.size 37 #[.int .i64 0, .int .i64 at_, .slice A l.length c, .bool whole, .slice Ak keep.length ck, .int .i64 torn, .int .i64 cut] := (Has.of_alloc _ _ _).alloc _
    have HE := Lib.hid hE
    have HX := Lib.hid hX
    have F1 := Lib.hid f1
    have HSZ : Hid (((w.alloc (.cells #[.int .i64 0, .int .i64 at_, .slice A l.length c, .bool whole, .slice Ak keep.length ck, .int .i64 torn, .int .i64 cut] 37)).alloc (.cells #[] 4)).heap.size = w.heap.size + 2) := Lib.hid (by simp)
    clear hE hX f1 hkk hkt hk1
    go_enter Try.func11, Try.ntmps11
    go_wp2_with (first
      | (at_builtin; refine wpList_append_bools' rfl (.tmp 29) (.tmp 36) rfl (w.heap.size + 1) rfl HE.out _ _ k1 rfl HKK.out ?_; intro V cap w2 O2 F2 V2; have b2 : Hid (Has w2 w.heap.size 37 #[.int .i64 0, .int .i64 at_, .slice A l.length c, .bool whole, .slice Ak keep.length ck, .int .i64 torn, .int .i64 cut]) := Lib.hid (HX.out.keep F2.out (fun e => by have e : w.heap.size = w.heap.size + 1 := e; omega)); have x0 : w2.cell? ⟨w.heap.size, 0, none⟩ = some (.int .i64 0) := b2.out.cell 0; have x1 : w2.cell? ⟨w.heap.size, 1, none⟩ = some (.int .i64 at_) := b2.out.cell 1; have x4 : w2.cell? ⟨w.heap.size, 4, none⟩ = some (.slice Ak keep.length ck) := b2.out.cell 4; have x5 : w2.cell? ⟨w.heap.size, 5, none⟩ = some (.int .i64 torn) := b2.out.cell 5; have x6 : w2.cell? ⟨w.heap.size, 6, none⟩ = some (.int .i64 cut) := b2.out.cell 6; have B2 : Hid (Below w.heap.size w w2) := Lib.hid ((F1.out.below (Nat.le_refl _) (fun _ e => e.elim)).trans (F2.out.below (by have := HSZ.out; omega) (fun k e => by have e : k = w.heap.size + 1 := e; omega))); have T2 : Hid (Two B w2 b x d d S R X I) := Lib.hid (H.out.next B2.out); have hVn : Hid (w.heap.size + 1 ≤ V) := Lib.hid (by rcases V2.out with q | q; omega; have := HSZ.out; omega); clear HE HX F1 HSZ F2 V2 HKK e100 h100 hcI)
      | fail)
    have hbx2 := b2.out.lt
    have hmw : d.waits.length ≤ 1000000 := by have := HF.out.waits; omega
    have HM := Lib.hid hmw
    clear x0 x4 x5 x6 hmw
    refine (read_full w2 S R b d T2.out.disk at_).mono ?_
    rintro e w3 ⟨v3, rfl, g3, b3⟩
    have y1 : w3.cell? ⟨w.heap.size, 1, none⟩ = some (.int .i64 at_) := (World.cell?_of_block (b3.block _ hbx2)).trans x1
    have T3 := Lib.hid (T2.out.next b3)
    have B3 := Lib.hid b3
    have G3 := Lib.hid g3
    clear g3 b3 x1
    go_wp2_with fail
    refine (rread_full w3 X I x d T3.out.ref HM.out at_).mono ?_
    rintro e w4 ⟨v4, rfl, g4, b4⟩
    have hby := bytes_any w4 v3 v4 _ _ (G3.out.bytes.keep (Fr.of_below b4 noB) (fun _ _ _ _ e => e)) g4
    rw [decide_eq_true rfl] at hby
    have HBY := Lib.hid hby
    have T4 := Lib.hid (T3.out.next b4)
    have B4 := Lib.hid b4
    have G4 := Lib.hid g4
    clear g4 b4 hby y1
    generalize d.errOf at_ = er at *
    go_wp2_with fail
    refine HBY.out.mono ?_
    rintro e w5 ⟨rfl, f5⟩
    have b5 := f5.below (Nat.le_refl _) (fun _ e => e.elim)
    have T5 := Lib.hid (T4.out.next b5)
    have BB5 : Hid (Below B w w5) := Lib.hid ((((B2.out.mono H.out.size).trans (B3.out.mono T2.out.size)).trans (B4.out.mono T3.out.size)).trans (b5.mono T4.out.size))
    obtain ⟨A4, c4, e4, _, _⟩ := G4.out
    rcases G3.out with ⟨e3, eb⟩ | ⟨e3, eg, el⟩
    · rw [eb] at e4
      subst e3 e4
      clear f5 b5
      go_wp2_with fail
      refine wp_loop_rounds 1 ?_
      rw [rounds_succ]
      have HN5 : Hid (Has (w5.alloc (.cells #[.int .u8 1, .int .u8 2, .int .u8 3] 5)) w5.heap.size 5 #[.int .u8 1, .int .u8 2, .int .u8 3]) := Lib.hid (Has.of_alloc _ _ _)
      have HB5 : Hid (Below w5.heap.size w5 (w5.alloc (.cells #[.int .u8 1, .int .u8 2, .int .u8 3] 5))) := Lib.hid ((Below.refl _ _).alloc (Nat.le_refl _) _)
      go_wp2_with (first
        | (at_builtin; refine wpList_append_three rfl _ _ rfl (.slice none 0 0) 0 [] rfl (by omega) (.inl ⟨rfl, rfl⟩) w5.heap.size rfl [.int .u8 1, .int .u8 2, .int .u8 3] rfl HN5.out ?_; intro c6 w6 B6)
        | fail)
      go_ret3
      have hb6 := HB5.out.trans (B6.out.mono HB5.out.size)
      exact ⟨b, x, d, S, R, X, I, rfl, T5.out.next hb6, BB5.out.trans (hb6.mono T5.out.size), .refl d⟩
    · rw [el] at e4
      subst e3 e4
      have hg5 := (eg.keep (Fr.of_below B4.out noB) (fun e => e)).keep f5 (fun e => e)
      have HG5 := Lib.hid hg5
      have hcs : (Dk.secCells (d.bytesOf at_)).toArray.size = 128 := by rw [List.size_toArray, Dk.secCells_len, el]
      have HCS := Lib.hid hcs
      have hFG := T2.out.far w2.heap.size (.inl (Nat.le_refl _))
      have HFG := Lib.hid hFG
      have hGB : Hid (B ≤ w2.heap.size) := Lib.hid T2.out.size
      clear f5 b5 hg5 eg hcs hFG
      generalize hG : w2.heap.size = G at *
      go_wp2_with fail
      go_loopw [14] (fun v wr => ∃ i : Nat, i ≤ 128 ∧ v = .int .i64 i ∧ ∃ cs : Array Value, Hid (Has wr G 78 cs) ∧ Hid (cs.size = 128) ∧ Hid (Fr (oneB G) w5 wr)) (fun v _ => 128 - (intOf v).toNat)
      case atStart => exact ⟨0, by omega, rfl, _, HG5, HCS, Lib.hid (Fr.refl _ _)⟩
      case round =>
        rename World => wr
        obtain ⟨i, hi, rfl, cs, hh, hsz, hfr⟩ := hrel
        by_cases hlt : i < 128
        · have hiI : (i : Int) < 128 := by omega
          have hcell : wr.cell? ⟨G, i, none⟩ = some (cs[i]'(by rw [hsz.out]; exact hlt)) := by rw [hh.out.cell]; exact Array.getElem?_eq_getElem _
          have hfz : wr.frozen? ⟨G, i, none⟩ = false := hh.out.free i
          have HN := Lib.hid (hh.out.set i (.int .u8 238))
          have HNS : Hid ((cs.setIfInBounds i (.int .u8 238)).size = 128) := Lib.hid (by rw [Array.size_setIfInBounds]; exact hsz.out)
          have HNF := Lib.hid (hfr.out.put (i := i) (.int .u8 238))
          generalize (cs[i]'(by rw [hsz.out]; exact hlt)) = u at *
          go_wp2_with fail
          exact ⟨⟨i + 1, by omega, rfl, _, HN, HNS, HNF⟩, by simp only [intOf]; omega⟩
        · obtain rfl : i = 128 := by omega
          have HN5 : Hid (Has (wr.alloc (.cells #[.int .u8 1, .int .u8 2, .int .u8 3] 5)) wr.heap.size 5 #[.int .u8 1, .int .u8 2, .int .u8 3]) := Lib.hid (Has.of_alloc _ _ _)
          have HB5 : Hid (Below wr.heap.size wr (wr.alloc (.cells #[.int .u8 1, .int .u8 2, .int .u8 3] 5))) := Lib.hid ((Below.refl _ _).alloc (Nat.le_refl _) _)
          have HH5 := Lib.hid (hh.out.keep (Fr.of_below HB5.out noB) (fun e => e))
          go_wp2_with (first
            | (at_builtin; refine wpList_append_three rfl _ _ rfl (.slice (some ⟨G, 0, none⟩) 128 128) 128 cs.toList rfl (by omega) (.inr ⟨G, rfl, by rw [Array.length_toList]; exact hsz.out, fun j v hj => by rw [HH5.out.cell, ← Array.getElem?_toList]; exact hj⟩) wr.heap.size rfl [.int .u8 1, .int .u8 2, .int .u8 3] rfl HN5.out ?_; intro c6 w6 B6)
            | fail)
          go_ret3
          have t6 := T5.out.frame hfr.out (fun k hk => by have hk : k = G := hk; rw [hk]; exact HFG.out)
          have hb6 := HB5.out.trans (B6.out.mono HB5.out.size)
          have hbG : Below B w5 wr := hfr.out.below T5.out.size (fun k hk => by have hk : k = G := hk; rw [hk]; exact hGB.out)
          exact ⟨b, x, d, S, R, X, I, rfl, t6.next hb6, (BB5.out.trans hbG).trans (hb6.mono t6.size), .refl d⟩
end Go.Proofs.Ytpgpalnnmoanpaa

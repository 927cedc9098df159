/-
  The pager by the document's words: a disk is made, formatted, opened.
-/
import Derived.Test.YthlmjnlakenmoaaPRef
import Derived.Test.YthlmjnlakenmoaaPOpen
import Derived.Test.YthlmjnlakenmoaaPNums
import Derived.Deep.RegionHeld3
namespace Go.Proofs.Ythlmjnlakenmoaa
open Go.RowKit Go.Maps
set_option maxRecDepth 100000

theorem rnew_any (w : World) (n : Nat) :
    Calls Try.prog 12 #[.int .i64 (n : Int)] w fun e w' => ∃ g M, e = .returned (.pointer (some ⟨g, 0, none⟩)) ∧ RDk w' g M n ⟨fun _ => none, -1, -1, 0, 0⟩ ∧ Below w.heap.size w w' ∧ w.heap.size ≤ g ∧ w.heap.size ≤ M := by
  have hmm := run_makeMap (P := Try.prog) 62 w
  have hm1 := TxtAt.made w n
  have hb : Below w.heap.size w (((w.alloc (.map #[] 0))).alloc (.cells (rdiskCells n w.heap.size ⟨fun _ => none, -1, -1, 0, 0⟩) 88)) := ((Below.refl _ _).alloc (Nat.le_refl _) _).alloc (by simp) _
  have hx : Has ((w.alloc (.map #[] 0)).alloc (.cells (rdiskCells n w.heap.size ⟨fun _ => none, -1, -1, 0, 0⟩) 88)) (w.alloc (.map #[] 0)).heap.size 88 (rdiskCells n w.heap.size ⟨fun _ => none, -1, -1, 0, 0⟩) := Has.of_alloc _ _ _
  have hm2 := hm1.keep ((Fr.refl noB _).alloc (.cells (rdiskCells n w.heap.size ⟨fun _ => none, -1, -1, 0, 0⟩) 88)) (fun e => e)
  have HX := Lib.hid hx
  have HM := Lib.hid hm2
  have HB := Lib.hid hb
  clear hx hm1 hm2 hb
  go_enter Try.func12, Try.ntmps12
  go_wp2_with fail
  go_ret
  exact ⟨w.heap.size + 1, rfl, w.heap.size, ⟨by have := HX.out; rw [World.size_alloc] at this; exact this, HM.out⟩, HB.out, by omega, Nat.le_refl _⟩
theorem zeros_cells (n : Nat) : madeCells (Value.int .i64 0).cells (n * 1) = stCells (List.replicate n 0) := by
  apply Array.toList_inj.1
  rw [Nat.mul_one]
  exact (toList_madeCells_one _ _).trans (by rw [stCells, List.map_replicate]; rfl)
theorem run_make_ints (w : World) (n : Nat) (hn : n ≤ 1000000) : (Instr.makeSlice 39 (.int .i64 n) (.int .i64 n)).run Try.prog w = .ok (.slice (some ⟨w.heap.size, 0, none⟩) n n) (w.alloc (.cells (stCells (List.replicate n 0)) 3)) := by
  obtain ⟨i0, hi, hz0, hz1, hz2⟩ := info_parts inf_i64
  have := run_make (P := Try.prog) w _ _ i0 _ und_ints hi hz0 .i64 .i64 (n : Int) n (by omega) (by omega) (by rw [hz2]; omega) (by omega)
  rw [hz1, Int.toNat_natCast, zeros_cells] at this
  exact this
theorem RPg.made {w : World} {g M N : Nat} {q : Pr.Dr} (h : RDk w g M N q) (l : List Nat) (hl : l.length = N) (s r : Nat) (ok : (⟨l, s, r⟩ : Pr.Pt).Ok) :
    RPg ((w.alloc (.cells (stCells l) 3)).alloc (.cells (rpagerCells g w.heap.size ⟨l, s, r⟩) 90)) (w.heap.size + 1) g w.heap.size M ⟨l, s, r⟩ q := by
  have f2 : Fr noB w ((w.alloc (.cells (stCells l) 3)).alloc (.cells (rpagerCells g w.heap.size ⟨l, s, r⟩) 90)) := ((Fr.refl _ _).alloc _).alloc _
  have hb : Has ((w.alloc (.cells (stCells l) 3)).alloc (.cells (rpagerCells g w.heap.size ⟨l, s, r⟩) 90)) (w.alloc (.cells (stCells l) 3)).heap.size 90 (rpagerCells g w.heap.size ⟨l, s, r⟩) := Has.of_alloc _ _ _
  rw [World.size_alloc] at hb
  subst hl
  exact ⟨ok, hb, (Has.of_alloc w 3 (stCells l)).alloc _, h.keep f2 (fun e => e) (fun e => e)⟩
theorem rformat_ok (w : World) (g M N : Nat) (q : Pr.Dr) (h : RDk w g M N q) (h3 : 3 ≤ N) (hN : N ≤ 16384) :
    Calls Try.prog 11 #[.pointer (some ⟨g, 0, none⟩)] w fun e w' => ∃ x L, e = .returned (.tuple #[.pointer (some ⟨x, 0, none⟩), .int .i64 0]) ∧ RPg w' x g L M ⟨List.replicate N 0, 1, 0⟩ ⟨q.f, 1, 0, 0, 0⟩ ∧ Fr (oneB g) w w' ∧ w.heap.size ≤ x ∧ w.heap.size ≤ L := by
  have c0 : w.cell? ⟨g, 0, none⟩ = some (.int .i64 (N : Int)) := h.box.cell 0
  have c2 : w.cell? ⟨g, 2, none⟩ = some (.int .i64 q.s0) := h.box.cell 2
  have c3 : w.cell? ⟨g, 3, none⟩ = some (.int .i64 q.s1) := h.box.cell 3
  have c4 : w.cell? ⟨g, 4, none⟩ = some (.int .i64 q.r0) := h.box.cell 4
  have c5 : w.cell? ⟨g, 5, none⟩ = some (.int .i64 q.r1) := h.box.cell 5
  have z2 := h.box.free 2
  have z3 := h.box.free 3
  have z4 := h.box.free 4
  have z5 := h.box.free 5
  have H := Lib.hid h
  have h3' : ¬ ((N : Int) < 3) := by omega
  have hmk := fun w => run_make_ints w N (by omega)
  clear h
  go_enter Try.func11, Try.ntmps11
  go_wp2_with fail
  go_ret2
  have hf : Fr (oneB g) w ((((w.setCell ⟨g, 2, none⟩ (.int .i64 1)).setCell ⟨g, 3, none⟩ (.int .i64 0)).setCell ⟨g, 4, none⟩ (.int .i64 0)).setCell ⟨g, 5, none⟩ (.int .i64 0)) := ((((Fr.refl _ _).put _).put _).put _).put _
  have hb : Has ((((w.setCell ⟨g, 2, none⟩ (.int .i64 1)).setCell ⟨g, 3, none⟩ (.int .i64 0)).setCell ⟨g, 4, none⟩ (.int .i64 0)).setCell ⟨g, 5, none⟩ (.int .i64 0)) g 88 (rdiskCells N M ⟨q.f, 1, 0, 0, 0⟩) := (((H.out.box.set 2 _).set 3 _).set 4 _).set 5 _
  have ht := H.out.txt.keep hf (fun e => (H.out.box.ne_texts H.out.txt) (Eq.symm e))
  have hr := RPg.made (⟨hb, ht⟩ : RDk _ g M N ⟨q.f, 1, 0, 0, 0⟩) (List.replicate N 0) List.length_replicate 1 0 ⟨by rw [List.length_replicate]; exact h3, by rw [List.length_replicate]; exact hN, fun i hi => by show (List.replicate N 0)[i]? = _; rw [List.getElem?_replicate, if_pos (by omega)], fun s hs => by rw [(List.mem_replicate.1 hs).2]; omega, by show 1 ≤ _; omega, .inl rfl⟩
  simp only [World.size_setCell] at hr
  refine ⟨w.heap.size + 1, rfl, w.heap.size, ?_, hf.trans (((Fr.refl (oneB g) _).alloc _).alloc _) (fun _ _ e => e), by omega, Nat.le_refl _⟩
  unfold rpagerCells at hr
  rw [List.length_replicate] at hr
  exact hr
theorem Pr.upto_opened (N s r : Nat) (h3 : 3 ≤ N) : upto (fun j _ => if 2 ≤ j then 1 else 0) (List.replicate N 0) N = (opened N s r).l := by
  have e : upto (fun j _ => if 2 ≤ j then 1 else 0) (List.replicate N 0) N = (List.replicate N 0).mapIdx fun j _ => if 2 ≤ j then 1 else 0 := by
    have := upto_all (fun j _ => if 2 ≤ j then 1 else 0) (List.replicate N 0)
    rwa [List.length_replicate] at this
  rw [e]
  refine List.ext_getElem? fun j => ?_
  rw [List.getElem?_mapIdx, List.getElem?_replicate]
  unfold opened
  match j with
  | 0 => rw [if_pos (show 0 < N by omega)]; rfl
  | 1 => rw [if_pos (show 1 < N by omega)]; rfl
  | j + 2 =>
    show _ = (List.replicate (N - 2) 1)[j]?
    rw [List.getElem?_replicate]
    by_cases hj : j + 2 < N
    · rw [if_pos hj, if_pos (show j < N - 2 by omega)]; simp
    · rw [if_neg hj, if_neg (show ¬ j < N - 2 by omega)]; rfl
set_option maxHeartbeats 6400000 in
theorem ropen_ok (w : World) (g M N : Nat) (q : Pr.Dr) (h : RDk w g M N q) (h3 : 3 ≤ N) (hN : N ≤ 16384) (s r : Nat) (hsel : (q.s0 < q.s1 ∧ q.s1 = (s : Int) ∧ q.r1 = (r : Int)) ∨ (¬ q.s0 < q.s1 ∧ q.s0 = (s : Int) ∧ q.r0 = (r : Int))) (hs : s ≤ 4611686018427387904) (hr : r = 0 ∨ 2 ≤ r ∧ r < N) :
    Calls Try.prog 55 #[.pointer (some ⟨g, 0, none⟩)] w fun e w' => ∃ x L, e = .returned (.tuple #[.pointer (some ⟨x, 0, none⟩), .int .i64 (r : Int), .int .i64 0]) ∧ RPg w' x g L M (Pr.opened N s r) q ∧ Below w.heap.size w w' ∧ w.heap.size ≤ x ∧ w.heap.size ≤ L := by
  have c0 : w.cell? ⟨g, 0, none⟩ = some (.int .i64 (N : Int)) := h.box.cell 0
  have c2 : w.cell? ⟨g, 2, none⟩ = some (.int .i64 q.s0) := h.box.cell 2
  have c3 : w.cell? ⟨g, 3, none⟩ = some (.int .i64 q.s1) := h.box.cell 3
  have c4 : w.cell? ⟨g, 4, none⟩ = some (.int .i64 q.r0) := h.box.cell 4
  have c5 : w.cell? ⟨g, 5, none⟩ = some (.int .i64 q.r1) := h.box.cell 5
  have H := Lib.hid h
  have HR := Lib.hid hr
  have h3' : ¬ ((N : Int) < 3) := by omega
  have hmk := fun w => run_make_ints w N (by omega)
  clear h hr
  have hs0 : ¬ ((s : Int) < 0) := by omega
  have hdn : ∀ n : Nat, Below w.heap.size w (w.drewN n) := fun n => ⟨rfl, rfl, rfl, Nat.le_refl _, fun _ _ => rfl⟩
  have HDN := Lib.hid hdn
  clear hdn
  rcases hsel with ⟨hlt, e1, e2⟩ | ⟨hlt, e1, e2⟩
  · rw [e1] at hlt c3
    rw [e2] at c5
    have E1 := Lib.hid e1
    have E2 := Lib.hid e2
    have HQ := Lib.hid (show ∀ n : Nat, (w.drewN n).cell? ⟨g, 0, none⟩ = some (.int .i64 (N : Int)) ∧ (w.drewN n).cell? ⟨g, 3, none⟩ = some (.int .i64 (s : Int)) ∧ (w.drewN n).cell? ⟨g, 5, none⟩ = some (.int .i64 (r : Int)) from fun n => ⟨c0, c3, c5⟩)
    go_enter Try.func55, Try.ntmps55
    go_wp2_with fail
    go_quiet (fail)
    obtain ⟨c0', c3', c5'⟩ := HQ.out nq
    have HB0 := Lib.hid (HDN.out nq)
    have H0 := Lib.hid (H.out.keep ((Fr.refl noB w).drewN nq) (fun e => e) (fun e => e))
    clear c0 c2 c3 c4 c5 HQ HDN H e1 e2
    generalize w.drewN nq = w0 at *
    go_wp2_with fail
    have HS := Lib.hid (show ∀ W : World, Has W g 88 (rdiskCells N M q) → W.cell? ⟨g, 0, none⟩ = some (.int .i64 (N : Int)) ∧ W.cell? ⟨g, 3, none⟩ = some (.int .i64 (s : Int)) ∧ W.cell? ⟨g, 5, none⟩ = some (.int .i64 (r : Int)) from fun W h => ⟨h.cell 0, by rw [h.cell, ← E1.out]; rfl, by rw [h.cell, ← E2.out]; rfl⟩)
    go_region_held3 (fun w' => w'.cell? ⟨g, 0, none⟩ = some (.int .i64 (N : Int)) ∧ w'.cell? ⟨g, 3, none⟩ = some (.int .i64 (s : Int)) ∧ w'.cell? ⟨g, 5, none⟩ = some (.int .i64 (r : Int))) (first | exact HS.out _ H0.out.box | exact HS.out _ (Has.alloc H0.out.box _) | exact HS.out _ (Has.alloc (Has.alloc H0.out.box _) _)) (first | fail)
    have hzl : (List.replicate N 0).length = N := List.length_replicate
    have hok0 : (⟨List.replicate N 0, s, r⟩ : Pr.Pt).Ok := ⟨by rw [hzl]; exact h3, by rw [hzl]; exact hN, fun i hi => by show (List.replicate N 0)[i]? = _; rw [List.getElem?_replicate, if_pos (by omega)], fun v hv => by rw [(List.mem_replicate.1 hv).2]; omega, hs, by rw [hzl]; exact HR.out⟩
    have hr6 := RPg.made H0.out (List.replicate N 0) hzl s r hok0
    have hb6 : Below w0.heap.size w0 ((w0.alloc (.cells (stCells (List.replicate N 0)) 3)).alloc (.cells (rpagerCells g w0.heap.size ⟨List.replicate N 0, s, r⟩) 90)) := ((Below.refl _ _).alloc (Nat.le_refl _) _).alloc (by simp) _
    unfold rpagerCells at hr6 hb6
    rw [hzl] at hr6 hb6
    have HR6 := Lib.hid (hr6.keep ((Fr.refl noB _).drew) (fun _ _ e => e))
    have HB6 := Lib.hid (hb6.drew)
    have HOK0 := Lib.hid (Pr.opened_ok h3 hN hs HR.out)
    have hsz0 : w.heap.size ≤ w0.heap.size := HB0.out.size
    rename_i hHeld
    clear hr6 hb6 hok0 HS c0' c3' c5' H0 HR E1 E2 hHeld
    generalize ((w0.alloc (.cells (stCells (List.replicate N 0)) 3)).alloc (.cells #[.pointer (some ⟨g, 0, none⟩), .slice (some ⟨w0.heap.size, 0, none⟩) N N, .int .i64 (s : Int), .int .i64 (r : Int)] 90)).drew = w6 at *
    go_wp2_with fail
    have HL := Lib.hid (Below.trans HB0.out (HB6.out.mono hsz0))
    have hxL : w.heap.size ≤ w0.heap.size + 1 := by omega
    generalize w0.heap.size = L at *
    generalize L + 1 = x at *
    have HT0 := Lib.hid (Turned.start (f := fun j _ => if 2 ≤ j then 1 else 0) HR6.out (fun i hi => by simp only [show ¬ 2 ≤ i by omega, if_false]))
    clear HR6 HB0 HB6 hmk
    go_loopw [7] (fun iv wr => ∃ k : Nat, 2 ≤ k ∧ k ≤ N ∧ iv = .int .i64 k ∧ Hid (Turned w6 x g L M ⟨List.replicate N 0, s, r⟩ q (fun j _ => if 2 ≤ j then 1 else 0) k wr) ∧ Hid (Below w.heap.size w wr)) (fun iv _ => N - (intOf iv).toNat)
    case atStart => exact ⟨2, by omega, by omega, rfl, HT0, HL⟩
    case round =>
      rename World => wr
      obtain ⟨k, hk2, hk, rfl, HT, HBW⟩ := hrel
      have d0 : wr.cell? ⟨g, 0, none⟩ = some (.int .i64 (N : Int)) := by have := HT.out.dk.box.cell 0; rw [hzl] at this; exact this
      have d1 : wr.cell? ⟨x, 1, none⟩ = some (.slice (some ⟨L, 0, none⟩) N N) := by have := HT.out.box.cell 1; unfold rpagerCells at this; rw [hzl] at this; exact this
      by_cases hlt2 : k < N
      · have hlt' : (k : Int) < (N : Int) := by omega
        have hkz : k < (List.replicate N 0).length := by rw [hzl]; exact hlt2
        have hx := HT.out.at_ hkz
        have hz := HT.out.st.free k
        have HX := Lib.hid (HT.out.next hkz (v := 1) (by simp only [hk2, if_true]; rfl))
        have HY := Lib.hid (HBW.out.setCell (p := ⟨L, k, none⟩) hsz0 (.int .i64 1))
        go_wp2_with fail
        go_roundw
        case rel => exact ⟨k + 1, by omega, by omega, rfl, HX, HY⟩
        case measure => simp [intOf]; omega
      · have hkl : k = N := by omega
        have hlt' : ¬ ((k : Int) < (N : Int)) := by omega
        subst hkl
        have hT' : Turned w6 x g L M ⟨List.replicate k 0, s, r⟩ q (fun j _ => if 2 ≤ j then 1 else 0) (List.replicate k 0).length wr := by rw [hzl]; exact HT.out
        have HG := Lib.hid (hT'.goes (l := (Pr.opened k s r).l) (by show Pr.upto _ (List.replicate k 0) (List.replicate k 0).length = _; rw [hzl]; exact Pr.upto_opened k s r h3) HOK0.out)
        clear hT'
        have d3 : wr.cell? ⟨x, 3, none⟩ = some (.int .i64 (r : Int)) := HT.out.box.cell 3
        clear HT HT0
        go_wp2_with fail
        go_quiet (fail)
        have HGQ := Lib.hid (HG.out.1.keep ((Fr.refl noB wr).drewN nq) (fun _ _ e => e))
        have HFQ := Lib.hid (show Below w.heap.size w (wr.drewN nq) from ⟨HBW.out.os, HBW.out.tape, HBW.out.output, HBW.out.size, HBW.out.block⟩)
        generalize wr.drewN nq = wz at *
        go_wp2_with fail
        go_ret3
        exact ⟨x, L, rfl, HGQ.out, HFQ.out, hxL, hsz0⟩
  · rw [e1] at hlt c2
    rw [e2] at c4
    have E1 := Lib.hid e1
    have E2 := Lib.hid e2
    have HQ := Lib.hid (show ∀ n : Nat, (w.drewN n).cell? ⟨g, 0, none⟩ = some (.int .i64 (N : Int)) ∧ (w.drewN n).cell? ⟨g, 2, none⟩ = some (.int .i64 (s : Int)) ∧ (w.drewN n).cell? ⟨g, 4, none⟩ = some (.int .i64 (r : Int)) from fun n => ⟨c0, c2, c4⟩)
    go_enter Try.func55, Try.ntmps55
    go_wp2_with fail
    go_quiet (fail)
    obtain ⟨c0', c2', c4'⟩ := HQ.out nq
    have HB0 := Lib.hid (HDN.out nq)
    have H0 := Lib.hid (H.out.keep ((Fr.refl noB w).drewN nq) (fun e => e) (fun e => e))
    clear c0 c2 c3 c4 c5 HQ HDN H e1 e2
    generalize w.drewN nq = w0 at *
    go_wp2_with fail
    have HS := Lib.hid (show ∀ W : World, Has W g 88 (rdiskCells N M q) → W.cell? ⟨g, 0, none⟩ = some (.int .i64 (N : Int)) ∧ W.cell? ⟨g, 2, none⟩ = some (.int .i64 (s : Int)) ∧ W.cell? ⟨g, 4, none⟩ = some (.int .i64 (r : Int)) from fun W h => ⟨h.cell 0, by rw [h.cell, ← E1.out]; rfl, by rw [h.cell, ← E2.out]; rfl⟩)
    go_region_held3 (fun w' => w'.cell? ⟨g, 0, none⟩ = some (.int .i64 (N : Int)) ∧ w'.cell? ⟨g, 2, none⟩ = some (.int .i64 (s : Int)) ∧ w'.cell? ⟨g, 4, none⟩ = some (.int .i64 (r : Int))) (first | exact HS.out _ H0.out.box | exact HS.out _ (Has.alloc H0.out.box _) | exact HS.out _ (Has.alloc (Has.alloc H0.out.box _) _)) (first | fail)
    have hzl : (List.replicate N 0).length = N := List.length_replicate
    have hok0 : (⟨List.replicate N 0, s, r⟩ : Pr.Pt).Ok := ⟨by rw [hzl]; exact h3, by rw [hzl]; exact hN, fun i hi => by show (List.replicate N 0)[i]? = _; rw [List.getElem?_replicate, if_pos (by omega)], fun v hv => by rw [(List.mem_replicate.1 hv).2]; omega, hs, by rw [hzl]; exact HR.out⟩
    have hr6 := RPg.made H0.out (List.replicate N 0) hzl s r hok0
    have hb6 : Below w0.heap.size w0 ((w0.alloc (.cells (stCells (List.replicate N 0)) 3)).alloc (.cells (rpagerCells g w0.heap.size ⟨List.replicate N 0, s, r⟩) 90)) := ((Below.refl _ _).alloc (Nat.le_refl _) _).alloc (by simp) _
    unfold rpagerCells at hr6 hb6
    rw [hzl] at hr6 hb6
    have HR6 := Lib.hid (hr6.keep ((Fr.refl noB _).drew) (fun _ _ e => e))
    have HB6 := Lib.hid (hb6.drew)
    have HOK0 := Lib.hid (Pr.opened_ok h3 hN hs HR.out)
    have hsz0 : w.heap.size ≤ w0.heap.size := HB0.out.size
    rename_i hHeld
    clear hr6 hb6 hok0 HS c0' c2' c4' H0 HR E1 E2 hHeld
    generalize ((w0.alloc (.cells (stCells (List.replicate N 0)) 3)).alloc (.cells #[.pointer (some ⟨g, 0, none⟩), .slice (some ⟨w0.heap.size, 0, none⟩) N N, .int .i64 (s : Int), .int .i64 (r : Int)] 90)).drew = w6 at *
    go_wp2_with fail
    have HL := Lib.hid (Below.trans HB0.out (HB6.out.mono hsz0))
    have hxL : w.heap.size ≤ w0.heap.size + 1 := by omega
    generalize w0.heap.size = L at *
    generalize L + 1 = x at *
    have HT0 := Lib.hid (Turned.start (f := fun j _ => if 2 ≤ j then 1 else 0) HR6.out (fun i hi => by simp only [show ¬ 2 ≤ i by omega, if_false]))
    clear HR6 HB0 HB6 hmk
    go_loopw [7] (fun iv wr => ∃ k : Nat, 2 ≤ k ∧ k ≤ N ∧ iv = .int .i64 k ∧ Hid (Turned w6 x g L M ⟨List.replicate N 0, s, r⟩ q (fun j _ => if 2 ≤ j then 1 else 0) k wr) ∧ Hid (Below w.heap.size w wr)) (fun iv _ => N - (intOf iv).toNat)
    case atStart => exact ⟨2, by omega, by omega, rfl, HT0, HL⟩
    case round =>
      rename World => wr
      obtain ⟨k, hk2, hk, rfl, HT, HBW⟩ := hrel
      have d0 : wr.cell? ⟨g, 0, none⟩ = some (.int .i64 (N : Int)) := by have := HT.out.dk.box.cell 0; rw [hzl] at this; exact this
      have d1 : wr.cell? ⟨x, 1, none⟩ = some (.slice (some ⟨L, 0, none⟩) N N) := by have := HT.out.box.cell 1; unfold rpagerCells at this; rw [hzl] at this; exact this
      by_cases hlt2 : k < N
      · have hlt' : (k : Int) < (N : Int) := by omega
        have hkz : k < (List.replicate N 0).length := by rw [hzl]; exact hlt2
        have hx := HT.out.at_ hkz
        have hz := HT.out.st.free k
        have HX := Lib.hid (HT.out.next hkz (v := 1) (by simp only [hk2, if_true]; rfl))
        have HY := Lib.hid (HBW.out.setCell (p := ⟨L, k, none⟩) hsz0 (.int .i64 1))
        go_wp2_with fail
        go_roundw
        case rel => exact ⟨k + 1, by omega, by omega, rfl, HX, HY⟩
        case measure => simp [intOf]; omega
      · have hkl : k = N := by omega
        have hlt' : ¬ ((k : Int) < (N : Int)) := by omega
        subst hkl
        have hT' : Turned w6 x g L M ⟨List.replicate k 0, s, r⟩ q (fun j _ => if 2 ≤ j then 1 else 0) (List.replicate k 0).length wr := by rw [hzl]; exact HT.out
        have HG := Lib.hid (hT'.goes (l := (Pr.opened k s r).l) (by show Pr.upto _ (List.replicate k 0) (List.replicate k 0).length = _; rw [hzl]; exact Pr.upto_opened k s r h3) HOK0.out)
        clear hT'
        have d3 : wr.cell? ⟨x, 3, none⟩ = some (.int .i64 (r : Int)) := HT.out.box.cell 3
        clear HT HT0
        go_wp2_with fail
        go_quiet (fail)
        have HGQ := Lib.hid (HG.out.1.keep ((Fr.refl noB wr).drewN nq) (fun _ _ e => e))
        have HFQ := Lib.hid (show Below w.heap.size w (wr.drewN nq) from ⟨HBW.out.os, HBW.out.tape, HBW.out.output, HBW.out.size, HBW.out.block⟩)
        generalize wr.drewN nq = wz at *
        go_wp2_with fail
        go_ret3
        exact ⟨x, L, rfl, HGQ.out, HFQ.out, hxL, hsz0⟩
end Go.Proofs.Ythlmjnlakenmoaa
/-
  The pager by the document's words: which pages are used is said.
-/
namespace Go.Proofs.Ythlmjnlakenmoaa
open Go.RowKit Go.Maps
set_option maxRecDepth 100000

theorem inf_bool1 : (Try.prog.info? 4).map (fun i => (i.zero, i.size, i.bytes)) = some (some (.bool false), 1, 1) := by kernel_rfl
def seenCells (N : Nat) (l : List Int) : Array Value := ((List.range N).map fun j => Value.bool (Pr.memI l j)).toArray
theorem seenCells_at {N : Nat} {l : List Int} {i : Nat} (h : i < N) : (seenCells N l)[i]? = some (.bool (Pr.memI l i)) := by simp [seenCells, h]
theorem seenCells_set {N : Nat} {l : List Int} (i : Nat) : (seenCells N l).setIfInBounds i (.bool true) = seenCells N (l ++ [(i : Int)]) := by
  apply Array.toList_inj.1
  refine List.ext_getElem? fun j => ?_
  have e : ((seenCells N l).setIfInBounds i (.bool true)).toList = (List.map (fun j => Value.bool (Pr.memI l j)) (List.range N)).set i (.bool true) := by simp [seenCells]
  rw [e]
  show _ = (List.map (fun j => Value.bool (Pr.memI (l ++ [(i : Int)]) j)) (List.range N))[j]?
  rw [List.getElem?_set]
  by_cases hij : i = j
  · subst hij
    by_cases hN : i < N
    · simp [hN, Pr.memI]
    · simp [hN]
  · simp only [if_neg hij, List.getElem?_map]
    by_cases hN : j < N
    · have : Pr.memI (l ++ [(i : Int)]) j = Pr.memI l j := by
        unfold Pr.memI
        have : ¬ ((j : Int) = (i : Int)) := by omega
        simp [this]
      simp [hN, this]
    · simp [hN]
theorem seen_zero (N : Nat) : madeCells (Value.bool false).cells (N * 1) = seenCells N [] := by
  apply Array.toList_inj.1
  rw [Nat.mul_one]
  refine (toList_madeCells_one _ _).trans ?_
  show _ = List.map (fun j => Value.bool (Pr.memI [] j)) (List.range N)
  refine List.ext_getElem? fun j => ?_
  by_cases hN : j < N
  · simp [hN, Pr.memI]
  · simp [hN]
theorem run_make_bools (w : World) (n : Nat) (hn : n ≤ 1000000) : (Instr.makeSlice 54 (.int .i64 n) (.int .i64 n)).run Try.prog w = .ok (.slice (some ⟨w.heap.size, 0, none⟩) n n) (w.alloc (.cells (seenCells n []) 4)) := by
  obtain ⟨i0, hi, hz0, hz1, hz2⟩ := info_parts inf_bool1
  have := run_make (P := Try.prog) w _ _ i0 _ und_bools hi hz0 .i64 .i64 (n : Int) n (by omega) (by omega) (by rw [hz2]; omega) (by omega)
  rw [hz1, Int.toNat_natCast, seen_zero] at this
  exact this
theorem ruse_state (w : World) (x g L M : Nat) (p : Pr.Pt) (q : Pr.Dr) (h : RPg w x g L M p q) (j s : Nat) (hj2 : 2 ≤ j) (hj : p.l[j]? = some s) (hs : 1 < s) (v : Value) :
    Calls Try.prog 54 #[.pointer (some ⟨x, 0, none⟩), v] w fun e w' => e = .returned (.int .i64 250) ∧ w = w' := by
  have c1 := h.cells.c1
  have hmost := h.ok.most
  have hjl := (List.getElem?_eq_some_iff.1 hj).1
  have H := Lib.hid h
  have HJ := Lib.hid hj
  clear h hj
  go_enter Try.func54, Try.ntmps54
  go_wp2_with fail
  go_loopw [5] (fun iv wr => ∃ k : Nat, 2 ≤ k ∧ k ≤ j ∧ iv = .int .i64 k ∧ w = wr) (fun iv _ => p.l.length - (intOf iv).toNat)
  case atStart => exact ⟨2, by omega, by omega, rfl, rfl⟩
  case round =>
    obtain ⟨k, hk2, hk, rfl, rfl⟩ := hrel
    have hlt : k < p.l.length := by omega
    have hlt' : (k : Int) < (p.l.length : Int) := by omega
    have hx := H.out.at_ (List.getElem?_eq_getElem hlt)
    have hkj : k ≠ j ∨ p.l[k] = s := by
      by_cases e : k = j
      · subst e
        have := HJ.out
        rw [List.getElem?_eq_getElem hlt] at this
        injection this with this
        exact .inr this
      · exact .inl e
    generalize p.l[k] = t at *
    by_cases ht : 1 < t
    · have ht' : (1 : Int) < (t : Int) := by omega
      go_wp2_with fail
      go_ret
      exact ⟨rfl, rfl⟩
    · have ht' : ¬ ((1 : Int) < (t : Int)) := by omega
      have hne : k ≠ j := hkj.elim id (fun e => by omega)
      go_wp2_with fail
      go_roundw
      case rel => exact ⟨k + 1, by omega, by omega, rfl, trivial⟩
      case measure => simp [intOf]; omega
/-- what Use answers, where nothing is taken or dropped -/
def RUsePost (w : World) (x g L M : Nat) (p : Pr.Pt) (q : Pr.Dr) (l : List Int) (e : Ending) (w' : World) : Prop :=
  (¬ (∀ y ∈ l, 2 ≤ y ∧ y < (p.l.length : Int)) ∧ e = .returned (.int .i64 1) ∧ Below w.heap.size w w') ∨
  ((∀ y ∈ l, 2 ≤ y ∧ y < (p.l.length : Int)) ∧ ¬ l.Nodup ∧ e = .returned (.int .i64 6) ∧ Below w.heap.size w w') ∨
  ((∀ y ∈ l, 2 ≤ y ∧ y < (p.l.length : Int)) ∧ l.Nodup ∧ e = .returned (.int .i64 0) ∧ RGoes w x g L M (Pr.usePt p l) q w')
theorem Turned.next2 {w wr : World} {x g L M : Nat} {p : Pr.Pt} {q : Pr.Dr} {f : Nat → Nat → Nat} {k : Nat} (h : Turned w x g L M p q f k wr) (hk : k < p.l.length) {u v : Int} (e : v = (f k p.l[k] : Int)) : Turned w x g L M p q f (k + 1) ((wr.setCell ⟨L, k, none⟩ (.int .i64 u)).setCell ⟨L, k, none⟩ (.int .i64 v)) := by
  obtain ⟨⟨n1, n2, n3⟩, ⟨n4, n5⟩, n6⟩ := h.ne
  have hf : Fr (oneB L) wr ((wr.setCell ⟨L, k, none⟩ (.int .i64 u)).setCell ⟨L, k, none⟩ (.int .i64 v)) := ((Fr.refl _ _).put _).put _
  refine ⟨h.box.keep hf (fun e => n2 e), ?_, h.dk.keep hf (fun e => n4 e) (fun e => n6 (Eq.symm e)), h.fr.trans hf (fun k _ e => .inr (.inr (.inl e)))⟩
  have := (h.st.set k (.int .i64 u)).set k (.int .i64 v)
  rw [Array.setIfInBounds_setIfInBounds, e, stCells_set, Pr.upto_set hk] at this
  rwa [e]
theorem Pr.upto_used (l : List Int) (s : List Nat) : upto (fun j _ => if memI l j then 1 else 0) s s.length = usedL s.length l := by
  rw [upto_all]
  refine List.ext_getElem? fun j => ?_
  unfold usedL
  rw [List.getElem?_mapIdx, List.getElem?_map]
  by_cases hj : j < s.length
  · rw [List.getElem?_eq_getElem hj, List.getElem?_range hj]; rfl
  · rw [List.getElem?_eq_none (by omega), List.getElem?_eq_none (by simpa using hj)]; rfl
/-- the second loop: which pages were seen -/
structure Seen (w : World) (B N : Nat) (l : List Int) (k : Nat) (wr : World) : Prop where
  row : Has wr B 4 (seenCells N (l.take k))
  all : ∀ y ∈ l.take k, 2 ≤ y ∧ y < (N : Int)
  below : Below w.heap.size w wr
def Pr.twice (l : List Int) (k : Nat) : Bool := !decide (l.take k).Nodup
theorem Pr.twice_next {l : List Int} {k : Nat} (hk : k < l.length) (m : Nat) (hm : l[k] = (m : Int)) : twice l (k + 1) = (twice l k || memI (l.take k) m) := by
  unfold twice memI
  rw [List.take_succ_eq_append_getElem hk, hm, Bool.eq_iff_iff]
  simp only [Bool.not_eq_true', decide_eq_false_iff_not, Bool.or_eq_true, decide_eq_true_eq, List.nodup_append]
  simp
  constructor
  · intro h
    by_cases hn : (l.take k).Nodup
    · exact .inr (h hn)
    · exact .inl hn
  · rintro (h | h) hn
    · exact absurd hn h
    · exact h
set_option maxHeartbeats 3200000 in
theorem ruse_any (w : World) (x g L M : Nat) (p : Pr.Pt) (q : Pr.Dr) (h : RPg w x g L M p q) (hle : ∀ j s, 2 ≤ j → p.l[j]? = some s → s ≤ 1) (A : Option Addr) (l : List Int) (c : Nat) (hl : Ints w A l) :
    Calls Try.prog 54 #[.pointer (some ⟨x, 0, none⟩), .slice A l.length c] w (RUsePost w x g L M p q l) := by
  have c1 := h.cells.c1
  have hmost := h.ok.most
  have hsome := h.ok.some_
  have H := Lib.hid h
  have HL := Lib.hid hl
  have hlb := hl.1
  have HLE := Lib.hid hle
  have hmk := run_make_bools w p.l.length (by omega)
  clear h hl hle
  go_enter Try.func54, Try.ntmps54
  go_wp2_with fail
  go_loopw [5] (fun iv wr => ∃ k : Nat, 2 ≤ k ∧ k ≤ p.l.length ∧ iv = .int .i64 k ∧ w = wr) (fun iv _ => p.l.length - (intOf iv).toNat)
  case atStart => exact ⟨2, by omega, by omega, rfl, rfl⟩
  case round =>
    obtain ⟨k, hk2, hk, rfl, rfl⟩ := hrel
    by_cases hlt : k < p.l.length
    · have hlt' : (k : Int) < (p.l.length : Int) := by omega
      have hx := H.out.at_ (List.getElem?_eq_getElem hlt)
      have ht := HLE.out k _ hk2 (List.getElem?_eq_getElem hlt)
      generalize p.l[k] = t at *
      have ht' : ¬ ((1 : Int) < (t : Int)) := by omega
      go_wp2_with fail
      go_roundw
      case rel => exact ⟨k + 1, by omega, by omega, rfl, trivial⟩
      case measure => simp [intOf]; omega
    · have hkl : k = p.l.length := by omega
      have hlt' : ¬ ((k : Int) < (p.l.length : Int)) := by omega
      subst hkl
      have hS0 : Seen w w.heap.size p.l.length l 0 (w.alloc (.cells (seenCells p.l.length []) 4)) := ⟨Has.of_alloc _ _ _, fun y hy => by simp at hy, (Below.refl _ _).alloc (Nat.le_refl _) _⟩
      have HS0 := Lib.hid hS0
      clear hS0 hlt hlt'
      go_wp2_with fail
      generalize w.alloc (.cells (seenCells p.l.length []) 4) = w1 at *
      clear hmk
      go_loopw [7, 8] (fun tv iv wr => ∃ k : Nat, k ≤ l.length ∧ iv = .int .i64 k ∧ tv = .bool (Pr.twice l k) ∧ Hid (Seen w w.heap.size p.l.length l k wr)) (fun _ iv _ => l.length - (intOf iv).toNat)
      case atStart => exact ⟨0, by omega, rfl, rfl, HS0⟩
      case round =>
        rename World => wr
        obtain ⟨k, hk, rfl, rfl, HS⟩ := hrel
        have hrp := H.out.below HS.out.below
        have HRP := Lib.hid hrp
        have c1' := hrp.cells.c1
        clear hrp
        by_cases hlt : k < l.length
        · obtain ⟨ga, o, rfl, hcell⟩ := (HL.out.keep (Fr.of_below HS.out.below noB) (fun _ _ _ e => e)).at_ hlt
          have hlt' : (k : Int) < (l.length : Int) := by omega
          by_cases hin : 2 ≤ l[k] ∧ l[k] < (p.l.length : Int)
          · have HP := HRP.out.page l[k] true (decide_eq_true hin)
            obtain ⟨m, hm⟩ : ∃ m : Nat, l[k] = (m : Int) := ⟨l[k].toNat, by omega⟩
            have htw := Pr.twice_next hlt m hm
            have htk : l.take (k + 1) = l.take k ++ [(m : Int)] := by rw [List.take_succ_eq_append_getElem hlt, hm]
            rw [hm] at HP hcell hin
            obtain ⟨hm2, hmN⟩ := hin
            have hmN' : m < p.l.length := by omega
            have hsc : wr.cell? ⟨w.heap.size, m, none⟩ = some (.bool (Pr.memI (l.take k) m)) := (HS.out.row.cell m).trans (seenCells_at hmN')
            have hsz := HS.out.row.free m
            have hnx : Seen w w.heap.size p.l.length l (k + 1) (wr.setCell ⟨w.heap.size, m, none⟩ (.bool true)) := ⟨by rw [htk, ← seenCells_set]; exact HS.out.row.set m _, fun y hy => by
              rw [htk] at hy
              rcases List.mem_append.1 hy with e | e
              · exact HS.out.all y e
              · rw [List.mem_singleton] at e; subst e; exact ⟨hm2, hmN⟩, HS.out.below.trans ((Fr.setAt (Fr.refl (oneB w.heap.size) wr) (i := m) (.inl rfl) (.bool true)).below HS.out.below.size (fun k e => by have e : k = w.heap.size := e; omega))⟩
            have HNX := Lib.hid hnx
            have HPP := Lib.hid HP
            have HTW := Lib.hid htw
            clear hnx HP htw htk hm
            generalize Pr.twice l k = tb at *
            generalize Pr.memI (l.take k) m = mb at *
            cases tb
            all_goals
              go_wp2_with fail
              refine HPP.out.mono ?_
              rintro e w' ⟨rfl, rfl⟩
              go_wp2_with fail
              go_roundw
              case rel => exact ⟨k + 1, by omega, rfl, by rw [HTW.out]; rfl, HNX⟩
              case measure => simp [intOf]; omega
          · have HP := Lib.hid (HRP.out.page l[k] false (decide_eq_false hin))
            have hno : ¬ (∀ y ∈ l, 2 ≤ y ∧ y < (p.l.length : Int)) := fun e => hin (e _ (List.getElem_mem hlt))
            have HNO := Lib.hid hno
            clear hno hin
            generalize l[k] = y at *
            go_wp2_with fail
            refine HP.out.mono ?_
            rintro e w' ⟨rfl, rfl⟩
            go_wp2_with fail
            go_ret
            exact .inl ⟨HNO.out, rfl, HS.out.below⟩
        · have hkl : k = l.length := by omega
          have hlt' : ¬ ((k : Int) < (l.length : Int)) := by omega
          subst hkl
          have hall : ∀ y ∈ l, 2 ≤ y ∧ y < (p.l.length : Int) := fun y hy => HS.out.all y (by rwa [List.take_length])
          have hrow := HS.out.row
          rw [List.take_length] at hrow
          have HALL := Lib.hid hall
          have HROW := Lib.hid hrow
          have HT0 := Lib.hid (Turned.start HRP.out (f := fun j _ => if Pr.memI l j then 1 else 0) (fun i hi => by
            have : Pr.memI l i = false := decide_eq_false fun e => by have := (hall _ e).1; omega
            simp [this]))
          clear hall hrow hlt
          by_cases hnd : l.Nodup
          · have htf : Pr.twice l l.length = false := by unfold Pr.twice; rw [List.take_length, decide_eq_true hnd]; rfl
            have HND := Lib.hid hnd
            clear hnd
            rw [htf]
            go_wp2_with fail
            go_loopw [9] (fun iv wo => ∃ k : Nat, 2 ≤ k ∧ k ≤ p.l.length ∧ iv = .int .i64 k ∧ Hid (Turned wr x g L M p q (fun j _ => if Pr.memI l j then 1 else 0) k wo)) (fun iv _ => p.l.length - (intOf iv).toNat)
            case atStart => exact ⟨2, by omega, by omega, rfl, HT0⟩
            case round =>
              rename World => wo
              obtain ⟨j, hj2, hj, rfl, HT⟩ := hrel
              have d1 : wo.cell? ⟨x, 1, none⟩ = some (.slice (some ⟨L, 0, none⟩) p.l.length p.l.length) := HT.out.box.cell 1
              by_cases hjl : j < p.l.length
              · have hjl' : (j : Int) < (p.l.length : Int) := by omega
                have hx := HT.out.at_ hjl
                have hz := HT.out.st.free j
                have hBL : w.heap.size ≠ L := by have := H.out.lt L (.inr (.inr (.inl rfl))); omega
                have hrowj := HROW.out.keep HT.out.fr (fun e => by have := H.out.lt _ e; omega)
                have hsj : wo.cell? ⟨w.heap.size, j, none⟩ = some (.bool (Pr.memI l j)) := (hrowj.cell j).trans (seenCells_at hjl)
                have HN1 := Lib.hid (fun (v : Int) (e : v = ((if Pr.memI l j then 1 else 0 : Nat) : Int)) => HT.out.next hjl (v := v) e)
                have HN2 := Lib.hid (fun (v : Int) (e : v = ((if Pr.memI l j then 1 else 0 : Nat) : Int)) => HT.out.next2 hjl (u := 0) (v := v) e)
                clear hrowj
                generalize Pr.memI l j = mb at *
                generalize p.l[j] = t at *
                cases mb
                · have HX := Lib.hid (HN1.out 0 rfl)
                  go_wp2_with fail
                  go_roundw
                  case rel => exact ⟨j + 1, by omega, by omega, rfl, HX⟩
                  case measure => simp [intOf]; omega
                · have HX := Lib.hid (HN2.out 1 rfl)
                  go_wp2_with fail
                  go_roundw
                  case rel => exact ⟨j + 1, by omega, by omega, rfl, HX⟩
                  case measure => simp [intOf]; omega
              · have hjl' : ¬ ((j : Int) < (p.l.length : Int)) := by omega
                have : j = p.l.length := by omega
                subst this
                have HG := Lib.hid (HT.out.goes (Pr.upto_used l p.l) (Pr.usePt_ok H.out.ok HALL.out))
                go_wp2_with fail
                go_ret
                exact .inr (.inr ⟨HALL.out, HND.out, rfl, HG.out.1, (Fr.of_below HS.out.below _).trans HG.out.2 (fun _ _ e => e)⟩)
          · have htf : Pr.twice l l.length = true := by unfold Pr.twice; rw [List.take_length, decide_eq_false hnd]; rfl
            have HND := Lib.hid hnd
            clear hnd
            rw [htf]
            go_wp2_with fail
            go_ret
            exact .inr (.inl ⟨HALL.out, HND.out, rfl, HS.out.below⟩)
end Go.Proofs.Ythlmjnlakenmoaa

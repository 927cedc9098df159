/-
  A meta is read.
-/
import Derived.Test.YthlmjnlakenmoaaPPut
import Derived.Test.YthlmjnlakenmoaaKonst
import Derived.Deep.CutRange
import Derived.Deep.RegionWith
import Derived.Laws.ResultCell
namespace Go.Proofs.Ythlmjnlakenmoaa
open Go.RowKit Go.Maps
set_option maxRecDepth 100000

theorem beq_any (w : World) (A B : Option Addr) (x y : List UInt8) (c d : Nat) (hx : Rd w w.heap.size A x) (hy : Rd w w.heap.size B y) :
    Calls Try.prog 65 #[.slice A x.length c, .slice B y.length d] w fun e w' => e = .returned (.bool (decide (x = y))) ∧ w = w' := by
  have h1 := conv_rd w _ A x c hx
  have h2 := conv_rd w _ B y d hy
  unfold bstr at h1 h2
  clear hx hy
  go_enter Try.func65, Try.ntmps65
  go_wp2_with fail
  go_ret
  exact ⟨ret_bool (by rw [Bool.eq_iff_iff]; simp), rfl⟩
def metaRes : Option (Nat × Nat) → Value
  | some (x, y) => .tuple #[.agg #[.int .i64 (x : Int), .int .i64 (y : Int)], .bool true]
  | none => .tuple #[.agg #[.int .i64 0, .int .i64 0], .bool false]
theorem metaOf_bad {n N : Nat} {p : List UInt8} (h : Pg.sound n p = false) : Pr.metaOf n N p = none := by
  unfold Pr.metaOf; rw [h]; simp
theorem metaOf_short {n N : Nat} {p : List UInt8} (h : (Pg.payload p).length ≠ 32) : Pr.metaOf n N p = none := by
  unfold Pr.metaOf
  have : Pr.goodMeta N (Pg.payload p) = false := by
    unfold Pr.goodMeta
    rw [decide_eq_false (fun e => h (by rw [e, Pr.metaBytes_length]))]
    rfl
  rw [this]; simp
/-- a struct that is answered out of its cell, with another value -/
theorem ret_cell {P : Program} {fn : Func} {p u : Tmp} {ty : TypeId} (h : fn.results = #[.cell p ty, .tmp u]) (tmps : Array Value) {w : World} {g : Nat} {t : TypeId} {cs : Array Value} (hg : Has w g t cs) (d : TypeDesc)
    (hp : tmps.getD p undef = .pointer (some ⟨g, 0, none⟩)) (hu : P.underlying ty = some d) (hd : (match d with | .struct _ | .array _ _ => true | _ => false) = true) (hi : (P.info? ty).map (·.size) = some cs.size) :
    (results fn tmps).run P w = .ok (.tuple #[.agg cs, tmps.getD u undef]) w := by
  rw [results_cell_tmp h, hp]
  simp only [asAddr, Sem.run_pure, Result.andThen_ok]
  rw [run_loadVar_row w g t ty cs (0, 0) d hg hu hd hi]
  rfl
theorem und_meta : ∃ fs, Try.prog.underlying 76 = some (.struct fs) := ⟨_, rfl⟩
theorem siz_meta : (Try.prog.info? 76).map (·.size) = some 2 := by kernel_rfl
set_option maxHeartbeats 1600000 in
theorem meta_any (w : World) (Sd R : Nat → Prop) (b db : Nat) (d : Dk.St) (h : DiskAt w Sd R db d) (hdead : d.dead = false) (hp : w.cell? ⟨b, 0, none⟩ = some (.pointer (some ⟨db, 0, none⟩))) (n : Nat) (hn : n * 4 + 4 ≤ d.lasts.length) :
    Calls Try.prog 37 #[.pointer (some ⟨b, 0, none⟩), .int .i64 (n : Int)] w fun e w' => e = .returned (metaRes (Pr.metaOf n (d.lasts.length / 4) (d.page n))) ∧ Below w.heap.size w w' := by
  have hblt := block_lt_of_cell hp
  have hb0 : Below w.heap.size w (w.alloc (.cells #[.int .i64 0, .int .i64 0] 76)) := (Below.refl _ _).alloc (Nat.le_refl _) _
  have hg := pget_any (w.alloc (.cells #[.int .i64 0, .int .i64 0] 76)) Sd R b db d (h.keep (Fr.of_below hb0 noB) (fun _ e => e.elim)) hdead (by rw [World.cell?_alloc_lt _ _ _ hblt]; exact hp) n hn
  have hr : Has (w.alloc (.cells #[.int .i64 0, .int .i64 0] 76)) w.heap.size 76 #[.int .i64 0, .int .i64 0] := Has.of_alloc _ _ _
  have hsz : (w.alloc (.cells #[.int .i64 0, .int .i64 0] 76)).heap.size = w.heap.size + 1 := by simp
  have H := Lib.hid h
  have HP := Lib.hid hp
  have HG := Lib.hid hg
  have HR := Lib.hid hr
  have HB0 := Lib.hid hb0
  have HN := Lib.hid hn
  clear h hp hg hr hb0 hn
  generalize hw0 : (w.alloc (.cells #[.int .i64 0, .int .i64 0] 76)) = w0 at *
  have HW := Lib.hid hw0
  clear hw0
  go_enter Try.func37, Try.ntmps37
  go_wp2_with fail
  rw [HW.out]
  refine HG.out.mono ?_
  intro e w1 hd
  rcases hd with ⟨hs, g, rfl, h2, h3, h4⟩ | ⟨hs, rfl, h4⟩
  · have hfr : Fr noB w0 w1 := Fr.of_below h4 noB
    have hres := HR.out.keep hfr (fun e => e)
    have hB1 : Below w.heap.size w w1 := HB0.out.trans (h4.mono (by omega))
    have hgne : g ≠ w.heap.size := by omega
    have H2 := Lib.hid h2
    have HB1 := Lib.hid hB1
    have HRes := Lib.hid hres
    have c0 := hres.cell 0
    have c1 := hres.cell 1
    have z0 := hres.free 0
    have z1 := hres.free 1
    have HS := Lib.hid hs
    clear h2 h4 hfr hres hB1 hs
    generalize hpb : Pg.payload (d.page n) = pb at *
    have HPB := Lib.hid hpb
    clear hpb
    by_cases h32 : pb.length = 32
    · rw [h32]
      have hs1 := fun w => run_slice_bytes g 0 32 32 8 16 (by omega) (by omega) (by omega) (by omega) w
      have hs2 := fun w => run_slice_bytes g 0 32 32 16 24 (by omega) (by omega) (by omega) (by omega) w
      obtain ⟨f, hf⟩ : ∃ f : Nat → Int, ∀ o, f o = Pr.sint (Pr.num8 pb o) := ⟨_, fun _ => rfl⟩
      have hn1 : ∀ W (o c : Nat), o + 8 ≤ 32 → Has W g 5 (bytCells pb).toArray → Calls Try.prog 64 #[.slice (some ⟨g, o, none⟩) 8 c] W fun e w' => e = .returned (.int .i64 (f o)) ∧ W = w' := fun W o c ho hW => by
        have hl : ((pb.drop o).take 8).length = 8 := by rw [List.length_take, List.length_drop]; omega
        have := number_any W W.heap.size (some ⟨g, o, none⟩) ((pb.drop o).take 8) c hl (Rd.of_has hW (by rw [hl]; simp [bytCells, List.map_take, List.map_drop]) (by omega))
        rw [hf]
        exact this
      have HN1 := Lib.hid hn1
      have HFF := Lib.hid hf
      have H32 := Lib.hid h32
      clear hn1 hf h32
      go_upto_region 4 with fail
      go_cut [8] from 24 to 30 (fun s8 wx => s8 = .pointer (some ⟨w1.heap.size, 0, none⟩) ∧ wx = (w1.drew).alloc (.cells #[.int .i64 (f 8), .int .i64 (f 16)] 76))
      case first =>
        go_region_with (go_at_call 64; refine (HN1.out _ _ _ (by omega) (by first | exact (show Has w1.drew g 5 (bytCells pb).toArray from H2.out) | exact Has.alloc (show Has w1.drew g 5 (bytCells pb).toArray from H2.out) _)).mono ?_; rintro e w' ⟨rfl, rfl⟩)
        all_goals (go_wp2_with fail; go_meet; exact ⟨rfl, rfl⟩)
      case rest =>
        obtain ⟨rfl, rfl⟩ := hcut
        have hm2 : Has ((w1.drew).alloc (.cells #[.int .i64 (f 8), .int .i64 (f 16)] 76)) w1.heap.size 76 #[.int .i64 (f 8), .int .i64 (f 16)] := Has.of_alloc w1.drew _ _
        have hg2 : Has ((w1.drew).alloc (.cells #[.int .i64 (f 8), .int .i64 (f 16)] 76)) g 5 (bytCells pb).toArray := Has.alloc (show Has w1.drew g 5 (bytCells pb).toArray from H2.out) _
        have hr2 : Has ((w1.drew).alloc (.cells #[.int .i64 (f 8), .int .i64 (f 16)] 76)) w.heap.size 76 #[.int .i64 0, .int .i64 0] := Has.alloc (show Has w1.drew w.heap.size 76 #[.int .i64 0, .int .i64 0] from HRes.out) _
        have hb2 : Below w.heap.size w ((w1.drew).alloc (.cells #[.int .i64 (f 8), .int .i64 (f 16)] 76)) := (Below.drew HB1.out).alloc HB1.out.size _
        have hwm : w.heap.size < w1.heap.size := HRes.out.lt
        have hgm : g < w1.heap.size := H2.out.lt
        obtain ⟨W, hW⟩ : ∃ W, W = (w1.drew).alloc (.cells #[.int .i64 (f 8), .int .i64 (f 16)] 76) := ⟨_, rfl⟩
        rw [← hW] at hm2 hg2 hr2 hb2 ⊢
        generalize w1.heap.size = m at *
        clear hW c0 c1 z0 z1
        have hpay := payload_any W (Pr.num8 pb 8) (Pr.num8 pb 16)
        rw [← HFF.out, ← HFF.out] at hpay
        have m0 := hm2.cell 0
        have m1 := hm2.cell 1
        have HPAY := Lib.hid hpay
        have HM2 := Lib.hid hm2
        have HG2 := Lib.hid hg2
        have HR2 := Lib.hid hr2
        have HB2 := Lib.hid hb2
        clear hpay hm2 hg2 hr2 hb2
        go_wp2_with fail
        refine HPAY.out.mono ?_
        rintro e w3 ⟨v3, rfl, o3, b3⟩
        obtain ⟨A, c3, rfl, _, hrd3⟩ := o3.at_ 32 (Pr.metaBytes_length _ _)
        have hg3 := HG2.out.keep (Fr.of_below b3 noB) (fun e => e)
        have hr3 := HR2.out.keep (Fr.of_below b3 noB) (fun e => e)
        have hm3 := HM2.out.keep (Fr.of_below b3 noB) (fun e => e)
        have hb3 := HB2.out.trans (b3.mono HB2.out.size)
        have hgm3 : g < w3.heap.size := hg3.lt
        have heq := beq_any w3 (some ⟨g, 0, none⟩) A pb (Pr.metaBytes (Pr.num8 pb 8) (Pr.num8 pb 16)) 32 c3 (Rd.of_has hg3 (by rw [List.drop_zero, ← bytCells_len, List.take_length]) (by rw [H32.out]; omega)) (hrd3 (by rw [Pr.metaBytes_length]; omega))
        rw [H32.out, Pr.metaBytes_length] at heq
        have m0 := hm3.cell 0
        have m1 := hm3.cell 1
        have r0 := hr3.cell 0
        have r1 := hr3.cell 1
        have y0 := hr3.free 0
        have y1 := hr3.free 1
        have hpc : w3.cell? ⟨b, 0, none⟩ = some (.pointer (some ⟨db, 0, none⟩)) := (World.cell?_of_block (hb3.block b hblt)).trans HP.out
        have hD3 := H.out.keep (Fr.of_below hb3 noB) (fun _ e => e.elim)
        have hhas := phas_page w3 b db d.lasts.length H.out.ok.most (f 16) hpc (disk_cells hD3).1
        have hmeta : Pr.metaOf n (d.lasts.length / 4) (d.page n) = if Pr.goodMeta (d.lasts.length / 4) pb then some (Pr.num8 pb 8, Pr.num8 pb 16) else none := by
          unfold Pr.metaOf
          rw [HS.out, HPB.out]; simp
        have hlt8 := Pr.num8_lt pb 8
        have hlt16 := Pr.num8_lt pb 16
        have hNb : d.lasts.length / 4 ≤ 16384 := by have := H.out.ok.most; omega
        have h8 := HFF.out 8
        have h16 := HFF.out 16
        unfold Pr.goodMeta at hmeta
        have K8 := Lib.hid h8
        have K16 := Lib.hid h16
        clear h8 h16
        have HR3 := Lib.hid hr3
        have HM3 := Lib.hid hm3
        have HB3 := Lib.hid hb3
        have HEQ := Lib.hid heq
        have HHAS := Lib.hid hhas
        have HMETA := Lib.hid hmeta
        clear o3 b3 hrd3 hg3 hr3 hm3 hb3 heq hpc hD3 hhas hmeta HPAY HM2 HG2 HR2 HB2
        go_wp2_with fail
        refine HEQ.out.mono ?_
        rintro e w' ⟨rfl, rfl⟩
        have k8 := K8.out
        have k16 := K16.out
        have hmeta := HMETA.out
        generalize hev : decide (pb = Pr.metaBytes (Pr.num8 pb 8) (Pr.num8 pb 16)) = ev at *
        generalize Pr.num8 pb 8 = s at *
        generalize Pr.num8 pb 16 = r at *
        generalize f 8 = x at *
        generalize f 16 = y at *
        clear HMETA K8 K16 HEQ HFF HN1 hev
        unfold Pr.sint at k8 k16
        cases ev
        · have hnn : Pr.metaOf n (d.lasts.length / 4) (d.page n) = none := by rw [hmeta]; rfl
          have HNN := Lib.hid hnn
          clear hnn hmeta k8 k16
          go_wp2_with fail
          obtain ⟨fs, hfs⟩ := und_meta
          refine bodyPost_ret (ret_cell rfl _ ((HR3.out.set 0 _).set 1 _) (.struct fs) rfl hfs rfl siz_meta) rfl ?_
          rw [HNN.out]
          exact ⟨rfl, (HB3.out.setCell (Nat.le_refl _) _).setCell (Nat.le_refl _) _⟩
        · by_cases h1 : s ≤ 4611686018427387904
          · rw [if_pos (by omega)] at k8
            subst k8
            have hs1 : (s : Int) ≤ 4611686018427387904 := by omega
            have hs0 : (0 : Int) ≤ (s : Int) := by omega
            by_cases h2 : r = 0
            · subst h2
              rw [if_pos (by omega)] at k16
              have hy : y = 0 := k16
              subst hy
              have hnn : Pr.metaOf n (d.lasts.length / 4) (d.page n) = some (s, 0) := by rw [hmeta, decide_eq_true h1]; rfl
              have HNN := Lib.hid hnn
              clear hnn hmeta k16 h1
              go_wp2_with fail
              obtain ⟨fs, hfs⟩ := und_meta
              refine bodyPost_ret (ret_cell rfl _ ((HR3.out.set 0 _).set 1 _) (.struct fs) rfl hfs rfl siz_meta) rfl ?_
              rw [HNN.out]
              exact ⟨rfl, (HB3.out.setCell (Nat.le_refl _) _).setCell (Nat.le_refl _) _⟩
            · by_cases h3 : 2 ≤ r ∧ r < d.lasts.length / 4
              · rw [if_pos (by omega)] at k16
                subst k16
                have hd3 : decide (2 ≤ (r : Int) ∧ (r : Int) < ((d.lasts.length / 4 : Nat) : Int)) = true := decide_eq_true ⟨by omega, by omega⟩
                rw [hd3] at HHAS
                have hnn : Pr.metaOf n (d.lasts.length / 4) (d.page n) = some (s, r) := by rw [hmeta, decide_eq_true h1, decide_eq_true h3.1, decide_eq_true h3.2]; simp
                have hr0 : ((r : Int) == 0) = false := by rw [beq_eq_false_iff_ne]; omega
                have HNN := Lib.hid hnn
                clear hnn hmeta h1 h3 hd3 h2
                go_wp2_with fail
                refine HHAS.out.mono ?_
                rintro e w' ⟨rfl, rfl⟩
                go_wp2_with fail
                obtain ⟨fs, hfs⟩ := und_meta
                refine bodyPost_ret (ret_cell rfl _ ((HR3.out.set 0 _).set 1 _) (.struct fs) rfl hfs rfl siz_meta) rfl ?_
                rw [HNN.out]
                exact ⟨rfl, (HB3.out.setCell (Nat.le_refl _) _).setCell (Nat.le_refl _) _⟩
              · have hyb : y ≠ 0 ∧ ¬ (2 ≤ y ∧ y < ((d.lasts.length / 4 : Nat) : Int)) := by split at k16 <;> omega
                have hd3 : decide (2 ≤ y ∧ y < ((d.lasts.length / 4 : Nat) : Int)) = false := decide_eq_false hyb.2
                rw [hd3] at HHAS
                have hnn : Pr.metaOf n (d.lasts.length / 4) (d.page n) = none := by
                  rw [hmeta, decide_eq_true h1, decide_eq_false h2]
                  have : (decide (2 ≤ r) && decide (r < d.lasts.length / 4)) = false := by
                    rw [Bool.eq_false_iff]; intro hh; rw [Bool.and_eq_true_iff] at hh; exact h3 ⟨of_decide_eq_true hh.1, of_decide_eq_true hh.2⟩
                  rw [this]; rfl
                have hr0 : (y == 0) = false := by rw [beq_eq_false_iff_ne]; exact hyb.1
                have HNN := Lib.hid hnn
                clear hnn hmeta h1 h3 hd3 h2 k16 hyb
                go_wp2_with fail
                refine HHAS.out.mono ?_
                rintro e w' ⟨rfl, rfl⟩
                go_wp2_with fail
                obtain ⟨fs, hfs⟩ := und_meta
                refine bodyPost_ret (ret_cell rfl _ ((HR3.out.set 0 _).set 1 _) (.struct fs) rfl hfs rfl siz_meta) rfl ?_
                rw [HNN.out]
                exact ⟨rfl, (HB3.out.setCell (Nat.le_refl _) _).setCell (Nat.le_refl _) _⟩
          · have hnn : Pr.metaOf n (d.lasts.length / 4) (d.page n) = none := by rw [hmeta, decide_eq_false h1]; rfl
            have HNN := Lib.hid hnn
            clear hnn hmeta k16 HHAS
            by_cases hxx : 0 ≤ x
            · have hx1 : decide (x ≤ 4611686018427387904) = false := decide_eq_false (by split at k8 <;> omega)
              clear h1 k8
              go_wp2_with fail
              obtain ⟨fs, hfs⟩ := und_meta
              refine bodyPost_ret (ret_cell rfl _ ((HR3.out.set 0 _).set 1 _) (.struct fs) rfl hfs rfl siz_meta) rfl ?_
              rw [HNN.out]
              exact ⟨rfl, (HB3.out.setCell (Nat.le_refl _) _).setCell (Nat.le_refl _) _⟩
            · have hx1 : decide (0 ≤ x) = false := decide_eq_false hxx
              clear h1 k8 hxx
              go_wp2_with fail
              obtain ⟨fs, hfs⟩ := und_meta
              refine bodyPost_ret (ret_cell rfl _ ((HR3.out.set 0 _).set 1 _) (.struct fs) rfl hfs rfl siz_meta) rfl ?_
              rw [HNN.out]
              exact ⟨rfl, (HB3.out.setCell (Nat.le_refl _) _).setCell (Nat.le_refl _) _⟩
    · have hne : ((pb.length : Int) != 32) = true := by rw [bne_iff_ne]; omega
      have hnn : Pr.metaOf n (d.lasts.length / 4) (d.page n) = none := metaOf_short (by rw [HPB.out]; exact h32)
      have HNN := Lib.hid hnn
      clear hnn h32
      go_wp2_with fail
      obtain ⟨fs, hfs⟩ := und_meta
      refine bodyPost_ret (ret_cell rfl _ ((HRes.out.set 0 _).set 1 _) (.struct fs) rfl hfs rfl siz_meta) rfl ?_
      rw [HNN.out]
      exact ⟨rfl, (HB1.out.setCell (Nat.le_refl _) _).setCell (Nat.le_refl _) _⟩
  · have hfr : Fr noB w0 w1 := Fr.of_below h4 noB
    have hres := HR.out.keep hfr (fun e => e)
    have hB1 : Below w.heap.size w w1 := HB0.out.trans (h4.mono (by omega))
    have HB1 := Lib.hid hB1
    have HRes := Lib.hid hres
    have c0 := hres.cell 0
    have c1 := hres.cell 1
    have z0 := hres.free 0
    have z1 := hres.free 1
    have HS := Lib.hid (metaOf_bad (n := n) (N := d.lasts.length / 4) hs)
    clear h4 hfr hres hB1 hs
    go_wp2_with fail
    obtain ⟨fs, hfs⟩ := und_meta
    refine bodyPost_ret (ret_cell rfl _ ((HRes.out.set 0 _).set 1 _) (.struct fs) rfl hfs rfl siz_meta) rfl ?_
    rw [HS.out]
    exact ⟨rfl, (HB1.out.setCell (Nat.le_refl _) _).setCell (Nat.le_refl _) _⟩
end Go.Proofs.Ythlmjnlakenmoaa

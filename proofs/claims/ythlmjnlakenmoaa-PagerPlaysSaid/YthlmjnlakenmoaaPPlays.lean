/-
  PagerPlays, at every input: pages are taken, written, dropped, committed, and found again as the document says. Nothing is assumed of the input beyond the form's own reach (each slice takes at most 2^47 - 4096 bytes).
-/
import Derived.Test.YthlmjnlakenmoaaPDo
import Derived.IntWalk
import Derived.Test.YthlmjnlakenmoaaArgs
import Derived.Deep.Slices
import Derived.Deep.Fields
import Derived.Lib.SmallJoins
import Derived.SizedLaws
import Derived.Carry
import Derived.OpenShut
import Derived.ChangeArms
import Derived.ProofKit
namespace Go.Proofs.Ythlmjnlakenmoaa
open Go.RowKit Go.Maps
set_option maxRecDepth 100000

theorem do_any (W w : World) (b db x g N k : Nat) (h : Both W w b db x g N k) (hk : k ≤ 1000) (kind n : Int) (t : List UInt8) (ht : t.length ≤ 2000) (A : Option Addr) (l : List Int) (c : Nat) (hl : Ints W A l) (hl1 : l.length ≤ 100) :
    Calls Try.prog 16 #[.agg (stepCells kind n t A l c), .pointer (some ⟨db, 0, none⟩), .pointer (some ⟨b, 0, none⟩), .pointer (some ⟨x, 0, none⟩)] w (DoPost W db x g N k) := by
  by_cases h0 : kind = 0
  · subst h0; exact do_alloc W w b db x g N k h n t A l c
  by_cases h1 : kind = 1
  · subst h1; exact do_write W w b db x g N k h hk n t ht A l c
  by_cases h2 : kind = 2
  · subst h2; exact do_drop W w b db x g N k h n t A l c
  by_cases h4 : kind = 4
  · subst h4; exact do_abort W w b db x g N k h n t A l c
  by_cases h5 : kind = 5
  · subst h5; exact do_read W w b db x g N k h n t A l c
  by_cases h6 : kind = 6
  · subst h6; exact do_use W w b db x g N k h n t A l c hl hl1
  by_cases h7 : kind = 7
  · subst h7; exact do_open W w b db x g N k h hk n t A l c
  exact do_format W w b db x g N k h hk kind n h0 h1 h2 h4 h5 h6 h7 t A l c
theorem Lies.wvform' {w : World} {S R : Nat → Prop} {b L cap : Nat} {wv : Value} {M : Nat} {kv : Value} {d : Dk.St} (h : Lies w S R b L cap wv M kv d) : ∃ A c, wv = .slice A d.waits.length c := by
  rcases h.waits.2 with ⟨rfl, h0⟩ | ⟨V, cap, cur, rfl, _⟩
  · exact ⟨_, _, by rw [h0]⟩
  · exact ⟨_, _, rfl⟩
theorem Mid.waits {W w : World} {E : Nat → Prop} {b db x g : Nat} {p pr : Pr.Pt} {q : Pr.Dr} {d : Dk.St} (h : Mid W w E b db x g p pr q d) :
    Calls Try.prog 15 #[.pointer (some ⟨db, 0, none⟩)] w fun e w' => e = .returned (.int .i64 (d.waits.length : Int)) ∧ w = w' := by
  obtain ⟨S, Sd, U, T, B, D, low, L, M, h, _⟩ := h
  obtain ⟨L', cap, wv, M', kv, h0⟩ := h.sys.over.disk
  obtain ⟨Aw, cw, hwf⟩ := h0.wvform'
  have c1 := h0.cells.c1
  rw [hwf] at c1
  exact waits_any w db Aw _ cw c1
theorem PRel.committed_ {d : Dk.St} {q : Pr.Dr} {N k : Nat} (h : PRel d q N k) (p : Pr.Pt) (i : Int) (hN : p.l.length = N) (hs : p.seq ≤ k + 1) : (PRel (Pr.cDk p d i) (Pr.cDr p q i) N (k + 1) ∧ (Pr.cTo p i).l.length = N ∧ (Pr.cTo p i).seq ≤ k + 1 + 1) ∧ (Pr.cErr p i = 0 → (Pr.cDk p d i).waits = []) := by
  unfold Pr.cDk Pr.cDr Pr.cTo
  by_cases he : Pr.cErr p i = 0
  · rw [if_pos he, if_pos he, if_pos he]
    have hb : ¬ (i ≠ 0 ∧ ¬ Pr.inP p i) := fun e => by unfold Pr.cErr at he; rw [if_pos e] at he; cases he
    have hr : i.toNat = 0 ∨ 2 ≤ i.toNat ∧ i.toNat < N := by
      by_cases h0 : i = 0
      · left; omega
      · have hin : Pr.inP p i := Classical.byContradiction fun e => hb ⟨h0, e⟩
        have h1 := hin.1
        have h2 := hin.2
        right; omega
    obtain ⟨h1, h2⟩ := h.commit (s := p.seq + 1) (r := i.toNat) (by omega) hr
    exact ⟨⟨h1, by show (p.l.map Pr.com).length = N; rw [List.length_map]; exact hN, by show p.seq + 1 ≤ _; omega⟩, fun _ => h2⟩
  · rw [if_neg he, if_neg he, if_neg he]
    exact ⟨⟨h.more, hN, by omega⟩, fun e => absurd e he⟩
/-- a step that comes in -/
structure Stp where
  kind : Int
  n : Int
  data : List UInt8
  A : Option Addr
  l : List Int
  c : Nat
def StepsAt (w : World) (A : Option Addr) (l : List Stp) : Prop := l.length ≤ 140737488355328 ∧ (0 < l.length → ∃ g o, A = some ⟨g, o, none⟩ ∧ g < w.heap.size ∧ ∀ j s, l[j]? = some s →
  w.cell? ⟨g, o + j * 4, none⟩ = some (.int .i64 s.kind) ∧ w.cell? ⟨g, o + j * 4 + 1, none⟩ = some (.int .i64 s.n) ∧ w.cell? ⟨g, o + j * 4 + 2, none⟩ = some (bstr s.data) ∧ w.cell? ⟨g, o + j * 4 + 3, none⟩ = some (.slice s.A s.l.length s.c) ∧ Ints w s.A s.l)
theorem StepsAt.below {W w : World} {A : Option Addr} {l : List Stp} (h : StepsAt W A l) (hb : Below W.heap.size W w) {k : Nat} (hk : k < l.length) : ∃ g o, A = some ⟨g, o, none⟩ ∧ w.cell? ⟨g, o + k * 4, none⟩ = some (.int .i64 l[k].kind) ∧ w.cell? ⟨g, o + k * 4 + 1, none⟩ = some (.int .i64 l[k].n) ∧ w.cell? ⟨g, o + k * 4 + 2, none⟩ = some (bstr l[k].data) ∧ w.cell? ⟨g, o + k * 4 + 3, none⟩ = some (.slice l[k].A l[k].l.length l[k].c) ∧ Ints W l[k].A l[k].l := by
  obtain ⟨g, o, e, hg, hc⟩ := h.2 (by omega)
  obtain ⟨c0, c1, c2, c3, c4⟩ := hc k _ (List.getElem?_eq_getElem hk)
  have hb' := fun x => World.cell?_of_block (a := ⟨g, x, none⟩) (hb.block g hg)
  exact ⟨g, o, e, (hb' _).trans c0, (hb' _).trans c1, (hb' _).trans c2, (hb' _).trans c3, c4⟩
theorem secs_of (n : Int) : ∃ m : Nat, 1 ≤ m ∧ m ≤ 90 ∧ wrap64 (1 + wrap64 ((IntKind.u64.wrap n).tmod 90)) = (m : Int) := by
  have h0 : 0 ≤ IntKind.u64.wrap n := by rw [IntKind.wrap_u64]; exact Int.emod_nonneg _ (by omega)
  have h1 : 0 ≤ (IntKind.u64.wrap n).tmod 90 := Int.tmod_nonneg _ h0
  have h2 : (IntKind.u64.wrap n).tmod 90 < 90 := Int.tmod_lt_of_pos _ (by omega)
  generalize (IntKind.u64.wrap n).tmod 90 = r at *
  refine ⟨(1 + r).toNat, by omega, by omega, ?_⟩
  rw [IntWalk.wrap64_in r ⟨by omega, by omega⟩, IntWalk.wrap64_in _ ⟨by omega, by omega⟩]
  omega
theorem Both.told {W w : World} {b db x g N k : Nat} (h : Both W w b db x g N k) :
    Calls Try.prog 17 #[.pointer (some ⟨b, 0, none⟩), .pointer (some ⟨x, 0, none⟩)] w fun e w' => e = .returned (.bool true) ∧ Below w.heap.size w w' := by
  obtain ⟨S, Sd, U, T, B, D, low, L, M, p, q, d, h, r, hN, _⟩ := h
  exact told_any w W b db x g S Sd U T B D low L M p q d N k h r hN
theorem siz_step : (Try.prog.info? 41).map (·.size) = some 4 := by kernel_rfl
theorem step_one (kind n : Int) (t : List UInt8) (A : Option Addr) (l : List Int) (c : Nat) : ∀ v ∈ [Value.int .i64 kind, .int .i64 n, .string { data := t.toArray }, .slice A l.length c], v.oneCell' = true := by
  intro v hv
  simp only [List.mem_cons, List.not_mem_nil, or_false] at hv
  rcases hv with rfl | rfl | rfl | rfl <;> rfl
/-- a commit of both -/
theorem both_commit {W w : World} {b db x g N k : Nat} (h : Both W w b db x g N k) (hk : k ≤ 1000) (n : Int) (E : Nat → Prop) (hE : ∀ k, E k → w.heap.size ≤ k) {w1 : World} (hb : Below w.heap.size w w1) (hl : ∀ k, E k → k < w1.heap.size) :
    ∃ er : Int, Calls Try.prog 13 #[.pointer (some ⟨b, 0, none⟩), .int .i64 n] w1.drew fun e w2 => e = .returned (.int .i64 er) ∧ (∀ k, E k → w2.heap[k]? = w1.heap[k]?) ∧
      Calls Try.prog 14 #[.pointer (some ⟨x, 0, none⟩), .int .i64 n] w2 fun e w3 => e = .returned (.int .i64 er) ∧ (∀ k, E k → w3.heap[k]? = w2.heap[k]?) ∧ Both W w3 b db x g N (k + 1) ∧
        (er = 0 → Calls Try.prog 15 #[.pointer (some ⟨db, 0, none⟩)] w3 fun e w4 => e = .returned (.int .i64 0) ∧ w3 = w4) := by
  obtain ⟨p, q, d, hm, rel, hN, hs⟩ := h.mid
  obtain ⟨⟨r1, r2, r3⟩, hw⟩ := rel.committed_ p n hN hs
  refine ⟨Pr.cErr p n, (pcommit_full W _ E b db x g p p q d (hm.wide hE hb hl).drew rel.live (rel.few.more (by omega)) (by omega) n).mono ?_⟩
  rintro e w2 ⟨rfl, hm2⟩
  refine ⟨rfl, hm2.2, (rcommit_full W w2 E b db x g _ p q _ hm2.1 (by omega) n).mono ?_⟩
  rintro e w3 ⟨rfl, hm3⟩
  refine ⟨rfl, hm3.2, Both.of hm3.1 r1 r2 r3, fun he => ?_⟩
  have := hm3.1.waits
  rw [hw he] at this
  exact this
set_option maxHeartbeats 6400000 in
theorem plays (W : World) (n0 : Int) (A : Option Addr) (l : List Stp) (c : Nat) (hl : StepsAt W A l) :
    Calls Try.prog 3 #[.int .i64 n0, .slice A l.length c] W fun e w' => e = .returned (.bool true) ∧ Below W.heap.size W w' := by
  obtain ⟨m, hm1, hm90, em⟩ := secs_of n0
  have HNEW := Lib.hid (new_any W m hm1 (by omega))
  have HL := Lib.hid hl
  have hlb := hl.1
  clear hl
  by_cases h12 : m < 12
  · have h12' : (m : Int) < 12 := by omega
    have hml := made_len m
    have HOP := Lib.hid (fun w Sd db (h : DiskAt w Sd noB db (Dk.made m)) => open_short w db (Dk.made m).lasts.length (by rw [hml]; omega) (by have := (disk_cells h).2; exact this) (disk_cells h).1)
    have HFM := Lib.hid (fun w Sd db (h : DiskAt w Sd noB db (Dk.made m)) => format_short w db (Dk.made m).lasts.length (by rw [hml]; omega) (by have := (disk_cells h).2; exact this) (disk_cells h).1)
    clear hml
    go_enter Try.func3, Try.ntmps3
    go_wp2_with fail
    refine HNEW.out.mono ?_
    rintro e w1 ⟨db, Sd, rfl, hd, hb, hs⟩
    have HD := Lib.hid hd
    have HB := Lib.hid hb
    clear hd hb hs HNEW
    unfold ptr
    go_wp2_with fail
    refine (HOP.out w1 Sd db HD.out).mono ?_
    rintro e w2 ⟨rfl, hb2⟩
    have HD2 := Lib.hid (HD.out.keep (Fr.of_below hb2 noB) (fun _ e => e.elim))
    have HB2 := Lib.hid (HB.out.trans (hb2.mono HB.out.size))
    clear hb2 HD HB HOP
    go_wp2_with fail
    refine (HFM.out w2 Sd db HD2.out).mono ?_
    rintro e w3 ⟨rfl, hb3⟩
    have HB3 := Lib.hid (HB2.out.trans (hb3.mono HB2.out.size))
    clear hb3 HD2 HB2 HFM
    go_wp2_with fail
    refine (awake_any w3).mono ?_
    rintro e w4 ⟨rfl, hb4⟩
    have HB4 := Lib.hid (HB3.out.trans (hb4.mono HB3.out.size))
    clear hb4 HB3
    go_wp2_with fail
    go_ret
    exact ⟨rfl, HB4.out⟩
  · have h12' : ¬ ((m : Int) < 12) := by omega
    have hml := made_len m
    have hlive := live_made (n := m) (by omega) (by omega)
    have HOP := Lib.hid (fun w Sd db (h : DiskAt w Sd noB db (Dk.made m)) => open_none w Sd noB db (Dk.made m) h rfl (by rw [hml]; omega) (made_meta (by omega)))
    have hfm := fun w Sd db (h : DiskAt w Sd noB db (Dk.made m)) => format_ok w Sd noB db (Dk.made m) h rfl ((few_made m).more (by omega)) (by rw [hml]; omega)
    unfold FmtPost at hfm
    rw [(live_format hlive (by rw [hml]; omega)).1.dead, hml] at hfm
    have HFM := Lib.hid hfm
    have HREL := Lib.hid (PRel.first (n := m) (by omega) hm90)
    have hdiv : ((m : Int)).tdiv 4 = ((m / 4 : Nat) : Int) := by rw [Int.tdiv_eq_ediv_of_nonneg (by omega)]; omega
    obtain ⟨N, hNdef⟩ : ∃ N, N = m / 4 := ⟨_, rfl⟩
    have hN3 : 3 ≤ N := by omega
    have hN16 : N ≤ 16384 := by omega
    rw [← hNdef] at hdiv HFM HREL
    have HN := Lib.hid (show 3 ≤ N ∧ N ≤ 16384 from ⟨hN3, hN16⟩)
    have hdlen : ∀ d : Dk.St, True := fun _ => trivial
    clear hml hlive hfm hNdef hdlen
    go_enter Try.func3, Try.ntmps3
    go_wp2_with fail
    refine HNEW.out.mono ?_
    rintro e w1 ⟨db, Sd, rfl, hd, hb, hs⟩
    have Y1 := Lib.hid (Sys.made (Below.refl _ _) hd hb hs)
    clear hd hb hs HNEW
    unfold ptr
    go_wp2_with fail
    refine (HOP.out w1 Sd db Y1.out.disk).mono ?_
    rintro e w2 ⟨rfl, hb2⟩
    have Y2 := Lib.hid (Y1.out.next hb2)
    clear hb2 Y1 HOP
    go_wp2_with fail
    refine (HFM.out w2 Sd db Y2.out.disk).mono ?_
    rintro e w3 (⟨hdd, _⟩ | ⟨_, b, S', rfl, hp, hf3, hs3⟩)
    · cases hdd
    obtain ⟨Sd3, U, T, B, D, low, y3⟩ := Y2.out.pager hp hf3 hs3
    have Y3 := Lib.hid y3
    clear hp hf3 hs3 y3 Y2 HFM
    have HRN := Lib.hid (rnew_any w3 N)
    go_wp2_with fail
    refine HRN.out.mono ?_
    rintro e w4 ⟨g, M, rfl, hdk4, hb4, hg4, hM4⟩
    have HRF := Lib.hid (rformat_ok w4 g M N _ hdk4 HN.out.1 HN.out.2)
    have HGM := Lib.hid (show w3.heap.size ≤ g ∧ w3.heap.size ≤ M from ⟨hg4, hM4⟩)
    have HB4 := Lib.hid hb4
    clear hdk4 hb4 hg4 hM4 HRN hdiv
    go_wp2_with fail
    refine HRF.out.mono ?_
    rintro e w5 ⟨x, L, rfl, hr5, hf5, hx5, hL5⟩
    have hf45 : Fr (oneB g) w3 w5 := (Fr.of_below HB4.out (oneB g)).trans hf5 (fun _ _ e => e)
    have hS5 : ∀ k, w3.heap.size ≤ k → W.heap.size ≤ k ∧ ¬ S' k := fun k hk => ⟨by have := Y3.out.size; omega, fun e => by have := Y3.out.over.lt k e; omega⟩
    have hg5 := hS5 g HGM.out.1
    have hy5 : PSys W w5 S' Sd3 noB b db U T B D low ⟨List.replicate N 0, 1, 0⟩ (Dk.made m).format := ⟨Y3.out.over.keep hf45 (fun k hk => by have hk : k = g := hk; rw [hk]; exact ⟨hg5.2, fun e => e⟩), Y3.out.news, Y3.out.newr, Y3.out.below.trans (hf45.below Y3.out.size fun k hk => by have hk : k = g := hk; rw [hk]; exact hg5.1)⟩
    have hx5' : w3.heap.size ≤ x := Nat.le_trans HB4.out.size hx5
    have hL5' : w3.heap.size ≤ L := Nat.le_trans HB4.out.size hL5
    have hat5 : BothAt W w5 b db x g S' Sd3 U T B D low L M ⟨List.replicate N 0, 1, 0⟩ ⟨List.replicate N 0, 1, 0⟩ ⟨fun _ => none, 1, 0, 0, 0⟩ (Dk.made m).format := ⟨hy5, hr5, fun k hk => by
      rcases hk with rfl | rfl | rfl | rfl
      · exact hS5 _ hx5'
      · exact hg5
      · exact hS5 _ hL5'
      · exact hS5 _ HGM.out.2⟩
    have HBO := Lib.hid (show Both W w5 b db x g N 0 from ⟨_, _, _, _, _, _, _, _, _, _, _, _, hat5, HREL.out, List.length_replicate, Nat.le_refl _⟩)
    clear hr5 hf5 hx5 hL5 hf45 hS5 hg5 hy5 hx5' hL5' hat5 HRF HGM HB4 Y3 HREL HN hN3 hN16
    go_wp2_with fail
    generalize wrap64 (1 + wrap64 ((IntKind.u64.wrap n0).tmod 90)) = zz at *
    clear em
    go_loopw [7, 11] (fun pv iv wr => ∃ k b' : Nat, k ≤ l.length ∧ k ≤ 80 ∧ iv = .int .i64 k ∧ pv = .pointer (some ⟨b', 0, none⟩) ∧ Hid (Both W wr b' db x g N k)) (fun _ iv _ => l.length - (intOf iv).toNat)
    case atStart => exact ⟨0, b, by omega, by omega, rfl, rfl, HBO⟩
    case round =>
      rename World => wr
      obtain ⟨k, b', hk, hk80, rfl, rfl, HB⟩ := hrel
      by_cases hlt : k < l.length
      · have hlt' : (k : Int) < (l.length : Int) := by omega
        by_cases hlt80 : k < 80
        · have hlt80' : (k : Int) < 80 := by omega
          obtain ⟨g0, o0, rfl, t0, t1, t2, t3, hi⟩ := HL.out.below HB.out.below hlt
          have HI := Lib.hid hi
          clear hi
          generalize l[k] = st at *
          obtain ⟨kd, n, t, A', li, c'⟩ := st
          dsimp only at t0 t1 t2 t3 HI
          unfold bstr at t2
          by_cases hdt : 2000 < t.length
          · have hdt' : (2000 : Int) < (t.length : Int) := by omega
            go_wp2_with fail
            refine (awake_any wr).mono ?_
            rintro e w9 ⟨rfl, hb9⟩
            have HB9 := Lib.hid (HB.out.below.trans (hb9.mono HB.out.below.size))
            clear hb9
            go_wp2_with fail
            go_ret
            exact ⟨rfl, HB9.out⟩
          · have hdt' : ¬ ((2000 : Int) < (t.length : Int)) := by omega
            by_cases hll : 100 < li.length
            · have hll' : (100 : Int) < (li.length : Int) := by omega
              go_wp2_with fail
              refine (awake_any wr).mono ?_
              rintro e w9 ⟨rfl, hb9⟩
              have HB9 := Lib.hid (HB.out.below.trans (hb9.mono HB.out.below.size))
              clear hb9
              go_wp2_with fail
              go_ret
              exact ⟨rfl, HB9.out⟩
            · have hll' : ¬ ((100 : Int) < (li.length : Int)) := by omega
              have hbx := boxed_has wr kd n t A' li c'
              have hbb := boxed_below wr kd n t A' li c'
              have x0 : (boxed wr kd n t A' li c').cell? ⟨wr.heap.size, 0, none⟩ = some (.int .i64 kd) := hbx.cell 0
              have x1 : (boxed wr kd n t A' li c').cell? ⟨wr.heap.size, 1, none⟩ = some (.int .i64 n) := hbx.cell 1
              have x2 : (boxed wr kd n t A' li c').cell? ⟨wr.heap.size, 2, none⟩ = some (.string { data := t.toArray }) := hbx.cell 2
              have x3 : (boxed wr kd n t A' li c').cell? ⟨wr.heap.size, 3, none⟩ = some (.slice A' li.length c') := hbx.cell 3
              have HBX := Lib.hid hbx
              by_cases hkd : kd = 3
              · subst hkd
                obtain ⟨er, hc⟩ := both_commit HB.out (by omega) n (oneB wr.heap.size) (fun k e => Nat.le_of_eq (Eq.symm e)) hbb (fun k e => by have e : k = wr.heap.size := e; rw [e]; exact hbx.lt)
                have HC := Lib.hid hc
                clear hbx hbb hc x0 x2 x3 hdt hll hlb
                unfold boxed stepCells bstr at *
                go_wp2_with (refine arm_fill rfl 41 (.tmp 12) (.tmp 102) rfl wr [.int .i64 3, .int .i64 n, .string { data := t.toArray }, .slice A' li.length c'] rfl rfl 41 #[.int .i64 0, .int .i64 0, .string { data := #[] }, .slice none 0 0] rfl siz_step rfl (step_one 3 n t A' li c') ?_)
                generalize hwb : wr.alloc (.cells #[.int .i64 3, .int .i64 n, .string { data := t.toArray }, .slice A' li.length c'] 41) = wb at *
                clear hwb t0 t1 t2 t3
                go_region_held3 (fun w' => w'.cell? ⟨wr.heap.size, 1, none⟩ = some (.int .i64 n)) (first | assumption | exact x1) (first
                  | (go_at_call 13; refine HC.out.mono ?_; rintro e w6 ⟨rfl, hk6, hc6⟩; have hx6 : Has w6 wr.heap.size _ _ := (hk6 _ rfl).trans HBX.out; have z6 : w6.cell? ⟨wr.heap.size, 1, none⟩ = some (.int .i64 n) := hx6.cell 1; have HX6 := Lib.hid hx6; have HC6 := Lib.hid hc6; clear hk6 hc6 hx6)
                  | (go_at_call 14; refine HC6.out.mono ?_; rintro e w7 ⟨rfl, hk7, hb7, hw7⟩; have hx7 : Has w7 wr.heap.size _ _ := (hk7 _ rfl).trans HX6.out; have z7 : w7.cell? ⟨wr.heap.size, 1, none⟩ = some (.int .i64 n) := hx7.cell 1; have HB7 := Lib.hid hb7; have HW7 := Lib.hid hw7; clear hk7 hb7 hw7 hx7))
                have HTL := Lib.hid HB7.out.told
                by_cases he : er = 0
                · subst he
                  have HWW := Lib.hid (HW7.out rfl)
                  clear HC HC6 HW7 HX6 HBX
                  go_wp2_with fail
                  refine HWW.out.mono ?_
                  rintro e w8 ⟨rfl, rfl⟩
                  go_wp2_with fail
                  refine HTL.out.mono ?_
                  rintro e w9 ⟨rfl, hb9⟩
                  have HB9 := Lib.hid (HB7.out.next hb9)
                  clear hb9
                  go_wp2_with fail
                  go_roundw
                  case rel => exact ⟨k + 1, b', by omega, by omega, rfl, rfl, HB9⟩
                  case measure => simp [intOf]; omega
                · clear HC HC6 HW7 HX6 HBX
                  go_wp2_with fail
                  refine HTL.out.mono ?_
                  rintro e w9 ⟨rfl, hb9⟩
                  have HB9 := Lib.hid (HB7.out.next hb9)
                  clear hb9
                  go_wp2_with fail
                  go_roundw
                  case rel => exact ⟨k + 1, b', by omega, by omega, rfl, rfl, HB9⟩
                  case measure => simp [intOf]; omega
              · have hdo := do_any W (boxed wr kd n t A' li c') b' db x g N k (HB.out.next hbb) (by omega) kd n t (by omega) A' li c' HI.out (by omega)
                have HDO := Lib.hid hdo
                clear hbx hbb hdo hdt hll hlb HBX
                unfold boxed stepCells bstr at *
                go_wp2_with (refine arm_fill rfl 41 (.tmp 12) (.tmp 102) rfl wr [.int .i64 kd, .int .i64 n, .string { data := t.toArray }, .slice A' li.length c'] rfl rfl 41 #[.int .i64 0, .int .i64 0, .string { data := #[] }, .slice none 0 0] rfl siz_step rfl (step_one kd n t A' li c') ?_)
                refine HDO.out.mono ?_
                rintro e w6 ⟨b6, rfl, hb6⟩
                have HB7 := Lib.hid hb6
                have HTL := Lib.hid HB7.out.told
                clear hb6 HDO t0 t1 t2 t3 x0 x1 x2 x3
                go_wp2_with fail
                refine HTL.out.mono ?_
                rintro e w9 ⟨rfl, hb9⟩
                have HB9 := Lib.hid (HB7.out.next hb9)
                clear hb9
                go_wp2_with fail
                go_roundw
                case rel => exact ⟨k + 1, b6, by omega, by omega, rfl, rfl, HB9⟩
                case measure => simp [intOf]; omega
        · have hlt80' : ¬ ((k : Int) < 80) := by omega
          go_wp2_with fail
          refine (awake_any wr).mono ?_
          rintro e w9 ⟨rfl, hb9⟩
          have HB9 := Lib.hid (HB.out.below.trans (hb9.mono HB.out.below.size))
          clear hb9
          go_wp2_with fail
          go_ret
          exact ⟨rfl, HB9.out⟩
      · have hlt' : ¬ ((k : Int) < (l.length : Int)) := by omega
        go_wp2_with fail
        refine (awake_any wr).mono ?_
        rintro e w9 ⟨rfl, hb9⟩
        have HB9 := Lib.hid (HB.out.below.trans (hb9.mono HB.out.below.size))
        clear hb9
        go_wp2_with fail
        go_ret
        exact ⟨rfl, HB9.out⟩
end Go.Proofs.Ythlmjnlakenmoaa
/-
  PagerPlays, at every input: pages are taken, written, dropped, committed, and found again as the document says. Nothing is assumed of the input beyond the form's own reach (each slice takes at most 2^47 - 4096 bytes).
-/
namespace Go.Proofs.Ythlmjnlakenmoaa
open Go.RowKit Go.Maps Go.ChangeShapes Go.WideShapes Go.Deep Go.Joins
set_option maxRecDepth 100000

theorem und_step4 : ∃ f0 f1 f2 f3, Try.prog.underlying 41 = some (.struct #[f0, f1, f2, f3]) ∧ (f0.type = 3 ∧ f1.type = 3 ∧ f2.type = 9 ∧ f3.type = 39) ∧
    f0.offset = 0 ∧ f1.offset = 1 ∧ f2.offset = 2 ∧ f3.offset = 3 := ⟨_, _, _, _, rfl, ⟨rfl, rfl, rfl, rfl⟩, rfl, rfl, rfl, rfl⟩
theorem und_steps4 : Try.prog.underlying 22 = some (.slice 41) := by kernel_rfl
theorem cells_step4 : Try.prog.cellsOf 41 = 4 := by kernel_rfl
theorem cells_int' : Try.prog.cellsOf 3 = 1 := by kernel_rfl
theorem cells_ints' : Try.prog.cellsOf 39 = 1 := by kernel_rfl
theorem cells_str' : Try.prog.cellsOf 9 = 1 := by kernel_rfl
section
variable {H : Type} {enc : TypeId × Value → H} {W : World}
theorem ints_at {fuel : Nat} {v : Value} {y : DataW H × List MemPlace} (h : DataW.trod enc Try.prog W 0 (fun _ => true) true fuel 39 [v] = some y) (hw : ∀ k ∈ y.1.weights Try.prog 39, k ≤ reachBytes) :
    ∃ A l c, v = .slice A l.length c ∧ Ints W A l := by
  have hrb := reachBytes_lt
  rcases open_ints und_ints und_int cells_int' h with ⟨hc, _⟩ | ⟨a, len', cap', zs, hc, _, hl, hm, hz, hx, hcell, hwf⟩
  · simp at hc
    subst hc
    exact ⟨none, [], 0, rfl, by simp, fun h => by simp at h⟩
  · simp at hc
    subst hc
    simp only [if_true] at hz
    have hlen : cap' * 8 ≤ reachBytes := by
      have := hw ((zs.take len').length * 8 + (zs.drop len').length * 8) (by
        rw [hx, DataW.weights, und_ints]
        simp only [show Try.prog.bytesOf 3 = 8 by kernel_rfl]
        refine List.mem_cons.2 (.inl ?_)
        simp [lits, Nat.add_mul])
      rw [List.length_take, List.length_drop] at this
      omega
    have hml : (zs.take len').length = len' := by simp; omega
    refine ⟨some a, zs.take len', cap', by rw [hml], ⟨by rw [hml]; omega, fun h0 => ?_⟩⟩
    rw [hml] at h0
    have h00 := hcell 0 (by omega)
    rw [show a.add 0 = a by simp [Addr.add]] at h00
    have ha := plain_of_cell h00
    have hlt := block_lt_of_cell h00
    obtain ⟨g, o, sp⟩ := a
    simp only [Addr.mk.injEq, true_and] at ha
    subst ha
    refine ⟨g, o, rfl, hlt, fun j u hj => ?_⟩
    obtain ⟨hlt', he⟩ := List.getElem?_eq_some_iff.1 hj
    rw [List.length_take] at hlt'
    rw [List.getElem_take] at he
    have hcj := hcell j (by omega)
    rw [Addr.add_mid] at hcj
    rw [hcj, List.getD_eq_getElem?_getD, List.getElem?_eq_getElem (by omega), Option.getD_some, he]
theorem stp_open {n : Nat} {a : Addr} {cs : List Value} {x : DataW H × List MemPlace} (h1 : W.cells? 0 a (Try.prog.cellsOf 41) = some cs) (h2 : DataW.trod enc Try.prog W 0 (fun _ => true) true n 41 cs = some x) (hw : ∀ k ∈ x.1.weights Try.prog 41, k ≤ reachBytes) :
    ∃ s : Stp, Ints W s.A s.l ∧
      ∀ j u, [Value.int .i64 s.kind, .int .i64 s.n, bstr s.data, .slice s.A s.l.length s.c][j]? = some u → W.cell? (a.add j) = some u := by
  rw [cells_step4] at h1
  obtain ⟨_, hlen, hc⟩ := World.cells?_some h1
  obtain ⟨f0, f1, f2, f3, hu, ⟨t0, t1, t2, t3⟩, o0, o1, o2, o3⟩ := und_step4
  obtain ⟨xs, k, _, hx, _, hxl, hf⟩ := DataW.trod_struct hu h2
  have g0 := hf 0 f0 rfl
  have g1 := hf 1 f1 rfl
  have g2 := hf 2 f2 rfl
  have g3 := hf 3 f3 rfl
  rw [t0, o0, cells_int'] at g0
  rw [t1, o1, cells_int'] at g1
  rw [t2, o2, cells_str'] at g2
  rw [t3, o3, cells_ints'] at g3
  match xs, hxl, cs, hlen with
  | [y0, y1, y2, y3], _, [v0, v1, v2, v3], _ =>
    obtain ⟨n0, e0, _, w0⟩ := DataW.trod_int und_int (x := y0) (by simpa using g0)
    obtain ⟨n1, e1, _, w1⟩ := DataW.trod_int und_int (x := y1) (by simpa using g1)
    obtain ⟨s2, e2, _, _⟩ := DataW.trod_string und_string (x := y2) (by simpa using g2)
    have hwe : ∀ (j : Nat) (t : TypeId) (d' : DataW H), (#[f0, f1, f2, f3].toList.map (·.type))[j]? = some t → (([y0, y1, y2, y3] : List (DataW H × List MemPlace)).map (·.1))[j]? = some d' → ∀ q ∈ d'.weights Try.prog t, q ≤ reachBytes := fun j t d' ht hd q hq => hw q (by
      rw [hx]
      show q ∈ DataW.weights Try.prog 41 (.agg _)
      rw [DataW.weights, hu]
      exact DataW.weights_mem_each ht hd q hq)
    obtain ⟨A3, l3, c3, e3, r3⟩ := ints_at (y := y3) (by simpa using g3) (hwe 3 _ y3.1 (by simp [t3]) rfl)
    have c0 := hc 0 (by omega)
    have c1 := hc 1 (by omega)
    have c2' := hc 2 (by omega)
    have c3' := hc 3 (by omega)
    simp at c0 c1 c2' c3' e0 e1 e2
    subst e0 e1 e2 e3
    refine ⟨⟨n0, n1, s2.data.toList, A3, l3, c3⟩, r3, fun j u hj => ?_⟩
    match j, hj with
    | 0, hj => simp at hj; subst hj; simpa using c0
    | 1, hj => simp at hj; subst hj; exact c1
    | 2, hj => simp at hj; subst hj; rw [c2']; simp [bstr]
    | 3, hj => simp at hj; subst hj; exact c3'
theorem weights_all' {t : TypeId} {l : List (DataW H)} {i : Nat} {d : DataW H} (hd : l[i]? = some d) (k : Nat) (hk : k ∈ d.weights Try.prog t) : k ∈ DataW.weightsAll Try.prog t l := by
  induction l generalizing i with
  | nil => simp at hd
  | cons y l ih =>
    rw [DataW.weightsAll, List.mem_append]
    cases i with
    | zero => simp at hd; subst hd; exact .inl hk
    | succ i => exact .inr (ih (by simpa using hd))
instance : Inhabited Stp := ⟨⟨0, 0, [], none, [], 0⟩⟩
theorem steps_open {b0 : Nat} {v : Value} {d : DataW H} {p : List MemPlace} (hv : Value.okWide Try.prog W .any b0 22 v) (h : DataW.Trod enc Try.prog W 0 (fun _ => true) true 22 v d p)
    (hw : ∀ k ∈ d.weights Try.prog 22, k ≤ reachBytes) : ∃ A l c, v = .slice A l.length c ∧ StepsAt W A l := by
  have hrb := reachBytes_lt
  obtain ⟨A, len, cap, rfl⟩ := okWide_slice und_steps4 hv
  obtain ⟨fuel, hf⟩ := h
  rcases open_slice und_steps4 hf with ⟨hc, _⟩ | ⟨a, len', cap', m, n, D, Pl, hc, _, hl, hm, hmm, hx, hi⟩
  · simp [Value.cells] at hc
    obtain ⟨rfl, rfl, rfl⟩ := hc
    exact ⟨none, [], 0, rfl, by simp, fun h => by simp at h⟩
  · simp [Value.cells] at hc
    obtain ⟨rfl, rfl, rfl⟩ := hc
    simp only [Prod.mk.injEq] at hx
    simp only [if_true] at hmm
    subst hmm
    have hd : d = .slice ((List.range len).map D) ((List.range (m - len)).map fun j => D (len + j)) := hx.1
    have hlen : len ≤ 140737488355328 := by
      have := hw _ (by rw [hd, DataW.weights, und_steps4]; exact List.mem_cons_self)
      rw [List.length_map, List.length_range, List.length_map, List.length_range, show Try.prog.bytesOf 41 = 56 by kernel_rfl] at this
      omega
    obtain ⟨X, hX⟩ := choose_lt (α := Stp) (n := len) (p := fun i s => Ints W s.A s.l ∧
      ∀ j u, [Value.int .i64 s.kind, .int .i64 s.n, bstr s.data, .slice s.A s.l.length s.c][j]? = some u → W.cell? ((a.add (i * 4)).add j) = some u) (fun i hil => by
        obtain ⟨cs', h1, h2⟩ := hi i (by omega)
        have h1' := h1
        rw [cells_step4] at h1'
        refine stp_open (a := a.add (i * 4)) (cs := cs') (x := (D i, Pl i)) (by rw [cells_step4]; exact h1') h2 (fun k hk => hw k ?_)
        rw [hd, DataW.weights, und_steps4]
        refine List.mem_cons.2 (.inr (List.mem_append.2 (.inl (weights_all' (i := i) (d := D i) ?_ k hk))))
        rw [List.getElem?_map, List.getElem?_range hil]
        rfl)
    refine ⟨some a, (List.range len).map X, m, by simp, by simpa using hlen, fun h0 => ?_⟩
    obtain ⟨_, hc0⟩ := hX 0 (by simp at h0; omega)
    have h00 := hc0 0 _ rfl
    rw [Nat.zero_mul, show (a.add 0).add 0 = a by simp [Addr.add]] at h00
    have ha := plain_of_cell h00
    have hlt := block_lt_of_cell h00
    obtain ⟨g, o, sp⟩ := a
    simp only [Addr.mk.injEq, true_and] at ha
    subst ha
    refine ⟨g, o, rfl, hlt, fun j x hj => ?_⟩
    rw [List.getElem?_map, Option.map_eq_some_iff] at hj
    obtain ⟨j', hj', rfl⟩ := hj
    obtain ⟨hlt', he⟩ := List.getElem?_eq_some_iff.1 hj'
    rw [List.getElem_range] at he
    subst he
    obtain ⟨hr, hcs⟩ := hX j (by simp at hlt'; omega)
    have q := fun i u hu => hcs i u hu
    have q0 := q 0 _ rfl
    have q1 := q 1 _ rfl
    have q2 := q 2 _ rfl
    have q3 := q 3 _ rfl
    rw [Addr.add_mid, Addr.add_mid] at q0 q1 q2 q3
    exact ⟨q0, q1, q2, q3, hr⟩
end
end Go.Proofs.Ythlmjnlakenmoaa

namespace Go.Proofs.Ythlmjnlakenmoaa.pplays
open Go.ChangeShapes Go.WideShapes Go.ChangeAt Go.RowKit
set_option maxRecDepth 100000

theorem own : ownKnob Try.prog.godebug = none := by kernel_rfl
theorem laidOut : laidOutB Try.prog = true := by kernel_rfl

set_option maxRecDepth 100000 in
theorem lifted (os : Os) (started : os.Started) (H : Type) (enc : TypeId × Value → H) :
    ReturnsInHanded {} Try.checked os 3 .any (Rows.pagerPlaysSpec.pre6 enc Try.prog Try.f3 Rows.pagerPlaysRow.domain false) (Rows.pagerPlaysSpec.post enc Try.prog Try.f3 false true false false) := by
  refine returnsInHanded_of_change_sized (C := Try.checked) own started (by kernel_rfl) Try.func3
    (ChangeSpec.witness6 (enc := enc) (C := Try.checked) false ⟨#[], #[.int .i64 0, .slice none 0 0], []⟩ 8 (by kernel_rfl) (by kernel_rfl) (by kernel_rfl) (by kernel_rfl)) ?_
  intro W base args ds gs before hval0 hW _ hsz _
  have hval : ∀ (j : Nat) t v, Try.f3.params[j]? = some t → args[j]? = some v → Value.okWide Try.prog W .any base t v := hval0
  have hW' := hW
  have hltW := hW.lt
  obtain ⟨p, q, hA0, hV, rfl, hfz, hnd⟩ := hW
  have hA : DataW.TrodAll enc Try.prog W 0 (fun _ => true) true Try.f3.params.toList args.toList ds p := hA0
  rw [Try.params3] at hA hval
  obtain ⟨v0, vs0, d0, ds0, p0, q0, hargs0, rfl, rfl, h0, r0⟩ := trodAll_cons hA
  obtain ⟨v1, vs1, d1, ds1, p1, q1, hargs1, rfl, rfl, h1, r1⟩ := trodAll_cons r0
  obtain ⟨rfl, rfl, rfl⟩ := trodAll_nil r1
  obtain rfl : args = #[v0, v1] := by cases args; simp_all
  obtain ⟨rfl, rfl⟩ := trodVars_none hV
  obtain ⟨n, rfl, rfl, rfl, w0⟩ := open_int Try.underlying3 (hval 0 3 v0 rfl rfl) h0
  obtain ⟨A, l, c, rfl, hm⟩ := steps_open (hval 1 22 v1 rfl rfl) h1 (fun k hk => by
    have this := List.all_eq_true.1 hsz _ (DataW.weights_mem_each (j := 1) (t := 22) rfl rfl _ hk)
    exact of_decide_eq_true this)
  clear hA0 hval0
  refine (plays W n A l c hm).mono fun e W' ⟨he, hnx⟩ => ?_
  subst he
  refine ⟨_, rfl, _, _, _, [], [] ++ (p1 ++ []), [], hW', ?_, ?_, rfl, hnx.frame _, fun h => by cases h⟩
  · exact trodAll_cons_mk (shut_bool Try.underlying4 _) trodAll_mk0
  · exact trodAll_cons_mk (shut_int Try.underlying3 w0) (trodAll_cons_mk (Below.trod laidOut (by kernel_rfl) (of_decide_eq_true (by kernel_rfl)) h1 hnx (fun x hx => hltW x (by simp [hx]))) trodAll_mk0)

theorem proved : Rows.PagerPlaysSaid :=
  OpenClaim.holds_of_wide 3 Try.f3 rfl rfl rfl rfl rfl rfl rfl ⟨rfl, rfl, rfl, rfl, rfl⟩ rfl rfl rfl rfl rfl (by kernel_rfl) Try.func3 (by kernel_rfl)
    (of_decide_eq_true (by kernel_rfl)) (by unfold Func.isWrapper; first | (rw [if_pos (by decide +kernel)]; kernel_rfl) | (rw [if_neg (by decide +kernel)]; exact ⟨rfl, rfl⟩))
    (fun os started H enc _ => lifted os started H enc)
end Go.Proofs.Ythlmjnlakenmoaa.pplays

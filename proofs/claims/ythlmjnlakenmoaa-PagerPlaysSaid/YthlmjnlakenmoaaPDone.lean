/-
  Commit of a pager that is not refused.
-/
import Derived.Test.YthlmjnlakenmoaaPCommit
import Derived.Test.YthlmjnlakenmoaaSet
namespace Go.Proofs.Ythlmjnlakenmoaa
open Go.RowKit Go.Maps
set_option maxRecDepth 100000

namespace Pr
/-- a page behind a commit -/
def com (s : Nat) : Nat := if s == 2 || s == 3 then 1 else if s == 4 then 0 else s
def committed (p : Pt) (r : Nat) : Pt := ⟨p.l.map com, p.seq + 1, r⟩
theorem stp_map (q : Nat → Bool) (g : Nat → Nat) (l : List Nat) (j : Nat) : stp q (l.map g) j = stp (fun s => q (g s)) l j := by
  unfold stp
  rw [List.getElem?_map]
  cases l[j]? <;> rfl
theorem stp_congr {q q' : Nat → Bool} {l : List Nat} (h : ∀ s ∈ l, q s = q' s) (j : Nat) : stp q l j = stp q' l j := by
  unfold stp
  cases hj : l[j]? with
  | none => rfl
  | some s => exact h s (List.mem_of_getElem? hj)
theorem stp_and (q q' : Nat → Bool) (l : List Nat) (j : Nat) : (stp q l j && stp q' l j) = stp (fun s => q s && q' s) l j := by
  unfold stp
  cases l[j]? <;> rfl
theorem stp_or (q q' : Nat → Bool) (l : List Nat) (j : Nat) : (stp q l j || stp q' l j) = stp (fun s => q s || q' s) l j := by
  unfold stp
  cases l[j]? <;> rfl
theorem com_used {l : List Nat} (hs : ∀ s ∈ l, s ≤ 4) (j : Nat) : (stp isU l j && !stp isD l j || stp isT l j) = stp isU (l.map com) j := by
  rw [stp_map]
  unfold stp
  cases hj : l[j]? with
  | none => rfl
  | some s =>
    have := hs s (List.mem_of_getElem? hj)
    have : s = 0 ∨ s = 1 ∨ s = 2 ∨ s = 3 ∨ s = 4 := by omega
    rcases this with rfl | rfl | rfl | rfl | rfl <;> rfl
theorem com_none {l : List Nat} (hs : ∀ s ∈ l, s ≤ 4) (q : Nat → Bool) (h0 : q 0 = false) (h1 : q 1 = false) (j : Nat) : stp q (l.map com) j = false := by
  rw [stp_map]
  unfold stp
  cases hj : l[j]? with
  | none => rfl
  | some s =>
    have := hs s (List.mem_of_getElem? hj)
    have : s = 0 ∨ s = 1 ∨ s = 2 ∨ s = 3 ∨ s = 4 := by omega
    rcases this with rfl | rfl | rfl | rfl | rfl <;> assumption
theorem committed_ok {p : Pt} (h : p.Ok) {r : Nat} (hq : p.seq + 1 ≤ 4611686018427387904) (hr : r = 0 ∨ 2 ≤ r ∧ r < p.l.length) : (committed p r).Ok :=
  ⟨by simp only [committed, List.length_map]; exact h.some_, by simp only [committed, List.length_map]; exact h.most, fun i hi => by simp only [committed, List.getElem?_map, h.two i hi]; rfl, fun s hs => by
    simp only [committed, List.mem_map] at hs
    obtain ⟨x, hx, rfl⟩ := hs
    have := h.small x hx
    unfold com
    split
    · omega
    · split <;> omega, hq, by simp only [committed, List.length_map]; exact hr⟩
end Pr

/-- the first loop of a commit: what was dropped is not used any more -/
structure Drp (w : World) (b db U T B D r N : Nat) (l : List Nat) (seq root low : Nat) (g : Nat → Bool) (c : Nat) (wr : World) : Prop where
  box : Has wr b 83 #[.pointer (some ⟨db, 0, none⟩), .int .i64 (seq : Int), .int .i64 (root : Int), .map (some U), .map (some T), .map (some B), .map (some D), .int .i64 (low : Int)]
  go : SetGo wr D r N (Pr.stp Pr.isD l) g c
  used : SetAt wr U N (fun j => Pr.stp Pr.isU l j && !(Pr.stp Pr.isD l j && !g j))
  fr : Fr (fun k => k = b ∨ k = U ∨ k = r) w wr
  low2 : 2 ≤ low
  lowN : low ≤ N
  sub : ∀ j, g j = true → Pr.stp Pr.isD l j = true
  free : ∀ i, 2 ≤ i → i < low → Pr.stp Pr.isF l i = false ∧ (Pr.stp Pr.isD l i = true → g i = true)
/-- one more is gone through -/
theorem Drp.next {w wr w1 w2 : World} {b db U T B D r N : Nat} {l : List Nat} {seq root low : Nat} {g : Nat → Bool} {c c' : Nat} (h : Drp w b db U T B D r N l seq root low g c wr) (hne : b ≠ U ∧ b ≠ D ∧ U ≠ D ∧ b ≠ r ∧ U ≠ r ∧ D ≠ r) (i : Nat) (hi2 : 2 ≤ i) (hiN : i < N) (hg : g i = true)
    (h1 : SetGo w1 D r N (Pr.stp Pr.isD l) (fun j => g j && j != i) c') (f1 : Fr (oneB r) wr w1) (h2 : SetAt w2 U N (fun j => j != i && (Pr.stp Pr.isU l j && !(Pr.stp Pr.isD l j && !g j)))) (f2 : Fr (oneB U) w1 w2) :
    Drp w b db U T B D r N l seq root (min low i) (fun j => g j && j != i) c' (w2.setCell ⟨b, 7, none⟩ (.int .i64 ((min low i : Nat) : Int))) := by
  obtain ⟨n1, n2, n3, n4, n5, n6⟩ := hne
  have fb : Fr (oneB b) w2 (w2.setCell ⟨b, 7, none⟩ (.int .i64 ((min low i : Nat) : Int))) := (Fr.refl _ _).put _
  have hbx := ((h.box.keep f1 (fun e => n4 e)).keep f2 (fun e => n1 e)).set 7 (.int .i64 ((min low i : Nat) : Int))
  refine ⟨hbx, (h1.keep f2 (fun e => n3 (Eq.symm e)) (fun e => n5 (Eq.symm e))).keep fb (fun e => n2 (Eq.symm e)) (fun e => n4 (Eq.symm e)), (h2.keep fb (fun e => n1 (Eq.symm e))).congr fun j => ?_, ?_, by have := h.low2; omega, by have := h.lowN; omega, fun j hj => ?_, fun j hj2 hj => ?_⟩
  · have hDi := h.sub i hg
    by_cases hji : j = i
    · subst hji
      rw [hDi]; simp
    · have hb : (j != i) = true := bne_iff_ne.2 hji
      rw [hb]; simp
  · refine h.fr.trans ((f1.wide (T := fun k => k = b ∨ k = U ∨ k = r) (fun _ _ e => .inr (.inr e))).trans ((f2.wide (T := fun k => k = b ∨ k = U ∨ k = r) (fun _ _ e => .inr (.inl e))).trans (fb.wide (fun _ _ e => .inl e)) (fun _ _ e => e)) (fun _ _ e => e)) (fun _ _ e => e)
  · exact h.sub j (Bool.and_eq_true_iff.1 hj).1
  · obtain ⟨e1, e2⟩ := h.free j hj2 (by omega)
    refine ⟨e1, fun hd => ?_⟩
    rw [e2 hd]
    have : j ≠ i := by omega
    simp [this]
/-- the second loop: what was taken is used -/
structure Tkn (w : World) (U T r N : Nat) (l : List Nat) (u g : Nat → Bool) (c : Nat) (wr : World) : Prop where
  go : SetGo wr T r N (Pr.stp Pr.isT l) g c
  used : SetAt wr U N (fun j => u j || (Pr.stp Pr.isT l j && !g j))
  fr : Fr (fun k => k = U ∨ k = r) w wr
theorem Tkn.next {w wr w1 w2 : World} {U T r N : Nat} {l : List Nat} {u g : Nat → Bool} {c c' : Nat} (h : Tkn w U T r N l u g c wr) (hne : U ≠ T ∧ U ≠ r ∧ T ≠ r) (i : Nat) (hi : Pr.stp Pr.isT l i = true) (hg : g i = true)
    (h1 : SetGo w1 T r N (Pr.stp Pr.isT l) (fun j => g j && j != i) c') (f1 : Fr (oneB r) wr w1) (h2 : SetAt w2 U N (fun j => j == i || (u j || (Pr.stp Pr.isT l j && !g j)))) (f2 : Fr (oneB U) w1 w2) : Tkn w U T r N l u (fun j => g j && j != i) c' w2 := by
  refine ⟨h1.keep f2 (fun e => hne.1 (Eq.symm e)) (fun e => hne.2.1 (Eq.symm e)), h2.congr fun j => ?_, h.fr.trans ((f1.wide (T := fun k => k = U ∨ k = r) (fun _ _ e => .inr e)).trans (f2.wide (fun _ _ e => .inl e)) (fun _ _ e => e)) (fun _ _ e => e)⟩
  by_cases hji : j = i
  · subst hji
    rw [hi]; simp
  · have hb : (j != i) = true := bne_iff_ne.2 hji
    have hb2 : (j == i) = false := beq_eq_false_iff_ne.2 hji
    rw [hb, hb2]; simp
set_option maxHeartbeats 4000000 in
theorem pcommit_ok (w : World) (S Sd R : Nat → Prop) (b db U T B D low : Nat) (p : Pr.Pt) (d : Dk.St) (h : Over w S Sd R b db U T B D low p d) (hdead : d.dead = false) (few : d.Few 800000) (hseq : p.seq + 1 ≤ 4611686018427387904) (n : Nat) (hn : n = 0 ∨ 2 ≤ n ∧ n < p.l.length ∧ Pr.stp Pr.isOk p.l n = true) :
    Calls Try.prog 13 #[.pointer (some ⟨b, 0, none⟩), .int .i64 (n : Int)] w fun e w' =>
      ((d.keep (p.seq + 1) n).dead = true ∧ e = .returned (.int .i64 20) ∧ PGoes w S R b db U T B D low p (d.keep (p.seq + 1) n) w') ∨
      ((d.keep (p.seq + 1) n).dead = false ∧ e = .returned (.int .i64 0) ∧ ∃ T' B' D' low', PGoes w S R b db U T' B' D' low' (Pr.committed p n) (d.keep (p.seq + 1) n) w') := by
  have HR := Lib.hid (h.refuse hdead)
  have hmost := h.lies.ok.most
  have hnN : n ≤ 16384 := by rcases hn with e | e <;> omega
  have H := Lib.hid h
  have HF := Lib.hid few
  have HN := Lib.hid hn
  clear h few hn
  go_enter Try.func13, Try.ntmps13
  go_wp2_with fail
  refine HR.out.mono ?_
  rintro e w' ⟨rfl, rfl⟩
  go_upto_if 16 with fail
  go_cut [] from 16 to 39 (fun wx => Below w.heap.size w wx)
  case first =>
    rcases HN.out with hn0 | ⟨hn2, hnl, hok⟩
    · have hne : ((n : Int) != 0) = false := by subst hn0; rfl
      go_wp2_with fail
      go_meet
      exact Below.refl _ _
    · have hne : ((n : Int) != 0) = true := by rw [bne_iff_ne]; omega
      have HH := Lib.hid (H.out.has n true (decide_eq_true (by omega)))
      have h3 := (ok_three H.out.lies.ok.small hnl).2 hok
      have hif := isfree_any w b db U T B D low p H.out.lies n hnl
      rw [h3.1] at hif
      have HF := Lib.hid hif
      have H3 := Lib.hid h3
      clear hif h3 hok
      go_wp2_with fail
      refine HH.out.mono ?_
      rintro e w' ⟨rfl, rfl⟩
      go_wp2_with fail
      refine HF.out.mono ?_
      rintro e w1 ⟨rfl, hb1⟩
      have h1 := H.out.below hb1
      have c6 := h1.lies.cells.c6
      have hdr := phas_any w1 D _ _ h1.lies.dropped n (by omega)
      rw [H3.out.2.1] at hdr
      have HDR := Lib.hid hdr
      have HB1 := Lib.hid hb1
      clear hb1 h1 hdr
      go_wp2_with fail
      refine HDR.out.mono ?_
      rintro e w2 ⟨rfl, hb2⟩
      have hB2 := HB1.out.trans (hb2.mono HB1.out.size)
      have h2 := H.out.below hB2
      have c5 := h2.lies.cells.c5
      have hbl := phas_any w2 B _ _ h2.lies.blank n (by omega)
      rw [H3.out.2.2] at hbl
      have HBL := Lib.hid hbl
      have HB2 := Lib.hid hB2
      clear hb2 hB2 h2 hbl c6
      go_wp2_with fail
      refine HBL.out.mono ?_
      rintro e w3 ⟨rfl, hb3⟩
      have HB3 := Lib.hid (HB2.out.trans (hb3.mono HB2.out.size))
      clear hb3
      go_wp2_with fail
      go_meet
      exact HB3.out
  case rest =>
    have HB1 := Lib.hid hcut
    have hov := H.out.below hcut
    have hb2 : Below w.heap.size w (wc.alloc (.cells #[.int .i64 ((p.seq + 1 : Nat) : Int), .int .i64 (n : Int)] 76)) := hcut.alloc hcut.size _
    have hov2 := H.out.below hb2
    have hm2 : Has (wc.alloc (.cells #[.int .i64 ((p.seq + 1 : Nat) : Int), .int .i64 (n : Int)] 76)) wc.heap.size 76 #[.int .i64 ((p.seq + 1 : Nat) : Int), .int .i64 (n : Int)] := Has.of_alloc _ _ _
    have hkp := pkeep_any _ Sd R b db d hov2.disk hdead (hov2.apart b (.inl rfl)).1 hov2.lies.cells.c0 HF.out (by have := hov2.len; have := hov2.lies.ok.some_; omega) (p.seq + 1) n (by omega) (by omega)
    have c1 : wc.cell? ⟨b, 1, none⟩ = some (.int .i64 (p.seq : Int)) := hov.lies.cells.c1
    have hadd : IntKind.i64.wrap ((p.seq : Int) + 1) = ((p.seq + 1 : Nat) : Int) := by rw [IntKind.wrap_i64]; omega
    have hq : ((p.seq + 1 : Nat) : Int) = (p.seq : Int) + 1 := by omega
    have HKP := Lib.hid hkp
    have HM2 := Lib.hid hm2
    have HOV2 := Lib.hid hov2
    have HB2 := Lib.hid hb2
    clear hcut hov hb2 hov2 hm2 hkp
    rw [hq] at HKP HM2 HOV2 HB2
    clear hadd hq
    have hseq' : (p.seq : Int) + 1 ≤ 4611686018427387904 := by omega
    go_wp2_with fail
    refine HKP.out.mono ?_
    rintro e w3 ⟨rfl, hg⟩
    obtain ⟨S3, Sd3, h3, hf3, hs3⟩ := HOV2.out.goes (keep_len d (p.seq + 1) n) hg
    have hf3' : Fr S w w3 := (Fr.of_below HB2.out S).trans hf3 (fun _ _ e => e)
    have hs3' : ∀ k, S3 k → S k ∨ w.heap.size ≤ k := fun k hk => (hs3 k hk).imp id (fun e => Nat.le_trans HB2.out.size e)
    have hmS : ¬ Sd wc.heap.size := fun e => by have := H.out.disk.lt _ e; have := HB1.out.size; omega
    have hm3 : Has w3 wc.heap.size 76 #[.int .i64 ((p.seq : Int) + 1), .int .i64 (n : Int)] := by
      obtain ⟨_, _, f, _⟩ := hg
      exact HM2.out.keep f hmS
    have hmw : w.heap.size ≤ wc.heap.size := HB1.out.size
    have HO3 := Lib.hid h3
    have HF3 := Lib.hid hf3'
    have HS3 := Lib.hid hs3'
    have HM3 := Lib.hid hm3
    clear hg h3 hf3 hs3 hf3' hs3' hm3 HKP HM2 HOV2
    cases hdd : (d.keep (p.seq + 1) n).dead
    · have HDD := Lib.hid hdd
      clear hdd
      have m0 : w3.cell? ⟨wc.heap.size, 0, none⟩ = some (.int .i64 ((p.seq : Int) + 1)) := HM3.out.cell 0
      have m1 : w3.cell? ⟨wc.heap.size, 1, none⟩ = some (.int .i64 (n : Int)) := HM3.out.cell 1
      have p1 : w3.cell? ⟨b, 1, none⟩ = some (.int .i64 (p.seq : Int)) := HO3.out.lies.cells.c1
      have p2 : w3.cell? ⟨b, 2, none⟩ = some (.int .i64 (p.root : Int)) := HO3.out.lies.cells.c2
      have z1 := HO3.out.lies.box.free 1
      have z2 := HO3.out.lies.box.free 2
      have fb : Fr (oneB b) w3 ((w3.setCell ⟨b, 1, none⟩ (.int .i64 ((p.seq : Int) + 1))).setCell ⟨b, 2, none⟩ (.int .i64 (n : Int))) := ((Fr.refl _ _).put _).put _
      have hbx := (HO3.out.lies.box.set 1 (.int .i64 ((p.seq : Int) + 1))).set 2 (.int .i64 (n : Int))
      have hbne := HO3.out.lies.bne
      have hmne := HO3.out.lies.ne
      have hset := fun M f (hM : b ≠ M) (h : SetAt w3 M p.l.length f) => h.keep fb (fun e => hM (Eq.symm e))
      have hU := hset _ _ hbne.1 HO3.out.lies.used
      have hT := hset _ _ hbne.2.1 HO3.out.lies.taken
      have hD := hset _ _ hbne.2.2.2 HO3.out.lies.dropped
      have c6 : ((w3.setCell ⟨b, 1, none⟩ (.int .i64 ((p.seq : Int) + 1))).setCell ⟨b, 2, none⟩ (.int .i64 (n : Int))).cell? ⟨b, 6, none⟩ = some (.map (some D)) := hbx.cell 6
      have HFB := Lib.hid fb
      have HBX := Lib.hid hbx
      have HU := Lib.hid hU
      have HT := Lib.hid hT
      have HD := Lib.hid hD
      clear fb hbx hset hU hT hD hbne hmne
      simp only [show ecode false = 0 from rfl]
      go_wp2_with (first | (at_range; refine wpList_range_set _ rfl _ rfl D p.l.length (Pr.stp Pr.isD p.l) rfl HD.out ?_; intro w4 hgo4 hf4) | go_in)
      go_frame
      simp only [World.size_setCell]
      have hsz3 : ((w3.setCell ⟨b, 1, none⟩ (.int .i64 ((p.seq : Int) + 1))).setCell ⟨b, 2, none⟩ (.int .i64 (n : Int))).heap.size = w3.heap.size := by simp
      rw [hsz3] at hgo4
      obtain ⟨n1, n2, n3, n4⟩ := HO3.out.lies.bne
      obtain ⟨q1, q2, q3⟩ := HO3.out.lies.ne
      have hblt := HO3.out.lies.lt b (.inl rfl)
      have hUlt := HO3.out.lies.lt U (.inr (.inl rfl))
      have hTlt := HO3.out.lies.lt T (.inr (.inr (.inl rfl)))
      have hDlt := HO3.out.lies.lt D (.inr (.inr (.inr (.inr rfl))))
      have hN4 : b ≠ U ∧ b ≠ D ∧ U ≠ D ∧ b ≠ w3.heap.size ∧ U ≠ w3.heap.size ∧ D ≠ w3.heap.size := ⟨n1, n4, q1.2.2, by omega, by omega, by omega⟩
      have hrel0 : Drp w4 b db U T B D w3.heap.size p.l.length p.l (p.seq + 1) n low (Pr.stp Pr.isD p.l) (w4.rangeLeft D w3.heap.size) w4 := by
        refine ⟨HBX.out.keep hf4.out (fun e => e), hgo4.out, (HU.out.keep hf4.out (fun e => e)).congr fun j => ?_, Fr.refl _ _, HO3.out.lies.low2, HO3.out.lies.lowN, fun j hj => hj, fun i hi2 hi => ⟨?_, fun hd => hd⟩⟩
        · cases Pr.stp Pr.isD p.l j <;> simp
        · have := HO3.out.lies.nofree i hi2 hi
          rw [Bool.eq_false_iff]
          exact fun e => this (stpF.1 e)
      have hT4 := HT.out.keep hf4.out (fun e => e)
      have hF4 : Fr (fun k => k = b ∨ w3.heap.size ≤ k) w3 w4 := ⟨hf4.out.os.trans HFB.out.os, hf4.out.tape.trans HFB.out.tape, hf4.out.out.trans HFB.out.out, Nat.le_trans HFB.out.size hf4.out.size, fun k hk hn => (hf4.out.old k (Nat.lt_of_lt_of_le hk HFB.out.size) (fun e => e)).trans (HFB.out.old k hk (fun e => hn (.inl e)))⟩
      have HR0 := Lib.hid hrel0
      have HT4 := Lib.hid hT4
      have HF4 := Lib.hid hF4
      have HN4 := Lib.hid hN4
      clear hrel0 hT4 hF4 hN4 hgo4 hf4 HU HT HD HBX HFB hsz3 c1 c6 m0 m1 p1 p2 z1 z2 n1 n2 n3 n4 q1 q2 q3
      go_loopw [] (fun wr => ∃ low' g c, Drp w4 b db U T B D w3.heap.size p.l.length p.l (p.seq + 1) n low' g c wr) (fun wr => wr.rangeLeft D w3.heap.size)
      case atStart => exact ⟨_, _, _, HR0.out⟩
      case round =>
        rename World => wo
        obtain ⟨low', g, c, hrel⟩ := hrel
        have HD := Lib.hid hrel
        clear hrel
        go_wp2_with (at_next; refine wpList_next_set _ rfl _ rfl D w3.heap.size p.l.length c (Pr.stp Pr.isD p.l) g rfl HD.out.go ?_ ?_)
        · intro hz
          have hT4 := HT4.out.keep HD.out.fr (fun e => by
            obtain ⟨_, q2, _⟩ := HO3.out.lies.ne
            have := HO3.out.lies.ne.1.1
            rcases e with e | e | e
            · exact HO3.out.lies.bne.2.1 (Eq.symm e)
            · exact this (Eq.symm e)
            · omega)
          have c4 : wo.cell? ⟨b, 4, none⟩ = some (.map (some T)) := HD.out.box.cell 4
          have HT5 := Lib.hid hT4
          clear hT4
          go_wp2_with (first | (at_range; refine wpList_range_set _ rfl _ rfl T p.l.length (Pr.stp Pr.isT p.l) rfl HT5.out ?_; intro w5 hgo5 hf5) | go_in)
          go_frame
          have hrw : w3.heap.size ≤ wo.heap.size := Nat.le_trans HF4.out.size HD.out.fr.size
          have hN5 : U ≠ T ∧ U ≠ wo.heap.size ∧ T ≠ wo.heap.size := ⟨HO3.out.lies.ne.1.1, by omega, by omega⟩
          have hrel0 : Tkn w5 U T wo.heap.size p.l.length p.l (fun j => Pr.stp Pr.isU p.l j && !Pr.stp Pr.isD p.l j) (Pr.stp Pr.isT p.l) (w5.rangeLeft T wo.heap.size) w5 :=
            ⟨hgo5.out, (HD.out.used.keep hf5.out (fun e => e)).congr fun j => by rw [hz j]; simp, Fr.refl _ _⟩
          have hbx5 := HD.out.box.keep hf5.out (fun e => e)
          have HR5 := Lib.hid hrel0
          have HBX5 := Lib.hid hbx5
          have HF5 := Lib.hid hf5.out
          have HN5 := Lib.hid hN5
          have HZ := Lib.hid hz
          clear hrel0 hbx5 hgo5 hf5 hN5 hz c4 HT5
          go_loopw [] (fun wq => ∃ g c, Tkn w5 U T wo.heap.size p.l.length p.l (fun j => Pr.stp Pr.isU p.l j && !Pr.stp Pr.isD p.l j) g c wq) (fun wq => wq.rangeLeft T wo.heap.size)
          case atStart => exact ⟨_, _, HR5.out⟩
          case round =>
            rename World => wq
            obtain ⟨g2, c2, hrel⟩ := hrel
            have HD2 := Lib.hid hrel
            clear hrel
            go_wp2_with (at_next; refine wpList_next_set _ rfl _ rfl T wo.heap.size p.l.length c2 (Pr.stp Pr.isT p.l) g2 rfl HD2.out.go ?_ ?_)
            · intro hz2
              have hbq := HBX5.out.keep HD2.out.fr (fun e => by
                rcases e with e | e
                · exact HO3.out.lies.bne.1 e
                · have := HO3.out.lies.lt b (.inl rfl); omega)
              have hbg := begin_any wq b _ _ _ _ _ _ _ _ p.l.length hbq
              have HBG := Lib.hid hbg
              have HBQ := Lib.hid hbq
              clear hbg hbq
              go_wp2_with fail
              refine HBG.out.mono ?_
              rintro e w8 ⟨rfl, k1, k2, k3, k4, k5⟩
              have K1 := Lib.hid k1
              have K2 := Lib.hid k2
              have K3 := Lib.hid k3
              have K4 := Lib.hid k4
              have K5 := Lib.hid k5
              have HZ2 := Lib.hid hz2
              clear k1 k2 k3 k4 k5 HBG hz2
              go_wp2_with fail
              go_ret
              have hlo := HO3.out
              have hlies := hlo.lies
              have hb3 := hlies.lt b (.inl rfl)
              have hU3 := hlies.lt U (.inr (.inl rfl))
              have f38 : Fr (fun k => k = b ∨ k = U ∨ w3.heap.size ≤ k) w3 w8 := by
                refine ((HF4.out.wide (fun _ _ e => ?_)).trans ((HD.out.fr.wide (T := fun k => k = b ∨ k = U ∨ w3.heap.size ≤ k) (fun _ _ e => ?_)).trans (((HF5.out.wide (T := fun k => k = b ∨ k = U ∨ w3.heap.size ≤ k) (fun _ _ e => e.elim)).trans (HD2.out.fr.wide (T := fun k => k = b ∨ k = U ∨ w3.heap.size ≤ k) (fun _ _ e => ?_)) (fun _ _ e => e)).trans (K5.out.wide (fun _ _ e => .inl e)) (fun _ _ e => e)) (fun _ _ e => e)) (fun _ _ e => e))
                · rcases e with e | e
                  · exact .inl e
                  · exact .inr (.inr e)
                · rcases e with e | e | e
                  · exact .inl e
                  · exact .inr (.inl e)
                  · exact .inr (.inr (by omega))
                · rcases e with e | e
                  · exact .inr (.inl e)
                  · exact .inr (.inr (by omega))
              have hq3 : w3.heap.size ≤ wq.heap.size := Nat.le_trans hrw (Nat.le_trans HF5.out.size HD2.out.fr.size)
              have hww : w.heap.size ≤ w3.heap.size := HF3.out.size
              have hclen : (Pr.committed p n).l.length = p.l.length := List.length_map ..
              have hnone : ∀ q : Nat → Bool, q 0 = false → q 1 = false → ∀ M, SetAt w8 M p.l.length (fun _ => false) → SetAt w8 M (Pr.committed p n).l.length (Pr.stp q (Pr.committed p n).l) := fun q h0 h1 M h => by
                rw [hclen]
                exact h.congr fun j => (Pr.com_none hlies.ok.small q h0 h1 j).symm
              refine .inr ⟨HDD.out, rfl, wq.heap.size, wq.heap.size + 1, wq.heap.size + 2, low', fun k => Sd3 k ∨ pS b U wq.heap.size (wq.heap.size + 1) (wq.heap.size + 2) k, Sd3, ⟨⟨?_, K1.out, ?_, hnone _ rfl rfl _ K2.out, hnone _ rfl rfl _ K3.out, hnone _ rfl rfl _ K4.out, ⟨⟨by omega, by omega, by omega⟩, ⟨by omega, by omega⟩, by omega⟩, HD.out.low2, by rw [hclen]; exact HD.out.lowN, fun i hi2 hil => ?_⟩, hlo.disk.keep f38 (fun k hk => ?_), fun _ => Iff.rfl, fun k hk => ?_, by rw [hclen]; exact hlo.len⟩, ?_, fun k hk => ?_⟩
              · exact Pr.committed_ok hlies.ok hseq (HN.out.imp id (fun e => ⟨e.1, e.2.1⟩))
              · rw [hclen]
                refine (HD2.out.used.keep K5.out (fun e => HO3.out.lies.bne.1 (Eq.symm e))).congr fun j => ?_
                rw [HZ2.out j]
                have := Pr.com_used hlies.ok.small j
                show _ = Pr.stp Pr.isU (p.l.map Pr.com) j
                simpa using this
              · obtain ⟨e1, e2⟩ := HD.out.free i hi2 hil
                have hD0 : Pr.stp Pr.isD p.l i = false := by
                  cases hh : Pr.stp Pr.isD p.l i
                  · rfl
                  · have := e2 hh
                    rw [HZ.out i] at this
                    exact this.symm
                show (p.l.map Pr.com)[i]? ≠ some 0
                rw [List.getElem?_map]
                intro hc
                cases hx : p.l[i]? with
                | none => rw [hx] at hc; cases hc
                | some x =>
                  rw [hx] at hc
                  rw [Pr.state_of _ hx] at e1 hD0
                  have hs4 := hlies.ok.small x (List.mem_of_getElem? hx)
                  have : x = 0 ∨ x = 1 ∨ x = 2 ∨ x = 3 ∨ x = 4 := by omega
                  rcases this with rfl | rfl | rfl | rfl | rfl
                  · cases e1
                  · cases hc
                  · cases hc
                  · cases hc
                  · cases hD0
              · rcases hk with rfl | rfl | e
                · exact hlo.apart k (.inl rfl)
                · exact hlo.apart k (.inr (.inl rfl))
                · exact ⟨fun e2 => by have := hlo.disk.lt k e2; omega, fun e2 => by have := (hlo.disk.rlow k e2).1; omega⟩
              · rcases hk with rfl | rfl | e
                · exact hlo.apart k (.inl rfl)
                · exact hlo.apart k (.inr (.inl rfl))
                · exact ⟨fun e2 => by have := hlo.disk.lt k e2; rcases e with rfl | rfl | rfl <;> omega, fun e2 => by have := (hlo.disk.rlow k e2).1; rcases e with rfl | rfl | rfl <;> omega⟩
              · refine HF3.out.trans f38 (fun k hk e => ?_)
                rcases e with rfl | rfl | e
                · exact (H.out.own k).2 (.inr (.inl rfl))
                · exact (H.out.own k).2 (.inr (.inr (.inl rfl)))
                · omega
              · rcases hk with e | e
                · exact HS3.out k ((hlo.own k).2 (.inl e))
                · rcases e with rfl | rfl | e
                  · exact .inl ((H.out.own k).2 (.inr (.inl rfl)))
                  · exact .inl ((H.out.own k).2 (.inr (.inr (.inl rfl))))
                  · exact .inr (by rcases e with rfl | rfl | rfl <;> omega)
            · intro i w6 c6 hgi hfi hiN hgo6 hclt hf6 hen
              have hbq := HBX5.out.keep (HD2.out.fr.trans (hf6.out.wide (T := fun k => k = U ∨ k = wo.heap.size) (fun _ _ e => .inr e)) (fun _ _ e => e)) (fun e => by
                rcases e with e | e
                · exact HO3.out.lies.bne.1 e
                · have := HO3.out.lies.lt b (.inl rfl); omega)
              have c3 : w6.cell? ⟨b, 3, none⟩ = some (.map (some U)) := hbq.cell 3
              have hus := HD2.out.used.keep hf6.out (fun e => HN5.out.2.1 e)
              have hadd := padd_any w6 U p.l.length _ hus i hiN (by omega)
              have HADD := Lib.hid hadd
              clear hadd hus hbq
              go_wp2_with fail
              refine HADD.out.mono ?_
              rintro e w7 ⟨rfl, hs7, hf7⟩
              have hnx := HD2.out.next HN5.out i hfi hgi hgo6.out hf6.out hs7 hf7
              have HNX := Lib.hid hnx
              clear hnx hs7 hf7 HADD hgo6 hf6 c3
              go_wp2_with fail
              go_roundw
              case rel => exact ⟨_, _, HNX.out⟩
              case measure => rw [HNX.out.go.count, HD2.out.go.count]; exact hclt
        · intro i w5 c5 hgi hfi hiN hgo5 hclt hf5 hen
          have hne := HN4.out
          have hi2 : 2 ≤ i := by
            refine Nat.le_of_not_lt fun hlt => ?_
            rw [Pr.state_of _ (H.out.lies.ok.two i (by omega))] at hfi
            cases hfi
          have hbx5 := HD.out.box.keep hf5.out (fun e => hne.2.2.2.1 e)
          obtain ⟨nu, DU, hou, _, hdu⟩ := HD.out.used.keep hf5.out (fun e => hne.2.2.2.2.1 e)
          have HOU := Lib.hid hou
          have HDU := Lib.hid hdu
          have HBX := Lib.hid hbx5
          have c3 : w5.cell? ⟨b, 3, none⟩ = some (.map (some U)) := hbx5.cell 3
          have hkey := key_of (i := i) (by omega)
          clear hou hdu hbx5 hne
          go_wp2_with (at_delete; refine wpList_delete_own _ rfl _ _ 81 3 rfl 111 key_int und_pages _ U nu DU rfl HOU.out _ _ rfl hkey ?_; intro w6 ho6 ht6; have HO6 := Lib.hid ho6; have hf6 := Fr.of_turned ht6; have HF6 := Lib.hid hf6; have hbx6 := HBX.out.keep hf6 (fun e => HN4.out.1 e); have c7 : w6.cell? ⟨b, 7, none⟩ = some (.int .i64 (low' : Int)) := hbx6.cell 7; have z7 := hbx6.free 7; clear ho6 ht6 hf6 hbx6)
          have hmin : (if i < low' then (i : Int) else (low' : Int)) = ((min low' i : Nat) : Int) := by split <;> omega
          have hnx := HD.out.next HN4.out i hi2 hiN hgi hgo5.out hf5.out (SetAt.mk' HO6.out (HDU.out.del HO6.out)) HF6.out
          have HNX := Lib.hid hnx
          clear hnx c3 c7 z7 hen hgo5 hf5
          rw [hmin]
          go_roundw
          case rel => exact ⟨_, _, _, HNX.out⟩
          case measure => rw [HNX.out.go.count, HD.out.go.count]; exact hclt
    · have HDD := Lib.hid hdd
      clear hdd
      simp only [show ecode true = 20 from rfl]
      go_wp2_with fail
      go_ret
      exact .inl ⟨HDD.out, rfl, S3, Sd3, HO3.out, HF3.out, HS3.out⟩
end Go.Proofs.Ythlmjnlakenmoaa

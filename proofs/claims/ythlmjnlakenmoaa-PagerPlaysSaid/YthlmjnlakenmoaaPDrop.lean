/-
  Drop of a pager.
-/
import Derived.Test.YthlmjnlakenmoaaPWrite
namespace Go.Proofs.Ythlmjnlakenmoaa
open Go.RowKit Go.Maps
set_option maxRecDepth 100000

theorem pdrop_nil (w : World) (i : Int) : Calls Try.prog 23 #[.pointer none, .int .i64 i] w fun e w' => e = .returned (.int .i64 2) ∧ w = w' := by
  go_enter Try.func23, Try.ntmps23
  go_wp2_with fail
  refine (prefuse_nil _).mono ?_
  rintro e w' ⟨rfl, rfl⟩
  go_wp2_with fail
  go_ret
  exact ⟨rfl, rfl⟩
theorem pdrop_dead (w : World) (b db : Nat) (i : Int) (hp : w.cell? ⟨b, 0, none⟩ = some (.pointer (some ⟨db, 0, none⟩))) (hd : w.cell? ⟨db, 4, none⟩ = some (.bool true)) : Calls Try.prog 23 #[.pointer (some ⟨b, 0, none⟩), .int .i64 i] w fun e w' => e = .returned (.int .i64 20) ∧ w = w' := by
  have hr := prefuse_any w b db true hp hd
  rw [if_pos rfl] at hr
  have HR := Lib.hid hr
  clear hr hp hd
  go_enter Try.func23, Try.ntmps23
  go_wp2_with fail
  refine HR.out.mono ?_
  rintro e w' ⟨rfl, rfl⟩
  go_wp2_with fail
  go_ret
  exact ⟨rfl, rfl⟩
theorem pdrop_arg (w : World) (S Sd R : Nat → Prop) (b db U T B D low : Nat) (p : Pr.Pt) (d : Dk.St) (h : Over w S Sd R b db U T B D low p d) (hdead : d.dead = false) (i : Int) (hi : ¬ (2 ≤ i ∧ i < (p.l.length : Int))) :
    Calls Try.prog 23 #[.pointer (some ⟨b, 0, none⟩), .int .i64 i] w fun e w' => e = .returned (.int .i64 1) ∧ w = w' := by
  have HR := Lib.hid (h.refuse hdead)
  have HH := Lib.hid (h.has i false (decide_eq_false hi))
  clear h hi
  go_enter Try.func23, Try.ntmps23
  go_wp2_with fail
  refine HR.out.mono ?_
  rintro e w' ⟨rfl, rfl⟩
  go_wp2_with fail
  refine HH.out.mono ?_
  rintro e w' ⟨rfl, rfl⟩
  go_wp2_with fail
  go_ret
  exact ⟨rfl, rfl⟩
theorem pdrop_state (w : World) (S Sd R : Nat → Prop) (b db U T B D low : Nat) (p : Pr.Pt) (d : Dk.St) (h : Over w S Sd R b db U T B D low p d) (hdead : d.dead = false) (n : Nat) (hn2 : 2 ≤ n) (hn : n < p.l.length) (hs : Pr.stp Pr.isF p.l n = true ∨ Pr.stp Pr.isD p.l n = true) :
    Calls Try.prog 23 #[.pointer (some ⟨b, 0, none⟩), .int .i64 (n : Int)] w fun e w' => e = .returned (.int .i64 250) ∧ Below w.heap.size w w' := by
  have HR := Lib.hid (h.refuse hdead)
  have HH := Lib.hid (h.has n true (decide_eq_true (by omega)))
  have hmost := h.lies.ok.most
  have hif := isfree_any w b db U T B D low p h.lies n hn
  have HF := Lib.hid hif
  have H := Lib.hid h
  clear h hif
  cases hf : Pr.stp Pr.isF p.l n
  · rw [hf] at HF
    have HDD := Lib.hid (hs.resolve_left (by rw [hf]; simp))
    clear hf hs
    go_enter Try.func23, Try.ntmps23
    go_wp2_with fail
    refine HR.out.mono ?_
    rintro e w' ⟨rfl, rfl⟩
    go_wp2_with fail
    refine HH.out.mono ?_
    rintro e w' ⟨rfl, rfl⟩
    go_wp2_with fail
    refine HF.out.mono ?_
    rintro e w1 ⟨rfl, hb1⟩
    have h1 := H.out.below hb1
    have c6 := h1.lies.cells.c6
    have hdr := phas_any w1 D _ _ h1.lies.dropped n (by omega)
    rw [HDD.out] at hdr
    have HDR := Lib.hid hdr
    have HB1 := Lib.hid hb1
    clear hb1 h1 hdr
    go_wp2_with fail
    refine HDR.out.mono ?_
    rintro e w2 ⟨rfl, hb2⟩
    have HB2 := Lib.hid (HB1.out.trans (hb2.mono HB1.out.size))
    clear hb2 c6
    go_wp2_with fail
    go_ret
    exact ⟨rfl, HB2.out⟩
  · rw [hf] at HF
    clear hf hs
    go_enter Try.func23, Try.ntmps23
    go_wp2_with fail
    refine HR.out.mono ?_
    rintro e w' ⟨rfl, rfl⟩
    go_wp2_with fail
    refine HH.out.mono ?_
    rintro e w' ⟨rfl, rfl⟩
    go_wp2_with fail
    refine HF.out.mono ?_
    rintro e w1 ⟨rfl, hb1⟩
    have HB1 := Lib.hid hb1
    clear hb1
    go_wp2_with fail
    go_ret
    exact ⟨rfl, HB1.out⟩
set_option maxHeartbeats 1600000 in
theorem pdrop_used (w : World) (S Sd R : Nat → Prop) (b db U T B D low : Nat) (p : Pr.Pt) (d : Dk.St) (h : Over w S Sd R b db U T B D low p d) (hdead : d.dead = false) (n : Nat) (hn2 : 2 ≤ n) (hn : n < p.l.length) (hs : p.l[n]? = some 1) :
    Calls Try.prog 23 #[.pointer (some ⟨b, 0, none⟩), .int .i64 (n : Int)] w fun e w' => e = .returned (.int .i64 0) ∧ Over w' S Sd R b db U T B D low ⟨p.l.set n 4, p.seq, p.root⟩ d ∧ Fr S w w' := by
  have HR := Lib.hid (h.refuse hdead)
  have HH := Lib.hid (h.has n true (decide_eq_true (by omega)))
  have hmost := h.lies.ok.most
  have hif := isfree_any w b db U T B D low p h.lies n hn
  rw [Pr.state_of _ hs] at hif
  have HF := Lib.hid hif
  have H := Lib.hid h
  have HS := Lib.hid hs
  clear h hif hs
  go_enter Try.func23, Try.ntmps23
  go_wp2_with fail
  refine HR.out.mono ?_
  rintro e w' ⟨rfl, rfl⟩
  go_wp2_with fail
  refine HH.out.mono ?_
  rintro e w' ⟨rfl, rfl⟩
  go_wp2_with fail
  refine HF.out.mono ?_
  rintro e w1 ⟨rfl, hb1⟩
  have h1 := H.out.below hb1
  have c6 := h1.lies.cells.c6
  have hdr := phas_any w1 D _ _ h1.lies.dropped n (by omega)
  rw [Pr.state_of _ HS.out] at hdr
  have HDR := Lib.hid hdr
  have HB1 := Lib.hid hb1
  clear hb1 h1 hdr
  simp only [show Pr.isF 1 = false from rfl]
  go_wp2_with fail
  refine HDR.out.mono ?_
  rintro e w2 ⟨rfl, hb2⟩
  have hB2 := HB1.out.trans (hb2.mono HB1.out.size)
  have h2 := H.out.below hB2
  have c4 := h2.lies.cells.c4
  have htk := phas_any w2 T _ _ h2.lies.taken n (by omega)
  rw [Pr.state_of _ HS.out] at htk
  have HTK := Lib.hid htk
  have HB2 := Lib.hid hB2
  clear hb2 hB2 h2 htk c6
  simp only [show Pr.isD 1 = false from rfl]
  go_wp2_with fail
  refine HTK.out.mono ?_
  rintro e w3 ⟨rfl, hb3⟩
  have hB3 := HB2.out.trans (hb3.mono HB2.out.size)
  have h3 := H.out.below hB3
  have c6 := h3.lies.cells.c6
  have hadd := padd_any w3 D _ _ h3.lies.dropped n hn (by omega)
  have HA := Lib.hid hadd
  have H3 := Lib.hid h3
  have HB3 := Lib.hid hB3
  clear hb3 hB3 h3 hadd c4
  simp only [show Pr.isT 1 = false from rfl]
  go_wp2_with fail
  refine HA.out.mono ?_
  rintro e w4 ⟨rfl, hs4, hf4⟩
  have HS4 := Lib.hid hs4
  have HF4 := Lib.hid hf4
  clear hs4 hf4
  go_wp2_with fail
  go_ret
  have hov := H3.out
  obtain ⟨n1, n2, n3, n4⟩ := hov.lies.bne
  obtain ⟨m1, m2, m3⟩ := hov.lies.ne
  have hk0 : ∀ q : Nat → Bool, q 1 = q 4 → ∀ j, Pr.stp q p.l j = Pr.stp q (p.l.set n 4) j := fun q hq j => Pr.stp_keep hn (by rw [Pr.state_of q HS.out, hq]) j
  have hlset : (p.l.set n 4).length = p.l.length := List.length_set
  refine ⟨rfl, ⟨⟨hov.lies.ok.set hn2 (by omega), hov.lies.box.keep HF4.out (fun e => n4 e), ?_, ?_, ?_, ?_, hov.lies.ne, hov.lies.low2, by show low ≤ (p.l.set n 4).length; rw [hlset]; exact hov.lies.lowN, fun i h2 hik => ?_⟩, hov.disk.keep HF4.out (fun x hx => ?_), hov.own, hov.apart, ?_⟩, ?_⟩
  · show SetAt w4 U (p.l.set n 4).length (Pr.stp Pr.isU (p.l.set n 4))
    rw [hlset]
    exact (hov.lies.used.keep HF4.out (fun e => m1.2.2 e)).congr (hk0 _ rfl)
  · show SetAt w4 T (p.l.set n 4).length (Pr.stp Pr.isT (p.l.set n 4))
    rw [hlset]
    exact (hov.lies.taken.keep HF4.out (fun e => m2.2 e)).congr (hk0 _ rfl)
  · show SetAt w4 B (p.l.set n 4).length (Pr.stp Pr.isB (p.l.set n 4))
    rw [hlset]
    exact (hov.lies.blank.keep HF4.out (fun e => m3 e)).congr (hk0 _ rfl)
  · show SetAt w4 D (p.l.set n 4).length (Pr.stp Pr.isD (p.l.set n 4))
    rw [hlset]
    exact HS4.out.congr (Pr.stp_add hn rfl)
  · show (p.l.set n 4)[i]? ≠ some 0
    by_cases hin : i = n
    · subst hin
      rw [List.getElem?_set_self hn]; simp
    · rw [List.getElem?_set_ne (fun e => hin e.symm)]
      exact hov.lies.nofree i h2 hik
  · have hx : x = D := hx
    subst hx
    exact hov.apart x (.inr (.inr (.inr (.inr rfl))))
  · show (p.l.set n 4).length = _
    rw [hlset]; exact hov.len
  · exact (Fr.of_below HB3.out S).trans (HF4.out.wide (fun x _ e => by
      have e : x = D := e
      subst e
      exact (hov.own x).2 (.inr (.inr (.inr (.inr (.inr rfl))))))) (fun _ _ e => e)
theorem drop_end {w w3 w4 w5 : World} {S Sd R : Nat → Prop} {b db U T B D low n nt nb : Nat} {p : Pr.Pt} {d : Dk.St} {DT DB : DataW Unit} (hn2 : 2 ≤ n) (hn : n < p.l.length) (hq : ∀ q : Nat → Bool, q 2 = q 3 → Pr.stp q p.l n = q 2) (hov : Over w3 S Sd R b db U T B D low p d)
    (hf4 : Fr (oneB T) w3 w4) (hf5 : Fr (oneB B) w4 w5) (ho4 : w4.ownsMap Try.prog 3 unitElem T nt (DT.del (keyI n))) (hdt : SetD DT p.l.length (Pr.stp Pr.isT p.l)) (ho5 : w5.ownsMap Try.prog 3 unitElem B nb (DB.del (keyI n))) (hdb : SetD DB p.l.length (Pr.stp Pr.isB p.l))
    (hbx5 : Has w5 b 83 (pagerCells db p U T B D low)) (hb3 : Below w.heap.size w w3) (v : Int) (hv : ((min low n : Nat) : Int) = v) :
    Over (w5.setCell ⟨b, 7, none⟩ (.int .i64 v)) S Sd R b db U T B D (min low n) ⟨p.l.set n 0, p.seq, p.root⟩ d ∧ Fr S w (w5.setCell ⟨b, 7, none⟩ (.int .i64 v)) := by
  obtain ⟨n1, n2, n3, n4⟩ := hov.lies.bne
  obtain ⟨m1, m2, m3⟩ := hov.lies.ne
  have hk0 : ∀ q : Nat → Bool, q 2 = q 3 → q 2 = q 0 → ∀ j, Pr.stp q p.l j = Pr.stp q (p.l.set n 0) j := fun q e1 e2 j => Pr.stp_keep hn (by rw [hq q e1, e2]) j
  have hlset : (p.l.set n 0).length = p.l.length := List.length_set
  have fb : Fr (oneB b) w5 (w5.setCell ⟨b, 7, none⟩ (.int .i64 v)) := (Fr.refl _ _).put _
  have fall : Fr (fun k => k = b ∨ k = T ∨ k = B) w3 (w5.setCell ⟨b, 7, none⟩ (.int .i64 v)) := (hf4.wide (fun _ _ e => .inr (.inl e))).trans ((hf5.wide (T := fun k => k = b ∨ k = T ∨ k = B) (fun _ _ e => .inr (.inr e))).trans (fb.wide (fun _ _ e => .inl e)) (fun _ _ e => e)) (fun _ _ e => e)
  have h2 := hov.lies.low2
  refine ⟨⟨⟨hov.lies.ok.set hn2 (by omega), by rw [← hv]; exact hbx5.set 7 _, ?_, ?_, ?_, ?_, hov.lies.ne, by omega, by show min low n ≤ (p.l.set n 0).length; rw [hlset]; omega, fun i hi2 hik => ?_⟩, hov.disk.keep fall (fun x hx => ?_), hov.own, hov.apart, ?_⟩, ?_⟩
  · show SetAt _ U (p.l.set n 0).length (Pr.stp Pr.isU (p.l.set n 0))
    rw [hlset]
    exact (hov.lies.used.keep fall (fun e => by rcases e with e | e | e; exact n1 (Eq.symm e); exact m1.1 e; exact m1.2.1 e)).congr (hk0 _ rfl rfl)
  · show SetAt _ T (p.l.set n 0).length (Pr.stp Pr.isT (p.l.set n 0))
    rw [hlset]
    exact (((SetAt.mk' ho4 (hdt.del ho4)).keep hf5 (fun e => m2.1 e)).keep fb (fun e => n2 (Eq.symm e))).congr (Pr.stp_del hn rfl)
  · show SetAt _ B (p.l.set n 0).length (Pr.stp Pr.isB (p.l.set n 0))
    rw [hlset]
    exact ((SetAt.mk' ho5 (hdb.del ho5)).keep fb (fun e => n3 (Eq.symm e))).congr (Pr.stp_del hn rfl)
  · show SetAt _ D (p.l.set n 0).length (Pr.stp Pr.isD (p.l.set n 0))
    rw [hlset]
    exact (hov.lies.dropped.keep fall (fun e => by rcases e with e | e | e; exact n4 (Eq.symm e); exact m2.2 (Eq.symm e); exact m3 (Eq.symm e))).congr (hk0 _ rfl rfl)
  · show (p.l.set n 0)[i]? ≠ some 0
    rw [List.getElem?_set_ne (by omega)]
    exact hov.lies.nofree i hi2 (by omega)
  · rcases hx with rfl | rfl | rfl
    · exact hov.apart x (.inl rfl)
    · exact hov.apart x (.inr (.inr (.inl rfl)))
    · exact hov.apart x (.inr (.inr (.inr (.inl rfl))))
  · show (p.l.set n 0).length = _
    rw [hlset]; exact hov.len
  · exact (Fr.of_below hb3 S).trans (fall.wide (fun x _ e => by
      rcases e with rfl | rfl | rfl
      · exact (hov.own x).2 (.inr (.inl rfl))
      · exact (hov.own x).2 (.inr (.inr (.inr (.inl rfl))))
      · exact (hov.own x).2 (.inr (.inr (.inr (.inr (.inl rfl))))))) (fun _ _ e => e)
set_option maxHeartbeats 1600000 in
theorem pdrop_taken (w : World) (S Sd R : Nat → Prop) (b db U T B D low : Nat) (p : Pr.Pt) (d : Dk.St) (h : Over w S Sd R b db U T B D low p d) (hdead : d.dead = false) (n : Nat) (hn2 : 2 ≤ n) (hn : n < p.l.length) (hs : p.l[n]? = some 2 ∨ p.l[n]? = some 3) :
    Calls Try.prog 23 #[.pointer (some ⟨b, 0, none⟩), .int .i64 (n : Int)] w fun e w' => e = .returned (.int .i64 0) ∧ Over w' S Sd R b db U T B D (min low n) ⟨p.l.set n 0, p.seq, p.root⟩ d ∧ Fr S w w' := by
  have HR := Lib.hid (h.refuse hdead)
  have HH := Lib.hid (h.has n true (decide_eq_true (by omega)))
  have hmost := h.lies.ok.most
  have hq : ∀ q : Nat → Bool, q 2 = q 3 → Pr.stp q p.l n = q 2 := fun q e => by
    rcases hs with e1 | e1 <;> rw [Pr.state_of _ e1]
    exact e.symm
  have hif := isfree_any w b db U T B D low p h.lies n hn
  rw [hq _ rfl] at hif
  have HF := Lib.hid hif
  have H := Lib.hid h
  have HQ := Lib.hid hq
  clear h hif hq hs
  go_enter Try.func23, Try.ntmps23
  go_wp2_with fail
  refine HR.out.mono ?_
  rintro e w' ⟨rfl, rfl⟩
  go_wp2_with fail
  refine HH.out.mono ?_
  rintro e w' ⟨rfl, rfl⟩
  go_wp2_with fail
  refine HF.out.mono ?_
  rintro e w1 ⟨rfl, hb1⟩
  have h1 := H.out.below hb1
  have c6 := h1.lies.cells.c6
  have hdr := phas_any w1 D _ _ h1.lies.dropped n (by omega)
  rw [HQ.out _ rfl] at hdr
  have HDR := Lib.hid hdr
  have HB1 := Lib.hid hb1
  clear hb1 h1 hdr
  simp only [show Pr.isF 2 = false from rfl]
  go_wp2_with fail
  refine HDR.out.mono ?_
  rintro e w2 ⟨rfl, hb2⟩
  have hB2 := HB1.out.trans (hb2.mono HB1.out.size)
  have h2 := H.out.below hB2
  have c4 := h2.lies.cells.c4
  have htk := phas_any w2 T _ _ h2.lies.taken n (by omega)
  rw [HQ.out _ rfl] at htk
  have HTK := Lib.hid htk
  have HB2 := Lib.hid hB2
  clear hb2 hB2 h2 htk c6
  simp only [show Pr.isD 2 = false from rfl]
  go_wp2_with fail
  refine HTK.out.mono ?_
  rintro e w3 ⟨rfl, hb3⟩
  have hB3 := HB2.out.trans (hb3.mono HB2.out.size)
  have h3 := H.out.below hB3
  have c4 := h3.lies.cells.c4
  obtain ⟨nt, DT, hot, _, hdt⟩ := h3.lies.taken
  obtain ⟨n1, n2, n3, n4⟩ := h3.lies.bne
  obtain ⟨m1, m2, m3⟩ := h3.lies.ne
  have hkey := key_of (i := n) (by omega)
  have HOT := Lib.hid hot
  have H3 := Lib.hid h3
  have HB3 := Lib.hid hB3
  have N23 := Lib.hid (And.intro n2 (And.intro n3 m2.1))
  clear hb3 hB3 h3 hot n1 n2 n3 n4 m1 m2 m3
  simp only [show Pr.isT 2 = true from rfl]
  go_wp2_with (first
    | (at_delete; refine wpList_delete_own _ rfl _ _ 81 3 rfl 111 key_int und_pages _ T nt DT rfl HOT.out _ _ rfl hkey ?_; intro w4 ho4 ht4; have HO4 := Lib.hid ho4; have hf4 := Fr.of_turned ht4; have HF4 := Lib.hid hf4; have hbx4 := H3.out.lies.box.keep hf4 (fun e => N23.out.1 e); have c5 : w4.cell? ⟨b, 5, none⟩ = some (.map (some B)) := hbx4.cell 5; have HBX4 := Lib.hid hbx4; obtain ⟨nb, DB, hob, hnb, hdb⟩ := H3.out.lies.blank.keep hf4 (fun e => N23.out.2.2 (Eq.symm e)); have HOB := Lib.hid hob; have HDB := Lib.hid hdb; clear ho4 ht4 hf4 hbx4 hob hnb hdb)
    | (at_delete; refine wpList_delete_own _ rfl _ _ 81 3 rfl 111 key_int und_pages _ B nb DB rfl HOB.out _ _ rfl hkey ?_; intro w5 ho5 ht5; have HO5 := Lib.hid ho5; have hf5 := Fr.of_turned ht5; have HF5 := Lib.hid hf5; have hbx5 := HBX4.out.keep hf5 (fun e => N23.out.2.1 e); have c7 : w5.cell? ⟨b, 7, none⟩ = some (.int .i64 (low : Int)) := hbx5.cell 7; have z7 := hbx5.free 7; have HBX5 := Lib.hid hbx5; clear ho5 ht5 hf5 hbx5))
  all_goals
    go_ret
    exact ⟨rfl, drop_end hn2 hn HQ.out H3.out HF4.out HF5.out HO4.out hdt HO5.out HDB.out HBX5.out HB3.out _ (by omega)⟩
end Go.Proofs.Ythlmjnlakenmoaa

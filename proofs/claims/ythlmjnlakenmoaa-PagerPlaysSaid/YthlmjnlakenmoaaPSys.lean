/-
  A pager of one's own; awake answers true.
-/
import Derived.Test.YthlmjnlakenmoaaPLive
import Derived.Test.YthlmjnlakenmoaaPDone
import Derived.Test.YthlmjnlakenmoaaPOpen
import Derived.Test.YthlmjnlakenmoaaPDrop
import Derived.Test.YthlmjnlakenmoaaPAbort
import Derived.Test.YthlmjnlakenmoaaPUse
namespace Go.Proofs.Ythlmjnlakenmoaa
open Go.RowKit Go.Maps
set_option maxRecDepth 100000

/-- a pager over a disk, both made since W0; nothing that was there then has turned -/
structure PSys (W0 w : World) (S Sd R : Nat → Prop) (b db U T B D low : Nat) (p : Pr.Pt) (d : Dk.St) : Prop where
  over : Over w S Sd R b db U T B D low p d
  news : ∀ k, S k → W0.heap.size ≤ k
  newr : ∀ k, R k → W0.heap.size ≤ k
  below : Below W0.heap.size W0 w
theorem PSys.size {W0 w : World} {S Sd R : Nat → Prop} {b db U T B D low : Nat} {p : Pr.Pt} {d : Dk.St} (h : PSys W0 w S Sd R b db U T B D low p d) : W0.heap.size ≤ w.heap.size := h.below.size
theorem PSys.next {W0 w w' : World} {S Sd R : Nat → Prop} {b db U T B D low : Nat} {p : Pr.Pt} {d : Dk.St} (h : PSys W0 w S Sd R b db U T B D low p d) (hb : Below w.heap.size w w') : PSys W0 w' S Sd R b db U T B D low p d :=
  ⟨h.over.below hb, h.news, h.newr, h.below.trans (hb.mono h.size)⟩
theorem PSys.over' {W0 w w' : World} {S Sd R : Nat → Prop} {b db U T B D low low' : Nat} {p p' : Pr.Pt} {d : Dk.St} (h : PSys W0 w S Sd R b db U T B D low p d) (ho : Over w' S Sd R b db U T B D low' p' d) (hf : Fr S w w') : PSys W0 w' S Sd R b db U T B D low' p' d :=
  ⟨ho, h.news, h.newr, h.below.trans (hf.below h.size h.news)⟩
theorem PSys.goes {W0 w w' : World} {S Sd R : Nat → Prop} {b db U T B D low U' T' B' D' low' : Nat} {p p' : Pr.Pt} {d d' : Dk.St} (h : PSys W0 w S Sd R b db U T B D low p d) (hg : PGoes w S R b db U' T' B' D' low' p' d' w') : ∃ S' Sd', PSys W0 w' S' Sd' R b db U' T' B' D' low' p' d' := by
  obtain ⟨S', Sd', ho, hf, hs⟩ := hg
  refine ⟨S', Sd', ho, fun k hk => ?_, h.newr, h.below.trans (hf.below h.size h.news)⟩
  rcases hs k hk with e | e
  · exact h.news k e
  · have := h.size; omega
theorem Sys.pager {W0 w w' : World} {S R S' : Nat → Prop} {b db : Nat} {p : Pr.Pt} {d d' : Dk.St} (h : Sys W0 w S R db d) (hp : PagerAt w' S' R b db p d') (hf : Fr S w w') (hs : ∀ k, S' k → S k ∨ w.heap.size ≤ k) : ∃ Sd U T B D low, PSys W0 w' S' Sd R b db U T B D low p d' := by
  obtain ⟨Sd, U, T, B, D, low, ho⟩ := hp
  refine ⟨Sd, U, T, B, D, low, ho, fun k hk => ?_, h.newr, h.below.trans (hf.below h.size h.news)⟩
  rcases hs k hk with e | e
  · exact h.news k e
  · have := h.size; omega
/-- the disk beneath it alone -/
theorem PSys.sys {W0 w : World} {S Sd R : Nat → Prop} {b db U T B D low : Nat} {p : Pr.Pt} {d : Dk.St} (h : PSys W0 w S Sd R b db U T B D low p d) : Sys W0 w Sd R db d :=
  ⟨h.over.disk, fun k hk => h.news k ((h.over.own k).2 (.inl hk)), h.newr, h.below⟩

theorem few_made (n : Nat) : (Dk.made n).Few 0 := ⟨Nat.le_refl _, Nat.le_refl _, by show 0 ≤ _; omega⟩
theorem made_len (n : Nat) : (Dk.made n).lasts.length = n := List.length_replicate
/-- the disk and the pager of awake, step by step -/
structure AwakeD (d1 d2 d3 : Dk.St) : Prop where
  l1 : d1.Live
  n1 : d1.lasts.length = 20
  f1 : d1.Few 100
  l2 : d2.Live
  n2 : d2.lasts.length = 20
  f2 : d2.Few 100
  l3 : d3.Live
  n3 : d3.lasts.length = 20
  m3 : d3.meta_ = some (2, 2)
  p3 : d3.page 2 = Pg.made 2 [97]
theorem awakeD : AwakeD (Dk.made 20).format ((Dk.made 20).format.putPage 2 [97]) (((Dk.made 20).format.putPage 2 [97]).keep 2 2) := by
  have l0 := live_made (n := 20) (by omega) (by omega)
  have n0 := made_len 20
  obtain ⟨l1, p1⟩ := live_format l0 (by rw [n0]; omega)
  have n1 : (Dk.made 20).format.lasts.length = 20 := (format_len _).trans n0
  have f1 := format_few (few_made 20)
  obtain ⟨l2, p2⟩ := live_putPage l1 (n := 2) (pg := Pg.made 2 [97]) (Pg.made_length _ _ (by simp)) (by rw [n1]; omega)
  have n2 : ((Dk.made 20).format.putPage 2 [97]).lasts.length = 20 := (putPage_len _ _ _).trans n1
  obtain ⟨l3, _, p3⟩ := live_keep (d := (Dk.made 20).format.putPage 2 [97]) l2 (by rw [n2]; omega) 2 2
  have n3 : (((Dk.made 20).format.putPage 2 [97]).keep 2 2).lasts.length = 20 := (keep_len _ _ _).trans n2
  have q0 : (((Dk.made 20).format.putPage 2 [97]).keep 2 2).page 0 = Pg.made 0 (Pr.metaBytes 2 2) := (p3 0 (by rw [n2]; omega)).trans (if_pos rfl)
  have q1 : (((Dk.made 20).format.putPage 2 [97]).keep 2 2).page 1 = Pg.made 1 (Pr.metaBytes 0 0) :=
    ((p3 1 (by rw [n2]; omega)).trans (if_neg (by omega))).trans (((p2 1).trans (if_neg (by omega))).trans (((p1 1 (by rw [n0]; omega)).trans (if_neg (by omega))).trans (if_pos rfl)))
  have q2 : (((Dk.made 20).format.putPage 2 [97]).keep 2 2).page 2 = Pg.made 2 [97] := ((p3 2 (by rw [n2]; omega)).trans (if_neg (by omega))).trans ((p2 2).trans (if_pos rfl))
  refine ⟨l1, n1, f1.more (by omega), l2, n2, (few_puts f1 _ _ 4).more (by omega), l3, n3, ?_, q2⟩
  unfold Dk.St.meta_
  rw [q0, q1, n3, Pr.metaOf_made 0 _ 2 2 (by omega) (.inr ⟨by omega, by omega⟩) (by omega), Pr.metaOf_made 1 _ 0 0 (by omega) (.inl rfl) (by omega)]
  rfl
set_option maxHeartbeats 3200000 in
theorem awake_any (w : World) : Calls Try.prog 10 #[] w fun e w' => e = .returned (.bool true) ∧ Below w.heap.size w w' := by
  have hA := awakeD
  have hfmt := fun w Sd R db h => format_ok w Sd R db (Dk.made 20) h rfl ((few_made 20).more (by omega)) (by rw [made_len]; omega)
  have hnew := new_any w 20 (by omega) (by omega)
  rw [show ((20 : Nat) : Int) = 20 from rfl] at hnew
  unfold FmtPost at hfmt
  rw [made_len] at hfmt
  generalize Dk.made 20 = d0 at *
  generalize hd1 : d0.format = d1 at *
  generalize hd2 : d1.putPage 2 [97] = d2 at *
  generalize hd3 : d2.keep 2 2 = d3 at *
  have hk : ∀ w : World, (convert 48 48 (.slice (some ⟨w.heap.size, 0, none⟩) 1 1)).run Try.prog (w.alloc (.cells #[.int .u8 97] 5)) = .ok (.slice (some ⟨w.heap.size, 0, none⟩) 1 1) (konst w [97]) := fun w => run_konst1 w 97
  have HA := Lib.hid hA
  have HFMT := Lib.hid hfmt
  have HNEW := Lib.hid hnew
  have HD2 := Lib.hid hd2
  have HD3 := Lib.hid hd3
  clear hA hfmt hnew hd1 hd2 hd3
  go_enter Try.func10, Try.ntmps10
  go_wp2_with fail
  refine HNEW.out.mono ?_
  rintro e w1 ⟨db, Sd, rfl, hd, hb, hs⟩
  have Y1 := Lib.hid (Sys.made (Below.refl _ _) hd hb hs)
  clear hd hb hs HNEW
  unfold ptr
  go_wp2_with fail
  refine (HFMT.out w1 Sd noB db Y1.out.disk).mono ?_
  intro e w2 hpost
  rcases hpost with ⟨hdd, _⟩ | ⟨_, b, S, rfl, hp, hf, hs⟩
  · rw [HA.out.l1.dead] at hdd; cases hdd
  obtain ⟨Sd2, U, T, B, D, low, y2⟩ := Y1.out.pager hp hf hs
  have Y2 := Lib.hid y2
  clear hp hf hs y2 Y1 HFMT
  have hal := palloc_some w2 S Sd2 noB b db U T B D low _ d1 Y2.out.over HA.out.l1.dead 2 (by omega) (by show 2 < (List.replicate (20 / 4) 0).length; decide) (by rfl) (fun j h1 h2 => by omega)
  rw [show ((2 : Nat) : Int) = 2 from rfl] at hal
  have HAL := Lib.hid hal
  clear hal
  go_wp2_with fail
  refine HAL.out.mono ?_
  rintro e w3 ⟨rfl, ho3, hf3⟩
  have Y3 := Lib.hid (Y2.out.over' ho3 hf3)
  have hlt := ho3.lies.lt b (.inl rfl)
  have hw4 := pwrite_ok (konst w3 [97]) S Sd2 noB b db U T B D 2 _ d1 ((Y3.out.next (konst_below w3 [97])).over) HA.out.l1.dead (HA.out.f1.more (by omega)) 2 (by omega) (by show 2 < ((List.replicate (20 / 4) 0).set 2 2).length; decide) (by rfl) (some ⟨w3.heap.size, 0, none⟩) [97] 1 (by simp) (konst_rd w3 [97] (by simp))
  rw [HD2.out, HA.out.l2.dead] at hw4
  rw [show ((2 : Nat) : Int) = 2 from rfl, show ([97] : List UInt8).length = 1 from rfl, show ecode false = 0 from rfl] at hw4
  have HW4 := Lib.hid hw4
  clear ho3 hf3 hw4 HAL Y2
  go_wp2_with fail
  refine HW4.out.mono ?_
  rintro e w4 ⟨rfl, hg4⟩
  obtain ⟨S4, Sd4, y4⟩ := (Y3.out.next (konst_below w3 [97])).goes hg4
  have Y4 := Lib.hid y4
  clear hg4 y4 HW4 Y3
  have hc5 := pcommit_ok w4 S4 Sd4 noB b db U T B D 2 _ d2 Y4.out.over HA.out.l2.dead (HA.out.f2.more (by omega)) (by show 1 + 1 ≤ _; omega) 2 (.inr ⟨by omega, by decide, by decide⟩)
  rw [show ((2 : Nat) : Int) = 2 from rfl] at hc5
  have HC5 := Lib.hid hc5
  clear hc5
  go_wp2_with fail
  refine HC5.out.mono ?_
  intro e w5 hpost
  have hke : d2.keep ((Pr.wrote ⟨(List.replicate (20 / 4) 0).set 2 2, 1, 0⟩ 2 false).seq + 1) 2 = d3 := HD3.out
  rw [hke] at hpost
  rcases hpost with ⟨hdd, _⟩ | ⟨_, rfl, T', B', D', low', hg5⟩
  · rw [HA.out.l3.dead] at hdd; cases hdd
  obtain ⟨S5, Sd5, y5⟩ := Y4.out.goes hg5
  have Y5 := Lib.hid y5.sys
  clear hg5 y5 Y4 HC5 hke
  have ho6 := open_some w5 Sd5 noB db d3 Y5.out.disk HA.out.l3.dead (by rw [HA.out.n3]; omega) 2 2 HA.out.m3
  have HO6 := Lib.hid ho6
  clear ho6
  go_wp2_with fail
  refine HO6.out.mono ?_
  rintro e w6 ⟨b6, S6, rfl, hp6, hb6, hs6⟩
  rw [show ((2 : Nat) : Int) = 2 from rfl]
  obtain ⟨Sd6, U6, T6, B6, D6, low6, y6⟩ := Y5.out.pager hp6 (Fr.of_below hb6 Sd5) hs6
  have Y6 := Lib.hid y6
  clear hp6 hb6 hs6 y6 HO6 Y5
  have hop : (Pr.opened (d3.lasts.length / 4) 2 2).l = [0, 0, 1, 1, 1] := by rw [HA.out.n3]; rfl
  have hr7 := pread_get w6 S6 Sd6 noB b6 db U6 T6 B6 D6 low6 _ d3 Y6.out.over HA.out.l3.dead 2 (by omega) (by rw [hop]; decide) (by rw [hop]; rfl) (by rw [hop]; rfl)
  rw [HA.out.p3, show ((2 : Nat) : Int) = 2 from rfl] at hr7
  have HR7 := Lib.hid hr7
  clear hr7 hop
  go_wp2_with fail
  refine HR7.out.mono ?_
  intro e w7 hpost
  rcases hpost with ⟨_, g, he, hg7, _, hb7⟩ | ⟨hbad, _⟩
  · rw [Pg.payload_made 2 [97] (by simp)] at he hg7
    subst he
    have hcv := conv_rd w7 _ (some ⟨g, 0, none⟩) [97] 1 (Rd.of_has (o := 0) (l := [97]) hg7 rfl (by simp))
    have HB7 := Lib.hid ((Y6.out.next hb7).below)
    clear hg7 hb7 HR7 Y6
    unfold bstr at hcv
    rw [show ([97] : List UInt8).length = 1 from rfl] at hcv ⊢
    go_wp2_with fail
    go_ret
    exact ⟨rfl, HB7.out⟩
  · rw [Pg.sound_made 2 [97] (by simp)] at hbad; cases hbad
end Go.Proofs.Ythlmjnlakenmoaa

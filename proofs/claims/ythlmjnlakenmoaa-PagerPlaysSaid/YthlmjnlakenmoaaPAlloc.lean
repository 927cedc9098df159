/-
  Alloc of a pager.
-/
import Derived.Test.YthlmjnlakenmoaaPRead
import Derived.Test.YthlmjnlakenmoaaPOver
import Derived.Test.YthlmjnlakenmoaaPFormat
import Derived.Deep.CutRange
import Derived.Deep.RegionWith
import Derived.StillTailTactics
namespace Go.Proofs.Ythlmjnlakenmoaa
open Go.RowKit Go.Maps
set_option maxRecDepth 100000

theorem palloc_nil (w : World) : Calls Try.prog 19 #[.pointer none] w fun e w' => e = .returned (.tuple #[.int .i64 0, .int .i64 2]) ∧ w = w' := by
  go_enter Try.func19, Try.ntmps19
  go_wp2_with fail
  refine (prefuse_nil _).mono ?_
  rintro e w' ⟨rfl, rfl⟩
  go_wp2_with fail
  go_ret2
  exact ⟨rfl, rfl⟩
theorem palloc_dead (w : World) (b db : Nat) (hp : w.cell? ⟨b, 0, none⟩ = some (.pointer (some ⟨db, 0, none⟩))) (hd : w.cell? ⟨db, 4, none⟩ = some (.bool true)) : Calls Try.prog 19 #[.pointer (some ⟨b, 0, none⟩)] w fun e w' => e = .returned (.tuple #[.int .i64 0, .int .i64 20]) ∧ w = w' := by
  have hr := prefuse_any w b db true hp hd
  rw [if_pos rfl] at hr
  have HR := Lib.hid hr
  clear hr hp hd
  go_enter Try.func19, Try.ntmps19
  go_wp2_with fail
  refine HR.out.mono ?_
  rintro e w' ⟨rfl, rfl⟩
  go_wp2_with fail
  go_ret2
  exact ⟨rfl, rfl⟩

/-- the pager's own block is turned, and new ones come -/
theorem Over.relow {w w' : World} {S Sd R : Nat → Prop} {b db U T B D low low' : Nat} {p : Pr.Pt} {d : Dk.St} (h : Over w S Sd R b db U T B D low p d) (f : Fr (oneB b) w w') (hb : Has w' b 83 (pagerCells db p U T B D low')) (h2 : 2 ≤ low') (hN : low' ≤ p.l.length) (hf : ∀ i, 2 ≤ i → i < low' → p.l[i]? ≠ some 0) :
    Over w' S Sd R b db U T B D low' p d := by
  obtain ⟨n1, n2, n3, n4⟩ := h.lies.bne
  have hnd : ¬ Sd b ∧ ¬ R b := h.apart b (.inl rfl)
  exact ⟨⟨h.lies.ok, hb, h.lies.used.keep f (fun e => n1 (Eq.symm e)), h.lies.taken.keep f (fun e => n2 (Eq.symm e)), h.lies.blank.keep f (fun e => n3 (Eq.symm e)), h.lies.dropped.keep f (fun e => n4 (Eq.symm e)), h.lies.ne, h2, hN, hf⟩,
    h.disk.keep f (fun k hk => by have hk : k = b := hk; subst hk; exact hnd), h.own, h.apart, h.len⟩
/-- behind some rounds of the search -/
structure LowRel (w : World) (S Sd R : Nat → Prop) (b db U T B D low : Nat) (p : Pr.Pt) (d : Dk.St) (k : Nat) (wr : World) : Prop where
  over : Over wr S Sd R b db U T B D k p d
  fr : Fr (oneB b) w wr
  le : low ≤ k
theorem stpF {l : List Nat} {i : Nat} : Pr.stp Pr.isF l i = true ↔ l[i]? = some 0 := by
  unfold Pr.stp
  cases h : l[i]? with
  | none => simp
  | some s => simp [Pr.isF]
theorem LowRel.below {w wr w1 : World} {S Sd R : Nat → Prop} {b db U T B D low k : Nat} {p : Pr.Pt} {d : Dk.St} (h : LowRel w S Sd R b db U T B D low p d k wr) (hb : Below wr.heap.size wr w1) : LowRel w S Sd R b db U T B D low p d k w1 :=
  ⟨h.over.below hb, h.fr.trans (Fr.of_below hb (oneB b)) (fun _ _ e => e), h.le⟩
theorem LowRel.next {w wr : World} {S Sd R : Nat → Prop} {b db U T B D low k : Nat} {p : Pr.Pt} {d : Dk.St} (h : LowRel w S Sd R b db U T B D low p d k wr) (hk : k < p.l.length) (hf : Pr.stp Pr.isF p.l k = false) : LowRel w S Sd R b db U T B D low p d (k + 1) (wr.setCell ⟨b, 7, none⟩ (.int .i64 ((k : Int) + 1))) := by
  have hf1 : Fr (oneB b) wr (wr.setCell ⟨b, 7, none⟩ (.int .i64 ((k : Int) + 1))) := (Fr.refl _ _).put _
  have h2 := h.over.lies.low2
  refine ⟨h.over.relow hf1 (h.over.lies.box.set 7 _) (by omega) (by omega) (fun i hi2 hi e => ?_), h.fr.trans hf1 (fun _ _ e => e), by have := h.le; omega⟩
  rcases (by omega : i < k ∨ i = k) with hik | rfl
  · exact h.over.lies.nofree i hi2 hik e
  · rw [stpF.2 e] at hf; cases hf

namespace Pr
theorem stp_keep {q : Nat → Bool} {l : List Nat} {k s : Nat} (h : k < l.length) (e : stp q l k = q s) (j : Nat) : stp q l j = stp q (l.set k s) j := by
  rw [stp_set h]
  split
  · rename_i hj; rw [hj, e]
  · rfl
theorem stp_add {q : Nat → Bool} {l : List Nat} {k s : Nat} (h : k < l.length) (e : q s = true) (j : Nat) : (j == k || stp q l j) = stp q (l.set k s) j := by
  rw [stp_set h]
  split
  · rename_i hj; rw [hj, e]; simp
  · rename_i hj; rw [beq_eq_false_iff_ne.2 hj]; rfl
theorem stp_del {q : Nat → Bool} {l : List Nat} {k s : Nat} (h : k < l.length) (e : q s = false) (j : Nat) : (j != k && stp q l j) = stp q (l.set k s) j := by
  rw [stp_set h]
  split
  · rename_i hj; rw [hj, e]; simp
  · rename_i hj; rw [bne_iff_ne.2 hj]; rfl
theorem Pt.Ok.set {p : Pt} (h : p.Ok) {k s : Nat} (hk : 2 ≤ k) (hs : s ≤ 4) : (⟨p.l.set k s, p.seq, p.root⟩ : Pt).Ok :=
  ⟨by rw [List.length_set]; exact h.some_, by rw [List.length_set]; exact h.most, fun i hi => by
    show (p.l.set k s)[i]? = _
    rw [List.getElem?_set_ne (by omega)]; exact h.two i hi, fun x hx => by
    rcases List.mem_or_eq_of_mem_set hx with e | e
    · exact h.small x e
    · omega, h.seq, by rw [List.length_set]; exact h.root⟩
theorem state_of {l : List Nat} {i s : Nat} (q : Nat → Bool) (h : l[i]? = some s) : stp q l i = q s := by
  unfold stp; rw [h]
end Pr
/-- the number in a cell -/
def cellN (w : World) (b k : Nat) : Nat := match w.cell? ⟨b, k, none⟩ with | some v => (intOf v).toNat | none => 0
theorem cellN_of {w : World} {b k n : Nat} (h : w.cell? ⟨b, k, none⟩ = some (.int .i64 (n : Int))) : cellN w b k = n := by
  unfold cellN; rw [h]; rfl
set_option maxHeartbeats 1600000 in
theorem palloc_some (w : World) (S Sd R : Nat → Prop) (b db U T B D low : Nat) (p : Pr.Pt) (d : Dk.St) (h : Over w S Sd R b db U T B D low p d) (hdead : d.dead = false) (i : Nat) (hi2 : 2 ≤ i) (hi : i < p.l.length) (hf : Pr.stp Pr.isF p.l i = true) (hmin : ∀ j, 2 ≤ j → j < i → Pr.stp Pr.isF p.l j = false) :
    Calls Try.prog 19 #[.pointer (some ⟨b, 0, none⟩)] w fun e w' => e = .returned (.tuple #[.int .i64 (i : Int), .int .i64 0]) ∧ Over w' S Sd R b db U T B D i ⟨p.l.set i 2, p.seq, p.root⟩ d ∧ Fr S w w' := by
  have HR := Lib.hid (h.refuse hdead)
  have hm := h.lies.ok.most
  have hlow : low ≤ i := Nat.le_of_not_lt fun hlt => h.lies.nofree i hi2 hlt (stpF.1 hf)
  have hrel : LowRel w S Sd R b db U T B D low p d low w := ⟨h, Fr.refl _ _, Nat.le_refl _⟩
  have H := Lib.hid hrel
  have HM := Lib.hid hmin
  have HF := Lib.hid hf
  clear h hrel hmin hf
  go_enter Try.func19, Try.ntmps19
  go_wp2_with fail
  refine HR.out.mono ?_
  rintro e w' ⟨rfl, rfl⟩
  go_wp2_with fail
  go_loopw [] (fun wr => ∃ k : Nat, k ≤ i ∧ LowRel w S Sd R b db U T B D low p d k wr) (fun wr => p.l.length - cellN wr b 7)
  case atStart => exact ⟨low, hlow, H.out⟩
  case round =>
    rename_i wr
    obtain ⟨k, hk, hrel⟩ := hrel
    have HL := Lib.hid hrel
    have hpg := fun W (hW : Below wr.heap.size wr W) => ppages_any W b db d.lasts.length (hrel.below hW).over.disk.ok.most (hrel.below hW).over.lies.cells.c0 (disk_cells (hrel.below hW).over.disk).1
    rw [← hrel.over.len] at hpg
    have hif := fun W (hW : Below wr.heap.size wr W) => isfree_any W b db U T B D k p (hrel.below hW).over.lies k (by omega)
    have c7 : wr.cell? ⟨b, 7, none⟩ = some (.int .i64 (k : Int)) := hrel.over.lies.cells.c7
    have z7 := hrel.over.lies.box.free 7
    have hkN : (k : Int) < (p.l.length : Int) := by omega
    have hbd : Below wr.heap.size wr wr.drew := Below.drew (Below.refl _ _)
    have hk2 : 2 ≤ k := hrel.over.lies.low2
    have HPG := Lib.hid (hpg wr.drew hbd)
    have HIF := Lib.hid (hif wr.drew hbd)
    have HBD := Lib.hid hbd
    have HC7 := Lib.hid (cellN_of c7)
    clear hpg hif hbd hrel
    go_upto_region 4 with fail
    go_cut [25] from 10 to 32 (fun s25 wx => s25 = .bool (!Pr.stp Pr.isF p.l k) ∧ Below wr.heap.size wr wx)
    case first =>
      go_region_with (first
        | (go_at_call 25; refine HPG.out.mono ?_; rintro e w' ⟨rfl, rfl⟩)
        | (go_at_call 44; refine HIF.out.mono ?_; rintro e w1 ⟨rfl, hb1⟩; have HB1 := Lib.hid hb1; clear hb1))
      all_goals (go_wp2_with fail; go_meet; exact ⟨rfl, HBD.out.trans HB1.out⟩)
    case rest =>
      obtain ⟨rfl, hbx⟩ := hcut
      have hL := HL.out.below hbx
      clear hbx c7 z7 HPG HIF HBD HL
      have c7 : wc.cell? ⟨b, 7, none⟩ = some (.int .i64 (k : Int)) := hL.over.lies.cells.c7
      have z7 := hL.over.lies.box.free 7
      by_cases hki : k < i
      · have hfk := HM.out k hk2 hki
        have hnx := hL.next (by omega) hfk
        have hN := Lib.hid hnx
        rw [hfk]
        clear hL hnx hfk
        go_wp2_with fail
        go_roundw
        case rel => exact ⟨k + 1, by omega, hN.out⟩
        case measure =>
          have e1 := cellN_of hN.out.over.lies.cells.c7
          rw [HC7.out]
          exact Nat.lt_of_le_of_lt (Nat.le_of_eq (congrArg (p.l.length - ·) e1)) (by omega)
      · obtain rfl : k = i := by omega
        rw [HF.out]
        have hpg6 := fun n => ppages_any (wc.drewN n) b db d.lasts.length hL.over.disk.ok.most hL.over.lies.cells.c0 (disk_cells (hL.over.keep ((Fr.refl noB wc).drewN n) (fun _ e => e.elim)).disk).1
        rw [← hL.over.len] at hpg6
        have HL := Lib.hid hL
        have HP6 := Lib.hid hpg6
        clear hL hki hpg6
        go_wp2_with fail
        go_quiet (first | (go_at_call 25; exact quiet_same (HP6.out _)))
        have hL6 := HL.out.below (w1 := wc.drewN nq) ⟨rfl, rfl, rfl, Nat.le_refl _, fun _ _ => rfl⟩
        clear HL HP6 c7 z7
        generalize wc.drewN nq = w6 at *
        have hadd := padd_any w6.drew T p.l.length _ (hL6.over.lies.taken.keep ((Fr.refl noB w6).drew) (fun e => e)) k hi (by omega)
        have c7 : w6.cell? ⟨b, 7, none⟩ = some (.int .i64 (k : Int)) := hL6.over.lies.cells.c7
        have c4 : w6.cell? ⟨b, 4, none⟩ = some (.map (some T)) := hL6.over.lies.cells.c4
        have HL6 := Lib.hid hL6
        have HA := Lib.hid hadd
        clear hL6 hadd
        go_wp2_with fail
        go_still_tail 8, (by kernel_rfl)
        change wpList _ _ _ _ _ w6.drew
        go_wp2_with fail
        refine HA.out.mono ?_
        rintro e w8 ⟨rfl, hs8, hf8⟩
        have hsz : w6.heap.size ≤ w8.heap.size := hf8.size
        have hbT := HL6.out.over.lies.bne
        have hTB := HL6.out.over.lies.ne
        have hf8' : Fr (oneB T) w6 w8 := ⟨hf8.os, hf8.tape, hf8.out, hf8.size, hf8.old⟩
        have hbox8 := HL6.out.over.lies.box.keep hf8' (fun e => hbT.2.1 e)
        have hbl8 := HL6.out.over.lies.blank.keep hf8' (fun e => hTB.2.1.1 (Eq.symm e))
        have hadd := padd_any w8.drew B p.l.length _ (hbl8.keep ((Fr.refl noB w8).drew) (fun e => e)) k hi (by omega)
        have c7' : w8.cell? ⟨b, 7, none⟩ = some (.int .i64 (k : Int)) := hbox8.cell 7
        have c5 : w8.cell? ⟨b, 5, none⟩ = some (.map (some B)) := hbox8.cell 5
        have HA := Lib.hid hadd
        have HS8 := Lib.hid hs8
        have HF8 := Lib.hid hf8'
        have HB8 := Lib.hid hbox8
        clear hs8 hf8 hf8' hbox8 hbl8 hadd c7 c4
        go_wp2_with fail
        go_still_tail 8, (by kernel_rfl)
        change wpList _ _ _ _ _ w8.drew
        go_wp2_with fail
        refine HA.out.mono ?_
        rintro e w9 ⟨rfl, hs9, hf9⟩
        have hf9' : Fr (oneB B) w8 w9 := ⟨hf9.os, hf9.tape, hf9.out, hf9.size, hf9.old⟩
        have hbox9 := HB8.out.keep hf9' (fun e => hbT.2.2.1 e)
        have c7 : w9.cell? ⟨b, 7, none⟩ = some (.int .i64 (k : Int)) := hbox9.cell 7
        have HS9 := Lib.hid hs9
        have HF9 := Lib.hid hf9'
        have HB9 := Lib.hid hbox9
        clear hs9 hf9 hf9' hbox9 c7' c5
        go_wp2_with fail
        go_ret2
        have hov := HL6.out.over
        have hf0 := stpF.1 HF.out
        have hk0 : ∀ q : Nat → Bool, q 0 = q 2 → ∀ j, Pr.stp q p.l j = Pr.stp q (p.l.set k 2) j := fun q hq j => Pr.stp_keep hi (by rw [Pr.state_of q hf0, hq]) j
        have hfT : Fr (fun x => x = T ∨ x = B) w6 w9 := (HF8.out.wide (fun _ _ e => .inl e)).trans HF9.out (fun _ _ e => .inr e)
        have hlset : (p.l.set k 2).length = p.l.length := List.length_set
        refine ⟨rfl, ⟨⟨hov.lies.ok.set hk2 (by omega), HB9.out, ?_, ?_, ?_, ?_, hov.lies.ne, hk2, by show k ≤ (p.l.set k 2).length; rw [hlset]; omega, fun i h2 hik => ?_⟩, hov.disk.keep hfT (fun x hx => ?_), hov.own, hov.apart, ?_⟩, ?_⟩
        · show SetAt w9 U (p.l.set k 2).length (Pr.stp Pr.isU (p.l.set k 2))
          rw [hlset]
          exact (hov.lies.used.keep hfT (fun e => Or.elim e hTB.1.1 hTB.1.2.1)).congr (hk0 _ rfl)
        · show SetAt w9 T (p.l.set k 2).length (Pr.stp Pr.isT (p.l.set k 2))
          rw [hlset]
          exact (HS8.out.keep HF9.out (fun e => hTB.2.1.1 e)).congr (Pr.stp_add hi rfl)
        · show SetAt w9 B (p.l.set k 2).length (Pr.stp Pr.isB (p.l.set k 2))
          rw [hlset]
          exact HS9.out.congr (Pr.stp_add hi rfl)
        · show SetAt w9 D (p.l.set k 2).length (Pr.stp Pr.isD (p.l.set k 2))
          rw [hlset]
          exact (hov.lies.dropped.keep hfT (fun e => Or.elim e (fun e => hTB.2.1.2 (Eq.symm e)) (fun e => hTB.2.2 (Eq.symm e)))).congr (hk0 _ rfl)
        · show (p.l.set k 2)[i]? ≠ some 0
          rw [List.getElem?_set_ne (by omega)]
          exact hov.lies.nofree i h2 hik
        · refine hov.apart x ?_
          rcases hx with rfl | rfl
          · exact .inr (.inr (.inl rfl))
          · exact .inr (.inr (.inr (.inl rfl)))
        · show (p.l.set k 2).length = _
          rw [hlset]; exact hov.len
        · have hfS := HL6.out.fr
          refine (hfS.wide (fun x _ e => ?_)).trans (hfT.wide (fun x _ e => ?_)) (fun _ _ e => e)
          · have e : x = b := e
            subst e
            exact (hov.own x).2 (.inr (.inl rfl))
          · exact (hov.own x).2 (.inr (by rcases e with rfl | rfl; exact .inr (.inr (.inl rfl)); exact .inr (.inr (.inr (.inl rfl)))))

set_option maxHeartbeats 1600000 in
theorem palloc_none (w : World) (S Sd R : Nat → Prop) (b db U T B D low : Nat) (p : Pr.Pt) (d : Dk.St) (h : Over w S Sd R b db U T B D low p d) (hdead : d.dead = false) (hno : ∀ j, 2 ≤ j → j < p.l.length → Pr.stp Pr.isF p.l j = false) :
    Calls Try.prog 19 #[.pointer (some ⟨b, 0, none⟩)] w fun e w' => e = .returned (.tuple #[.int .i64 0, .int .i64 3]) ∧ Over w' S Sd R b db U T B D p.l.length p d ∧ Fr S w w' := by
  have HR := Lib.hid (h.refuse hdead)
  have hm := h.lies.ok.most
  have hlow := h.lies.lowN
  have hrel : LowRel w S Sd R b db U T B D low p d low w := ⟨h, Fr.refl _ _, Nat.le_refl _⟩
  have H := Lib.hid hrel
  have HM := Lib.hid hno
  clear h hrel hno
  go_enter Try.func19, Try.ntmps19
  go_wp2_with fail
  refine HR.out.mono ?_
  rintro e w' ⟨rfl, rfl⟩
  go_wp2_with fail
  go_loopw [] (fun wr => ∃ k : Nat, k ≤ p.l.length ∧ LowRel w S Sd R b db U T B D low p d k wr) (fun wr => p.l.length - cellN wr b 7)
  case atStart => exact ⟨low, hlow, H.out⟩
  case round =>
    rename_i wr
    obtain ⟨k, hk, hrel⟩ := hrel
    have HL := Lib.hid hrel
    have hpg := fun W (hW : Below wr.heap.size wr W) => ppages_any W b db d.lasts.length (hrel.below hW).over.disk.ok.most (hrel.below hW).over.lies.cells.c0 (disk_cells (hrel.below hW).over.disk).1
    rw [← hrel.over.len] at hpg
    have c7 : wr.cell? ⟨b, 7, none⟩ = some (.int .i64 (k : Int)) := hrel.over.lies.cells.c7
    have z7 := hrel.over.lies.box.free 7
    have hbd : Below wr.heap.size wr wr.drew := Below.drew (Below.refl _ _)
    have hk2 : 2 ≤ k := hrel.over.lies.low2
    have HC7 := Lib.hid (cellN_of c7)
    by_cases hlt : k < p.l.length
    · have hif := fun W (hW : Below wr.heap.size wr W) => isfree_any W b db U T B D k p (hrel.below hW).over.lies k hlt
      have hkN : (k : Int) < (p.l.length : Int) := by omega
      have HPG := Lib.hid (hpg wr.drew hbd)
      have HIF := Lib.hid (hif wr.drew hbd)
      have HBD := Lib.hid hbd
      clear hpg hif hbd hrel
      go_upto_region 4 with fail
      go_cut [25] from 10 to 32 (fun s25 wx => s25 = .bool (!Pr.stp Pr.isF p.l k) ∧ Below wr.heap.size wr wx)
      case first =>
        go_region_with (first
          | (go_at_call 25; refine HPG.out.mono ?_; rintro e w' ⟨rfl, rfl⟩)
          | (go_at_call 44; refine HIF.out.mono ?_; rintro e w1 ⟨rfl, hb1⟩; have HB1 := Lib.hid hb1; clear hb1))
        all_goals (go_wp2_with fail; go_meet; exact ⟨rfl, HBD.out.trans HB1.out⟩)
      case rest =>
        obtain ⟨rfl, hbx⟩ := hcut
        have hL := HL.out.below hbx
        clear hbx c7 z7 HPG HIF HBD HL
        have c7 : wc.cell? ⟨b, 7, none⟩ = some (.int .i64 (k : Int)) := hL.over.lies.cells.c7
        have z7 := hL.over.lies.box.free 7
        have hfk := HM.out k hk2 hlt
        have hnx := hL.next hlt hfk
        have hN := Lib.hid hnx
        rw [hfk]
        clear hL hnx hfk
        go_wp2_with fail
        go_roundw
        case rel => exact ⟨k + 1, by omega, hN.out⟩
        case measure =>
          have e1 := cellN_of hN.out.over.lies.cells.c7
          rw [HC7.out]
          exact Nat.lt_of_le_of_lt (Nat.le_of_eq (congrArg (p.l.length - ·) e1)) (by omega)
    · have hkk : k = p.l.length := by omega
      subst hkk
      have HPG := Lib.hid (fun n => hpg (wr.drewN n) ⟨rfl, rfl, rfl, Nat.le_refl _, fun _ _ => rfl⟩)
      clear hpg hbd hrel hlt
      go_upto_region 4 with fail
      go_quiet (first | (go_at_call 25; exact quiet_same (HPG.out _)))
      have hL6 := HL.out.below (w1 := wr.drewN nq) ⟨rfl, rfl, rfl, Nat.le_refl _, fun _ _ => rfl⟩
      clear HL HPG c7 z7
      generalize wr.drewN nq = w6 at *
      have c7 : w6.cell? ⟨b, 7, none⟩ = some (.int .i64 (p.l.length : Int)) := hL6.over.lies.cells.c7
      have hpg := fun n => ppages_any (w6.drewN n) b db d.lasts.length hL6.over.disk.ok.most hL6.over.lies.cells.c0 (disk_cells (hL6.over.keep ((Fr.refl noB w6).drewN n) (fun _ e => e.elim)).disk).1
      rw [← hL6.over.len] at hpg
      have HL6 := Lib.hid hL6
      have HPG := Lib.hid hpg
      clear hL6 hpg
      go_wp2_with fail
      go_quiet (first | (go_at_call 25; exact quiet_same (HPG.out _)))
      have HL7 := Lib.hid (HL6.out.below (w1 := w6.drewN nq) ⟨rfl, rfl, rfl, Nat.le_refl _, fun _ _ => rfl⟩)
      clear HL6 HPG c7
      generalize w6.drewN nq = w7 at *
      go_wp2_with fail
      go_ret2
      exact ⟨rfl, HL7.out.over, HL7.out.fr.wide (fun x _ e => by
        have e : x = b := e
        subst e
        exact (HL7.out.over.own x).2 (.inr (.inl rfl)))⟩
end Go.Proofs.Ythlmjnlakenmoaa

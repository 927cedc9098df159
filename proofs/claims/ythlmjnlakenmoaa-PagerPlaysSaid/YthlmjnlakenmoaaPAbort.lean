/-
  Abort of a pager.
-/
import Derived.Test.YthlmjnlakenmoaaPDone
namespace Go.Proofs.Ythlmjnlakenmoaa
open Go.RowKit Go.Maps
set_option maxRecDepth 100000

theorem pabort_nil (w : World) : Calls Try.prog 24 #[.pointer none] w fun e w' => e = .returned (.int .i64 2) ∧ w = w' := by
  go_enter Try.func24, Try.ntmps24
  go_wp2_with fail
  refine (prefuse_nil _).mono ?_
  rintro e w' ⟨rfl, rfl⟩
  go_wp2_with fail
  go_ret
  exact ⟨rfl, rfl⟩
theorem pabort_dead (w : World) (b db : Nat) (hp : w.cell? ⟨b, 0, none⟩ = some (.pointer (some ⟨db, 0, none⟩))) (hd : w.cell? ⟨db, 4, none⟩ = some (.bool true)) : Calls Try.prog 24 #[.pointer (some ⟨b, 0, none⟩)] w fun e w' => e = .returned (.int .i64 20) ∧ w = w' := by
  have hr := prefuse_any w b db true hp hd
  rw [if_pos rfl] at hr
  have HR := Lib.hid hr
  clear hr hp hd
  go_enter Try.func24, Try.ntmps24
  go_wp2_with fail
  refine HR.out.mono ?_
  rintro e w' ⟨rfl, rfl⟩
  go_wp2_with fail
  go_ret
  exact ⟨rfl, rfl⟩

namespace Pr
/-- a page behind an abort -/
def abo (s : Nat) : Nat := if s == 2 || s == 3 then 0 else if s == 4 then 1 else s
def aborted (p : Pt) : Pt := ⟨p.l.map abo, p.seq, p.root⟩
theorem five {l : List Nat} (hs : ∀ s ∈ l, s ≤ 4) {P : Nat → Prop} (h : P 0 ∧ P 1 ∧ P 2 ∧ P 3 ∧ P 4) (s : Nat) (hm : s ∈ l) : P s := by
  have := hs s hm
  have : s = 0 ∨ s = 1 ∨ s = 2 ∨ s = 3 ∨ s = 4 := by omega
  rcases this with rfl | rfl | rfl | rfl | rfl
  · exact h.1
  · exact h.2.1
  · exact h.2.2.1
  · exact h.2.2.2.1
  · exact h.2.2.2.2
theorem abo_used {l : List Nat} (hs : ∀ s ∈ l, s ≤ 4) (j : Nat) : stp isU l j = stp isU (l.map abo) j := by
  rw [stp_map]
  exact stp_congr (five hs (P := fun s => isU s = isU (abo s)) ⟨rfl, rfl, rfl, rfl, rfl⟩) j
theorem abo_none {l : List Nat} (hs : ∀ s ∈ l, s ≤ 4) (q : Nat → Bool) (h0 : q 0 = false) (h1 : q 1 = false) (j : Nat) : stp q (l.map abo) j = false := by
  rw [stp_map]
  have : stp (fun s => q (abo s)) l j = stp (fun _ => false) l j := stp_congr (five hs (P := fun s => q (abo s) = false) ⟨h0, h1, h0, h0, h1⟩) j
  rw [this]
  unfold stp
  cases l[j]? <;> rfl
theorem aborted_ok {p : Pt} (h : p.Ok) : (aborted p).Ok :=
  ⟨by simp only [aborted, List.length_map]; exact h.some_, by simp only [aborted, List.length_map]; exact h.most, fun i hi => by simp only [aborted, List.getElem?_map, h.two i hi]; rfl, fun s hs => by
    simp only [aborted, List.mem_map] at hs
    obtain ⟨x, hx, rfl⟩ := hs
    have := h.small x hx
    unfold abo
    split
    · omega
    · split <;> omega, h.seq, by simp only [aborted, List.length_map]; exact h.root⟩
end Pr

/-- the loop of an abort -/
structure Abt (w : World) (b db U T B D r N : Nat) (p : Pr.Pt) (low : Nat) (g : Nat → Bool) (c : Nat) (wr : World) : Prop where
  box : Has wr b 83 (pagerCells db p U T B D low)
  go : SetGo wr T r N (Pr.stp Pr.isT p.l) g c
  fr : Fr (fun k => k = b ∨ k = r) w wr
  low2 : 2 ≤ low
  lowN : low ≤ N
  free : ∀ i, 2 ≤ i → i < low → Pr.stp Pr.isF p.l i = false ∧ (Pr.stp Pr.isT p.l i = true → g i = true)
theorem Abt.next {w wr w1 : World} {b db U T B D r N : Nat} {p : Pr.Pt} {low : Nat} {g : Nat → Bool} {c c' : Nat} (h : Abt w b db U T B D r N p low g c wr) (hne : b ≠ T ∧ b ≠ r) (i : Nat) (hi2 : 2 ≤ i)
    (h1 : SetGo w1 T r N (Pr.stp Pr.isT p.l) (fun j => g j && j != i) c') (f1 : Fr (oneB r) wr w1) (v : Int) (hv : ((min low i : Nat) : Int) = v) :
    Abt w b db U T B D r N p (min low i) (fun j => g j && j != i) c' (w1.setCell ⟨b, 7, none⟩ (.int .i64 v)) := by
  subst hv
  have fb : Fr (oneB b) w1 (w1.setCell ⟨b, 7, none⟩ (.int .i64 ((min low i : Nat) : Int))) := (Fr.refl _ _).put _
  refine ⟨(h.box.keep f1 (fun e => hne.2 e)).set 7 _, h1.keep fb (fun e => hne.1 (Eq.symm e)) (fun e => hne.2 (Eq.symm e)), h.fr.trans ((f1.wide (T := fun k => k = b ∨ k = r) (fun _ _ e => .inr e)).trans (fb.wide (fun _ _ e => .inl e)) (fun _ _ e => e)) (fun _ _ e => e), by have := h.low2; omega, by have := h.lowN; omega, fun j hj2 hj => ?_⟩
  obtain ⟨e1, e2⟩ := h.free j hj2 (by omega)
  refine ⟨e1, fun hd => ?_⟩
  rw [e2 hd]
  have : j ≠ i := by omega
  simp [this]
set_option maxHeartbeats 1600000 in
theorem pabort_ok (w : World) (S Sd R : Nat → Prop) (b db U T B D low : Nat) (p : Pr.Pt) (d : Dk.St) (h : Over w S Sd R b db U T B D low p d) (hdead : d.dead = false) :
    Calls Try.prog 24 #[.pointer (some ⟨b, 0, none⟩)] w fun e w' => e = .returned (.int .i64 0) ∧ ∃ T' B' D' low', PGoes w S R b db U T' B' D' low' (Pr.aborted p) d w' := by
  have HR := Lib.hid (h.refuse hdead)
  have hmost := h.lies.ok.most
  have c4 := h.lies.cells.c4
  have H := Lib.hid h
  have HT := Lib.hid h.lies.taken
  clear h
  go_enter Try.func24, Try.ntmps24
  go_wp2_with fail
  refine HR.out.mono ?_
  rintro e w' ⟨rfl, rfl⟩
  go_wp2_with (first | (at_range; refine wpList_range_set _ rfl _ rfl T p.l.length (Pr.stp Pr.isT p.l) rfl HT.out ?_; intro w4 hgo4 hf4) | go_in)
  go_frame
  have hblt := H.out.lies.lt b (.inl rfl)
  have hN4 : b ≠ T ∧ b ≠ w.heap.size := ⟨H.out.lies.bne.2.1, by omega⟩
  have hrel0 : Abt w4 b db U T B D w.heap.size p.l.length p low (Pr.stp Pr.isT p.l) (w4.rangeLeft T w.heap.size) w4 :=
    ⟨H.out.lies.box.keep hf4.out (fun e => e), hgo4.out, Fr.refl _ _, H.out.lies.low2, H.out.lies.lowN, fun i hi2 hi => ⟨by
      have := H.out.lies.nofree i hi2 hi
      rw [Bool.eq_false_iff]
      exact fun e => this (stpF.1 e), fun e => e⟩⟩
  have HR0 := Lib.hid hrel0
  have HF4 := Lib.hid hf4.out
  have HN4 := Lib.hid hN4
  clear hrel0 hgo4 hf4 hN4 c4 HT
  go_loopw [] (fun wr => ∃ low' g c, Abt w4 b db U T B D w.heap.size p.l.length p low' g c wr) (fun wr => wr.rangeLeft T w.heap.size)
  case atStart => exact ⟨_, _, _, HR0.out⟩
  case round =>
    rename World => wo
    obtain ⟨low', g, c, hrel⟩ := hrel
    have HD := Lib.hid hrel
    clear hrel
    go_wp2_with (at_next; refine wpList_next_set _ rfl _ rfl T w.heap.size p.l.length c (Pr.stp Pr.isT p.l) g rfl HD.out.go ?_ ?_)
    · intro hz
      have hbg := begin_any wo b _ _ _ _ _ _ _ _ p.l.length HD.out.box
      have HBG := Lib.hid hbg
      have HZ := Lib.hid hz
      clear hbg hz
      go_wp2_with fail
      refine HBG.out.mono ?_
      rintro e w8 ⟨rfl, k1, k2, k3, k4, k5⟩
      have K1 := Lib.hid k1
      have K2 := Lib.hid k2
      have K3 := Lib.hid k3
      have K4 := Lib.hid k4
      have K5 := Lib.hid k5
      clear k1 k2 k3 k4 k5 HBG
      go_wp2_with fail
      go_ret
      have hov := H.out
      have hU := hov.lies.lt U (.inr (.inl rfl))
      have f8 : Fr (fun k => k = b ∨ w.heap.size ≤ k) w w8 := (HF4.out.wide (fun _ _ e => e.elim)).trans ((HD.out.fr.wide (T := fun k => k = b ∨ w.heap.size ≤ k) (fun _ _ e => by
        rcases e with e | e
        · exact .inl e
        · exact .inr (by omega))).trans (K5.out.wide (fun _ _ e => .inl e)) (fun _ _ e => e)) (fun _ _ e => e)
      have hwo : w.heap.size ≤ wo.heap.size := Nat.le_trans HF4.out.size HD.out.fr.size
      have hclen : (Pr.aborted p).l.length = p.l.length := List.length_map ..
      have hnone : ∀ q : Nat → Bool, q 0 = false → q 1 = false → ∀ M, SetAt w8 M p.l.length (fun _ => false) → SetAt w8 M (Pr.aborted p).l.length (Pr.stp q (Pr.aborted p).l) := fun q h0 h1 M h => by
        rw [hclen]
        exact h.congr fun j => (Pr.abo_none hov.lies.ok.small q h0 h1 j).symm
      refine ⟨rfl, wo.heap.size, wo.heap.size + 1, wo.heap.size + 2, low', fun k => Sd k ∨ pS b U wo.heap.size (wo.heap.size + 1) (wo.heap.size + 2) k, Sd, ⟨⟨Pr.aborted_ok hov.lies.ok, K1.out, ?_, hnone _ rfl rfl _ K2.out, hnone _ rfl rfl _ K3.out, hnone _ rfl rfl _ K4.out, ⟨⟨by omega, by omega, by omega⟩, ⟨by omega, by omega⟩, by omega⟩, HD.out.low2, by rw [hclen]; exact HD.out.lowN, fun i hi2 hil => ?_⟩, hov.disk.keep f8 (fun k hk => ?_), fun _ => Iff.rfl, fun k hk => ?_, by rw [hclen]; exact hov.len⟩, ?_, fun k hk => ?_⟩
      · rw [hclen]
        exact (hov.lies.used.keep f8 (fun e => by
          rcases e with e | e
          · exact hov.lies.bne.1 (Eq.symm e)
          · omega)).congr (Pr.abo_used hov.lies.ok.small)
      · obtain ⟨e1, e2⟩ := HD.out.free i hi2 hil
        have hD0 : Pr.stp Pr.isT p.l i = false := by
          cases hh : Pr.stp Pr.isT p.l i
          · rfl
          · have := e2 hh
            rw [HZ.out i] at this
            exact this.symm
        show (p.l.map Pr.abo)[i]? ≠ some 0
        rw [List.getElem?_map]
        intro hc
        cases hx : p.l[i]? with
        | none => rw [hx] at hc; cases hc
        | some x =>
          rw [hx] at hc
          rw [Pr.state_of _ hx] at e1 hD0
          have hs4 := hov.lies.ok.small x (List.mem_of_getElem? hx)
          have : x = 0 ∨ x = 1 ∨ x = 2 ∨ x = 3 ∨ x = 4 := by omega
          rcases this with rfl | rfl | rfl | rfl | rfl
          · cases e1
          · cases hc
          · cases hD0
          · cases hD0
          · cases hc
      · rcases hk with rfl | e
        · exact hov.apart k (.inl rfl)
        · exact ⟨fun e2 => by have := hov.disk.lt k e2; omega, fun e2 => by have := (hov.disk.rlow k e2).1; omega⟩
      · rcases hk with rfl | rfl | e
        · exact hov.apart k (.inl rfl)
        · exact hov.apart k (.inr (.inl rfl))
        · exact ⟨fun e2 => by have := hov.disk.lt k e2; rcases e with rfl | rfl | rfl <;> omega, fun e2 => by have := (hov.disk.rlow k e2).1; rcases e with rfl | rfl | rfl <;> omega⟩
      · exact f8.wide (fun k hk e => by
          rcases e with rfl | e
          · exact (hov.own k).2 (.inr (.inl rfl))
          · omega)
      · rcases hk with e | e
        · exact .inl ((hov.own k).2 (.inl e))
        · rcases e with rfl | rfl | e
          · exact .inl ((hov.own k).2 (.inr (.inl rfl)))
          · exact .inl ((hov.own k).2 (.inr (.inr (.inl rfl))))
          · exact .inr (by rcases e with rfl | rfl | rfl <;> omega)
    · intro i w5 c5 hgi hfi hiN hgo5 hclt hf5 hen
      have hi2 : 2 ≤ i := by
        refine Nat.le_of_not_lt fun hlt => ?_
        rw [Pr.state_of _ (H.out.lies.ok.two i (by omega))] at hfi
        cases hfi
      have hbx5 := HD.out.box.keep hf5.out (fun e => HN4.out.2 e)
      have c7 : w5.cell? ⟨b, 7, none⟩ = some (.int .i64 (low' : Int)) := hbx5.cell 7
      have z7 := hbx5.free 7
      have hnx := HD.out.next HN4.out i hi2 hgo5.out hf5.out
      have HNX := Lib.hid hnx
      clear hnx hbx5 hgo5 hf5
      have hmin : ((min low' i : Nat) : Int) = if i < low' then (i : Int) else (low' : Int) := by split <;> omega
      have HM := Lib.hid hmin
      clear hmin
      go_wp2_with fail
      go_roundw
      case rel => exact ⟨_, _, _, HNX.out _ HM.out⟩
      case measure => rw [(HNX.out _ HM.out).go.count, HD.out.go.count]; exact hclt
end Go.Proofs.Ythlmjnlakenmoaa

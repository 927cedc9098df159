/-
  Commit of a pager.
-/
import Derived.Test.YthlmjnlakenmoaaPKeep
import Derived.Test.YthlmjnlakenmoaaPWrite
namespace Go.Proofs.Ythlmjnlakenmoaa
open Go.RowKit Go.Maps
set_option maxRecDepth 100000

theorem pcommit_nil (w : World) (i : Int) : Calls Try.prog 13 #[.pointer none, .int .i64 i] w fun e w' => e = .returned (.int .i64 2) ∧ w = w' := by
  go_enter Try.func13, Try.ntmps13
  go_wp2_with fail
  refine (prefuse_nil _).mono ?_
  rintro e w' ⟨rfl, rfl⟩
  go_wp2_with fail
  go_ret
  exact ⟨rfl, rfl⟩
theorem pcommit_dead (w : World) (b db : Nat) (i : Int) (hp : w.cell? ⟨b, 0, none⟩ = some (.pointer (some ⟨db, 0, none⟩))) (hd : w.cell? ⟨db, 4, none⟩ = some (.bool true)) : Calls Try.prog 13 #[.pointer (some ⟨b, 0, none⟩), .int .i64 i] w fun e w' => e = .returned (.int .i64 20) ∧ w = w' := by
  have hr := prefuse_any w b db true hp hd
  rw [if_pos rfl] at hr
  have HR := Lib.hid hr
  clear hr hp hd
  go_enter Try.func13, Try.ntmps13
  go_wp2_with fail
  refine HR.out.mono ?_
  rintro e w' ⟨rfl, rfl⟩
  go_wp2_with fail
  go_ret
  exact ⟨rfl, rfl⟩
theorem pcommit_arg (w : World) (S Sd R : Nat → Prop) (b db U T B D low : Nat) (p : Pr.Pt) (d : Dk.St) (h : Over w S Sd R b db U T B D low p d) (hdead : d.dead = false) (i : Int) (h0 : i ≠ 0) (hi : ¬ (2 ≤ i ∧ i < (p.l.length : Int))) :
    Calls Try.prog 13 #[.pointer (some ⟨b, 0, none⟩), .int .i64 i] w fun e w' => e = .returned (.int .i64 1) ∧ w = w' := by
  have HR := Lib.hid (h.refuse hdead)
  have HH := Lib.hid (h.has i false (decide_eq_false hi))
  have hne : (i != 0) = true := by rw [bne_iff_ne]; exact h0
  clear h hi
  go_enter Try.func13, Try.ntmps13
  go_wp2_with fail
  refine HR.out.mono ?_
  rintro e w' ⟨rfl, rfl⟩
  go_wp2_with fail
  refine HH.out.mono ?_
  rintro e w' ⟨rfl, rfl⟩
  go_wp2_with fail
  go_ret
  exact ⟨rfl, rfl⟩

/-- may the page be a root? -/
def Pr.isOk (s : Nat) : Bool := s == 1 || s == 3
theorem ok_three {l : List Nat} (hs : ∀ s ∈ l, s ≤ 4) {n : Nat} (hn : n < l.length) : (Pr.stp Pr.isF l n = false ∧ Pr.stp Pr.isD l n = false ∧ Pr.stp Pr.isB l n = false) ↔ Pr.stp Pr.isOk l n = true := by
  rw [Pr.stp_at hn, Pr.stp_at hn, Pr.stp_at hn, Pr.stp_at hn]
  have := hs _ (List.getElem_mem hn)
  have : l[n] = 0 ∨ l[n] = 1 ∨ l[n] = 2 ∨ l[n] = 3 ∨ l[n] = 4 := by omega
  rcases this with e | e | e | e | e <;> rw [e] <;> simp [Pr.isF, Pr.isD, Pr.isB, Pr.isOk]
set_option maxHeartbeats 1600000 in
theorem pcommit_state (w : World) (S Sd R : Nat → Prop) (b db U T B D low : Nat) (p : Pr.Pt) (d : Dk.St) (h : Over w S Sd R b db U T B D low p d) (hdead : d.dead = false) (n : Nat) (hn2 : 2 ≤ n) (hn : n < p.l.length) (hok : Pr.stp Pr.isOk p.l n = false) :
    Calls Try.prog 13 #[.pointer (some ⟨b, 0, none⟩), .int .i64 (n : Int)] w fun e w' => e = .returned (.int .i64 250) ∧ Below w.heap.size w w' := by
  have HR := Lib.hid (h.refuse hdead)
  have HH := Lib.hid (h.has n true (decide_eq_true (by omega)))
  have hne : ((n : Int) != 0) = true := by rw [bne_iff_ne]; omega
  have hmost := h.lies.ok.most
  have h3 : ¬ (Pr.stp Pr.isF p.l n = false ∧ Pr.stp Pr.isD p.l n = false ∧ Pr.stp Pr.isB p.l n = false) := fun e => by rw [(ok_three h.lies.ok.small hn).1 e] at hok; cases hok
  have hif := isfree_any w b db U T B D low p h.lies n hn
  have HF := Lib.hid hif
  have H := Lib.hid h
  clear h hif hok
  cases hf : Pr.stp Pr.isF p.l n
  · rw [hf] at HF
    cases hd : Pr.stp Pr.isD p.l n
    · cases hb : Pr.stp Pr.isB p.l n
      · exact absurd ⟨hf, hd, hb⟩ h3
      · clear h3
        have HDD := Lib.hid hd
        have HBB := Lib.hid hb
        clear hf hd hb
        go_enter Try.func13, Try.ntmps13
        go_wp2_with fail
        refine HR.out.mono ?_
        rintro e w' ⟨rfl, rfl⟩
        go_wp2_with fail
        refine HH.out.mono ?_
        rintro e w' ⟨rfl, rfl⟩
        go_wp2_with fail
        refine HF.out.mono ?_
        rintro e w1 ⟨rfl, hb1⟩
        have h1 := H.out.below hb1
        have c6 := h1.lies.cells.c6
        have hdr := phas_any w1 D _ _ h1.lies.dropped n (by omega)
        rw [HDD.out] at hdr
        have HDR := Lib.hid hdr
        have HB1 := Lib.hid hb1
        clear hb1 h1 hdr
        go_wp2_with fail
        refine HDR.out.mono ?_
        rintro e w2 ⟨rfl, hb2⟩
        have hB2 := HB1.out.trans (hb2.mono HB1.out.size)
        have h2 := H.out.below hB2
        have c5 := h2.lies.cells.c5
        have hbl := phas_any w2 B _ _ h2.lies.blank n (by omega)
        rw [HBB.out] at hbl
        have HBL := Lib.hid hbl
        have HB2 := Lib.hid hB2
        clear hb2 hB2 h2 hbl c6
        go_wp2_with fail
        refine HBL.out.mono ?_
        rintro e w3 ⟨rfl, hb3⟩
        have HB3 := Lib.hid (HB2.out.trans (hb3.mono HB2.out.size))
        clear hb3
        go_wp2_with fail
        go_ret
        exact ⟨rfl, HB3.out⟩
    · have HDD := Lib.hid hd
      clear hf hd h3
      go_enter Try.func13, Try.ntmps13
      go_wp2_with fail
      refine HR.out.mono ?_
      rintro e w' ⟨rfl, rfl⟩
      go_wp2_with fail
      refine HH.out.mono ?_
      rintro e w' ⟨rfl, rfl⟩
      go_wp2_with fail
      refine HF.out.mono ?_
      rintro e w1 ⟨rfl, hb1⟩
      have h1 := H.out.below hb1
      have c6 := h1.lies.cells.c6
      have hdr := phas_any w1 D _ _ h1.lies.dropped n (by omega)
      rw [HDD.out] at hdr
      have HDR := Lib.hid hdr
      have HB1 := Lib.hid hb1
      clear hb1 h1 hdr
      go_wp2_with fail
      refine HDR.out.mono ?_
      rintro e w2 ⟨rfl, hb2⟩
      have HB2 := Lib.hid (HB1.out.trans (hb2.mono HB1.out.size))
      clear hb2 c6
      go_wp2_with fail
      go_ret
      exact ⟨rfl, HB2.out⟩
  · rw [hf] at HF
    clear hf h3
    go_enter Try.func13, Try.ntmps13
    go_wp2_with fail
    refine HR.out.mono ?_
    rintro e w' ⟨rfl, rfl⟩
    go_wp2_with fail
    refine HH.out.mono ?_
    rintro e w' ⟨rfl, rfl⟩
    go_wp2_with fail
    refine HF.out.mono ?_
    rintro e w1 ⟨rfl, hb1⟩
    have HB1 := Lib.hid hb1
    clear hb1
    go_wp2_with fail
    go_ret
    exact ⟨rfl, HB1.out⟩
end Go.Proofs.Ythlmjnlakenmoaa

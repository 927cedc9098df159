/-
  What the laws do with items: are they few; as the program has them; are the items these?
-/
import Derived.Test.YtfbdikaaeedeoaaDoorKTree
import Derived.Test.YtfbdikaaeedeoaaDoorKLaw
namespace Go.Proofs.YtfbdikaaeedeoaaDoor
open Go.RowKit Go.Maps
open Ky (Its)
set_option maxRecDepth 100000

/-- where a loop over items stands: j are behind, r is left -/
def IRel (B : Nat) (w : World) (A : Option Addr) (t : Its) (j : Nat) (r : Its) : Prop := j + r.len = t.len ∧ r.size ≤ t.size ∧ r.weight ≤ t.weight ∧ (r ≠ .nil → ∃ g o, A = some ⟨g, o, none⟩ ∧ g < B ∧ At w B g (o + j * 4) r)
theorem IRel.start {B : Nat} {w : World} {A : Option Addr} {t : Its} (h : SlAt w B A t) : IRel B w A t 0 t := ⟨by simp, Nat.le_refl _, Nat.le_refl _, fun hn => by simpa using h hn⟩
theorem IRel.next {B g o j : Nat} {w w' : World} {t : Its} {k : UInt8} {n : Int} {s : List UInt8} {sub r : Its} (h : IRel B w (some ⟨g, o, none⟩) t j (.cons k n s sub r)) (hg : g < B) (hat : At w' B g (o + j * 4 + 4) r) : IRel B w' (some ⟨g, o, none⟩) t (j + 1) r := by
  obtain ⟨h1, h2, h3, _⟩ := h
  simp only [Its.len, Its.size, Its.weight] at h1 h2 h3
  exact ⟨by omega, by omega, by omega, fun _ => ⟨g, o, rfl, hg, by rw [show o + (j + 1) * 4 = o + j * 4 + 4 by omega]; exact hat⟩⟩
theorem IRel.below {B M j : Nat} {w w' : World} {A : Option Addr} {t r : Its} (h : IRel B w A t j r) (hb : Below M w w') (hB : B ≤ M) : IRel B w' A t j r :=
  ⟨h.1, h.2.1, h.2.2.1, fun hn => by
    obtain ⟨g, o, e, hg, hat⟩ := h.2.2.2 hn
    exact ⟨g, o, e, hg, hat.below hg hb hB⟩⟩
set_option maxHeartbeats 1600000 in
theorem small_any (N : Nat) : ∀ (t : Its) (w : World) (A : Option Addr) (c B : Nat) (left : Int) (deep : Nat), t.size < N → t.weight ≤ 1048576 → SlAt w B A t → 0 ≤ left + 1 → left ≤ 2000 → deep ≤ 41 →
    Calls Tryd.prog 20 #[.slice A t.len c, .int .i64 left, .int .i64 (deep : Int)] w fun e w' => (∃ n : Int, e = .returned (.int .i64 n) ∧ 0 ≤ n + 1 ∧ n ≤ 2000) ∧ w = w' := by
  induction N with
  | zero => intro t w A c B left deep hN; omega
  | succ N ih =>
    intro t w A c B left deep hN hw hsl h0 h1 hd
    have HR := Lib.hid (IRel.start hsl)
    have HN := Lib.hid hN
    have HW := Lib.hid hw
    have HIH := Lib.hid ih
    have hlm : (t.len : Int) ≤ 1048576 := by have := Its.len_size t; have := Its.size_weight t; omega
    have HD := Lib.hid hd
    clear ih hsl hN hw hd
    by_cases hdp : 40 < deep
    · have hdp' : decide ((40 : Int) < (deep : Int)) = true := decide_eq_true (by omega)
      clear hdp
      go_enter Tryd.func20, Tryd.ntmps20
      go_wp2_with fail
      go_ret
      exact ⟨⟨-1, rfl, by omega, by omega⟩, rfl⟩
    · have hdp' : decide ((40 : Int) < (deep : Int)) = false := decide_eq_false (by omega)
      have HDP := Lib.hid hdp
      clear hdp
      go_enter Tryd.func20, Tryd.ntmps20
      go_wp2_with fail
      clear hdp'
      have hd40 : (deep : Int) ≤ 100 := by have := HDP.out; omega
      go_loop [1, 7] (fun x i => ∃ (lf : Int) (j : Nat) (r : Its), 0 ≤ lf + 1 ∧ lf ≤ 2000 ∧ x = .int .i64 lf ∧ i = .int .i64 j ∧ Hid (IRel B w A t j r)) (fun _ i => t.len - (intOf i).toNat)
      case atStart => exact ⟨left, 0, t, h0, h1, rfl, rfl, HR⟩
      case round =>
        obtain ⟨lf, j, r, hl0, hl1, rfl, rfl, hr⟩ := hrel
        by_cases hneg : lf < 0
        · obtain rfl : lf = -1 := by omega
          by_cases hjl : j < t.len
          · have hjl' : (j : Int) < (t.len : Int) := by omega
            go_wp2_with fail
            go_ret
            exact ⟨⟨-1, rfl, by omega, by omega⟩, rfl⟩
          · have hjl' : ¬ ((j : Int) < (t.len : Int)) := by omega
            go_wp2_with fail
            go_ret
            exact ⟨⟨-1, rfl, by omega, by omega⟩, rfl⟩
        · have hlf : 0 ≤ lf := by omega
          cases r with
          | nil =>
            have hj : j = t.len := by have := hr.out.1; simpa [Its.len] using this
            subst hj
            go_wp2_with fail
            go_ret
            exact ⟨⟨lf, rfl, hl0, hl1⟩, rfl⟩
          | cons k n s sub r =>
            have hlt : (j : Int) < (t.len : Int) := by have := hr.out.1; simp only [Its.len] at this; omega
            obtain ⟨g, o, rfl, hg, c0, c1, c2, ⟨As, cs, c3, hsub⟩, hat⟩ := hr.out.2.2.2 (by simp)
            have HI := Lib.hid (HIH.out sub w As cs B (lf - 1) (deep + 1) (by have := hr.out.2.1; have := HN.out; simp only [Its.size] at *; omega) (by have := hr.out.2.2.1; have := HW.out; simp only [Its.weight] at *; omega) (fun hn => hsub hn) (by omega) (by omega) (by have := HDP.out; omega))
            rw [show ((deep + 1 : Nat) : Int) = (deep : Int) + 1 by omega] at HI
            have HX := Lib.hid (IRel.next hr.out hg hat)
            clear hsub hat hneg
            go_wp2_with fail
            refine HI.out.mono ?_
            rintro e w' ⟨⟨m, rfl, hm0, hm1⟩, rfl⟩
            go_wp2_with fail
            go_round
            case rel => exact ⟨m, j + 1, r, hm0, hm1, rfl, by go_num, HX⟩
            case measure => (simp [intOf]) <;> omega
def GPost (w : World) (t : Its) (e : Ending) (w' : World) : Prop := (∃ A c, e = .returned (.slice A t.len c) ∧ SlX w' (fun k => w.heap.size ≤ k ∧ k < w'.heap.size) A t) ∧ Below w.heap.size w w'
set_option maxHeartbeats 3200000 in
theorem given_any (N : Nat) : ∀ (t : Its) (w : World) (A : Option Addr) (c : Nat), t.size < N → t.weight ≤ 1048576 → SlAt w w.heap.size A t →
    Calls Tryd.prog 21 #[.slice A t.len c] w (GPost w t) := by
  induction N with
  | zero => intro t w A c hN; omega
  | succ N ih =>
    intro t w A c hN hw hsl
    have HR := Lib.hid (IRel.start hsl)
    have HN := Lib.hid hN
    have HW := Lib.hid hw
    have HIH := Lib.hid ih
    have hlm : (t.len : Int) ≤ 1048576 := by have := Its.len_size t; have := Its.size_weight t; omega
    clear ih hsl hN hw
    go_enter Tryd.func21, Tryd.ntmps21
    go_wp2_with fail
    go_loopw [3, 4] (fun v i wr => ∃ (j : Nat) (d r : Its), i = .int .i64 j ∧ Hid (d.len = j ∧ t = Its.app d r) ∧ Hid (IRel w.heap.size wr A t j r) ∧ Hid (OwnI 62 wr w.heap.size v d) ∧ Hid (Below w.heap.size w wr)) (fun _ i _ => t.len - (intOf i).toNat)
    case atStart => exact ⟨0, .nil, t, rfl, Lib.hid ⟨rfl, rfl⟩, HR, Lib.hid (OwnI.nil _ _ _), Lib.hid (Below.refl _ _)⟩
    case round =>
      rename World => wr
      obtain ⟨j, d, r, rfl, hdr, hr, hO, hB⟩ := hrel
      obtain ⟨Av, cv, rfl, -, hsx⟩ := hO.out.form
      cases r with
      | nil =>
        have hj : j = t.len := by have := hr.out.1; simpa [Its.len] using this
        have htd : Hid (t = d) := Lib.hid (by have := hdr.out.2; rwa [Its.app_nil] at this)
        have hdl : d.len = t.len := by rw [← htd.out]
        rw [hdl] at hO ⊢
        subst hj
        have HSX := Lib.hid hsx
        clear hdl hsx
        go_wp2_with fail
        go_ret
        exact ⟨⟨_, _, rfl, by rw [htd.out]; exact HSX.out⟩, hB.out⟩
      | cons k n s sub r =>
        have hlt : (j : Int) < (t.len : Int) := by have := hr.out.1; simp only [Its.len] at this; omega
        obtain ⟨g, o, rfl, hg, c0, c1, c2, ⟨As, cs, c3, hsub⟩, hat⟩ := hr.out.2.2.2 (by simp)
        have hdl := hdr.out.1
        rw [hdl] at hO ⊢
        have HK : Hid (∀ W, Below w.heap.size wr W → W.cell? ⟨g, o + j * 4, none⟩ = some (.int .u8 (k.toNat : Int)) ∧ W.cell? ⟨g, o + j * 4 + 1, none⟩ = some (.int .i64 n) ∧ W.cell? ⟨g, o + j * 4 + 2, none⟩ = some (bstr s) ∧ W.cell? ⟨g, o + j * 4 + 3, none⟩ = some (.slice As sub.len cs)) := Lib.hid fun W hW => by
          have e : ∀ i, W.cell? ⟨g, i, none⟩ = wr.cell? ⟨g, i, none⟩ := fun i => hW.cell (p := ⟨g, i, none⟩) hg
          rw [e, e, e, e]
          exact ⟨c0, c1, c2, c3⟩
        have hI : ∀ W, Below wr.heap.size wr W → Calls Tryd.prog 21 #[.slice As sub.len cs] W (GPost W sub) := fun W hW => HIH.out sub W As cs (by have := hr.out.2.1; have := HN.out; simp only [Its.size] at *; omega) (by have := hr.out.2.2.1; have := HW.out; simp only [Its.weight] at *; omega) (fun hn => by
          obtain ⟨g', o', e, hg', hx⟩ := hsub hn
          exact ⟨g', o', e, by have := hB.out.size; have := hW.size; omega, At.keep (by have := hB.out.size; have := hW.size; omega) (fun b i hb => hW.cell (p := ⟨b, i, none⟩) (by have := hB.out.size; show b < _; omega)) sub hg' hx⟩)
        have HI := Lib.hid hI
        have HAT := Lib.hid hat
        have HSB := Lib.hid hdl
        clear hsub hat hI hsx hdl
        unfold bstr at *
        go_wp2_with fail
        go_region_held3 (fun W => W.cell? ⟨g, o + j * 4, none⟩ = some (.int .u8 (k.toNat : Int)) ∧ W.cell? ⟨g, o + j * 4 + 1, none⟩ = some (.int .i64 n) ∧ W.cell? ⟨g, o + j * 4 + 2, none⟩ = some (.string ⟨s.toArray⟩) ∧ W.cell? ⟨g, o + j * 4 + 3, none⟩ = some (.slice As sub.len cs)) (first | go_keep | exact HK.out _ HB2.out | exact HK.out _ HB3.out | exact HK.out _ (HB3.out.trans (F5.out.below (by have := HB3.out.size; have := hB.out.size; omega) (fun b hb => (hO.out.lt b hb).1)))) (first
          | (go_at_call 21
             refine (HI.out _ ((Below.refl _ _).drew)).mono ?_
             rintro e w2 ⟨⟨A2, c2, rfl, hs2⟩, hb2⟩
             have hbw : Below wr.heap.size wr w2 := (Below.refl wr.heap.size wr).drew.trans hb2
             have HB2 : Hid (Below w.heap.size wr w2) := Lib.hid (hbw.mono hB.out.size)
             have HB3 : Hid (Below w.heap.size wr (w2.alloc (.cells #[.int .u8 (k.toNat : Int), .int .i64 n, .string ⟨s.toArray⟩, .slice A2 sub.len c2] 62))) := Lib.hid (HB2.out.alloc (by have := hbw.size; have := hB.out.size; omega) _)
             have hO2 : OwnI 62 (w2.alloc (.cells #[.int .u8 (k.toNat : Int), .int .i64 n, .string ⟨s.toArray⟩, .slice A2 sub.len c2] 62)) w.heap.size (.slice Av j cv) d := (hO.out.below hbw).below ((Below.refl _ _).alloc (Nat.le_refl _) _)
             obtain ⟨xs, hq1, hq2⟩ := hO2.row
             rw [HSB.out] at hq1
             have HQ1 := Lib.hid hq1
             have HQ2 := Lib.hid hq2
             have HS2 : Hid (SlX (w2.alloc (.cells #[.int .u8 (k.toNat : Int), .int .i64 n, .string ⟨s.toArray⟩, .slice A2 sub.len c2] 62)) (InX (w2.alloc (.cells #[.int .u8 (k.toNat : Int), .int .i64 n, .string ⟨s.toArray⟩, .slice A2 sub.len c2] 62)) w.heap.size (.slice Av j cv)) A2 sub) := Lib.hid (hs2.keep (fun b hb => ⟨by have := hb.1; have := hB.out.size; show w.heap.size ≤ b; have h : wr.drew.heap.size = wr.heap.size := rfl; omega, by have := hb.2; simp; omega, fun e => by have := (hO.out.lt b e).2; have := hb.1; have h : wr.drew.heap.size = wr.heap.size := rfl; omega⟩) (fun b hb => Below.heap_alloc w2 _ b hb.2))
             clear hs2 hb2 hbw hO2 hq1 hq2)
          | (refine step_append_row eltI rfl (.tmp 11) (.tmp 34) rfl w.heap.size _ j xs rfl HQ1.out w2.heap.size [.int .u8 (k.toNat : Int), .int .i64 n, .string ⟨s.toArray⟩, .slice A2 sub.len c2] rfl (Has.of_alloc w2 _ _) rfl (fun u hu => by simp at hu; rcases hu with rfl | rfl | rfl | rfl <;> rfl) (by omega) (by decide) (by have := HB3.out.size; have := hB.out.size; omega) ?_
             intro g' cap w5 O5 F5 G5 Z5))
        have HB5 : Hid (Below w.heap.size wr w5) := Lib.hid (HB3.out.trans (F5.out.below (by have := HB3.out.size; have := hB.out.size; omega) (fun b hb => (hO.out.lt b hb).1)))
        have HO5 : Hid (OwnI 62 w5 w.heap.size (.slice (some ⟨g', 0, none⟩) (j + 1) cap) (Its.app d (one k n s sub))) := Lib.hid (OwnI.snoc HQ2.out HS2.out (by rw [HSB.out]; exact O5.out) F5.out (by
          rcases G5.out with h | h
          · exact .inl h.symm
          · exact .inr (congrArg some h)))
        have HX : Hid (IRel w.heap.size w5 (some ⟨g, o, none⟩) t (j + 1) r) := Lib.hid (IRel.next hr.out hg (HAT.out.below hg HB5.out (Nat.le_refl _)))
        have HDR : Hid ((Its.app d (one k n s sub)).len = j + 1 ∧ t = Its.app (Its.app d (one k n s sub)) r) := Lib.hid ⟨by rw [Its.app_len, HSB.out]; rfl, by rw [Its.app_assoc]; exact hdr.out.2⟩
        go_wp2_with fail
        go_roundw
        case rel => exact ⟨j + 1, _, r, by go_num, HDR, HX, HO5, Lib.hid (hB.out.trans HB5.out)⟩
        case measure => (simp [intOf]) <;> omega
set_option maxHeartbeats 3200000 in
theorem items_any (N : Nat) : ∀ (t : Its) (w : World) (A1 A2 : Option Addr) (c1 c2 B1 B2 : Nat), t.size < N → t.weight ≤ 1048576 → SlAt w B1 A1 t → SlAt w B2 A2 t →
    Calls Tryd.prog 24 #[.slice A1 t.len c1, .slice A2 t.len c2] w fun e w' => e = .returned (.bool true) ∧ ∃ n, w' = w.drewN n := by
  induction N with
  | zero => intro t w A1 A2 c1 c2 B1 B2 hN; omega
  | succ N ih =>
    intro t w A1 A2 c1 c2 B1 B2 hN hw h1 h2
    have HR1 := Lib.hid (IRel.start h1)
    have HR2 := Lib.hid (IRel.start h2)
    have HN := Lib.hid hN
    have HW := Lib.hid hw
    have HIH := Lib.hid ih
    have hlm : (t.len : Int) ≤ 1048576 := by have := Its.len_size t; have := Its.size_weight t; omega
    clear ih h1 h2 hN hw
    go_enter Tryd.func24, Tryd.ntmps24
    go_wp2_with fail
    go_loopw [5] (fun i wr => ∃ (j : Nat) (r : Its), i = .int .i64 j ∧ Hid (IRel B1 wr A1 t j r) ∧ Hid (IRel B2 wr A2 t j r) ∧ Hid (∃ n, wr = w.drewN n)) (fun i _ => t.len - (intOf i).toNat)
    case atStart => exact ⟨0, t, rfl, HR1, HR2, Lib.hid ⟨0, rfl⟩⟩
    case round =>
      rename World => wr
      obtain ⟨j, r, rfl, hr1, hr2, hD⟩ := hrel
      cases r with
      | nil =>
        have hj : j = t.len := by have := hr1.out.1; simpa [Its.len] using this
        subst hj
        go_wp2_with fail
        go_ret
        exact ⟨rfl, hD.out⟩
      | cons k n s sub r =>
        have hlt : (j : Int) < (t.len : Int) := by have := hr1.out.1; simp only [Its.len] at this; omega
        obtain ⟨g, o, rfl, hg, x0, x1, x2, ⟨As, cs, x3, hsub⟩, hat⟩ := hr1.out.2.2.2 (by simp)
        obtain ⟨g2, o2, rfl, hg2, y0, y1, y2, ⟨As2, cs2, y3, hsub2⟩, hat2⟩ := hr2.out.2.2.2 (by simp)
        have HI := Lib.hid (fun q => HIH.out sub (wr.drewN q) As As2 cs cs2 B1 B2 (by have := hr1.out.2.1; have := HN.out; simp only [Its.size] at *; omega) (by have := hr1.out.2.2.1; have := HW.out; simp only [Its.weight] at *; omega) (SlAt.keep (w := wr) hsub (Nat.le_refl _) (fun _ _ _ => rfl)) (SlAt.keep (w := wr) hsub2 (Nat.le_refl _) (fun _ _ _ => rfl)))
        have HX1 := Lib.hid (fun q => IRel.next (w' := wr.drewN q) hr1.out hg (At.keep (w := wr) (w' := wr.drewN q) (Nat.le_refl _) (fun _ _ _ => rfl) r hg hat))
        have HX2 := Lib.hid (fun q => IRel.next (w' := wr.drewN q) hr2.out hg2 (At.keep (w := wr) (w' := wr.drewN q) (Nat.le_refl _) (fun _ _ _ => rfl) r hg2 hat2))
        clear hsub hsub2 hat hat2
        unfold bstr at *
        go_wp2_with fail
        go_quiet ((go_at_call 24; exact Calls.quiet_of (HI.out _)))
        go_wp2_with fail
        go_roundw
        case rel => exact ⟨j + 1, r, by go_num, Lib.hid (HX1.out _), Lib.hid (HX2.out _), Lib.hid (by obtain ⟨n, h⟩ := hD.out; exact ⟨n + nq, by rw [h, World.drewN_drewN]⟩)⟩
        case measure => (simp [intOf]) <;> omega
end Go.Proofs.YtfbdikaaeedeoaaDoor

/-
  PagerCrash: does all read as behind a commit?
-/
import Derived.Test.YthlmjnlakenmoaaTexts
import Derived.Test.YthlmjnlakenmoaaPRead
import Derived.Test.YthlmjnlakenmoaaKonst
namespace Go.Proofs.Ythlmjnlakenmoaa
open Go.RowKit Go.Maps
set_option maxRecDepth 100000

/-- all reads so -/
def Good (d : Dk.St) (f : Nat → Option (List UInt8)) : Prop := ∀ n b, f n = some b → b.length ≤ 502 ∧ d.page n = Pg.made n b
theorem bstr_ne {l b : List UInt8} (h : l ≠ b) : bstr l ≠ bstr b := fun e => by
  unfold bstr at e
  injection e with e
  injection e with e
  exact h (by simpa using e)
theorem payload_le {n : Nat} {pg : List UInt8} (h : Pg.sound n pg = true) : (Pg.payload pg).length ≤ 140737488355328 := by
  unfold Pg.sound at h
  rw [Bool.and_eq_true] at h
  have := of_decide_eq_true h.1
  unfold Pg.payload
  rw [List.length_take]
  omega
set_option maxHeartbeats 1600000 in
theorem stands_any (w : World) (S Sd R : Nat → Prop) (b db U T B D low : Nat) (p : Pr.Pt) (d : Dk.St) (h : Over w S Sd R b db U T B D low p d) (hdead : d.dead = false) (hq : ∀ n, 2 ≤ n → n < p.l.length → Pr.stp Pr.isF p.l n = false ∧ Pr.stp Pr.isB p.l n = false)
    (root r M N : Nat) (f : Nat → Option (List UInt8)) (hM : TxtAt w M N f) (hf : ∀ n x, f n = some x → 2 ≤ n ∧ n < p.l.length) :
    Calls Try.prog 33 #[.pointer (some ⟨b, 0, none⟩), .int .i64 (root : Int), .agg #[.int .i64 (r : Int), .map (some M)]] w fun e w' => ∃ x, e = .returned (.bool x) ∧ Below w.heap.size w w' ∧ (root = r → Good d f → x = true) := by
  have hbx : Has (w.alloc (.cells #[.int .i64 (r : Int), .map (some M)] 64)) w.heap.size 64 #[.int .i64 (r : Int), .map (some M)] := Has.of_alloc _ _ _
  have hb1 : Below w.heap.size w (w.alloc (.cells #[.int .i64 (r : Int), .map (some M)] 64)) := (Below.refl _ _).alloc (Nat.le_refl _) _
  have hm1 := hM.keep (Fr.of_below hb1 noB) (fun e => e)
  have x0 : (w.alloc (.cells #[.int .i64 (r : Int), .map (some M)] 64)).cell? ⟨w.heap.size, 0, none⟩ = some (.int .i64 (r : Int)) := hbx.cell 0
  have x1 : (w.alloc (.cells #[.int .i64 (r : Int), .map (some M)] 64)).cell? ⟨w.heap.size, 1, none⟩ = some (.map (some M)) := hbx.cell 1
  have H := Lib.hid h
  have HM1 := Lib.hid hm1
  have HB1 := Lib.hid hb1
  have HQ := Lib.hid hq
  have HF := Lib.hid hf
  have hNl := h.lies.ok.most
  clear h hM hm1 hb1 hq hf hbx
  by_cases hroot : root = r
  · subst hroot
    generalize hw1 : w.alloc (.cells #[.int .i64 (root : Int), .map (some M)] 64) = w1 at *
    go_enter Try.func33, Try.ntmps33
    go_wp2_with (first | (at_range; refine wpList_range_txt _ rfl _ rfl M N f rfl HM1.out ?_; intro w4 hgo4 hf4) | go_in)
    go_frame
    have hw1s : w1.heap.size = w.heap.size + 1 := by rw [← hw1]; exact World.size_alloc _ _
    have hb4 : Below w.heap.size w w4 := HB1.out.trans (hf4.out.below (by omega) (fun _ e => e.elim))
    have HGO := Lib.hid hgo4.out
    have HB4 := Lib.hid hb4
    rw [hw1s]
    rw [hw1s] at HGO
    clear hgo4 hf4 hb4 hw1 HM1
    go_loopw [] (fun wr => ∃ g c, Hid (TxtGo wr M (w.heap.size + 1) N f g c) ∧ Hid (Below w.heap.size w wr)) (fun wr => wr.rangeLeft M (w.heap.size + 1))
    case atStart => exact ⟨_, _, HGO, HB4⟩
    case round =>
      rename World => wo
      obtain ⟨g, c, HG, HBO⟩ := hrel
      go_wp2_with (at_next; refine wpList_next_txt _ rfl _ rfl M (w.heap.size + 1) N c f g rfl HG.out ?_ ?_)
      · intro hz
        go_wp2_with fail
        go_ret
        exact ⟨true, rfl, HBO.out, fun _ _ => rfl⟩
      · intro i bs w5 c5 hgi hfi hiN hgo5 hlt5 hf5 hen
        obtain ⟨hi2, hil⟩ := HF.out i bs hfi
        have hb5 : Below w.heap.size w w5 := HBO.out.trans (hf5.out.below HBO.out.size (fun k e => by have e : k = w.heap.size + 1 := e; omega))
        have hov5 := H.out.below hb5
        have hrd := pread_get w5 S Sd R b db U T B D low p d hov5 hdead i hi2 hil (HQ.out i hi2 hil).1 (HQ.out i hi2 hil).2
        have hcnt := HG.out.count
        have HRD := Lib.hid hrd
        have HB5 := Lib.hid hb5
        clear hb5 hov5 hrd hgi hf5
        go_wp2_with fail
        refine HRD.out.mono ?_
        intro e w6 hpost
        rcases hpost with ⟨hs, gg, he, hg6, _, hb6⟩ | ⟨hs, rfl, hb6⟩
        · subst he
          have hcv := conv_rd w6 _ (some ⟨gg, 0, none⟩) (Pg.payload (d.page i)) (Pg.payload (d.page i)).length (Rd.of_has (o := 0) (l := Pg.payload (d.page i)) hg6 (List.take_of_length_le (by simp [bytCells_len])) (payload_le hs))
          have hgo6 := hgo5.out.keep (Fr.of_below hb6 noB) (fun e => e) (fun e => e)
          have HG6 := Lib.hid hgo6
          have HB6 := Lib.hid (HB5.out.trans (hb6.mono HB5.out.size))
          have hc6 := hgo6.count
          by_cases hpl : Pg.payload (d.page i) = bs
          · rw [hpl] at hcv
            clear hgo6 hg6 hb6 hgo5
            rw [hpl]
            unfold bstr
            unfold bstr at hcv
            go_wp2_with fail
            go_roundw
            case rel => exact ⟨_, _, HG6, HB6⟩
            case measure => rw [hc6, hcnt]; exact hlt5
          · have hneq : (Pg.payload (d.page i) == bs) = false := beq_false_of_ne hpl
            clear hgo6 hg6 hb6 hgo5
            unfold bstr
            unfold bstr at hcv
            go_wp2_with fail
            go_ret
            refine ⟨false, rfl, HB6.out, fun _ hg => ?_⟩
            obtain ⟨k1, k2⟩ := hg i bs hfi
            rw [k2, Pg.payload_made i bs k1] at hpl
            exact absurd rfl hpl
        · have HB6 := Lib.hid (HB5.out.trans (hb6.mono HB5.out.size))
          clear hb6 hgo5
          go_wp2_with fail
          go_ret
          refine ⟨false, rfl, HB6.out, fun _ hg => ?_⟩
          obtain ⟨k1, k2⟩ := hg i bs hfi
          rw [k2, Pg.sound_made i bs k1] at hs
          cases hs
  · have hne : ¬ ((root : Int) = (r : Int)) := by omega
    go_enter Try.func33, Try.ntmps33
    go_wp2_with fail
    go_ret
    exact ⟨false, rfl, HB1.out, fun e => absurd e hroot⟩
end Go.Proofs.Ythlmjnlakenmoaa

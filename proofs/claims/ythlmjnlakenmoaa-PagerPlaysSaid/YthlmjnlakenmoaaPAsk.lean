/-
  What is asked of a pager: is a page free; Free, Seq, Root.
-/
import Derived.Test.YthlmjnlakenmoaaPMem
import Derived.Test.YthlmjnlakenmoaaHeld
import Derived.BigQuiet
namespace Go.Proofs.Ythlmjnlakenmoaa
open Go.RowKit Go.Maps
set_option maxRecDepth 100000

namespace Pr
/-- is the page i free? -/
def isF (s : Nat) : Bool := s == 0
theorem free_at {p : Pt} (h : p.Ok) {i : Nat} (hi : i < p.l.length) : (!stp isU p.l i && !stp isT p.l i) = stp isF p.l i := by
  rw [stp_at hi, stp_at hi, stp_at hi]
  have := h.small _ (List.getElem_mem hi)
  have : p.l[i] = 0 ∨ p.l[i] = 1 ∨ p.l[i] = 2 ∨ p.l[i] = 3 ∨ p.l[i] = 4 := by omega
  rcases this with e | e | e | e | e <;> rw [e] <;> rfl
/-- how many pages are free -/
def freeN (l : List Nat) : Nat := cnt l.length (fun j => decide (2 ≤ j) && stp isF l j)
theorem cnt_split (l : List Nat) (hs : ∀ s ∈ l, s ≤ 4) (h2 : ∀ i, i < 2 → l[i]? = some 0) : ∀ n, n ≤ l.length → cnt n (stp isU l) + cnt n (stp isT l) + cnt n (fun j => decide (2 ≤ j) && stp isF l j) + min n 2 = n
  | 0, _ => rfl
  | n + 1, hn => by
    have ih := cnt_split l hs h2 n (by omega)
    rw [cnt_succ, cnt_succ, cnt_succ, stp_at (by omega), stp_at (by omega), stp_at (by omega)]
    have hlt : n < l.length := by omega
    by_cases hn2 : n < 2
    · have := h2 n hn2
      rw [List.getElem?_eq_getElem hlt] at this
      injection this with this
      rw [this, show isU 0 = false from rfl, show isT 0 = false from rfl, decide_eq_false (by omega)]
      simp only [Bool.false_and, Bool.false_eq_true, if_false]
      omega
    · have := hs _ (List.getElem_mem hlt)
      rw [decide_eq_true (by omega)]
      have : l[n] = 0 ∨ l[n] = 1 ∨ l[n] = 2 ∨ l[n] = 3 ∨ l[n] = 4 := by omega
      rcases this with e | e | e | e | e <;> rw [e] <;> simp only [isU, isT, isF] <;> simp <;> omega
theorem free_sum {p : Pt} (h : p.Ok) : cnt p.l.length (stp isU p.l) + cnt p.l.length (stp isT p.l) + freeN p.l + 2 = p.l.length := by
  have := cnt_split p.l h.small h.two p.l.length (Nat.le_refl _)
  have h3 := h.some_
  unfold freeN
  omega
end Pr

theorem isfree_any (w : World) (b db U T B D low : Nat) (p : Pr.Pt) (h : PLies w b db U T B D low p) (i : Nat) (hi : i < p.l.length) :
    Calls Try.prog 44 #[.pointer (some ⟨b, 0, none⟩), .int .i64 (i : Int)] w fun e w' => e = .returned (.bool (Pr.stp Pr.isF p.l i)) ∧ Below w.heap.size w w' := by
  have hm := h.ok.most
  have hf := Pr.free_at h.ok hi
  have c3 := h.cells.c3
  have hu := phas_any w U _ _ h.used i (by omega)
  have ht := fun W (hW : Below w.heap.size w W) => phas_any W T _ _ (h.taken.keep (Fr.of_below hW noB) (fun e => e)) i (by omega)
  have c4 := fun W (hW : Below w.heap.size w W) => (World.cell?_of_block (hW.block b h.box.lt)).trans h.cells.c4
  have HU := Lib.hid hu
  have HT := Lib.hid ht
  have HC := Lib.hid c4
  have HF := Lib.hid hf
  clear h hm hf hu ht c4
  rw [← HF.out]
  generalize Pr.stp Pr.isU p.l i = x at *
  generalize Pr.stp Pr.isT p.l i = y at *
  cases x
  · go_enter Try.func44, Try.ntmps44
    go_wp2_with fail
    refine HU.out.mono ?_
    rintro e w1 ⟨rfl, hb1⟩
    have c4 := HC.out w1 hb1
    have ht1 := HT.out w1 hb1
    have HB := Lib.hid hb1
    have HT1 := Lib.hid ht1
    clear hb1 ht1
    go_wp2_with fail
    refine HT1.out.mono ?_
    rintro e w2 ⟨rfl, hb2⟩
    have HB2 := Lib.hid (HB.out.trans (hb2.mono HB.out.size))
    clear hb2
    go_wp2_with fail
    go_ret
    exact ⟨rfl, HB2.out⟩
  · go_enter Try.func44, Try.ntmps44
    go_wp2_with fail
    refine HU.out.mono ?_
    rintro e w1 ⟨rfl, hb1⟩
    have HB := Lib.hid hb1
    clear hb1
    go_wp2_with fail
    go_ret
    exact ⟨rfl, HB.out⟩
theorem pseq_nil (w : World) : Calls Try.prog 27 #[.pointer none] w fun e w' => e = .returned (.int .i64 0) ∧ w = w' := by
  go_enter Try.func27, Try.ntmps27
  go_wp2
  go_ret
  exact ⟨rfl, rfl⟩
theorem proot_nil (w : World) : Calls Try.prog 28 #[.pointer none] w fun e w' => e = .returned (.int .i64 0) ∧ w = w' := by
  go_enter Try.func28, Try.ntmps28
  go_wp2
  go_ret
  exact ⟨rfl, rfl⟩
theorem pfree_nil (w : World) : Calls Try.prog 26 #[.pointer none] w fun e w' => e = .returned (.int .i64 0) ∧ w = w' := by
  go_enter Try.func26, Try.ntmps26
  go_wp2
  go_ret
  exact ⟨rfl, rfl⟩
theorem pseq_any (w : World) (b : Nat) (x : Int) (h : w.cell? ⟨b, 1, none⟩ = some (.int .i64 x)) : Calls Try.prog 27 #[.pointer (some ⟨b, 0, none⟩)] w fun e w' => e = .returned (.int .i64 x) ∧ w = w' := by
  go_enter Try.func27, Try.ntmps27
  go_wp2
  go_ret
  exact ⟨rfl, rfl⟩
theorem proot_any (w : World) (b : Nat) (x : Int) (h : w.cell? ⟨b, 2, none⟩ = some (.int .i64 x)) : Calls Try.prog 28 #[.pointer (some ⟨b, 0, none⟩)] w fun e w' => e = .returned (.int .i64 x) ∧ w = w' := by
  go_enter Try.func28, Try.ntmps28
  go_wp2
  go_ret
  exact ⟨rfl, rfl⟩
theorem pfree_any (w : World) (b db U T B D low : Nat) (p : Pr.Pt) (h : PLies w b db U T B D low p) (n : Nat) (hn : n ≤ 65536) (hpl : p.l.length = n / 4) (hd : ∃ a cap, w.cell? ⟨db, 0, none⟩ = some (.slice a n cap)) :
    Calls Try.prog 26 #[.pointer (some ⟨b, 0, none⟩)] w fun e w' => e = .returned (.int .i64 (Pr.freeN p.l : Int)) ∧ ∃ k, w' = w.drewN k := by
  have hsum := Pr.free_sum h.ok
  obtain ⟨nu, DU, hou, _, hdu⟩ := h.used
  obtain ⟨nt, DT, hot, _, hdt⟩ := h.taken
  have hsu := hdu.size
  have hst := hdt.size
  have c3 := h.cells.c3
  have c4 := h.cells.c4
  have hpg := fun k => ppages_any (w.drewN k) b db n hn h.cells.c0 hd
  have HOU := Lib.hid hou
  have HOT := Lib.hid hot
  have HPG := Lib.hid hpg
  have HSU := Lib.hid hsu
  have HST := Lib.hid hst
  have HSUM := Lib.hid hsum
  have HPL := Lib.hid hpl
  clear h hou hot hdu hdt hsu hst hsum hpg hpl hd
  have hlu : ∀ k ty, (Builtin.len_ #[81] ty #[.map (some U)]).run Try.prog (w.drewN k) = .ok (.int .i64 (Maps.size DU)) (w.drewN k) := fun k ty => World.ownsMap.len (w := w.drewN k) HOU.out und_pages ty
  have hlt : ∀ k ty, (Builtin.len_ #[81] ty #[.map (some T)]).run Try.prog (w.drewN k) = .ok (.int .i64 (Maps.size DT)) (w.drewN k) := fun k ty => World.ownsMap.len (w := w.drewN k) HOT.out und_pages ty
  go_enter Try.func26, Try.ntmps26
  go_wp2_with fail
  go_quiet (first
    | (go_at_call 25; exact quiet_same (HPG.out _)))
  go_wp2_with fail
  go_ret
  have h1 := HSU.out
  have h2 := HST.out
  have h3 := HSUM.out
  have h4 := HPL.out
  refine ⟨ret_int ?_, _, rfl⟩
  show wrap64 (wrap64 ((n : Int) / 4 - 2 - (Maps.size DU : Int)) - (Maps.size DT : Int)) = _
  have e1 : (n : Int) / 4 = ((n / 4 : Nat) : Int) := by omega
  rw [e1, ← h4, h1, h2]
  unfold wrap64
  omega
end Go.Proofs.Ythlmjnlakenmoaa

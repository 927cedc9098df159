/-
  Decode: the page is made again of its payload, and held against itself.
-/
import Derived.Test.YthlmjnlakenmoaaGCode
import Derived.Test.YthlmjnlakenmoaaHeld
namespace Go.Proofs.Ythlmjnlakenmoaa
open Go.RowKit
set_option maxRecDepth 100000

theorem run_array_page (g o c : Nat) (w : World) : (Instr.arrayAt 121 (.slice (some ⟨g, o, none⟩) 512 c)).run Try.prog w = .ok (.pointer (some ⟨g, o, none⟩)) w := by
  simp [Instr.arrayAt]
theorem decode_bad (w : World) (n : Int) (A : Option Addr) (k c : Nat) (h : ¬ (0 ≤ n ∧ n ≤ 16383) ∨ k ≠ 512) :
    Calls Try.prog 72 #[.int .i64 n, .slice A k c] w fun e w' => e = .returned (.tuple #[.slice none 0 0, .int .i64 1]) ∧ w = w' := by
  have hn := isNumber_any w n
  by_cases h0 : 0 ≤ n ∧ n ≤ 16383
  · have h1 : k ≠ 512 := by rcases h with h | h; exact absurd h0 h; exact h
    have h2 : ((k : Int) == 512) = false := by rw [beq_eq_false_iff_ne]; omega
    have h3 : ((k : Int) != 512) = true := by rw [bne_iff_ne]; omega
    rw [decide_eq_true h0] at hn
    have Hn := Lib.hid hn
    clear hn h h0
    go_enter Try.func72, Try.ntmps72
    go_wp2_with (go_at_call 74; refine Hn.out.mono ?_; rintro e w' ⟨rfl, rfl⟩)
    go_ret2
    exact ⟨rfl, rfl⟩
  · rw [decide_eq_false h0] at hn
    have Hn := Lib.hid hn
    clear hn h h0
    go_enter Try.func72, Try.ntmps72
    go_wp2_with (go_at_call 74; refine Hn.out.mono ?_; rintro e w' ⟨rfl, rfl⟩)
    go_ret2
    exact ⟨rfl, rfl⟩

theorem exec_neq {o : Oper} {ρ : Operand → Value} (x y : Operand) (ho : o.op = .binOp .neq 121 x y 121) (xs ys : List UInt8) (hx : ρ x = .agg (bytCells xs).toArray) (hy : ρ y = .agg (bytCells ys).toArray) (h1 : xs.length = 512) (h2 : ys.length = 512) (w : World) :
    (execOp ρ o).run Try.prog w = .ok (.value (.bool (!decide (xs = ys)))) w := by
  unfold execOp
  simp [ho, hx, hy, guard_page, run_neq_pages xs ys h1 h2, Result.andThen]
theorem run_cut (p s : Nat) (hs : s ≤ 502) (w : World) : (Instr.sliceAt 121 (.pointer (some ⟨p, 0, none⟩)) (some (.int .i64 10)) (some (.int .i64 (10 + (s : Int)))) none).run Try.prog w = .ok (.slice (some ⟨p, 10, none⟩) s 502) w := by
  have hl : Try.prog.arrayLen 121 = 512 := by kernel_rfl
  have h1 : (10 : Int) ≤ 10 + (s : Int) := by omega
  have h2 : 10 + (s : Int) ≤ (Try.prog.arrayLen 121 : Int) := by rw [hl]; omega
  have he : Try.prog.elem 121 = 5 := by kernel_rfl
  have ht : Try.prog.underlying 121 = some (.array (Try.prog.arrayLen 121) (Try.prog.elem 121)) := by rw [hl, he]; exact und_page
  have hsz : ∀ w, (Go.sizeOf 5).run Try.prog w = .ok 1 w := by
    intro w
    obtain ⟨i0, hi, hz0, hz1, hz2⟩ := info_parts inf_u8
    simp [Go.sizeOf, typeInfo, hi, hz1]
  rw [run_sliceAt_array_lh w _ ⟨p, 0, none⟩ ht .i64 .i64 10 (10 + (s : Int)) (by omega) h1 h2, he, hsz, Result.andThen_ok, hl]
  have e1 : (10 + (s : Int)).toNat = 10 + s := by omega
  rw [e1]
  simp [slicedAt, Addr.add]
/-- what Decode answers where number and length are right -/
def Reads (w : World) (n : Nat) (l : List UInt8) (e : Ending) (w' : World) : Prop :=
  (Pg.sound n l = true ∧ Gives w (Pg.payload l) e w') ∨ (Pg.sound n l = false ∧ e = .returned (.tuple #[.slice none 0 0, .int .i64 30]) ∧ Below w.heap.size w w')

set_option maxHeartbeats 800000 in
theorem decode_ok (w : World) (n : Nat) (hn : n ≤ 16383) (A : Option Addr) (l : List UInt8) (c : Nat) (hl : l.length = 512) (h : Rd w w.heap.size A l) :
    Calls Try.prog 72 #[.int .i64 n, .slice A 512 c] w (Reads w n l) := by
  have hnum := isNumber_any w n
  rw [decide_eq_true ⟨by omega, by omega⟩] at hnum
  have Hn := Lib.hid hnum
  obtain ⟨g, o, rfl, hgw, hcells⟩ := h.2 (by omega)
  have hrange : w.rangeAt g o (bytCells l) := hcells
  have HR := Lib.hid hrange
  have hz := zer_of inf_page
  have har := run_array_page g o c
  have hcl : (bytCells l).length = 512 := by rw [bytCells_len]; exact hl
  have HC := Lib.hid hcl
  have hb0 : Below w.heap.size w (w.alloc (.cells (bytCells l).toArray 121)) := (Below.refl _ _).alloc (Nat.le_refl _) _
  have hq0 : Has (w.alloc (.cells (bytCells l).toArray 121)) w.heap.size 121 (bytCells l).toArray := Has.of_alloc _ _ _
  have h8 : (w.alloc (.cells (bytCells l).toArray 121)).cell? ⟨w.heap.size, 8, none⟩ = some (byt (l[8]'(by omega))) := by
    rw [hq0.cell, List.getElem?_toArray, bytCells_get, List.getElem?_eq_getElem (by omega)]; rfl
  have h9 : (w.alloc (.cells (bytCells l).toArray 121)).cell? ⟨w.heap.size, 9, none⟩ = some (byt (l[9]'(by omega))) := by
    rw [hq0.cell, List.getElem?_toArray, bytCells_get, List.getElem?_eq_getElem (by omega)]; rfl
  have hsz := size_any _ w.heap.size _ _ h8 h9
  have hso : Pg.sizeOf l = (l[8]'(by omega)).toNat * 256 + (l[9]'(by omega)).toNat := by
    unfold Pg.sizeOf
    rw [List.getD_eq_getElem?_getD, List.getD_eq_getElem?_getD, List.getElem?_eq_getElem (by omega), List.getElem?_eq_getElem (by omega)]
    rfl
  rw [← hso] at hsz
  have Hsz := Lib.hid hsz
  have HB0 := Lib.hid hb0
  have HQ0 := Lib.hid hq0
  have HL := Lib.hid hl
  have hpos : (0 : Int) ≤ (Pg.sizeOf l : Int) := by omega
  clear hnum h hcells hrange hcl hb0 hq0 h8 h9 hsz hso hl
  generalize hs : Pg.sizeOf l = s at *
  have HS := Lib.hid hs
  clear hs
  go_enter Try.func72, Try.ntmps72
  go_wp2_with (first
    | (go_at_call 74; refine Hn.out.mono ?_; rintro e w' ⟨rfl, rfl⟩)
    | (refine wpList_load_mid rfl 121 (.tmp 18) rfl g o rfl (bytCells l) _ HR.out und_page rfl (by rw [siz_page, HC.out]) ?_)
    | (refine arm_fill rfl 121 (.tmp 6) (.tmp 19) rfl w (bytCells l) rfl rfl 121 zero512 rfl (by rw [siz_page, HC.out]) (by rw [HC.out, zero512_size]) (bytCells_one _) ?_)
    | fail)
  refine Hsz.out.mono ?_
  rintro e w1 ⟨rfl, k, hk⟩
  have hb1 : Below w.heap.size w w1 := by rw [hk]; exact ⟨HB0.out.os, HB0.out.tape, HB0.out.output, HB0.out.size, HB0.out.block⟩
  have hq1 : Has w1 w.heap.size 121 (bytCells l).toArray := by rw [hk]; exact HQ0.out
  have B1 := Lib.hid hb1
  have Q1 := Lib.hid hq1
  clear hb1 hq1 hk HB0 HQ0
  by_cases hgt : 502 < s
  · have hgt' : (502 : Int) < (s : Int) := by omega
    go_wp2_with fail
    go_ret2
    exact .inr ⟨by rw [Bool.eq_false_iff]; intro h; have := (Pg.sound_iff.1 h).1; rw [HS.out] at this; omega, rfl, B1.out⟩
  · have hle : (s : Int) ≤ 502 := by omega
    have hpl : (Pg.payload l).length = s := by rw [Pg.payload_length l HL.out (by rw [HS.out]; omega), HS.out]
    have hple : (Pg.payload l).length ≤ 502 := by omega
    have hrp : ∀ W, Has W w.heap.size 121 (bytCells l).toArray → Rd W W.heap.size (some ⟨w.heap.size, 10, none⟩) (Pg.payload l) := fun W hW =>
      Rd.of_has hW (by rw [hpl, Pg.payload, HS.out]; simp only [bytCells, List.map_take, List.map_drop]) (by omega)
    have hmd : ∀ W, Has W w.heap.size 121 (bytCells l).toArray → Calls Try.prog 75 #[.int .i64 n, .slice (some ⟨w.heap.size, 10, none⟩) s 502] W fun e w' => e = .returned (.agg (bytCells (Pg.made n (Pg.payload l))).toArray) ∧ Below W.heap.size W w' := fun W hW => by
      have := made_any W n hn _ _ 502 hple (hrp W hW)
      rwa [hpl] at this
    have hcp : ∀ W, Has W w.heap.size 121 (bytCells l).toArray → Calls Try.prog 76 #[.slice (some ⟨w.heap.size, 10, none⟩) s 502] W (CopyOf W (Pg.payload l)) := fun W hW => by
      have := copied_any W _ _ 502 (hrp W hW)
      rwa [hpl] at this
    have HM := Lib.hid hmd
    have HCP := Lib.hid hcp
    have HPL := Lib.hid hpl
    have HML := Lib.hid (Pg.made_length n (Pg.payload l) hple)
    clear hpl hple hrp hmd hcp hgt
    have hcut := run_cut w.heap.size s (by omega)
    go_wp2_with fail
    clear hcut
    refine wp_region_held (S := fun w' => Has w' w.heap.size 121 (bytCells l).toArray) (by kernel_rfl) ?_
    change wpAnyH _ _ _ _ _ _ _ _ (World.drew _)
    refine held_yield (i := 0) 26 (.agg (bytCells l).toArray) rfl rfl (by kernel_rfl) (by kernel_rfl) (by kernel_rfl) (fun _ _ _ h => h) rfl (fun w' hw' => exec_load _ _ rfl (.pointer (some ⟨w.heap.size, 0, none⟩)) rfl _ (run_loadAt_mid w' w.heap.size 0 _ (bytCells l) _ (by have := range_of_has (off := 0) (n := 512) hw'; rwa [List.drop_zero, ← HC.out, List.take_length] at this) und_page rfl (by rw [HC.out]; exact siz_page))) Q1.out ?_
    simp only [Act.put, List.setIfInBounds_toArray, List.set_cons_succ, List.set_cons_zero]
    refine held_yield (i := 1) 27 (.int .i64 (n : Int)) rfl rfl (by kernel_rfl) (by kernel_rfl) (by kernel_rfl) (fun _ _ _ h => h) rfl ?_ Q1.out ?_
    · intro w' hw'; go_simp
    simp only [Act.put, List.setIfInBounds_toArray, List.set_cons_succ, List.set_cons_zero]
    refine held_yield (i := 2) 28 (.slice (some ⟨w.heap.size, 10, none⟩) s 502) rfl rfl (by kernel_rfl) (by kernel_rfl) (by kernel_rfl) (fun _ _ _ h => h) rfl ?_ Q1.out ?_
    · intro w' hw'; go_simp
    simp only [Act.put, List.setIfInBounds_toArray, List.set_cons_succ, List.set_cons_zero]
    refine held_one (i := 3) (by kernel_rfl) rfl rfl ?_
    intro K hK
    go_simp
    refine (HM.out w1.drew Q1.out).mono ?_
    rintro e w2 ⟨rfl, hb2⟩
    have hq2 : Has w2 w.heap.size 121 (bytCells l).toArray := Has.keep (w := w1.drew) Q1.out (Fr.of_below hb2 noB) (fun h => h)
    have hB2 : Below w.heap.size w w2 := (Below.drew B1.out).trans (hb2.mono B1.out.size)
    have Q2 := Lib.hid hq2
    have B2 := Lib.hid hB2
    refine hK _ _ hq2 ?_
    clear hK K hb2 hq2 hB2 B1 Q1
    refine held_yield (i := 4) 30 (.bool (!decide (l = Pg.made n (Pg.payload l)))) rfl rfl (by kernel_rfl) (by kernel_rfl) (by kernel_rfl) (fun _ _ _ h => h) rfl (fun w' hw' => exec_neq _ _ rfl _ _ rfl rfl HL.out HML.out w') Q2.out ?_
    simp only [Act.put, List.setIfInBounds_toArray, List.set_cons_succ, List.set_cons_zero]
    refine wpAnyH_done (by kernel_rfl) ?_ 0
    generalize hb : decide (l = Pg.made n (Pg.payload l)) = b
    have Hb := Lib.hid hb
    clear hb
    cases b
    · go_wp2_with fail
      go_ret2
      exact .inr ⟨by rw [Bool.eq_false_iff]; intro h; have := (Pg.sound_iff.1 h).2; have h2 := of_decide_eq_false Hb.out; exact h2 this, rfl, B2.out⟩
    · go_wp2_with fail
      refine (HCP.out w2 Q2.out).mono ?_
      rintro e w3 ⟨rfl, hg3, hb3⟩
      have HG3 := Lib.hid hg3
      have HB3 : Hid (Below w.heap.size w w3) := Lib.hid (B2.out.trans (hb3.mono B2.out.size))
      have hge := B2.out.size
      clear hg3 hb3
      go_wp2_with fail
      go_ret2
      exact .inl ⟨Pg.sound_iff.2 ⟨by rw [HS.out]; omega, of_decide_eq_true Hb.out⟩, _, rfl, HG3.out, hge, HB3.out⟩
end Go.Proofs.Ythlmjnlakenmoaa

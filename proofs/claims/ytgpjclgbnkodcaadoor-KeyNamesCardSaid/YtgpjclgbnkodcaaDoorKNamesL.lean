/-
  KeyNames, its walk: the kinds' numbers; parts are made; the refusals.
-/
import Derived.Test.YtgpjclgbnkodcaaDoorKUnp
namespace Go.Proofs.YtgpjclgbnkodcaaDoor.knames
open Go.RowKit Go.Maps
set_option maxRecDepth 100000

theorem pack_long (w : World) (A : Option Addr) (c n : Nat) (h16 : 16 < n) (hn : n ≤ 1000000) :
    Calls Tryd.prog 11 #[.slice A n c] w fun e w' => e = .returned (.tuple #[bstr [], .int .i64 3]) ∧ w = w' := by
  have h1 : (16 : Int) < (n : Int) := by omega
  have h2 : (n : Int) ≤ 1000000 := by omega
  clear h16 hn
  go_enter Tryd.func11, Tryd.ntmps11
  go_wp2_with fail
  go_ret2
  exact ⟨rfl, rfl⟩
theorem after_1 : Ky.after [97, 255] = [98] := by decide +kernel
theorem after_2 : Ky.after [255] = [] := by decide +kernel
theorem unp_1 : Ky.unpacked [1, 0] = none := by decide +kernel
theorem pack_0 : Ky.packS [] = [] ∧ Ky.packE [] = 0 := by decide +kernel
def onePart : Ky.Part := ⟨false, 0, [120]⟩
theorem pack_1 : Ky.packS [onePart] = [] ∧ Ky.packE [onePart] = 1 := by decide +kernel
set_option maxHeartbeats 1600000 in
theorem walk (w : World) (hx : Mx w.heap.size w) :
    Calls Tryd.prog 5 #[] w fun e w' => e = .returned (.bool true) ∧ Below w.heap.size w w' := by
  have HX := Lib.hid hx
  have H1 := Lib.hid (num_any w (-5))
  unfold partV bstr at H1
  clear hx
  go_enter Tryd.func5, Tryd.ntmps5
  go_wp2_with fail
  refine H1.out.mono ?_
  rintro e w1 ⟨rfl, hb1⟩
  have H2 := Lib.hid (strp_any w1 [120])
  unfold partV bstr at H2
  go_wp2_with fail
  refine H2.out.mono ?_
  rintro e w2 ⟨rfl, hb2⟩
  have HB2 : Hid (Below w.heap.size w w2) := Lib.hid (hb1.trans (hb2.mono hb1.size))
  clear hb1 hb2
  have hp1 := (Has.of_alloc w2 38 #[.bool false, .int .i64 (-5), .string ⟨#[]⟩]).alloc (.cells #[.bool true, .int .i64 0, .string ⟨#[120]⟩] 38)
  have hp2 := Has.of_alloc (w2.alloc (.cells #[.bool false, .int .i64 (-5), .string ⟨#[]⟩] 38)) 38 #[.bool true, .int .i64 0, .string ⟨#[120]⟩]
  rw [World.size_alloc] at hp2
  have HB3 : Hid (Below w.heap.size w ((w2.alloc (.cells #[.bool false, .int .i64 (-5), .string ⟨#[]⟩] 38)).alloc (.cells #[.bool true, .int .i64 0, .string ⟨#[120]⟩] 38))) := Lib.hid ((HB2.out.alloc HB2.out.size _).alloc (by have := HB2.out.size; simp; omega) _)
  generalize hw3 : ((w2.alloc (.cells #[.bool false, .int .i64 (-5), .string ⟨#[]⟩] 38)).alloc (.cells #[.bool true, .int .i64 0, .string ⟨#[120]⟩] 38)) = w3 at *
  have HP1 := Lib.hid hp1
  have HP2 := Lib.hid hp2
  clear hp1 hp2
  have H3 := Lib.hid (pack_any w3 none 0 [] (RdP.nil _ _ _) (fun p hp => by simp at hp) ((HX.out.below HB3.out (Nat.le_refl _)).more HB3.out.size) (by decide))
  rw [show ([] : List Ky.Part).length = 0 from rfl] at H3
  go_wp2_with fail
  clear hw3
  refine H3.out.mono ?_
  rintro e w4 hq
  obtain ⟨rfl, hb4⟩ := hq
  rw [pack_0.1, pack_0.2]
  have HB4 : Hid (Below w.heap.size w w4) := Lib.hid (HB3.out.trans (hb4.mono HB3.out.size))
  have HP1b : Hid (Has w4 w2.heap.size 38 #[.bool false, .int .i64 (-5), .string ⟨#[]⟩]) := Lib.hid (HP1.out.keep (Fr.of_below hb4 noB) (fun e => e))
  have HP2b : Hid (Has w4 (w2.heap.size + 1) 38 #[.bool true, .int .i64 0, .string ⟨#[120]⟩]) := Lib.hid (HP2.out.keep (Fr.of_below hb4 noB) (fun e => e))
  clear hb4 HP1 HP2 H1 H2 H3
  unfold bstr
  obtain ⟨i0, z0, hi0, hz0, hz1, hz2, hz3⟩ := eltP.inf
  have hmk := run_make (P := Tryd.prog) w4 24 38 i0 z0 eltP.und hi0 hz0 .i64 .i64 17 17 (by omega) (by omega) (by rw [hz2]; decide) (by omega)
  have HB5 : Hid (Below w.heap.size w (w4.alloc (.cells (madeCells z0.cells ((17 : Int).toNat * i0.size)) 38))) := Lib.hid (HB4.out.alloc HB4.out.size _)
  have HP1c : Hid (Has (w4.alloc (.cells (madeCells z0.cells ((17 : Int).toNat * i0.size)) 38)) w2.heap.size 38 #[.bool false, .int .i64 (-5), .string ⟨#[]⟩]) := Lib.hid (HP1b.out.alloc _)
  have HP2c : Hid (Has (w4.alloc (.cells (madeCells z0.cells ((17 : Int).toNat * i0.size)) 38)) (w2.heap.size + 1) 38 #[.bool true, .int .i64 0, .string ⟨#[120]⟩]) := Lib.hid (HP2b.out.alloc _)
  generalize (w4.alloc (.cells (madeCells z0.cells ((17 : Int).toNat * i0.size)) 38)) = w5 at *
  have H5 := Lib.hid (pack_long w5 (some ⟨w4.heap.size, 0, none⟩) 17 17 (by decide) (by decide))
  clear hi0 hz0 hz1 hz2 hz3
  go_wp2_with fail
  refine H5.out.mono ?_
  rintro e w5' ⟨rfl, rfl⟩
  unfold bstr
  have hh6 := Has.of_alloc w5 38 #[.bool false, .int .i64 0, .string ⟨#[120]⟩]
  have HB6 : Hid (Below w.heap.size w (w5.alloc (.cells #[.bool false, .int .i64 0, .string ⟨#[120]⟩] 38))) := Lib.hid (HB5.out.alloc HB5.out.size _)
  have H6 := Lib.hid (pack_any _ (some ⟨w5.heap.size, 0, none⟩) 1 [onePart] (fun _ => ⟨w5.heap.size, 0, rfl, hh6.lt, fun j p hj => by
    rw [Nat.zero_add, hh6.cell, hh6.cell, hh6.cell]
    match j, hj with
    | 0, hj => obtain rfl := Option.some.inj hj; exact ⟨rfl, rfl, rfl⟩⟩) (fun p hp => by
      obtain rfl := List.mem_singleton.1 hp
      exact ⟨⟨by decide, by decide⟩, by decide⟩) ((HX.out.below HB6.out (Nat.le_refl _)).more HB6.out.size) (by decide))
  rw [show [onePart].length = 1 from rfl] at H6
  have HP1d : Hid (Has (w5.alloc (.cells #[.bool false, .int .i64 0, .string ⟨#[120]⟩] 38)) w2.heap.size 38 #[.bool false, .int .i64 (-5), .string ⟨#[]⟩]) := Lib.hid (HP1c.out.alloc _)
  have HP2d : Hid (Has (w5.alloc (.cells #[.bool false, .int .i64 0, .string ⟨#[120]⟩] 38)) (w2.heap.size + 1) 38 #[.bool true, .int .i64 0, .string ⟨#[120]⟩]) := Lib.hid (HP2c.out.alloc _)
  clear hh6
  go_wp2_with fail
  refine H6.out.mono ?_
  rintro e w6 hq
  obtain ⟨rfl, hb6⟩ := hq
  rw [pack_1.1, pack_1.2]
  have HB7 : Hid (Below w.heap.size w w6) := Lib.hid (HB6.out.trans (hb6.mono HB6.out.size))
  have HP1e : Hid (Has w6 w2.heap.size 38 #[.bool false, .int .i64 (-5), .string ⟨#[]⟩]) := Lib.hid (HP1d.out.keep (Fr.of_below hb6 noB) (fun e => e))
  have HP2e : Hid (Has w6 (w2.heap.size + 1) 38 #[.bool true, .int .i64 0, .string ⟨#[120]⟩]) := Lib.hid (HP2d.out.keep (Fr.of_below hb6 noB) (fun e => e))
  have H7 := Lib.hid (unpack_any w6 [1, 0] (by decide))
  unfold bstr at *
  clear hb6
  go_wp2_with fail
  refine H7.out.mono ?_
  rintro e w7 hq
  unfold UnpPost at hq
  rw [unp_1] at hq
  obtain ⟨rfl, hb7⟩ := hq
  have HB8 : Hid (Below w.heap.size w w7) := Lib.hid (HB7.out.trans (hb7.mono HB7.out.size))
  have hp1 := HP1e.out.keep (Fr.of_below hb7 noB) (fun e => e)
  have hp2 := HP2e.out.keep (Fr.of_below hb7 noB) (fun e => e)
  have x0 : w7.cell? ⟨w2.heap.size, 0, none⟩ = some (.bool false) := hp1.cell 0
  have x1 : w7.cell? ⟨w2.heap.size, 1, none⟩ = some (.int .i64 (-5)) := hp1.cell 1
  have x2 : w7.cell? ⟨w2.heap.size, 2, none⟩ = some (.string ⟨#[]⟩) := hp1.cell 2
  have y0 : w7.cell? ⟨w2.heap.size + 1, 0, none⟩ = some (.bool true) := hp2.cell 0
  have y1 : w7.cell? ⟨w2.heap.size + 1, 1, none⟩ = some (.int .i64 0) := hp2.cell 1
  have y2 : w7.cell? ⟨w2.heap.size + 1, 2, none⟩ = some (.string ⟨#[120]⟩) := hp2.cell 2
  have H8 := Lib.hid (after_any w7 [97, 255] (by decide))
  rw [after_1] at H8
  unfold bstr at H8
  clear hb7 hp1 hp2
  go_wp2_with fail
  refine H8.out.mono ?_
  rintro e w8 ⟨rfl, hb8⟩
  have HB9 : Hid (Below w.heap.size w w8) := Lib.hid (HB8.out.trans (hb8.mono HB8.out.size))
  have H9 := Lib.hid (after_any w8 [255] (by decide))
  rw [after_2] at H9
  unfold bstr at H9
  clear hb8
  go_wp2_with fail
  refine H9.out.mono ?_
  rintro e w9 ⟨rfl, hb9⟩
  have HB10 : Hid (Below w.heap.size w w9) := Lib.hid (HB9.out.trans (hb9.mono HB9.out.size))
  have H10 := Lib.hid (awake_any w9 ((HX.out.below HB10.out (Nat.le_refl _)).more HB10.out.size))
  clear hb9
  go_wp2_with fail
  refine H10.out.mono ?_
  rintro e w10 ⟨rfl, hb10⟩
  have HB11 : Hid (Below w.heap.size w w10) := Lib.hid (HB10.out.trans (hb10.mono HB10.out.size))
  clear hb10
  go_wp2_with fail
  go_ret
  exact ⟨rfl, HB11.out⟩
end Go.Proofs.YtgpjclgbnkodcaaDoor.knames

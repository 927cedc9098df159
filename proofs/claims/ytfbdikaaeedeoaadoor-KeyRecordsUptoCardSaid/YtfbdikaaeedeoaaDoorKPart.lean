/-
  A part is written: its eight bytes, its text, its marks.
-/
import Derived.Test.YtfbdikaaeedeoaaDoorKLet
import Derived.Test.YtfbdikaaeedeoaaDoorKEsc
import Derived.Test.YtfbdikaaeedeoaaDoorKonst
import Derived.Test.YtfbdikaaeedeoaaDoorShelf
namespace Go.Proofs.YtfbdikaaeedeoaaDoor
open Go.RowKit Go.Maps
set_option maxRecDepth 100000

theorem Has.oth {w w' : World} {g L : Nat} {t : TypeId} {cs : Array Value} (h : Has w g t cs) (k : Oth L w w') (hL : g ≠ L) (ht : t ≠ bE) : Has w' g t cs :=
  k g _ h (fun e => hL (Option.some.inj e)) (fun c fz e => by injection e with _ e; exact ht e)
/-- a number of the library's own, which ReplaceAll's callees read -/
def Mx (B : Nat) (w : World) : Prop := 0 < B ∧ ∃ m, w.cell? ⟨0, 0, none⟩ = some (.int .i64 m)
theorem Mx.below {B B' : Nat} {w w' : World} (h : Mx B w) (hb : Below B' w w') (hB : B ≤ B') : Mx B w' := ⟨h.1, by
  obtain ⟨m, hm⟩ := h.2
  exact ⟨m, (hb.cell (p := ⟨0, 0, none⟩) (Nat.lt_of_lt_of_le h.1 hB)).trans hm⟩⟩
theorem Mx.alloc {B : Nat} {w : World} (h : Mx B w) (hB : B ≤ w.heap.size) (o : Obj) : Mx B (w.alloc o) := h.below ((Below.refl B w).alloc hB o) (Nat.le_refl _)
theorem Mx.more {B B' : Nat} {w : World} (h : Mx B w) (hB : B ≤ B') : Mx B' w := ⟨by have := h.1; omega, h.2⟩
theorem replaceAll_any (w : World) (B : Nat) (s : List UInt8) (hm : s.length ≤ 1048576) (hx : Mx B w) :
    Calls Tryd.prog 47 #[bstr s, .string ⟨#[0]⟩, .string ⟨#[0, 255]⟩] w fun e w' => e = .returned (bstr (Ky.esc s)) ∧ Below w.heap.size w w' := by
  obtain ⟨_, m, hx⟩ := hx
  have hc : Lib.countB ⟨s.toArray⟩ ⟨#[0]⟩ ≤ s.length := Ky.count0_le s
  have hs : (ByteArray.mk s.toArray).size = s.length := by simp [ByteArray.size]
  have := Tryd.strings_ReplaceAll ⟨s.toArray⟩ ⟨#[0]⟩ ⟨#[0, 255]⟩ m w (by omega) hx (by decide) (by
    rw [show (ByteArray.mk #[0, 255]).size = 2 from rfl]
    omega)
  rw [show Lib.replaceAll (ByteArray.mk s.toArray).data.toList (ByteArray.mk #[0]).data.toList (ByteArray.mk #[0, 255]).data.toList = Ky.esc s from Ky.replaceAll0 s] at this
  exact this
theorem mayBe_any (w : World) (p : Ky.Part) :
    Calls Tryd.prog 33 #[.agg #[.bool p.text, .int .i64 p.n, bstr p.say]] w fun e w' => e = .returned (.bool p.ok) ∧ Below w.heap.size w w' := by
  obtain ⟨t, n, s⟩ := p
  unfold Ky.Part.ok bstr
  cases t with
  | true =>
    go_enter Tryd.func33, Tryd.ntmps33
    go_wp2
    go_ret
    exact ⟨rfl, (Below.refl _ _).alloc (Nat.le_refl _) _⟩
  | false =>
    go_enter Tryd.func33, Tryd.ntmps33
    go_wp2
    go_ret
    exact ⟨by cases s <;> rfl, (Below.refl _ _).alloc (Nat.le_refl _) _⟩
theorem oth_below {L : Nat} {w w' : World} (h : Below w.heap.size w w') : Oth L w w' := fun k _ hk _ _ => (h.block k (Array.getElem?_eq_some_iff.1 hk).1).trans hk
theorem Let.below {w w' : World} {B L : Nat} {l : List UInt8} (h : Let w B L l) (hb : Below w.heap.size w w') : Let w' B L l := by
  have key : ∀ {p : Value}, Lib.BuilderAtF bT bE B L p (bytCells l) w → Lib.BuilderAtF bT bE B L p (bytCells l) w' := by
    intro p hp
    obtain ⟨h1, v, h2, h3, h4⟩ := hp
    refine ⟨h1, v, (hb.block L (lt_of_block h2)).trans h2, ⟨h3.1, ?_⟩, h4⟩
    rcases h3.2 with hn | ⟨g, cap, cur, fz, hv, hg, hgg, rest⟩
    · exact .inl hn
    · exact .inr ⟨g, cap, cur, fz, hv, hg, (hb.block g (lt_of_block hgg)).trans hgg, rest⟩
  exact h.elim (fun x => .inl (key x)) (fun x => .inr (key x))
/-! ### a number's eight bytes -/
def eightCells (n r : Nat) : List UInt8 := List.replicate (8 - r) 0 ++ Pg.be r n
theorem eightCells_len (n r : Nat) (h : r ≤ 8) : (eightCells n r).length = 8 := by simp [eightCells, Pg.be_length]; omega
theorem eightCells_set (n r : Nat) (h : r < 8) : (eightCells n r).set (7 - r) (UInt8.ofNat (n / 256 ^ r % 256)) = eightCells n (r + 1) := by
  unfold eightCells
  rw [Pr.be_lo, List.set_append_left _ _ (by simp; omega)]
  obtain ⟨q, hq⟩ : ∃ q, 8 - r = q + 1 := ⟨7 - r, by omega⟩
  rw [show 7 - r = q by omega, hq, show 8 - (r + 1) = q by omega, List.replicate_succ', List.set_append_right _ _ (by simp)]
  simp
set_option maxHeartbeats 800000 in
theorem keight_any (w : World) (n : Nat) (hn : n < 18446744073709551616) :
    Calls Tryd.prog 46 #[.int .u64 (n : Int)] w fun e w' => e = .returned (bstr (Pg.be 8 n)) ∧ Below w.heap.size w w' := by
  have HB := Lib.hid ((Below.refl w.heap.size w).alloc (Nat.le_refl _) (.cells #[.int .u8 0, .int .u8 0, .int .u8 0, .int .u8 0, .int .u8 0, .int .u8 0, .int .u8 0, .int .u8 0] 119))
  have HH := Lib.hid (Has.of_alloc w 119 #[.int .u8 0, .int .u8 0, .int .u8 0, .int .u8 0, .int .u8 0, .int .u8 0, .int .u8 0, .int .u8 0])
  go_enter Tryd.func46, Tryd.ntmps46
  go_wp2_with fail
  generalize hG : w.heap.size = G at *
  have HG := Lib.hid hG
  clear hG
  go_loopw [0, 5] (fun x i wr => ∃ r : Nat, r ≤ 8 ∧ i = .int .i64 r ∧ x = .int .u64 ((n / 256 ^ r : Nat) : Int) ∧ Hid (Has wr G 119 (bytCells (eightCells n r)).toArray) ∧ Hid (Below G w wr)) (fun _ i _ => 8 - (intOf i).toNat)
  case atStart => exact ⟨0, by omega, rfl, by simp, Lib.hid HH.out, Lib.hid HB.out⟩
  case round =>
    rename World => wr
    obtain ⟨r, hr, rfl, rfl, hH, hB⟩ := hrel
    have hv : n / 256 ^ r < 18446744073709551616 := Nat.lt_of_le_of_lt (Nat.div_le_self _ _) hn
    by_cases hlt : r < 8
    · have hset := eightCells_set n r hlt
      have hcell : wr.cell? ⟨G, 7 - r, none⟩ = some (byt ((eightCells n r)[7 - r]'(by rw [eightCells_len n r hr]; omega))) := by
        rw [hH.out.cell, List.getElem?_toArray, bytCells_get, List.getElem?_eq_getElem (by rw [eightCells_len n r hr]; omega)]
        rfl
      have hfree := hH.out.free (7 - r)
      have hb : (((n / 256 ^ r : Nat) : Int) % 256) = ((UInt8.ofNat (n / 256 ^ r % 256)).toNat : Int) := by
        rw [UInt8.toNat_ofNat']
        omega
      have hdv : ((n / 256 ^ r : Nat) : Int) / 256 = ((n / 256 ^ (r + 1) : Nat) : Int) := by
        rw [Nat.pow_succ, ← Nat.div_div_eq_div_mul]
        rfl
      generalize n / 256 ^ r = x at *
      have HS := Lib.hid hset
      have HBY := Lib.hid hb
      have HDV := Lib.hid hdv
      clear hset hb hdv
      unfold byt at hcell
      go_wp2_with fail
      go_roundw
      case rel =>
        refine ⟨r + 1, by omega, by go_num, by rw [HDV.out], Lib.hid ?_, Lib.hid (hB.out.setCell (p := ⟨G, 7 - r, none⟩) (Nat.le_refl _) _)⟩
        have := hH.out.set (7 - r) (.int .u8 ((x : Int) % 256))
        rw [HBY.out, show (Value.int .u8 ((UInt8.ofNat (x % 256)).toNat : Int)) = byt (UInt8.ofNat (x % 256)) from rfl, List.setIfInBounds_toArray, show (bytCells (eightCells n r)).set (7 - r) (byt (UInt8.ofNat (x % 256))) = bytCells ((eightCells n r).set (7 - r) (UInt8.ofNat (x % 256))) from List.map_set.symm, HS.out] at this
        rw [HBY.out]
        exact this
      case measure => (simp [intOf]) <;> omega
    · obtain rfl : r = 8 := by omega
      have e8 : eightCells n 8 = Pg.be 8 n := by simp [eightCells]
      have hH2 := hH.out
      rw [e8] at hH2
      have hc := conv_rd wr _ (some ⟨G, 0, none⟩) (Pg.be 8 n) 8 (Rd.of_has (o := 0) hH2 (by rw [List.drop_zero, ← bytCells_len, List.take_length]) (by rw [Pg.be_length]; omega))
      rw [Pg.be_length] at hc
      clear hH2 e8
      go_wp2_with fail
      go_ret
      exact ⟨rfl, by rw [HG.out]; exact hB.out⟩
/-! ### a part is written -/
/-- what a part is by value -/
abbrev partV (p : Ky.Part) : Value := .agg #[.bool p.text, .int .i64 p.n, bstr p.say]
theorem part_len (p : Ky.Part) : p.bytes.length ≤ 2 * p.say.length + 9 := by
  unfold Ky.Part.bytes
  split
  · have := (Ky.esc_len p.say).1
    simp
    omega
  · simp [Pg.be_length]
set_option maxHeartbeats 800000 in
theorem pwrite_num (w : World) (B L : Nat) (l : List UInt8) (p : Ky.Part) (ht : p.text = false) (hf : p.fits) (h : Let w B L l) (hm : l.length ≤ 1000000000) (hB : B ≤ w.heap.size) :
    Calls Tryd.prog 34 #[partV p, .func (.func 35) #[.pointer (some ⟨L, 0, none⟩)] #[]] w fun e w' => e = .returned (.tuple #[]) ∧ Let w' B L (l ++ p.bytes) ∧ Below B w w' ∧ Oth L w w' := by
  obtain ⟨t, n, s⟩ := p
  simp only at ht
  subst ht
  unfold Ky.Part.fits at hf
  simp only at hf
  obtain ⟨hf1, hf2⟩ := hf
  have e1 := Ky.sign_on n hf1 hf2
  have e2 := Ky.shift_lt n hf1 hf2
  have HL := h.lt
  have h1 := kadd_any (w.alloc (.cells #[.bool false, .int .i64 n, bstr s] 38)) B L l [1] (h.alloc _) (by simp; omega) (by simp; omega)
  have hh := Has.of_alloc w 38 #[.bool false, .int .i64 n, bstr s]
  have hb0 : Below B w (w.alloc (.cells #[.bool false, .int .i64 n, bstr s] 38)) := (Below.refl B w).alloc hB _
  have ho0 : Oth L w (w.alloc (.cells #[.bool false, .int .i64 n, bstr s] 38)) := (Lib.OthersKept.refl _ _ w).alloc _
  have H1 := Lib.hid h1
  have HH := Lib.hid hh
  have HB0 := Lib.hid hb0
  have HO0 := Lib.hid ho0
  have HM := Lib.hid hm
  have HBB := Lib.hid hB
  clear h1 hh hb0 ho0 h hm hB
  unfold bstr at *
  go_enter Tryd.func34, Tryd.ntmps34
  go_wp2_with fail
  refine H1.out.mono ?_
  rintro e w1 ⟨rfl, hl1, hb1, ho1⟩
  have hh1 := HH.out.oth ho1 (by omega) (by decide)
  have c1 : w1.cell? ⟨w.heap.size, 1, none⟩ = some (.int .i64 n) := hh1.cell 1
  have HL1 := Lib.hid hl1
  have HB1 := Lib.hid hb1
  have HO1 := Lib.hid ho1
  clear hh1 hl1 hb1 ho1
  go_wp2_with fail
  refine (keight_any w1 (Ky.shift n) e2).mono ?_
  rintro e w2 ⟨rfl, hb2⟩
  have hl2 : Let w2 B L (l ++ [1]) := HL1.out.below hb2
  have h3 := kadd_any w2 B L (l ++ [1]) (Pg.be 8 (Ky.shift n)) hl2 (by rw [Pg.be_length]; simp; have := HM.out; omega) (by have := HBB.out; have := HB0.out.size; have := HB1.out.size; have := hb2.size; simp at *; omega)
  have HB2 := Lib.hid hb2
  have H3 := Lib.hid h3
  have HW : Hid (B ≤ w1.heap.size) := Lib.hid (by have := HBB.out; have := HB0.out.size; have := HB1.out.size; simp at *; omega)
  clear h3 hb2 hl2
  unfold bstr at H3
  go_wp2_with fail
  refine H3.out.mono ?_
  rintro e w3 ⟨rfl, hl3, hb3, ho3⟩
  have HX := Lib.hid (And.intro hl3 (And.intro hb3 ho3))
  clear hl3 hb3 ho3
  go_wp2_with fail
  refine bodyPost_ret (results_none rfl _ _ _) rfl ?_
  refine ⟨rfl, ?_, (HB0.out.trans HB1.out).trans ((HB2.out.mono HW.out).trans HX.out.2.1), (HO0.out.trans HO1.out).trans ((oth_below HB2.out).trans HX.out.2.2)⟩
  have := HX.out.1
  rw [List.append_assoc] at this
  exact this
set_option maxHeartbeats 800000 in
theorem pwrite_text (w : World) (B L : Nat) (l : List UInt8) (p : Ky.Part) (ht : p.text = true) (h : Let w B L l) (hm : l.length ≤ 1000000000) (hs : p.say.length ≤ 1048576) (hB : B ≤ w.heap.size) (hx : Mx B w) :
    Calls Tryd.prog 34 #[partV p, .func (.func 35) #[.pointer (some ⟨L, 0, none⟩)] #[]] w fun e w' => e = .returned (.tuple #[]) ∧ Let w' B L (l ++ p.bytes) ∧ Below B w w' ∧ Oth L w w' := by
  obtain ⟨t, n, s⟩ := p
  simp only at ht
  subst ht
  simp only at hs
  have HL := h.lt
  have h1 := kadd_any (w.alloc (.cells #[.bool true, .int .i64 n, bstr s] 38)) B L l [2] (h.alloc _) (by simp; omega) (by simp; omega)
  have hh := Has.of_alloc w 38 #[.bool true, .int .i64 n, bstr s]
  have hb0 : Below B w (w.alloc (.cells #[.bool true, .int .i64 n, bstr s] 38)) := (Below.refl B w).alloc hB _
  have ho0 : Oth L w (w.alloc (.cells #[.bool true, .int .i64 n, bstr s] 38)) := (Lib.OthersKept.refl _ _ w).alloc _
  have H1 := Lib.hid h1
  have HH := Lib.hid hh
  have HB0 := Lib.hid hb0
  have HO0 := Lib.hid ho0
  have HM := Lib.hid hm
  have HS := Lib.hid hs
  have HBB := Lib.hid hB
  have HX0 := Lib.hid hx
  have HE := Lib.hid (Ky.esc_len s).1
  clear h1 hh hb0 ho0 h hm hB hs hx
  unfold bstr at *
  go_enter Tryd.func34, Tryd.ntmps34
  go_wp2_with fail
  refine H1.out.mono ?_
  rintro e w1 ⟨rfl, hl1, hb1, ho1⟩
  have hh1 := HH.out.oth ho1 (by omega) (by decide)
  have c1 : w1.cell? ⟨w.heap.size, 2, none⟩ = some (.string ⟨s.toArray⟩) := hh1.cell 2
  have HL1 := Lib.hid hl1
  have HB1 := Lib.hid hb1
  have HO1 := Lib.hid ho1
  have HW : Hid (B ≤ w1.heap.size) := Lib.hid (by have := HB0.out.size; have := hb1.size; have := HBB.out; simp at *; omega)
  have H2 := Lib.hid (replaceAll_any w1 B s HS.out (HX0.out.below (HB0.out.trans hb1) (Nat.le_refl _)))
  unfold bstr at H2
  clear hh1 hl1 hb1 ho1
  go_wp2_with fail
  refine H2.out.mono ?_
  rintro e w2 ⟨rfl, hb2⟩
  have hl2 : Let w2 B L (l ++ [2]) := HL1.out.below hb2
  have h3 := kadd_any w2 B L (l ++ [2]) (Ky.esc s) hl2 (by simp; have := HM.out; have := HE.out; have := HS.out; omega) (by have := HW.out; have := hb2.size; omega)
  have HB2 := Lib.hid hb2
  have H3 := Lib.hid h3
  clear h3 hb2 hl2
  unfold bstr at H3
  go_wp2_with fail
  refine H3.out.mono ?_
  rintro e w3 ⟨rfl, hl3, hb3, ho3⟩
  have h4 := kadd_any w3 B L (l ++ [2] ++ Ky.esc s) [0, 0] hl3 (by simp; have := HM.out; have := HE.out; have := HS.out; omega) (by have := HW.out; have := HB2.out.size; have := hb3.size; omega)
  have HX := Lib.hid (And.intro hb3 ho3)
  have H4 := Lib.hid h4
  clear h4 hl3 hb3 ho3
  unfold bstr at H4
  go_wp2_with fail
  refine H4.out.mono ?_
  rintro e w4 ⟨rfl, hl4, hb4, ho4⟩
  have HY := Lib.hid (And.intro hl4 (And.intro hb4 ho4))
  clear hl4 hb4 ho4
  go_wp2_with fail
  go_end0
  refine ⟨rfl, ?_, (HB0.out.trans HB1.out).trans ((HB2.out.mono HW.out).trans (HX.out.1.trans HY.out.2.1)), (HO0.out.trans HO1.out).trans ((oth_below HB2.out).trans (HX.out.2.trans HY.out.2.2))⟩
  have := HY.out.1
  rw [List.append_assoc, List.append_assoc] at this
  exact this
theorem pwrite_any (w : World) (B L : Nat) (l : List UInt8) (p : Ky.Part) (hf : p.fits) (h : Let w B L l) (hm : l.length ≤ 1000000000) (hs : p.say.length ≤ 1048576) (hB : B ≤ w.heap.size) (hx : Mx B w) :
    Calls Tryd.prog 34 #[partV p, .func (.func 35) #[.pointer (some ⟨L, 0, none⟩)] #[]] w fun e w' => e = .returned (.tuple #[]) ∧ Let w' B L (l ++ p.bytes) ∧ Below B w w' ∧ Oth L w w' := by
  cases ht : p.text with
  | true => exact pwrite_text w B L l p ht h hm hs hB hx
  | false => exact pwrite_num w B L l p ht hf h hm hB
end Go.Proofs.YtfbdikaaeedeoaaDoor

/-
  The document's own Decode.
-/
import Derived.Test.YtnghpklegomaeaaGRefEnc
namespace Go.Proofs.Ytnghpklegomaeaa
open Go.RowKit Go.Maps

theorem rdecode_bad (w : World) (n : Int) (A : Option Addr) (k c : Nat) (h : ¬ (0 ≤ n ∧ n ≤ 16383) ∨ k ≠ 512) :
    Calls Try.prog 16 #[.int .i64 n, .slice A k c] w fun e w' => e = .returned (.tuple #[.slice none 0 0, .int .i64 1]) ∧ w = w' := by
  by_cases h0 : n < 0
  · clear h
    go_enter Try.func16, Try.ntmps16
    go_wp2_with fail
    go_ret2
    exact ⟨rfl, rfl⟩
  · have h0' : decide (n < 0) = false := decide_eq_false h0
    by_cases h1 : 16383 < n
    · clear h h0
      go_enter Try.func16, Try.ntmps16
      go_wp2_with fail
      go_ret2
      exact ⟨rfl, rfl⟩
    · have h1' : decide (16383 < n) = false := decide_eq_false h1
      have h2 : ((k : Int) == 512) = false := by rw [beq_eq_false_iff_ne]; omega
      have h3 : ((k : Int) != 512) = true := by rw [bne_iff_ne]; omega
      clear h h0 h1
      go_enter Try.func16, Try.ntmps16
      go_wp2_with fail
      go_ret2
      exact ⟨rfl, rfl⟩

/-- what the document's Decode answers where number and length are right -/
def RReads (w : World) (n : Nat) (l : List UInt8) (e : Ending) (w' : World) : Prop :=
  (Pg.sound n l = true ∧ REnc w (Pg.payload l) e w') ∨ (Pg.sound n l = false ∧ e = .returned (.tuple #[.slice none 0 0, .int .i64 30]) ∧ Below w.heap.size w w')

theorem run_cutb (g o c s : Nat) (hc : 512 ≤ c) (hs : s ≤ 502) (w : World) : (Instr.sliceAt 25 (.slice (some ⟨g, o, none⟩) 512 c) (some (.int .i64 10)) (some (.int .i64 (10 + (s : Int)))) none).run Try.prog w = .ok (.slice (some ⟨g, o + 10, none⟩) s (c - 10)) w := by
  have he : Try.prog.elem 25 = 5 := by kernel_rfl
  have ht : Try.prog.underlying 25 = some (.slice (Try.prog.elem 25)) := by rw [he]; exact und_bytes
  have hsz : ∀ w, (Go.sizeOf 5).run Try.prog w = .ok 1 w := by
    intro w
    obtain ⟨i0, hi, hz0, hz1, hz2⟩ := info_parts inf_u8
    simp [Go.sizeOf, typeInfo, hi, hz1]
  rw [run_sliceAt_slice w _ _ _ _ _ ht, run_slice_lh w _ (some ⟨g, o, none⟩) 512 c ht .i64 .i64 10 (10 + (s : Int)) (by omega) (by omega) (by omega), he, hsz, Result.andThen_ok]
  have e1 : (10 + (s : Int)).toNat = 10 + s := by omega
  have e2 : ¬ c = 10 := by omega
  rw [e1]
  simp [sliced, Addr.add_mid, e2]

theorem OwnV.below {w w' : World} {B : Nat} {v : Value} {L : List UInt8} (h : OwnV w B v L) (hb : Below w.heap.size w w') : OwnV w' B v L :=
  ownsRow_keep h (Fr.of_below hb noB) (fun _ _ e => e)
theorem conv_at (w : World) (B : Nat) (A : Option Addr) (l : List UInt8) (n c : Nat) (hn : l.length = n) (h : Rd w B A l) : (convert 25 9 (.slice A n c)).run Try.prog w = .ok (bstr l) w := by
  subst hn
  exact conv_rd w B A l c h
set_option maxHeartbeats 800000 in
theorem rdecode_ok (w : World) (n : Nat) (hn : n ≤ 16383) (A : Option Addr) (l : List UInt8) (c : Nat) (hl : l.length = 512) (hc : 512 ≤ c) (h : Rd w w.heap.size A l) :
    Calls Try.prog 16 #[.int .i64 n, .slice A 512 c] w (RReads w n l) := by
  obtain ⟨g, o, rfl, hgw, hcells⟩ := h.2 (by omega)
  have h8 : w.cell? ⟨g, o + 8, none⟩ = some (.int .u8 ((l[8]'(by omega)).toNat : Int)) := hcells 8 _ (by rw [bytCells_get, List.getElem?_eq_getElem (by omega)]; rfl)
  have h9 : w.cell? ⟨g, o + 9, none⟩ = some (.int .u8 ((l[9]'(by omega)).toNat : Int)) := hcells 9 _ (by rw [bytCells_get, List.getElem?_eq_getElem (by omega)]; rfl)
  have hso : Pg.sizeOf l = (l[8]'(by omega)).toNat * 256 + (l[9]'(by omega)).toNat := by
    unfold Pg.sizeOf
    rw [List.getD_eq_getElem?_getD, List.getD_eq_getElem?_getD, List.getElem?_eq_getElem (by omega), List.getElem?_eq_getElem (by omega)]
    rfl
  have l8 := (l[8]'(by omega)).toNat_lt
  have l9 := (l[9]'(by omega)).toNat_lt
  have H := Lib.hid h
  have HL := Lib.hid hl
  generalize l[8]'(by omega) = x8 at *
  generalize l[9]'(by omega) = x9 at *
  have HSO := Lib.hid hso
  clear h hcells hl hso
  have hn' : (n : Int) ≤ 16383 := by omega
  go_enter Try.func16, Try.ntmps16
  go_wp2_with fail
  go_quiet (fail)
  have e256 : (256 * (x8.toNat : Int) + (x9.toNat : Int)) = ((Pg.sizeOf l : Nat) : Int) := by rw [HSO.out]; omega
  rw [e256]
  have hb1 : Below w.heap.size w (w.drewN nq) := ⟨rfl, rfl, rfl, Nat.le_refl _, fun _ _ => rfl⟩
  have hr1 : Rd (w.drewN nq) (w.drewN nq).heap.size (some ⟨g, o, none⟩) l := H.out
  have hgw1 : g < (w.drewN nq).heap.size := hgw
  generalize w.drewN nq = w1 at *
  have B1 := Lib.hid hb1
  have R1 := Lib.hid hr1
  clear e256 hb1 hr1 HSO h8 h9 l8 l9 H
  generalize hs : Pg.sizeOf l = s at *
  have HS := Lib.hid hs
  clear hs
  by_cases hgt : 502 < s
  · have hgt' : (502 : Int) < (s : Int) := by omega
    go_wp2_with fail
    go_ret2
    exact .inr ⟨by rw [Bool.eq_false_iff]; intro h; have := (Pg.sound_iff.1 h).1; rw [HS.out] at this; omega, rfl, B1.out⟩
  · have hle : (s : Int) ≤ 502 := by omega
    have hpl : (Pg.payload l).length = s := by rw [Pg.payload_length l HL.out (by rw [HS.out]; omega), HS.out]
    have hple : (Pg.payload l).length ≤ 502 := by omega
    have hrp : Rd w1 w1.heap.size (some ⟨g, o + 10, none⟩) (Pg.payload l) := ⟨by omega, fun _ => ⟨g, o + 10, rfl, hgw1, fun j u hj => by
      rw [bytCells_get, Option.map_eq_some_iff] at hj
      obtain ⟨y, hy, rfl⟩ := hj
      rw [Pg.payload, List.getElem?_take] at hy
      split at hy
      · rw [List.getElem?_drop] at hy
        have hlt := (List.getElem?_eq_some_iff.1 hy).1
        obtain ⟨g', o', e, _, hcc⟩ := R1.out.2 (by omega)
        injection e with e
        injection e with e1 e2
        subst e1 e2
        rw [Nat.add_assoc]
        exact hcc (10 + j) (byt y) (by rw [bytCells_get, hy]; rfl)
      · cases hy⟩⟩
    have hcut := run_cutb g o c s hc (by omega)
    have HRP := Lib.hid hrp
    have HPL := Lib.hid hpl
    clear hrp hpl hgt
    go_wp2_with (refine wpList_append_v rfl (.tmp 33) (.tmp 37) rfl w1.heap.size (.slice none 0 0) [] rfl (OwnV.nil _ _) w1.heap.size (some ⟨g, o + 10, none⟩) (Pg.payload l) (c - 10) (by rw [HPL.out]; rfl) HRP.out (fun e => by cases e) (by simp; omega) (Nat.le_refl _) w1 (Below.refl _ _) ?_; intro v2 w2 O2 B2)
    obtain ⟨A2, c2, rfl, hA2, hR2⟩ := O2.out.at_ s HPL.out
    have henc := rencode_ok w2 n hn A2 (Pg.payload l) c2 hple (hR2 (by simp; omega)) hA2
    rw [HPL.out] at henc
    have HE := Lib.hid henc
    have HA2 := Lib.hid hA2
    clear hR2 henc hA2 hcut
    go_wp2_with fail
    refine HE.out.mono ?_
    rintro e w3 ⟨v3, rfl, o3, b3⟩
    obtain ⟨A3, c3, rfl, hA3, hR3⟩ := o3.at_ 512 (Pg.made_length n _ hple)
    have V2 : Hid (Below w.heap.size w w2) := Lib.hid (B1.out.trans (B2.out.mono B1.out.size))
    have V3 : Hid (Below w.heap.size w w3) := Lib.hid (V2.out.trans (b3.mono V2.out.size))
    have hcv1 := conv_at w3 _ A3 (Pg.made n (Pg.payload l)) 512 c3 (Pg.made_length n _ hple) (hR3 (by rw [Pg.made_length n _ hple]; omega))
    have hcv2 := conv_at w3 _ (some ⟨g, o, none⟩) l 512 c HL.out ((R1.out.below (B2.out.trans (b3.mono B2.out.size))))
    unfold bstr at hcv1 hcv2
    have O3 : Hid (OwnV w3 w1.heap.size (.slice A2 s c2) (Pg.payload l)) := Lib.hid (OwnV.below O2.out b3)
    clear o3 b3 hA3 hR3
    go_wp2_with fail
    · have hne : (!Pg.made n (Pg.payload l) == l) = true := by assumption
      go_ret2
      refine .inr ⟨?_, rfl, V3.out⟩
      rw [Bool.eq_false_iff]
      intro h
      have := (Pg.sound_iff.1 h).2
      rw [← this] at hne
      simp at hne
    · have hne : (!Pg.made n (Pg.payload l) == l) = false := by assumption
      have heq : Pg.made n (Pg.payload l) = l := by simpa using hne
      go_ret2
      exact .inl ⟨Pg.sound_iff.2 ⟨by rw [HS.out]; omega, heq.symm⟩, _, rfl, O3.out.low B1.out.size, V3.out⟩
theorem OwnV.fr {w w' : World} {B g : Nat} {v : Value} {L : List UInt8} (h : OwnV w B v L) (f : Fr (oneB g) w w') (hlt : g < B) : OwnV w' B v L :=
  ownsRow_keep h f (fun k hk e => by have e : k = g := e; have := (h.lt k hk).1; omega)
theorem decode_at (w : World) (n : Nat) (hn : n ≤ 16383) (A : Option Addr) (l : List UInt8) (c : Nat) (hl : l.length = 512) (h : Rd w w.heap.size A l) :
    Calls Try.prog 13 #[.int .i64 n, .slice A l.length c] w (Reads w n l) := by
  have := decode_ok w n hn A l c hl h
  rw [hl]
  exact this
theorem rdecode_at (w : World) (n : Nat) (hn : n ≤ 16383) (A : Option Addr) (l : List UInt8) (c : Nat) (hl : l.length = 512) (hc : l.length ≤ c) (h : Rd w w.heap.size A l) :
    Calls Try.prog 16 #[.int .i64 n, .slice A l.length c] w (RReads w n l) := by
  have := rdecode_ok w n hn A l c hl (by omega) h
  rw [hl]
  exact this
/-- behind k rounds of a loop that writes over a block of m bytes -/
def Over (w0 : World) (g m : Nat) (wr : World) : Prop := (∃ cur : Array Value, Has wr g 5 cur ∧ cur.size = m) ∧ Fr (oneB g) w0 wr
theorem Over.first {w : World} {g : Nat} {L : List UInt8} (h : Has w g 5 (bytCells L).toArray) : Over w g L.length w := ⟨⟨_, h, by rw [List.size_toArray, bytCells_len]⟩, Fr.refl _ _⟩
theorem Over.next {w0 wr : World} {g m : Nat} (h : Over w0 g m wr) (k : Nat) (u : Value) : Over w0 g m (wr.setCell ⟨g, k, none⟩ u) := by
  obtain ⟨⟨cur, h1, h2⟩, h3⟩ := h
  exact ⟨⟨_, h1.set k u, by rw [Array.size_setIfInBounds]; exact h2⟩, h3.put u⟩
theorem Over.cell {w0 wr : World} {g m : Nat} (h : Over w0 g m wr) {k : Nat} (hk : k < m) : ∃ u, wr.cell? ⟨g, k, none⟩ = some u ∧ wr.frozen? ⟨g, k, none⟩ = false := by
  obtain ⟨⟨cur, h1, h2⟩, _⟩ := h
  exact ⟨cur[k]'(by omega), by rw [h1.cell, Array.getElem?_eq_getElem (by omega)], h1.free k⟩
end Go.Proofs.Ytnghpklegomaeaa

/-
  A record is written as bytes.
-/
import Derived.Test.YtfbdikaaeedeoaaDoorKWrite
namespace Go.Proofs.YtfbdikaaeedeoaaDoor
open Go.RowKit Go.Maps
open Ky (Its)
set_option maxRecDepth 100000

def EncPost (w : World) (t : Its) (e : Ending) (w' : World) : Prop := e = .returned (.tuple #[bstr (Ky.encodeS t), .int .i64 (Ky.encodeE t)]) ∧ Below w.heap.size w w'
theorem ret_enc {w w' : World} {t : Its} {s : List UInt8} {n : Int} (h : Ky.encodeS t = s ∧ Ky.encodeE t = n) (hb : Below w.heap.size w w') : EncPost w t (.returned (.tuple #[bstr s, .int .i64 n])) w' := ⟨by rw [h.1, h.2], hb⟩
set_option maxHeartbeats 1600000 in
theorem encode_any (w : World) (A : Option Addr) (c : Nat) (t : Its) (hr : SlAt w w.heap.size A t) (hf : t.fits) (hw : t.weight ≤ 10000000) :
    Calls Tryd.prog 22 #[.slice A t.len c] w (EncPost w t) := by
  have HW1 := Lib.hid (wall_any (snk_length w.heap.size w.heap.size (Nat.le_refl _)) (t.size + 1) t (w.alloc (.cells #[.int .i64 0] 85)) A c [] 1 (by omega) (by omega) hf hw (hr.below ((Below.refl _ _).alloc (Nat.le_refl _) _) (Nat.le_refl _)) (Has.of_alloc _ _ _) (by simp) (by simp; omega))
  rw [show ((1 : Nat) : Int) = 1 from rfl] at HW1
  have HB1 : Hid (Below w.heap.size w (w.alloc (.cells #[.int .i64 0] 85))) := Lib.hid ((Below.refl _ _).alloc (Nat.le_refl _) _)
  have HR := Lib.hid hr
  have HF := Lib.hid hf
  have HW := Lib.hid hw
  clear hr hf hw
  go_enter Tryd.func22, Tryd.ntmps22
  go_wp2_with fail
  refine HW1.out.mono ?_
  rintro e w2 ⟨rfl, hs2, hk2⟩
  have HB2 : Hid (Below w.heap.size w w2) := Lib.hid (HB1.out.trans hk2.1)
  have HS2 := Lib.hid hs2
  clear hs2 hk2 HW1 HB1
  by_cases he : Ky.encE 1 t = 0
  · have hcnt : Cnt w2 w.heap.size (Ky.encB t) := by have := HS2.out he; rwa [List.nil_append] at this
    have c0 : w2.cell? ⟨w.heap.size, 0, none⟩ = some (.int .i64 ((Ky.encB t).length : Int)) := hcnt.cell 0
    have HE := Lib.hid he
    have hlt2 : Hid (w.heap.size < w2.heap.size) := Lib.hid hcnt.lt
    have hlen := Ky.encB_len t HF.out HW.out
    rw [he]
    clear he hcnt
    by_cases hfull : 100000 < (Ky.encB t).length
    · have hfull' : (100000 : Int) < ((Ky.encB t).length : Int) := by omega
      have HP := Lib.hid (Ky.encode_full HE.out hfull)
      clear hfull hlen
      go_wp2_with fail
      go_ret2
      exact ret_enc HP.out HB2.out
    · have hfull' : decide ((100000 : Int) < ((Ky.encB t).length : Int)) = false := decide_eq_false (by omega)
      have HP := Lib.hid (Ky.encode_ok HE.out hfull)
      have HLN : Hid ((Ky.encB t).length ≤ 100000) := Lib.hid (by omega)
      clear hfull hlen
      have HB3 : Hid (Below w2.heap.size w2 (w2.alloc (.cells #[.pointer none, .slice none 0 0] bT))) := Lib.hid ((Below.refl _ _).alloc (Nat.le_refl _) _)
      have HW2 := Lib.hid (wall_any (snk_letter w2.heap.size w2.heap.size (Nat.le_refl _)) (t.size + 1) t (w2.alloc (.cells #[.pointer none, .slice none 0 0] bT)) A c [] 1 (by omega) (by omega) HF.out HW.out (((HR.out.below HB2.out (Nat.le_refl _)).more (Nat.le_of_lt hlt2.out)).below HB3.out (Nat.le_refl _)) (Let.fresh w2) (by simp) (by have := HW.out; simp; omega))
      rw [show ((1 : Nat) : Int) = 1 from rfl] at HW2
      go_wp2_with fail
      refine HW2.out.mono ?_
      rintro e w3 ⟨rfl, hs3, hk3⟩
      have hlet : Let w3 w2.heap.size w2.heap.size (Ky.encB t) := by have := hs3 HE.out; rwa [List.nil_append] at this
      have HST := Lib.hid (string_any w3 w2.heap.size w2.heap.size (Ky.encB t) hlet (by have := HLN.out; omega) (Nat.le_of_lt hlet.lt))
      have HB4 : Hid (Below w2.heap.size w2 w3) := Lib.hid (HB3.out.trans hk3.1)
      clear hs3 hk3 hlet HW2
      unfold bstr at HST
      go_wp2_with fail
      refine HST.out.mono ?_
      rintro e w4 ⟨rfl, hb4⟩
      have HB5 := Lib.hid hb4
      clear hb4
      go_wp2_with fail
      go_ret2
      exact ret_enc HP.out (HB2.out.trans ((HB4.out.trans HB5.out).mono (Nat.le_of_lt hlt2.out)))
  · have HP := Lib.hid (Ky.encode_bad he)
    have hne : (Ky.encE 1 t != 0) = true := by simpa using he
    clear he
    go_wp2_with fail
    go_ret2
    exact ret_enc HP.out HB2.out
end Go.Proofs.YtfbdikaaeedeoaaDoor

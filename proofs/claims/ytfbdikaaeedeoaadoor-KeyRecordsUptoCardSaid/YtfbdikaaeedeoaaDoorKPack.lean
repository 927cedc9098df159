/-
  A key is written as bytes.
-/
import Derived.Test.YtfbdikaaeedeoaaDoorKPart
namespace Go.Proofs.YtfbdikaaeedeoaaDoor
open Go.RowKit Go.Maps
set_option maxRecDepth 100000

/-- parts that are read: they lie below B -/
def RdP (w : World) (B : Nat) (A : Option Addr) (l : List Ky.Part) : Prop := l ≠ [] → ∃ g o, A = some ⟨g, o, none⟩ ∧ g < B ∧ ∀ j p, l[j]? = some p → w.cell? ⟨g, o + j * 3, none⟩ = some (.bool p.text) ∧ w.cell? ⟨g, o + j * 3 + 1, none⟩ = some (.int .i64 p.n) ∧ w.cell? ⟨g, o + j * 3 + 2, none⟩ = some (bstr p.say)
theorem RdP.nil (w : World) (B : Nat) (A : Option Addr) : RdP w B A [] := fun h => absurd rfl h
theorem RdP.below {w w' : World} {B M : Nat} {A : Option Addr} {l : List Ky.Part} (h : RdP w B A l) (hb : Below M w w') (hB : B ≤ M) : RdP w' B A l := fun h0 => by
  obtain ⟨g, o, hA, hg, hc⟩ := h h0
  refine ⟨g, o, hA, hg, fun j x hj => ?_⟩
  have e : ∀ i, w'.cell? ⟨g, i, none⟩ = w.cell? ⟨g, i, none⟩ := fun i => hb.cell (p := ⟨g, i, none⟩) (Nat.lt_of_lt_of_le hg hB)
  rw [e, e, e]
  exact hc j x hj
theorem RdP.more {w : World} {B M : Nat} {A : Option Addr} {l : List Ky.Part} (h : RdP w B A l) (hB : B ≤ M) : RdP w M A l := fun h0 => by
  obtain ⟨g, o, hA, hg, hc⟩ := h h0
  exact ⟨g, o, hA, by omega, hc⟩
/-- no part's text is great -/
def Small (l : List Ky.Part) : Prop := ∀ p ∈ l, p.fits ∧ p.say.length ≤ 1048576
theorem bytes_small (l : List Ky.Part) (h : Small l) : (Ky.bytes l).length ≤ l.length * 2097161 := by
  induction l with
  | nil => exact Nat.le_refl _
  | cons p l ih =>
    rw [Ky.bytes_cons, List.length_append, List.length_cons]
    have h1 := ih (fun q hq => h q (by simp [hq]))
    have h2 := part_len p
    have h3 := (h p (by simp)).2
    omega
def Ky.packE (l : List Ky.Part) : Int := if 16 < l.length then 3 else if l.all Ky.Part.ok then 0 else 1
def Ky.packS (l : List Ky.Part) : List UInt8 := if 16 < l.length then [] else if l.all Ky.Part.ok then Ky.bytes l else []
theorem Ky.pack_full {l : List Ky.Part} (h : 16 < l.length) : Ky.packS l = [] ∧ Ky.packE l = 3 := by unfold Ky.packS Ky.packE; rw [if_pos h, if_pos h]; exact ⟨rfl, rfl⟩
theorem Ky.pack_bad {l : List Ky.Part} (h : ¬ 16 < l.length) (ha : l.all Ky.Part.ok = false) : Ky.packS l = [] ∧ Ky.packE l = 1 := by unfold Ky.packS Ky.packE; rw [if_neg h, if_neg h, ha]; exact ⟨rfl, rfl⟩
theorem Ky.pack_ok {l : List Ky.Part} (h : ¬ 16 < l.length) (ha : l.all Ky.Part.ok = true) : Ky.packS l = Ky.bytes l ∧ Ky.packE l = 0 := by unfold Ky.packS Ky.packE; rw [if_neg h, if_neg h, ha]; exact ⟨rfl, rfl⟩
def PackPost (w : World) (l : List Ky.Part) (e : Ending) (w' : World) : Prop := e = .returned (.tuple #[bstr (Ky.packS l), .int .i64 (Ky.packE l)]) ∧ Below w.heap.size w w'
theorem ret_pack {w w' : World} {l : List Ky.Part} {s : List UInt8} {n : Int} (h : Ky.packS l = s ∧ Ky.packE l = n) (hb : Below w.heap.size w w') : PackPost w l (.returned (.tuple #[bstr s, .int .i64 n])) w' := ⟨by rw [h.1, h.2], hb⟩
set_option maxHeartbeats 1600000 in
theorem pack_any (w : World) (A : Option Addr) (c : Nat) (l : List Ky.Part) (hr : RdP w w.heap.size A l) (hs : Small l) (hx : Mx w.heap.size w) (hcap : l.length ≤ 1000000) :
    Calls Tryd.prog 11 #[.slice A l.length c] w (PackPost w l) := by
  by_cases h16 : 16 < l.length
  · have h1 : (16 : Int) < (l.length : Int) := by omega
    have HP := Lib.hid (Ky.pack_full h16)
    clear h16
    go_enter Tryd.func11, Tryd.ntmps11
    go_wp2_with fail
    go_ret2
    exact ret_pack HP.out (Below.refl _ _)
  · have h1 : ¬ ((16 : Int) < (l.length : Int)) := by omega
    have H16 := Lib.hid h16
    have HB0 := Lib.hid ((Below.refl w.heap.size w).alloc (Nat.le_refl _) (.cells #[.pointer none, .slice none 0 0] bT))
    have HL0 := Lib.hid (Let.fresh w)
    have HR := Lib.hid hr
    have HS := Lib.hid hs
    have HX := Lib.hid hx
    clear hr hs hx
    go_enter Tryd.func11, Tryd.ntmps11
    go_wp2_with fail
    generalize hw1 : (w.alloc (.cells #[.pointer none, .slice none 0 0] bT)) = w1 at *
    clear hw1
    generalize hL : w.heap.size = L at *
    have HLw := Lib.hid hL
    clear hL
    go_loopw [12] (fun i wr => ∃ k : Nat, k ≤ l.length ∧ i = .int .i64 k ∧ Hid ((l.take k).all Ky.Part.ok = true) ∧ Hid (Let wr L L (Ky.bytes (l.take k))) ∧ Hid (Below L w wr)) (fun i _ => l.length - (intOf i).toNat)
    case atStart => exact ⟨0, by omega, rfl, Lib.hid rfl, HL0, HB0⟩
    case round =>
      rename World => wr
      obtain ⟨k, hk, rfl, hok, hlet, hbel⟩ := hrel
      by_cases hlt : k < l.length
      · have hk16 : (k : Int) < 16 := by omega
        obtain ⟨g, o, rfl, hg, hcell⟩ := HR.out.below hbel.out (Nat.le_refl _) (fun e => by rw [e] at hlt; exact absurd hlt (by simp))
        obtain ⟨p, hp⟩ : ∃ p, l[k]? = some p := ⟨_, List.getElem?_eq_getElem hlt⟩
        obtain ⟨c0, c1, c2⟩ := hcell k p hp
        have hps := HS.out p (List.mem_of_getElem? hp)
        have hLr : L < wr.heap.size := hlet.out.lt
        have htk : l.take (k + 1) = l.take k ++ [p] := by rw [List.take_add_one, hp]; rfl
        have hbt : (Ky.bytes (l.take k)).length ≤ 1000000000 := by
          have h1 := bytes_small (l.take k) (fun q hq => HS.out q (List.mem_of_mem_take hq))
          have h2 : (l.take k).length ≤ 16 := by rw [List.length_take]; omega
          omega
        have HT := Lib.hid htk
        have HBT := Lib.hid hbt
        have HPS := Lib.hid hps
        have HPK := Lib.hid hp
        have HLr := Lib.hid hLr
        have hh := Has.of_alloc wr 38 #[.bool p.text, .int .i64 p.n, bstr p.say]
        have hba : Below wr.heap.size wr (wr.alloc (.cells #[.bool p.text, .int .i64 p.n, bstr p.say] 38)) := (Below.refl _ _).alloc (Nat.le_refl _) _
        have HH := Lib.hid hh
        have HBA := Lib.hid hba
        have HM := Lib.hid (mayBe_any (wr.alloc (.cells #[.bool p.text, .int .i64 p.n, bstr p.say] 38)) p)
        clear hcell htk hbt hps hp hh hba hLr
        unfold bstr at *
        go_wp2_with fail
        refine HM.out.mono ?_
        rintro e w2 ⟨rfl, hb2⟩
        have hh2 := HH.out.keep (Fr.of_below hb2 noB) (fun e => e)
        have d0 : w2.cell? ⟨wr.heap.size, 0, none⟩ = some (.bool p.text) := hh2.cell 0
        have d1 : w2.cell? ⟨wr.heap.size, 1, none⟩ = some (.int .i64 p.n) := hh2.cell 1
        have d2 : w2.cell? ⟨wr.heap.size, 2, none⟩ = some (.string ⟨p.say.toArray⟩) := hh2.cell 2
        have hbw : Below wr.heap.size wr w2 := HBA.out.trans (hb2.mono (by simp))
        have HBW := Lib.hid hbw
        clear hh2 hb2 hbw
        cases hpo : p.ok with
        | false =>
          have hall : l.all Ky.Part.ok = false := by
            rw [List.all_eq_false]
            exact ⟨p, List.mem_of_getElem? HPK.out, by rw [hpo]; decide⟩
          have HA := Lib.hid hall
          clear hall
          go_wp2_with fail
          go_ret2
          exact ret_pack (Ky.pack_bad H16.out HA.out) (by rw [HLw.out]; exact hbel.out.trans (HBW.out.mono (Nat.le_of_lt HLr.out)))
        | true =>
          have hx2 : Mx L w2 := HX.out.below (hbel.out.trans (HBW.out.mono (Nat.le_of_lt HLr.out))) (Nat.le_refl _)
          have hlt2 : Let w2 L L (Ky.bytes (l.take k)) := hlet.out.below HBW.out
          have HW := Lib.hid (pwrite_any w2 L L (Ky.bytes (l.take k)) p HPS.out.1 hlt2 HBT.out HPS.out.2 (by have := HLr.out; have := HBW.out.size; omega) hx2)
          clear hx2 hlt2
          unfold partV bstr at HW
          go_wp2_with fail
          refine HW.out.mono ?_
          rintro e w3 ⟨rfl, hl3, hb3, ho3⟩
          have HZ := Lib.hid (And.intro hl3 hb3)
          clear hl3 hb3 ho3
          go_wp2_with fail
          go_roundw
          case rel =>
            refine ⟨k + 1, by omega, by go_num, Lib.hid ?_, Lib.hid ?_, Lib.hid ((hbel.out.trans (HBW.out.mono (Nat.le_of_lt HLr.out))).trans HZ.out.2)⟩
            · rw [HT.out, List.all_append, hok.out]
              simp [hpo]
            · rw [HT.out, Ky.bytes_append, Ky.bytes_cons, Ky.bytes_nil, List.append_nil]
              exact HZ.out.1
          case measure => (simp [intOf]) <;> omega
      · obtain rfl : k = l.length := by omega
        have h1 := hok.out
        have h2 := hlet.out
        rw [List.take_length] at h1 h2
        have hsm := bytes_small l HS.out
        have HSS := Lib.hid (string_any wr L L (Ky.bytes l) h2 (by omega) (by have := h2.lt; omega))
        have HOK := Lib.hid h1
        clear h1 h2 hsm
        unfold bstr at *
        go_wp2_with fail
        refine HSS.out.mono ?_
        rintro e w2 ⟨rfl, hb2⟩
        have HB2 := Lib.hid hb2
        clear hb2
        go_wp2_with fail
        go_ret2
        exact ret_pack (Ky.pack_ok H16.out HOK.out) (by rw [HLw.out]; exact hbel.out.trans HB2.out)
end Go.Proofs.YtfbdikaaeedeoaaDoor

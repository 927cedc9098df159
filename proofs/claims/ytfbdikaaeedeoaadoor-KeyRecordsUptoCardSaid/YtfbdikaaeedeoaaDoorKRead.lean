/-
  Bytes are read as parts of a key.
-/
import Derived.Test.YtfbdikaaeedeoaaDoorKAwake
import Derived.Deep.LoopGhost
namespace Go.Proofs.YtfbdikaaeedeoaaDoor
open Go.RowKit Go.Maps
set_option maxRecDepth 100000

def RAt (w : World) (R : Nat) (s : List UInt8) : Prop := Has w R 78 #[bstr s]
theorem Let.fr {S : Nat → Prop} {w w' : World} {B L : Nat} {l : List UInt8} (h : Let w B L l) (f : Fr S w w') (hs : ∀ k, S k → k < B) : Let w' B L l := by
  have key : ∀ {p : Value}, Lib.BuilderAtF bT bE B L p (bytCells l) w → Lib.BuilderAtF bT bE B L p (bytCells l) w' := by
    intro p hp
    obtain ⟨h1, v, h2, h3, h4⟩ := hp
    refine ⟨h1, v, (f.old L (lt_of_block h2) (fun e => by have := hs _ e; omega)).trans h2, ⟨h3.1, ?_⟩, h4⟩
    rcases h3.2 with hn | ⟨g, cap, cur, fz, hv, hg, hgg, rest⟩
    · exact .inl hn
    · exact .inr ⟨g, cap, cur, fz, hv, hg, (f.old g (lt_of_block hgg) (fun e => by have := hs _ e; omega)).trans hgg, rest⟩
  exact h.elim (fun x => .inl (key x)) (fun x => .inr (key x))
theorem take_no (w : World) (R : Nat) (s : List UInt8) (h : RAt w R s) (n : Nat) (hn : n < 18446744073709551616) (hlt : s.length < n) (hs : s.length ≤ 1000000000) :
    Calls Tryd.prog 51 #[.pointer (some ⟨R, 0, none⟩), .int .u64 (n : Int)] w fun e w' => e = .returned (.tuple #[bstr [], .bool false]) ∧ w = w' := by
  have c0 : w.cell? ⟨R, 0, none⟩ = some (bstr s) := h.cell 0
  have hlt' : (s.length : Int) < (n : Int) := by omega
  have hs' : (s.length : Int) ≤ 1000000000 := by omega
  have hn' : (n : Int) < 18446744073709551616 := by omega
  clear h hlt
  unfold bstr at *
  go_enter Tryd.func51, Tryd.ntmps51
  go_wp2_with fail
  go_ret2
  exact ⟨rfl, rfl⟩
theorem take_yes (w : World) (R : Nat) (s : List UInt8) (h : RAt w R s) (n : Nat) (hle : n ≤ s.length) (hs : s.length ≤ 1000000000) :
    Calls Tryd.prog 51 #[.pointer (some ⟨R, 0, none⟩), .int .u64 (n : Int)] w fun e w' => e = .returned (.tuple #[bstr (s.take n), .bool true]) ∧ RAt w' R (s.drop n) ∧ Fr (oneB R) w w' ∧ w'.heap.size = w.heap.size := by
  have c0 : w.cell? ⟨R, 0, none⟩ = some (bstr s) := h.cell 0
  have z0 := h.free 0
  have hle' : (n : Int) ≤ (s.length : Int) := by omega
  have hs' : (s.length : Int) ≤ 1000000000 := by omega
  have htk := str_take s n
  have hdr := str_drop s n
  have H := Lib.hid h
  clear h
  unfold bstr at *
  go_enter Tryd.func51, Tryd.ntmps51
  go_wp2_with fail
  go_ret2
  exact ⟨rfl, H.out.set 0 _, (Fr.refl _ _).put _, by simp⟩
def TextPost (w : World) (R : Nat) (s : List UInt8) (e : Ending) (w' : World) : Prop :=
  (match Ky.readText s with
    | none => e = .returned (.tuple #[bstr [], .bool false]) ∧ ∃ s', RAt w' R s'
    | some (a, r) => e = .returned (.tuple #[bstr a, .bool true]) ∧ RAt w' R r) ∧ Fr (oneB R) w w'
theorem text_none {w w' : World} {R : Nat} {s s' : List UInt8} (h : Ky.readText s = none) (hr : RAt w' R s') (f : Fr (oneB R) w w') : TextPost w R s (.returned (.tuple #[bstr [], .bool false])) w' := by
  unfold TextPost
  rw [h]
  exact ⟨⟨rfl, s', hr⟩, f⟩
theorem text_some {w w' : World} {R : Nat} {s a r : List UInt8} (h : Ky.readText s = some (a, r)) (hr : RAt w' R r) (f : Fr (oneB R) w w') : TextPost w R s (.returned (.tuple #[bstr a, .bool true])) w' := by
  unfold TextPost
  rw [h]
  exact ⟨⟨rfl, hr⟩, f⟩
theorem indexByte0_none (l : List UInt8) (h : Lib.indexByte l 0 = -1) : ∀ b ∈ l, b ≠ 0 := fun b hb e => by
  obtain ⟨i, hi⟩ := List.getElem?_of_mem hb
  exact Lib.indexByte_none h i (by rw [hi, e])
theorem indexByte0_some (l : List UInt8) (i : Nat) (h : Lib.indexByte l 0 = i) : i < l.length ∧ (∀ b ∈ l.take i, b ≠ 0) ∧ l.drop i = 0 :: l.drop (i + 1) := by
  obtain ⟨h1, h2⟩ := Lib.indexByte_some h
  obtain ⟨hlt, he⟩ := List.getElem?_eq_some_iff.1 h1
  refine ⟨hlt, fun b hb e => ?_, by rw [List.drop_eq_getElem_cons hlt, he]⟩
  obtain ⟨k, hk⟩ := List.getElem?_of_mem hb
  rw [List.getElem?_take] at hk
  split at hk
  · rename_i hki
    exact h2 k hki (by rw [hk, e])
  · cases hk
/-- where the loop stands: d is read, l is left -/
def TRel (w : World) (R : Nat) (s : List UInt8) (d l : List UInt8) (wr : World) : Prop :=
  Ky.readText s = (Ky.readText l).map (fun x => (d ++ x.1, x.2)) ∧ d.length + l.length ≤ s.length ∧ RAt wr R l ∧ Let wr w.heap.size w.heap.size d ∧ Fr (oneB R) w wr
theorem ib_any (w : World) (l : List UInt8) : Calls Tryd.prog 68 #[bstr l, .int .u8 0] w fun e w' => e = .returned (.int .i64 (Lib.indexByte l 0)) ∧ w = w' :=
  (Tryd.strings_IndexByte ⟨l.toArray⟩ 0 w).mono fun _ _ h => ⟨h.1, h.2.symm⟩
theorem fr_below {S : Nat → Prop} {a w w' : World} (h : Fr S a w) (hb : Below a.heap.size w w') : Fr S a w' :=
  ⟨hb.os.trans h.os, hb.tape.trans h.tape, hb.output.trans h.out, Nat.le_trans h.size hb.size, fun k hk hn => (hb.block k hk).trans (h.old k hk hn)⟩
theorem TRel.none {w : World} {R : Nat} {s d l : List UInt8} {wr w' : World} (h : TRel w R s d l wr) (hn : Ky.readText l = .none) (hr : ∃ s', RAt w' R s') (f : Fr (oneB R) w w') : TextPost w R s (.returned (.tuple #[bstr [], .bool false])) w' := by
  obtain ⟨s', hr⟩ := hr
  exact text_none (by rw [h.1, hn]; rfl) hr f
set_option maxHeartbeats 3200000 in
theorem text_any (w : World) (R : Nat) (s : List UInt8) (h : RAt w R s) (hs : s.length ≤ 100000000) :
    Calls Tryd.prog 52 #[.pointer (some ⟨R, 0, none⟩)] w (TextPost w R s) := by
  have hRw := h.lt
  have hR0 : TRel w R s [] s (w.alloc (.cells #[.pointer none, .slice none 0 0] bT)) := ⟨by simp, by simp, h.alloc _, Let.fresh w, (Fr.refl _ _).alloc _⟩
  have HR0 := Lib.hid hR0
  have HS := Lib.hid hs
  have HRW := Lib.hid hRw
  clear h hR0 hs hRw
  go_enter Tryd.func52, Tryd.ntmps52
  go_wp2_with fail
  generalize (w.alloc (.cells #[.pointer none, .slice none 0 0] bT)) = w1 at *
  go_loopg [5] s.length (fun gk _ wr => ∃ d l, l.length ≤ gk ∧ Hid (TRel w R s d l wr))
  case atStart => exact ⟨[], s, Nat.le_refl _, HR0⟩
  case round =>
    rename World => wr
    obtain ⟨d, l, hg, HR⟩ := hrel
    have hRr := HR.out.2.2.1
    have c0 : wr.cell? ⟨R, 0, none⟩ = some (bstr l) := hRr.cell 0
    have HI := Lib.hid (ib_any wr l)
    have hll : l.length ≤ 100000000 := by have := HR.out.2.1; have := HS.out; omega
    have HLL := Lib.hid hll
    have HG := Lib.hid hg
    clear hll hg hRr
    unfold bstr at *
    by_cases hneg : Lib.indexByte l 0 < 0
    · have h1 : Lib.indexByte l 0 = -1 := by have := Lib.indexByte_ge l 0; omega
      rw [h1] at HI
      have HP : Hid (TextPost w R s (.returned (.tuple #[bstr [], .bool false])) wr) := Lib.hid (HR.out.none (Ky.readText_none l (indexByte0_none l h1)) ⟨l, HR.out.2.2.1⟩ HR.out.2.2.2.2)
      clear h1 hneg
      go_wp2_with fail
      refine HI.out.mono ?_
      rintro e w' ⟨rfl, rfl⟩
      go_wp2_with fail
      go_ret2
      exact HP.out
    · have hpos : 0 ≤ Lib.indexByte l 0 := by omega
      obtain ⟨i, hi⟩ : ∃ i : Nat, Lib.indexByte l 0 = i := ⟨(Lib.indexByte l 0).toNat, by omega⟩
      obtain ⟨hil, hnz, hdr⟩ := indexByte0_some l i hi
      rw [hi] at HI
      have htk := str_take l i
      have hdd := str_drop l i
      have hil' : (i : Int) < (l.length : Int) := by omega
      have hib : (l.length : Int) ≤ 100000000 := by have := HLL.out; omega
      have HNZ := Lib.hid hnz
      have HDR := Lib.hid hdr
      have HIL := Lib.hid hil
      have HA := Lib.hid (kadd_any wr w.heap.size w.heap.size d (l.take i) HR.out.2.2.2.1 (by have := HR.out.2.1; have := HS.out; rw [List.length_take]; omega) HR.out.2.2.2.2.size)
      clear hnz hdr hi hpos hil hneg
      unfold bstr at HA
      go_wp2_with fail
      refine HI.out.mono ?_
      rintro e w' ⟨rfl, rfl⟩
      go_wp2_with fail
      refine HA.out.mono ?_
      rintro e w2 ⟨rfl, hl2, hb2, -⟩
      have hr2 : RAt w2 R l := HR.out.2.2.1.keep (S := fun k => w.heap.size ≤ k) ⟨hb2.os, hb2.tape, hb2.output, hb2.size, fun k hk hn => hb2.block k (by omega)⟩ (by have := HRW.out; omega)
      have d0 : w2.cell? ⟨R, 0, none⟩ = some (.string ⟨l.toArray⟩) := hr2.cell 0
      have z0 := hr2.free 0
      have HL2 := Lib.hid hl2
      have HR2 := Lib.hid hr2
      have HF2 : Hid (Fr (oneB R) w w2) := Lib.hid (fr_below HR.out.2.2.2.2 hb2)
      clear hl2 hr2 hb2
      have hr3 : RAt (w2.setCell ⟨R, 0, none⟩ (.string ⟨(l.drop i).toArray⟩)) R (l.drop i) := HR2.out.set 0 _
      have hf3 : Fr (oneB R) w2 (w2.setCell ⟨R, 0, none⟩ (.string ⟨(l.drop i).toArray⟩)) := (Fr.refl _ _).put _
      have HR3 := Lib.hid hr3
      have HL3 : Hid (Let (w2.setCell ⟨R, 0, none⟩ (.string ⟨(l.drop i).toArray⟩)) w.heap.size w.heap.size (d ++ l.take i)) := Lib.hid (HL2.out.fr hf3 (fun k hk => by have h : k = R := hk; have := HRW.out; omega))
      have HF3 : Hid (Fr (oneB R) w (w2.setCell ⟨R, 0, none⟩ (.string ⟨(l.drop i).toArray⟩))) := Lib.hid (HF2.out.trans hf3 (fun _ _ h => h))
      have HZ3 : Hid (w.heap.size < (w2.setCell ⟨R, 0, none⟩ (.string ⟨(l.drop i).toArray⟩)).heap.size) := Lib.hid HL3.out.lt
      clear hr3 hf3
      go_upto_region 7 with fail
      generalize (w2.setCell ⟨R, 0, none⟩ (.string ⟨(l.drop i).toArray⟩)) = w3 at *
      generalize hq : l.drop (i + 1) = q at *
      have HQ := Lib.hid hq
      clear hq
      rw [HDR.out] at HR3
      have hread : Ky.readText l = (Ky.readText (0 :: q)).map (fun x => (l.take i ++ x.1, x.2)) := by
        have := Ky.readText_nozero (l.take i) (l.drop i) HNZ.out
        rw [List.take_append_drop, HDR.out] at this
        exact this
      have HRD := Lib.hid hread
      clear hread
      have hq2 : Hid (q.length + 1 + i = l.length) := Lib.hid (by have := HIL.out; rw [← HQ.out, List.length_drop]; omega)
      cases q with
      | nil =>
        have HN : Hid (Ky.readText l = none) := Lib.hid (by rw [HRD.out]; rfl)
        have HT := Lib.hid (take_no w3 R [0] HR3.out 2 (by decide) (by decide) (by decide))
        rw [show ((2 : Nat) : Int) = 2 from rfl] at HT
        have HP : Hid (TextPost w R s (.returned (.tuple #[bstr [], .bool false])) w3) := Lib.hid (HR.out.none HN.out ⟨_, HR3.out⟩ HF3.out)
        unfold bstr at HT
        go_wp2_with fail
        refine HT.out.mono ?_
        rintro e w' ⟨rfl, rfl⟩
        go_wp2_with fail
        go_ret2
        exact HP.out
      | cons c r =>
        have HT := Lib.hid (take_yes w3 R (0 :: c :: r) HR3.out 2 (by simp) (by have := HLL.out; have := hq2.out; simp at *; omega))
        rw [show ((2 : Nat) : Int) = 2 from rfl, show (0 :: c :: r).take 2 = [0, c] from rfl, show (0 :: c :: r).drop 2 = r from rfl] at HT
        unfold bstr at HT
        go_wp2_with fail
        refine HT.out.mono ?_
        rintro e w4 ⟨rfl, hr4, hf4, hz4⟩
        have HR4 := Lib.hid hr4
        have HL4 : Hid (Let w4 w.heap.size w.heap.size (d ++ l.take i)) := Lib.hid (HL3.out.fr hf4 (fun k hk => by have h : k = R := hk; have := HRW.out; omega))
        have HF4 : Hid (Fr (oneB R) w w4) := Lib.hid (HF3.out.trans hf4 (fun _ _ h => h))
        clear hr4 hf4 hz4
        have hlen : Hid ((d ++ l.take i).length + 1 ≤ 100000000) := Lib.hid (by have := HR.out.2.1; have := HS.out; have := HIL.out; rw [List.length_append, List.length_take]; omega)
        by_cases h0 : c = 0
        · subst h0
          have HST := Lib.hid (string_any w4 w.heap.size w.heap.size (d ++ l.take i) HL4.out (by have := hlen.out; omega) (Nat.le_of_lt HL4.out.lt))
          have HP : Hid (Ky.readText s = some (d ++ l.take i, r)) := Lib.hid (by rw [HR.out.1, HRD.out, Ky.readText_zero]; simp)
          unfold bstr at HST
          go_wp2_with fail
          refine HST.out.mono ?_
          rintro e w5 ⟨rfl, hb5⟩
          have HX : Hid (TextPost w R s (.returned (.tuple #[bstr (d ++ l.take i), .bool true])) w5) := Lib.hid (text_some HP.out (HR4.out.keep (S := fun k => w.heap.size ≤ k) ⟨hb5.os, hb5.tape, hb5.output, hb5.size, fun k hk hn => hb5.block k (by omega)⟩ (by have := HRW.out; omega)) (fr_below HF4.out hb5))
          clear hb5
          go_wp2_with fail
          go_ret2
          exact HX.out
        · by_cases h255 : c = 255
          · subst h255
            have HA2 := Lib.hid (kadd_any w4 w.heap.size w.heap.size (d ++ l.take i) [0] HL4.out (by have := hlen.out; simp at *; omega) (Nat.le_of_lt HL4.out.lt))
            unfold bstr at HA2
            go_wp2_with fail
            refine HA2.out.mono ?_
            rintro e w5 ⟨rfl, hl5, hb5, -⟩
            have HX : Hid (TRel w R s (d ++ l.take i ++ [0]) r w5) := Lib.hid ⟨by
              rw [HR.out.1, HRD.out, Ky.readText_zero]
              simp only [Option.map_map, if_pos, show ((255 : UInt8) = 0) = False by decide, if_false]
              congr 1
              funext x
              simp, by have h1 := HR.out.2.1; have h2 := hq2.out; have := HIL.out; simp only [List.length_append, List.length_take, List.length_cons, List.length_nil] at *; omega, HR4.out.keep (S := fun k => w.heap.size ≤ k) ⟨hb5.os, hb5.tape, hb5.output, hb5.size, fun k hk hn => hb5.block k (by omega)⟩ (by have := HRW.out; omega), hl5, fr_below HF4.out hb5⟩
            have HGG : Hid (r.length < gk) := Lib.hid (by have := HG.out; have h2 := hq2.out; simp only [List.length_cons] at h2; omega)
            clear hl5 hb5
            go_wp2_with fail
            go_roundg r.length
            case measure => exact HGG.out
            case rel => exact ⟨_, r, Nat.le_refl _, HX⟩
          · have HN : Hid (Ky.readText l = none) := Lib.hid (by rw [HRD.out, Ky.readText_zero]; simp [h0, h255])
            have HP : Hid (TextPost w R s (.returned (.tuple #[bstr [], .bool false])) w4) := Lib.hid (HR.out.none HN.out ⟨_, HR4.out⟩ HF4.out)
            have e1 : (([0, c] : List UInt8) == [0, 0]) = false := beq_false_of_ne fun e => h0 (by injection e with _ e; injection e)
            have e2 : (([0, c] : List UInt8) == [0, 255]) = false := beq_false_of_ne fun e => h255 (by injection e with _ e; injection e)
            go_wp2_with fail
            go_ret2
            exact HP.out
end Go.Proofs.YtfbdikaaeedeoaaDoor

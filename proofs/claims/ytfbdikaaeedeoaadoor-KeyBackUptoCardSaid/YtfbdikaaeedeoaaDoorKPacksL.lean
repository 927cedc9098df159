/-
  KeyPacks, its walk: the program packs, reads and orders keys as the document says, and what it gave is the caller's own.
-/
import Derived.Test.YtfbdikaaeedeoaaDoorKRefU
import Derived.Test.YtfbdikaaeedeoaaDoorKAwake
import Derived.Test.YtfbdikaaeedeoaaDoorKAfter
namespace Go.Proofs.YtfbdikaaeedeoaaDoor.kpacks
open Go.RowKit Go.Maps
set_option maxRecDepth 100000

/-- the parts that bytes are, if they are some -/
def uL (s : List UInt8) : List Ky.Part := (Ky.unpacked s).getD []
/-- the refusal's number -/
def uE (s : List UInt8) : Int := if (Ky.unpacked s).isSome then 0 else 4
theorem uL_le (s : List UInt8) : (uL s).length ≤ 16 := by
  unfold uL Ky.unpacked
  split
  · simp
  · split
    · simpa
    · simp
/-- whose block a row is -/
def Mine (e0 : TypeId) (M : Nat) (w : World) (A : Option Addr) (l : List Ky.Part) : Prop := l ≠ [] → ∃ g, A = some ⟨g, 0, none⟩ ∧ M ≤ g ∧ ∃ cs, Has w g e0 cs
theorem unp_form {e0 : TypeId} {w w' : World} {s : List UInt8} {e : Ending} (h : UnpPost e0 w s e w') : ∃ A c, e = .returned (.tuple #[.slice A (uL s).length c, .int .i64 (uE s)]) ∧ RdP w' w'.heap.size A (uL s) ∧ Mine e0 w.heap.size w' A (uL s) ∧ Below w.heap.size w w' := by
  unfold UnpPost at h
  obtain ⟨h, hb⟩ := h
  cases hu : Ky.unpacked s with
  | none =>
    rw [hu] at h
    have e1 : uL s = [] := by unfold uL; rw [hu]; rfl
    have e2 : uE s = 4 := by unfold uE; rw [hu]; rfl
    rw [e1, e2]
    exact ⟨none, 0, h, RdP.nil _ _ _, fun h => absurd rfl h, hb⟩
  | some l =>
    rw [hu] at h
    have e1 : uL s = l := by unfold uL; rw [hu]; rfl
    have e2 : uE s = 0 := by unfold uE; rw [hu]; rfl
    rw [e1, e2]
    obtain ⟨v, rfl, ho⟩ := h
    obtain ⟨A, c, rfl, hr, hm⟩ := ho.form
    exact ⟨A, c, rfl, hr, hm, hb⟩
theorem rdp_fr {e0 : TypeId} {S : Nat → Prop} {M : Nat} {w w' : World} {A : Option Addr} {l : List Ky.Part} (h : RdP w w.heap.size A l) (hm : Mine e0 M w A l) (f : Fr S w w') (hS : ∀ k, S k → k < M) : RdP w' w'.heap.size A l := fun h0 => by
  obtain ⟨g, o, hA, hg, hc⟩ := h h0
  obtain ⟨g', hA', hMg, cs, hh⟩ := hm h0
  rw [hA] at hA'
  injection hA' with hA'
  injection hA' with e1 e2
  subst e1 e2
  have hh' := hh.keep f (fun hs => by have := hS _ hs; omega)
  have e : ∀ i, w'.cell? ⟨g, i, none⟩ = w.cell? ⟨g, i, none⟩ := fun i => by rw [hh'.cell, hh.cell]
  refine ⟨g, 0, hA, by have := f.size; omega, fun j x hj => ?_⟩
  rw [e, e, e]
  exact hc j x hj
theorem Mine.below {e0 : TypeId} {M : Nat} {w w' : World} {A : Option Addr} {l : List Ky.Part} (h : Mine e0 M w A l) (hb : Below w.heap.size w w') : Mine e0 M w' A l := fun h0 => by
  obtain ⟨g, hA, hM, cs, hh⟩ := h h0
  exact ⟨g, hA, hM, cs, hh.keep (Fr.of_below hb noB) (fun e => e)⟩
/-- a row that may be written -/
def XAt (w : World) (A : Option Addr) (n : Nat) : Prop := n ≠ 0 → ∃ g cur, A = some ⟨g, 0, none⟩ ∧ Has w g 38 cur ∧ n * 3 ≤ cur.size
theorem XAt.of {M : Nat} {w : World} {A : Option Addr} {l : List Ky.Part} (h : RdP w w.heap.size A l) (hm : Mine 38 M w A l) : XAt w A l.length := fun hn => by
  have h0 : l ≠ [] := fun e => by subst e; exact hn rfl
  obtain ⟨g, o, hA, hg, hc⟩ := h h0
  obtain ⟨g', hA', hMg, cs, hh⟩ := hm h0
  rw [hA] at hA'
  injection hA' with hA'
  injection hA' with e1 e2
  subst e1 e2
  refine ⟨g, cs, hA, hh, ?_⟩
  obtain ⟨p, hp⟩ : ∃ p, l[l.length - 1]? = some p := ⟨_, List.getElem?_eq_getElem (by omega)⟩
  have hx := (hc _ p hp).2.2
  rw [hh.cell] at hx
  have := (Array.getElem?_eq_some_iff.1 hx).1
  omega
set_option maxHeartbeats 6400000 in
theorem walk (w : World) (A1 A2 : Option Addr) (c1 c2 : Nat) (l m : List Ky.Part) (s : List UInt8) (hl : RdP w w.heap.size A1 l) (hm : RdP w w.heap.size A2 m) (sl : Small l) (sm : Small m) (ll : l.length ≤ 1048576) (lm : m.length ≤ 1048576) (hs : s.length ≤ 1048576) (hx : Mx w.heap.size w) :
    Calls Tryd.prog 3 #[.slice A1 l.length c1, .slice A2 m.length c2, bstr s] w fun e w' => e = .returned (.bool true) ∧ Below w.heap.size w w' := by
  have HA := Lib.hid (awake_any w hx)
  have ll' : (l.length : Int) ≤ 1048576 := by omega
  have lm' : (m.length : Int) ≤ 1048576 := by omega
  have hs' : (s.length : Int) ≤ 1048576 := by omega
  unfold bstr
  by_cases h1 : 100 < l.length
  · have h1' : (100 : Int) < (l.length : Int) := by omega
    clear h1 ll lm
    go_enter Tryd.func3, Tryd.ntmps3
    go_wp2_with fail
    refine HA.out.mono ?_
    rintro e w1 ⟨rfl, hb⟩
    have HB := Lib.hid hb
    clear hb
    go_wp2_with fail
    go_ret
    exact ⟨rfl, HB.out⟩
  have h1' : ¬ ((100 : Int) < (l.length : Int)) := by omega
  by_cases h2 : 100 < m.length
  · have h2' : (100 : Int) < (m.length : Int) := by omega
    clear h1 h2 ll lm
    go_enter Tryd.func3, Tryd.ntmps3
    go_wp2_with fail
    refine HA.out.mono ?_
    rintro e w1 ⟨rfl, hb⟩
    have HB := Lib.hid hb
    clear hb
    go_wp2_with fail
    go_ret
    exact ⟨rfl, HB.out⟩
  have h2' : ¬ ((100 : Int) < (m.length : Int)) := by omega
  by_cases h3 : 20000 < s.length
  · have h3' : (20000 : Int) < (s.length : Int) := by omega
    clear h1 h2 h3 ll lm
    go_enter Tryd.func3, Tryd.ntmps3
    go_wp2_with fail
    refine HA.out.mono ?_
    rintro e w1 ⟨rfl, hb⟩
    have HB := Lib.hid hb
    clear hb
    go_wp2_with fail
    go_ret
    exact ⟨rfl, HB.out⟩
  have h3' : ¬ ((20000 : Int) < (s.length : Int)) := by omega
  have HL := Lib.hid hl
  have HM := Lib.hid hm
  have SL := Lib.hid sl
  have SM := Lib.hid sm
  have HX := Lib.hid hx
  have HL100 : Hid (l.length ≤ 100) := Lib.hid (by omega)
  have HM100 : Hid (m.length ≤ 100) := Lib.hid (by omega)
  have HS100 : Hid (s.length ≤ 20000) := Lib.hid (by omega)
  have H1 := Lib.hid (theirs_any w A1 c1 l HL.out (by omega))
  clear hl hm sl sm hx ll lm ll' lm' h1 h2 h3 HA hs hs'
  go_enter Tryd.func3, Tryd.ntmps3
  go_wp2_with fail
  clear h1' h2' h3'
  refine H1.out.mono ?_
  rintro e w1 ⟨⟨va, rfl, ho⟩, hb1⟩
  have HB1 := Lib.hid hb1
  obtain ⟨Aa, ca, rfl, ra, -⟩ := ho.form
  have RA := Lib.hid ra
  have H2 := Lib.hid (theirs_any w1 A2 c2 m ((HM.out.below hb1 (Nat.le_refl _)).more hb1.size) (by have := HM100.out; omega))
  clear hb1 ho ra
  go_wp2_with fail
  refine H2.out.mono ?_
  rintro e w2 ⟨⟨vb, rfl, ho⟩, hb2⟩
  have HB2 : Hid (Below w.heap.size w w2) := Lib.hid (HB1.out.trans (hb2.mono HB1.out.size))
  obtain ⟨Ab, cb, rfl, rb, -⟩ := ho.form
  -- what stays
  have stay : ∀ W, Below w2.heap.size w2 W → Below w.heap.size w W ∧ RdP W W.heap.size Aa l ∧ RdP W W.heap.size Ab m ∧ RdP W W.heap.size A1 l ∧ RdP W W.heap.size A2 m ∧ Mx W.heap.size W := fun W hW => by
    have h0 : Below w.heap.size w W := HB2.out.trans (hW.mono HB2.out.size)
    have h1 : Below w1.heap.size w1 W := hb2.trans (hW.mono hb2.size)
    exact ⟨h0, (RA.out.below h1 (Nat.le_refl _)).more h1.size, (rb.below hW (Nat.le_refl _)).more hW.size, (HL.out.below h0 (Nat.le_refl _)).more h0.size, (HM.out.below h0 (Nat.le_refl _)).more h0.size, (HX.out.below h0 (Nat.le_refl _)).more h0.size⟩
  have STAY := Lib.hid stay
  have C2 : Hid (Below w2.heap.size w2 w2) := Lib.hid (Below.refl _ _)
  have H3 := Lib.hid (pack_any w2 Aa ca l (stay w2 C2.out).2.1 SL.out (stay w2 C2.out).2.2.2.2.2 (by have := HL100.out; omega))
  clear hb2 ho rb stay
  go_wp2_with fail
  refine H3.out.mono ?_
  rintro e w3 hq
  obtain ⟨rfl, hb⟩ := hq
  have C3 : Hid (Below w2.heap.size w2 w3) := Lib.hid hb
  have H4 := Lib.hid (rpack_any w3 A1 c1 l (STAY.out w3 C3.out).2.2.2.1 SL.out (by have := HL100.out; omega))
  clear hb
  unfold bstr
  go_wp2_with fail
  refine H4.out.mono ?_
  rintro e w4 hq
  obtain ⟨rfl, hb⟩ := hq
  have C4 : Hid (Below w2.heap.size w2 w4) := Lib.hid (C3.out.trans (hb.mono C3.out.size))
  have H5 := Lib.hid (parts_any w4 Aa A1 ca c1 l l (STAY.out w4 C4.out).2.1 (STAY.out w4 C4.out).2.2.2.1 (by have := HL100.out; omega) (by have := HL100.out; omega) rfl)
  clear hb
  unfold bstr
  go_wp2_with fail
  refine H5.out.mono ?_
  rintro e w5 ⟨rfl, hb⟩
  have C5 : Hid (Below w2.heap.size w2 w5) := Lib.hid (C4.out.trans (hb.mono C4.out.size))
  have H6 := Lib.hid (kcmp_any w5 Aa Ab ca cb l m (STAY.out w5 C5.out).2.1 (STAY.out w5 C5.out).2.2.1 (by have := HL100.out; omega) (by have := HM100.out; omega))
  clear hb
  go_wp2_with fail
  refine H6.out.mono ?_
  rintro e w6 ⟨rfl, hb⟩
  have C6 : Hid (Below w2.heap.size w2 w6) := Lib.hid (C5.out.trans (hb.mono C5.out.size))
  have H7 := Lib.hid (rcmp_any w6 A1 A2 c1 c2 l m (STAY.out w6 C6.out).2.2.2.1 (STAY.out w6 C6.out).2.2.2.2.1 (by have := HL100.out; omega) (by have := HM100.out; omega))
  clear hb
  go_wp2_with fail
  refine H7.out.mono ?_
  rintro e w7 ⟨rfl, hb⟩
  have C7 : Hid (Below w2.heap.size w2 w7) := Lib.hid (C6.out.trans (hb.mono C6.out.size))
  have H8 := Lib.hid (kcmp_any w7 Ab Aa cb ca m l (STAY.out w7 C7.out).2.2.1 (STAY.out w7 C7.out).2.1 (by have := HM100.out; omega) (by have := HL100.out; omega))
  clear hb
  go_wp2_with fail
  refine H8.out.mono ?_
  rintro e w8 ⟨rfl, hb⟩
  have C8 : Hid (Below w2.heap.size w2 w8) := Lib.hid (C7.out.trans (hb.mono C7.out.size))
  have H9 := Lib.hid (rcmp_any w8 A2 A1 c2 c1 m l (STAY.out w8 C8.out).2.2.2.2.1 (STAY.out w8 C8.out).2.2.2.1 (by have := HM100.out; omega) (by have := HL100.out; omega))
  clear hb
  go_wp2_with fail
  refine H9.out.mono ?_
  rintro e w9 ⟨rfl, hb⟩
  have C9 : Hid (Below w2.heap.size w2 w9) := Lib.hid (C8.out.trans (hb.mono C8.out.size))
  have H10 := Lib.hid (unpack_any w9 s (by have := HS100.out; omega))
  clear hb
  unfold bstr at H10
  go_wp2_with fail
  refine H10.out.mono ?_
  rintro e w10 hq
  obtain ⟨Ax, cx, rfl, rx, mx, hb⟩ := unp_form hq
  have C10 : Hid (Below w2.heap.size w2 w10) := Lib.hid (C9.out.trans (hb.mono C9.out.size))
  have RX := Lib.hid rx
  have MX := Lib.hid mx
  have H11 := Lib.hid (runpack_any w10 s (by have := HS100.out; omega))
  clear hb hq rx mx
  unfold bstr at H11
  go_wp2_with fail
  refine H11.out.mono ?_
  rintro e w11 hq
  obtain ⟨Ay, cy, rfl, ry, my, hb⟩ := unp_form hq
  have C11 : Hid (Below w10.heap.size w10 w11) := Lib.hid hb
  have RY := Lib.hid ry
  have MY := Lib.hid my
  have H12 := Lib.hid (unpack_any w11 s (by have := HS100.out; omega))
  clear hb hq ry my
  unfold bstr at H12
  go_wp2_with fail
  refine H12.out.mono ?_
  rintro e w12 hq
  obtain ⟨Az, cz, rfl, rz, mz, hb⟩ := unp_form hq
  have C12 : Hid (Below w11.heap.size w11 w12) := Lib.hid hb
  have hC12 : Hid (Below w10.heap.size w10 w12) := Lib.hid (C11.out.trans (hb.mono C11.out.size))
  have RZ := Lib.hid rz
  have MZ := Lib.hid mz
  have hl16 := uL_le s
  have H13 := Lib.hid (parts_any w12 Ax Ay cx cy (uL s) (uL s) ((RX.out.below hC12.out (Nat.le_refl _)).more hC12.out.size) ((RY.out.below C12.out (Nat.le_refl _)).more C12.out.size) (by omega) (by omega) rfl)
  clear hb hq rz mz
  go_wp2_with fail
  refine H13.out.mono ?_
  rintro e w13 ⟨rfl, hb⟩
  have C13 : Hid (Below w12.heap.size w12 w13) := Lib.hid hb
  have D13 : Hid (Below w10.heap.size w10 w13) := Lib.hid (hC12.out.trans (hb.mono hC12.out.size))
  have XA : Hid (XAt w13 Ax (uL s).length) := Lib.hid (XAt.of ((RX.out.below D13.out (Nat.le_refl _)).more D13.out.size) (MX.out.below D13.out))
  have hl16' : ((uL s).length : Int) ≤ 16 := by omega
  clear hb hl16
  go_wp2_with fail
  have S0 : ∀ k, Ax = some ⟨k, 0, none⟩ → (uL s ≠ [] → w9.heap.size ≤ k ∧ k < w10.heap.size) := fun k hk h0 => by
    obtain ⟨g, hg, hM, cs, hh⟩ := MX.out h0
    rw [hk] at hg
    injection hg with hg
    injection hg with e1 _
    subst e1
    exact ⟨hM, hh.lt⟩
  have HS0 := Lib.hid S0
  clear S0
  go_loopw [17] (fun i wr => ∃ k : Nat, k ≤ (uL s).length ∧ i = .int .i64 k ∧ Hid (XAt wr Ax (uL s).length ∧ Fr (fun k => Ax = some ⟨k, 0, none⟩ ∧ uL s ≠ []) w13 wr)) (fun i _ => (uL s).length - (intOf i).toNat)
  case atStart => exact ⟨0, by omega, rfl, Lib.hid ⟨XA.out, Fr.refl _ _⟩⟩
  case round =>
    rename World => wr
    obtain ⟨k, hk, rfl, HR⟩ := hrel
    by_cases hlt : k < (uL s).length
    · obtain ⟨g, cur, rfl, hh, hsz⟩ := HR.out.1 (by omega)
      have hkl : (k : Int) < ((uL s).length : Int) := by omega
      have HH := Lib.hid hh
      obtain ⟨u, hu⟩ : ∃ u, cur[k * 3 + 1]? = some u := ⟨_, Array.getElem?_eq_getElem (by omega)⟩
      have x0 : wr.cell? ⟨g, k * 3 + 1, none⟩ = some u := (hh.cell _).trans hu
      have f0 := hh.free (k * 3 + 1)
      have HSZ := Lib.hid hsz
      have HLT := Lib.hid hlt
      clear hh hu hsz hlt
      go_wp2_with fail
      go_roundw
      case rel => exact ⟨k + 1, by have := HLT.out; omega, by go_num, Lib.hid ⟨fun _ => ⟨g, _, rfl, HH.out.set _ _, by simpa using HSZ.out⟩, HR.out.2.setAt (.inl ⟨rfl, fun e => by have := HLT.out; rw [e] at this; simp at this⟩) _⟩⟩
      case measure => (simp [intOf]) <;> omega
    · obtain rfl : k = (uL s).length := by omega
      have F := HR.out.2
      have hSk : ∀ k, (Ax = some ⟨k, 0, none⟩ ∧ uL s ≠ []) → w9.heap.size ≤ k ∧ k < w10.heap.size := fun k hk => HS0.out k hk.1 hk.2
      have C14 : Below w2.heap.size w2 wr := C10.out.trans ((D13.out.mono C10.out.size).trans (F.below (by have := C10.out.size; have := D13.out.size; omega) (fun k hk => by have := (hSk k hk).1; have := C9.out.size; omega)))
      have ry14 : RdP wr wr.heap.size Ay (uL s) := rdp_fr (M := w10.heap.size) ((RY.out.below (C12.out.trans (C13.out.mono C12.out.size)) (Nat.le_refl _)).more (C12.out.trans (C13.out.mono C12.out.size)).size) (MY.out.below (C12.out.trans (C13.out.mono C12.out.size))) F (fun k hk => (hSk k hk).2)
      have rz14 : RdP wr wr.heap.size Az (uL s) := rdp_fr (M := w11.heap.size) ((RZ.out.below C13.out (Nat.le_refl _)).more C13.out.size) (MZ.out.below C13.out) F (fun k hk => by have := (hSk k hk).2; have := C11.out.size; omega)
      have HC14 := Lib.hid C14
      have hl16 := uL_le s
      have H14 := Lib.hid (parts_any wr Az Ay cz cy (uL s) (uL s) rz14 ry14 (by omega) (by omega) rfl)
      clear F hSk C14 ry14 rz14 hl16
      go_wp2_with fail
      refine H14.out.mono ?_
      rintro e w15 ⟨rfl, hb⟩
      have C15 : Hid (Below w2.heap.size w2 w15) := Lib.hid (HC14.out.trans (hb.mono HC14.out.size))
      have H15 := Lib.hid (after_any w15 s (by have := HS100.out; omega))
      clear hb
      unfold bstr at H15
      go_wp2_with fail
      refine H15.out.mono ?_
      rintro e w16 ⟨rfl, hb⟩
      have C16 : Hid (Below w2.heap.size w2 w16) := Lib.hid (C15.out.trans (hb.mono C15.out.size))
      have H16 := Lib.hid (rafter_any w16 s (by have := HS100.out; omega))
      clear hb
      unfold bstr at H16
      go_wp2_with fail
      refine H16.out.mono ?_
      rintro e w17 ⟨rfl, hb⟩
      have C17 : Hid (Below w2.heap.size w2 w17) := Lib.hid (C16.out.trans (hb.mono C16.out.size))
      have H17 := Lib.hid (awake_any w17 (STAY.out w17 C17.out).2.2.2.2.2)
      clear hb
      go_wp2_with fail
      refine H17.out.mono ?_
      rintro e w18 ⟨rfl, hb⟩
      have C18 : Hid (Below w2.heap.size w2 w18) := Lib.hid (C17.out.trans (hb.mono C17.out.size))
      clear hb
      go_wp2_with fail
      go_ret
      exact ⟨rfl, (STAY.out w18 C18.out).1⟩
end Go.Proofs.YtfbdikaaeedeoaaDoor.kpacks

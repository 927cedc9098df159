/-
  KeyOrder, its walk: keys' bytes stand in the keys' order.
-/
import Derived.Test.YtfbdikaaeedeoaaDoorKLaw
import Derived.Test.YtfbdikaaeedeoaaDoorKAwake
namespace Go.Proofs.YtfbdikaaeedeoaaDoor.korder
open Go.RowKit Go.Maps
set_option maxRecDepth 100000

theorem cmpS_range (a b : List UInt8) : Ky.cmpS a b = -1 ∨ Ky.cmpS a b = 0 ∨ Ky.cmpS a b = 1 := by
  unfold Ky.cmpS
  split
  · exact .inl rfl
  · split
    · exact .inr (.inr rfl)
    · exact .inr (.inl rfl)
theorem cmpI_range (a b : Int) : Ky.cmpI a b = -1 ∨ Ky.cmpI a b = 0 ∨ Ky.cmpI a b = 1 := by
  unfold Ky.cmpI
  split
  · exact .inl rfl
  · split
    · exact .inr (.inr rfl)
    · exact .inr (.inl rfl)
theorem cmp_range : ∀ l m : List Ky.Part, Ky.cmp l m = -1 ∨ Ky.cmp l m = 0 ∨ Ky.cmp l m = 1
  | [], [] => .inr (.inl rfl)
  | [], _ :: _ => .inl rfl
  | _ :: _, [] => .inr (.inr rfl)
  | p :: l, q :: m => by
    rw [Ky.cmp]
    split
    · exact cmp_range l m
    · unfold Ky.cmpPart
      split
      · split
        · exact cmpS_range _ _
        · exact .inr (.inr rfl)
      · split
        · exact .inl rfl
        · exact cmpI_range _ _
theorem less_facts (l m : List Ky.Part) (hl : Ky.Ok l) (hm : Ky.Ok m) (h : Ky.cmp l m < 0) : Op.bytesLess (Ky.bytes l) (Ky.bytes m) = true ∧ Op.bytesLess (Ky.bytes m) (Ky.bytes l) = false ∧ (Ky.bytes l == Ky.bytes m) = false ∧ (Ky.bytes m == Ky.bytes l) = false := by
  have h1 := Ky.cmp_less l m hl hm h
  have hne : Ky.bytes l ≠ Ky.bytes m := fun e => by rw [e, Tr.lt_irrefl] at h1; cases h1
  exact ⟨h1, Tr.lt_asymm h1, beq_false_of_ne hne, beq_false_of_ne (Ne.symm hne)⟩
/-- does a key begin with another one? -/
def pre (l m : List Ky.Part) : Bool := decide (l.length ≤ m.length) && decide (Ky.cmp (m.take l.length) l = 0)
theorem pre_bytes (l m : List Ky.Part) (hl : Ky.Ok l) (hm : Ky.Ok m) : (Ky.bytes l).isPrefixOf (Ky.bytes m) = pre l m := by
  rw [Bool.eq_iff_iff, List.isPrefixOf_iff_prefix, Ky.bytes_prefix l m hl hm, Ky.prefix_cmp l m hl hm]
  simp [pre]
/-- what stands between the key's bytes and what stands behind them, begins so -/
theorem in_pre (l m : List Ky.Part) (hl : Ky.Ok l) (hm : Ky.Ok m) : (!Op.bytesLess (Ky.bytes m) (Ky.bytes l) && ((Ky.after (Ky.bytes l)).isEmpty || Op.bytesLess (Ky.bytes m) (Ky.after (Ky.bytes l)))) = pre l m := by
  rw [← pre_bytes l m hl hm]
  by_cases hp : Ky.bytes l <+: Ky.bytes m
  · rw [List.isPrefixOf_iff_prefix.2 hp]
    have h1 : Op.bytesLess (Ky.bytes m) (Ky.bytes l) = false := by
      obtain ⟨x, hx⟩ := hp
      rw [← hx]
      have := Ky.lt_append_left (Ky.bytes l) x []
      rw [List.append_nil, Tr.lt_nil_right] at this
      exact this
    rw [h1]
    by_cases he : Ky.after (Ky.bytes l) = []
    · rw [he]; rfl
    · have := Ky.after_prefix _ _ he hp
      rw [show Op.bytesLess (Ky.bytes m) (Ky.after (Ky.bytes l)) = true from this]
      simp
  · have hf : (Ky.bytes l).isPrefixOf (Ky.bytes m) = false := by
      rw [Bool.eq_false_iff]
      exact fun e => hp (List.isPrefixOf_iff_prefix.1 e)
    rw [hf]
    have hln : l ≠ [] := fun e => by subst e; exact hp List.nil_prefix
    obtain ⟨p, l', rfl⟩ := List.exists_cons_of_ne_nil hln
    have he := Ky.after_bytes p l'
    have hie : (Ky.after (Ky.bytes (p :: l'))).isEmpty = false := by
      cases h : Ky.after (Ky.bytes (p :: l')) with
      | nil => exact absurd h he
      | cons _ _ => rfl
    rw [hie]
    cases h1 : Op.bytesLess (Ky.bytes m) (Ky.bytes (p :: l')) with
    | true => rfl
    | false =>
      cases h2 : Op.bytesLess (Ky.bytes m) (Ky.after (Ky.bytes (p :: l'))) with
      | false => rfl
      | true => exact absurd (Ky.after_between _ _ he h1 h2) hp
theorem rdp_take {w : World} {B : Nat} {A : Option Addr} {l : List Ky.Part} (h : RdP w B A l) (n : Nat) : RdP w B A (l.take n) := fun h0 => by
  obtain ⟨g, o, hA, hg, hc⟩ := h (fun e => by subst e; simp at h0)
  refine ⟨g, o, hA, hg, fun j p hj => hc j p ?_⟩
  rw [List.getElem?_take] at hj
  split at hj
  · exact hj
  · cases hj
theorem pack_cases (l : List Ky.Part) (hs : Small l) : (Ky.packE l ≠ 0) ∨ (Ky.packE l = 0 ∧ Ky.packS l = Ky.bytes l ∧ Ky.Ok l ∧ l.length ≤ 16) := by
  by_cases h16 : 16 < l.length
  · left; rw [(Ky.pack_full h16).2]; decide
  · cases ha : l.all Ky.Part.ok with
    | false => left; rw [(Ky.pack_bad h16 ha).2]; decide
    | true =>
      right
      refine ⟨(Ky.pack_ok h16 ha).2, (Ky.pack_ok h16 ha).1, fun p hp => ⟨List.all_eq_true.1 ha p hp, (hs p hp).1⟩, by omega⟩
set_option maxHeartbeats 6400000 in
theorem walk (w : World) (A1 A2 : Option Addr) (c1 c2 : Nat) (l m : List Ky.Part) (hl : RdP w w.heap.size A1 l) (hm : RdP w w.heap.size A2 m) (sl : Small l) (sm : Small m) (ll : l.length ≤ 1048576) (lm : m.length ≤ 1048576) (hx : Mx w.heap.size w) :
    Calls Tryd.prog 6 #[.slice A1 l.length c1, .slice A2 m.length c2] w fun e w' => e = .returned (.bool true) ∧ Below w.heap.size w w' := by
  have HA := Lib.hid (awake_any w hx)
  have ll' : (l.length : Int) ≤ 1048576 := by omega
  have lm' : (m.length : Int) ≤ 1048576 := by omega
  by_cases h1 : 100 < l.length
  · have h1' : (100 : Int) < (l.length : Int) := by omega
    clear h1 ll lm
    go_enter Tryd.func6, Tryd.ntmps6
    go_wp2_with fail
    refine HA.out.mono ?_
    rintro e w1 ⟨rfl, hb⟩
    have HB := Lib.hid hb
    clear hb
    go_wp2_with fail
    go_ret
    exact ⟨rfl, HB.out⟩
  by_cases h2 : 100 < m.length
  · have h1' : ¬ ((100 : Int) < (l.length : Int)) := by omega
    have h2' : (100 : Int) < (m.length : Int) := by omega
    clear h1 h2 ll lm
    go_enter Tryd.func6, Tryd.ntmps6
    go_wp2_with fail
    refine HA.out.mono ?_
    rintro e w1 ⟨rfl, hb⟩
    have HB := Lib.hid hb
    clear hb
    go_wp2_with fail
    go_ret
    exact ⟨rfl, HB.out⟩
  have h1' : ¬ ((100 : Int) < (l.length : Int)) := by omega
  have h2' : ¬ ((100 : Int) < (m.length : Int)) := by omega
  have HL := Lib.hid hl
  have HM := Lib.hid hm
  have SL := Lib.hid sl
  have SM := Lib.hid sm
  have HX := Lib.hid hx
  have HL100 : Hid (l.length ≤ 100) := Lib.hid (by omega)
  have HM100 : Hid (m.length ≤ 100) := Lib.hid (by omega)
  clear hl hm sl sm hx ll lm ll' lm' h1 h2
  go_enter Tryd.func6, Tryd.ntmps6
  go_wp2_with fail
  refine HA.out.mono ?_
  rintro e w1 ⟨rfl, hb1⟩
  have HB1 := Lib.hid hb1
  have H1 := Lib.hid (theirs_any w1 A1 c1 l ((HL.out.below hb1 (Nat.le_refl _)).more hb1.size) (by have := HL100.out; omega))
  clear hb1
  go_wp2_with fail
  refine H1.out.mono ?_
  rintro e w2 ⟨⟨va, rfl, ho⟩, hb2⟩
  have HB2 : Hid (Below w.heap.size w w2) := Lib.hid (HB1.out.trans (hb2.mono HB1.out.size))
  obtain ⟨Aa, ca, rfl, ra, -⟩ := ho.form
  have RA := Lib.hid ra
  have H2 := Lib.hid (theirs_any w2 A2 c2 m ((HM.out.below HB2.out (Nat.le_refl _)).more HB2.out.size) (by have := HM100.out; omega))
  clear hb2 ho ra
  go_wp2_with fail
  refine H2.out.mono ?_
  rintro e w3 ⟨⟨vb, rfl, ho⟩, hb3⟩
  have HB3 : Hid (Below w.heap.size w w3) := Lib.hid (HB2.out.trans (hb3.mono HB2.out.size))
  obtain ⟨Ab, cb, rfl, rb, -⟩ := ho.form
  have hcb := ho.cap
  have RB := Lib.hid rb
  have RA3 : Hid (RdP w3 w3.heap.size Aa l) := Lib.hid ((RA.out.below hb3 (Nat.le_refl _)).more hb3.size)
  have H3 := Lib.hid (pack_any w3 Aa ca l RA3.out SL.out ((HX.out.below HB3.out (Nat.le_refl _)).more HB3.out.size) (by have := HL100.out; omega))
  clear hb3 ho rb
  go_wp2_with fail
  refine H3.out.mono ?_
  rintro e w4 hq
  obtain ⟨rfl, hb4⟩ := hq
  have HB4 : Hid (Below w.heap.size w w4) := Lib.hid (HB3.out.trans (hb4.mono HB3.out.size))
  have RA4 : Hid (RdP w4 w4.heap.size Aa l) := Lib.hid ((RA3.out.below hb4 (Nat.le_refl _)).more hb4.size)
  have RB4 : Hid (RdP w4 w4.heap.size Ab m) := Lib.hid ((RB.out.below hb4 (Nat.le_refl _)).more hb4.size)
  have H4 := Lib.hid (pack_any w4 Ab cb m RB4.out SM.out ((HX.out.below HB4.out (Nat.le_refl _)).more HB4.out.size) (by have := HM100.out; omega))
  clear hb4
  unfold bstr
  go_wp2_with fail
  refine H4.out.mono ?_
  rintro e w5 hq
  obtain ⟨rfl, hb5⟩ := hq
  have HB5 : Hid (Below w.heap.size w w5) := Lib.hid (HB4.out.trans (hb5.mono HB4.out.size))
  have RA5 : Hid (RdP w5 w5.heap.size Aa l) := Lib.hid ((RA4.out.below hb5 (Nat.le_refl _)).more hb5.size)
  have RB5 : Hid (RdP w5 w5.heap.size Ab m) := Lib.hid ((RB4.out.below hb5 (Nat.le_refl _)).more hb5.size)
  clear hb5
  unfold bstr
  rcases pack_cases l SL.out with hne | ⟨e0, es, okl, l16⟩
  · have hne' : (Ky.packE l != 0) = true := by simpa using hne
    clear hne
    go_wp2_with fail
    go_ret
    exact ⟨rfl, HB5.out⟩
  rcases pack_cases m SM.out with hne | ⟨f0, fs, okm, m16⟩
  · have hne' : (Ky.packE m != 0) = true := by simpa using hne
    rw [e0]
    clear hne e0 es
    go_wp2_with fail
    go_ret
    exact ⟨rfl, HB5.out⟩
  rw [e0, es, f0, fs]
  have H6 := Lib.hid (kcmp_any w5 Aa Ab ca cb l m RA5.out RB5.out (by omega) (by omega))
  have OKL := Lib.hid okl
  have OKM := Lib.hid okm
  have L16 := Lib.hid l16
  have M16 := Lib.hid m16
  clear e0 es f0 fs okl okm l16 m16
  clear h1' h2'
  go_wp2_with fail
  refine H6.out.mono ?_
  rintro e w6 ⟨rfl, hb6⟩
  have HB6 : Hid (Below w.heap.size w w6) := Lib.hid (HB5.out.trans (hb6.mono HB5.out.size))
  have RA6 : Hid (RdP w6 w6.heap.size Aa l) := Lib.hid ((RA5.out.below hb6 (Nat.le_refl _)).more hb6.size)
  have RB6 : Hid (RdP w6 w6.heap.size Ab m) := Lib.hid ((RB5.out.below hb6 (Nat.le_refl _)).more hb6.size)
  clear hb6
  have H7 := Lib.hid (kcmp_any w6 Ab Aa cb ca m l RB6.out RA6.out (by have := M16.out; omega) (by have := L16.out; omega))
  rw [Ky.cmp_anti] at H7
  have HPB := Lib.hid (pre_bytes l m OKL.out OKM.out)
  have HIN := Lib.hid (in_pre l m OKL.out OKM.out)
  have HTK : Hid (l.length ≤ m.length → (m.take l.length).length = l.length) := Lib.hid (fun h => by rw [List.length_take]; omega)
  have tail : ∀ w7, Below w6.heap.size w6 w7 → Hid (Below w.heap.size w w7 ∧ RdP w7 w7.heap.size Aa l ∧ RdP w7 w7.heap.size Ab m) := fun w7 hb => Lib.hid ⟨HB6.out.trans (hb.mono HB6.out.size), (RA6.out.below hb (Nat.le_refl _)).more hb.size, (RB6.out.below hb (Nat.le_refl _)).more hb.size⟩
  have TAIL := Lib.hid tail
  clear tail
  have hsl : Hid ((Ky.bytes l).length ≤ 900000000) := Lib.hid (by have := bytes_small l SL.out; have := L16.out; omega)
  have hsm : Hid ((Ky.bytes m).length ≤ 900000000) := Lib.hid (by have := bytes_small m SM.out; have := M16.out; omega)
  rcases cmp_range l m with hc | hc | hc
  · obtain ⟨hst, hts, he1, he2⟩ := less_facts l m OKL.out OKM.out (by omega)
    rw [hc] at H7 ⊢
    clear hc
    cases hP : pre l m with
    | true =>
      have HP := Lib.hid hP
      have hq : l.length ≤ m.length ∧ Ky.cmp (m.take l.length) l = 0 := by
        unfold pre at hP
        simpa using hP
      have HLE := Lib.hid hq.1
      have hle := hq.1
      have HC8 := Lib.hid hq.2
      clear hq hP
      go_wp2_with fail
      refine H7.out.mono ?_
      rintro e w7 ⟨rfl, hb7⟩
      have T7 := TAIL.out w7 hb7
      clear hb7
      have H8 := Lib.hid (kcmp_any w7 Ab Aa cb ca (m.take l.length) l (rdp_take T7.out.2.2 l.length) T7.out.2.1 (by rw [List.length_take]; have := L16.out; omega) (by have := L16.out; omega))
      rw [HTK.out HLE.out] at H8
      rw [HC8.out] at H8
      go_wp2_with fail
      refine H8.out.mono ?_
      rintro e w8 ⟨rfl, hb8⟩
      have HB8 : Hid (Below w.heap.size w w8) := Lib.hid (T7.out.1.trans (hb8.mono T7.out.1.size))
      clear hb8
      have H9 := Lib.hid (after_any w8 (Ky.bytes l) (by have := hsl.out; omega))
      unfold bstr at H9
      go_wp2_with fail
      refine H9.out.mono ?_
      rintro e w9 ⟨rfl, hb9⟩
      have HB9 : Hid (Below w.heap.size w w9) := Lib.hid (HB8.out.trans (hb9.mono HB8.out.size))
      clear hb9
      have HBG := Lib.hid (begins_any w9 (Ky.bytes m) (Ky.bytes l) (by have := hsm.out; omega) (by have := hsl.out; omega))
      rw [HPB.out, HP.out] at HBG
      unfold bstr at HBG
      cases hie : (Ky.after (Ky.bytes l)).isEmpty with
      | true =>
        go_wp2_with fail
        refine HBG.out.mono ?_
        rintro e w10 ⟨rfl, rfl⟩
        go_wp2_with fail
        go_ret
        exact ⟨rfl, HB9.out⟩
      | false =>
        have hte : Op.bytesLess (Ky.bytes m) (Ky.after (Ky.bytes l)) = true := by
          have := HIN.out
          rw [HP.out, hie, hts] at this
          simpa using this
        go_wp2_with fail
        refine HBG.out.mono ?_
        rintro e w10 ⟨rfl, rfl⟩
        go_wp2_with fail
        go_ret
        exact ⟨rfl, HB9.out⟩
    | false =>
      have HP := Lib.hid hP
      clear hP
      by_cases hle : l.length ≤ m.length
      · have HLE := Lib.hid hle
        have hc8 : (Ky.cmp (m.take l.length) l == 0) = false := beq_false_of_ne (fun e => by
          have := HP.out
          unfold pre at this
          rw [decide_eq_true HLE.out, e] at this
          simp at this)
        go_wp2_with fail
        refine H7.out.mono ?_
        rintro e w7 ⟨rfl, hb7⟩
        have T7 := TAIL.out w7 hb7
        clear hb7
        have H8 := Lib.hid (kcmp_any w7 Ab Aa cb ca (m.take l.length) l (rdp_take T7.out.2.2 l.length) T7.out.2.1 (by rw [List.length_take]; have := L16.out; omega) (by have := L16.out; omega))
        rw [HTK.out HLE.out] at H8
        go_wp2_with fail
        refine H8.out.mono ?_
        rintro e w8 ⟨rfl, hb8⟩
        have HB8 : Hid (Below w.heap.size w w8) := Lib.hid (T7.out.1.trans (hb8.mono T7.out.1.size))
        clear hb8
        have H9 := Lib.hid (after_any w8 (Ky.bytes l) (by have := hsl.out; omega))
        unfold bstr at H9
        go_wp2_with fail
        refine H9.out.mono ?_
        rintro e w9 ⟨rfl, hb9⟩
        have HB9 : Hid (Below w.heap.size w w9) := Lib.hid (HB8.out.trans (hb9.mono HB8.out.size))
        clear hb9
        have HBG := Lib.hid (begins_any w9 (Ky.bytes m) (Ky.bytes l) (by have := hsm.out; omega) (by have := hsl.out; omega))
        rw [HPB.out, HP.out] at HBG
        unfold bstr at HBG
        have hie : (Ky.after (Ky.bytes l)).isEmpty = false := by
          have := HIN.out
          rw [HP.out, hts] at this
          cases h : (Ky.after (Ky.bytes l)).isEmpty with
          | false => rfl
          | true => rw [h] at this; simp at this
        have hte : Op.bytesLess (Ky.bytes m) (Ky.after (Ky.bytes l)) = false := by
          have := HIN.out
          rw [HP.out, hts, hie] at this
          simpa using this
        go_wp2_with fail
        refine HBG.out.mono ?_
        rintro e w10 ⟨rfl, rfl⟩
        go_wp2_with fail
        go_ret
        exact ⟨rfl, HB9.out⟩
      · go_wp2_with fail
        refine H7.out.mono ?_
        rintro e w7 ⟨rfl, hb7⟩
        have T7 := TAIL.out w7 hb7
        clear hb7
        have H9 := Lib.hid (after_any w7 (Ky.bytes l) (by have := hsl.out; omega))
        unfold bstr at H9
        go_wp2_with fail
        refine H9.out.mono ?_
        rintro e w9 ⟨rfl, hb9⟩
        have HB9 : Hid (Below w.heap.size w w9) := Lib.hid (T7.out.1.trans (hb9.mono T7.out.1.size))
        clear hb9
        have HBG := Lib.hid (begins_any w9 (Ky.bytes m) (Ky.bytes l) (by have := hsm.out; omega) (by have := hsl.out; omega))
        rw [HPB.out, HP.out] at HBG
        unfold bstr at HBG
        have hie : (Ky.after (Ky.bytes l)).isEmpty = false := by
          have := HIN.out
          rw [HP.out, hts] at this
          cases h : (Ky.after (Ky.bytes l)).isEmpty with
          | false => rfl
          | true => rw [h] at this; simp at this
        have hte : Op.bytesLess (Ky.bytes m) (Ky.after (Ky.bytes l)) = false := by
          have := HIN.out
          rw [HP.out, hts, hie] at this
          simpa using this
        go_wp2_with fail
        refine HBG.out.mono ?_
        rintro e w10 ⟨rfl, rfl⟩
        go_wp2_with fail
        go_ret
        exact ⟨rfl, HB9.out⟩
  · obtain rfl := Ky.cmp_same l m OKL.out OKM.out hc
    have hts : Op.bytesLess (Ky.bytes l) (Ky.bytes l) = false := Tr.lt_irrefl _
    rw [hc] at H7 ⊢
    clear hc
    have HP : Hid (pre l l = true) := Lib.hid (by unfold pre; rw [List.take_length, Ky.cmp_self]; simp)
    have HLE : Hid (l.length ≤ l.length) := Lib.hid (Nat.le_refl _)
    have HC8 : Hid (Ky.cmp (l.take l.length) l = 0) := Lib.hid (by rw [List.take_length]; exact Ky.cmp_self l)
    go_wp2_with fail
    refine H7.out.mono ?_
    rintro e w7 ⟨rfl, hb7⟩
    have T7 := TAIL.out w7 hb7
    clear hb7
    have H8 := Lib.hid (kcmp_any w7 Ab Aa cb ca (l.take l.length) l (rdp_take T7.out.2.2 l.length) T7.out.2.1 (by rw [List.length_take]; have := L16.out; omega) (by have := L16.out; omega))
    rw [HTK.out HLE.out] at H8
    rw [HC8.out] at H8
    go_wp2_with fail
    refine H8.out.mono ?_
    rintro e w8 ⟨rfl, hb8⟩
    have HB8 : Hid (Below w.heap.size w w8) := Lib.hid (T7.out.1.trans (hb8.mono T7.out.1.size))
    clear hb8
    have H9 := Lib.hid (after_any w8 (Ky.bytes l) (by have := hsl.out; omega))
    unfold bstr at H9
    go_wp2_with fail
    refine H9.out.mono ?_
    rintro e w9 ⟨rfl, hb9⟩
    have HB9 : Hid (Below w.heap.size w w9) := Lib.hid (HB8.out.trans (hb9.mono HB8.out.size))
    clear hb9
    have HBG := Lib.hid (begins_any w9 (Ky.bytes l) (Ky.bytes l) (by have := hsm.out; omega) (by have := hsl.out; omega))
    rw [HPB.out, HP.out] at HBG
    unfold bstr at HBG
    cases hie : (Ky.after (Ky.bytes l)).isEmpty with
    | true =>
      go_wp2_with fail
      refine HBG.out.mono ?_
      rintro e w10 ⟨rfl, rfl⟩
      go_wp2_with fail
      go_ret
      exact ⟨rfl, HB9.out⟩
    | false =>
      have hte : Op.bytesLess (Ky.bytes l) (Ky.after (Ky.bytes l)) = true := by
        have := HIN.out
        rw [HP.out, hie, hts] at this
        simpa using this
      go_wp2_with fail
      refine HBG.out.mono ?_
      rintro e w10 ⟨rfl, rfl⟩
      go_wp2_with fail
      go_ret
      exact ⟨rfl, HB9.out⟩
  · obtain ⟨hts, hst, he2, he1⟩ := less_facts m l OKM.out OKL.out (by rw [Ky.cmp_anti, hc]; decide)
    rw [hc] at H7 ⊢
    clear hc
    have HP : Hid (pre l m = false) := Lib.hid (by rw [← HIN.out, hts]; rfl)
    by_cases hle : l.length ≤ m.length
    · have HLE := Lib.hid hle
      have hc8 : (Ky.cmp (m.take l.length) l == 0) = false := beq_false_of_ne (fun e => by
        have := HP.out
        unfold pre at this
        rw [decide_eq_true HLE.out, e] at this
        simp at this)
      go_wp2_with fail
      refine H7.out.mono ?_
      rintro e w7 ⟨rfl, hb7⟩
      have T7 := TAIL.out w7 hb7
      clear hb7
      have H8 := Lib.hid (kcmp_any w7 Ab Aa cb ca (m.take l.length) l (rdp_take T7.out.2.2 l.length) T7.out.2.1 (by rw [List.length_take]; have := L16.out; omega) (by have := L16.out; omega))
      rw [HTK.out HLE.out] at H8
      go_wp2_with fail
      refine H8.out.mono ?_
      rintro e w8 ⟨rfl, hb8⟩
      have HB8 : Hid (Below w.heap.size w w8) := Lib.hid (T7.out.1.trans (hb8.mono T7.out.1.size))
      clear hb8
      have H9 := Lib.hid (after_any w8 (Ky.bytes l) (by have := hsl.out; omega))
      unfold bstr at H9
      go_wp2_with fail
      refine H9.out.mono ?_
      rintro e w9 ⟨rfl, hb9⟩
      have HB9 : Hid (Below w.heap.size w w9) := Lib.hid (HB8.out.trans (hb9.mono HB8.out.size))
      clear hb9
      have HBG := Lib.hid (begins_any w9 (Ky.bytes m) (Ky.bytes l) (by have := hsm.out; omega) (by have := hsl.out; omega))
      rw [HPB.out, HP.out] at HBG
      unfold bstr at HBG
      go_wp2_with fail
      refine HBG.out.mono ?_
      rintro e w10 ⟨rfl, rfl⟩
      go_wp2_with fail
      go_ret
      exact ⟨rfl, HB9.out⟩
    · go_wp2_with fail
      refine H7.out.mono ?_
      rintro e w7 ⟨rfl, hb7⟩
      have T7 := TAIL.out w7 hb7
      clear hb7
      have H9 := Lib.hid (after_any w7 (Ky.bytes l) (by have := hsl.out; omega))
      unfold bstr at H9
      go_wp2_with fail
      refine H9.out.mono ?_
      rintro e w9 ⟨rfl, hb9⟩
      have HB9 : Hid (Below w.heap.size w w9) := Lib.hid (T7.out.1.trans (hb9.mono T7.out.1.size))
      clear hb9
      have HBG := Lib.hid (begins_any w9 (Ky.bytes m) (Ky.bytes l) (by have := hsm.out; omega) (by have := hsl.out; omega))
      rw [HPB.out, HP.out] at HBG
      unfold bstr at HBG
      go_wp2_with fail
      refine HBG.out.mono ?_
      rintro e w10 ⟨rfl, rfl⟩
      go_wp2_with fail
      go_ret
      exact ⟨rfl, HB9.out⟩
end Go.Proofs.YtfbdikaaeedeoaaDoor.korder

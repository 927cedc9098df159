/-
  KeyAfter, its walk: what stands behind a beginning.
-/
import Derived.Test.YtgpjclgbnkodcaaDoorKAwake
namespace Go.Proofs.YtgpjclgbnkodcaaDoor.kafter
open Go.RowKit Go.Maps
set_option maxRecDepth 100000

set_option maxHeartbeats 1600000 in
theorem walk (w : World) (s t : List UInt8) (hs : s.length ≤ 281474976710656) (ht : t.length ≤ 281474976710656) (hx : Mx w.heap.size w) :
    Calls Tryd.prog 8 #[bstr s, bstr t] w fun e w' => e = .returned (.bool true) ∧ Below w.heap.size w w' := by
  have HA := Lib.hid (awake_any w hx)
  unfold bstr
  by_cases hs5 : 5000 < s.length
  · have hs5' : (5000 : Int) < (s.length : Int) := by omega
    clear hs5
    go_enter Tryd.func8, Tryd.ntmps8
    go_wp2_with fail
    refine HA.out.mono ?_
    rintro e w1 ⟨rfl, hb⟩
    have HB := Lib.hid hb
    clear hb
    go_wp2_with fail
    go_ret
    exact ⟨rfl, HB.out⟩
  by_cases ht5 : 5000 < t.length
  · have hs5' : ¬ ((5000 : Int) < (s.length : Int)) := by omega
    have ht5' : (5000 : Int) < (t.length : Int) := by omega
    clear hs5 ht5
    go_enter Tryd.func8, Tryd.ntmps8
    go_wp2_with fail
    refine HA.out.mono ?_
    rintro e w1 ⟨rfl, hb⟩
    have HB := Lib.hid hb
    clear hb
    go_wp2_with fail
    go_ret
    exact ⟨rfl, HB.out⟩
  have hs5' : ¬ ((5000 : Int) < (s.length : Int)) := by omega
  have ht5' : ¬ ((5000 : Int) < (t.length : Int)) := by omega
  have HS5 : Hid (s.length ≤ 5000) := Lib.hid (by omega)
  have HT5 : Hid (t.length ≤ 5000) := Lib.hid (by omega)
  clear hs5 ht5 hs ht
  by_cases he : Ky.after s = []
  · have hall : ∃ k, s = List.replicate k 255 := by
      rcases Ky.after_form s with ⟨_, h⟩ | ⟨p, b, k, _, _, ha⟩
      · exact h
      · rw [ha] at he; simp at he
    have H255 : Hid (∀ i (hi : i < s.length), s[i] = 255) := Lib.hid (by
      obtain ⟨k, rfl⟩ := hall
      intro i hi
      simp)
    have HE := Lib.hid he
    clear he hall
    go_enter Tryd.func8, Tryd.ntmps8
    go_wp2_with fail
    refine HA.out.mono ?_
    rintro e w1 ⟨rfl, hb⟩
    have HB := Lib.hid hb
    have HF := Lib.hid (after_any w1 s (by have := HS5.out; omega))
    rw [HE.out] at HF
    clear hb
    unfold bstr at HF
    go_wp2_with fail
    refine HF.out.mono ?_
    rintro e w2 ⟨rfl, hb2⟩
    have HB2 := Lib.hid (HB.out.trans (hb2.mono HB.out.size))
    clear hb2
    go_wp2_with fail
    go_loop [6] (fun i => ∃ k : Nat, k ≤ s.length ∧ i = .int .i64 k) (fun i => s.length - (intOf i).toNat)
    case atStart => exact ⟨0, Nat.zero_le _, rfl⟩
    case round =>
      obtain ⟨k, hk, rfl⟩ := hrel
      by_cases hlt : k < s.length
      · have hix : ∀ h, (ByteArray.mk s.toArray)[k]'h = 255 := fun h => by
          show s.toArray[k] = 255
          rw [List.getElem_toArray]
          exact H255.out k hlt
        go_wp2_with fail
        go_round
        case rel => exact ⟨k + 1, by omega, by go_num⟩
        case measure => simp [intOf]; omega
      · go_wp2_with fail
        go_ret
        exact ⟨rfl, HB2.out⟩
  · have HE := Lib.hid he
    have h1 := Ky.after_behind s he
    have h2 := Ky.after_prefix s t he
    have h3 := Ky.after_between s t he
    have H1 := Lib.hid h1
    have H2 := Lib.hid h2
    have H3 := Lib.hid h3
    have hn0 : Ky.after s ≠ [] := he
    clear he h1 h2 h3
    generalize hea : Ky.after s = ea at *
    have HEA := Lib.hid hea
    clear hea
    go_enter Tryd.func8, Tryd.ntmps8
    go_wp2_with fail
    refine HA.out.mono ?_
    rintro e w1 ⟨rfl, hb⟩
    have HB := Lib.hid hb
    have HF := Lib.hid (after_any w1 s (by have := HS5.out; omega))
    rw [HEA.out] at HF
    clear hb
    unfold bstr at HF
    go_wp2_with fail
    refine HF.out.mono ?_
    rintro e w2 ⟨rfl, hb2⟩
    have HB2 := Lib.hid (HB.out.trans (hb2.mono HB.out.size))
    clear hb2
    have hie : ea.isEmpty = false := by cases ea <;> simp_all
    have hles : Op.bytesLess ea s = false := Tr.lt_asymm H1.out
    have hnes : (ea == s) = false := beq_false_of_ne fun e => by have := H1.out; rw [e, Tr.lt_irrefl] at this; cases this
    have HBG := Lib.hid (begins_any w2 t s (by have := HT5.out; omega) (by have := HS5.out; omega))
    unfold bstr at HBG
    cases hp : s.isPrefixOf t with
    | true =>
      have hpr := List.isPrefixOf_iff_prefix.1 hp
      have hte : Op.bytesLess t ea = true := H2.out hpr
      have het : Op.bytesLess ea t = false := Tr.lt_asymm hte
      have hne1 : (ea == t) = false := beq_false_of_ne fun e => by rw [e] at hte; have := Tr.lt_irrefl t; rw [show Tr.lt t t = Op.bytesLess t t from rfl, hte] at this; cases this
      have hne2 : (t == ea) = false := beq_false_of_ne fun e => by rw [← e] at hte; have := Tr.lt_irrefl t; rw [show Tr.lt t t = Op.bytesLess t t from rfl, hte] at this; cases this
      have hts : Op.bytesLess t s = false := by
        obtain ⟨x, rfl⟩ := hpr
        have := Ky.lt_append_left s x []
        rw [List.append_nil, Tr.lt_nil_right] at this
        exact this
      rw [hp] at HBG
      clear hpr hp hn0
      by_cases hst : Op.bytesLess s t = true
      · have htn : ¬ t = s := fun e => by rw [e] at hst; have := Tr.lt_irrefl s; rw [show Tr.lt s s = Op.bytesLess s s from rfl, hst] at this; cases this
        go_wp2_with fail
        all_goals
          refine HBG.out.mono ?_
          rintro e w3 ⟨rfl, rfl⟩
          go_wp2_with fail
        all_goals
          refine HBG.out.mono ?_
          rintro e w3 ⟨rfl, rfl⟩
          go_wp2_with fail
          go_ret
          exact ⟨rfl, HB2.out⟩
      · have hst' : Op.bytesLess s t = false := by simpa using hst
        obtain rfl : t = s := by
          rcases Tr.lt_total t s with h | h | h
          · rw [show Tr.lt t s = Op.bytesLess t s from rfl, hts] at h; cases h
          · exact h
          · exact absurd h hst
        clear hst
        go_wp2_with fail
        all_goals
          refine HBG.out.mono ?_
          rintro e w3 ⟨rfl, rfl⟩
          go_wp2_with fail
          go_ret
          exact ⟨rfl, HB2.out⟩
    | false =>
      rw [hp] at HBG
      by_cases hst : Op.bytesLess s t = true
      · have htn : ¬ t = s := fun e => by rw [e] at hst; have := Tr.lt_irrefl s; rw [show Tr.lt s s = Op.bytesLess s s from rfl, hst] at this; cases this
        have hts : Op.bytesLess t s = false := Tr.lt_asymm hst
        have hte : Op.bytesLess t ea = false := by
          cases h : Op.bytesLess t ea with
          | false => rfl
          | true =>
            have := List.isPrefixOf_iff_prefix.2 (H3.out hts h)
            rw [hp] at this
            cases this
        clear hp hn0
        go_wp2_with fail
        all_goals
          refine HBG.out.mono ?_
          rintro e w3 ⟨rfl, rfl⟩
          go_wp2_with fail
          go_ret
          exact ⟨rfl, HB2.out⟩
      · have hst' : Op.bytesLess s t = false := by simpa using hst
        have hts : Op.bytesLess t s = true := by
          rcases Tr.lt_total t s with h | h | h
          · exact h
          · subst h; rw [List.isPrefixOf_iff_prefix.2 (List.prefix_refl t)] at hp; cases hp
          · exact absurd h hst
        clear hst hp hn0
        go_wp2_with fail
        all_goals
          refine HBG.out.mono ?_
          rintro e w3 ⟨rfl, rfl⟩
          go_wp2_with fail
          go_ret
          exact ⟨rfl, HB2.out⟩
end Go.Proofs.YtgpjclgbnkodcaaDoor.kafter

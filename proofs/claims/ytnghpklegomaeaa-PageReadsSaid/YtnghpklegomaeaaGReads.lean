/-
  PageReads, at every input: a page is read, or refused, as the document says; what is read is new memory, and what was handed in stands. Nothing is assumed of the input beyond the form's own reach.
-/
import Derived.Test.YtnghpklegomaeaaGRefDec
import Derived.ProofKit
namespace Go.Proofs.Ytnghpklegomaeaa.preads
open Go.ChangeShapes Go.WideShapes Go.ChangeAt Go.RowKit

theorem own : ownKnob Try.prog.godebug = none := by kernel_rfl
theorem laidOut : laidOutB Try.prog = true := by kernel_rfl

def Yes (W : World) (e : Ending) (w' : World) : Prop := e = .returned (.bool true) ∧ Below W.heap.size W w'

set_option maxHeartbeats 1600000 in
set_option maxRecDepth 100000 in
theorem walk (W : World) (n : Int) (_ : -9223372036854775808 ≤ n ∧ n ≤ 9223372036854775807) (A : Option Addr) (l : List UInt8) (c : Nat) (h : Rd W W.heap.size A l) (hA : A = none → c = 0) (hc : l.length ≤ c) :
    Calls Try.prog 5 #[.int .i64 n, .slice A l.length c] W (Yes W) := by
  have H := Lib.hid h
  have HA := Lib.hid hA
  have hm := h.1
  clear h hA
  go_enter Try.func5, Try.ntmps5
  go_wp2_with (refine wpList_append_rd rfl (.tmp 11) (.tmp 12) rfl W.heap.size W.heap.size 0 0 l.length [] rfl rfl (Own.none_ W _ (Nat.le_refl _)) W.heap.size A l c rfl (H.out.below ((Below.refl _ _).alloc (Nat.le_refl _) _)) HA.out (by simp) hm (by simp) W ((Below.refl _ _).alloc (Nat.le_refl _) _) ?_; intro g1 c1 w1 O0 B1 F1; have O1 : Hid (Own w1 W.heap.size g1 c1 l) := O0; clear O0 F1)
  have hg1 := O1.out.base.1
  by_cases hok : (0 ≤ n ∧ n ≤ 16383) ∧ l.length = 512
  · obtain ⟨⟨h0, h1⟩, h2⟩ := hok
    obtain ⟨k, rfl⟩ := Int.eq_ofNat_of_zero_le h0
    refine (decode_at w1 k (by omega) (some ⟨g1, 0, none⟩) l c1 h2 (O1.out.rd hm)).mono ?_
    have HL2 := Lib.hid h2
    rintro e w2 hd
    rcases hd with ⟨hs, hd⟩ | ⟨hs, rfl, hb2⟩
    · have hpl := Pg.payload_length l HL2.out (Pg.sound_iff.1 hs).1
      have hps := (Pg.sound_iff.1 hs).1
      obtain ⟨g2, rfl, hg2, hr2, hge2, hb2⟩ := hd.rd (by omega)
      have B2 : Hid (Below W.heap.size W w2) := Lib.hid (B1.out.trans (hb2.mono B1.out.size))
      have O2 : Hid (Own w2 W.heap.size g1 c1 l) := Lib.hid (O1.out.below hb2 O1.out.base.2)
      have G2 := Lib.hid hg2
      have hlt1 := O1.out.base.2
      have hrd := rdecode_at w2 k (by omega) A l c HL2.out hc ((H.out.below B2.out).more B2.out.size)
      have HRD := Lib.hid hrd
      have HPM := Lib.hid (show (Pg.payload l).length ≤ 140737488355328 by omega)
      clear hd hg2 hr2 hb2 hrd hpl hps h2
      go_wp2_with fail
      refine HRD.out.mono ?_
      rintro e w3 hd
      rcases hd with ⟨_, v3, rfl, o3, hb3⟩ | ⟨hs', _⟩
      · obtain ⟨A3, c3, rfl, _, hr3⟩ := o3.at_ (Pg.payload l).length rfl
        have B3 : Hid (Below W.heap.size W w3) := Lib.hid (B2.out.trans (hb3.mono B2.out.size))
        have O3 : Hid (Own w3 W.heap.size g1 c1 l) := Lib.hid (O2.out.below hb3 O2.out.base.2)
        have hG3 : Has w3 g2 5 (bytCells (Pg.payload l)).toArray := G2.out.keep (Fr.of_below hb3 noB) (fun h => h)
        have G3 := Lib.hid hG3
        have hc1 := conv_rd w3 _ _ _ (Pg.payload l).length (Rd.of_has hG3 (by rw [List.drop_zero, ← bytCells_len, List.take_length]) HPM.out)
        have hc2 := conv_rd w3 _ _ _ c3 (hr3 HPM.out)
        have hc3 := conv_rd w3 _ _ _ c1 (O3.out.rd hm)
        have hc4 := conv_rd w3 _ _ _ c (H.out.below B3.out)
        unfold bstr at hc1 hc2 hc3 hc4
        clear o3 hb3 hr3 hG3 HRD hs
        go_wp2_with fail
        clear hc1 hc2 hc3 hc4
        go_loopw [10] (fun i wr => ∃ q : Nat, q ≤ (Pg.payload l).length ∧ i = .int .i64 q ∧ Over w3 g2 (Pg.payload l).length wr) (fun i _ => (Pg.payload l).length - (intOf i).toNat)
        case atStart => exact ⟨0, Nat.zero_le _, rfl, Over.first G3.out⟩
        case round =>
          rename_i wr
          obtain ⟨q, hq, rfl, hov⟩ := hrel
          have HO := Lib.hid hov
          clear hov
          have hpm : (Pg.payload l).length ≤ 140737488355328 := HPM.out
          by_cases hlt : q < (Pg.payload l).length
          · obtain ⟨u, hcu, hfu⟩ := HO.out.cell hlt
            go_wp2_with fail
            go_roundw
            case rel => exact ⟨q + 1, by omega, by go_num, HO.out.next _ _⟩
            case measure => simp [intOf]; omega
          · have hqq : q = (Pg.payload l).length := by omega
            subst hqq
            have Bw : Below W.heap.size W wr := below_one B3.out HO.out.2 (by have := B1.out.size; omega)
            have hc3 := conv_rd wr _ _ _ c1 ((O3.out.fr HO.out.2 (by omega)).rd hm)
            have hc4 := conv_rd wr _ _ _ c (H.out.below Bw)
            unfold bstr at hc3 hc4
            have BW := Lib.hid Bw
            clear Bw
            go_wp2_with fail
            go_ret
            exact ⟨rfl, BW.out⟩
      · rw [hs] at hs'; cases hs'
    · have B2 : Hid (Below W.heap.size W w2) := Lib.hid (B1.out.trans (hb2.mono B1.out.size))
      have O2 : Hid (Own w2 W.heap.size g1 c1 l) := Lib.hid (O1.out.below hb2 O1.out.base.2)
      have hrd := rdecode_at w2 k (by omega) A l c HL2.out hc ((H.out.below B2.out).more B2.out.size)
      have HRD := Lib.hid hrd
      clear hb2 hrd h2
      go_wp2_with fail
      refine HRD.out.mono ?_
      rintro e w3 hd
      rcases hd with ⟨hs', _⟩ | ⟨_, rfl, hb3⟩
      · rw [hs] at hs'; cases hs'
      · have B3 : Hid (Below W.heap.size W w3) := Lib.hid (B2.out.trans (hb3.mono B2.out.size))
        have O3 : Hid (Own w3 W.heap.size g1 c1 l) := Lib.hid (O2.out.below hb3 O2.out.base.2)
        have hc0 := conv_rd w3 0 none [] 0 (Rd.nil _ _ _)
        have hc3 := conv_rd w3 _ _ _ c1 (O3.out.rd hm)
        have hc4 := conv_rd w3 _ _ _ c (H.out.below B3.out)
        unfold bstr at hc0 hc3 hc4
        have hc0 : (convert 25 9 (.slice none 0 0)).run Try.prog w3 = .ok (.string ⟨#[]⟩) w3 := hc0
        clear hb3 HRD hs
        go_wp2_with fail
        go_loop [10] (fun i => i = .int .i64 0) (fun _ => 0)
        case atStart => rfl
        case round =>
          subst hrel
          go_wp2_with fail
          go_ret
          exact ⟨rfl, B3.out⟩
  · refine (decode_bad w1 n (some ⟨g1, 0, none⟩) l.length c1 (by omega)).mono ?_
    rintro e w2 ⟨rfl, rfl⟩
    have hrb := rdecode_bad w1 n A l.length c (by omega)
    have HRB := Lib.hid hrb
    clear hok hrb
    go_wp2_with fail
    refine HRB.out.mono ?_
    rintro e w2 ⟨rfl, rfl⟩
    have hc0 := conv_rd w1 0 none [] 0 (Rd.nil _ _ _)
    have hc3 := conv_rd w1 _ _ _ c1 (O1.out.rd hm)
    have hc4 := conv_rd w1 _ _ _ c (H.out.below B1.out)
    unfold bstr at hc0 hc3 hc4
    have hc0 : (convert 25 9 (.slice none 0 0)).run Try.prog w1 = .ok (.string ⟨#[]⟩) w1 := hc0
    clear HRB
    go_wp2_with fail
    go_loop [10] (fun i => i = .int .i64 0) (fun _ => 0)
    case atStart => rfl
    case round =>
      subst hrel
      go_wp2_with fail
      go_ret
      exact ⟨rfl, B1.out⟩

set_option maxRecDepth 100000 in
theorem lifted (os : Os) (started : os.Started) (H : Type) (enc : TypeId × Value → H) :
    ReturnsInHanded {} Try.checked os 5 .any (Rows.pageReadsSpec.pre6 enc Try.prog Try.f5 Rows.pageReadsRow.domain false) (Rows.pageReadsSpec.post enc Try.prog Try.f5 false true false false) := by
  refine returnsInHanded_of_change_sized (C := Try.checked) own started (by kernel_rfl) Try.func5
    (ChangeSpec.witness6 (enc := enc) (C := Try.checked) false ⟨#[], #[.int .i64 0, .slice none 0 0], []⟩ 8 (by kernel_rfl) (by kernel_rfl) (by kernel_rfl) (by kernel_rfl)) ?_
  intro W base args ds gs before hval0 hW _ hsz _
  have hval : ∀ (j : Nat) t v, Try.f5.params[j]? = some t → args[j]? = some v → Value.okWide Try.prog W .any base t v := hval0
  have hW' := hW
  have hltW := hW.lt
  obtain ⟨p, q, hA0, hV, rfl, hfz, hnd⟩ := hW
  have hA : DataW.TrodAll enc Try.prog W 0 (fun _ => true) true Try.f5.params.toList args.toList ds p := hA0
  rw [Try.params5] at hA hval
  obtain ⟨v0, vs0, d0, ds0, p0, q0, hargs0, rfl, rfl, h0, r0⟩ := trodAll_cons hA
  obtain ⟨v1, vs1, d1, ds1, p1, q1, hargs1, rfl, rfl, h1, r1⟩ := trodAll_cons r0
  obtain ⟨rfl, rfl, rfl⟩ := trodAll_nil r1
  obtain rfl : args = #[v0, v1] := by cases args; simp_all
  obtain ⟨rfl, rfl⟩ := trodVars_none hV
  have hrb := reachBytes_lt
  obtain ⟨n0, rfl, rfl, rfl, w0⟩ := open_int Try.underlying3 (hval 0 3 v0 rfl rfl) h0
  have b0 : -9223372036854775808 ≤ n0 ∧ n0 ≤ 9223372036854775807 := by simpa [Lit.wf, IntKind.min, IntKind.max, IntKind.signed, IntKind.bits] using w0
  obtain ⟨A1, l1, k1, rfl, R1, _, N1, C1⟩ := bytes_open_full 140737488355328 (Nat.le_refl _) (hval 1 25 v1 rfl rfl) h1 (fun elems spare hd => by
    subst hd
    have : (elems.length + spare.length) * Try.prog.bytesOf 5 ≤ reachBytes := sized_slice hsz (j := 1) (t := 25) rfl rfl und_bytes
    rw [show Try.prog.bytesOf 5 = 1 by kernel_rfl] at this
    omega)
  clear hA0 hval0
  refine (walk W n0 b0 A1 l1 k1 R1 N1 C1).mono fun e W' ⟨he, hnx⟩ => ?_
  subst he
  refine ⟨_, rfl, _, _, _, [], [] ++ (p1 ++ ([])), [], hW', ?_, ?_, rfl, hnx.frame _, fun h => by cases h⟩
  · exact trodAll_cons_mk (shut_bool Try.underlying4 _) trodAll_mk0
  · exact (trodAll_cons_mk (shut_int Try.underlying3 w0) (trodAll_cons_mk (Below.trod laidOut (by kernel_rfl) (of_decide_eq_true (by kernel_rfl)) h1 hnx (fun x hx => hltW x (by simp [hx]))) trodAll_mk0))

theorem proved : Rows.PageReadsSaid :=
  OpenClaim.holds_of_wide 5 Try.f5 rfl rfl rfl rfl rfl rfl rfl ⟨rfl, rfl, rfl, rfl, rfl⟩ rfl rfl rfl rfl rfl (by kernel_rfl) Try.func5 (by kernel_rfl)
    (of_decide_eq_true (by kernel_rfl)) (by unfold Func.isWrapper; first | (rw [if_pos (by decide +kernel)]; kernel_rfl) | (rw [if_neg (by decide +kernel)]; exact ⟨rfl, rfl⟩))
    (fun os started H enc _ => lifted os started H enc)

end Go.Proofs.Ytnghpklegomaeaa.preads

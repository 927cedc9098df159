/-
  PageWrites, at every input: a page is made, or refused, as the document says, and its sum is the document's; what is made is new memory, and what was handed in stands. Nothing is assumed of the input beyond the form's own reach.
-/
import Derived.Test.YtnghpklegomaeaaGRefDec
import Derived.ProofKit
namespace Go.Proofs.Ytnghpklegomaeaa.pwrites
open Go.ChangeShapes Go.WideShapes Go.ChangeAt Go.RowKit

theorem own : ownKnob Try.prog.godebug = none := by kernel_rfl
theorem laidOut : laidOutB Try.prog = true := by kernel_rfl

def Yes (W : World) (e : Ending) (w' : World) : Prop := e = .returned (.bool true) ∧ Below W.heap.size W w'

theorem encode_bad' (n : Int) (A : Option Addr) (k c : Nat) (hk : k ≤ 140737488355328) (h : ¬ (0 ≤ n ∧ n ≤ 16383) ∨ 502 < k) (w : World) :
    Calls Try.prog 12 #[.int .i64 n, .slice A k c] w fun e w' => e = .returned (.tuple #[.slice none 0 0, .int .i64 1]) ∧ w = w' := encode_bad w n A k c hk h
set_option maxHeartbeats 1600000 in
set_option maxRecDepth 100000 in
theorem walk (W : World) (n : Int) (_ : -9223372036854775808 ≤ n ∧ n ≤ 9223372036854775807) (A : Option Addr) (l : List UInt8) (c : Nat) (h : Rd W W.heap.size A l) (hA : A = none → c = 0) (_ : l.length ≤ c) :
    Calls Try.prog 4 #[.int .i64 n, .slice A l.length c] W (Yes W) := by
  have H := Lib.hid h
  have HA := Lib.hid hA
  have hm := h.1
  clear h hA
  go_enter Try.func4, Try.ntmps4
  go_wp2_with (refine wpList_append_rd rfl (.tmp 11) (.tmp 12) rfl W.heap.size W.heap.size 0 0 l.length [] rfl rfl (Own.none_ W _ (Nat.le_refl _)) W.heap.size A l c rfl (H.out.below ((Below.refl _ _).alloc (Nat.le_refl _) _)) HA.out (by simp) hm (by simp) W ((Below.refl _ _).alloc (Nat.le_refl _) _) ?_; intro g1 c1 w1 O0 B1 F1; have O1 : Hid (Own w1 W.heap.size g1 c1 l) := O0; clear O0 F1)
  have hg1 := O1.out.base.1
  have hlt1 := O1.out.base.2
  by_cases hok : (0 ≤ n ∧ n ≤ 16383) ∧ l.length ≤ 502
  · obtain ⟨⟨h0, h1⟩, h2⟩ := hok
    obtain ⟨k, rfl⟩ := Int.eq_ofNat_of_zero_le h0
    have hml := Pg.made_length k l h2
    refine (encode_ok w1 k (by omega) (some ⟨g1, 0, none⟩) l c1 h2 (O1.out.rd hm)).mono ?_
    rintro e w2 hd
    obtain ⟨g2, rfl, hg2, hr2, hge2, hb2⟩ := hd.rd (by omega)
    rw [hml]
    have B2 : Hid (Below W.heap.size W w2) := Lib.hid (B1.out.trans (hb2.mono B1.out.size))
    have O2 : Hid (Own w2 W.heap.size g1 c1 l) := Lib.hid (O1.out.below hb2 hlt1)
    have G2 := Lib.hid hg2
    have HML := Lib.hid hml
    have hlt2 := hg2.lt
    have hre := rencode_ok w2 k (by omega) A l c h2 ((H.out.below B2.out).more B2.out.size) HA.out
    have HRE := Lib.hid hre
    clear hd hg2 hr2 hb2 hre hml
    go_wp2_with fail
    refine HRE.out.mono ?_
    rintro e w3 ⟨v3, rfl, o3, hb3⟩
    obtain ⟨A3, c3, rfl, _, hr3⟩ := o3.at_ 512 HML.out
    have B3 : Hid (Below W.heap.size W w3) := Lib.hid (B2.out.trans (hb3.mono B2.out.size))
    have O3 : Hid (Own w3 W.heap.size g1 c1 l) := Lib.hid (O2.out.below hb3 O2.out.base.2)
    have hG3 : Has w3 g2 5 (bytCells (Pg.made k l)).toArray := G2.out.keep (Fr.of_below hb3 noB) (fun h => h)
    have G3 := Lib.hid hG3
    have Q3 := Lib.hid o3
    have hc1 := conv_at w3 _ _ _ 512 512 HML.out (Rd.of_has hG3 (by rw [List.drop_zero, ← bytCells_len, List.take_length]) (by rw [HML.out]; omega))
    have hc2 := conv_at w3 _ _ _ 512 c3 HML.out (hr3 (by rw [HML.out]; omega))
    have hs1 := sum_any w3 _ l c1 (O3.out.rd hm)
    have HS1 := Lib.hid hs1
    unfold bstr at hc1 hc2
    clear o3 hb3 hr3 hG3 HRE hs1
    go_wp2_with fail
    clear hc1 hc2
    refine HS1.out.mono ?_
    rintro e w4 ⟨rfl, hb4⟩
    have B4 : Hid (Below W.heap.size W w4) := Lib.hid (B3.out.trans (hb4.mono B3.out.size))
    have O4 : Hid (Own w4 W.heap.size g1 c1 l) := Lib.hid (O3.out.below hb4 O3.out.base.2)
    have hG4 : Has w4 g2 5 (bytCells (Pg.made k l)).toArray := G3.out.keep (Fr.of_below hb4 noB) (fun h => h)
    have G4 := Lib.hid hG4
    have Q4 := Lib.hid (Q3.out.below hb4)
    have hs2 := rsum_any w4 A l c _ (H.out.below B4.out)
    have HS2 := Lib.hid hs2
    have hc3 := conv_rd w4 _ _ _ c1 (O4.out.rd hm)
    have hc4 := conv_rd w4 _ _ _ c (H.out.below B4.out)
    unfold bstr at hc3 hc4
    clear hb4 hG4 hs2 HS1
    generalize Pg.sum l = su at *
    go_wp2_with fail
    refine HS2.out.mono ?_
    rintro e w' ⟨rfl, rfl⟩
    go_wp2_with fail
    clear hc3 hc4
    go_loopw [10] (fun i wr => ∃ q : Nat, q ≤ 512 ∧ i = .int .i64 q ∧ Over w4 g2 512 wr) (fun i _ => 512 - (intOf i).toNat)
    case atStart => exact ⟨0, Nat.zero_le _, rfl, by have := Over.first G4.out; rw [HML.out] at this; exact this⟩
    case round =>
      rename_i wr
      obtain ⟨q, hq, rfl, hov⟩ := hrel
      have HO := Lib.hid hov
      clear hov
      by_cases hlt : q < 512
      · obtain ⟨u, hcu, hfu⟩ := HO.out.cell hlt
        have hlt' : (q : Int) < 512 := by omega
        go_wp2_with fail
        go_roundw
        case rel => exact ⟨q + 1, by omega, by go_num, HO.out.next _ _⟩
        case measure => simp [intOf]; omega
      · obtain rfl : q = 512 := by omega
        have Bw : Below W.heap.size W wr := below_one B4.out HO.out.2 (by have := B1.out.size; omega)
        have hO5 : Own wr W.heap.size g1 c1 l := O4.out.fr HO.out.2 (by omega)
        have hQ5 : OwnV wr w2.heap.size (.slice A3 512 c3) (Pg.made k l) := Q4.out.fr HO.out.2 (by omega)
        have hen := encode_ok wr k (by omega) (some ⟨g1, 0, none⟩) l c1 h2 (hO5.rd hm)
        have HEN := Lib.hid hen
        have BW := Lib.hid Bw
        have O5 := Lib.hid hO5
        have Q5 := Lib.hid hQ5
        clear Bw hO5 hQ5 hen
        go_wp2_with fail
        refine HEN.out.mono ?_
        rintro e w6 hd
        obtain ⟨g6, rfl, hg6, hr6, hge6, hb6⟩ := hd.rd (by rw [HML.out]; omega)
        rw [HML.out]
        have B6 : Hid (Below W.heap.size W w6) := Lib.hid (BW.out.trans (hb6.mono BW.out.size))
        have O6 : Own w6 W.heap.size g1 c1 l := O5.out.below hb6 O5.out.base.2
        have hQ6 := Q5.out.below hb6
        obtain ⟨_, _, e6, _, hr7⟩ := hQ6.at_ 512 HML.out
        injection e6 with e61 e62 e63
        subst e61 e63
        have hc1 := conv_at w6 _ _ _ 512 512 HML.out hr6
        have hc2 := conv_at w6 _ _ _ 512 c3 HML.out (hr7 (by rw [HML.out]; omega))
        have hc3 := conv_rd w6 _ _ _ c1 (O6.rd hm)
        have hc4 := conv_rd w6 _ _ _ c (H.out.below B6.out)
        unfold bstr at hc1 hc2 hc3 hc4
        clear hd hg6 hr6 hb6 O6 hQ6 hr7 e62 HEN
        go_wp2_with fail
        go_ret
        exact ⟨rfl, B6.out⟩
  · refine (encode_bad w1 n (some ⟨g1, 0, none⟩) l.length c1 hm (by omega)).mono ?_
    rintro e w2 ⟨rfl, rfl⟩
    have hrb := rencode_bad w1 n A l.length c hm (by omega)
    have hen := encode_bad' n (some ⟨g1, 0, none⟩) l.length c1 hm (by omega)
    have HEN := Lib.hid hen
    have HRB := Lib.hid hrb
    clear hok hrb hen
    go_wp2_with fail
    refine HRB.out.mono ?_
    rintro e w2 ⟨rfl, rfl⟩
    have hc0 := conv_rd w1 0 none [] 0 (Rd.nil _ _ _)
    unfold bstr at hc0
    have hc0 : (convert 25 9 (.slice none 0 0)).run Try.prog w1 = .ok (.string ⟨#[]⟩) w1 := hc0
    have hs1 := sum_any w1 _ l c1 (O1.out.rd hm)
    have HS1 := Lib.hid hs1
    clear HRB hs1
    go_wp2_with fail
    refine HS1.out.mono ?_
    rintro e w4 ⟨rfl, hb4⟩
    have B4 : Hid (Below W.heap.size W w4) := Lib.hid (B1.out.trans (hb4.mono B1.out.size))
    have O4 : Hid (Own w4 W.heap.size g1 c1 l) := Lib.hid (O1.out.below hb4 O1.out.base.2)
    have hs2 := rsum_any w4 A l c _ (H.out.below B4.out)
    have HS2 := Lib.hid hs2
    have hc0 := conv_rd w4 0 none [] 0 (Rd.nil _ _ _)
    have hc3 := conv_rd w4 _ _ _ c1 (O4.out.rd hm)
    have hc4 := conv_rd w4 _ _ _ c (H.out.below B4.out)
    unfold bstr at hc0 hc3 hc4
    have hc0 : (convert 25 9 (.slice none 0 0)).run Try.prog w4 = .ok (.string ⟨#[]⟩) w4 := hc0
    clear hb4 hs2 HS1
    generalize Pg.sum l = su at *
    go_wp2_with fail
    refine HS2.out.mono ?_
    rintro e w' ⟨rfl, rfl⟩
    go_wp2_with fail
    go_loop [10] (fun i => i = .int .i64 0) (fun _ => 0)
    case atStart => rfl
    case round =>
      subst hrel
      go_wp2_with fail
      refine (HEN.out w4).mono ?_
      rintro e w' ⟨rfl, rfl⟩
      go_wp2_with fail
      go_ret
      exact ⟨rfl, B4.out⟩

set_option maxRecDepth 100000 in
theorem lifted (os : Os) (started : os.Started) (H : Type) (enc : TypeId × Value → H) :
    ReturnsInHanded {} Try.checked os 4 .any (Rows.pageWritesSpec.pre6 enc Try.prog Try.f4 Rows.pageWritesRow.domain false) (Rows.pageWritesSpec.post enc Try.prog Try.f4 false true false false) := by
  refine returnsInHanded_of_change_sized (C := Try.checked) own started (by kernel_rfl) Try.func4
    (ChangeSpec.witness6 (enc := enc) (C := Try.checked) false ⟨#[], #[.int .i64 0, .slice none 0 0], []⟩ 8 (by kernel_rfl) (by kernel_rfl) (by kernel_rfl) (by kernel_rfl)) ?_
  intro W base args ds gs before hval0 hW _ hsz _
  have hval : ∀ (j : Nat) t v, Try.f4.params[j]? = some t → args[j]? = some v → Value.okWide Try.prog W .any base t v := hval0
  have hW' := hW
  have hltW := hW.lt
  obtain ⟨p, q, hA0, hV, rfl, hfz, hnd⟩ := hW
  have hA : DataW.TrodAll enc Try.prog W 0 (fun _ => true) true Try.f4.params.toList args.toList ds p := hA0
  rw [Try.params4] at hA hval
  obtain ⟨v0, vs0, d0, ds0, p0, q0, hargs0, rfl, rfl, h0, r0⟩ := trodAll_cons hA
  obtain ⟨v1, vs1, d1, ds1, p1, q1, hargs1, rfl, rfl, h1, r1⟩ := trodAll_cons r0
  obtain ⟨rfl, rfl, rfl⟩ := trodAll_nil r1
  obtain rfl : args = #[v0, v1] := by cases args; simp_all
  obtain ⟨rfl, rfl⟩ := trodVars_none hV
  have hrb := reachBytes_lt
  obtain ⟨n0, rfl, rfl, rfl, w0⟩ := open_int Try.underlying3 (hval 0 3 v0 rfl rfl) h0
  have b0 : -9223372036854775808 ≤ n0 ∧ n0 ≤ 9223372036854775807 := by simpa [Lit.wf, IntKind.min, IntKind.max, IntKind.signed, IntKind.bits] using w0
  obtain ⟨A1, l1, k1, rfl, R1, _, N1, C1⟩ := bytes_open_full 140737488355328 (Nat.le_refl _) (hval 1 25 v1 rfl rfl) h1 (fun elems spare hd => by
    subst hd
    have : (elems.length + spare.length) * Try.prog.bytesOf 5 ≤ reachBytes := sized_slice hsz (j := 1) (t := 25) rfl rfl und_bytes
    rw [show Try.prog.bytesOf 5 = 1 by kernel_rfl] at this
    omega)
  clear hA0 hval0
  refine (walk W n0 b0 A1 l1 k1 R1 N1 C1).mono fun e W' ⟨he, hnx⟩ => ?_
  subst he
  refine ⟨_, rfl, _, _, _, [], [] ++ (p1 ++ ([])), [], hW', ?_, ?_, rfl, hnx.frame _, fun h => by cases h⟩
  · exact trodAll_cons_mk (shut_bool Try.underlying4 _) trodAll_mk0
  · exact (trodAll_cons_mk (shut_int Try.underlying3 w0) (trodAll_cons_mk (Below.trod laidOut (by kernel_rfl) (of_decide_eq_true (by kernel_rfl)) h1 hnx (fun x hx => hltW x (by simp [hx]))) trodAll_mk0))

theorem proved : Rows.PageWritesSaid :=
  OpenClaim.holds_of_wide 4 Try.f4 rfl rfl rfl rfl rfl rfl rfl ⟨rfl, rfl, rfl, rfl, rfl⟩ rfl rfl rfl rfl rfl (by kernel_rfl) Try.func4 (by kernel_rfl)
    (of_decide_eq_true (by kernel_rfl)) (by unfold Func.isWrapper; first | (rw [if_pos (by decide +kernel)]; kernel_rfl) | (rw [if_neg (by decide +kernel)]; exact ⟨rfl, rfl⟩))
    (fun os started H enc _ => lifted os started H enc)

end Go.Proofs.Ytnghpklegomaeaa.pwrites

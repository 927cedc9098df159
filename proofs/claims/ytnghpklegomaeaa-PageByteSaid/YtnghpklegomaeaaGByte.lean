/-
  PageByte, at every input: a page of which one byte was changed is refused, wherever and however. Nothing is assumed of the input beyond the form's own reach.
-/
import Derived.Test.YtnghpklegomaeaaGArgs
import Derived.Test.YtnghpklegomaeaaGTell
import Derived.ProofKit
namespace Go.Proofs.Ytnghpklegomaeaa.pbyte
open Go.ChangeShapes Go.WideShapes Go.ChangeAt Go.RowKit

theorem own : ownKnob Try.prog.godebug = none := by kernel_rfl
theorem laidOut : laidOutB Try.prog = true := by kernel_rfl

def Yes (W : World) (e : Ending) (w' : World) : Prop := e = .returned (.bool true) ∧ Below W.heap.size W w'

set_option maxHeartbeats 1600000 in
set_option maxRecDepth 100000 in
theorem walk (W : World) (n : Int) (_ : -9223372036854775808 ≤ n ∧ n ≤ 9223372036854775807) (A : Option Addr) (l : List UInt8) (c : Nat) (h : Rd W W.heap.size A l) (at_ : Int) (_ : -9223372036854775808 ≤ at_ ∧ at_ ≤ 9223372036854775807) (b : UInt8) :
    Calls Try.prog 7 #[.int .i64 n, .slice A l.length c, .int .i64 at_, .int .u8 (b.toNat : Int)] W (Yes W) := by
  have H := Lib.hid h
  have hm := h.1
  have hb256 : b.toNat < 256 := b.toNat_lt
  clear h
  go_enter Try.func7, Try.ntmps7
  go_wp2_with fail
  refine (works_any _).mono ?_
  rintro e w1 ⟨rfl, hb1⟩
  have B1 := Lib.hid hb1
  have R1 : Hid (Rd w1 w1.heap.size A l) := Lib.hid ((H.out.below hb1).more hb1.size)
  clear hb1
  go_wp2_with fail
  by_cases hok : (0 ≤ n ∧ n ≤ 16383) ∧ l.length ≤ 502
  · obtain ⟨⟨h0, h1⟩, h2⟩ := hok
    obtain ⟨k, rfl⟩ := Int.eq_ofNat_of_zero_le h0
    have henc := encode_ok w1 k (by omega) A l c h2 R1.out
    refine henc.mono ?_
    rintro e w2 hg
    have hml := Pg.made_length k l h2
    obtain ⟨g, rfl, hg2, hr2, hge, hb2⟩ := hg.rd (by rw [hml]; omega)
    have B2 : Hid (Below W.heap.size W w2) := Lib.hid (B1.out.trans (hb2.mono B1.out.size))
    have G2 := Lib.hid hg2
    rw [hml]
    have HL := Lib.hid hml
    have hgW : W.heap.size ≤ g := Nat.le_trans B1.out.size hge
    clear hg hr2 hb2 hml henc hg2
    by_cases hb0 : b.toNat = 0
    · have hz : ((b.toNat : Int) == 0) = true := by rw [beq_iff_eq]; omega
      clear hb0
      go_wp2_with fail
      go_ret
      exact ⟨rfl, B2.out⟩
    · have hz : ((b.toNat : Int) == 0) = false := by rw [beq_eq_false_iff_ne]; omega
      obtain ⟨j, hj, hj512⟩ := place_of at_ 512 (by omega) (by omega)
      have hj : wrap64 ((IntKind.u64.wrap at_).tmod 512) = (j : Int) := hj
      have hj0 : (j : Int) < 512 := by omega
      have hjl : j < (Pg.made k l).length := by rw [HL.out]; omega
      obtain ⟨t1, t2, t3⟩ := turn_byte G2.out j hjl b
      have hfz := G2.out.free j
      have htold := Pg.byte_told k _ HL.out (Pg.sound_made k l h2) j hjl ((Pg.made k l)[j] ^^^ b) (turn_ne hb0)
      have T3 := Lib.hid t3
      have HT := Lib.hid htold
      clear t3 htold hb0
      go_wp2_with fail
      have hsz : (w2.setCell ⟨g, j, none⟩ (.int .u8 (((Pg.made k l)[j].toNat ^^^ b.toNat : Nat) : Int))).heap.size = w2.heap.size := by simp
      have hl2 : ((Pg.made k l).set j ((Pg.made k l)[j] ^^^ b)).length = 512 := by rw [List.length_set, HL.out]
      have hr : Rd (w2.setCell ⟨g, j, none⟩ (.int .u8 (((Pg.made k l)[j].toNat ^^^ b.toNat : Nat) : Int))) (w2.setCell ⟨g, j, none⟩ (.int .u8 (((Pg.made k l)[j].toNat ^^^ b.toNat : Nat) : Int))).heap.size (some ⟨g, 0, none⟩) ((Pg.made k l).set j ((Pg.made k l)[j] ^^^ b)) :=
        Rd.of_has T3.out (by rw [List.drop_zero, ← bytCells_len, List.take_length]) (by rw [hl2]; omega)
      have B3 : Hid (Below W.heap.size W (w2.setCell ⟨g, j, none⟩ (.int .u8 (((Pg.made k l)[j].toNat ^^^ b.toNat : Nat) : Int)))) := Lib.hid (B2.out.setCell hgW _)
      refine (decode_ok _ k (by omega) (some ⟨g, 0, none⟩) _ 512 hl2 hr).mono ?_
      rintro e w4 hd
      rcases hd with ⟨hd, _⟩ | ⟨_, rfl, hb4⟩
      · rw [HT.out] at hd; cases hd
      · have B4 : Hid (Below W.heap.size W w4) := Lib.hid (B3.out.trans (hb4.mono B3.out.size))
        clear hb4 hsz hl2 hr t1 t2 hfz
        go_wp2_with fail
        go_ret
        exact ⟨rfl, B4.out⟩
  · refine (encode_bad w1 n A l.length c hm (by omega)).mono ?_
    rintro e w2 ⟨rfl, rfl⟩
    clear hok
    go_wp2_with fail
    go_ret
    exact ⟨rfl, B1.out⟩

set_option maxRecDepth 100000 in
theorem lifted (os : Os) (started : os.Started) (H : Type) (enc : TypeId × Value → H) :
    ReturnsInHanded {} Try.checked os 7 .any (Rows.pageByteSpec.pre6 enc Try.prog Try.f7 Rows.pageByteRow.domain false) (Rows.pageByteSpec.post enc Try.prog Try.f7 false true false false) := by
  refine returnsInHanded_of_change_sized (C := Try.checked) own started (by kernel_rfl) Try.func7
    (ChangeSpec.witness6 (enc := enc) (C := Try.checked) false ⟨#[], #[.int .i64 0, .slice none 0 0, .int .i64 0, .int .u8 0], []⟩ 8 (by kernel_rfl) (by kernel_rfl) (by kernel_rfl) (by kernel_rfl)) ?_
  intro W base args ds gs before hval0 hW _ hsz _
  have hval : ∀ (j : Nat) t v, Try.f7.params[j]? = some t → args[j]? = some v → Value.okWide Try.prog W .any base t v := hval0
  have hW' := hW
  have hltW := hW.lt
  obtain ⟨p, q, hA0, hV, rfl, hfz, hnd⟩ := hW
  have hA : DataW.TrodAll enc Try.prog W 0 (fun _ => true) true Try.f7.params.toList args.toList ds p := hA0
  rw [Try.params7] at hA hval
  obtain ⟨v0, vs0, d0, ds0, p0, q0, hargs0, rfl, rfl, h0, r0⟩ := trodAll_cons hA
  obtain ⟨v1, vs1, d1, ds1, p1, q1, hargs1, rfl, rfl, h1, r1⟩ := trodAll_cons r0
  obtain ⟨v2, vs2, d2, ds2, p2, q2, hargs2, rfl, rfl, h2, r2⟩ := trodAll_cons r1
  obtain ⟨v3, vs3, d3, ds3, p3, q3, hargs3, rfl, rfl, h3, r3⟩ := trodAll_cons r2
  obtain ⟨rfl, rfl, rfl⟩ := trodAll_nil r3
  obtain rfl : args = #[v0, v1, v2, v3] := by cases args; simp_all
  obtain ⟨rfl, rfl⟩ := trodVars_none hV
  have hrb := reachBytes_lt
  obtain ⟨n0, rfl, rfl, rfl, w0⟩ := open_int Try.underlying3 (hval 0 3 v0 rfl rfl) h0
  have b0 : -9223372036854775808 ≤ n0 ∧ n0 ≤ 9223372036854775807 := by simpa [Lit.wf, IntKind.min, IntKind.max, IntKind.signed, IntKind.bits] using w0
  obtain ⟨A1, l1, k1, rfl, R1⟩ := bytes_open (hval 1 25 v1 rfl rfl) h1 (fun elems spare hd => by
    subst hd
    have : (elems.length + spare.length) * Try.prog.bytesOf 5 ≤ reachBytes := sized_slice hsz (j := 1) (t := 25) rfl rfl und_bytes
    rw [show Try.prog.bytesOf 5 = 1 by kernel_rfl] at this
    omega)
  obtain ⟨n2, rfl, rfl, rfl, w2⟩ := open_int Try.underlying3 (hval 2 3 v2 rfl rfl) h2
  have b2 : -9223372036854775808 ≤ n2 ∧ n2 ≤ 9223372036854775807 := by simpa [Lit.wf, IntKind.min, IntKind.max, IntKind.signed, IntKind.bits] using w2
  obtain ⟨n3, rfl, rfl, rfl, w3⟩ := open_int Try.underlying5 (hval 3 5 v3 rfl rfl) h3
  obtain ⟨c3, rfl⟩ := byte_of w3
  clear hA0 hval0
  refine (walk W n0 b0 A1 l1 k1 R1 n2 b2 c3).mono fun e W' ⟨he, hnx⟩ => ?_
  subst he
  refine ⟨_, rfl, _, _, _, [], [] ++ (p1 ++ ([] ++ ([] ++ ([])))), [], hW', ?_, ?_, rfl, hnx.frame _, fun h => by cases h⟩
  · exact trodAll_cons_mk (shut_bool Try.underlying4 _) trodAll_mk0
  · exact (trodAll_cons_mk (shut_int Try.underlying3 w0) (trodAll_cons_mk (Below.trod laidOut (by kernel_rfl) (of_decide_eq_true (by kernel_rfl)) h1 hnx (fun x hx => hltW x (by simp [hx]))) (trodAll_cons_mk (shut_int Try.underlying3 w2) (trodAll_cons_mk (shut_int Try.underlying5 w3) trodAll_mk0))))

theorem proved : Rows.PageByteSaid :=
  OpenClaim.holds_of_wide 7 Try.f7 rfl rfl rfl rfl rfl rfl rfl ⟨rfl, rfl, rfl, rfl, rfl⟩ rfl rfl rfl rfl rfl (by kernel_rfl) Try.func7 (by kernel_rfl)
    (of_decide_eq_true (by kernel_rfl)) (by unfold Func.isWrapper; first | (rw [if_pos (by decide +kernel)]; kernel_rfl) | (rw [if_neg (by decide +kernel)]; exact ⟨rfl, rfl⟩))
    (fun os started H enc _ => lifted os started H enc)

end Go.Proofs.Ytnghpklegomaeaa.pbyte

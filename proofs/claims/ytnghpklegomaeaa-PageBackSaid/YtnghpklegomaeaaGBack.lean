/-
  PageBack, at every input: a page that is made is read as it was, and a page that is read is made again. Nothing is assumed of the input beyond the form's own reach.
-/
import Derived.Test.YtnghpklegomaeaaGArgs
import Derived.ProofKit
namespace Go.Proofs.Ytnghpklegomaeaa.pback
open Go.ChangeShapes Go.WideShapes Go.ChangeAt Go.RowKit

theorem own : ownKnob Try.prog.godebug = none := by kernel_rfl
theorem laidOut : laidOutB Try.prog = true := by kernel_rfl

def Yes (W : World) (e : Ending) (w' : World) : Prop := e = .returned (.bool true) ∧ Below W.heap.size W w'

theorem decode_at (w : World) (n : Nat) (hn : n ≤ 16383) (A : Option Addr) (l : List UInt8) (c : Nat) (hl : l.length = 512) (h : Rd w w.heap.size A l) :
    Calls Try.prog 13 #[.int .i64 n, .slice A l.length c] w (Reads w n l) := by
  have := decode_ok w n hn A l c hl h
  rw [hl]
  exact this

set_option maxHeartbeats 1600000 in
set_option maxRecDepth 100000 in
theorem walk (W : World) (n : Int) (_ : -9223372036854775808 ≤ n ∧ n ≤ 9223372036854775807) (A : Option Addr) (l : List UInt8) (c : Nat) (h : Rd W W.heap.size A l) (P : Option Addr) (p : List UInt8) (d : Nat) (hp : Rd W W.heap.size P p) :
    Calls Try.prog 6 #[.int .i64 n, .slice A l.length c, .slice P p.length d] W (Yes W) := by
  have H := Lib.hid h
  have HP := Lib.hid hp
  have hm := h.1
  have hmp := hp.1
  clear h hp
  go_enter Try.func6, Try.ntmps6
  go_wp2_with fail
  refine (works_any _).mono ?_
  rintro e w1 ⟨rfl, hb1⟩
  have B1 := Lib.hid hb1
  have R1 : Hid (Rd w1 w1.heap.size A l) := Lib.hid ((H.out.below hb1).more hb1.size)
  have P1 : Hid (Rd w1 w1.heap.size P p) := Lib.hid ((HP.out.below hb1).more hb1.size)
  clear hb1
  go_wp2_with fail
  by_cases hok : (0 ≤ n ∧ n ≤ 16383) ∧ l.length ≤ 502
  · obtain ⟨⟨h0, h1⟩, h2⟩ := hok
    obtain ⟨k, rfl⟩ := Int.eq_ofNat_of_zero_le h0
    have henc := encode_ok w1 k (by omega) A l c h2 R1.out
    refine henc.mono ?_
    rintro e w2 hg
    have hml := Pg.made_length k l h2
    obtain ⟨g, rfl, hg2, hr2, hge, hb2⟩ := hg.rd (by rw [hml]; omega)
    have B2 : Hid (Below W.heap.size W w2) := Lib.hid (B1.out.trans (hb2.mono B1.out.size))
    have A2 : Hid (Rd w2 w2.heap.size A l) := Lib.hid ((R1.out.below hb2).more hb2.size)
    have P2 : Hid (Rd w2 w2.heap.size P p) := Lib.hid ((P1.out.below hb2).more hb2.size)
    rw [hml]
    have hd := decode_ok w2 k (by omega) (some ⟨g, 0, none⟩) _ 512 hml hr2
    have HD := Lib.hid hd
    clear hg hr2 hb2 hml henc hg2 hd
    go_wp2_with fail
    refine HD.out.mono ?_
    rintro e w3 hd
    have hsm := Pg.sound_made k l h2
    rcases hd with ⟨_, hd⟩ | ⟨hd, _⟩
    · rw [Pg.payload_made k l h2] at hd
      obtain ⟨g3, rfl, _, hr3, hge3, hb3⟩ := hd.rd hm
      have B3 : Hid (Below W.heap.size W w3) := Lib.hid (B2.out.trans (hb3.mono B2.out.size))
      have A3 : Rd w3 w3.heap.size A l := (A2.out.below hb3).more hb3.size
      have P3 : Hid (Rd w3 w3.heap.size P p) := Lib.hid ((P2.out.below hb3).more hb3.size)
      have hc1 := conv_rd w3 _ _ _ l.length hr3
      have hc2 := conv_rd w3 _ _ _ c A3
      unfold bstr at hc1 hc2
      clear hd hr3 hb3 A3 hsm HD
      go_wp2_with fail
      by_cases hp512 : p.length = 512
      · have hpr : Rd w3 w3.heap.size P p := P3.out
        refine (decode_at w3 k (by omega) P p d hp512 hpr).mono ?_
        rintro e w5 hd
        have HP5 := Lib.hid hp512
        clear hpr
        rcases hd with ⟨hs, hd⟩ | ⟨hs, rfl, hb5⟩
        · obtain ⟨hs1, hs2⟩ := Pg.sound_iff.1 hs
          have hpl := Pg.payload_length p HP5.out hs1
          have hple : (Pg.payload p).length ≤ 502 := by omega
          obtain ⟨g5, rfl, _, hr5, hge5, hb5⟩ := hd.rd (by omega)
          have B5 : Hid (Below W.heap.size W w5) := Lib.hid (B3.out.trans (hb5.mono B3.out.size))
          have P5 : Hid (Rd w5 w5.heap.size P p) := Lib.hid ((P3.out.below hb5).more hb5.size)
          have henc5 := encode_ok w5 k (by omega) _ _ (Pg.payload p).length hple hr5
          rw [← hs2] at henc5
          have HE5 := Lib.hid henc5
          clear henc5 hs2 hs hs1 hpl hd hr5 hb5 hp512
          generalize (Pg.payload p).length = m5 at *
          go_wp2_with fail
          refine HE5.out.mono ?_
          rintro e w6 hg6
          obtain ⟨g6, rfl, _, hr6, hge6, hb6⟩ := hg6.rd hmp
          have B6 : Hid (Below W.heap.size W w6) := Lib.hid (B5.out.trans (hb6.mono B5.out.size))
          have P6 : Rd w6 w6.heap.size P p := (P5.out.below hb6).more hb6.size
          have hc5 := conv_rd w6 _ _ _ p.length hr6
          have hc6 := conv_rd w6 _ _ _ d P6
          unfold bstr at hc5 hc6
          clear hg6 hr6 hb6 P6 HE5
          go_wp2_with fail
          go_ret
          exact ⟨rfl, B6.out⟩
        · have B5 : Hid (Below W.heap.size W w5) := Lib.hid (B3.out.trans (hb5.mono B3.out.size))
          clear hs hb5 hp512
          go_wp2_with fail
          go_ret
          exact ⟨rfl, B5.out⟩
      · have hno : p.length ≠ 512 := hp512
        clear hp512
        refine (decode_bad w3 (k : Int) P p.length d (by omega)).mono ?_
        rintro e w9 ⟨rfl, rfl⟩
        clear hno
        go_wp2_with fail
        go_ret
        exact ⟨rfl, B3.out⟩
    · rw [hsm] at hd; cases hd
  · refine (encode_bad w1 n A l.length c hm (by omega)).mono ?_
    rintro e w2 ⟨rfl, rfl⟩
    clear hok
    go_wp2_with fail
    by_cases hnv : (0 ≤ n ∧ n ≤ 16383) ∧ p.length = 512
    · obtain ⟨⟨h0, h1⟩, hp512⟩ := hnv
      obtain ⟨k, rfl⟩ := Int.eq_ofNat_of_zero_le h0
      have hpr : Rd w1 w1.heap.size P p := P1.out
      refine (decode_at w1 k (by omega) P p d hp512 hpr).mono ?_
      rintro e w5 hd
      have HP5 := Lib.hid hp512
      clear hpr
      rcases hd with ⟨hs, hd⟩ | ⟨hs, rfl, hb5⟩
      · obtain ⟨hs1, hs2⟩ := Pg.sound_iff.1 hs
        have hpl := Pg.payload_length p HP5.out hs1
        have hple : (Pg.payload p).length ≤ 502 := by omega
        obtain ⟨g5, rfl, _, hr5, hge5, hb5⟩ := hd.rd (by omega)
        have B5 : Hid (Below W.heap.size W w5) := Lib.hid (B1.out.trans (hb5.mono B1.out.size))
        have P5 : Hid (Rd w5 w5.heap.size P p) := Lib.hid ((P1.out.below hb5).more hb5.size)
        have henc5 := encode_ok w5 k (by omega) _ _ (Pg.payload p).length hple hr5
        rw [← hs2] at henc5
        have HE5 := Lib.hid henc5
        clear henc5 hs2 hs hs1 hpl hd hr5 hb5 hp512
        generalize (Pg.payload p).length = m5 at *
        go_wp2_with fail
        refine HE5.out.mono ?_
        rintro e w6 hg6
        obtain ⟨g6, rfl, _, hr6, hge6, hb6⟩ := hg6.rd hmp
        have B6 : Hid (Below W.heap.size W w6) := Lib.hid (B5.out.trans (hb6.mono B5.out.size))
        have P6 : Rd w6 w6.heap.size P p := (P5.out.below hb6).more hb6.size
        have hc5 := conv_rd w6 _ _ _ p.length hr6
        have hc6 := conv_rd w6 _ _ _ d P6
        unfold bstr at hc5 hc6
        clear hg6 hr6 hb6 P6 HE5
        go_wp2_with fail
        go_ret
        exact ⟨rfl, B6.out⟩
      · have B5 : Hid (Below W.heap.size W w5) := Lib.hid (B1.out.trans (hb5.mono B1.out.size))
        clear hs hb5 hp512
        go_wp2_with fail
        go_ret
        exact ⟨rfl, B5.out⟩
    · have hno := hnv
      clear hnv
      refine (decode_bad w1 n P p.length d (by omega)).mono ?_
      rintro e w9 ⟨rfl, rfl⟩
      clear hno
      go_wp2_with fail
      go_ret
      exact ⟨rfl, B1.out⟩

set_option maxRecDepth 100000 in
theorem lifted (os : Os) (started : os.Started) (H : Type) (enc : TypeId × Value → H) :
    ReturnsInHanded {} Try.checked os 6 .any (Rows.pageBackSpec.pre6 enc Try.prog Try.f6 Rows.pageBackRow.domain false) (Rows.pageBackSpec.post enc Try.prog Try.f6 false true false false) := by
  refine returnsInHanded_of_change_sized (C := Try.checked) own started (by kernel_rfl) Try.func6
    (ChangeSpec.witness6 (enc := enc) (C := Try.checked) false ⟨#[], #[.int .i64 0, .slice none 0 0, .slice none 0 0], []⟩ 8 (by kernel_rfl) (by kernel_rfl) (by kernel_rfl) (by kernel_rfl)) ?_
  intro W base args ds gs before hval0 hW _ hsz _
  have hval : ∀ (j : Nat) t v, Try.f6.params[j]? = some t → args[j]? = some v → Value.okWide Try.prog W .any base t v := hval0
  have hW' := hW
  have hltW := hW.lt
  obtain ⟨p, q, hA0, hV, rfl, hfz, hnd⟩ := hW
  have hA : DataW.TrodAll enc Try.prog W 0 (fun _ => true) true Try.f6.params.toList args.toList ds p := hA0
  rw [Try.params6] at hA hval
  obtain ⟨v0, vs0, d0, ds0, p0, q0, hargs0, rfl, rfl, h0, r0⟩ := trodAll_cons hA
  obtain ⟨v1, vs1, d1, ds1, p1, q1, hargs1, rfl, rfl, h1, r1⟩ := trodAll_cons r0
  obtain ⟨v2, vs2, d2, ds2, p2, q2, hargs2, rfl, rfl, h2, r2⟩ := trodAll_cons r1
  obtain ⟨rfl, rfl, rfl⟩ := trodAll_nil r2
  obtain rfl : args = #[v0, v1, v2] := by cases args; simp_all
  obtain ⟨rfl, rfl⟩ := trodVars_none hV
  have hrb := reachBytes_lt
  obtain ⟨n0, rfl, rfl, rfl, w0⟩ := open_int Try.underlying3 (hval 0 3 v0 rfl rfl) h0
  have b0 : -9223372036854775808 ≤ n0 ∧ n0 ≤ 9223372036854775807 := by simpa [Lit.wf, IntKind.min, IntKind.max, IntKind.signed, IntKind.bits] using w0
  obtain ⟨A1, l1, k1, rfl, R1⟩ := bytes_open (hval 1 25 v1 rfl rfl) h1 (fun elems spare hd => by
    subst hd
    have : (elems.length + spare.length) * Try.prog.bytesOf 5 ≤ reachBytes := sized_slice hsz (j := 1) (t := 25) rfl rfl und_bytes
    rw [show Try.prog.bytesOf 5 = 1 by kernel_rfl] at this
    omega)
  obtain ⟨A2, l2, k2, rfl, R2⟩ := bytes_open (hval 2 25 v2 rfl rfl) h2 (fun elems spare hd => by
    subst hd
    have : (elems.length + spare.length) * Try.prog.bytesOf 5 ≤ reachBytes := sized_slice hsz (j := 2) (t := 25) rfl rfl und_bytes
    rw [show Try.prog.bytesOf 5 = 1 by kernel_rfl] at this
    omega)
  clear hA0 hval0
  refine (walk W n0 b0 A1 l1 k1 R1 A2 l2 k2 R2).mono fun e W' ⟨he, hnx⟩ => ?_
  subst he
  refine ⟨_, rfl, _, _, _, [], [] ++ (p1 ++ (p2 ++ ([]))), [], hW', ?_, ?_, rfl, hnx.frame _, fun h => by cases h⟩
  · exact trodAll_cons_mk (shut_bool Try.underlying4 _) trodAll_mk0
  · exact (trodAll_cons_mk (shut_int Try.underlying3 w0) (trodAll_cons_mk (Below.trod laidOut (by kernel_rfl) (of_decide_eq_true (by kernel_rfl)) h1 hnx (fun x hx => hltW x (by simp [hx]))) (trodAll_cons_mk (Below.trod laidOut (by kernel_rfl) (of_decide_eq_true (by kernel_rfl)) h2 hnx (fun x hx => hltW x (by simp [hx]))) trodAll_mk0)))

theorem proved : Rows.PageBackSaid :=
  OpenClaim.holds_of_wide 6 Try.f6 rfl rfl rfl rfl rfl rfl rfl ⟨rfl, rfl, rfl, rfl, rfl⟩ rfl rfl rfl rfl rfl (by kernel_rfl) Try.func6 (by kernel_rfl)
    (of_decide_eq_true (by kernel_rfl)) (by unfold Func.isWrapper; first | (rw [if_pos (by decide +kernel)]; kernel_rfl) | (rw [if_neg (by decide +kernel)]; exact ⟨rfl, rfl⟩))
    (fun os started H enc _ => lifted os started H enc)

end Go.Proofs.Ytnghpklegomaeaa.pback

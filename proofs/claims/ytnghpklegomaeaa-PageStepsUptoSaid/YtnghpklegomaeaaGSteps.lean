/-
  PageSteps, where the arguments are together of bulk at most 1048576: a byte that is another one is told by the sum, whatever follows. (Without that bound the bytes and the end, laid behind one another, could pass what a slice may take.)
-/
import Derived.Test.YtnghpklegomaeaaGApp
import Derived.Test.YtnghpklegomaeaaGBulk
import Derived.ProofKit
import Derived.JoinedCond
namespace Go.Proofs.Ytnghpklegomaeaa.psteps
open Go.ChangeShapes Go.WideShapes Go.ChangeAt Go.RowKit

theorem own : ownKnob Try.prog.godebug = none := by kernel_rfl
theorem laidOut : laidOutB Try.prog = true := by kernel_rfl

def Yes (W : World) (e : Ending) (w' : World) : Prop := e = .returned (.bool true) ∧ Below W.heap.size W w'

set_option maxHeartbeats 1600000 in
set_option maxRecDepth 100000 in
theorem walk (W : World) (A : Option Addr) (l : List UInt8) (c : Nat) (h : Rd W W.heap.size A l) (at_ : Int) (_ : -9223372036854775808 ≤ at_ ∧ at_ ≤ 9223372036854775807) (b : UInt8) (P : Option Addr) (p : List UInt8) (d : Nat) (hp : Rd W W.heap.size P p) (hl1 : l.length ≤ 1048576) (hp1 : p.length ≤ 1048576) (hA : A = none → c = 0) (hP : P = none → d = 0) :
    Calls Try.prog 9 #[.slice A l.length c, .int .i64 at_, .int .u8 (b.toNat : Int), .slice P p.length d] W (Yes W) := by
  have H := Lib.hid h
  have HP := Lib.hid hp
  have hm := h.1
  have hmp := hp.1
  clear h hp
  go_enter Try.func9, Try.ntmps9
  go_wp2_with fail
  refine (works_any _).mono ?_
  rintro e w1 ⟨rfl, hb1⟩
  have B1 := Lib.hid hb1
  clear hb1
  by_cases h0 : l = []
  · subst h0
    clear hA hP
    go_wp2_with fail
    go_ret
    exact ⟨rfl, B1.out⟩
  by_cases hb0 : b.toNat = 0
  · have hz : ((b.toNat : Int) == 0) = true := by rw [beq_iff_eq]; omega
    have hlz : 0 < l.length := List.length_pos_iff.2 h0
    have hl0 : ((l.length : Int) == 0) = false := by rw [beq_eq_false_iff_ne]; omega
    clear hb0 hA hP h0
    go_wp2_with fail
    go_ret
    exact ⟨rfl, B1.out⟩
  have hz : ((b.toNat : Int) == 0) = false := by rw [beq_eq_false_iff_ne]; omega
  have hlz : 0 < l.length := List.length_pos_iff.2 h0
  have hl0 : ((l.length : Int) == 0) = false := by rw [beq_eq_false_iff_ne]; omega
  have HA := Lib.hid hA
  have HPn := Lib.hid hP
  have Hb0 := Lib.hid hb0
  clear hA hP hb0 h0
  obtain ⟨j, hj, hjl⟩ := place_of at_ l.length hlz hm
  have hjl' : (j : Int) < (l.length : Int) := by omega
  have hsize : ∀ (g : Nat) (u : Value) (w : World), (w.setCell ⟨g, j, none⟩ u).heap.size = w.heap.size := fun g u w => by simp
  have HSz := Lib.hid hsize
  clear hsize
  go_wp2_with (first
    | (refine wpList_append_rd rfl (.tmp 22) (.tmp 23) rfl W.heap.size w1.heap.size 0 0 l.length [] rfl rfl (Own.none_ w1 _ B1.out.size) W.heap.size A l c rfl (H.out.below (B1.out.alloc B1.out.size _)) HA.out (by simp) (by omega) (by have := B1.out.size; simp; omega) W (B1.out.alloc B1.out.size _) ?_; intro g2 c2 w2 O2 B2 F2; have O2' : Hid (Own w2 W.heap.size g2 c2 l) := O2; obtain ⟨t1, t0, t2, t3⟩ := O2'.out.turn j hjl b; have T3 := Lib.hid t3; have hg2 := O2'.out.base.1; have B3 : Hid (Below W.heap.size W (w2.setCell ⟨g2, j, none⟩ (.int .u8 ((l[j].toNat ^^^ b.toNat : Nat) : Int)))) := Lib.hid (B2.out.setCell hg2 _); clear t3 O2)
    | (refine wpList_append_rd rfl (.tmp 39) (.tmp 40) rfl W.heap.size w2.heap.size 0 0 l.length [] rfl rfl (Own.none_at (w2.setCell ⟨g2, j, none⟩ (.int .u8 ((l[j].toNat ^^^ b.toNat : Nat) : Int))) _ _ (by simp) B3.out.size) W.heap.size A l c rfl (H.out.below (B3.out.alloc B3.out.size _)) HA.out (by simp) (by omega) (by have := B3.out.size; simp at *; omega) W (B3.out.alloc B3.out.size _) ?_; intro g4 c4 w4 O4 B4 F4; have hlt2 := O2'.out.base.2; have T4 := Lib.hid ((T3.out.alloc _).fr F4.out.1 (by omega)); have hne4 : g4 ≠ g2 := by { have := F4.out.2; simp at this; omega })
    | (refine wpList_append_rd rfl (.tmp 41) (.tmp 42) rfl W.heap.size g4 c4 l.length (l.length + p.length) l rfl rfl O4.out W.heap.size P p d rfl (HP.out.below B4.out) HPn.out rfl (by omega) B4.out.size W B4.out ?_; intro g5 c5 w5 O5 B5 F5; have T5 := Lib.hid (T4.out.fr F5.out.1 (Ne.symm hne4)); have hne5 : g5 ≠ g2 := by { have h1 := F5.out.2; have h2 := T4.out.base.2; omega }))
  have hN5 : (l ++ p).length = l.length + p.length := List.length_append
  have hs5 := sum_any w5 _ (l ++ p) c5 (O5.out.rd (by omega))
  rw [hN5] at hs5
  refine hs5.mono ?_
  rintro e w6 ⟨rfl, hb6⟩
  have hlt5 := T5.out.base.2
  have T6 := Lib.hid (T5.out.below hb6 hlt5)
  have B6 : Hid (Below W.heap.size W w6) := Lib.hid (B5.out.trans (hb6.mono B5.out.size))
  have HN5 := Lib.hid hN5
  have hsl : (l.set j (l[j] ^^^ b)).length = l.length := List.length_set
  have HSL := Lib.hid hsl
  clear hN5 hs5 hb6 hsl t0 t1 t2
  generalize hSX : Pg.sum (l ++ p) = sx at *
  have HSX := Lib.hid hSX
  clear hSX
  go_wp2_with (first
    | (refine wpList_append_rd rfl (.tmp 45) (.tmp 46) rfl W.heap.size w6.heap.size 0 0 l.length [] rfl rfl (Own.none_ w6 _ B6.out.size) (w6.alloc (.cells #[] 5)).heap.size (some ⟨g2, 0, none⟩) (l.set j (l[j] ^^^ b)) c2 (by rw [HSL.out]; rfl) ((T6.out.alloc _).rd (by rw [HSL.out]; exact hm)) (fun e => by cases e) (by rw [HSL.out]; simp) (by omega) (by have := B6.out.size; simp; omega) W (B6.out.alloc B6.out.size _) ?_; intro g7 c7 w7 O7 B7 F7; have hlt6 := T6.out.base.2; have T7 := Lib.hid ((T6.out.alloc _).fr F7.out.1 (by omega)); have hne7 : g7 ≠ g2 := by { have := F7.out.2; simp at this; omega })
    | (refine wpList_append_rd rfl (.tmp 47) (.tmp 48) rfl W.heap.size g7 c7 l.length (l.length + p.length) (l.set j (l[j] ^^^ b)) HSL.out.symm rfl O7.out W.heap.size P p d rfl (HP.out.below B7.out) HPn.out (by rw [HSL.out]) (by omega) B7.out.size W B7.out ?_; intro g8 c8 w8 O8 B8 F8; have T8 := Lib.hid (T7.out.fr F8.out.1 (Ne.symm hne7))))
  have hturn := turn_ne (x := l[j]) Hb0.out
  have ht1 := Pg.sum_set l j hjl (l[j] ^^^ b) hturn p
  have ht2 := Pg.sum_set l j hjl (l[j] ^^^ b) hturn []
  rw [List.append_nil, List.append_nil] at ht2
  rw [HSX.out] at ht1
  have hN8 : (l.set j (l[j] ^^^ b) ++ p).length = l.length + p.length := by rw [List.length_append, HSL.out]
  have hs8 := sum_any w8 _ (l.set j (l[j] ^^^ b) ++ p) c8 (O8.out.rd (by omega))
  rw [hN8] at hs8
  refine hs8.mono ?_
  rintro e w9 ⟨rfl, hb9⟩
  have B9 : Hid (Below W.heap.size W w9) := Lib.hid (B8.out.trans (hb9.mono B8.out.size))
  have T9 := Lib.hid (T8.out.below hb9 T8.out.base.2)
  have hsA := sum_any w9 A l c ((H.out.below B9.out).more B9.out.size)
  have HSA := Lib.hid hsA
  have hsB : ∀ w, Own w W.heap.size g2 c2 (l.set j (l[j] ^^^ b)) → Calls Try.prog 11 #[.slice (some ⟨g2, 0, none⟩) l.length c2] w fun e w' => e = .returned (.int .u64 (Pg.sum (l.set j (l[j] ^^^ b)) : Int)) ∧ Below w.heap.size w w' := fun w hw => by
    have := sum_any w _ (l.set j (l[j] ^^^ b)) c2 (hw.rd (by rw [HSL.out]; exact hm))
    rw [HSL.out] at this
    exact this
  have HSB := Lib.hid hsB
  clear hN8 hs8 hb9 hsA hsB hturn
  generalize Pg.sum (l.set j (l[j] ^^^ b) ++ p) = sy at *
  generalize Pg.sum (l.set j (l[j] ^^^ b)) = sv at *
  generalize Pg.sum l = su at *
  have e1 : ((sx : Int) == (sy : Int)) = false := by rw [beq_eq_false_iff_ne]; omega
  have e2 : ((sx : Int) != (sy : Int)) = true := by rw [bne_iff_ne]; omega
  have e3 : ((su : Int) == (sv : Int)) = false := by rw [beq_eq_false_iff_ne]; omega
  have e4 : ((su : Int) != (sv : Int)) = true := by rw [bne_iff_ne]; omega
  clear ht1 ht2
  go_wp2_with fail
  refine HSA.out.mono ?_
  rintro e w10 ⟨rfl, hb10⟩
  have B10 : Hid (Below W.heap.size W w10) := Lib.hid (B9.out.trans (hb10.mono B9.out.size))
  have T10 := Lib.hid (T9.out.below hb10 T9.out.base.2)
  clear hb10
  go_wp2_with fail
  refine (HSB.out w10 T10.out).mono ?_
  rintro e w11 ⟨rfl, hb11⟩
  have B11 : Hid (Below W.heap.size W w11) := Lib.hid (B10.out.trans (hb11.mono B10.out.size))
  clear hb11
  go_wp2_with fail
  go_ret
  exact ⟨rfl, B11.out⟩

set_option maxRecDepth 100000 in
theorem lifted (os : Os) (started : os.Started) (H : Type) (enc : TypeId × Value → H) (F : Stop.Interp) :
    ReturnsInHanded {} Try.checked os 9 .any ((Rows.OpenSpec.upto Rows.pageStepsSpec).pre6 enc Try.prog Try.f9 Rows.pageStepsUptoRow.domain false) (((Rows.OpenSpec.upto Rows.pageStepsSpec).at F).post enc Try.prog Try.f9 false true false false) := by
  refine returnsInHanded_of_cond (C := Try.checked) (s := Rows.OpenSpec.upto Rows.pageStepsSpec) (k := Rows.uptoSmall) rfl own started (by kernel_rfl) Try.func9
    (OpenSpec.witness (enc := enc) (C := Try.checked) (s := Rows.OpenSpec.upto Rows.pageStepsSpec) (k := Rows.uptoSmall) rfl false ⟨#[], #[.slice none 0 0, .int .i64 0, .int .u8 0, .slice none 0 0], []⟩ 8 (by kernel_rfl) (by kernel_rfl) (by kernel_rfl)
      (x := ([.nil, .lit (.int .i64 0), .lit (.int .u8 0), .nil], [], [])) (by kernel_rfl) rfl (by kernel_rfl)) ?_
  intro W base args ds gs before hval0 hW _ hk _
  have hval : ∀ (j : Nat) t v, Try.f9.params[j]? = some t → args[j]? = some v → Value.okWide Try.prog W .any base t v := hval0
  have hW' := hW
  have hltW := hW.lt
  obtain ⟨p, q, hA0, hV, rfl, hfz, hnd⟩ := hW
  have hA : DataW.TrodAll enc Try.prog W 0 (fun _ => true) true Try.f9.params.toList args.toList ds p := hA0
  rw [Try.params9] at hA hval
  obtain ⟨v0, vs0, d0, ds0, p0, q0, hargs0, rfl, rfl, h0, r0⟩ := trodAll_cons hA
  obtain ⟨v1, vs1, d1, ds1, p1, q1, hargs1, rfl, rfl, h1, r1⟩ := trodAll_cons r0
  obtain ⟨v2, vs2, d2, ds2, p2, q2, hargs2, rfl, rfl, h2, r2⟩ := trodAll_cons r1
  obtain ⟨v3, vs3, d3, ds3, p3, q3, hargs3, rfl, rfl, h3, r3⟩ := trodAll_cons r2
  obtain ⟨rfl, rfl, rfl⟩ := trodAll_nil r3
  obtain rfl : args = #[v0, v1, v2, v3] := by cases args; simp_all
  obtain ⟨rfl, rfl⟩ := trodVars_none hV
  have hk2 := of_decide_eq_true hk
  simp only [List.append_nil, Rows.uptoBulkAll] at hk2
  obtain ⟨A0, l0, k0, rfl, R0, L0, N0⟩ := bytes_open_upto 1048576 (by omega) (hval 0 25 v0 rfl rfl) h0 (fun elems spare hd => by
    subst hd
    exact bulk_slice (elems := elems) (spare := spare) (by omega))
  obtain ⟨A3, l3, k3, rfl, R3, L3, N3⟩ := bytes_open_upto 1048576 (by omega) (hval 3 25 v3 rfl rfl) h3 (fun elems spare hd => by
    subst hd
    exact bulk_slice (elems := elems) (spare := spare) (by omega))
  obtain ⟨n1, rfl, rfl, rfl, w1⟩ := open_int Try.underlying3 (hval 1 3 v1 rfl rfl) h1
  have b1 : -9223372036854775808 ≤ n1 ∧ n1 ≤ 9223372036854775807 := by simpa [Lit.wf, IntKind.min, IntKind.max, IntKind.signed, IntKind.bits] using w1
  obtain ⟨n2, rfl, rfl, rfl, w2⟩ := open_int Try.underlying5 (hval 2 5 v2 rfl rfl) h2
  obtain ⟨c2, rfl⟩ := byte_of w2
  clear hA0 hval0
  simp only [List.append_nil, List.nil_append] at hW'
  refine (walk W A0 l0 k0 R0 n1 b1 c2 A3 l3 k3 R3 L0 L3 N0 N3).mono fun e W' ⟨he, hnx⟩ => ?_
  subst he
  refine ⟨_, rfl, _, _, _, [], p0 ++ ([] ++ ([] ++ (p3 ++ ([])))), [], hW', ?_, ?_, rfl, hnx.frame _, fun h => by cases h⟩
  · exact trodAll_cons_mk (shut_bool Try.underlying4 _) trodAll_mk0
  · exact (trodAll_cons_mk (Below.trod laidOut (by kernel_rfl) (of_decide_eq_true (by kernel_rfl)) h0 hnx (fun x hx => hltW x (by simp [hx]))) (trodAll_cons_mk (shut_int Try.underlying3 w1) (trodAll_cons_mk (shut_int Try.underlying5 w2) (trodAll_cons_mk (Below.trod laidOut (by kernel_rfl) (of_decide_eq_true (by kernel_rfl)) h3 hnx (fun x hx => hltW x (by simp [hx]))) trodAll_mk0))))

theorem proved : Rows.PageStepsUptoSaid :=
  OpenClaim.holds_of_cond 9 Try.f9 rfl rfl rfl rfl rfl rfl rfl ⟨rfl, rfl, rfl, rfl, rfl⟩ rfl rfl rfl rfl rfl (by kernel_rfl) Try.func9 (by kernel_rfl)
    (of_decide_eq_true (by kernel_rfl)) (by unfold Func.isWrapper; first | (rw [if_pos (by decide +kernel)]; kernel_rfl) | (rw [if_neg (by decide +kernel)]; exact ⟨rfl, rfl⟩))
    (fun os started H enc _ F => lifted os started H enc F)

end Go.Proofs.Ytnghpklegomaeaa.psteps

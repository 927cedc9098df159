/-
  KeyRecords, its walk: records are written, read and held against each other as the document says.
-/
import Derived.Test.YtfbdikaaeedeoaaDoorKRefD
import Derived.Test.YtfbdikaaeedeoaaDoorKRefE
import Derived.Test.YtfbdikaaeedeoaaDoorKSpoil
import Derived.Test.YtfbdikaaeedeoaaDoorKBackM
import Derived.Test.YtfbdikaaeedeoaaDoorKAwake
namespace Go.Proofs.YtfbdikaaeedeoaaDoor.krecords
open Go.RowKit Go.Maps
open Ky (Its)
set_option maxRecDepth 100000

/-- all that the law was given still stands -/
def Stay (w : World) (A1 A2 : Option Addr) (l m : Its) (W : World) : Prop :=
  Below w.heap.size w W ∧ SlAt W W.heap.size A1 l ∧ SlAt W W.heap.size A2 m ∧ Mx W.heap.size W
theorem Stay.on {w : World} {A1 A2 : Option Addr} {l m : Its} {W W' : World} (h : Stay w A1 A2 l m W) (hb : Below W.heap.size W W') : Stay w A1 A2 l m W' :=
  ⟨h.1.trans (hb.mono h.1.size), (h.2.1.below hb (Nat.le_refl _)).more hb.size, (h.2.2.1.below hb (Nat.le_refl _)).more hb.size, (h.2.2.2.below hb (Nat.le_refl _)).more hb.size⟩
theorem slat_given {w w' : World} {A : Option Addr} {t : Its} (h : SlX w' (fun k => w.heap.size ≤ k ∧ k < w'.heap.size) A t) : SlAt w' w'.heap.size A t := h.at_ fun _ hg => hg.2
theorem SlAt.on {w w' : World} {A : Option Addr} {t : Its} (h : SlAt w w.heap.size A t) (hb : Below w.heap.size w w') : SlAt w' w'.heap.size A t := (h.below hb (Nat.le_refl _)).more hb.size
theorem dec_small (s : List UInt8) : (Ky.decT s).weight ≤ 100000 := by
  rcases Ky.recD_cases s with ⟨_, h⟩ | ⟨_, _, _, _, h, _⟩
  · rw [h]; decide
  · exact h
theorem SlX.on {w w' : World} {X : Nat → Prop} {A : Option Addr} {t : Its} (h : SlX w X A t) (hX : ∀ g, X g → g < w.heap.size) (hb : Below w.heap.size w w') : SlX w' X A t := h.keep (fun _ h => h) fun g hg => hb.block g (hX g hg)
set_option maxHeartbeats 6400000 in
theorem walk (w : World) (A1 A2 : Option Addr) (c1 c2 : Nat) (l m : Its) (s : List UInt8) (hl : SlAt w w.heap.size A1 l) (hm : SlAt w w.heap.size A2 m) (fl : l.fits) (wl : l.weight ≤ 1048576) (wm : m.weight ≤ 1048576) (hs : s.length ≤ 1048576) (hx : Mx w.heap.size w) :
    Calls Tryd.prog 4 #[.slice A1 l.len c1, .slice A2 m.len c2, bstr s] w fun e w' => e = .returned (.bool true) ∧ Below w.heap.size w w' := by
  have HST : Hid (Stay w A1 A2 l m w) := Lib.hid ⟨Below.refl _ _, hl, hm, hx⟩
  have HA := Lib.hid (awake_any w hx)
  have hs' : (s.length : Int) ≤ 1048576 := by omega
  have HS1 := Lib.hid (small_deep (l.size + 1) l w A1 c1 _ 2000 0 (by omega) wl hl (by omega) (by omega) (by omega))
  have HS2 := Lib.hid (small_any (m.size + 1) m w A2 c2 _ 2000 0 (by omega) wm hm (by omega) (by omega) (by omega))
  rw [show ((0 : Nat) : Int) = 0 from rfl] at HS1 HS2
  have HMX := Lib.hid hx
  have FL := Lib.hid fl
  have WL := Lib.hid wl
  have WM := Lib.hid wm
  have HS := Lib.hid hs
  clear hl hm hx fl wl wm hs
  unfold bstr
  go_enter Tryd.func4, Tryd.ntmps4
  go_wp2_with fail
  refine HS1.out.mono ?_
  rintro e w' ⟨⟨n1, rfl, -, -, hdp⟩, rfl⟩
  by_cases hn1 : n1 < 0
  · go_wp2_with fail
    refine HA.out.mono ?_
    rintro e w1 ⟨rfl, hb⟩
    have HB := Lib.hid hb
    clear hb
    go_wp2_with fail
    go_ret
    exact ⟨rfl, HB.out⟩
  have HDP : Hid (Ky.Dp 0 l) := Lib.hid (hdp (by omega))
  clear hdp
  go_wp2_with fail
  refine HS2.out.mono ?_
  rintro e w' ⟨⟨n2, rfl, -, -⟩, rfl⟩
  by_cases hn2 : n2 < 0
  · go_wp2_with fail
    refine HA.out.mono ?_
    rintro e w1 ⟨rfl, hb⟩
    have HB := Lib.hid hb
    clear hb
    go_wp2_with fail
    go_ret
    exact ⟨rfl, HB.out⟩
  by_cases h3 : 110000 < s.length
  · have h3' : (110000 : Int) < (s.length : Int) := by omega
    clear h3
    go_wp2_with fail
    refine HA.out.mono ?_
    rintro e w1 ⟨rfl, hb⟩
    have HB := Lib.hid hb
    clear hb
    go_wp2_with fail
    go_ret
    exact ⟨rfl, HB.out⟩
  have h3' : ¬ ((110000 : Int) < (s.length : Int)) := by omega
  clear h3
  have HG := Lib.hid (given_any (l.size + 1) l w A1 c1 (by omega) WL.out HST.out.2.1)
  -- what is written
  go_wp2_with fail
  clear h3' hn1 hn2 HA HS1 HS2
  refine HG.out.mono ?_
  rintro e w1 ⟨⟨Aa, ca, rfl, ha⟩, hb⟩
  have H1 : Hid (Stay w A1 A2 l m w1) := Lib.hid (HST.out.on hb)
  have Ha1 := Lib.hid (slat_given ha)
  have HE := Lib.hid (encode_any w1 Aa ca l Ha1.out FL.out (by have := WL.out; omega))
  unfold EncPost bstr at HE
  clear ha hb HG HST
  go_wp2_with fail
  refine HE.out.mono ?_
  rintro e w2 ⟨rfl, hb⟩
  have H2 := Lib.hid (H1.out.on hb)
  have Ha2 := Lib.hid (SlAt.on Ha1.out hb)
  have HE2 := Lib.hid (rencode_any w2 A1 c1 l H2.out.2.1 FL.out WL.out)
  unfold EncPost bstr at HE2
  clear hb HE H1 Ha1
  go_wp2_with fail
  refine HE2.out.mono ?_
  rintro e w3 ⟨rfl, hb⟩
  have H3 := Lib.hid (H2.out.on hb)
  have Ha3 := Lib.hid (SlAt.on Ha2.out hb)
  have HI := Lib.hid (items_any (l.size + 1) l w3 Aa A1 ca c1 _ _ (by omega) WL.out Ha3.out H3.out.2.1)
  clear hb HE2 H2 Ha2
  go_wp2_with fail
  refine HI.out.mono ?_
  rintro e w4 ⟨rfl, n, rfl⟩
  have hb4 : Below w3.heap.size w3 (w3.drewN n) := below_drewN (Below.refl _ _) n
  have H4 := Lib.hid (H3.out.on hb4)
  have Ha4 := Lib.hid (SlAt.on Ha3.out hb4)
  clear hb4 HI H3 Ha3
  generalize w3.drewN n = w4 at *
  have HG := Lib.hid (given_any (m.size + 1) m w4 A2 c2 (by omega) WM.out H4.out.2.2.1)
  go_wp2_with fail
  refine HG.out.mono ?_
  rintro e w5 ⟨⟨Am, cm, rfl, hm5⟩, hb⟩
  have H5 := Lib.hid (H4.out.on hb)
  have Ha5 := Lib.hid (SlAt.on Ha4.out hb)
  have HSA := Lib.hid (same_any w5 l m Aa Am ca cm (by have := WL.out; omega) (by have := WM.out; omega) Ha5.out (slat_given hm5))
  rw [Ky.same_deep l m HDP.out] at HSA
  clear hm5 hb HG H4 Ha4
  go_wp2_with fail
  refine HSA.out.mono ?_
  rintro e w6 ⟨rfl, hb⟩
  have H6 := Lib.hid (H5.out.on hb)
  have Ha6 := Lib.hid (SlAt.on Ha5.out hb)
  have HRS := Lib.hid (rsame_any (l.size + 1) l m w6 A1 A2 c1 c2 _ _ (by omega) WL.out WM.out H6.out.2.1 H6.out.2.2.1)
  clear hb HSA H5 Ha5
  go_wp2_with fail
  refine HRS.out.mono ?_
  rintro e w7 ⟨rfl, n, rfl⟩
  have hb7 : Below w6.heap.size w6 (w6.drewN n) := below_drewN (Below.refl _ _) n
  have H7 := Lib.hid (H6.out.on hb7)
  have Ha7 := Lib.hid (SlAt.on Ha6.out hb7)
  clear hb7 HRS H6 Ha6
  generalize w6.drewN n = w7 at *
  have HSS := Lib.hid (same_any w7 l l Aa Aa ca ca (by have := WL.out; omega) (by have := WL.out; omega) Ha7.out Ha7.out)
  rw [Ky.same_deep l l HDP.out, Ky.eqI_self] at HSS
  generalize Ky.eqI l m = same at *
  go_wp2_with fail
  refine HSS.out.mono ?_
  rintro e w8 ⟨rfl, hb⟩
  have H8 := Lib.hid (H7.out.on hb)
  clear hb HSS H7 Ha7
  -- what is read
  have HD := Lib.hid (decode_any w8 s (by have := HS.out; omega))
  unfold bstr at HD
  go_wp2_with fail
  refine HD.out.mono ?_
  rintro e w9 ⟨⟨Ax, cx, rfl, hx9⟩, hb⟩
  have H9 := Lib.hid (H8.out.on hb)
  have HX9 := Lib.hid hx9
  have HZ9 : Hid (w8.heap.size ≤ w9.heap.size) := Lib.hid hb.size
  have HW8 : Hid (w.heap.size ≤ w8.heap.size) := Lib.hid H8.out.1.size
  have HRD := Lib.hid (rdecode_any w9 s (by have := HS.out; omega))
  unfold bstr at HRD
  clear hx9 hb HD H8
  go_wp2_with fail
  refine HRD.out.mono ?_
  rintro e w10 ⟨⟨Ay, cy, rfl, hy10⟩, hb⟩
  have H10 := Lib.hid (H9.out.on hb)
  have HX10 := Lib.hid (SlX.on HX9.out (fun g hg => hg.2) hb)
  have HY10 := Lib.hid hy10
  have HZ10 : Hid (w9.heap.size ≤ w10.heap.size) := Lib.hid hb.size
  have HD := Lib.hid (decode_any w10 s (by have := HS.out; omega))
  unfold bstr at HD
  clear hy10 hb HRD H9 HX9
  go_wp2_with fail
  refine HD.out.mono ?_
  rintro e w11 ⟨⟨Az, cz, rfl, hz11⟩, hb⟩
  have H11 := Lib.hid (H10.out.on hb)
  have HX11 := Lib.hid (SlX.on HX10.out (fun g hg => by have := hg.2; have := HZ10.out; omega) hb)
  have HY11 := Lib.hid (SlX.on HY10.out (fun g hg => hg.2) hb)
  have HQ11 := Lib.hid hz11
  have HZ11 : Hid (w10.heap.size ≤ w11.heap.size) := Lib.hid hb.size
  have HWD := Lib.hid (dec_small s)
  have HI := Lib.hid (items_any ((Ky.decT s).size + 1) (Ky.decT s) w11 Ax Ay cx cy w11.heap.size w11.heap.size (by omega) (by have := HWD.out; omega) (HX11.out.at_ fun g hg => by have := hg.2; have := HZ10.out; have := HZ11.out; omega) (HY11.out.at_ fun g hg => by have := hg.2; have := HZ11.out; omega))
  clear hz11 hb HD H10 HX10 HY10
  go_wp2_with fail
  refine HI.out.mono ?_
  rintro e w12 ⟨rfl, n, rfl⟩
  have hb12 : Below w11.heap.size w11 (w11.drewN n) := below_drewN (Below.refl _ _) n
  have H12 := Lib.hid (H11.out.on hb12)
  have HX12 := Lib.hid (SlX.on HX11.out (fun g hg => by have := hg.2; have := HZ10.out; have := HZ11.out; omega) hb12)
  have HY12 := Lib.hid (SlX.on HY11.out (fun g hg => by have := hg.2; have := HZ11.out; omega) hb12)
  have HQ12 := Lib.hid (SlX.on HQ11.out (fun g hg => hg.2) hb12)
  have HZ12 : Hid ((w11.drewN n).heap.size = w11.heap.size) := Lib.hid rfl
  clear hb12 HI H11 HX11 HY11 HQ11
  generalize w11.drewN n = w12 at *
  have HSP := Lib.hid (spoil_any _ ((Ky.decT s).size + 1) (Ky.decT s) w12 Ax cx (by omega) (by have := HWD.out; omega) (SlX.sp HX12.out))
  go_wp2_with fail
  refine HSP.out.mono ?_
  rintro e w13 ⟨rfl, hf, -⟩
  have HY13 := Lib.hid (HY12.out.keep (w' := w13) (fun _ h => h) fun g hg => hf.old g (by have := hg.2; have := HZ11.out; have := HZ12.out; omega) (fun hX => by have := hX.2; have := hg.1; omega))
  have HQ13 := Lib.hid (HQ12.out.keep (w' := w13) (fun _ h => h) fun g hg => hf.old g (by have := hg.2; have := HZ12.out; omega) (fun hX => by have := hX.2; have := hg.1; have := HZ10.out; omega))
  have HB13 : Hid (Below w.heap.size w12 w13) := Lib.hid (hf.below (by have := H12.out.1.size; omega) (fun g hX => by have := hX.1; have := HW8.out; omega))
  have HZ13 : Hid (w11.heap.size ≤ w13.heap.size) := Lib.hid (by have := hf.size; have := HZ12.out; omega)
  have HM13 : Hid (Below w.heap.size w w13) := Lib.hid (H12.out.1.trans HB13.out)
  have HI := Lib.hid (items_any ((Ky.decT s).size + 1) (Ky.decT s) w13 Az Ay cz cy w13.heap.size w13.heap.size (by omega) (by have := HWD.out; omega) (HQ13.out.at_ fun g hg => by have := hg.2; have := HZ13.out; omega) (HY13.out.at_ fun g hg => by have := hg.2; have := HZ11.out; have := HZ13.out; omega))
  clear hf HSP HX12 HY12 HQ12
  go_wp2_with fail
  refine HI.out.mono ?_
  rintro e w14 ⟨rfl, n, rfl⟩
  have HM14 : Hid (Below w.heap.size w (w13.drewN n)) := Lib.hid (below_drewN HM13.out n)
  have HA := Lib.hid (awake_any (w13.drewN n) (HMX.out.below HM14.out (Nat.le_refl _) |>.more HM14.out.size))
  go_wp2_with fail
  refine HA.out.mono ?_
  rintro e w15 ⟨rfl, hb⟩
  have HM15 := Lib.hid (HM14.out.trans (hb.mono HM14.out.size))
  clear hb
  go_wp2_with fail
  go_ret
  exact ⟨rfl, HM15.out⟩
end Go.Proofs.YtfbdikaaeedeoaaDoor.krecords

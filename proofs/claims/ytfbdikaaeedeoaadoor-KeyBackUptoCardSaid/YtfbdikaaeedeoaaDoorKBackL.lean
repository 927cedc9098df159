/-
  KeyBack, its walk: what is written is read back, and nothing else is read as it.
-/
import Derived.Test.YtfbdikaaeedeoaaDoorKBackM
import Derived.Test.YtfbdikaaeedeoaaDoorKPacksL
import Derived.Test.YtfbdikaaeedeoaaDoorKOrderL
import Derived.Deep.CutRange
namespace Go.Proofs.YtfbdikaaeedeoaaDoor.kback
open Go.RowKit Go.Maps
open Ky (Its)
open kpacks (uL uE unp_form Mine)
open korder (pack_cases)
set_option maxRecDepth 100000

/-- all that the law was given still stands -/
def Stay (w : World) (A0 A1 A2 : Option Addr) (l : List Ky.Part) (p q : Its) (W : World) : Prop :=
  Below w.heap.size w W ∧ RdP W W.heap.size A0 l ∧ SlAt W W.heap.size A1 p ∧ SlAt W W.heap.size A2 q ∧ Mx W.heap.size W
theorem Stay.on {w : World} {A0 A1 A2 : Option Addr} {l : List Ky.Part} {p q : Its} {W W' : World} (h : Stay w A0 A1 A2 l p q W) (hb : Below W.heap.size W W') : Stay w A0 A1 A2 l p q W' :=
  ⟨h.1.trans (hb.mono h.1.size), (h.2.1.below hb (Nat.le_refl _)).more hb.size, (h.2.2.1.below hb (Nat.le_refl _)).more hb.size, (h.2.2.2.1.below hb (Nat.le_refl _)).more hb.size, (h.2.2.2.2.below hb (Nat.le_refl _)).more hb.size⟩
theorem small_unp {s : List UInt8} {l : List Ky.Part} (h : Ky.unpacked s = some l) (hs : s.length ≤ 1048576) : Ky.bytes l = s ∧ Ky.Ok l ∧ Small l ∧ l.length ≤ 16 := by
  unfold Ky.unpacked at h
  cases hu : Ky.unpack s with
  | none => rw [hu] at h; cases h
  | some m =>
    rw [hu] at h
    simp only at h
    split at h
    · rename_i h16
      obtain rfl := Option.some.inj h
      obtain ⟨e1, e2⟩ := Ky.unpack_back _ s m (Nat.le_refl _) hu
      refine ⟨e1, e2, fun p hp => ⟨(e2 p hp).2, ?_⟩, h16⟩
      have h1 := Ky.bytes_part hp
      have h2 := Ky.say_bytes p (e2 p hp).1
      rw [e1] at h1
      omega
    · cases h
theorem unp_cases (s : List UInt8) (hs : s.length ≤ 1048576) : (uE s = 4) ∨ (uE s = 0 ∧ Ky.bytes (uL s) = s ∧ Ky.Ok (uL s) ∧ Small (uL s) ∧ (uL s).length ≤ 16) := by
  cases h : Ky.unpacked s with
  | none => left; unfold uE; rw [h]; rfl
  | some l =>
    right
    have e : uL s = l := by unfold uL; rw [h]; rfl
    rw [e]
    exact ⟨by unfold uE; rw [h]; rfl, small_unp h hs⟩
theorem pack_back {l : List Ky.Part} (ho : Ky.Ok l) (hl : l.length ≤ 16) : Ky.packE l = 0 ∧ Ky.packS l = Ky.bytes l := by
  have ha : l.all Ky.Part.ok = true := List.all_eq_true.2 fun p hp => (ho p hp).1
  exact ⟨(Ky.pack_ok (by omega) ha).2, (Ky.pack_ok (by omega) ha).1⟩
theorem unp_back {l : List Ky.Part} (ho : Ky.Ok l) (hl : l.length ≤ 16) : uL (Ky.bytes l) = l ∧ uE (Ky.bytes l) = 0 := by
  unfold uL uE
  rw [Ky.unpacked_bytes l ho hl]
  exact ⟨rfl, rfl⟩
/-- the program's items of what came in, encoded -/
theorem slat_given {w w' : World} {A : Option Addr} {t : Its} (h : SlX w' (fun k => w.heap.size ≤ k ∧ k < w'.heap.size) A t) : SlAt w' w'.heap.size A t := h.at_ fun _ hg => hg.2
theorem same_again (w : World) (a b : Its) (A A' : Option Addr) (c c' : Nat) (wa : a.weight ≤ 1048576) (wb : b.weight ≤ 1048576) (ha : SlAt w w.heap.size A a) (hb : SlAt w w.heap.size A' b) (ea : Ky.encE 1 a = 0) (eb : Ky.encE 1 b = 0) (fa : a.fits) (fb : b.fits) :
    Calls Tryd.prog 25 #[.slice A a.len c, .slice A' b.len c'] w fun e w' => e = .returned (.bool (Ky.encB a == Ky.encB b)) ∧ Below w.heap.size w w' := by
  rw [← Ky.same_bytes a b ea eb fa fb (by omega) (by omega)]
  exact same_any w a b A A' c c' (by omega) (by omega) ha hb
set_option maxHeartbeats 6400000 in
theorem walk (w : World) (A0 A1 A2 : Option Addr) (c0 c1 c2 : Nat) (l : List Ky.Part) (p q : Its) (s : List UInt8) (hl : RdP w w.heap.size A0 l) (hp : SlAt w w.heap.size A1 p) (hq : SlAt w w.heap.size A2 q) (sl : Small l) (fp : p.fits) (fq : q.fits) (ll : l.length ≤ 1048576) (wp : p.weight ≤ 1048576) (wq : q.weight ≤ 1048576) (hs : s.length ≤ 1048576) (hx : Mx w.heap.size w) :
    Calls Tryd.prog 7 #[.slice A0 l.length c0, .slice A1 p.len c1, .slice A2 q.len c2, bstr s] w fun e w' => e = .returned (.bool true) ∧ Below w.heap.size w w' := by
  have HST : Hid (Stay w A0 A1 A2 l p q w) := Lib.hid ⟨Below.refl _ _, hl, hp, hq, hx⟩
  have HA := Lib.hid (awake_any w hx)
  have ll' : (l.length : Int) ≤ 1048576 := by omega
  have hs' : (s.length : Int) ≤ 1048576 := by omega
  have HS1 := Lib.hid (small_any (p.size + 1) p w A1 c1 _ 2000 0 (by omega) wp hp (by omega) (by omega) (by omega))
  have HS2 := Lib.hid (small_any (q.size + 1) q w A2 c2 _ 2000 0 (by omega) wq hq (by omega) (by omega) (by omega))
  rw [show ((0 : Nat) : Int) = 0 from rfl] at HS1 HS2
  have SL := Lib.hid sl
  have FP := Lib.hid fp
  have FQ := Lib.hid fq
  have LL := Lib.hid ll
  have WP := Lib.hid wp
  have WQ := Lib.hid wq
  have HS := Lib.hid hs
  clear hl hp hq hx sl fp fq wp wq
  unfold bstr
  by_cases h1 : 100 < l.length
  · have h1' : (100 : Int) < (l.length : Int) := by omega
    clear h1 ll hs
    go_enter Tryd.func7, Tryd.ntmps7
    go_wp2_with fail
    refine HA.out.mono ?_
    rintro e w1 ⟨rfl, hb⟩
    have HB := Lib.hid hb
    clear hb
    go_wp2_with fail
    go_ret
    exact ⟨rfl, HB.out⟩
  have h1' : ¬ ((100 : Int) < (l.length : Int)) := by omega
  have HL100 : Hid (l.length ≤ 100) := Lib.hid (by omega)
  clear h1 ll
  go_enter Tryd.func7, Tryd.ntmps7
  go_wp2_with fail
  refine HS1.out.mono ?_
  rintro e w' ⟨⟨n1, rfl, -, -⟩, rfl⟩
  by_cases hn1 : n1 < 0
  · clear hs
    go_wp2_with fail
    refine HA.out.mono ?_
    rintro e w1 ⟨rfl, hb⟩
    have HB := Lib.hid hb
    clear hb
    go_wp2_with fail
    go_ret
    exact ⟨rfl, HB.out⟩
  go_wp2_with fail
  refine HS2.out.mono ?_
  rintro e w' ⟨⟨n2, rfl, -, -⟩, rfl⟩
  by_cases hn2 : n2 < 0
  · clear hs
    go_wp2_with fail
    refine HA.out.mono ?_
    rintro e w1 ⟨rfl, hb⟩
    have HB := Lib.hid hb
    clear hb
    go_wp2_with fail
    go_ret
    exact ⟨rfl, HB.out⟩
  by_cases h3 : 20000 < s.length
  · have h3' : (20000 : Int) < (s.length : Int) := by omega
    clear h3 hs
    go_wp2_with fail
    refine HA.out.mono ?_
    rintro e w1 ⟨rfl, hb⟩
    have HB := Lib.hid hb
    clear hb
    go_wp2_with fail
    go_ret
    exact ⟨rfl, HB.out⟩
  have h3' : ¬ ((20000 : Int) < (s.length : Int)) := by omega
  clear h3 hs hs'
  go_wp2_with fail
  refine HA.out.mono ?_
  rintro e w1 ⟨rfl, hb⟩
  have H1 : Hid (Stay w A0 A1 A2 l p q w1) := Lib.hid (HST.out.on hb)
  clear hb HST HA HS1 HS2
  have HT := Lib.hid (theirs_any w1 A0 c0 l H1.out.2.1 (by have := HL100.out; omega))
  -- a key's bytes are read as the key
  go_wp2_with fail
  clear h1' h3' hn1 hn2
  refine HT.out.mono ?_
  rintro e w2 ⟨⟨v, rfl, ho⟩, hb⟩
  have H2 : Hid (Stay w A0 A1 A2 l p q w2) := Lib.hid (H1.out.on hb)
  obtain ⟨Aa, ca, rfl, ra, -⟩ := ho.form
  have HP := Lib.hid (pack_any w2 Aa ca l ra SL.out H2.out.2.2.2.2 (by have := HL100.out; omega))
  clear ho hb ra HT H1
  go_wp2_with fail
  refine HP.out.mono ?_
  rintro e w3 ⟨rfl, hb⟩
  have H3 : Hid (Stay w A0 A1 A2 l p q w3) := Lib.hid (H2.out.on hb)
  clear hb HP H2
  unfold bstr
  go_upto_if 51 with fail
  go_cut [9, 10] from 21 (fun _ _ wc => Stay w A0 A1 A2 l p q wc)
  case first =>
    rcases pack_cases l SL.out with he | ⟨he, hps, hok, h16⟩
    · have he' : (Ky.packE l == 0) = false := by simpa using he
      clear he
      go_wp2_with fail
      go_meet
      exact H3.out
    · rw [he, hps]
      have HU := Lib.hid (unpack_any w3 (Ky.bytes l) (by have := bytes_small l SL.out; omega))
      have HUB := Lib.hid (unp_back hok h16)
      clear he hps hok
      unfold bstr at HU
      go_wp2_with fail
      refine HU.out.mono ?_
      rintro e w4 hq4
      obtain ⟨Ax, cx, rfl, rx, -, hb⟩ := unp_form hq4
      rw [HUB.out.1] at rx ⊢
      rw [HUB.out.2]
      have H4 : Hid (Stay w A0 A1 A2 l p q w4) := Lib.hid (H3.out.on hb)
      have HPP := Lib.hid (parts_any w4 Ax A0 cx c0 l l rx H4.out.2.1 (by omega) (by omega) rfl)
      clear hq4 rx hb
      go_wp2_with fail
      refine HPP.out.mono ?_
      rintro e w5 ⟨rfl, hb⟩
      have H5 : Hid (Stay w A0 A1 A2 l p q w5) := Lib.hid (H4.out.on hb)
      clear hb
      go_wp2_with fail
      go_meet
      exact H5.out
  case rest =>
  have H6 := Lib.hid hcut
  clear hcut H3
  have HSS : Hid (s.length ≤ 1048576) := HS
  -- bytes that are read as a key are the key's
  have HU := Lib.hid (unpack_any wc s (by have := HSS.out; omega))
  unfold bstr at HU
  go_wp2_with fail
  refine HU.out.mono ?_
  rintro e w7 hq7
  obtain ⟨Ax, cx, rfl, rx, -, hb⟩ := unp_form hq7
  have H7 : Hid (Stay w A0 A1 A2 l p q w7) := Lib.hid (H6.out.on hb)
  have RX := Lib.hid rx
  clear hq7 rx hb HU H6
  go_upto_if 71 with fail
  go_cut [9, 10, 13] from 21 (fun _ _ _ wc => Stay w A0 A1 A2 l p q wc)
  case first =>
    rcases unp_cases s HSS.out with he | ⟨he, hbs, hok, hsm, h16⟩
    · rw [he]
      clear he
      go_wp2_with fail
      go_meet
      exact H7.out
    · rw [he]
      have HP := Lib.hid (pack_any w7 Ax cx (uL s) RX.out hsm H7.out.2.2.2.2 (by omega))
      unfold PackPost at HP
      rw [(pack_back hok h16).1, (pack_back hok h16).2, hbs] at HP
      clear he hbs hok hsm
      unfold bstr at HP
      go_wp2_with fail
      refine HP.out.mono ?_
      rintro e w8 ⟨rfl, hb⟩
      have H8 : Hid (Stay w A0 A1 A2 l p q w8) := Lib.hid (H7.out.on hb)
      clear hb
      go_wp2_with fail
      go_meet
      exact H8.out
  case rest =>
  have H9 := Lib.hid hcut
  clear hcut H7 RX
  -- a record's bytes are read as the record
  rename World => wd
  have HG := Lib.hid (given_any (p.size + 1) p wd A1 c1 (by omega) WP.out H9.out.2.2.1)
  go_wp2_with fail
  refine HG.out.mono ?_
  rintro e w10 ⟨⟨Ag, cg, rfl, hg⟩, hb⟩
  have H10 : Hid (Stay w A0 A1 A2 l p q w10) := Lib.hid (H9.out.on hb)
  have HE := Lib.hid (encode_any w10 Ag cg p (slat_given hg) FP.out (by have := WP.out; omega))
  unfold EncPost bstr at HE
  clear hg hb HG H9
  go_wp2_with fail
  refine HE.out.mono ?_
  rintro e w11 ⟨rfl, hb⟩
  have H11 : Hid (Stay w A0 A1 A2 l p q w11) := Lib.hid (H10.out.on hb)
  clear hb HE H10
  go_upto_if 91 with fail
  go_cut [9, 10] from 21 (fun t e wc => t = .string ⟨(Ky.encodeS p).toArray⟩ ∧ e = .int .i64 (Ky.encodeE p) ∧ Stay w A0 A1 A2 l p q wc)
  case first =>
    rcases Ky.recE_cases p with he | ⟨he, hes, hen, hln⟩
    · have he' : (Ky.encodeE p == 0) = false := by simpa using he
      clear he
      go_wp2_with fail
      go_meet
      exact ⟨rfl, rfl, H11.out⟩
    · rw [he, hes]
      have HES := Lib.hid hes
      have HEE := Lib.hid he
      have HD := Lib.hid (decode_any w11 (Ky.encB p) (by omega))
      have HDT := Lib.hid (Ky.decT_enc p hen FP.out (by have := WP.out; omega) hln)
      clear he hes hen hln
      unfold bstr at HD
      go_wp2_with fail
      refine HD.out.mono ?_
      rintro e w12 hq12
      unfold DecPost at hq12
      rw [HDT.out.1, HDT.out.2] at hq12
      obtain ⟨⟨Ay, cy, rfl, hy⟩, hb⟩ := hq12
      have H12 : Hid (Stay w A0 A1 A2 l p q w12) := Lib.hid (H11.out.on hb)
      have HI := Lib.hid (items_any (p.size + 1) p w12 Ay A1 cy c1 _ _ (by omega) WP.out (slat_given hy) H12.out.2.2.1)
      clear hy hb
      go_wp2_with fail
      refine HI.out.mono ?_
      rintro e w13 ⟨rfl, n, rfl⟩
      have H13 : Hid (Stay w A0 A1 A2 l p q (w12.drewN n)) := Lib.hid (H12.out.on (below_drewN (Below.refl _ _) n))
      go_wp2_with fail
      go_meet
      exact ⟨by rw [HES.out], by rw [HEE.out], H13.out⟩
  case rest =>
  obtain ⟨rfl, rfl, hcut⟩ := hcut
  have H14 := Lib.hid hcut
  clear hcut H11
  rename World => we
  -- two records' bytes are the same where the records are
  have HG := Lib.hid (given_any (q.size + 1) q we A2 c2 (by omega) WQ.out H14.out.2.2.2.1)
  go_wp2_with fail
  refine HG.out.mono ?_
  rintro e w15 ⟨⟨Ag, cg, rfl, hg⟩, hb⟩
  have H15 : Hid (Stay w A0 A1 A2 l p q w15) := Lib.hid (H14.out.on hb)
  have HE := Lib.hid (encode_any w15 Ag cg q (slat_given hg) FQ.out (by have := WQ.out; omega))
  unfold EncPost bstr at HE
  clear hg hb HG H14
  go_wp2_with fail
  refine HE.out.mono ?_
  rintro e w16 ⟨rfl, hb⟩
  have H16 : Hid (Stay w A0 A1 A2 l p q w16) := Lib.hid (H15.out.on hb)
  clear hb HE H15
  go_upto_region 19 with fail
  go_cut [9, 10, 18, 19, 127] from 21 (fun _ _ _ _ b wc => b = .bool false ∧ Stay w A0 A1 A2 l p q wc)
  case first =>
    rcases Ky.recE_cases p with he | ⟨he, hes, hen, hln⟩
    · have he' : (Ky.encodeE p == 0) = false := by simpa using he
      clear he
      go_wp2_with fail
      go_meet
      exact ⟨rfl, H16.out⟩
    · rcases Ky.recE_cases q with ge | ⟨ge, ges, gen, gln⟩
      · have ge' : (Ky.encodeE q == 0) = false := by simpa using ge
        rw [he]
        clear he ge hes hen hln
        go_wp2_with fail
        go_meet
        exact ⟨rfl, H16.out⟩
      · rw [he, hes, ge, ges]
        have HEN := Lib.hid hen
        have GEN := Lib.hid gen
        clear he hes ge ges hen gen hln gln
        have HG1 := Lib.hid (given_any (p.size + 1) p w16 A1 c1 (by omega) WP.out H16.out.2.2.1)
        go_wp2_with fail
        refine HG1.out.mono ?_
        rintro e w17 ⟨⟨Ag1, cg1, rfl, hg1⟩, hb⟩
        have H17 : Hid (Stay w A0 A1 A2 l p q w17) := Lib.hid (H16.out.on hb)
        have HG2 := Lib.hid (given_any (q.size + 1) q w17 A2 c2 (by omega) WQ.out H17.out.2.2.2.1)
        have HSG := Lib.hid (slat_given hg1)
        clear hb hg1
        go_wp2_with fail
        refine HG2.out.mono ?_
        rintro e w18 ⟨⟨Ag2, cg2, rfl, hg2⟩, hb⟩
        have H18 : Hid (Stay w A0 A1 A2 l p q w18) := Lib.hid (H17.out.on hb)
        have HSA := Lib.hid (same_again w18 p q Ag1 Ag2 cg1 cg2 WP.out WQ.out ((HSG.out.below hb (Nat.le_refl _)).more hb.size) (slat_given hg2) HEN.out GEN.out FP.out FQ.out)
        clear hb hg2
        go_wp2_with fail
        refine HSA.out.mono ?_
        rintro e w19 ⟨rfl, hb⟩
        have H19 : Hid (Stay w A0 A1 A2 l p q w19) := Lib.hid (H18.out.on hb)
        clear hb
        go_wp2_with fail
        go_meet
        exact ⟨by simp, H19.out⟩
  case rest =>
  obtain ⟨rfl, hcut⟩ := hcut
  have H20 := Lib.hid hcut
  clear hcut H16
  rename World => wf
  -- bytes that are read as a record are the record's
  have HD := Lib.hid (decode_any wf s (by have := HSS.out; omega))
  unfold bstr at HD
  go_wp2_with fail
  refine HD.out.mono ?_
  rintro e w21 ⟨⟨Ay, cy, rfl, hy⟩, hb⟩
  have H21 : Hid (Stay w A0 A1 A2 l p q w21) := Lib.hid (H20.out.on hb)
  have HY := Lib.hid (slat_given hy)
  clear hy hb HD H20
  rcases Ky.recD_cases s with ⟨he, ht⟩ | ⟨he, hes, hen, hfi, hwe, hln⟩
  · rw [ht]
    have he' : (Ky.decE s != 0) = true := by simpa using he
    have hn : ((Its.nil.len : Nat) : Int) = 0 := rfl
    clear ht he
    go_wp2_with fail
    go_ret
    exact ⟨rfl, H21.out.1⟩
  · rw [he]
    have HE := Lib.hid (encode_any w21 Ay cy (Ky.decT s) HY.out hfi (by omega))
    unfold EncPost bstr at HE
    rw [(Ky.encode_ok hen (by rw [hes]; omega)).1, (Ky.encode_ok hen (by rw [hes]; omega)).2, hes] at HE
    clear he hes hen hfi hwe hln
    go_wp2_with fail
    refine HE.out.mono ?_
    rintro e w22 ⟨rfl, hb⟩
    have H22 : Hid (Stay w A0 A1 A2 l p q w22) := Lib.hid (H21.out.on hb)
    clear hb
    go_wp2_with fail
    go_ret
    exact ⟨by simp, H22.out.1⟩
end Go.Proofs.YtfbdikaaeedeoaaDoor.kback

/-
  Format.
-/
import Derived.Test.YthlmjnlakenmoaaPOver
import Derived.Test.YthlmjnlakenmoaaPLatest
namespace Go.Proofs.Ythlmjnlakenmoaa
open Go.RowKit Go.Maps
set_option maxRecDepth 100000

theorem format_nil (w : World) : Calls Try.prog 9 #[.pointer none] w fun e w' => e = .returned (.tuple #[.pointer none, .int .i64 2]) ∧ w = w' := by
  go_enter Try.func9, Try.ntmps9
  go_wp2_with fail
  refine (over_nil _).mono ?_
  rintro e w' ⟨rfl, rfl⟩
  go_wp2_with fail
  go_ret2
  exact ⟨rfl, rfl⟩
theorem format_dead (w : World) (db : Nat) (hd : w.cell? ⟨db, 4, none⟩ = some (.bool true)) : Calls Try.prog 9 #[.pointer (some ⟨db, 0, none⟩)] w fun e w' => e = .returned (.tuple #[.pointer none, .int .i64 20]) ∧ w = w' := by
  have hl := over_dead w db hd
  have HL := Lib.hid hl
  clear hl hd
  go_enter Try.func9, Try.ntmps9
  go_wp2_with fail
  refine HL.out.mono ?_
  rintro e w' ⟨rfl, rfl⟩
  go_wp2_with fail
  go_ret2
  exact ⟨rfl, rfl⟩
theorem format_short (w : World) (db n : Nat) (hn : n ≤ 11) (hd : w.cell? ⟨db, 4, none⟩ = some (.bool false)) (h0 : ∃ a cap, w.cell? ⟨db, 0, none⟩ = some (.slice a n cap)) :
    Calls Try.prog 9 #[.pointer (some ⟨db, 0, none⟩)] w fun e w' => e = .returned (.tuple #[.pointer none, .int .i64 1]) ∧ Below w.heap.size w w' := by
  have hl := over_short w db n hn hd h0
  have HL := Lib.hid hl
  clear hl hd h0
  go_enter Try.func9, Try.ntmps9
  go_wp2_with fail
  refine HL.out.mono ?_
  rintro e w' ⟨rfl, hb⟩
  have HB := Lib.hid hb
  clear hb
  go_wp2_with fail
  go_ret2
  exact ⟨rfl, HB.out⟩

/-- a meta is put into the page n -/
def Dk.St.putMeta (d : Dk.St) (n s r : Nat) : Dk.St := d.puts n (Pg.made n (Pr.metaBytes s r)) 4
/-- behind k metas of Format -/
def Dk.St.fmt (d : Dk.St) : Nat → Dk.St
  | 0 => d
  | 1 => d.putMeta 1 0 0
  | _ => if (d.putMeta 1 0 0).dead then d.putMeta 1 0 0 else (d.putMeta 1 0 0).putMeta 0 1 0
def Dk.St.format (d : Dk.St) : Dk.St := if (d.fmt 2).dead then d.fmt 2 else (d.fmt 2).flush
theorem fmt_len (d : Dk.St) (k : Nat) : (d.fmt k).lasts.length = d.lasts.length := by
  have h1 : (d.putMeta 1 0 0).lasts.length = d.lasts.length := puts_lasts_len _ _ _ _
  match k with
  | 0 => rfl
  | 1 => exact h1
  | k + 2 =>
    show (if (d.putMeta 1 0 0).dead then d.putMeta 1 0 0 else (d.putMeta 1 0 0).putMeta 0 1 0).lasts.length = _
    split
    · exact h1
    · exact (puts_lasts_len _ _ _ _).trans h1
theorem fmt_few {d : Dk.St} {j : Nat} (h : d.Few j) (k : Nat) : (d.fmt k).Few (j + 8) := by
  have h1 : (d.putMeta 1 0 0).Few (j + 4) := few_puts h _ _ 4
  match k with
  | 0 => exact h.more (by omega)
  | 1 => exact h1.more (by omega)
  | k + 2 =>
    show (if (d.putMeta 1 0 0).dead then d.putMeta 1 0 0 else (d.putMeta 1 0 0).putMeta 0 1 0).Few _
    split
    · exact h1.more (by omega)
    · exact few_puts h1 _ _ 4
theorem format_few {d : Dk.St} {j : Nat} (h : d.Few j) : d.format.Few (j + 9) := by
  unfold Dk.St.format
  split
  · exact (fmt_few h 2).more (by omega)
  · exact few_flush (fmt_few h 2)
theorem format_len (d : Dk.St) : d.format.lasts.length = d.lasts.length := by
  unfold Dk.St.format
  split
  · exact fmt_len d 2
  · rw [flush_lasts_len]; exact fmt_len d 2

theorem DiskAt.rlow {w : World} {S R : Nat → Prop} {b : Nat} {d : Dk.St} (h : DiskAt w S R b d) (k : Nat) (hk : R k) : k < w.heap.size ∧ ¬ S k := by
  obtain ⟨L, cap, wv, M, kv, h⟩ := h
  exact ⟨h.low k hk, h.apart k hk⟩
theorem PLies.rebox {w w' : World} {b db U T B D low : Nat} {p p' : Pr.Pt} (h : PLies w b db U T B D low p) (hb : Has w' b 83 (pagerCells db p' U T B D low)) (f : Fr (oneB b) w w') (ok : p'.Ok) (hl : p'.l = p.l) : PLies w' b db U T B D low p' := by
  obtain ⟨n1, n2, n3, n4⟩ := h.bne
  refine ⟨ok, hb, ?_, ?_, ?_, ?_, h.ne, h.low2, by rw [hl]; exact h.lowN, by rw [hl]; exact h.nofree⟩
  · rw [hl]; exact h.used.keep f (fun e => n1 (Eq.symm e))
  · rw [hl]; exact h.taken.keep f (fun e => n2 (Eq.symm e))
  · rw [hl]; exact h.blank.keep f (fun e => n3 (Eq.symm e))
  · rw [hl]; exact h.dropped.keep f (fun e => n4 (Eq.symm e))

/-- a meta's payload is put: the two calls of one region -/
structure FmtRel (w : World) (Sd R : Nat → Prop) (b db U T B D N : Nat) (d : Dk.St) (k : Nat) (wr : World) : Prop where
  dead : (d.fmt k).dead = false
  lies : PLies wr b db U T B D 2 ⟨List.replicate N 0, k - 1, 0⟩
  disk : ∃ S', DiskAt wr S' R db (d.fmt k) ∧ ∀ j, S' j → (Sd j ∨ w.heap.size ≤ j) ∧ ¬ pS b U T B D j
  fr : Fr Sd w wr
theorem ok_seq {p : Pr.Pt} (h : p.Ok) (s : Nat) (hs : s ≤ 4611686018427387904) : (⟨p.l, s, p.root⟩ : Pr.Pt).Ok := ⟨h.some_, h.most, h.two, h.small, hs, h.root⟩
theorem payload_at (w : World) (s r : Nat) : Calls Try.prog 40 #[.agg #[.int .i64 (Pr.sint s), .int .i64 (Pr.sint r)]] w fun e w' => ∃ A c, e = .returned (.slice A 32 c) ∧ Rd w' w'.heap.size A (Pr.metaBytes s r) ∧ Below w.heap.size w w' :=
  (payload_any w s r).mono fun e w' ⟨v, he, ho, hb⟩ => by
    obtain ⟨A, c, rfl, _, h⟩ := ho.at_ 32 (Pr.metaBytes_length s r)
    exact ⟨A, c, he, h (by rw [Pr.metaBytes_length]; omega), hb⟩
theorem pput_meta (w : World) (Sd R : Nat → Prop) (b db : Nat) (d : Dk.St) (h : DiskAt w Sd R db d) (hdead : d.dead = false) (hbS : ¬ Sd b) (hp : w.cell? ⟨b, 0, none⟩ = some (.pointer (some ⟨db, 0, none⟩))) (few : d.Few 900000) (n : Nat) (hn : n * 4 + 4 ≤ d.lasts.length)
    (A : Option Addr) (s r c : Nat) (hr : Rd w w.heap.size A (Pr.metaBytes s r)) :
    Calls Try.prog 39 #[.pointer (some ⟨b, 0, none⟩), .int .i64 (n : Int), .slice A 32 c] w fun e w' => e = .returned (.int .i64 (ecode (d.putMeta n s r).dead)) ∧ Goes Sd R db (d.putMeta n s r) w w' := by
  have := pput_any w Sd R b db d h hdead hbS hp few n hn A (Pr.metaBytes s r) c (by rw [Pr.metaBytes_length]; omega) hr
  rw [Pr.metaBytes_length] at this
  exact this
theorem sint_nat (x : Nat) (h : x < 9223372036854775808) : Pr.sint x = (x : Int) := by
  unfold Pr.sint; rw [if_pos h]
theorem FmtRel.step {w wr w1 w2 : World} {Sd R : Nat → Prop} {b db U T B D N : Nat} {d d' : Dk.St} {k : Nat} {S' : Nat → Prop} (h : FmtRel w Sd R b db U T B D N d k wr) (hU : ∀ j, pS b U T B D j → w.heap.size ≤ j) (hS : ∀ j, S' j → (Sd j ∨ w.heap.size ≤ j) ∧ ¬ pS b U T B D j) (hk : k ≤ 1) (hd' : d' = d.fmt (k + 1)) (hdead : d'.dead = false)
    (hb1 : Below ((wr.setCell ⟨b, 1, none⟩ (.int .i64 (k : Int))).setCell ⟨b, 2, none⟩ (.int .i64 0)).heap.size ((wr.setCell ⟨b, 1, none⟩ (.int .i64 (k : Int))).setCell ⟨b, 2, none⟩ (.int .i64 0)) w1) (hg : Goes S' R db d' w1 w2) : FmtRel w Sd R b db U T B D N d (k + 1) w2 := by
  subst hd'
  obtain ⟨S2, h1, h2, h3⟩ := hg
  have hW : Fr (oneB b) wr ((wr.setCell ⟨b, 1, none⟩ (.int .i64 (k : Int))).setCell ⟨b, 2, none⟩ (.int .i64 0)) := ((Fr.refl _ _).put _).put _
  have hbx := (h.lies.box.set 1 (.int .i64 (k : Int))).set 2 (.int .i64 0)
  have hl1 : PLies ((wr.setCell ⟨b, 1, none⟩ (.int .i64 (k : Int))).setCell ⟨b, 2, none⟩ (.int .i64 0)) b db U T B D 2 ⟨List.replicate N 0, k, 0⟩ := h.lies.rebox hbx hW (ok_seq h.lies.ok k (by omega)) rfl
  have hfr := h.fr
  have hsz : w.heap.size ≤ wr.heap.size := hfr.size
  have hsz1 : wr.heap.size ≤ w1.heap.size := by have := hb1.size; simpa using this
  have hl2 : PLies w2 b db U T B D 2 ⟨List.replicate N 0, k, 0⟩ := (hl1.keep (Fr.of_below hb1 noB) (fun _ _ e => e)).keep h2 (fun j hj e => (hS j e).2 hj)
  refine ⟨hdead, hl2, ⟨S2, h1, fun j hj => ?_⟩, ?_⟩
  · rcases h3 j hj with e | e
    · exact hS j e
    · refine ⟨.inr (by omega), fun hp => ?_⟩
      have := h.lies.lt j hp
      omega
  · have f1 : Fr Sd w ((wr.setCell ⟨b, 1, none⟩ (.int .i64 (k : Int))).setCell ⟨b, 2, none⟩ (.int .i64 0)) := hfr.trans hW (fun x hx e => by
      have e : x = b := e
      have := hU b (.inl rfl)
      omega)
    have f2 := f1.trans (Fr.of_below hb1 noB) (fun _ _ e => e.elim)
    exact f2.trans h2 (fun x hx e => by rcases (hS x e).1 with e | e <;> first | exact e | omega)
/-- a pager behind Format, and an error where the disk has died -/
def FmtPost (w : World) (Sd R : Nat → Prop) (db : Nat) (d : Dk.St) (e : Ending) (w' : World) : Prop :=
  (d.format.dead = true ∧ e = .returned (.tuple #[.pointer none, .int .i64 20]) ∧ Goes Sd R db d.format w w') ∨
  (d.format.dead = false ∧ ∃ b S', e = .returned (.tuple #[.pointer (some ⟨b, 0, none⟩), .int .i64 0]) ∧ PagerAt w' S' R b db ⟨List.replicate (d.lasts.length / 4) 0, 1, 0⟩ d.format ∧ Fr Sd w w' ∧ ∀ j, S' j → Sd j ∨ w.heap.size ≤ j)
theorem fmt_stop {d : Dk.St} {k : Nat} (hk : k ≤ 1) (h : (d.fmt (k + 1)).dead = true) : d.format = d.fmt (k + 1) := by
  have h2 : d.fmt 2 = d.fmt (k + 1) := by
    rcases (by omega : k = 0 ∨ k = 1) with rfl | rfl
    · show (if (d.putMeta 1 0 0).dead then d.putMeta 1 0 0 else (d.putMeta 1 0 0).putMeta 0 1 0) = d.putMeta 1 0 0
      rw [if_pos (show (d.putMeta 1 0 0).dead = true from h)]
    · rfl
  unfold Dk.St.format
  rw [h2, if_pos h]
set_option maxHeartbeats 1600000 in
theorem format_ok (w : World) (Sd R : Nat → Prop) (db : Nat) (d : Dk.St) (h : DiskAt w Sd R db d) (hdead : d.dead = false) (few : d.Few 800000) (hn : 12 ≤ d.lasts.length) :
    Calls Try.prog 9 #[.pointer (some ⟨db, 0, none⟩)] w (FmtPost w Sd R db d) := by
  have hmost := h.ok.most
  have hov := over_ok w db d.lasts.length hn hmost (by rw [← hdead]; exact (disk_cells h).2) (disk_cells h).1
  have H := Lib.hid h
  have HOV := Lib.hid hov
  have HF := Lib.hid few
  have HM := Lib.hid hmost
  clear h hov few hmost
  go_enter Try.func9, Try.ntmps9
  go_wp2_with fail
  refine HOV.out.mono ?_
  rintro e w1 ⟨b, U, T, B, D, rfl, hl, hb, hU⟩
  have hR1 : ∀ j, Sd j → ¬ pS b U T B D j := fun j hj hp => by have := H.out.lt j hj; have := hU j hp; omega
  have hrel : FmtRel w Sd R b db U T B D (d.lasts.length / 4) d 0 w1 := ⟨hdead, hl, ⟨Sd, H.out.keep (Fr.of_below hb noB) (fun _ e => e.elim), fun j hj => ⟨.inl hj, hR1 j hj⟩⟩, Fr.of_below hb _⟩
  have HR := Lib.hid hrel
  have HU := Lib.hid hU
  clear hl hb hU hR1 hrel
  go_wp2_with fail
  go_loopw [17] (fun i wr => ∃ k : Nat, k ≤ 2 ∧ i = .int .i64 k ∧ FmtRel w Sd R b db U T B D (d.lasts.length / 4) d k wr) (fun i _ => 2 - (intOf i).toNat)
  case atStart => exact ⟨0, by omega, rfl, HR.out⟩
  case round =>
    rename_i wr
    obtain ⟨k, hk, rfl, hrel⟩ := hrel
    have hR := Lib.hid hrel
    clear hrel
    by_cases hlt : k ≤ 1
    · obtain ⟨S', hD, hS⟩ := hR.out.disk
      have hW : Fr (oneB b) wr ((wr.setCell ⟨b, 1, none⟩ (.int .i64 (k : Int))).setCell ⟨b, 2, none⟩ (.int .i64 0)) := ((Fr.refl _ _).put _).put _
      have hbS : ¬ S' b := fun e => (hS b e).2 (.inl rfl)
      have hbR : ¬ R b := fun e => by have := (H.out.rlow b e).1; have := HU.out b (.inl rfl); omega
      have hDW := hD.keep hW (fun j hj => by have hj : j = b := hj; subst hj; exact ⟨hbS, hbR⟩)
      have hbx := (hR.out.lies.box.set 1 (.int .i64 (k : Int))).set 2 (.int .i64 0)
      have hpay := payload_at ((wr.setCell ⟨b, 1, none⟩ (.int .i64 (k : Int))).setCell ⟨b, 2, none⟩ (.int .i64 0)) k 0
      rw [sint_nat k (by omega), sint_nat 0 (by omega), show ((0 : Nat) : Int) = 0 from rfl] at hpay
      have hput := fun w1 (hb1 : Below ((wr.setCell ⟨b, 1, none⟩ (.int .i64 (k : Int))).setCell ⟨b, 2, none⟩ (.int .i64 0)).heap.size ((wr.setCell ⟨b, 1, none⟩ (.int .i64 (k : Int))).setCell ⟨b, 2, none⟩ (.int .i64 0)) w1) A c hr =>
        pput_meta w1 S' R b db (d.fmt k) (hDW.keep (Fr.of_below hb1 noB) (fun _ e => e.elim)) hR.out.dead hbS ((hbx.keep (Fr.of_below hb1 noB) (fun e => e)).cell 0) ((fmt_few HF.out k).more (by omega)) (1 - k) (by rw [fmt_len]; omega) A k 0 c hr
      have hfm : (d.fmt k).putMeta (1 - k) k 0 = d.fmt (k + 1) := by
        rcases (by omega : k = 0 ∨ k = 1) with rfl | rfl
        · rfl
        · show _ = (if (d.putMeta 1 0 0).dead then d.putMeta 1 0 0 else (d.putMeta 1 0 0).putMeta 0 1 0)
          rw [if_neg (by rw [show (d.putMeta 1 0 0).dead = false from hR.out.dead]; simp)]
          rfl
      rw [hfm] at hput
      have hi : ((1 - k : Nat) : Int) = 1 - (k : Int) := by omega
      rw [hi] at hput
      have c0 : wr.cell? ⟨b, 0, none⟩ = some (.pointer (some ⟨db, 0, none⟩)) := hR.out.lies.box.cell 0
      have c1 : wr.cell? ⟨b, 1, none⟩ = some (.int .i64 ((k - 1 : Nat) : Int)) := hR.out.lies.box.cell 1
      have c2 : wr.cell? ⟨b, 2, none⟩ = some (.int .i64 0) := hR.out.lies.box.cell 2
      have z1 := hR.out.lies.box.free 1
      have z2 := hR.out.lies.box.free 2
      have hlt' : (k : Int) < 2 := by omega
      have HPAY := Lib.hid hpay
      have HPUT := Lib.hid hput
      have HS := Lib.hid hS
      clear hD hS hW hDW hbx hpay hput hfm hi hbS hbR
      go_wp2_with fail
      refine HPAY.out.mono ?_
      rintro e w2 ⟨A, c, rfl, hr2, hb2⟩
      have hput2 := HPUT.out w2 hb2 A c hr2
      have HP2 := Lib.hid hput2
      have HB2 := Lib.hid hb2
      clear hr2 hb2 hput2 HPUT HPAY c1 c2 z1 z2
      go_wp2_with fail
      refine HP2.out.mono ?_
      rintro e w3 ⟨rfl, hg3⟩
      have HG3 := Lib.hid hg3
      clear hg3 HP2 c0
      cases hdd : (d.fmt (k + 1)).dead
      · have hnx := hR.out.step HU.out HS.out hlt rfl hdd HB2.out HG3.out
        have HNX := Lib.hid hnx
        clear hnx hdd HG3 HB2 HS
        simp only [show ecode false = 0 from rfl]
        go_wp2_with fail
        go_roundw
        case rel => exact ⟨k + 1, by omega, rfl, HNX.out⟩
        case measure => simp [intOf]; omega
      · have hst := fmt_stop hlt hdd
        have HST := Lib.hid hst
        have HDD := Lib.hid hdd
        clear hst hdd
        simp only [show ecode true = 20 from rfl]
        go_wp2_with fail
        go_ret2
        refine .inl ⟨by rw [HST.out]; exact HDD.out, rfl, ?_⟩
        rw [HST.out]
        obtain ⟨S2, g1, g2, g3⟩ := HG3.out
        have hW : Fr (oneB b) wr ((wr.setCell ⟨b, 1, none⟩ (.int .i64 (k : Int))).setCell ⟨b, 2, none⟩ (.int .i64 0)) := ((Fr.refl _ _).put _).put _
        have hsz := hR.out.fr.size
        have hsz2 : wr.heap.size ≤ w2.heap.size := by have := HB2.out.size; simpa using this
        have f1 : Fr Sd w w2 := (hR.out.fr.trans hW (fun x hx e => by
          have e : x = b := e
          have := HU.out b (.inl rfl)
          omega)).trans (Fr.of_below HB2.out noB) (fun _ _ e => e.elim)
        exact ⟨S2, g1, f1.trans g2 (fun x hx e => by rcases (HS.out x e).1 with e | e <;> first | exact e | omega), fun j hj => by
          rcases g3 j hj with e | e
          · exact (HS.out j e).1
          · exact .inr (by omega)⟩
    · obtain rfl : k = 2 := by omega
      obtain ⟨S', hD, hS⟩ := hR.out.disk
      have hfl := flush_at wr S' R db (d.fmt 2) hD hR.out.dead (by have := (fmt_few HF.out 2).waits; omega) (by have := (fmt_few HF.out 2).done; omega) (fmt_few HF.out 2).left
      rw [flush_err hR.out.dead] at hfl
      have hfo : d.format = (d.fmt 2).flush := by unfold Dk.St.format; rw [if_neg (by rw [hR.out.dead]; simp)]
      rw [← hfo] at hfl
      have HFL := Lib.hid hfl
      have HS := Lib.hid hS
      clear hD hS hfl hfo
      go_wp2_with fail
      refine HFL.out.mono ?_
      rintro e w3 ⟨rfl, hg3⟩
      obtain ⟨S2, g1, g2, g3⟩ := hg3
      have hsz := hR.out.fr.size
      have f1 : Fr Sd w w3 := hR.out.fr.trans g2 (fun x hx e => by rcases (HS.out x e).1 with e | e <;> first | exact e | omega)
      have hnp : ∀ j, S2 j → ¬ pS b U T B D j := fun j hj hp => by
        rcases g3 j hj with e | e
        · exact (HS.out j e).2 hp
        · have := hR.out.lies.lt j hp; omega
      have hsd : ∀ j, S2 j → Sd j ∨ w.heap.size ≤ j := fun j hj => by
        rcases g3 j hj with e | e
        · exact (HS.out j e).1
        · exact .inr (by omega)
      have hl3 := hR.out.lies.keep g2 (fun j hj e => (HS.out j e).2 hj)
      have G1 := Lib.hid g1
      have F1 := Lib.hid f1
      have NP := Lib.hid hnp
      have SD := Lib.hid hsd
      have L3 := Lib.hid hl3
      clear g1 g2 g3 f1 hnp hsd hl3 HFL HS
      cases hdd : d.format.dead
      · have HDD := Lib.hid hdd
        clear hdd
        simp only [show ecode false = 0 from rfl]
        go_wp2_with fail
        go_ret2
        refine .inr ⟨HDD.out, b, fun j => S2 j ∨ pS b U T B D j, rfl, ⟨S2, U, T, B, D, 2, L3.out, G1.out, fun _ => Iff.rfl, fun j hj => ⟨fun e => NP.out j e hj, fun e => ?_⟩, ?_⟩, F1.out, fun j hj => ?_⟩
        · have := (H.out.rlow j e).1
          have := HU.out j hj
          omega
        · rw [format_len, List.length_replicate]
        · rcases hj with e | e
          · exact SD.out j e
          · exact .inr (HU.out j e)
      · have HDD := Lib.hid hdd
        clear hdd
        simp only [show ecode true = 20 from rfl]
        go_wp2_with fail
        go_ret2
        exact .inl ⟨HDD.out, rfl, S2, G1.out, F1.out, SD.out⟩
end Go.Proofs.Ythlmjnlakenmoaa

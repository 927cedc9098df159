/-
  Open.
-/
import Derived.Test.YthlmjnlakenmoaaPFormat
import Derived.OwnWalk
import Derived.BigQuiet
namespace Go.Proofs.Ythlmjnlakenmoaa
open Go.RowKit Go.Maps
set_option maxRecDepth 100000

theorem open_nil (w : World) : Calls Try.prog 8 #[.pointer none] w fun e w' => e = .returned (.tuple #[.pointer none, .int .i64 0, .int .i64 2]) ∧ w = w' := by
  go_enter Try.func8, Try.ntmps8
  go_wp2_with fail
  refine (over_nil _).mono ?_
  rintro e w' ⟨rfl, rfl⟩
  go_wp2_with fail
  go_ret3
  exact ⟨rfl, rfl⟩
theorem open_dead (w : World) (db : Nat) (hd : w.cell? ⟨db, 4, none⟩ = some (.bool true)) : Calls Try.prog 8 #[.pointer (some ⟨db, 0, none⟩)] w fun e w' => e = .returned (.tuple #[.pointer none, .int .i64 0, .int .i64 20]) ∧ w = w' := by
  have hl := over_dead w db hd
  have HL := Lib.hid hl
  clear hl hd
  go_enter Try.func8, Try.ntmps8
  go_wp2_with fail
  refine HL.out.mono ?_
  rintro e w' ⟨rfl, rfl⟩
  go_wp2_with fail
  go_ret3
  exact ⟨rfl, rfl⟩
theorem open_short (w : World) (db n : Nat) (hn : n ≤ 11) (hd : w.cell? ⟨db, 4, none⟩ = some (.bool false)) (h0 : ∃ a cap, w.cell? ⟨db, 0, none⟩ = some (.slice a n cap)) :
    Calls Try.prog 8 #[.pointer (some ⟨db, 0, none⟩)] w fun e w' => e = .returned (.tuple #[.pointer none, .int .i64 0, .int .i64 1]) ∧ Below w.heap.size w w' := by
  have hl := over_short w db n hn hd h0
  have HL := Lib.hid hl
  clear hl hd h0
  go_enter Try.func8, Try.ntmps8
  go_wp2_with fail
  refine HL.out.mono ?_
  rintro e w' ⟨rfl, hb⟩
  have HB := Lib.hid hb
  clear hb
  go_wp2_with fail
  go_ret3
  exact ⟨rfl, HB.out⟩

namespace Pr
theorem metaOf_some {n N : Nat} {p : List UInt8} {s r : Nat} (h : metaOf n N p = some (s, r)) : s ≤ 4611686018427387904 ∧ (r = 0 ∨ 2 ≤ r ∧ r < N) := by
  unfold metaOf at h
  split at h
  · rename_i hc
    injection h with h
    injection h with h1 h2
    subst h1 h2
    unfold goodMeta at hc
    simp only [Bool.and_eq_true, Bool.or_eq_true, decide_eq_true_eq] at hc
    exact hc.2.2
  · cases h
theorem latest_one {a b : Option (Nat × Nat)} {x : Nat × Nat} (h : latest a b = some x) : a = some x ∨ b = some x := by
  unfold latest at h
  split at h
  · split at h
    · exact .inr h
    · exact .inl h
  · exact .inl h
  · exact .inr h
/-- all pages are used -/
def opened (n s r : Nat) : Pt := ⟨0 :: 0 :: List.replicate (n - 2) 1, s, r⟩
theorem opened_ok {n s r : Nat} (h1 : 3 ≤ n) (h2 : n ≤ 16384) (hs : s ≤ 4611686018427387904) (hr : r = 0 ∨ 2 ≤ r ∧ r < n) : (opened n s r).Ok :=
  ⟨by simp [opened]; omega, by simp [opened]; omega, fun i hi => by
    rcases (by omega : i = 0 ∨ i = 1) with rfl | rfl <;> rfl, fun s hs => by
    simp only [opened, List.mem_cons, List.mem_replicate] at hs; omega, hs, by simp only [opened, List.length_cons, List.length_replicate]; omega⟩
theorem opened_len {n s r : Nat} (h1 : 3 ≤ n) : (opened n s r).l.length = n := by simp [opened]; omega
theorem opened_at {q : Nat → Bool} (h0 : q 0 = false) {n s r : Nat} (h1 : 3 ≤ n) (j : Nat) : stp q (opened n s r).l j = (decide (2 ≤ j ∧ j < n) && q 1) := by
  unfold stp opened
  match j with
  | 0 => simp [h0]
  | 1 => simp [h0]
  | j + 2 =>
    simp only [List.getElem?_cons_succ, List.getElem?_replicate]
    by_cases hj : j < n - 2
    · rw [if_pos hj, decide_eq_true (by omega)]; simp
    · rw [if_neg hj, decide_eq_false (by omega)]; simp
end Pr

/-- what the metas of a disk say -/
def Dk.St.meta_ (d : Dk.St) : Option (Nat × Nat) := Pr.latest (Pr.metaOf 0 (d.lasts.length / 4) (d.page 0)) (Pr.metaOf 1 (d.lasts.length / 4) (d.page 1))
theorem meta_some {d : Dk.St} {s r : Nat} (h : d.meta_ = some (s, r)) : s ≤ 4611686018427387904 ∧ (r = 0 ∨ 2 ≤ r ∧ r < d.lasts.length / 4) := by
  rcases Pr.latest_one h with h | h <;> exact Pr.metaOf_some h
set_option maxHeartbeats 1600000 in
theorem open_none (w : World) (Sd R : Nat → Prop) (db : Nat) (d : Dk.St) (h : DiskAt w Sd R db d) (hdead : d.dead = false) (hn : 12 ≤ d.lasts.length) (hm : d.meta_ = none) :
    Calls Try.prog 8 #[.pointer (some ⟨db, 0, none⟩)] w fun e w' => e = .returned (.tuple #[.pointer none, .int .i64 0, .int .i64 40]) ∧ Below w.heap.size w w' := by
  have hmf : ∀ (fn : Fn) (first cap : Array Value) (w : World), (Instr.makeFunc fn first cap).run Try.prog w = .ok (.func fn first cap) w := fun _ _ _ _ => rfl
  have hov := over_ok w db d.lasts.length hn h.ok.most (by rw [← hdead]; exact (disk_cells h).2) (disk_cells h).1
  have H := Lib.hid h
  have HOV := Lib.hid hov
  have HMT := Lib.hid hm
  clear h hov hm
  go_enter Try.func8, Try.ntmps8
  go_wp2_with fail
  refine HOV.out.mono ?_
  rintro e w1 ⟨b, U, T, B, D, rfl, hl, hb, hU⟩
  have hlat := latest_any w1 Sd R b db d (H.out.keep (Fr.of_below hb noB) (fun _ e => e.elim)) hdead (hl.box.cell 0) (by omega)
  have e := HMT.out
  unfold Dk.St.meta_ at e
  rw [e] at hlat
  have HLAT := Lib.hid hlat
  have HB := Lib.hid hb
  have hsz := hb.size
  clear hlat hl hb hU e
  unfold metaRes at HLAT
  go_wp2_with fail
  refine HLAT.out.mono ?_
  rintro e w2 ⟨rfl, hb2⟩
  have HB2 := Lib.hid (HB.out.trans (hb2.mono hsz))
  clear hb2
  go_wp2_with fail
  go_ret3
  exact ⟨rfl, HB2.out.alloc HB2.out.size _⟩
/-- a pager over a disk, all of whose pages are used -/
def OpenPost (w : World) (Sd R : Nat → Prop) (db : Nat) (d : Dk.St) (s r : Nat) (e : Ending) (w' : World) : Prop :=
  ∃ b S', e = .returned (.tuple #[.pointer (some ⟨b, 0, none⟩), .int .i64 (r : Int), .int .i64 0]) ∧ PagerAt w' S' R b db (Pr.opened (d.lasts.length / 4) s r) d ∧ Below w.heap.size w w' ∧ ∀ j, S' j → Sd j ∨ w.heap.size ≤ j
set_option maxHeartbeats 1600000 in
theorem open_some (w : World) (Sd R : Nat → Prop) (db : Nat) (d : Dk.St) (h : DiskAt w Sd R db d) (hdead : d.dead = false) (hn : 12 ≤ d.lasts.length) (s r : Nat) (hm : d.meta_ = some (s, r)) :
    Calls Try.prog 8 #[.pointer (some ⟨db, 0, none⟩)] w (OpenPost w Sd R db d s r) := by
  have hmf : ∀ (fn : Fn) (first cap : Array Value) (w : World), (Instr.makeFunc fn first cap).run Try.prog w = .ok (.func fn first cap) w := fun _ _ _ _ => rfl
  obtain ⟨hs, hr⟩ := meta_some hm
  have hmost := h.ok.most
  have hov := over_ok w db d.lasts.length hn hmost (by rw [← hdead]; exact (disk_cells h).2) (disk_cells h).1
  have hdc := (disk_cells h).1
  have hdlt : db < w.heap.size := by obtain ⟨a, cap, hc⟩ := hdc; exact block_lt_of_cell hc
  have H := Lib.hid h
  have HOV := Lib.hid hov
  have HMT := Lib.hid hm
  have HD := Lib.hid hdc
  have HSS := Lib.hid hs
  have HRR := Lib.hid hr
  clear h hov hm hdc hs hr
  go_enter Try.func8, Try.ntmps8
  go_wp2_with fail
  refine HOV.out.mono ?_
  rintro e w1 ⟨b, U, T, B, D, rfl, hl, hb, hU⟩
  have hlat := latest_any w1 Sd R b db d (H.out.keep (Fr.of_below hb noB) (fun _ e => e.elim)) hdead (hl.box.cell 0) (by omega)
  have e := HMT.out
  unfold Dk.St.meta_ at e
  rw [e] at hlat
  have HLAT := Lib.hid hlat
  have HB := Lib.hid hb
  have HL := Lib.hid hl
  have HU := Lib.hid hU
  have hsz := hb.size
  clear hlat hl hb hU e
  unfold metaRes at HLAT
  go_wp2_with fail
  refine HLAT.out.mono ?_
  rintro e w2 ⟨rfl, hb2⟩
  have hl2 := HL.out.keep (Fr.of_below hb2 noB) (fun _ _ e => e)
  have hB2 : Below w.heap.size w w2 := HB.out.trans (hb2.mono hsz)
  have hsz2 := hB2.size
  have hbU := HU.out b (.inl rfl)
  have hbw : b < w2.heap.size := hl2.lt b (.inl rfl)
  have hw := hl2.box.alloc (.cells #[.int .i64 (s : Int), .int .i64 (r : Int)] 76)
  have hw' := (hl2.box.set 1 (.int .i64 (s : Int))).alloc (.cells #[.int .i64 (s : Int), .int .i64 (r : Int)] 76)
  have c1 : (w2.alloc (.cells #[.int .i64 (s : Int), .int .i64 (r : Int)] 76)).cell? ⟨b, 1, none⟩ = some (.int .i64 0) := hw.cell 1
  have z1 : (w2.alloc (.cells #[.int .i64 (s : Int), .int .i64 (r : Int)] 76)).frozen? ⟨b, 1, none⟩ = false := hw.free 1
  have c2 : ((w2.setCell ⟨b, 1, none⟩ (.int .i64 (s : Int))).alloc (.cells #[.int .i64 (s : Int), .int .i64 (r : Int)] 76)).cell? ⟨b, 2, none⟩ = some (.int .i64 0) := hw'.cell 2
  have z2 : ((w2.setCell ⟨b, 1, none⟩ (.int .i64 (s : Int))).alloc (.cells #[.int .i64 (s : Int), .int .i64 (r : Int)] 76)).frozen? ⟨b, 2, none⟩ = false := hw'.free 2
  have hbx := (hl2.box.set 1 (.int .i64 (s : Int))).set 2 (.int .i64 (r : Int))
  have hf3 : Fr (oneB b) w2 ((w2.setCell ⟨b, 1, none⟩ (.int .i64 (s : Int))).setCell ⟨b, 2, none⟩ (.int .i64 (r : Int))) := ((Fr.refl _ _).put _).put _
  have hok : (⟨List.replicate (d.lasts.length / 4) 0, s, r⟩ : Pr.Pt).Ok := ⟨hl2.ok.some_, hl2.ok.most, hl2.ok.two, hl2.ok.small, HSS.out, by
    rw [List.length_replicate]; exact HRR.out⟩
  have hl3 : PLies _ b db U T B D 2 ⟨List.replicate (d.lasts.length / 4) 0, s, r⟩ := hl2.rebox hbx hf3 hok rfl
  have hB3 : Below w.heap.size w ((w2.setCell ⟨b, 1, none⟩ (.int .i64 (s : Int))).setCell ⟨b, 2, none⟩ (.int .i64 (r : Int))) := (hB2.setCell hbU _).setCell hbU _
  have hl4 := hl3.keep ((Fr.refl noB _).alloc (.cells #[.int .i64 (s : Int), .int .i64 (r : Int)] 76)) (fun _ _ e => e)
  have hB4 : Below w.heap.size w (((w2.setCell ⟨b, 1, none⟩ (.int .i64 (s : Int))).setCell ⟨b, 2, none⟩ (.int .i64 (r : Int))).alloc (.cells #[.int .i64 (s : Int), .int .i64 (r : Int)] 76)) := hB3.alloc (by simpa using hsz2) _
  have hm4 : Has (((w2.setCell ⟨b, 1, none⟩ (.int .i64 (s : Int))).setCell ⟨b, 2, none⟩ (.int .i64 (r : Int))).alloc (.cells #[.int .i64 (s : Int), .int .i64 (r : Int)] 76)) w2.heap.size 76 #[.int .i64 (s : Int), .int .i64 (r : Int)] := by
    have := Has.of_alloc ((w2.setCell ⟨b, 1, none⟩ (.int .i64 (s : Int))).setCell ⟨b, 2, none⟩ (.int .i64 (r : Int))) 76 #[.int .i64 (s : Int), .int .i64 (r : Int)]
    simpa using this
  have HL4 := Lib.hid hl4
  have HB4 := Lib.hid hB4
  have HM4 := Lib.hid hm4
  clear hb2 hl2 hB2 hw hw' hbx hf3 hok hl3 hB3 hl4 hB4 hm4
  go_wp2_with fail
  generalize hWg : (((w2.setCell ⟨b, 1, none⟩ (.int .i64 (s : Int))).setCell ⟨b, 2, none⟩ (.int .i64 (r : Int))).alloc (.cells #[.int .i64 (s : Int), .int .i64 (r : Int)] 76)) = W at *
  generalize w2.heap.size = m at *
  clear hWg c1 z1 c2 z2
  go_loopw [9] (fun i wr => ∃ k : Nat, 2 ≤ k ∧ k ≤ d.lasts.length / 4 ∧ i = .int .i64 k ∧ SetAt wr U (d.lasts.length / 4) (fun j => decide (2 ≤ j ∧ j < k)) ∧ Fr (oneB U) W wr) (fun i _ => d.lasts.length / 4 - (intOf i).toNat)
  case atStart =>
    refine ⟨2, by omega, by omega, rfl, ?_, Fr.refl _ _⟩
    have := HL4.out.used
    rw [show (⟨List.replicate (d.lasts.length / 4) 0, s, r⟩ : Pr.Pt).l.length = d.lasts.length / 4 from List.length_replicate] at this
    exact this.congr fun j => by rw [Pr.stp_zero rfl, decide_eq_false (by omega)]
  case round =>
    rename_i wr
    obtain ⟨k, hk2, hkN, rfl, hset, hfr⟩ := hrel
    have hbne := HL4.out.bne
    have c0 : wr.cell? ⟨b, 0, none⟩ = some (.pointer (some ⟨db, 0, none⟩)) := (HL4.out.box.keep hfr (fun e => hbne.1 e)).cell 0
    have c3 : wr.cell? ⟨b, 3, none⟩ = some (.map (some U)) := (HL4.out.box.keep hfr (fun e => hbne.1 e)).cell 3
    have hUw := HU.out U (.inr (.inl rfl))
    have hdc : ∃ a cap, wr.cell? ⟨db, 0, none⟩ = some (.slice a d.lasts.length cap) := by
      obtain ⟨a, cap, hc⟩ := HD.out
      exact ⟨a, cap, (World.cell?_of_block (hfr.old db (Nat.lt_of_lt_of_le hdlt HB4.out.size) (fun e => by have e : db = U := e; omega))).trans ((World.cell?_of_block (HB4.out.block db hdlt)).trans hc)⟩
    have hpg := ppages_any wr b db d.lasts.length hmost c0 hdc
    have HPG := Lib.hid hpg
    have HSET := Lib.hid hset
    have HFR := Lib.hid hfr
    clear hpg hset hfr hdc hbne
    obtain ⟨N, hN⟩ : ∃ N, N = d.lasts.length / 4 := ⟨_, rfl⟩
    by_cases hlt : k < d.lasts.length / 4
    · have hadd := padd_any wr U (d.lasts.length / 4) _ HSET.out k hlt (by omega)
      have HADD := Lib.hid hadd
      have hlt' : (k : Int) < ((d.lasts.length / 4 : Nat) : Int) := by omega
      clear hadd
      go_wp2_with fail
      refine HPG.out.mono ?_
      rintro e w' ⟨rfl, rfl⟩
      go_wp2_with fail
      refine HADD.out.mono ?_
      rintro e w5 ⟨rfl, hs5, hf5⟩
      have HS5 := Lib.hid (hs5.congr (g := fun j => decide (2 ≤ j ∧ j < k + 1)) fun j => by
        rw [Bool.eq_iff_iff]; simp; omega)
      have HF5 := Lib.hid (HFR.out.trans hf5 (fun _ _ e => e))
      clear hs5 hf5
      go_wp2_with fail
      go_roundw
      case rel => exact ⟨k + 1, by omega, by omega, rfl, HS5.out, HF5.out⟩
      case measure => simp [intOf]; omega
    · have hkN' : k = d.lasts.length / 4 := by omega
      subst hkN'
      have hmU : m ≠ U := HM4.out.ne_map HL4.out.used
      have m1 : wr.cell? ⟨m, 1, none⟩ = some (.int .i64 (r : Int)) := (HM4.out.keep HFR.out (fun e => hmU e)).cell 1
      go_wp2_with fail
      refine HPG.out.mono ?_
      rintro e w' ⟨rfl, rfl⟩
      go_wp2_with fail
      go_quiet (fail)
      go_wp2_with fail
      go_ret3
      have h3 : 3 ≤ d.lasts.length / 4 := by omega
      have hNl : (List.replicate (d.lasts.length / 4) 0).length = d.lasts.length / 4 := List.length_replicate
      have hfr := HFR.out
      obtain ⟨n1, n2, n3⟩ := HL4.out.ne
      obtain ⟨e1, e2, e3, e4⟩ := HL4.out.bne
      have hol := Pr.opened_len (n := d.lasts.length / 4) (s := s) (r := r) h3
      have hz : ∀ q : Nat → Bool, q 0 = false → q 1 = false → ∀ M, M ≠ U → SetAt W M (List.replicate (d.lasts.length / 4) 0).length (Pr.stp q (List.replicate (d.lasts.length / 4) 0)) → SetAt wr M (Pr.opened (d.lasts.length / 4) s r).l.length (Pr.stp q (Pr.opened (d.lasts.length / 4) s r).l) := fun q h0 h1 M hM h => by
        rw [hol]
        rw [hNl] at h
        exact (h.keep hfr (fun e => hM e)).congr fun j => by rw [Pr.stp_zero h0, Pr.opened_at h0 h3, h1, Bool.and_false]
      have hlies : PLies wr b db U T B D 2 (Pr.opened (d.lasts.length / 4) s r) := ⟨Pr.opened_ok h3 (by omega) HSS.out HRR.out, HL4.out.box.keep hfr (fun e => e1 e), by
        rw [hol]
        exact HSET.out.congr fun j => by rw [Pr.opened_at rfl h3]; exact (Bool.and_true _).symm, hz _ rfl rfl T (fun e => n1.1 (Eq.symm e)) HL4.out.taken, hz _ rfl rfl B (fun e => n1.2.1 (Eq.symm e)) HL4.out.blank, hz _ rfl rfl D (fun e => n1.2.2 (Eq.symm e)) HL4.out.dropped, HL4.out.ne, by omega, by rw [hol]; omega, fun i _ _ => by omega⟩
      have hbw : Below w.heap.size w wr := HB4.out.trans (hfr.below HB4.out.size (fun k hk => by have hk : k = U := hk; have := HU.out U (.inr (.inl rfl)); omega))
      have hdk : DiskAt wr Sd R db d := H.out.keep (Fr.of_below hbw noB) (fun _ e => e.elim)
      exact ⟨b, fun j => Sd j ∨ pS b U T B D j, rfl, ⟨Sd, U, T, B, D, 2, hlies.keep ((Fr.refl noB wr).drewN _) (fun _ _ e => e), hdk.keep ((Fr.refl noB wr).drewN _) (fun _ e => e.elim), fun _ => Iff.rfl, fun j hj => ⟨fun e => by have := H.out.lt j e; have := HU.out j hj; omega, fun e => by have := (H.out.rlow j e).1; have := HU.out j hj; omega⟩, hol⟩, ⟨hbw.os, hbw.tape, hbw.output, hbw.size, hbw.block⟩, fun j hj => by
        rcases hj with e | e
        · exact .inl e
        · exact .inr (HU.out j e)⟩
end Go.Proofs.Ythlmjnlakenmoaa

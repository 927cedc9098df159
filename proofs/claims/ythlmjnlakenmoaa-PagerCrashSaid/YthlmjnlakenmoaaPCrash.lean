/-
  PagerCrash: behind a crash at any moment all of a commit is there, or none of it.
-/
import Derived.Test.YthlmjnlakenmoaaPCrashM
import Derived.Test.YthlmjnlakenmoaaKonst
import Derived.Deep.CutRange
import Derived.Deep.CutBlock
import Derived.StillTailTactics
namespace Go.Proofs.Ythlmjnlakenmoaa.pcrash
open Go.RowKit Go.Maps Dk Pr
set_option maxRecDepth 100000

/-- a transaction that comes in -/
structure Tx where
  take : UInt8
  what : UInt8
  A : Option Addr
  drop : List UInt8
  c : Nat
  commit : Bool
def TxsAt (w : World) (A : Option Addr) (l : List Tx) : Prop := l.length ≤ 140737488355328 ∧ (0 < l.length → ∃ g o, A = some ⟨g, o, none⟩ ∧ g < w.heap.size ∧ ∀ j x, l[j]? = some x →
  w.cell? ⟨g, o + j * 4, none⟩ = some (.int .u8 (x.take.toNat : Int)) ∧ w.cell? ⟨g, o + j * 4 + 1, none⟩ = some (.int .u8 (x.what.toNat : Int)) ∧ w.cell? ⟨g, o + j * 4 + 2, none⟩ = some (.slice x.A x.drop.length x.c) ∧ w.cell? ⟨g, o + j * 4 + 3, none⟩ = some (.bool x.commit) ∧ Rd w w.heap.size x.A x.drop)
theorem TxsAt.below {W w : World} {A : Option Addr} {l : List Tx} (h : TxsAt W A l) (hb : Below W.heap.size W w) {k : Nat} (hk : k < l.length) : ∃ g o, A = some ⟨g, o, none⟩ ∧ w.cell? ⟨g, o + k * 4, none⟩ = some (.int .u8 (l[k].take.toNat : Int)) ∧ w.cell? ⟨g, o + k * 4 + 1, none⟩ = some (.int .u8 (l[k].what.toNat : Int)) ∧ w.cell? ⟨g, o + k * 4 + 2, none⟩ = some (.slice l[k].A l[k].drop.length l[k].c) ∧ w.cell? ⟨g, o + k * 4 + 3, none⟩ = some (.bool l[k].commit) ∧ Rd w W.heap.size l[k].A l[k].drop := by
  obtain ⟨g, o, e, hg, hc⟩ := h.2 (by omega)
  obtain ⟨c0, c1, c2, c3, c4⟩ := hc k _ (List.getElem?_eq_getElem hk)
  have hb' := fun x => World.cell?_of_block (a := ⟨g, x, none⟩) (hb.block g hg)
  exact ⟨g, o, e, (hb' _).trans c0, (hb' _).trans c1, (hb' _).trans c2, (hb' _).trans c3, c4.below hb⟩
theorem fuse200 (n : Int) : ∃ m : Nat, m < 200 ∧ wrap64 ((IntKind.u64.wrap n).tmod 200) = (m : Int) := by
  have h0 : 0 ≤ IntKind.u64.wrap n := by rw [IntKind.wrap_u64]; exact Int.emod_nonneg _ (by omega)
  have h1 : 0 ≤ (IntKind.u64.wrap n).tmod 200 := Int.tmod_nonneg _ h0
  have h2 : (IntKind.u64.wrap n).tmod 200 < 200 := Int.tmod_lt_of_pos _ (by omega)
  generalize (IntKind.u64.wrap n).tmod 200 = r at *
  refine ⟨r.toNat, by omega, ?_⟩
  rw [IntWalk.wrap64_in r ⟨by omega, by omega⟩]
  omega
/-- the disk that was formatted, with its fuse: between transactions, behind none -/
theorem al_first (q : Pl) (m : Nat) (hm : m < 200) : Al q ⟨List.replicate 20 0, 1, 0⟩ ((Dk.made 80).format.fuse m q) ⟨0, 0, fun _ => none, fun _ => none⟩ 0 := by
  have hf := (format_few (few_made 80)).more (j := 300) (by omega)
  refine ⟨sure_first (N := 20) (by omega) (by omega) q m, fun n hn => absurd rfl hn, fun j hj => .inl (by rw [List.getElem?_replicate, if_pos hj]), ⟨hf.waits, hf.done, ?_⟩, Nat.le_refl _, List.length_replicate⟩
  show m ≤ _
  omega
set_option maxHeartbeats 6400000 in
theorem walk (W : World) (A : Option Addr) (l : List Tx) (c : Nat) (hl : TxsAt W A l) (n0 : Int) (pv : Value) (q : Pl) (hp : KeepAt W (fun k => k < W.heap.size) pv q.keep) :
    Calls Try.prog 5 #[.slice A l.length c, .int .i64 n0, planV pv q] W fun e w' => e = .returned (.bool true) ∧ Below W.heap.size W w' := by
  obtain ⟨m, hm, e1⟩ := fuse200 n0
  have hl0 := live_made (n := 80) (by omega) (by omega)
  have hlive := (live_format hl0 (by rw [made_len]; omega)).1
  have hal := al_first q m hm
  have hfmt := fun w Sd R db h => format_ok w Sd R db (Dk.made 80) h rfl ((few_made _).more (by omega)) (by rw [made_len]; omega)
  have hnew := fun w => new_any w 80 (by omega) (by omega)
  rw [show ((80 : Nat) : Int) = 80 from rfl] at hnew
  unfold FmtPost at hfmt
  rw [made_len, show 80 / 4 = 20 from rfl] at hfmt
  generalize (Dk.made 80).format = d1 at *
  generalize Dk.made 80 = d0 at *
  have HFMT := Lib.hid hfmt
  have HNEW := Lib.hid hnew
  have HL := Lib.hid hl
  have HP := Lib.hid hp
  have HAL := Lib.hid hal
  have HLIVE := Lib.hid hlive
  have hW0 : Has (W.alloc (.cells #[pv, .int .i64 q.torn, .int .i64 q.cut] 56)) W.heap.size 56 #[pv, .int .i64 q.torn, .int .i64 q.cut] := Has.of_alloc _ _ _
  have hWb : Below W.heap.size W (W.alloc (.cells #[pv, .int .i64 q.torn, .int .i64 q.cut] 56)) := (Below.refl _ _).alloc (Nat.le_refl _) _
  generalize hW1 : W.alloc (.cells #[pv, .int .i64 q.torn, .int .i64 q.cut] 56) = W1 at *
  have HW1 := Lib.hid hW1
  have HW0 := Lib.hid hW0
  have HWB := Lib.hid hWb
  clear hfmt hnew hl hp hal hl0 hlive hW0 hWb hW1
  unfold planV
  go_enter Try.func5, Try.ntmps5
  go_wp2_with fail
  rw [HW1.out]
  refine (awake_any W1).mono ?_
  rintro e w2 ⟨rfl, hb2⟩
  have hz1 : W1.heap.size = W.heap.size + 1 := by rw [← HW1.out]; exact World.size_alloc _ _
  have HB2 := Lib.hid (HWB.out.trans (hb2.mono (by omega)))
  have HX2 := Lib.hid (HW0.out.keep (Fr.of_below hb2 noB) (fun e => e))
  clear hb2 hz1 HW0 HWB HW1
  go_wp2_with fail
  refine (HNEW.out _).mono ?_
  rintro e w3 ⟨db, Sd, rfl, hd, hb, hs⟩
  have HX3 := Lib.hid (HX2.out.keep (Fr.of_below hb noB) (fun e => e))
  have hx3 : ¬ Sd W.heap.size := fun e => by have := hs _ e; have := HX2.out.lt; omega
  have Y3 := Lib.hid (Sys.made HB2.out hd hb hs)
  clear hd hb hs HNEW HX2 HB2
  unfold ptr
  go_wp2_with fail
  refine (HFMT.out w3 Sd noB db Y3.out.disk).mono ?_
  intro e w4 hpost
  rcases hpost with ⟨hdd, _⟩ | ⟨_, b, S, rfl, hpa, hf, hs⟩
  · rw [HLIVE.out.dead] at hdd; cases hdd
  obtain ⟨Sd4, U, T, BB, D, low, y4⟩ := Y3.out.pager hpa hf hs
  have hx4 : ¬ S W.heap.size := fun e => by
    rcases hs _ e with e2 | e2
    · exact hx3 e2
    · have := HX3.out.lt; omega
  have HX4 := Lib.hid (HX3.out.keep hf hx3)
  have Y4 := Lib.hid y4
  clear hpa hf hs y4 Y3 HFMT hx3 HX3
  have x0 : w4.cell? ⟨W.heap.size, 0, none⟩ = some pv := HX4.out.cell 0
  have x1 : w4.cell? ⟨W.heap.size, 1, none⟩ = some (.int .i64 q.torn) := HX4.out.cell 1
  have x2 : w4.cell? ⟨W.heap.size, 2, none⟩ = some (.int .i64 q.cut) := HX4.out.cell 2
  by_cases hcut : 0 ≤ q.cut ∧ q.cut ≤ 128
  · obtain ⟨hc0, hc1⟩ := hcut
    have hc0' : ¬ (q.cut < 0) := by omega
    have hc1' : ¬ (128 < q.cut) := by omega
    have hfu := fuse_ok w4 Sd4 noB (fun k => k < W.heap.size) db d1 Y4.out.over.disk HLIVE.out.dead m (by omega) pv q (HP.out.keep (Fr.of_below Y4.out.below noB) (fun _ _ e => e)) hc0 hc1
    unfold planV at hfu
    have HFU := Lib.hid hfu
    clear hfu
    go_wp2_with fail
    clear e1
    refine HFU.out.mono ?_
    rintro e w5 ⟨rfl, R5, hd5, hf5, hr5⟩
    have hmm := run_makeMap (P := Try.prog) 62 w5
    go_upto_block 0 with fail
    have hcr := cr_first Y4.out hd5 hf5 hr5 HX4.out (Nat.le_refl _) hx4
    have HZ := Lib.hid hcr
    clear hcr hd5 hf5 hr5 hmm HFU Y4 HX4 hx4 x0 x1 x2 hc0' hc1'
    generalize (((w5.alloc (Obj.map #[] 0)).alloc (Obj.cells #[Value.int IntKind.i64 0, Value.map (some w5.heap.size)] 64)).alloc (Obj.cells #[Value.int IntKind.i64 0, Value.map (some w5.heap.size)] 64)) = w6 at *
    generalize w5.heap.size + 1 + 1 = bn at *
    generalize w5.heap.size + 1 = bl at *
    generalize W.heap.size = bp at HZ ⊢
    have HZ1 : Hid (∃ ml mn s p d, Cr W w6 b db ⟨bp, bl, bn, ml, mn⟩ pv q s p d ∧ (Al q p d s 0 ∨ d.dead = true ∧ Fin d.lasts s)) := Lib.hid ⟨_, _, _, _, _, HZ.out, .inl HAL.out⟩
    clear HZ
    go_cut [12, 13, 14, 15, 16, 17, 18, 19, 20, 21, 22, 23, 24, 25, 26] from 76 to 232 (fun _ _ _ _ _ _ _ _ _ _ _ _ _ _ _ wc => ∃ ml mn s p d k, Hid (Cr W wc b db ⟨bp, bl, bn, ml, mn⟩ pv q s p d) ∧ Hid (Al q p d s k ∧ k ≤ 20 ∨ d.dead = true ∧ Fin d.lasts s))
    case first =>
      go_wp2_with fail
      go_loopw [12] (fun iv wr => ∃ k : Nat, k ≤ l.length ∧ k ≤ 20 ∧ iv = .int .i64 k ∧ Hid (∃ ml mn s p d, Cr W wr b db ⟨bp, bl, bn, ml, mn⟩ pv q s p d ∧ (Al q p d s k ∨ d.dead = true ∧ Fin d.lasts s))) (fun iv _ => l.length - (intOf iv).toNat)
      case atStart => exact ⟨0, by omega, by omega, rfl, HZ1⟩
      case round =>
        rename World => wr
        obtain ⟨k, hk, hk20, rfl, HR⟩ := hrel
        obtain ⟨ml, mn, s, p, d, hcr, hst⟩ := HR.out
        have HD := Lib.hid (cr_dead hcr)
        by_cases hlt : k < l.length
        · have hlt' : (k : Int) < (l.length : Int) := by omega
          by_cases hlt20 : k < 20
          · have hlt20' : (k : Int) < 20 := by omega
            rcases hst with hal | ⟨hdd, hfin⟩
            · rw [hal.sure.dead] at HD
              obtain ⟨hcn, hne⟩ := cr_anew hcr
              have hmm := run_makeMap (P := Try.prog) 62 wr
              obtain ⟨g0, o0, rfl, t0, t1, t2, t3, hrd⟩ := HL.out.below hcr.below hlt
              have hn0 := (hcr.mem.next.alloc (.map #[] 0)).cell 0
              have hn1 := (hcr.mem.next.alloc (.map #[] 0)).cell 1
              have hz0 := (hcr.mem.next.alloc (.map #[] 0)).free 0
              have hz1 := (hcr.mem.next.alloc (.map #[] 0)).free 1
              have hl1 := hcn.mem.last.cell 1
              have HCN := Lib.hid hcn
              have HAL1 := Lib.hid hal
              have HNE := Lib.hid hne
              clear hcr hal hcn hne HR HZ1
              dsimp only at hn0 hn1 hz0 hz1 hl1
              go_wp2_with fail
              refine HD.out.mono ?_
              rintro e w' ⟨rfl, rfl⟩
              go_wp2_with (first | (at_range; refine wpList_range_txt _ rfl _ rfl ml 20 s.f rfl HCN.out.mem.lm ?_; intro w7 hgo7 hf7) | go_in)
              go_frame
              simp only [World.size_setCell]
              simp only [World.size_setCell] at hgo7
              obtain ⟨S, Sd, R, U, T, BB, D, low, hca⟩ := HCN.out
              have hfar := hca.far _ (Nat.le_refl _)
              rw [World.size_setCell, World.size_setCell] at hfar
              have hca7 : CrAt W w7 b db ⟨bp, bl, bn, ml, wr.heap.size⟩ pv q ⟨s.rl, 0, s.f, fun _ => none⟩ p d S Sd R U T BB D low := hca.turn hf7.out (fun _ e => e.elim) (hca.mem.keep hf7.out (fun _ _ e => e))
              have hrm : (wr.alloc (.map #[] 0)).heap.size ≠ wr.heap.size := by simp
              generalize (wr.alloc (.map #[] 0)).heap.size = r at *
              generalize wr.heap.size = mn at *
              have HFAR := Lib.hid hfar
              have HCA := Lib.hid (hca7.mem.nm.congr (g := fun j => if (s.f j).isSome then none else s.f j) fun j => by cases hj : s.f j <;> simp)
              have HC7 := Lib.hid (show CrAt W w7 b db ⟨bp, bl, bn, ml, mn⟩ pv q ⟨s.rl, 0, s.f, fun j => if (s.f j).isSome then none else s.f j⟩ p d S Sd R U T BB D low from ⟨hca7.sys, ⟨hca7.mem.box, hca7.mem.last, hca7.mem.next, hca7.mem.lm, HCA.out, hca7.mem.ne⟩, hca7.apart⟩)
              clear hca hfar hca7 hf7 HCA HCN hmm hn0 hn1 hz0 hz1 hl1
              go_loopw [] (fun wo => ∃ g cc, Hid (TxtGo wo ml r 20 s.f g cc) ∧ Hid (CrAt W wo b db ⟨bp, bl, bn, ml, mn⟩ pv q ⟨s.rl, 0, s.f, fun j => if g j then none else s.f j⟩ p d S Sd R U T BB D low)) (fun wo => wo.rangeLeft ml r)
              case atStart => exact ⟨_, _, hgo7, HC7⟩
              case round =>
                rename World => wo
                obtain ⟨g, cc, HG, HC⟩ := hrel
                go_wp2_with (at_next; refine wpList_next_txt _ rfl _ rfl ml r 20 cc s.f g rfl HG.out ?_ ?_)
                · intro hz
                  have hcB : Cr W wo b db ⟨bp, bl, bn, ml, mn⟩ pv q ⟨s.rl, 0, s.f, s.f⟩ p d := ⟨S, Sd, R, U, T, BB, D, low, HC.out.sys, ⟨HC.out.mem.box, HC.out.mem.last, HC.out.mem.next, HC.out.mem.lm, HC.out.mem.nm.congr fun j => by show (if g j = true then none else s.f j) = s.f j; rw [hz j]; rfl, HC.out.mem.ne⟩, HC.out.apart⟩
                  have HCB := Lib.hid hcB
                  have HMD := Lib.hid (Al.first HAL1.out)
                  clear hcB HG HC HFAR hz
                  go_upto_block 4 with fail
                  go_cut [15, 16, 17, 18] from 105 to 157 (fun _ _ _ _ wc => ∃ g p', Hid (Cr W wc b db ⟨bp, bl, bn, ml, mn⟩ pv q ⟨s.rl, 0, s.f, g⟩ p' d) ∧ Hid (Md q p' d ⟨s.rl, 0, s.f, g⟩ k 0 0))
                  case first =>
                    go_wp2_with fail
                    go_loopw [15] (fun iv wd => ∃ j : Nat, j ≤ l[k].drop.length ∧ j ≤ 6 ∧ iv = .int .i64 j ∧ Hid (∃ g p', Cr W wd b db ⟨bp, bl, bn, ml, mn⟩ pv q ⟨s.rl, 0, s.f, g⟩ p' d ∧ Md q p' d ⟨s.rl, 0, s.f, g⟩ k 0 0 ∧ ∀ j, g j = s.f j ∨ g j = none)) (fun iv _ => l[k].drop.length - (intOf iv).toNat)
                    case atStart => exact ⟨0, by omega, by omega, rfl, Lib.hid ⟨_, _, HCB.out, HMD.out, fun _ => .inl rfl⟩⟩
                    case round =>
                      rename World => wd
                      obtain ⟨j, hj, hj6, rfl, HR⟩ := hrel
                      obtain ⟨g, p', hcr, hmd, hgf⟩ := HR.out
                      obtain ⟨g1, o1, e1, t0, t1, t2, t3, hrd⟩ := HL.out.below hcr.below hlt
                      injection e1 with e1
                      injection e1 with e1 e2 _
                      subst e1 e2
                      have hdn := hcr.mem.next.cell 1
                      have hdl := hcr.mem.last.cell 1
                      dsimp only at hdn hdl
                      by_cases hjl : j < l[k].drop.length
                      · have hjl' : (j : Int) < (l[k].drop.length : Int) := by omega
                        by_cases hj6' : j < 6
                        · have hj6'' : (j : Int) < 6 := by omega
                          obtain ⟨g5, o5, hA5, _, hc5⟩ := hrd.at_ hjl
                          unfold byt at hc5
                          rw [hA5] at t2
                          have hyb := l[k].drop[j].toNat_lt
                          generalize l[k].drop[j] = y at *
                          obtain ⟨n, hn, hn2, hn20⟩ : ∃ n : Nat, (2 : Int) + (y.toNat : Int) % 18 = (n : Int) ∧ 2 ≤ n ∧ n < 20 := ⟨2 + y.toNat % 18, by omega, by omega, by omega⟩
                          have hlk := hcr.mem.nm.look_ok n (by omega)
                          dsimp only at hlk
                          have HCR := Lib.hid hcr
                          have HMD2 := Lib.hid hmd
                          have HGF := Lib.hid hgf
                          clear hcr hmd hgf HR t0 t1 t3 hrd hA5
                          cases hgn : g n with
                          | none =>
                            rw [hgn] at hlk
                            have HX := Lib.hid (show ∃ g p', Cr W wd b db ⟨bp, bl, bn, ml, mn⟩ pv q ⟨s.rl, 0, s.f, g⟩ p' d ∧ Md q p' d ⟨s.rl, 0, s.f, g⟩ k 0 0 ∧ ∀ j, g j = s.f j ∨ g j = none from ⟨g, p', HCR.out, HMD2.out, HGF.out⟩)
                            go_wp2_with fail
                            go_roundw
                            case rel => exact ⟨j + 1, by omega, by omega, rfl, HX⟩
                            case measure => simp [intOf]; omega
                          | some t =>
                            rw [hgn] at hlk
                            have hfn : s.f n = some t := by rcases HGF.out n with e | e <;> rw [hgn] at e; exact e.symm; cases e
                            have hk1 := HCR.out.mem.lm.look n (by omega)
                            have hk2 := HCR.out.mem.nm.look n (by omega)
                            dsimp only at hk1 hk2
                            rw [hfn] at hk1
                            rw [hgn] at hk2
                            have hp1 : p'.l[n]? = some 1 := by
                              obtain ⟨_, _, _, _, k5⟩ := HMD2.out.says n t hgn
                              rcases k5 with e | e
                              · exact e
                              · have := HMD2.out.used n (by show s.f n ≠ none; rw [hfn]; simp); rw [state_of isU e] at this; cases this
                            have HDR := Lib.hid (cr_drop HCR.out HMD2.out.sure.dead n hn2 hp1)
                            have hmdd := HMD2.out.drop hp1
                            have HMDD := Lib.hid hmdd
                            simp only [Option.getD_some, Option.isSome_some, bstr] at hlk hk1 hk2
                            clear hmdd HCR HMD2
                            go_wp2_with fail
                            refine HDR.out.mono ?_
                            rintro e we ⟨rfl, hcre⟩
                            have HCRE := Lib.hid hcre
                            have hen1 := hcre.mem.next.cell 1
                            dsimp only at hen1
                            clear hcre HDR hk1 hk2 hlk
                            go_wp2_with (refine wpList_del_text _ rfl (.tmp 156) (.tmp 157) rfl mn 20 _ HCRE.out.mem.nm rfl n (by omega) rfl ?_; intro wf htf hff)
                            have hcrf := cr_map HCRE.out HNE.out htf.out hff.out
                            have HX := Lib.hid (show ∃ g p', Cr W wf b db ⟨bp, bl, bn, ml, mn⟩ pv q ⟨s.rl, 0, s.f, g⟩ p' d ∧ Md q p' d ⟨s.rl, 0, s.f, g⟩ k 0 0 ∧ ∀ j, g j = s.f j ∨ g j = none from ⟨_, _, hcrf, HMDD.out, fun j => by
                              by_cases e : j = n
                              · exact .inr (if_pos e)
                              · rw [if_neg e]; exact HGF.out j⟩)
                            clear hcrf HMDD
                            go_roundw
                            case rel => exact ⟨j + 1, by omega, by omega, rfl, HX⟩
                            case measure => simp [intOf]; omega
                        · have hj6'' : ¬ ((j : Int) < 6) := by omega
                          have HX := Lib.hid hcr
                          have HY := Lib.hid hmd
                          clear hcr hmd HR hrd t0 t1 t3
                          go_wp2_with fail
                          go_meet
                          exact ⟨g, p', HX, HY⟩
                      · have hjl' : ¬ ((j : Int) < (l[k].drop.length : Int)) := by omega
                        have HX := Lib.hid hcr
                        have HY := Lib.hid hmd
                        clear hcr hmd HR hrd t0 t1 t3
                        go_wp2_with fail
                        go_meet
                        exact ⟨g, p', HX, HY⟩
                  case rest =>
                    obtain ⟨g, p1, HC3, HM3⟩ := hcut
                    rename World => wa
                    obtain ⟨t, ht, ht4⟩ : ∃ t : Nat, ((l[k].take.toNat : Int) % 4) = (t : Int) ∧ t < 4 := ⟨l[k].take.toNat % 4, by omega, by omega⟩
                    go_upto_block 6 with fail
                    go_cut [19, 20, 21, 22, 23, 24, 25] from 158 to 209 (fun rho _ _ _ _ _ _ wc => ∃ (ρ : Nat) (g : Txt) (p' : Pt) (d' : St), rho = .int .i64 (ρ : Int) ∧ Hid (Cr W wc b db ⟨bp, bl, bn, ml, mn⟩ pv q ⟨s.rl, 0, s.f, g⟩ p' d') ∧ Hid ((∃ m, m ≤ 4 ∧ Md q p' d' ⟨s.rl, 0, s.f, g⟩ k ρ m) ∨ d'.dead = true ∧ Lost d'.lasts 20 s.rl s.f ∧ Keys g))
                    case first =>
                      go_wp2_with fail
                      go_loopw [19, 20] (fun rho jv wd => ∃ j ρ : Nat, j ≤ t ∧ jv = .int .i64 j ∧ rho = .int .i64 ρ ∧ Hid (∃ g p' d', Cr W wd b db ⟨bp, bl, bn, ml, mn⟩ pv q ⟨s.rl, 0, s.f, g⟩ p' d' ∧ (Md q p' d' ⟨s.rl, 0, s.f, g⟩ k ρ j ∨ d'.dead = true ∧ Lost d'.lasts 20 s.rl s.f ∧ Keys g))) (fun _ jv _ => t - (intOf jv).toNat)
                      case atStart => exact ⟨0, 0, by omega, rfl, rfl, Lib.hid ⟨_, _, _, HC3.out, .inl HM3.out⟩⟩
                      case round =>
                        rename World => wd
                        obtain ⟨j, ρ, hj, rfl, rfl, HR⟩ := hrel
                        obtain ⟨g, p', d', hcr, hst⟩ := HR.out
                        obtain ⟨g1, o1, e1, t0, t1, t2, t3, hrd⟩ := HL.out.below hcr.below hlt
                        injection e1 with e1
                        injection e1 with e1 e2 _
                        subst e1 e2
                        clear t2 t3 hrd
                        by_cases hjt : j < t
                        · have hjt' : (j : Int) < (t : Int) := by omega
                          rcases hst with hmd | ⟨hdd, hlo, hky⟩
                          · have HA := Lib.hid (cr_alloc hcr hmd.sure.dead hmd.len)
                            have HMD := Lib.hid hmd
                            clear hcr hmd HR t1 HC3 HM3
                            go_wp2_with fail
                            refine HA.out.mono ?_
                            intro e we hpost
                            rcases hpost with ⟨i, rfl, hi2, hi20, hi0, hcre⟩ | ⟨rfl, hcre⟩
                            · obtain ⟨hmt, hfi⟩ := HMD.out.take hi0
                              obtain ⟨g1, o1, e1, _, t1, _, _, _⟩ := HL.out.below hcre.below hlt
                              injection e1 with e1
                              injection e1 with e1 e2 _
                              subst e1 e2
                              have HPL := Lib.hid (payload_law we l[k].what i j (by omega) (by omega))
                              have HCRE := Lib.hid hcre
                              have HMT := Lib.hid hmt
                              clear hcre hmt HA t0
                              go_wp2_with fail
                              refine HPL.out.mono ?_
                              rintro e wf ⟨rfl, hbf⟩
                              have hcrf := HCRE.out.next hbf
                              have hl1 := hcrf.mem.last.cell 1
                              have hlk := hcrf.mem.lm.look_ok i (by omega)
                              dsimp only at hl1 hlk
                              rw [show s.f i = none from hfi] at hlk
                              have hpl : (pay l[k].what i j).length = 5 := rfl
                              generalize pay l[k].what i j = tx at *
                              obtain ⟨cap, wx, hcv, hrdx, hbx⟩ := run_text wf tx (by omega)
                              have hcrx := hcrf.next hbx
                              have hwr := cr_write hcrx HMT.out (by omega) (by omega) i hi2 hi20 (List.getElem?_set_self (List.getElem?_eq_some_iff.1 hi0).1) hfi _ tx cap (by omega) hrdx
                              have HWR := Lib.hid hwr
                              have HKY := Lib.hid (show Keys (fun j => if j = i then some tx else g j) from fun n b hb => by
                                by_cases e : n = i
                                · subst e; exact ⟨hi2, hi20⟩
                                · simp only [if_neg e] at hb
                                  obtain ⟨k1, k2, _⟩ := HMD.out.says n b hb
                                  exact ⟨k1, k2⟩)
                              have HPL5 := Lib.hid hpl
                              clear hcrf hcrx hwr hrdx hbx hbf HPL HCRE HMT HMD t1 hpl
                              unfold bstr at *
                              go_wp2_with fail
                              refine HWR.out.mono ?_
                              rintro e wg ⟨p2, d2, rfl, hcg, hal2, hde2⟩
                              have HCG := Lib.hid hcg
                              have hgn1 := hcg.mem.next.cell 1
                              dsimp only at hgn1
                              have HDD := Lib.hid (cr_dead hcg)
                              clear hcg HWR hcv hlk hl1
                              cases hdd2 : d2.dead with
                              | false =>
                                simp only [show ecode false = 0 from rfl]
                                have HM2 := Lib.hid (hal2 hdd2)
                                clear hal2 hde2 HDD
                                go_wp2_with (refine wpList_put_text _ rfl (.tmp 206) (.tmp 207) (.tmp 208) rfl mn 20 _ HCG.out.mem.nm rfl i hi20 (by omega) rfl tx (by have := HPL5.out; omega) rfl ?_; intro wh hth hfh)
                                have HX := Lib.hid (show ∃ g p' d', Cr W wh b db ⟨bp, bl, bn, ml, mn⟩ pv q ⟨s.rl, 0, s.f, g⟩ p' d' ∧ (Md q p' d' ⟨s.rl, 0, s.f, g⟩ k i (j + 1) ∨ d'.dead = true ∧ Lost d'.lasts 20 s.rl s.f ∧ Keys g) from ⟨_, p2, d2, cr_map HCG.out HNE.out hth.out hfh.out, .inl HM2.out⟩)
                                go_roundw
                                case rel => exact ⟨j + 1, i, by omega, rfl, rfl, HX⟩
                                case measure => simp [intOf]; omega
                              | true =>
                                simp only [show ecode true = 20 from rfl]
                                rw [hdd2] at HDD
                                have HM2 := Lib.hid (hde2 hdd2)
                                clear hal2 hde2
                                go_wp2_with fail
                                refine HDD.out.mono ?_
                                rintro e w' ⟨rfl, rfl⟩
                                go_wp2_with (refine wpList_put_text _ rfl (.tmp 206) (.tmp 207) (.tmp 208) rfl mn 20 _ HCG.out.mem.nm rfl i hi20 (by omega) rfl tx (by have := HPL5.out; omega) rfl ?_; intro wh hth hfh)
                                have HX := Lib.hid (show ∃ g p' d', Cr W wh b db ⟨bp, bl, bn, ml, mn⟩ pv q ⟨s.rl, 0, s.f, g⟩ p' d' ∧ (Md q p' d' ⟨s.rl, 0, s.f, g⟩ k i (j + 1) ∨ d'.dead = true ∧ Lost d'.lasts 20 s.rl s.f ∧ Keys g) from ⟨_, p2, d2, cr_map HCG.out HNE.out hth.out hfh.out, .inr ⟨hdd2, HM2.out, HKY.out⟩⟩)
                                go_roundw
                                case rel => exact ⟨j + 1, i, by omega, rfl, rfl, HX⟩
                                case measure => simp [intOf]; omega
                            · have HX := Lib.hid hcre
                              have HY := Lib.hid (show (∃ m, m ≤ 4 ∧ Md q p' d' ⟨s.rl, 0, s.f, g⟩ k ρ m) ∨ d'.dead = true ∧ Lost d'.lasts 20 s.rl s.f ∧ Keys g from .inl ⟨j, by omega, HMD.out⟩)
                              clear hcre HA HMD t0
                              go_wp2_with fail
                              go_meet
                              exact ⟨ρ, g, p', d', rfl, HX, HY⟩
                          · have HA := Lib.hid (cr_alloc_dead hcr hdd)
                            have HX := Lib.hid hcr
                            have HY := Lib.hid (show (∃ m, m ≤ 4 ∧ Md q p' d' ⟨s.rl, 0, s.f, g⟩ k ρ m) ∨ d'.dead = true ∧ Lost d'.lasts 20 s.rl s.f ∧ Keys g from .inr ⟨hdd, hlo, hky⟩)
                            clear hcr HR t1 HC3 HM3
                            go_wp2_with fail
                            refine HA.out.mono ?_
                            rintro e w' ⟨rfl, rfl⟩
                            go_wp2_with fail
                            go_meet
                            exact ⟨ρ, g, p', d', rfl, HX, HY⟩
                        · have hjt' : ¬ ((j : Int) < (t : Int)) := by omega
                          have HX := Lib.hid hcr
                          have HY := Lib.hid (show (∃ m, m ≤ 4 ∧ Md q p' d' ⟨s.rl, 0, s.f, g⟩ k ρ m) ∨ d'.dead = true ∧ Lost d'.lasts 20 s.rl s.f ∧ Keys g from hst.imp (fun h => ⟨j, by omega, h⟩) id)
                          clear hcr hst HR t1
                          go_wp2_with fail
                          go_meet
                          exact ⟨ρ, g, p', d', rfl, HX, HY⟩
                    case rest =>
                      obtain ⟨ρ, g, p2, d2, rfl, HC4, HM4⟩ := hcut
                      rename World => wb
                      have hdd4 := cr_dead HC4.out
                      obtain ⟨g1, o1, e1, _, _, _, t3, _⟩ := HL.out.below HC4.out.below hlt
                      injection e1 with e1
                      injection e1 with e1 e2 _
                      subst e1 e2
                      clear HC3 HM3 ht
                      rcases HM4.out with ⟨m4, hm4, hmd⟩ | ⟨hdd, hlo, hky⟩
                      · rw [hmd.sure.dead] at hdd4
                        have HDD := Lib.hid hdd4
                        have HMD := Lib.hid hmd
                        clear hdd4 hmd HM4
                        cases hcm : l[k].commit with
                        | false =>
                          rw [hcm] at t3
                          have HAB := Lib.hid (cr_abort HC4.out HMD.out hm4)
                          clear hcm
                          go_wp2_with fail
                          refine HDD.out.mono ?_
                          rintro e w' ⟨rfl, rfl⟩
                          go_wp2_with fail
                          refine HAB.out.mono ?_
                          rintro e wx ⟨rfl, p3, hcr3, hal3⟩
                          have x0 := hcr3.mem.last.cell 0
                          have x1 := hcr3.mem.last.cell 1
                          have y0 := hcr3.mem.next.cell 0
                          have y1 := hcr3.mem.next.cell 1
                          have z0 := hcr3.mem.next.free 0
                          have z1 := hcr3.mem.next.free 1
                          dsimp only at x0 x1 y0 y1 z0 z1
                          have HX := Lib.hid (show ∃ ml' mn' s' p' d', Cr W ((wx.setCell ⟨bn, 0, none⟩ (.int .i64 (s.rl : Int))).setCell ⟨bn, 1, none⟩ (.map (some ml))) b db ⟨bp, bl, bn, ml', mn'⟩ pv q s' p' d' ∧ (Al q p' d' s' (k + 1) ∨ d'.dead = true ∧ Fin d'.lasts s') from ⟨_, _, _, _, _, cr_back hcr3, .inl (hal3 _ _)⟩)
                          clear hcr3 hal3 HAB HDD HC4 HMD
                          go_wp2_with fail
                          go_roundw
                          case rel => exact ⟨k + 1, by omega, by omega, rfl, HX⟩
                          case measure => simp [intOf]; omega
                        | true =>
                          rw [hcm] at t3
                          have hcr5 := cr_root HC4.out ρ
                          have HCO := Lib.hid (cr_commit hcr5 (HMD.out.rooted ρ) (by omega) hm4 hc1)
                          have y0 := HC4.out.mem.next.cell 0
                          have z0 := HC4.out.mem.next.free 0
                          dsimp only at y0 z0
                          have hkg : Keys g := fun n t hn => by
                            obtain ⟨k1, k2, _⟩ := HMD.out.says n t hn
                            exact ⟨k1, k2⟩
                          have hkf := Sure.keys HMD.out.sure
                          have HKG := Lib.hid hkg
                          have HKF := Lib.hid hkf
                          clear hcm hcr5 hkg hkf HC4 HMD
                          go_wp2_with fail
                          refine HDD.out.mono ?_
                          rintro e w' ⟨rfl, rfl⟩
                          go_wp2_with fail
                          refine HCO.out.mono ?_
                          rintro e wx ⟨p5, d5, rfl, hcr6, hal6, hde6⟩
                          have HD6 := Lib.hid (cr_dead hcr6)
                          clear HCO HDD y0 z0 t3
                          cases hd5 : d5.dead with
                          | false =>
                            simp only [show ecode false = 0 from rfl]
                            have x0 := hcr6.mem.next.cell 0
                            have x1 := hcr6.mem.next.cell 1
                            have y0 := hcr6.mem.last.cell 0
                            have y1 := hcr6.mem.last.cell 1
                            have z0 := hcr6.mem.last.free 0
                            have z1 := hcr6.mem.last.free 1
                            dsimp only at x0 x1 y0 y1 z0 z1
                            have HX := Lib.hid (show ∃ ml' mn' s' p' d', Cr W ((wx.setCell ⟨bl, 0, none⟩ (.int .i64 (ρ : Int))).setCell ⟨bl, 1, none⟩ (.map (some mn))) b db ⟨bp, bl, bn, ml', mn'⟩ pv q s' p' d' ∧ (Al q p' d' s' (k + 1) ∨ d'.dead = true ∧ Fin d'.lasts s') from ⟨_, _, _, _, _, cr_forth hcr6, .inl (hal6 hd5 _ _)⟩)
                            clear hcr6 hal6 hde6 HD6
                            go_wp2_with fail
                            go_roundw
                            case rel => exact ⟨k + 1, by omega, by omega, rfl, HX⟩
                            case measure => simp [intOf]; omega
                          | true =>
                            simp only [show ecode true = 20 from rfl]
                            rw [hd5] at HD6
                            have HX := Lib.hid (show ∃ ml' mn' s' p' d', Cr W wx b db ⟨bp, bl, bn, ml', mn'⟩ pv q s' p' d' ∧ (Al q p' d' s' (k + 1) ∨ d'.dead = true ∧ Fin d'.lasts s') from ⟨_, _, _, _, _, hcr6, .inr ⟨hd5, hde6 hd5, HKF.out, HKG.out⟩⟩)
                            clear hcr6 hal6 hde6
                            go_wp2_with fail
                            refine HD6.out.mono ?_
                            rintro e w' ⟨rfl, rfl⟩
                            go_wp2_with fail
                            go_roundw
                            case rel => exact ⟨k + 1, by omega, by omega, rfl, HX⟩
                            case measure => simp [intOf]; omega
                      · rw [hdd] at hdd4
                        have HDD := Lib.hid hdd4
                        have HX := Lib.hid (show ∃ ml mn s p d k, Hid (Cr W wb b db ⟨bp, bl, bn, ml, mn⟩ pv q s p d) ∧ Hid (Al q p d s k ∧ k ≤ 20 ∨ d.dead = true ∧ Fin d.lasts s) from ⟨ml, mn, _, p2, d2, 0, HC4, Lib.hid (.inr ⟨hdd, .inl hlo, Sure.keys HAL1.out.sure, hky⟩)⟩)
                        clear hdd4 HC4 HM4 t3
                        go_wp2_with fail
                        refine HDD.out.mono ?_
                        rintro e w' ⟨rfl, rfl⟩
                        go_wp2_with fail
                        go_meet
                        exact HX.out
                · intro i t w8 c8 hgi hfi hi20 hgo8 hlt8 hf8 hen
                  have hc8 := HC.out.step hf8.out HFAR.out
                  have hcnt := HG.out.count
                  have HLT8 := Lib.hid hlt8
                  have y1 := hc8.mem.next.cell 1
                  have HC8 := Lib.hid hc8
                  have HT := Lib.hid (hc8.mem.nm)
                  clear hc8
                  dsimp only at y1
                  have htl : t.length ≤ 140737488355328 := by
                    obtain ⟨x, j, hx⟩ := HAL1.out.sure
                    have := (hx.says i t hfi).2.2.1
                    omega
                  go_wp2_with (refine wpList_put_text _ rfl (.tmp 102) (.tmp 103) (.tmp 104) rfl mn 20 _ HT.out rfl i hi20 (by omega) rfl t htl rfl ?_; intro w9 ht9 hf9)
                  have hgo9 := hgo8.out.keep hf9.out (fun e => HNE.out e) (fun e => hrm e)
                  have hc9 := HC8.out.map (s := ⟨s.rl, 0, s.f, fun j => if g j then none else s.f j⟩) HNE.out ht9.out hf9.out
                  have HG9 := Lib.hid hgo9
                  have hcn9 := hgo9.count
                  have HC9 := Lib.hid (show CrAt W w9 b db ⟨bp, bl, bn, ml, mn⟩ pv q ⟨s.rl, 0, s.f, fun j => if (g j && j != i) then none else s.f j⟩ p d S Sd R U T BB D low from ⟨hc9.sys, ⟨hc9.mem.box, hc9.mem.last, hc9.mem.next, hc9.mem.lm, hc9.mem.nm.congr fun j => by
                    by_cases e : j = i
                    · subst e; simp [hfi]
                    · simp [e], hc9.mem.ne⟩, hc9.apart⟩)
                  clear hgo9 hc9
                  go_roundw
                  case rel => first | exact ⟨_, _, HG9, HC9⟩ | exact ⟨_, ⟨_, HG9⟩, HC9⟩
                  case measure => first | omega | simpa using hlt8 | exact hlt8
            · rw [hdd] at HD
              have HR1 := Lib.hid (show ∃ ml mn s p d k, Hid (Cr W wr b db ⟨bp, bl, bn, ml, mn⟩ pv q s p d) ∧ Hid (Al q p d s k ∧ k ≤ 20 ∨ d.dead = true ∧ Fin d.lasts s) from ⟨ml, mn, s, p, d, 0, Lib.hid hcr, Lib.hid (.inr ⟨hdd, hfin⟩)⟩)
              clear hcr hdd hfin HR HZ1
              go_wp2_with fail
              refine HD.out.mono ?_
              rintro e w' ⟨rfl, rfl⟩
              go_wp2_with fail
              go_meet
              exact HR1.out
          · have hlt20' : ¬ ((k : Int) < 20) := by omega
            have HR1 := Lib.hid (show ∃ ml mn s p d k, Hid (Cr W wr b db ⟨bp, bl, bn, ml, mn⟩ pv q s p d) ∧ Hid (Al q p d s k ∧ k ≤ 20 ∨ d.dead = true ∧ Fin d.lasts s) from ⟨ml, mn, s, p, d, k, Lib.hid hcr, Lib.hid (hst.imp (fun h => ⟨h, hk20⟩) id)⟩)
            clear hcr hst HR HZ1
            go_wp2_with fail
            go_meet
            exact HR1.out
        · have hlt' : ¬ ((k : Int) < (l.length : Int)) := by omega
          have HR1 := Lib.hid (show ∃ ml mn s p d k, Hid (Cr W wr b db ⟨bp, bl, bn, ml, mn⟩ pv q s p d) ∧ Hid (Al q p d s k ∧ k ≤ 20 ∨ d.dead = true ∧ Fin d.lasts s) from ⟨ml, mn, s, p, d, k, Lib.hid hcr, Lib.hid (hst.imp (fun h => ⟨h, hk20⟩) id)⟩)
          clear hcr hst HR HZ1
          go_wp2_with fail
          go_meet
          exact HR1.out
    case rest => as_aux_lemma =>
      obtain ⟨ml, mn, s, p, d, k, HC, HS⟩ := hcut
      rename World => wc
      have HDD := Lib.hid (cr_dead HC.out)
      clear HAL HLIVE HZ1
      go_wp2_with fail
      refine HDD.out.mono ?_
      rintro e w' ⟨rfl, rfl⟩
      go_upto_if 235 with fail
      go_cut [] from 234 to 239 (fun wx => ∃ mn' s' d', Hid (Dn W wx db ⟨bp, bl, bn, ml, mn'⟩ pv q s' d') ∧ Hid (d'.dead = true ∧ Fin d'.lasts s'))
      case first =>
        rcases HS.out with ⟨hal, hk⟩ | hfin
        · rw [hal.sure.dead]
          have hkf := Sure.keys hal.sure
          have hlost := sure_crash hal.sure (by omega) (by have := hal.seq; omega) q
          have hfew := hal.few
          have hdead := hal.sure.dead
          obtain ⟨S, Sd, R, U, T, BB, D, low, hca⟩ := HC.out
          have x0 := hca.mem.box.cell 0
          have x1 := hca.mem.box.cell 1
          have x2 := hca.mem.box.cell 2
          dsimp only at x0 x1 x2
          have hcc := crash_ok _ Sd R (fun k => k < W.heap.size) db d hca.sys.over.disk hdead pv q (HP.out.keep (Fr.of_below hca.sys.below noB) (fun _ _ e => e)) hc0 hc1 (fun k hk e => by have := hca.sys.news k ((hca.sys.over.own k).2 (.inl e)); omega) (by have := hfew.waits; omega)
          unfold planV at hcc
          have HCC := Lib.hid hcc
          have HCA := Lib.hid hca
          have HF2 := Lib.hid (show (d.crash q).dead = true ∧ Fin (d.crash q).lasts ⟨s.rl, s.rl, s.f, s.f⟩ from ⟨rfl, .inl hlost, hkf, hkf⟩)
          clear hcc hca hal hkf hlost hfew hdead HC HS HDD
          go_wp2_with fail
          refine HCC.out.mono ?_
          rintro e wd ⟨rfl, hg⟩
          obtain ⟨hmm, hdn⟩ := dn_crash HCA.out hg
          have a0 := hmm.last.cell 0
          have a1 := hmm.last.cell 1
          have y0 := hmm.next.cell 0
          have y1 := hmm.next.cell 1
          have z0 := hmm.next.free 0
          have z1 := hmm.next.free 1
          dsimp only at a0 a1 y0 y1 z0 z1
          have HDN := Lib.hid hdn
          clear hmm hdn hg HCC HCA x0 x1 x2
          go_wp2_with fail
          go_meet
          exact ⟨_, _, _, HDN, HF2⟩
        · rw [hfin.1]
          have HX := Lib.hid HC.out.dn
          have HY := Lib.hid hfin
          clear HC HS HDD hfin
          go_wp2_with fail
          go_meet
          exact ⟨_, _, _, HX, HY⟩
      case rest =>
        obtain ⟨mn', s', d', HDN, HF⟩ := hcut
        rename World => we
        obtain ⟨Sd, R, hdk, hmm, hbw⟩ := HDN.out
        have HRO := Lib.hid (reopen_ok we Sd R db d' hdk HF.out.1)
        have HM := Lib.hid hmm
        have HB := Lib.hid hbw
        obtain ⟨r, f0, hlo, hor⟩ : ∃ r f0, Lost d'.lasts 20 r f0 ∧ (r = s'.rl ∧ f0 = s'.f ∨ r = s'.rn ∧ f0 = s'.g) := by
          rcases HF.out.2.lost with h | h
          · exact ⟨_, _, h, .inl ⟨rfl, rfl⟩⟩
          · exact ⟨_, _, h, .inr ⟨rfl, rfl⟩⟩
        have hgood := good_of hlo
        obtain ⟨hlen, ⟨sq, hmeta⟩, _⟩ := hlo
        have HOP := fun w S' b' (h : DiskAt w S' noB b' (Dk.fresh d'.lasts)) => open_some w S' noB b' (Dk.fresh d'.lasts) h rfl (by show 12 ≤ d'.lasts.length; rw [hlen]; omega) sq r hmeta
        unfold OpenPost at HOP
        rw [show (Dk.fresh d'.lasts).lasts.length = d'.lasts.length from rfl, hlen, show 20 * 4 / 4 = 20 from rfl] at HOP
        have HOP' := Lib.hid HOP
        have HG := Lib.hid hgood
        have HOR := Lib.hid hor
        have HKF := Lib.hid HF.out.2.keysf
        have HKG := Lib.hid HF.out.2.keysg
        clear HOP hgood hor hmeta hlen HDN HF hdk hmm hbw HC HS HDD
        go_wp2_with fail
        refine HRO.out.mono ?_
        rintro e wf ⟨b', S', rfl, hd', hb', hs'⟩
        have HM2 := Lib.hid (HM.out.keep (Fr.of_below hb' noB) (fun _ _ e => e))
        have HB2 := Lib.hid (HB.out.trans (hb'.mono HB.out.size))
        have HD' := Lib.hid hd'
        clear hd' hb' hs' HRO HM HB
        unfold ptr
        go_wp2_with fail
        refine (HOP'.out wf S' b' HD'.out).mono ?_
        rintro e wg ⟨b6, S6, rfl, hp6, hb6, hs6⟩
        obtain ⟨Sd6, U6, T6, B6, D6, low6, y6⟩ := hp6
        have hm6 := HM2.out.keep (Fr.of_below hb6 noB) (fun _ _ e => e)
        have HB6 := Lib.hid (HB2.out.trans (hb6.mono HB2.out.size))
        have hq6 : ∀ n, 2 ≤ n → n < (Pr.opened 20 sq r).l.length → stp isF (Pr.opened 20 sq r).l n = false ∧ stp isB (Pr.opened 20 sq r).l n = false := fun n h2 hn => by
          rw [opened_len (by omega)] at hn
          have := opened_one h2 hn sq r
          exact ⟨by rw [state_of isF this]; rfl, by rw [state_of isB this]; rfl⟩
        have hkk : ∀ f, Keys f → ∀ n t, f n = some t → 2 ≤ n ∧ n < (Pr.opened 20 sq r).l.length := fun f hf n t hn => by
          rw [opened_len (by omega)]
          exact hf n t hn
        have HS1 := Lib.hid (stands_any wg S6 Sd6 noB b6 b' U6 T6 B6 D6 low6 _ _ y6 rfl hq6 r s'.rl ml 20 s'.f hm6.lm (hkk _ HKF.out))
        have x0 := hm6.last.cell 0
        have x1 := hm6.last.cell 1
        have Y6 := Lib.hid y6
        have HM6 := Lib.hid hm6
        have HQ6 := Lib.hid hq6
        have HKK := Lib.hid hkk
        dsimp only at x0 x1
        clear y6 hm6 hb6 hs6 hq6 hkk HM2 HB2 HD' HOP'
        go_wp2_with fail
        refine HS1.out.mono ?_
        rintro e wh ⟨v1, rfl, hbh, hy1⟩
        have HBH := Lib.hid (HB6.out.trans (hbh.mono HB6.out.size))
        cases v1 with
        | true =>
          clear hbh hy1 HS1
          go_wp2_with fail
          go_ret
          exact ⟨rfl, HBH.out⟩
        | false =>
          have hor2 : r = s'.rn ∧ f0 = s'.g := by
            rcases HOR.out with ⟨e1, e2⟩ | h
            · have := hy1 e1 (by rw [← e2]; exact HG.out)
              cases this
            · exact h
          have hmh := HM6.out.keep (Fr.of_below hbh noB) (fun _ _ e => e)
          have y0 := hmh.next.cell 0
          have y1 := hmh.next.cell 1
          have HS2 := Lib.hid (stands_any wh S6 Sd6 noB b6 b' U6 T6 B6 D6 low6 _ _ (Y6.out.below hbh) rfl HQ6.out r s'.rn mn' 20 s'.g hmh.nm (HKK.out _ HKG.out))
          have HOR2 := Lib.hid hor2
          dsimp only at y0 y1
          clear hbh hy1 HS1 hmh hor2 x0 x1
          go_wp2_with fail
          refine HS2.out.mono ?_
          rintro e wi ⟨v2, rfl, hbi, hy2⟩
          obtain rfl : v2 = true := hy2 HOR2.out.1 (by rw [← HOR2.out.2]; exact HG.out)
          have HBI := Lib.hid (HBH.out.trans (hbi.mono HBH.out.size))
          clear hbi hy2 HS2
          go_wp2_with fail
          go_ret
          exact ⟨rfl, HBI.out⟩
  · as_aux_lemma =>
    have HB4 := Lib.hid Y4.out.below
    clear Y4 HP HL HAL HLIVE e1
    by_cases hc0 : q.cut < 0
    · clear hcut hx4 HX4
      go_wp2_with fail
      go_ret
      exact ⟨rfl, HB4.out⟩
    · have hc1 : 128 < q.cut := by omega
      clear hcut hx4 HX4
      go_wp2_with fail
      go_ret
      exact ⟨rfl, HB4.out⟩
end Go.Proofs.Ythlmjnlakenmoaa.pcrash

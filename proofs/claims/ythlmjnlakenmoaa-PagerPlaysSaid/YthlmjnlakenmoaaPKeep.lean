/-
  What was written is kept, and then the meta.
-/
import Derived.Test.YthlmjnlakenmoaaPFormat
import Derived.Deep.CutRange
import Derived.Deep.RegionWith
namespace Go.Proofs.Ythlmjnlakenmoaa
open Go.RowKit Go.Maps
set_option maxRecDepth 100000

def Dk.St.keep (d : Dk.St) (s r : Nat) : Dk.St :=
  if d.flush.dead then d.flush else if (d.flush.putMeta (s % 2) s r).dead then d.flush.putMeta (s % 2) s r else (d.flush.putMeta (s % 2) s r).flush
theorem keep_len (d : Dk.St) (s r : Nat) : (d.keep s r).lasts.length = d.lasts.length := by
  have h1 := flush_lasts_len d
  have h2 : (d.flush.putMeta (s % 2) s r).lasts.length = d.lasts.length := (puts_lasts_len _ _ _ _).trans h1
  unfold Dk.St.keep
  split
  · exact h1
  · split
    · exact h2
    · rw [flush_lasts_len]; exact h2
theorem keep_few {d : Dk.St} {j : Nat} (h : d.Few j) (s r : Nat) : (d.keep s r).Few (j + 6) := by
  have h1 := few_flush h
  have h2 : (d.flush.putMeta (s % 2) s r).Few (j + 5) := (few_puts h1 _ _ 4).more (by omega)
  unfold Dk.St.keep
  split
  · exact h1.more (by omega)
  · split
    · exact h2.more (by omega)
    · exact few_flush h2
theorem keep_one {d : Dk.St} {s r : Nat} (h : d.flush.dead = true) : d.keep s r = d.flush := by
  unfold Dk.St.keep; rw [if_pos h]
theorem keep_two {d : Dk.St} {s r : Nat} (h : d.flush.dead = false) (h2 : (d.flush.putMeta (s % 2) s r).dead = true) : d.keep s r = d.flush.putMeta (s % 2) s r := by
  unfold Dk.St.keep; rw [if_neg (by rw [h]; simp), if_pos h2]
theorem keep_all {d : Dk.St} {s r : Nat} (h : d.flush.dead = false) (h2 : (d.flush.putMeta (s % 2) s r).dead = false) : d.keep s r = (d.flush.putMeta (s % 2) s r).flush := by
  unfold Dk.St.keep; rw [if_neg (by rw [h]; simp), if_neg (by rw [h2]; simp)]
set_option maxHeartbeats 1600000 in
theorem pkeep_any (w : World) (Sd R : Nat → Prop) (b db : Nat) (d : Dk.St) (h : DiskAt w Sd R db d) (hdead : d.dead = false) (hbS : ¬ Sd b) (hp : w.cell? ⟨b, 0, none⟩ = some (.pointer (some ⟨db, 0, none⟩))) (few : d.Few 800000) (hn : 12 ≤ d.lasts.length) (s r : Nat) (hs : s ≤ 4611686018427387905) (hr : r ≤ 1000000) :
    Calls Try.prog 46 #[.pointer (some ⟨b, 0, none⟩), .agg #[.int .i64 (s : Int), .int .i64 (r : Int)]] w fun e w' => e = .returned (.int .i64 (ecode (d.keep s r).dead)) ∧ Goes Sd R db (d.keep s r) w w' := by
  have hblt := block_lt_of_cell hp
  have hb0 : Below w.heap.size w (w.alloc (.cells #[.int .i64 (s : Int), .int .i64 (r : Int)] 76)) := (Below.refl _ _).alloc (Nat.le_refl _) _
  have hm0 : Has (w.alloc (.cells #[.int .i64 (s : Int), .int .i64 (r : Int)] 76)) w.heap.size 76 #[.int .i64 (s : Int), .int .i64 (r : Int)] := Has.of_alloc _ _ _
  have hd0 := h.keep (Fr.of_below hb0 noB) (fun _ e => e.elim)
  have hfl := flush_at _ Sd R db d hd0 hdead (by have := few.waits; omega) (by have := few.done; omega) few.left
  rw [flush_err hdead] at hfl
  have hsz0 : (w.alloc (.cells #[.int .i64 (s : Int), .int .i64 (r : Int)] 76)).heap.size = w.heap.size + 1 := by simp
  have hnS : ¬ Sd w.heap.size := fun e => by have := h.lt _ e; omega
  have HFL := Lib.hid hfl
  have HP := Lib.hid hp
  have HB := Lib.hid hb0
  have HM := Lib.hid hm0
  have HF := Lib.hid few
  clear h hp hb0 hm0 hd0 hfl few
  go_enter Try.func46, Try.ntmps46
  have hp0 : (w.alloc (.cells #[.int .i64 (s : Int), .int .i64 (r : Int)] 76)).cell? ⟨b, 0, none⟩ = some (.pointer (some ⟨db, 0, none⟩)) := (World.cell?_of_block (HB.out.block b hblt)).trans HP.out
  go_wp2_with fail
  refine HFL.out.mono ?_
  rintro e w1 ⟨rfl, hg⟩
  obtain ⟨S1, hD1, hF1, hS1⟩ := hg
  have hm1 := HM.out.keep hF1 hnS
  have hp1 : w1.cell? ⟨b, 0, none⟩ = some (.pointer (some ⟨db, 0, none⟩)) := (World.cell?_of_block (hF1.old b (by omega) hbS)).trans hp0
  have hbS1 : ¬ S1 b := fun e => by
    rcases hS1 b e with e | e
    · exact hbS e
    · omega
  have hmS1 : ¬ S1 w.heap.size := fun e => by
    rcases hS1 _ e with e | e
    · exact hnS e
    · omega
  have hs1 : ∀ k, S1 k → Sd k ∨ w.heap.size ≤ k := fun k hk => (hS1 k hk).imp id (fun e => by omega)
  have hf1 : Fr Sd w w1 := (Fr.of_below HB.out Sd).trans hF1 (fun _ _ e => e)
  have HD1 := Lib.hid hD1
  have HF1 := Lib.hid hf1
  have HS1 := Lib.hid hs1
  have HM1 := Lib.hid hm1
  have HP1 := Lib.hid hp1
  have m0 : w1.cell? ⟨w.heap.size, 0, none⟩ = some (.int .i64 (s : Int)) := hm1.cell 0
  have m1 : w1.cell? ⟨w.heap.size, 1, none⟩ = some (.int .i64 (r : Int)) := hm1.cell 1
  clear hD1 hF1 hS1 hm1 hp1 hf1 hs1 HFL HM hp0
  cases hd1 : d.flush.dead
  · have hpay := payload_at w1.drew s r
    rw [sint_nat s (by omega), sint_nat r (by omega)] at hpay
    have hput := fun W (hb : Below w1.heap.size w1 W) A c hr => pput_meta W S1 R b db d.flush (HD1.out.keep (Fr.of_below hb noB) (fun _ e => e.elim)) hd1 hbS1 ((World.cell?_of_block (hb.block b (block_lt_of_cell HP1.out))).trans HP1.out) ((few_flush HF.out).more (by omega)) (s % 2) (by rw [flush_lasts_len]; omega) A s r c hr
    have htm : ((s % 2 : Nat) : Int) = (s : Int).tmod 2 := by rw [Int.tmod_eq_emod_of_nonneg (by omega)]; omega
    rw [htm] at hput
    have HPAY := Lib.hid hpay
    have HPUT := Lib.hid hput
    have HD := Lib.hid hd1
    clear hpay hput hd1 htm
    simp only [show ecode false = 0 from rfl]
    go_upto_region 4 with fail
    go_cut [6] from 15 to 21 (fun s6 wx => s6 = .int .i64 (ecode (d.flush.putMeta (s % 2) s r).dead) ∧ Goes Sd R db (d.flush.putMeta (s % 2) s r) w wx ∧ wx.cell? ⟨b, 0, none⟩ = some (.pointer (some ⟨db, 0, none⟩)))
    case first =>
      go_region_with (first
        | (go_at_call 40; refine HPAY.out.mono ?_; rintro e w2 ⟨A, c, rfl, hr2, hb2⟩; have m0' : w2.cell? ⟨w.heap.size, 0, none⟩ = some (.int .i64 (s : Int)) := (World.cell?_of_block (hb2.block _ HM1.out.lt)).trans m0; have m1' : w2.cell? ⟨w.heap.size, 1, none⟩ = some (.int .i64 (r : Int)) := (World.cell?_of_block (hb2.block _ HM1.out.lt)).trans m1; have HR2 := Lib.hid hr2; have HB2 := Lib.hid hb2; clear hr2 hb2)
        | (go_at_call 39; refine (HPUT.out w2 ((Below.drew (Below.refl w1.heap.size w1)).trans HB2.out) A c HR2.out).mono ?_; rintro e w3 ⟨rfl, hg3⟩; have HG3 := Lib.hid hg3; clear hg3))
      all_goals (go_wp2_with fail; go_meet; refine ⟨rfl, Goes.after ((HF1.out.drew).trans (Fr.of_below HB2.out noB) (fun _ _ e => e.elim)) (fun k hk => (HS1.out k hk)) HG3.out, ?_⟩; obtain ⟨S3, _, f3, _⟩ := HG3.out; exact (World.cell?_of_block (f3.old b (Nat.lt_of_lt_of_le (block_lt_of_cell HP1.out) HB2.out.size) hbS1)).trans ((World.cell?_of_block (HB2.out.block b (block_lt_of_cell HP1.out))).trans HP1.out))
    case rest =>
      obtain ⟨rfl, hg, hp3⟩ := hcut
      obtain ⟨S3, hD3, hF3, hS3⟩ := hg
      have HD3 := Lib.hid hD3
      have HF3 := Lib.hid hF3
      have HS3 := Lib.hid hS3
      clear hD3 hF3 hS3
      cases hd2 : (d.flush.putMeta (s % 2) s r).dead
      · have hfw : (d.flush.putMeta (s % 2) s r).Few 850000 := (few_puts (few_flush HF.out) _ _ 4).more (by omega)
        have hfl := flush_at wc S3 R db _ HD3.out hd2 (by have := hfw.waits; omega) (by have := hfw.done; omega) hfw.left
        rw [flush_err hd2, ← keep_all HD.out hd2] at hfl
        have HFL := Lib.hid hfl
        clear hfl hd2 hfw
        simp only [show ecode false = 0 from rfl]
        go_wp2_with fail
        refine HFL.out.mono ?_
        rintro e w4 ⟨rfl, hg4⟩
        have HG4 := Lib.hid (Goes.after HF3.out HS3.out hg4)
        clear hg4
        go_wp2_with fail
        go_ret
        exact ⟨rfl, HG4.out⟩
      · have hk2 := keep_two HD.out hd2
        have HK2 := Lib.hid hk2
        have HD2 := Lib.hid hd2
        clear hk2 hd2
        simp only [show ecode true = 20 from rfl]
        go_wp2_with fail
        go_ret
        rw [HK2.out, HD2.out]
        exact ⟨rfl, S3, HD3.out, HF3.out, HS3.out⟩
  · have hk1 := keep_one (s := s) (r := r) hd1
    have HK1 := Lib.hid hk1
    have HDD := Lib.hid hd1
    clear hk1 hd1
    simp only [show ecode true = 20 from rfl]
    go_wp2_with fail
    go_ret
    rw [HK1.out, HDD.out]
    exact ⟨rfl, S1, HD1.out, HF1.out, HS1.out⟩
end Go.Proofs.Ythlmjnlakenmoaa

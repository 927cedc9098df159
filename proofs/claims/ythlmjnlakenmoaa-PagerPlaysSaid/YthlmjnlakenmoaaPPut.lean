/-
  A page is written to the disk, sector by sector.
-/
import Derived.Test.YthlmjnlakenmoaaPGet
namespace Go.Proofs.Ythlmjnlakenmoaa
open Go.RowKit Go.Maps
set_option maxRecDepth 100000

/-- the k-th sector of a page -/
def part (pg : List UInt8) (k : Nat) : List UInt8 := (pg.drop (k * 128)).take 128
theorem part_length {pg : List UInt8} (h : pg.length = 512) {k : Nat} (hk : k < 4) : (part pg k).length = 128 := by
  rw [part, List.length_take, List.length_drop]; omega
/-- behind the first k sectors -/
def Dk.St.puts (d : Dk.St) (n : Nat) (pg : List UInt8) : Nat → Dk.St
  | 0 => d
  | k + 1 => if (d.puts n pg k).dead then d.puts n pg k else (d.puts n pg k).write (n * 4 + k) (part pg k)
theorem due_wait (d : Dk.St) (i : Nat) (s : List UInt8) : (d.wait i s).due = d.due := rfl
theorem write_dead_iff {d : Dk.St} (h : d.dead = false) (i : Nat) (s : List UInt8) : (d.write i s).dead = d.due := by
  unfold Dk.St.write Dk.St.step
  rw [due_wait]
  cases hd : d.due
  · rw [if_neg (by simp)]; exact h
  · rw [if_pos rfl]; rfl
/-- the error of a call behind which the disk is dead, or not -/
def ecode (x : Bool) : Int := match x with | true => 20 | false => 0
theorem write_err {d : Dk.St} (h : d.dead = false) (i : Nat) (s : List UInt8) : (d.wait i s).stepErr = ecode (d.write i s).dead := by
  rw [write_dead_iff h]
  unfold Dk.St.stepErr
  rw [due_wait]
  cases d.due <;> rfl
theorem flush_dead_iff {d : Dk.St} (h : d.dead = false) : d.flush.dead = d.due := by
  unfold Dk.St.flush
  cases hd : d.due
  · rw [if_neg (by simp)]; exact h
  · rw [if_pos rfl]; rfl
theorem flush_err {d : Dk.St} (h : d.dead = false) : d.stepErr = ecode d.flush.dead := by
  rw [flush_dead_iff h]
  unfold Dk.St.stepErr
  cases d.due <;> rfl
/-- how much was done to a disk -/
structure Dk.St.Few (d : Dk.St) (k : Nat) : Prop where
  waits : d.waits.length ≤ k
  done : d.done ≤ k
  left : d.left ≤ 9223372036854775807
theorem Dk.St.Few.more {d : Dk.St} {k j : Nat} (h : d.Few k) (hj : k ≤ j) : d.Few j := ⟨Nat.le_trans h.waits hj, Nat.le_trans h.done hj, h.left⟩
theorem few_write {d : Dk.St} {k : Nat} (h : d.Few k) (i : Nat) (s : List UInt8) : (d.write i s).Few (k + 1) := by
  obtain ⟨h1, h2, h3⟩ := h
  unfold Dk.St.write Dk.St.step
  split
  · exact ⟨by simp [Dk.St.crash], by simp only [Dk.St.crash, Dk.St.wait]; omega, by simp [Dk.St.crash]⟩
  · refine ⟨by simp only [Dk.St.tick, Dk.St.wait, List.length_append, List.length_cons, List.length_nil]; omega, by simp only [Dk.St.tick, Dk.St.wait]; omega, ?_⟩
    show (if d.lit = true then d.left - 1 else d.left) ≤ _
    by_cases hl : d.lit = true
    · rw [if_pos hl]; omega
    · rw [if_neg hl]; exact h3
theorem few_flush {d : Dk.St} {k : Nat} (h : d.Few k) : d.flush.Few (k + 1) := by
  obtain ⟨h1, h2, h3⟩ := h
  unfold Dk.St.flush
  split
  · exact ⟨by simp [Dk.St.crash], by simp only [Dk.St.crash]; omega, by simp [Dk.St.crash]⟩
  · refine ⟨by simp, by simp only [Dk.St.tick]; omega, ?_⟩
    show (if d.lit = true then d.left - 1 else d.left) ≤ _
    by_cases hl : d.lit = true
    · rw [if_pos hl]; omega
    · rw [if_neg hl]; exact h3
theorem write_lasts_len (d : Dk.St) (i : Nat) (s : List UInt8) : (d.write i s).lasts.length = d.lasts.length := by
  unfold Dk.St.write Dk.St.step
  split
  · simp only [Dk.St.crash, Dk.crashed_len]; rfl
  · rfl
theorem flush_lasts_len (d : Dk.St) : d.flush.lasts.length = d.lasts.length := by
  unfold Dk.St.flush
  split
  · simp only [Dk.St.crash, Dk.crashed_len]
  · simp only [Dk.flushed_len]
theorem puts_lasts_len (d : Dk.St) (n : Nat) (pg : List UInt8) : ∀ k, (d.puts n pg k).lasts.length = d.lasts.length
  | 0 => rfl
  | k + 1 => by
    rw [Dk.St.puts]
    split
    · exact puts_lasts_len d n pg k
    · rw [write_lasts_len, puts_lasts_len d n pg k]
theorem few_puts {d : Dk.St} {j : Nat} (h : d.Few j) (n : Nat) (pg : List UInt8) : ∀ k, (d.puts n pg k).Few (j + k)
  | 0 => h
  | k + 1 => by
    rw [Dk.St.puts]
    split
    · exact (few_puts h n pg k).more (by omega)
    · exact few_write (few_puts h n pg k) _ _
theorem puts_dead_stop {d : Dk.St} {n : Nat} {pg : List UInt8} {k : Nat} (h : (d.puts n pg k).dead = true) : ∀ j, d.puts n pg (k + j) = d.puts n pg k
  | 0 => rfl
  | j + 1 => by
    have := puts_dead_stop h j
    rw [← Nat.add_assoc, Dk.St.puts, this, if_pos h]

/-- a slice of bytes is cut -/
theorem run_slice_bytes (g o n c : Nat) (x y : Int) (hx : 0 ≤ x) (hxy : x ≤ y) (hy : y ≤ c) (hxc : x < c) (w : World) : (Instr.sliceAt 48 (.slice (some ⟨g, o, none⟩) n c) (some (.int .i64 x)) (some (.int .i64 y)) none).run Try.prog w = .ok (.slice (some ⟨g, o + x.toNat, none⟩) (y.toNat - x.toNat) (c - x.toNat)) w := by
  have he : Try.prog.elem 48 = 5 := by kernel_rfl
  have ht : Try.prog.underlying 48 = some (.slice (Try.prog.elem 48)) := by rw [he]; exact und_bytes
  have hsz : ∀ w, (Go.sizeOf 5).run Try.prog w = .ok 1 w := by
    intro w
    obtain ⟨i0, hi, hz0, hz1, hz2⟩ := info_parts inf_u8
    simp [Go.sizeOf, typeInfo, hi, hz1]
  rw [run_sliceAt_slice w _ _ _ _ _ ht, run_slice_lh w _ (some ⟨g, o, none⟩) n c ht .i64 .i64 x y hx hxy hy, he, hsz, Result.andThen_ok]
  have e2 : ¬ c = x.toNat := by omega
  simp [sliced, Addr.add_mid, e2]
theorem run_part (g k : Nat) (hk : k < 4) (w : World) : (Instr.sliceAt 48 (.slice (some ⟨g, 0, none⟩) 512 512) (some (.int .i64 ((k : Int) * 128))) (some (.int .i64 (((k : Int) + 1) * 128))) none).run Try.prog w = .ok (.slice (some ⟨g, k * 128, none⟩) 128 (512 - k * 128)) w := by
  have := run_slice_bytes g 0 512 512 ((k : Int) * 128) (((k : Int) + 1) * 128) (by omega) (by omega) (by omega) (by omega) w
  rw [show ((k : Int) * 128).toNat = k * 128 by omega, show (((k : Int) + 1) * 128).toNat - k * 128 = 128 by omega, Nat.zero_add] at this
  exact this

theorem write_lies_at (w : World) (S R : Nat → Prop) (b : Nat) (d : Dk.St) (h : DiskAt w S R b d) (hdead : d.dead = false) (hm : d.waits.length < 1000000) (hdone : d.done < 4611686018427387904) (hleft : d.left ≤ 9223372036854775807)
    (i : Nat) (hi : i < d.lasts.length) (g o c : Nat) (s : Dk.Sec) (hs : s.length = 128) (hsrc : w.rangeAt g o (Dk.secCells s)) (hgS : ¬ S g) :
    Calls Try.prog 67 #[.pointer (some ⟨b, 0, none⟩), .int .i64 i, .slice (some ⟨g, o, none⟩) 128 c] w fun e w' => e = .returned (.int .i64 (d.wait i s).stepErr) ∧ Goes S R b (d.write i s) w w' := by
  obtain ⟨L, cap, wv, M, kv, h⟩ := h
  exact write_any w S R b L cap wv M kv d h hdead hm hdone hleft i hi g o c s hs hsrc hgS
set_option maxHeartbeats 1600000 in
theorem pput_any (w : World) (Sd R : Nat → Prop) (b db : Nat) (d : Dk.St) (h : DiskAt w Sd R db d) (hdead : d.dead = false) (hbS : ¬ Sd b) (hp : w.cell? ⟨b, 0, none⟩ = some (.pointer (some ⟨db, 0, none⟩))) (few : d.Few 900000) (n : Nat) (hn : n * 4 + 4 ≤ d.lasts.length)
    (A : Option Addr) (l : List UInt8) (c : Nat) (hl : l.length ≤ 502) (hr : Rd w w.heap.size A l) :
    Calls Try.prog 39 #[.pointer (some ⟨b, 0, none⟩), .int .i64 (n : Int), .slice A l.length c] w fun e w' => e = .returned (.int .i64 (ecode (d.puts n (Pg.made n l) 4).dead)) ∧ Goes Sd R db (d.puts n (Pg.made n l) 4) w w' := by
  have hmost := h.ok.most
  have hblt := block_lt_of_cell hp
  have henc := encode_ok w n (by omega) A l c hl hr
  have hpl := Pg.made_length n l hl
  generalize Pg.made n l = pg at *
  have HE := Lib.hid henc
  have H := Lib.hid h
  have HP := Lib.hid hp
  have HM := Lib.hid hmost
  have HN := Lib.hid hn
  have HL := Lib.hid hpl
  have HF := Lib.hid few
  clear h hp hmost hn henc hpl hr hl few
  go_enter Try.func39, Try.ntmps39
  go_wp2_with fail
  refine HE.out.mono ?_
  rintro e w1 ⟨g, rfl, hg1, hgw, hb1⟩
  rw [HL.out]
  have HG1 := Lib.hid hg1
  have HB1 := Lib.hid hb1
  have hsz1 := hb1.size
  have hgl := hg1.lt
  clear hg1 hb1
  go_wp2_with fail
  go_loopw [20] (fun i wr => ∃ k : Nat, k ≤ 4 ∧ i = .int .i64 k ∧ (d.puts n pg k).dead = false ∧ ∃ S', DiskAt wr S' R db (d.puts n pg k) ∧ Fr Sd w wr ∧ (∀ j, S' j → j ≠ g ∧ (Sd j ∨ w.heap.size ≤ j)) ∧ Has wr g 5 (bytCells pg).toArray) (fun i _ => 4 - (intOf i).toNat)
  case atStart => exact ⟨0, by omega, rfl, hdead, Sd, H.out.keep (Fr.of_below HB1.out noB) (fun _ e => e.elim), Fr.of_below HB1.out _, fun j hj => ⟨fun e => by have := H.out.lt j hj; omega, .inl hj⟩, HG1.out⟩
  case round =>
    rename_i wr
    obtain ⟨k, hk, rfl, hdk, S', hD, hfr, hS, hG⟩ := hrel
    have hp' : wr.cell? ⟨b, 0, none⟩ = some (.pointer (some ⟨db, 0, none⟩)) := (World.cell?_of_block (hfr.old b hblt hbS)).trans HP.out
    have hsz := hfr.size
    have HD := Lib.hid hD
    have HFr := Lib.hid hfr
    have HS := Lib.hid hS
    have HG := Lib.hid hG
    clear hD hfr hS hG
    by_cases hlt : k < 4
    · have hlt' : (k : Int) < 4 := by omega
      have hb1 : (n : Int) * 4 + (k : Int) ≤ 65536 := by have := HN.out; have := HM.out; omega
      have hb2 : (n : Int) * 4 ≤ 65536 := by have := HN.out; have := HM.out; omega
      have hrp := fun w => run_part g k hlt w
      have v1 : IntKind.i64.wrap ((n : Int) * 4) = (n : Int) * 4 := by rw [IntKind.wrap_i64]; omega
      have v2 : IntKind.i64.wrap ((n : Int) * 4 + (k : Int)) = (n : Int) * 4 + (k : Int) := by rw [IntKind.wrap_i64]; omega
      have v3 : IntKind.i64.wrap ((k : Int) * 128) = (k : Int) * 128 := by rw [IntKind.wrap_i64]; omega
      have v4 : IntKind.i64.wrap ((k : Int) + 1) = (k : Int) + 1 := by rw [IntKind.wrap_i64]; omega
      have v5 : IntKind.i64.wrap (((k : Int) + 1) * 128) = ((k : Int) + 1) * 128 := by rw [IntKind.wrap_i64]; omega
      have hls : (part pg k).length = 128 := part_length HL.out hlt
      have hw := write_lies_at wr.drew S' R db (d.puts n pg k) (HD.out.keep ((Fr.refl noB wr).drew) (fun _ e => e.elim)) hdk (by have := (few_puts HF.out n pg k).waits; omega) (by have := (few_puts HF.out n pg k).done; omega) (few_puts HF.out n pg k).left (n * 4 + k) (by rw [puts_lasts_len]; have := HN.out; omega) g (k * 128) (512 - k * 128) (part pg k) hls
        (by
          have hgd : Has wr.drew g 5 (bytCells pg).toArray := HG.out
          have : wr.drew.rangeAt g (k * 128) (((bytCells pg).drop (k * 128)).take 128) := range_of_has hgd
          rwa [bytCells, ← List.map_drop, ← List.map_take] at this) (fun e => (HS.out g e).1 rfl)
      rw [show ((n * 4 + k : Nat) : Int) = (n : Int) * 4 + (k : Int) by omega, write_err hdk] at hw
      have Hw := Lib.hid hw
      clear hw
      go_wp2_with fail
      go_still_tail 15, (by kernel_rfl)
      change wpList _ _ _ _ _ wr.drew
      clear v1 v2 v3 v4 v5 hrp
      go_wp2_with fail
      refine Hw.out.mono ?_
      rintro e w2 ⟨rfl, S2, hD2, hF2, hS2⟩
      have hf2 : Fr Sd w w2 := HFr.out.drew.trans hF2 (fun x hx hs => by rcases (HS.out x hs).2 with e | e <;> first | exact e | omega)
      have hg2 : Has w2 g 5 (bytCells pg).toArray := (show Has wr.drew g 5 (bytCells pg).toArray from HG.out).keep hF2 (fun e => (HS.out g e).1 rfl)
      have hgl2 := HG.out.lt
      have hs2 : ∀ j, S2 j → j ≠ g ∧ (Sd j ∨ w.heap.size ≤ j) := fun j hj => by
        rcases hS2 j hj with e | e
        · exact HS.out j e
        · exact ⟨fun e2 => by subst e2; have : wr.heap.size ≤ j := e; omega, .inr (by have : wr.heap.size ≤ j := e; omega)⟩
      have hnext : d.puts n pg (k + 1) = (d.puts n pg k).write (n * 4 + k) (part pg k) := by rw [Dk.St.puts, if_neg (by rw [hdk]; simp)]
      rw [← hnext] at hD2 ⊢
      have HD2 := Lib.hid hD2
      have HF2 := Lib.hid hf2
      have HS2 := Lib.hid hs2
      have HG2 := Lib.hid hg2
      clear hD2 hF2 hf2 hs2 hg2 hS2 hnext Hw hdk
      cases hdd : (d.puts n pg (k + 1)).dead
      · simp only [show ecode false = 0 from rfl]
        go_wp2_with fail
        go_roundw
        case rel => exact ⟨k + 1, by omega, rfl, hdd, S2, HD2.out, HF2.out, HS2.out, HG2.out⟩
        case measure => simp [intOf]; omega
      · simp only [show ecode true = 20 from rfl]
        go_wp2_with fail
        go_ret
        have hst : d.puts n pg 4 = d.puts n pg (k + 1) := by
          have := puts_dead_stop hdd (4 - (k + 1))
          rwa [show k + 1 + (4 - (k + 1)) = 4 by omega] at this
        rw [hst]
        exact ⟨by first | rfl | (rw [hdd]; rfl), S2, HD2.out, HF2.out, fun j hj => (HS2.out j hj).2⟩
    · have hk4 : k = 4 := by omega
      subst hk4
      have HK := Lib.hid hdk
      clear hdk
      go_wp2_with fail
      go_ret
      exact ⟨by first | rfl | (rw [HK.out]; rfl), S', HD.out, HFr.out, fun j hj => (HS.out j hj).2⟩
end Go.Proofs.Ythlmjnlakenmoaa

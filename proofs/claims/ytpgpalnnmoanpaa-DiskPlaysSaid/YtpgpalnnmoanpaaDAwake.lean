/-
  awake answers true; DiskNames.
-/
import Derived.Test.YtpgpalnnmoanpaaDLaw
namespace Go.Proofs.Ytpgpalnnmoanpaa
open Go.RowKit Go.Maps

/-- a disk that was made since W0; nothing that was there then has turned -/
structure Sys (W0 w : World) (S R : Nat → Prop) (b : Nat) (d : Dk.St) : Prop where
  disk : DiskAt w S R b d
  news : ∀ k, S k → W0.heap.size ≤ k
  newr : ∀ k, R k → W0.heap.size ≤ k
  below : Below W0.heap.size W0 w
theorem Sys.size {W0 w : World} {S R : Nat → Prop} {b : Nat} {d : Dk.St} (h : Sys W0 w S R b d) : W0.heap.size ≤ w.heap.size := h.below.size
theorem Sys.goes {W0 w w' : World} {S R : Nat → Prop} {b : Nat} {d d' : Dk.St} (h : Sys W0 w S R b d) (g : Goes S R b d' w w') : ∃ S', Sys W0 w' S' R b d' ∧ Fr S w w' ∧ ∀ k, S' k → S k ∨ w.heap.size ≤ k := by
  obtain ⟨S', hd, hf, hs⟩ := g
  have hsz := h.size
  refine ⟨S', ⟨hd, fun k hk => ?_, h.newr, h.below.trans (hf.below hsz h.news)⟩, hf, hs⟩
  rcases hs k hk with e | e
  · exact h.news k e
  · omega
theorem Sys.next {W0 w w' : World} {S R : Nat → Prop} {b : Nat} {d : Dk.St} (h : Sys W0 w S R b d) (hb : Below w.heap.size w w') : Sys W0 w' S R b d :=
  ⟨h.disk.keep (T := noB) (Fr.of_below hb noB) (fun _ h => h.elim), h.news, h.newr, h.below.trans (hb.mono h.size)⟩
theorem Sys.made {W0 w w' : World} (hW : Below W0.heap.size W0 w) {b : Nat} {S : Nat → Prop} {d : Dk.St} (hd : DiskAt w' S noB b d) (hb : Below w.heap.size w w') (hs : ∀ k, S k → w.heap.size ≤ k) : Sys W0 w' S noB b d :=
  ⟨hd, fun k hk => Nat.le_trans hW.size (hs k hk), fun _ h => h.elim, hW.trans (hb.mono hW.size)⟩
/-- the source of a write is no block of the disk -/
theorem Sys.fresh {W0 w : World} {S R : Nat → Prop} {b : Nat} {d : Dk.St} (h : Sys W0 w S R b d) : ¬ S w.heap.size := fun hk => absurd (h.disk.lt _ hk) (Nat.lt_irrefl _)

theorem write_at (w : World) (S R : Nat → Prop) (b : Nat) (d : Dk.St) (h : DiskAt w S R b d) (hdead : d.dead = false) (hm : d.waits.length < 1000000) (hdone : d.done < 4611686018427387904) (hleft : d.left ≤ 9223372036854775807)
    (i : Nat) (hi : i < d.lasts.length) (g c : Nat) (t : TypeId) (s : Dk.Sec) (hs : s.length = 128) (hsrc : Has w g t (Dk.secCells s).toArray) (hgS : ¬ S g) :
    Calls Try.prog 15 #[.pointer (some ⟨b, 0, none⟩), .int .i64 i, .slice (some ⟨g, 0, none⟩) 128 c] w fun e w' => e = .returned (.int .i64 (d.wait i s).stepErr) ∧ Goes S R b (d.write i s) w w' := by
  obtain ⟨L, cap, wv, M, kv, h⟩ := h
  exact write_any w S R b L cap wv M kv d h hdead hm hdone hleft i hi g 0 c s hs (fun j v hj => by rw [Nat.zero_add, hsrc.cell, List.getElem?_toArray]; exact hj) hgS
theorem flush_at (w : World) (S R : Nat → Prop) (b : Nat) (d : Dk.St) (h : DiskAt w S R b d) (hdead : d.dead = false) (hm : d.waits.length ≤ 1000000) (hdone : d.done < 4611686018427387904) (hleft : d.left ≤ 9223372036854775807) :
    Calls Try.prog 17 #[.pointer (some ⟨b, 0, none⟩)] w fun e w' => e = .returned (.int .i64 d.stepErr) ∧ Goes S R b d.flush w w' := by
  obtain ⟨L, cap, wv, M, kv, h⟩ := h
  exact flush_any w S R b L cap wv M kv d h hdead hm hdone hleft
theorem read_at (w : World) (S R : Nat → Prop) (b : Nat) (d : Dk.St) (h : DiskAt w S R b d) (hdead : d.dead = false) (i : Nat) (hi : i < d.lasts.length) :
    Calls Try.prog 13 #[.pointer (some ⟨b, 0, none⟩), .int .i64 i] w fun e w' => e = .returned (.tuple #[.slice (some ⟨w.heap.size, 0, none⟩) 128 128, .int .i64 0]) ∧ Has w' w.heap.size 78 (Dk.secCells (d.read i)).toArray ∧ Below w.heap.size w w' := by
  obtain ⟨L, cap, wv, M, kv, h⟩ := h
  refine (read_lies w S R b L cap wv M kv d h hdead i hi).mono ?_
  rintro e w' ⟨rfl, rfl⟩
  exact ⟨rfl, Has.of_alloc _ _ _, (Below.refl _ _).alloc (Nat.le_refl _) _⟩

def aw1 : Dk.St := (Dk.made 2).write 0 (fullS 97)
def aw2 : Dk.St := aw1.flush
def aw3 : Dk.St := aw2.write 0 (fullS 98)
def aw4 : Dk.St := aw3.crash ⟨[], -1, 0⟩
theorem aw_read : (Dk.fresh aw4.lasts).read 0 = fullS 97 := by rfl

set_option maxHeartbeats 1600000 in
set_option maxRecDepth 100000 in
theorem awake_any (w : World) : Calls Try.prog 8 #[] w fun e w' => e = .returned (.bool true) ∧ Below w.heap.size w w' := by
  have h97 := fun w => full_any 97 w
  have h98 := fun w => full_any 98 w
  rw [show ((97 : UInt8).toNat : Int) = 97 from rfl] at h97
  rw [show ((98 : UInt8).toNat : Int) = 98 from rfl] at h98
  have H97 := Lib.hid h97
  have H98 := Lib.hid h98
  clear h97 h98
  go_enter Try.func8, Try.ntmps8
  go_wp2_with fail
  refine (new_any w 2 (by omega) (by omega)).mono ?_
  rintro e w1 ⟨b, S, rfl, hd, hb, hs⟩
  have Y1 := Lib.hid (Sys.made (Below.refl _ _) hd hb hs)
  clear hd hb hs
  unfold ptr
  go_wp2_with fail
  refine (H97.out _).mono ?_
  rintro e w2 ⟨rfl, hg2, hb2⟩
  have Y2 := Lib.hid (Y1.out.next hb2)
  have HG2 := Lib.hid hg2
  have hn := Y1.out.fresh
  clear hg2 hb2 Y1
  go_wp2_with fail
  refine (write_at w2 S noB b _ Y2.out.disk rfl (by decide) (by decide) (by decide) 0 (by decide) w1.heap.size 128 _ (fullS 97) (fullS_len _) HG2.out hn).mono ?_
  rintro e w3 ⟨he, hg3⟩
  obtain rfl : e = .returned (.int .i64 0) := he
  obtain ⟨S3, y3, _, _⟩ := Y2.out.goes hg3
  have Y3 := Lib.hid y3
  clear hg3 y3 Y2 HG2 hn
  go_wp2_with fail
  refine (flush_at w3 S3 noB b _ Y3.out.disk rfl (by decide) (by decide) (by decide)).mono ?_
  rintro e w4 ⟨he, hg4⟩
  obtain rfl : e = .returned (.int .i64 0) := he
  obtain ⟨S4, y4, _, _⟩ := Y3.out.goes hg4
  have Y4 := Lib.hid y4
  clear hg4 y4 Y3
  go_wp2_with fail
  refine (H98.out _).mono ?_
  rintro e w5 ⟨rfl, hg5, hb5⟩
  have Y5 := Lib.hid (Y4.out.next hb5)
  have HG5 := Lib.hid hg5
  have hn := Y4.out.fresh
  clear hg5 hb5 Y4
  go_wp2_with fail
  refine (write_at w5 S4 noB b _ Y5.out.disk rfl (by decide) (by decide) (by decide) 0 (by decide) w4.heap.size 128 _ (fullS 98) (fullS_len _) HG5.out hn).mono ?_
  rintro e w6 ⟨he, hg6⟩
  obtain rfl : e = .returned (.int .i64 0) := he
  obtain ⟨S6, y6, _, _⟩ := Y5.out.goes hg6
  have Y6 := Lib.hid y6
  clear hg6 y6 Y5 HG5 hn
  go_wp2_with fail
  refine (crash_ok w6 S6 noB noB b _ Y6.out.disk rfl (.slice none 0 0) ⟨[], -1, 0⟩ (KeepAt.nil _ _) (by decide) (by decide) (fun _ h => h.elim) (by decide)).mono ?_
  rintro e w7 ⟨rfl, hg7⟩
  obtain ⟨S7, y7, _, _⟩ := Y6.out.goes hg7
  have Y7 := Lib.hid y7
  clear hg7 y7 Y6
  go_wp2_with fail
  refine (reopen_ok w7 S7 noB b _ Y7.out.disk rfl).mono ?_
  rintro e w8 ⟨b8, S8, rfl, hd8, hb8, hs8⟩
  have Y8 := Lib.hid (Sys.made Y7.out.below hd8 hb8 hs8)
  clear hd8 hb8 hs8 Y7
  unfold ptr
  go_wp2_with fail
  refine (read_at w8 S8 noB b8 _ Y8.out.disk rfl 0 (by decide)).mono ?_
  rintro e w9 ⟨rfl, hr9, hb9⟩
  have hr : Has w9 w8.heap.size 78 (Dk.secCells (fullS 97)).toArray := hr9
  have HR9 := Lib.hid hr
  have Y9 := Lib.hid (Y8.out.next hb9)
  have hsz := hb9.size
  have hlt := hr.lt
  clear hr9 hr hb9 Y8
  go_wp2_with fail
  refine (H97.out _).mono ?_
  rintro e w10 ⟨rfl, hg10, hb10⟩
  have Y10 := Lib.hid (Y9.out.next hb10)
  have HG10 := Lib.hid hg10
  have HR10 := Lib.hid (HR9.out.keep (Fr.of_below hb10 noB) (fun h => h))
  clear hg10 hb10 Y9 HR9
  go_wp2_with fail
  refine (bytes_any w10 _ _ (fullS 97) (fullS 97) (BytesAt.of_has HR10.out (by decide) 128) (BytesAt.of_has HG10.out (by decide) 128)).mono ?_
  rintro e w11 ⟨he, hf11⟩
  obtain rfl : e = .returned (.bool true) := by rw [he]; simp
  have Y11 := Lib.hid (Y10.out.next (hf11.below (Nat.le_refl _) (fun _ h => h.elim)))
  clear hf11
  go_wp2_with fail
  go_ret
  exact ⟨rfl, Y11.out.below⟩
end Go.Proofs.Ytpgpalnnmoanpaa

/-
  A page is read off the disk.
-/
import Derived.Test.YthlmjnlakenmoaaPMem
import Derived.Test.YthlmjnlakenmoaaPPay
import Derived.Test.YthlmjnlakenmoaaDCall
import Derived.Test.YthlmjnlakenmoaaGDec
namespace Go.Proofs.Ythlmjnlakenmoaa
open Go.RowKit Go.Maps
set_option maxRecDepth 100000

/-- the first k sectors of the page n -/
def Dk.St.pageTo (d : Dk.St) (n : Nat) : Nat → List UInt8
  | 0 => []
  | k + 1 => d.pageTo n k ++ d.read (n * 4 + k)
def Dk.St.page (d : Dk.St) (n : Nat) : List UInt8 := d.pageTo n 4
theorem pageTo_length {d : Dk.St} (h : d.Ok) {n : Nat} : ∀ {k : Nat}, n * 4 + k ≤ d.lasts.length → (d.pageTo n k).length = 128 * k
  | 0, _ => rfl
  | k + 1, hk => by
    rw [Dk.St.pageTo, List.length_append, pageTo_length h (by omega), Dk.St.read_len h (by omega)]
    omega
theorem page_length {d : Dk.St} (h : d.Ok) {n : Nat} (hn : n * 4 + 4 ≤ d.lasts.length) : (d.page n).length = 512 := pageTo_length h hn
theorem secCells_byt (l : List UInt8) : Dk.secCells l = bytCells l := rfl

set_option maxHeartbeats 800000 in
theorem pget_any (w : World) (Sd R : Nat → Prop) (b db : Nat) (d : Dk.St) (h : DiskAt w Sd R db d) (hdead : d.dead = false) (hp : w.cell? ⟨b, 0, none⟩ = some (.pointer (some ⟨db, 0, none⟩))) (n : Nat) (hn : n * 4 + 4 ≤ d.lasts.length) :
    Calls Try.prog 57 #[.pointer (some ⟨b, 0, none⟩), .int .i64 (n : Int)] w (Reads w n (d.page n)) := by
  have hmost := h.ok.most
  have hblt := block_lt_of_cell hp
  have hmk := run_make_room w 512 (by omega)
  rw [show ((512 : Nat) : Int) = 512 from rfl] at hmk
  have hrow := OwnV.room w w.heap.size 512 (Nat.le_refl _) (by omega)
  have hbel : Below w.heap.size w (w.alloc (.cells (madeCells (Value.int .u8 0).cells (512 * 1)) 5)) := (Below.refl _ _).alloc (Nat.le_refl _) _
  generalize (w.alloc (.cells (madeCells (Value.int .u8 0).cells (512 * 1)) 5)) = w1 at *
  have H := Lib.hid h
  have HP := Lib.hid hp
  have HO := Lib.hid hrow
  have HB := Lib.hid hbel
  have HM := Lib.hid hmost
  have HN := Lib.hid hn
  clear h hp hrow hbel hmost hn
  go_enter Try.func57, Try.ntmps57
  go_wp2_with fail
  go_loopw [6, 11] (fun v i wr => ∃ k : Nat, k ≤ 4 ∧ i = .int .i64 k ∧ OwnV wr w.heap.size v (d.pageTo n k) ∧ Below w.heap.size w wr) (fun _ i _ => 4 - (intOf i).toNat)
  case atStart => exact ⟨0, by omega, rfl, HO.out, HB.out⟩
  case round =>
    rename_i wr
    obtain ⟨k, hk, rfl, ho, hb⟩ := hrel
    have HO' := Lib.hid ho
    have HB' := Lib.hid hb
    have hp' : wr.cell? ⟨b, 0, none⟩ = some (.pointer (some ⟨db, 0, none⟩)) := (World.cell?_of_block (hb.block b hblt)).trans HP.out
    have hsz := hb.size
    clear ho hb
    by_cases hlt : k < 4
    · have hlt' : (k : Int) < 4 := by omega
      have hr := read_at wr Sd R db d (H.out.keep (Fr.of_below (HB'.out.mono (Nat.le_refl _)) noB) (fun _ e => e.elim)) hdead (n * 4 + k) (by have := HN.out; omega)
      rw [show ((n * 4 + k : Nat) : Int) = (n : Int) * 4 + (k : Int) by omega] at hr
      have hb1 : (n : Int) * 4 + (k : Int) ≤ 65536 := by have := HN.out; have := HM.out; omega
      have hb2 : (n : Int) * 4 ≤ 65536 := by have := HN.out; have := HM.out; omega
      have Hr := Lib.hid hr
      clear hr
      go_wp2_with fail
      refine Hr.out.mono ?_
      rintro e w2 ⟨rfl, hg2, hb2⟩
      have hls : (d.read (n * 4 + k)).length = 128 := Dk.St.read_len H.out.ok (by have := HN.out; omega)
      have hll : (d.pageTo n k).length = 128 * k := pageTo_length H.out.ok (by have := HN.out; omega)
      have hrd : Rd w2 w2.heap.size (some ⟨wr.heap.size, 0, none⟩) (d.read (n * 4 + k)) := Rd.of_has hg2 (by rw [List.drop_zero, secCells_byt, ← bytCells_len, List.take_length]) (by omega)
      have HLS := Lib.hid hls
      have HLL := Lib.hid hll
      have HRD := Lib.hid hrd
      have HB2 := Lib.hid hb2
      have HO2 := Lib.hid (HO'.out.below hb2)
      clear hg2 hb2 hls hll hrd Hr
      go_wp2_with (refine wpList_append_v rfl (.tmp 29) (.tmp 30) rfl w.heap.size _ (d.pageTo n k) rfl HO2.out _ (some ⟨wr.heap.size, 0, none⟩) (d.read (n * 4 + k)) 128 (by rw [HLS.out]; rfl) HRD.out (fun e => by cases e) (by rw [HLS.out, HLL.out]; omega) (by have := HB2.out.size; omega) w (HB'.out.trans (HB2.out.mono hsz)) ?_; intro v3 w3 O3 B3)
      go_roundw
      case rel => exact ⟨k + 1, by omega, rfl, O3.out, B3.out⟩
      case measure => simp [intOf]; omega
    · have hk4 : k = 4 := by omega
      subst hk4
      have hpl : (d.pageTo n 4).length = 512 := page_length H.out.ok HN.out
      obtain ⟨A, c, rfl, _, hrd⟩ := HO'.out.at_ 512 hpl
      have hdec := decode_ok wr n (by have := HN.out; have := HM.out; omega) A (d.pageTo n 4) c hpl (hrd (by omega))
      have HD := Lib.hid hdec
      clear hpl hrd hdec
      go_wp2_with fail
      refine HD.out.mono ?_
      intro e w2 hd
      rcases hd with ⟨h1, g, rfl, h2, h3, h4⟩ | ⟨h1, rfl, h4⟩
      · have H2 := Lib.hid h2
        have H4 := Lib.hid h4
        clear h2 h4
        go_wp2_with fail
        go_ret2
        exact .inl ⟨h1, g, rfl, H2.out, by omega, HB'.out.trans (H4.out.mono hsz)⟩
      · have H4 := Lib.hid h4
        clear h4
        go_wp2_with fail
        go_ret2
        exact .inr ⟨h1, rfl, HB'.out.trans (H4.out.mono hsz)⟩
end Go.Proofs.Ythlmjnlakenmoaa

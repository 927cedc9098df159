/-
  A meta's payload.
-/
import Derived.Test.YthlmjnlakenmoaaPBytes
import Derived.Lib.AppendStr
namespace Go.Proofs.Ythlmjnlakenmoaa
open Go.RowKit Go.Maps
set_option maxRecDepth 100000

/-- room for c bytes -/
theorem run_make_room (w : World) (c : Nat) (hc : c ≤ 1000000) : (Instr.makeSlice 48 (.int .i64 0) (.int .i64 (c : Int))).run Try.prog w = .ok (.slice (some ⟨w.heap.size, 0, none⟩) 0 c) (w.alloc (.cells (madeCells (Value.int .u8 0).cells (c * 1)) 5)) := by
  obtain ⟨i0, hi, hz0, hz1, hz2⟩ := info_parts inf_u8
  have := run_make (P := Try.prog) w _ _ i0 _ und_bytes hi hz0 .i64 .i64 0 (c : Int) (by omega) (by omega) (by rw [hz2]; omega) (by omega)
  rw [hz1, Int.toNat_natCast] at this
  exact this
theorem OwnV.room (w : World) (B c : Nat) (hB : B ≤ w.heap.size) (hc : c ≤ 1000000) : OwnV (w.alloc (.cells (madeCells (Value.int .u8 0).cells (c * 1)) 5)) B (.slice (some ⟨w.heap.size, 0, none⟩) 0 c) [] :=
  ⟨by simp [bytCells], .inr ⟨w.heap.size, c, _, rfl, hB, heap_alloc_new w _, Nat.zero_le _, by unfold maxLen; omega, size_madeCells _ _, by simp [bytCells]⟩⟩
theorem strCells_mark : Lib.strCells { data := #[116, 111, 108, 108, 103, 97, 116, 101] } = bytCells Pr.mark := rfl

theorem pay_kept {w w1 w2 : World} {sx rx : Int} (hg : w1.grownBy w2 (Value.slice (some ⟨w.heap.size + 1, 0, none⟩) 0 32).ownBlock) (hB : Below w.heap.size w w1) (h0 : Has w1 w.heap.size 76 #[.int .i64 sx, .int .i64 rx]) :
    w2.cell? ⟨w.heap.size, 0, none⟩ = some (.int .i64 sx) ∧ w2.cell? ⟨w.heap.size, 1, none⟩ = some (.int .i64 rx) ∧ Below w.heap.size w w2 := by
  have hf2 := Fr.of_grown (S := oneB (w.heap.size + 1)) hg (fun k hk => by injection hk with hk; exact hk.symm)
  have h2 := h0.keep hf2 (fun e => by have e : w.heap.size = w.heap.size + 1 := e; omega)
  exact ⟨h2.cell 0, h2.cell 1, hB.grown hg hB.size (fun k hk => by injection hk with hk; subst hk; exact Nat.le_succ _)⟩
def PayRel (w : World) (s r k : Nat) (v : Value) (wr : World) : Prop := OwnV wr w.heap.size v (Pr.mark ++ (Pg.be 8 s ++ Pg.be 8 r ++ Pg.be 8 s).take (8 * k)) ∧ Below w.heap.size w wr
theorem pay_next0 {w : World} {B : Nat} {v : Value} {s r : Nat} (h : OwnV w B v (Pr.mark ++ (Pg.be 8 s ++ Pg.be 8 r ++ Pg.be 8 s).take (8 * 0) ++ Pg.be 8 s)) : OwnV w B v (Pr.mark ++ (Pg.be 8 s ++ Pg.be 8 r ++ Pg.be 8 s).take (8 * 1)) := by
  have e : (Pg.be 8 s ++ Pg.be 8 r ++ Pg.be 8 s).take (8 * 0) ++ Pg.be 8 s = (Pg.be 8 s ++ Pg.be 8 r ++ Pg.be 8 s).take (8 * 1) := by
    simp [Pg.be_length, List.take_append]
  rwa [List.append_assoc, e] at h
theorem pay_next1 {w : World} {B : Nat} {v : Value} {s r : Nat} (h : OwnV w B v (Pr.mark ++ (Pg.be 8 s ++ Pg.be 8 r ++ Pg.be 8 s).take (8 * 1) ++ Pg.be 8 r)) : OwnV w B v (Pr.mark ++ (Pg.be 8 s ++ Pg.be 8 r ++ Pg.be 8 s).take (8 * 2)) := by
  have e : (Pg.be 8 s ++ Pg.be 8 r ++ Pg.be 8 s).take (8 * 1) ++ Pg.be 8 r = (Pg.be 8 s ++ Pg.be 8 r ++ Pg.be 8 s).take (8 * 2) := by
    simp [Pg.be_length, List.take_append, List.take_of_length_le]
  rwa [List.append_assoc, e] at h
theorem pay_next2 {w : World} {B : Nat} {v : Value} {s r : Nat} (h : OwnV w B v (Pr.mark ++ (Pg.be 8 s ++ Pg.be 8 r ++ Pg.be 8 s).take (8 * 2) ++ Pg.be 8 s)) : OwnV w B v (Pr.mark ++ (Pg.be 8 s ++ Pg.be 8 r ++ Pg.be 8 s).take (8 * 3)) := by
  have e : (Pg.be 8 s ++ Pg.be 8 r ++ Pg.be 8 s).take (8 * 2) ++ Pg.be 8 s = (Pg.be 8 s ++ Pg.be 8 r ++ Pg.be 8 s).take (8 * 3) := by
    simp [Pg.be_length, List.take_append, List.take_of_length_le]
  rwa [List.append_assoc, e] at h
set_option maxHeartbeats 800000 in
theorem payload_any (w : World) (s r : Nat) :
    Calls Try.prog 40 #[.agg #[.int .i64 (Pr.sint s), .int .i64 (Pr.sint r)]] w fun e w' => ∃ v, e = .returned v ∧ OwnV w' w.heap.size v (Pr.metaBytes s r) ∧ Below w.heap.size w w' := by
  have ha := fun (x : Nat) (w : World) (B : Nat) (hB : B ≤ w.heap.size) (v : Value) (L : List UInt8) (h : OwnV w B v L) (hL : L.length ≤ 1000000) => appended_any w B hB v L h hL x
  have has := ha s
  have har := ha r
  obtain ⟨i0, hi, hz0, hz1, hz2⟩ := info_parts inf_u8
  generalize hsx : Pr.sint s = sx at *
  generalize hrx : Pr.sint r = rx at *
  have HS := Lib.hid has
  have HR := Lib.hid har
  have Hi := Lib.hid hi
  have Z0 := Lib.hid hz0
  have Z1 := Lib.hid hz1
  have Z2 := Lib.hid hz2
  have hmk := run_make_room (w.alloc (.cells #[.int .i64 sx, .int .i64 rx] 76)) 32 (by omega)
  have hrow := OwnV.room (w.alloc (.cells #[.int .i64 sx, .int .i64 rx] 76)) w.heap.size 32 (by simp) (by omega)
  have hbel : Below w.heap.size w ((w.alloc (.cells #[.int .i64 sx, .int .i64 rx] 76)).alloc (.cells (madeCells (Value.int .u8 0).cells (32 * 1)) 5)) := ((Below.refl _ _).alloc (Nat.le_refl _) _).alloc (by simp) _
  have h0 : Has ((w.alloc (.cells #[.int .i64 sx, .int .i64 rx] 76)).alloc (.cells (madeCells (Value.int .u8 0).cells (32 * 1)) 5)) w.heap.size 76 #[.int .i64 sx, .int .i64 rx] := (Has.of_alloc _ _ _).alloc _
  rw [show ((32 : Nat) : Int) = 32 from rfl] at hmk
  have hsz : (w.alloc (.cells #[.int .i64 sx, .int .i64 rx] 76)).heap.size = w.heap.size + 1 := by simp
  rw [hsz] at hmk hrow
  generalize hw1 : ((w.alloc (.cells #[.int .i64 sx, .int .i64 rx] 76)).alloc (.cells (madeCells (Value.int .u8 0).cells (32 * 1)) 5)) = w1 at *
  have HO := Lib.hid hrow
  have HB := Lib.hid hbel
  have H0 := Lib.hid h0
  clear ha has har hi hz0 hz1 hz2 hsx hrx hrow hbel h0 hw1 hsz
  have x0 : ∀ w : World, (Instr.index 113 (.agg #[.int .i64 sx, .int .i64 rx, .int .i64 sx]) (.int .i64 0)).run Try.prog w = .ok (.int .i64 sx) w := fun _ => by kernel_rfl
  have x1 : ∀ w : World, (Instr.index 113 (.agg #[.int .i64 sx, .int .i64 rx, .int .i64 sx]) (.int .i64 1)).run Try.prog w = .ok (.int .i64 rx) w := fun _ => by kernel_rfl
  have x2 : ∀ w : World, (Instr.index 113 (.agg #[.int .i64 sx, .int .i64 rx, .int .i64 sx]) (.int .i64 2)).run Try.prog w = .ok (.int .i64 sx) w := fun _ => by kernel_rfl
  go_enter Try.func40, Try.ntmps40
  go_wp2_with (refine Lib.wpList_append_own_string _ rfl (.tmp 7) _ 48 9 rfl w.heap.size 5 i0 und_bytes und_str Hi.out Z0.out Z1.out Z2.out _ 0 _ rfl HO.out _ rfl (by unfold maxLen; decide) (by decide) HB.out.size ?_; intro v2 w2 ho2 hg2 hn2; obtain ⟨c0, c1, hb2⟩ := pay_kept hg2 HB.out H0.out; have HB2 := Lib.hid hb2; have HO2 := Lib.hid ho2; clear ho2 hg2 hn2 hb2)
  have ho2 : OwnV w2 w.heap.size v2 Pr.mark := by
    have := HO2.out
    rw [strCells_mark] at this
    exact this
  have HM := Lib.hid ho2
  clear ho2 HO2 c0 c1 hmk
  go_loopw [3, 16] (fun v i wr => ∃ k : Nat, k ≤ 3 ∧ i = .int .i64 k ∧ PayRel w s r k v wr) (fun _ i _ => 3 - (intOf i).toNat)
  case atStart => exact ⟨0, by omega, rfl, by simpa using HM.out, HB2.out⟩
  case round =>
    rename_i wr
    obtain ⟨k, hk, rfl, hrel⟩ := hrel
    have HL := Lib.hid hrel
    clear hrel
    have hlen : (Pr.mark ++ (Pg.be 8 s ++ Pg.be 8 r ++ Pg.be 8 s).take (8 * k)).length ≤ 1000000 := by
      rw [List.length_append, List.length_take]; simp only [Pr.mark, List.length_cons, List.length_nil]; omega
    have HK := Lib.hid hlen
    clear hlen
    have : k = 0 ∨ k = 1 ∨ k = 2 ∨ k = 3 := by omega
    rcases this with rfl | rfl | rfl | rfl
    · go_wp2_with fail
      refine (HS.out wr w.heap.size HL.out.2.size _ _ HL.out.1 HK.out).mono ?_
      rintro e w3 ⟨v3, rfl, ho3, hb3⟩
      have HO3 := Lib.hid ho3
      have HB3 := Lib.hid hb3
      clear ho3 hb3
      go_wp2_with fail
      go_roundw
      case rel => exact ⟨1, by omega, rfl, by unfold PayRel; exact ⟨pay_next0 HO3.out, HL.out.2.trans HB3.out⟩⟩
      case measure => simp [intOf]
    · go_wp2_with fail
      refine (HR.out wr w.heap.size HL.out.2.size _ _ HL.out.1 HK.out).mono ?_
      rintro e w3 ⟨v3, rfl, ho3, hb3⟩
      have HO3 := Lib.hid ho3
      have HB3 := Lib.hid hb3
      clear ho3 hb3
      go_wp2_with fail
      go_roundw
      case rel => exact ⟨2, by omega, rfl, by unfold PayRel; exact ⟨pay_next1 HO3.out, HL.out.2.trans HB3.out⟩⟩
      case measure => simp [intOf]
    · go_wp2_with fail
      refine (HS.out wr w.heap.size HL.out.2.size _ _ HL.out.1 HK.out).mono ?_
      rintro e w3 ⟨v3, rfl, ho3, hb3⟩
      have HO3 := Lib.hid ho3
      have HB3 := Lib.hid hb3
      clear ho3 hb3
      go_wp2_with fail
      go_roundw
      case rel => exact ⟨3, by omega, rfl, by unfold PayRel; exact ⟨pay_next2 HO3.out, HL.out.2.trans HB3.out⟩⟩
      case measure => simp [intOf]
    · go_wp2_with fail
      go_ret
      refine ⟨_, rfl, ?_, HL.out.2⟩
      have := HL.out.1
      rw [List.take_of_length_le (by simp [Pg.be_length])] at this
      unfold Pr.metaBytes
      rw [List.append_assoc, List.append_assoc, ← List.append_assoc (Pg.be 8 s)]
      exact this
end Go.Proofs.Ythlmjnlakenmoaa

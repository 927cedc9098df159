/-
  What the statements' own helpers do: full, bytes.
-/
import Derived.Test.YtpgpalnnmoanpaaDCall
import Derived.BigQuiet
namespace Go.Proofs.Ytpgpalnnmoanpaa
open Go.RowKit Go.Maps

theorem inf_u8 : (Try.prog.info? 5).map (fun i => (i.zero, i.size, i.bytes)) = some (some (.int .u8 0), 1, 1) := by kernel_rfl
theorem made_bytes : madeCells (Value.int .u8 0).cells (128 * 1) = zero128 := by
  apply Array.toList_inj.1
  rw [Nat.mul_one]
  exact (toList_madeCells_one _ _).trans (by rw [zero128, Dk.secCells, Dk.zsec, List.map_replicate]; rfl)
theorem run_make128 (w : World) : (Instr.makeSlice 34 (.int .i64 128) (.int .i64 128)).run Try.prog w = .ok (.slice (some ⟨w.heap.size, 0, none⟩) 128 128) (w.alloc (.cells zero128 5)) := by
  obtain ⟨i0, hi, hz0, hz1, hz2⟩ := info_parts inf_u8
  have := run_make (P := Try.prog) w _ _ i0 _ und_bytes hi hz0 .i64 .i64 128 128 (by omega) (by omega) (by rw [hz2]; decide) (by omega)
  rw [hz1, show (128 : Int).toNat = 128 from rfl, made_bytes] at this
  exact this

/-- a sector of one byte -/
def fullS (c : UInt8) : Dk.Sec := List.replicate 128 c
theorem fullS_len (c : UInt8) : (fullS c).length = 128 := List.length_replicate
theorem fullS_get (c : UInt8) (k : Nat) (h : k < 128) : (Dk.secCells (fullS c))[k]? = some (.int .u8 (c.toNat : Int)) := by
  rw [Dk.secCells, fullS, List.map_replicate, List.getElem?_replicate, if_pos h]

def FullRel (B : Nat) (c : UInt8) (w1 : World) (k : Nat) (wr : World) : Prop :=
  Fr (oneB B) w1 wr ∧ wr.heap.size = w1.heap.size ∧ ∃ cs : Array Value, Has wr B 5 cs ∧ cs.size = 128 ∧ ∀ j, j < k → cs[j]? = some (.int .u8 (c.toNat : Int))
theorem FullRel.step {B : Nat} {c : UInt8} {w1 : World} {k : Nat} {wr : World} (h : FullRel B c w1 k wr) (hk : k < 128) : FullRel B c w1 (k + 1) (wr.setCell ⟨B, k, none⟩ (.int .u8 (c.toNat : Int))) := by
  obtain ⟨f, hz, cs, hb, hs, hc⟩ := h
  refine ⟨f.put _, by simpa using hz, _, hb.set k _, by simpa using hs, fun j hj => ?_⟩
  rw [Array.getElem?_setIfInBounds]
  by_cases e : k = j
  · subst e; rw [if_pos rfl, if_pos (by omega)]
  · rw [if_neg e]; exact hc j (by omega)
theorem FullRel.done {B : Nat} {c : UInt8} {w1 wr : World} (h : FullRel B c w1 128 wr) : Has wr B 5 (Dk.secCells (fullS c)).toArray := by
  obtain ⟨_, _, cs, hb, hs, hc⟩ := h
  have : cs = (Dk.secCells (fullS c)).toArray := by
    apply Array.ext_getElem?
    intro j
    by_cases hj : j < 128
    · rw [hc j hj, List.getElem?_toArray, fullS_get c j hj]
    · rw [Array.getElem?_eq_none (by omega), Array.getElem?_eq_none (by simp [Dk.secCells_len, fullS_len]; omega)]
  rw [← this]; exact hb

set_option maxHeartbeats 400000 in
theorem full_any (c : UInt8) (w : World) : Calls Try.prog 23 #[.int .u8 (c.toNat : Int)] w fun e w' => e = .returned (.slice (some ⟨w.heap.size, 0, none⟩) 128 128) ∧ Has w' w.heap.size 5 (Dk.secCells (fullS c)).toArray ∧ Below w.heap.size w w' := by
  have hmk := run_make128
  go_enter Try.func23, Try.ntmps23
  go_wp2_with fail
  have h0 : Has (w.alloc (.cells zero128 5)) w.heap.size 5 zero128 := Has.of_alloc _ _ _
  have hb : Below w.heap.size w (w.alloc (.cells zero128 5)) := (Below.refl _ _).alloc (Nat.le_refl _) _
  have hs1 : w.heap.size < (w.alloc (.cells zero128 5)).heap.size := by simp
  generalize (w.alloc (.cells zero128 5)) = w1 at *
  have Hb := Lib.hid hb
  clear hb hmk
  go_loopw [4] (fun i wr => ∃ k : Nat, k ≤ 128 ∧ i = .int .i64 k ∧ FullRel w.heap.size c w1 k wr) (fun i _ => 128 - (intOf i).toNat)
  case atStart => exact ⟨0, Nat.zero_le _, rfl, Fr.refl _ _, rfl, zero128, h0, zero128_size, fun j hj => absurd hj (Nat.not_lt_zero j)⟩
  case round =>
    obtain ⟨k, hk, rfl, hrel⟩ := hrel
    by_cases hlt : k < 128
    · have hst := hrel.step hlt
      obtain ⟨f, hz, cs, hcs, hsz, hc⟩ := hrel
      obtain ⟨v0, hcell⟩ : ∃ v0, wr.cell? ⟨w.heap.size, k, none⟩ = some v0 := ⟨cs[k], by rw [hcs.cell, Array.getElem?_eq_getElem (by omega)]⟩
      have hfree : wr.frozen? ⟨w.heap.size, k, none⟩ = false := hcs.free k
      have Hst := Lib.hid hst
      have hlt1 : (k : Int) < 128 := by omega
      clear f hz hcs hsz hc hst
      go_wp2_with fail
      go_roundw
      case rel => exact ⟨k + 1, by omega, by go_num, Hst.out⟩
      case measure => simp [intOf]; omega
    · obtain rfl : k = 128 := by omega
      have Hd := Lib.hid hrel
      clear hrel h0
      go_wp2_with fail
      go_ret
      refine ⟨rfl, Hd.out.done, ?_⟩
      obtain ⟨f, hz, _⟩ := Hd.out
      exact Hb.out.trans ((f.below (by omega) (fun k hk => by have hk : k = w.heap.size := hk; omega)))

/-- bytes that somebody may read -/
def BytesAt (w : World) (v : Value) (l : List UInt8) : Prop :=
  ∃ A c, v = .slice A l.length c ∧ l.length ≤ 140737488355328 ∧ (0 < l.length → ∃ ad, A = some ad ∧ ∀ j x, l[j]? = some x → w.cell? (ad.add j) = some (.int .u8 (x.toNat : Int)))
theorem BytesAt.nil (w : World) (c : Nat) : BytesAt w (.slice none 0 c) [] := ⟨none, c, rfl, by simp, fun h => by simp at h⟩
theorem BytesAt.of_has {w : World} {g : Nat} {t : TypeId} {l : List UInt8} (h : Has w g t (Dk.secCells l).toArray) (hl : l.length ≤ 140737488355328) (c : Nat) : BytesAt w (.slice (some ⟨g, 0, none⟩) l.length c) l :=
  ⟨_, _, rfl, hl, fun _ => ⟨_, rfl, fun j x hj => by rw [Addr.add_mid, Nat.zero_add, h.cell, List.getElem?_toArray, Dk.secCells, List.getElem?_map, hj]; rfl⟩⟩
theorem BytesAt.keep {w w' : World} {S : Nat → Prop} {v : Value} {l : List UInt8} (h : BytesAt w v l) (f : Fr S w w') (hs : ∀ ad n c, v = .slice (some ad) n c → ¬ S ad.block) : BytesAt w' v l := by
  obtain ⟨A, c, rfl, hl, h⟩ := h
  refine ⟨A, c, rfl, hl, fun h0 => ?_⟩
  obtain ⟨ad, rfl, hc⟩ := h h0
  refine ⟨ad, rfl, fun j x hj => ?_⟩
  have h1 := hc j x hj
  have hlt := block_lt_of_cell h1
  rw [World.cell?_of_block (w := w) (f.old _ hlt (by rw [blockOf_add]; exact hs ad _ _ rfl))]
  exact h1
theorem bytes_eq {xs ys : List UInt8} (hl : xs.length = ys.length) (h : ∀ j, j < xs.length → xs[j]? = ys[j]?) : xs = ys := by
  apply List.ext_getElem?
  intro j
  by_cases hj : j < xs.length
  · exact h j hj
  · rw [List.getElem?_eq_none (by omega), List.getElem?_eq_none (by omega)]

set_option maxHeartbeats 800000 in
theorem bytes_any (w : World) (v1 v2 : Value) (xs ys : List UInt8) (h1 : BytesAt w v1 xs) (h2 : BytesAt w v2 ys) :
    Calls Try.prog 24 #[v1, v2] w fun e w' => e = .returned (.bool (decide (xs = ys))) ∧ Fr noB w w' := by
  obtain ⟨A1, c1, rfl, l1, h1⟩ := h1
  obtain ⟨A2, c2, rfl, l2, h2⟩ := h2
  by_cases hl : xs.length = ys.length
  · have hneq : ((xs.length : Int) != (ys.length : Int)) = false := by rw [hl]; simp
    have Hl := Lib.hid hl
    have H1 := Lib.hid h1
    have H2 := Lib.hid h2
    have hll : xs.length ≤ ys.length := by omega
    have hlr : ys.length ≤ xs.length := by omega
    clear hl h1 h2
    go_enter Try.func24, Try.ntmps24
    go_wp2_with fail
    go_loopw [5] (fun i wr => ∃ k : Nat, k ≤ xs.length ∧ i = .int .i64 k ∧ Fr noB w wr ∧ ∀ j, j < k → xs[j]? = ys[j]?) (fun i _ => xs.length - (intOf i).toNat)
    case atStart => exact ⟨0, Nat.zero_le _, rfl, Fr.refl _ _, fun j hj => absurd hj (Nat.not_lt_zero j)⟩
    case round =>
      obtain ⟨k, hk, rfl, hf, hall⟩ := hrel
      by_cases hlt : k < xs.length
      · obtain ⟨a1, rfl, g1⟩ := H1.out (by omega)
        obtain ⟨a2, rfl, g2⟩ := H2.out (by omega)
        have e1 := g1 k _ (List.getElem?_eq_getElem hlt)
        have e2 := g2 k _ (List.getElem?_eq_getElem (show k < ys.length by omega))
        have b1 := block_lt_of_cell e1
        have b2 := block_lt_of_cell e2
        have f1 : wr.cell? (a1.add k) = some (.int .u8 ((xs[k]'hlt).toNat : Int)) := (World.cell?_of_block (w := w) (hf.old _ b1 (fun h => h))).trans e1
        have f2 : wr.cell? (a2.add k) = some (.int .u8 ((ys[k]'(by omega)).toNat : Int)) := (World.cell?_of_block (w := w) (hf.old _ b2 (fun h => h))).trans e2
        have hk1 : (k : Int) < xs.length := by omega
        have hk2 : (k : Int) < ys.length := by omega
        have hk0 : (0 : Int) ≤ k := by omega
        have Hf := Lib.hid hf
        have Ha := Lib.hid hall
        by_cases hx : xs[k]'hlt = ys[k]'(by omega)
        · have hb : (((xs[k]'hlt).toNat : Int) != ((ys[k]'(by omega)).toNat : Int)) = false := by rw [hx]; simp
          have Hx := Lib.hid hx
          clear hx g1 g2 e1 e2 b1 b2 hf hall
          generalize ((xs[k]'hlt).toNat : Int) = p at *
          generalize ((ys[k]'(by omega)).toNat : Int) = q at *
          go_wp2_with fail
          go_quiet (fail)
          go_wp2_with fail
          go_roundw
          case rel => exact ⟨k + 1, by omega, by go_num, Hf.out.drewN _, fun j hj => by
            by_cases e : j = k
            · subst e; rw [List.getElem?_eq_getElem hlt, List.getElem?_eq_getElem (by omega), Hx.out]
            · exact Ha.out j (by omega)⟩
          case measure => simp [intOf]; omega
        · have hne : decide (xs = ys) = false := decide_eq_false (fun e => hx (by subst e; rfl))
          have hb : (((xs[k]'hlt).toNat : Int) != ((ys[k]'(by omega)).toNat : Int)) = true := by
            rw [bne_iff_ne]; intro e; exact hx (UInt8.toNat_inj.1 (by omega))
          have Hn := Lib.hid hne
          clear hx g1 g2 e1 e2 b1 b2 hf hall hne
          generalize ((xs[k]'hlt).toNat : Int) = p at *
          generalize ((ys[k]'(by omega)).toNat : Int) = q at *
          go_wp2_with fail
          go_quiet (fail)
          go_wp2_with fail
          go_ret
          exact ⟨by rw [Hn.out]; rfl, Hf.out.drewN _⟩
      · have he : decide (xs = ys) = true := decide_eq_true (bytes_eq Hl.out (fun j hj => hall j (by omega)))
        have He := Lib.hid he
        have Hf := Lib.hid hf
        have hge : (xs.length : Int) ≤ k := by omega
        clear he hall hf
        go_wp2_with fail
        go_ret
        exact ⟨by rw [He.out]; rfl, Hf.out⟩
  · have hneq : ((xs.length : Int) != (ys.length : Int)) = true := by rw [bne_iff_ne]; omega
    have hne : decide (xs = ys) = false := decide_eq_false (fun e => hl (by rw [e]))
    have Hn := Lib.hid hne
    clear hl hne h1 h2
    go_enter Try.func24, Try.ntmps24
    go_wp2_with fail
    go_ret
    exact ⟨by rw [Hn.out]; rfl, Fr.refl _ _⟩
end Go.Proofs.Ytpgpalnnmoanpaa

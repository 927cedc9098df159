/-
  A page is made: its number is summed in the sum's place first.
-/
import Derived.Test.YtfbdikaaeedeoaaDoorGPut
import Derived.Deep.RegionWith
namespace Go.Proofs.YtfbdikaaeedeoaaDoor
open Go.RowKit
set_option maxRecDepth 100000

theorem splice_lay (L : List UInt8) (o : Nat) (x : List UInt8) : splice (bytCells L) o (bytCells x) = bytCells (lay L o x) := by
  simp only [splice, lay, bytCells, List.map_append, List.map_take, List.map_drop, List.length_map, List.append_assoc]

theorem lay_zero (L x : List UInt8) : lay L 0 x = x ++ L.drop x.length := by simp [lay]
/-- what the page is ahead of its sum -/
def ahead (n : Nat) (l : List UInt8) : List UInt8 := lay (lay (lay zeros512 8 (Pg.be 2 l.length)) 10 l) 0 (Pg.be 8 n)
theorem ahead_eq (n : Nat) (l : List UInt8) : ahead n l = Pg.be 8 n ++ Pg.rest l := by
  unfold ahead
  rw [lay_zero, Pg.be_length]
  congr 1
  have h1 : lay zeros512 8 (Pg.be 2 l.length) = List.replicate 8 0 ++ (Pg.be 2 l.length ++ List.replicate 502 0) := by
    unfold lay zeros512
    rw [Pg.be_length, List.take_replicate, List.drop_replicate, List.append_assoc]
    rfl
  have h2 : (List.replicate 8 (0 : UInt8) ++ (Pg.be 2 l.length ++ List.replicate 502 0)).take 10 = List.replicate 8 0 ++ Pg.be 2 l.length := by
    rw [← List.append_assoc, List.take_append_of_le_length (by simp [Pg.be_length]), List.take_of_length_le (by simp [Pg.be_length])]
  have h3 : (List.replicate 8 (0 : UInt8) ++ (Pg.be 2 l.length ++ List.replicate 502 0)).drop (10 + l.length) = List.replicate (502 - l.length) 0 := by
    rw [← List.append_assoc, List.drop_append, List.drop_eq_nil_of_le (by simp [Pg.be_length]), List.nil_append, List.drop_replicate]
    congr 1
    simp [Pg.be_length]
  rw [h1, lay, h2, h3, List.append_assoc, List.append_assoc, List.drop_append_of_le_length (by simp), List.drop_eq_nil_of_le (by simp), List.nil_append, Pg.rest, List.append_assoc]
theorem made_eq (n : Nat) (l : List UInt8) : lay (ahead n l) 0 (Pg.be 8 (Pg.sum (ahead n l))) = Pg.made n l := by
  rw [ahead_eq n l, lay_zero, Pg.be_length, List.drop_append_of_le_length (by rw [Pg.be_length]; omega), List.drop_eq_nil_of_le (by rw [Pg.be_length]; omega), List.nil_append]
  rfl
theorem len1 (l : List UInt8) : (lay zeros512 8 (Pg.be 2 l.length)).length = 512 := by rw [lay_length _ _ _ (by rw [Pg.be_length, zeros_len]; omega), zeros_len]
theorem len2 (l : List UInt8) (hl : l.length ≤ 502) : (lay (lay zeros512 8 (Pg.be 2 l.length)) 10 l).length = 512 := by rw [lay_length _ _ _ (by rw [len1]; omega), len1]
theorem len3 (n : Nat) (l : List UInt8) (hl : l.length ≤ 502) : (ahead n l).length = 512 := by rw [ahead, lay_length _ _ _ (by rw [Pg.be_length, len2 l hl]; omega), len2 l hl]

theorem below_one {w w1 w2 : World} {g : Nat} (h : Below w.heap.size w w1) (f : Fr (oneB g) w1 w2) (hg : w.heap.size ≤ g) : Below w.heap.size w w2 :=
  h.trans (f.below h.size (fun k hk => by have hk : k = g := hk; omega))
/-- what a copy of l needs of its source -/
theorem copy_src {w : World} {B : Nat} {A : Option Addr} {l : List UInt8} (h : Rd w B A l) (dp : Option Addr) (gd : Option Addr) (hd : dp = gd := by rfl) :
    0 < (bytCells l).length → dp = gd ∧ ∃ ad, A = some ad ∧ ∀ j v, (bytCells l)[j]? = some v → w.cell? (ad.add j) = some v := fun h0 => by
  rw [bytCells_len] at h0
  obtain ⟨g, o, e, h1, h2⟩ := h.2 h0
  exact ⟨hd, ⟨g, o, none⟩, e, fun j v hj => by rw [Addr.add_mid]; exact h2 j v hj⟩
end Go.Proofs.YtfbdikaaeedeoaaDoor

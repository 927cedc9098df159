/-
  A page is made: its number is summed in the sum's place first.
-/
import Derived.Test.YthlmjnlakenmoaaGPut
import Derived.Deep.RegionWith
namespace Go.Proofs.Ythlmjnlakenmoaa
open Go.RowKit
set_option maxRecDepth 100000

theorem splice_lay (L : List UInt8) (o : Nat) (x : List UInt8) : splice (bytCells L) o (bytCells x) = bytCells (lay L o x) := by
  simp only [splice, lay, bytCells, List.map_append, List.map_take, List.map_drop, List.length_map, List.append_assoc]

theorem lay_zero (L x : List UInt8) : lay L 0 x = x ++ L.drop x.length := by simp [lay]
/-- what the page is ahead of its sum -/
def ahead (n : Nat) (l : List UInt8) : List UInt8 := lay (lay (lay zeros512 8 (Pg.be 2 l.length)) 10 l) 0 (Pg.be 8 n)
theorem ahead_eq (n : Nat) (l : List UInt8) : ahead n l = Pg.be 8 n ++ Pg.rest l := by
  unfold ahead
  rw [lay_zero, Pg.be_length]
  congr 1
  have h1 : lay zeros512 8 (Pg.be 2 l.length) = List.replicate 8 0 ++ (Pg.be 2 l.length ++ List.replicate 502 0) := by
    unfold lay zeros512
    rw [Pg.be_length, List.take_replicate, List.drop_replicate, List.append_assoc]
    rfl
  have h2 : (List.replicate 8 (0 : UInt8) ++ (Pg.be 2 l.length ++ List.replicate 502 0)).take 10 = List.replicate 8 0 ++ Pg.be 2 l.length := by
    rw [← List.append_assoc, List.take_append_of_le_length (by simp [Pg.be_length]), List.take_of_length_le (by simp [Pg.be_length])]
  have h3 : (List.replicate 8 (0 : UInt8) ++ (Pg.be 2 l.length ++ List.replicate 502 0)).drop (10 + l.length) = List.replicate (502 - l.length) 0 := by
    rw [← List.append_assoc, List.drop_append, List.drop_eq_nil_of_le (by simp [Pg.be_length]), List.nil_append, List.drop_replicate]
    congr 1
    simp [Pg.be_length]
  rw [h1, lay, h2, h3, List.append_assoc, List.append_assoc, List.drop_append_of_le_length (by simp), List.drop_eq_nil_of_le (by simp), List.nil_append, Pg.rest, List.append_assoc]
theorem made_eq (n : Nat) (l : List UInt8) : lay (ahead n l) 0 (Pg.be 8 (Pg.sum (ahead n l))) = Pg.made n l := by
  rw [ahead_eq n l, lay_zero, Pg.be_length, List.drop_append_of_le_length (by rw [Pg.be_length]; omega), List.drop_eq_nil_of_le (by rw [Pg.be_length]; omega), List.nil_append]
  rfl
theorem len1 (l : List UInt8) : (lay zeros512 8 (Pg.be 2 l.length)).length = 512 := by rw [lay_length _ _ _ (by rw [Pg.be_length, zeros_len]; omega), zeros_len]
theorem len2 (l : List UInt8) (hl : l.length ≤ 502) : (lay (lay zeros512 8 (Pg.be 2 l.length)) 10 l).length = 512 := by rw [lay_length _ _ _ (by rw [len1]; omega), len1]
theorem len3 (n : Nat) (l : List UInt8) (hl : l.length ≤ 502) : (ahead n l).length = 512 := by rw [ahead, lay_length _ _ _ (by rw [Pg.be_length, len2 l hl]; omega), len2 l hl]

theorem below_one {w w1 w2 : World} {g : Nat} (h : Below w.heap.size w w1) (f : Fr (oneB g) w1 w2) (hg : w.heap.size ≤ g) : Below w.heap.size w w2 :=
  h.trans (f.below h.size (fun k hk => by have hk : k = g := hk; omega))
/-- what a copy of l needs of its source -/
theorem copy_src {w : World} {B : Nat} {A : Option Addr} {l : List UInt8} (h : Rd w B A l) (dp : Option Addr) (gd : Option Addr) (hd : dp = gd := by rfl) :
    0 < (bytCells l).length → dp = gd ∧ ∃ ad, A = some ad ∧ ∀ j v, (bytCells l)[j]? = some v → w.cell? (ad.add j) = some v := fun h0 => by
  rw [bytCells_len] at h0
  obtain ⟨g, o, e, h1, h2⟩ := h.2 h0
  exact ⟨hd, ⟨g, o, none⟩, e, fun j v hj => by rw [Addr.add_mid]; exact h2 j v hj⟩
theorem sum_of (W : World) (g : Nat) (L : List UInt8) (n c : Nat) (hn : n = L.length) (hW : Has W g 121 (bytCells L).toArray) (hm : L.length ≤ 140737488355328) : Calls Try.prog 80 #[.slice (some ⟨g, 0, none⟩) n c] W fun e w' => e = .returned (.int .u64 (Pg.sum L : Int)) ∧ Below W.heap.size W w' := by
  subst hn
  exact sum_any W _ L c (Rd.of_has hW (by rw [List.drop_zero, ← bytCells_len, List.take_length]) hm)
theorem size_page1 (w : World) : (w.alloc (.cells zero512 121)).heap.size = w.heap.size + 1 := by simp
set_option maxHeartbeats 800000 in
theorem made_any (w : World) (n : Nat) (hn : n ≤ 16383) (A : Option Addr) (l : List UInt8) (c : Nat) (hl : l.length ≤ 502) (h : Rd w w.heap.size A l) :
    Calls Try.prog 75 #[.int .i64 n, .slice A l.length c] w fun e w' => e = .returned (.agg (bytCells (Pg.made n l)).toArray) ∧ Below w.heap.size w w' := by
  have hz := zer_of inf_page
  have H := Lib.hid h
  clear h
  go_enter Try.func75, Try.ntmps75
  go_wp2_with fail
  have q0 : Has ((w.alloc (.cells zero512 121)).alloc (.cells zero512 121)) (w.heap.size + 1) 121 (bytCells zeros512).toArray := by
    have := Has.of_alloc (w.alloc (.cells zero512 121)) 121 zero512
    simpa [zero512] using this
  have V0 : Hid (Below w.heap.size w (w.alloc (.cells zero512 121))) := Lib.hid ((Below.refl _ _).alloc (Nat.le_refl _) _)
  have U0 : Hid (Has (w.alloc (.cells zero512 121)) w.heap.size 121 zero512) := Lib.hid (Has.of_alloc _ _ _)
  refine (put_bytes _ (w.heap.size + 1) 8 2 _ _ _ q0 (by rw [zeros_len]; omega) (by omega) l.length (by omega)).mono ?_
  rintro e w1 ⟨rfl, q1, f1, s1⟩
  have Q1 := Lib.hid q1
  have hb1 : Below (w.alloc (.cells zero512 121)).heap.size (w.alloc (.cells zero512 121)) w1 := below_one ((Below.refl _ _).alloc (Nat.le_refl _) _) f1 (by rw [size_page1]; omega)
  have hR1 := H.out.below (V0.out.trans (hb1.mono (by rw [size_page1]; omega)))
  have B1 := Lib.hid hb1
  have HR1 := Lib.hid hR1
  clear q0 q1 f1 s1 hb1 hR1
  generalize hV : (w.alloc (.cells zero512 121)) = V at *
  have HV : Hid (V.heap.size = w.heap.size + 1) := Lib.hid (by rw [← hV, size_page1])
  clear hV
  go_wp2_with (refine wpList_copy_splice rfl (.tmp 11) (.tmp 12) 48 48 rfl 5 und_bytes siz_u8 (some ⟨w.heap.size + 1, 10, none⟩) A 502 502 l.length c rfl rfl (w.heap.size + 1) 10 (bytCells (lay zeros512 8 (Pg.be 2 l.length))) 121 Q1.out (bytCells l) (by rw [bytCells_len]; exact (Nat.min_eq_left hl).symm) (copy_src HR1.out _ _) (by rw [bytCells_len, bytCells_len, len1]; omega) (bytCells_one _) V.heap.size V B1.out (by rw [HV.out]; omega) ?_; intro w2 q2 B2; have Q2 : Hid (Has w2 (w.heap.size + 1) 121 (bytCells (lay (lay zeros512 8 (Pg.be 2 l.length)) 10 l)).toArray) := Lib.hid (by rw [← splice_lay]; exact q2.out); have B2h := Lib.hid B2; clear q2 B2 B1 Q1 HR1)
  refine (put_bytes _ (w.heap.size + 1) 0 8 _ _ _ Q2.out (by rw [len2 l hl]; omega) (by omega) n (by omega)).mono ?_
  rintro e w3 ⟨rfl, q3, f3, s3⟩
  have Q3 : Hid (Has w3 (w.heap.size + 1) 121 (bytCells (ahead n l)).toArray) := Lib.hid q3
  have B3 := Lib.hid (below_one B2h.out f3 (by rw [HV.out]; omega))
  clear q3 f3 s3 B2h Q2
  go_wp2_with fail
  have hs : Hid (∀ W, Has W (w.heap.size + 1) 121 (bytCells (ahead n l)).toArray → Below V.heap.size V W → Calls Try.prog 80 #[.slice (some ⟨w.heap.size + 1, 0, none⟩) 512 512] W fun e w' => e = .returned (.int .u64 (Pg.sum (ahead n l) : Int)) ∧ Has w' (w.heap.size + 1) 121 (bytCells (ahead n l)).toArray ∧ Below V.heap.size V w') :=
    Lib.hid (fun W hW hB => (sum_of W (w.heap.size + 1) (ahead n l) 512 512 (len3 n l hl).symm hW (by rw [len3 n l hl]; omega)).mono fun e w' ⟨he, hb⟩ => ⟨he, hW.keep (Fr.of_below hb noB) (fun h => h), hB.trans (hb.mono hB.size)⟩)
  have hme := made_eq n l
  have hsl := Pg.sum_lt (ahead n l)
  have hln := len3 n l hl
  generalize Pg.sum (ahead n l) = s at *
  have HM := Lib.hid hme
  have HL := Lib.hid hln
  clear hme hln
  go_region_with (first
    | (go_at_call 80; refine (hs.out w3.drew Q3.out (Below.drew B3.out)).mono ?_; rintro e w4 ⟨rfl, q4, b4⟩; have Q4 := Lib.hid q4; have B4 := Lib.hid b4; clear q4 b4)
    | (go_at_call 79; refine (put_bytes _ (w.heap.size + 1) 0 8 _ _ _ Q4.out (by rw [HL.out]; omega) (by omega) s hsl).mono ?_; rintro e w5 ⟨rfl, q5, f5, s5⟩; rw [HM.out] at q5; have Q5 := Lib.hid q5; have B5 := Lib.hid (below_one B4.out f5 (by rw [HV.out]; omega)); clear q5 f5 s5))
  all_goals
    have hml := Pg.made_length n l hl
    have hcl : (bytCells (Pg.made n l)).length = 512 := by rw [bytCells_len]; exact hml
    have HC := Lib.hid hcl
    have U5 : Hid (Has w5 w.heap.size 121 zero512) := Lib.hid (U0.out.keep (Fr.of_below B5.out noB) (fun h => h))
    clear hml hcl
    go_wp2_with (first
      | (refine arm_load rfl 121 (.tmp 5) rfl (w.heap.size + 1) 0 512 rfl Q5.out und_page rfl siz_page (bytCells (Pg.made n l)) (by rw [List.drop_zero, ← HC.out, List.take_length]) HC.out ?_)
      | (refine arm_store rfl 121 (.tmp 4) (.tmp 22) rfl w.heap.size 0 (bytCells (Pg.made n l)) rfl rfl U5.out (by rw [siz_page, HC.out]) (by rw [HC.out, zero512_size]; omega) (bytCells_one _) ?_; intro w6 q6 f6 s6; have Q6 : Hid (Has w6 w.heap.size 121 (bytCells (Pg.made n l)).toArray) := Lib.hid (by rw [List.take_zero, List.nil_append, Nat.zero_add, List.drop_eq_nil_of_le (by rw [Array.length_toList, HC.out, zero512_size]; omega), List.append_nil] at q6; exact q6); have F6 := Lib.hid f6; clear q6 f6 s6))
    refine bodyPost_ret (v := .agg (bytCells (Pg.made n l)).toArray) (results_cell_row rfl _ _ w.heap.size 121 _ (0, 0) _ rfl Q6.out und_page rfl (by rw [siz_page, List.size_toArray, HC.out])) rfl ⟨rfl, ?_⟩
    exact below_one (V0.out.trans (B5.out.mono (by rw [HV.out]; omega))) F6.out (Nat.le_refl _)
end Go.Proofs.Ythlmjnlakenmoaa

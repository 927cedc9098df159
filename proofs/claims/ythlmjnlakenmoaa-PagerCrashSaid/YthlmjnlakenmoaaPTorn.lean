/-
  A crash beneath a pager, plain mathematics: what a torn meta says; what of a disk stands whatever crash.
-/
import Derived.Test.YthlmjnlakenmoaaPLive
import Derived.Test.YthlmjnlakenmoaaPOpen
namespace Go.Proofs.Ythlmjnlakenmoaa
open Dk Pr Pg
set_option maxRecDepth 100000

/-! ### a torn meta -/
def mix (old new : List UInt8) (c : Nat) : List UInt8 := new.take c ++ old.drop c
theorem mix_get {old new : List UInt8} (h : old.length = new.length) (c k : Nat) : (mix old new c)[k]? = if k < c then new[k]? else old[k]? := by
  unfold mix
  rw [List.getElem?_append, List.length_take]
  by_cases hk : k < c
  · rw [if_pos hk]
    by_cases hn : k < new.length
    · rw [if_pos (by omega), List.getElem?_take, if_pos hk]
    · rw [if_neg (by omega), List.getElem?_drop, List.getElem?_eq_none (by omega), List.getElem?_eq_none (by omega)]
  · rw [if_neg hk]
    by_cases hn : k < new.length
    · rw [if_neg (by omega), List.getElem?_drop]
      congr 1
      omega
    · rw [if_neg (by omega), List.getElem?_drop, List.getElem?_eq_none (by omega), List.getElem?_eq_none (by omega)]
theorem mix_length {old new : List UInt8} (h : old.length = new.length) (c : Nat) : (mix old new c).length = old.length := by
  unfold mix
  rw [List.length_append, List.length_take, List.length_drop]
  omega
theorem made_get (n : Nat) (l : List UInt8) (k : Nat) : (made n l)[8 + k]? = (rest l)[k]? := by
  rw [Pg.made, List.getElem?_append_right (by rw [be_length]; omega), be_length]
  congr 1
  omega
theorem rest_get (l : List UInt8) (k : Nat) (hk : k < l.length) : (rest l)[2 + k]? = l[k]? := by
  unfold rest
  rw [List.append_assoc, List.getElem?_append_right (by rw [be_length]; omega), be_length, show 2 + k - 2 = k by omega, List.getElem?_append_left hk]
theorem rest_two (s r : Nat) : (rest (metaBytes s r))[0]? = some 0 ∧ (rest (metaBytes s r))[1]? = some 32 := by
  unfold rest
  rw [metaBytes_length, be2]
  exact ⟨rfl, rfl⟩
theorem num8_of {Y Z : List UInt8} (o : Nat) (h : ∀ k, o ≤ k → k < o + 8 → Y[k]? = Z[k]?) : num8 Y o = num8 Z o := by
  unfold num8
  congr 1
  refine List.ext_getElem? fun j => ?_
  rw [List.getElem?_take, List.getElem?_take]
  split
  · rw [List.getElem?_drop, List.getElem?_drop, h (o + j) (by omega) (by omega)]
  · rfl
theorem num8_last (s r : Nat) (hs : s < 18446744073709551616) : num8 (metaBytes s r) 24 = s := by
  have e : ((metaBytes s r).drop 24).take 8 = be 8 s := by
    have hl : (Pr.mark ++ be 8 s ++ be 8 r).length = 24 := by simp [Pr.mark, be_length]
    unfold metaBytes
    rw [List.drop_left' hl]
    exact List.take_of_length_le (by rw [be_length]; omega)
  rw [num8, e, toN_be]
  exact Nat.mod_eq_of_lt (by rw [← p64]; exact hs)
/-- a torn meta is refused, or says what one of the two said -/
theorem torn_meta (q N s r s' r' c : Nat) (hs : s < 18446744073709551616) (hr : r < 18446744073709551616) (hs' : s' < 18446744073709551616) (hr' : r' < 18446744073709551616) (hne : s ≠ s') :
    metaOf q N (mix (made q (metaBytes s r)) (made q (metaBytes s' r')) c) = none ∨ metaOf q N (mix (made q (metaBytes s r)) (made q (metaBytes s' r')) c) = some (s, r) ∨ metaOf q N (mix (made q (metaBytes s r)) (made q (metaBytes s' r')) c) = some (s', r') := by
  have hlen : (made q (metaBytes s r)).length = (made q (metaBytes s' r')).length := by rw [meta_length, meta_length]
  have hg := mix_get hlen c
  generalize hP : mix (made q (metaBytes s r)) (made q (metaBytes s' r')) c = P at *
  have h8 : P[8]? = some 0 := by
    rw [hg]
    have e1 := (made_get q (metaBytes s r) 0).trans (rest_two s r).1
    have e2 := (made_get q (metaBytes s' r') 0).trans (rest_two s' r').1
    rw [Nat.add_zero] at e1 e2
    rw [e1, e2]
    split <;> rfl
  have h9 : P[9]? = some 32 := by
    rw [hg]
    have e1 := (made_get q (metaBytes s r) 1).trans (rest_two s r).2
    have e2 := (made_get q (metaBytes s' r') 1).trans (rest_two s' r').2
    rw [show 8 + 1 = 9 from rfl] at e1 e2
    rw [e1, e2]
    split <;> rfl
  have hsz : Pg.sizeOf P = 32 := by
    unfold Pg.sizeOf
    rw [List.getD_eq_getElem?_getD, List.getD_eq_getElem?_getD, h8, h9]
    rfl
  have hY : ∀ k, k < 32 → (payload P)[k]? = if 10 + k < c then (metaBytes s' r')[k]? else (metaBytes s r)[k]? := fun k hk => by
    unfold payload
    rw [hsz, List.getElem?_take, if_pos hk, List.getElem?_drop, hg]
    have e1 := (made_get q (metaBytes s r) (2 + k)).trans (rest_get _ k (by rw [metaBytes_length]; exact hk))
    have e2 := (made_get q (metaBytes s' r') (2 + k)).trans (rest_get _ k (by rw [metaBytes_length]; exact hk))
    rw [show 8 + (2 + k) = 10 + k by omega] at e1 e2
    rw [e1, e2]
  unfold Pr.metaOf
  split
  · rename_i hgood
    right
    generalize hYY : payload P = Y at *
    have hg2 : Y = metaBytes (num8 Y 8) (num8 Y 16) := by
      rw [Bool.and_eq_true] at hgood
      have := hgood.2
      unfold goodMeta at this
      rw [Bool.and_eq_true] at this
      exact of_decide_eq_true this.1
    obtain ⟨o1, o2⟩ := num8_meta s r hs hr
    obtain ⟨o3, o4⟩ := num8_meta s' r' hs' hr'
    have hl : num8 Y 24 = num8 Y 8 := by
      have := num8_last (num8 Y 8) (num8 Y 16) (num8_lt Y 8)
      rwa [← hg2] at this
    by_cases c1 : c ≤ 26
    · left
      have e16 : num8 Y 16 = r := (num8_of 16 fun k h1 h2 => by rw [hY k (by omega), if_neg (by omega)]).trans o2
      have e24 : num8 Y 24 = s := (num8_of 24 fun k h1 h2 => by rw [hY k (by omega), if_neg (by omega)]).trans (num8_last s r hs)
      rw [← hl, e24, e16]
    · by_cases c2 : c < 34
      · exfalso
        have e8 : num8 Y 8 = s' := (num8_of 8 fun k h1 h2 => by rw [hY k (by omega), if_pos (by omega)]).trans o3
        have e24 : num8 Y 24 = s := (num8_of 24 fun k h1 h2 => by rw [hY k (by omega), if_neg (by omega)]).trans (num8_last s r hs)
        exact hne (by rw [← e24, hl, e8])
      · right
        have e8 : num8 Y 8 = s' := (num8_of 8 fun k h1 h2 => by rw [hY k (by omega), if_pos (by omega)]).trans o3
        have e16 : num8 Y 16 = r' := (num8_of 16 fun k h1 h2 => by rw [hY k (by omega), if_pos (by omega)]).trans o4
        rw [e8, e16]
  · exact .inl rfl

/-! ### the sectors of a meta's page -/
theorem part_meta (q s r i : Nat) (h1 : 1 ≤ i) (h4 : i < 4) : part (made q (metaBytes s r)) i = List.replicate 128 0 := by
  have e : (made q (metaBytes s r)).drop 42 = List.replicate 470 0 := by
    have hl : (be 8 (sum (be 8 q ++ rest (metaBytes s r))) ++ (be 2 32 ++ metaBytes s r)).length = 42 := by simp [be_length, metaBytes_length]
    have : made q (metaBytes s r) = (be 8 (sum (be 8 q ++ rest (metaBytes s r))) ++ (be 2 32 ++ metaBytes s r)) ++ List.replicate 470 0 := by
      rw [Pg.made]
      conv => lhs; rhs; unfold rest
      rw [metaBytes_length]
      simp only [List.append_assoc]
    rw [this, List.drop_left' hl]
  have e2 : (made q (metaBytes s r)).drop (i * 128) = List.replicate (512 - i * 128) 0 := by
    rw [show i * 128 = 42 + (i * 128 - 42) by omega, ← List.drop_drop, e, List.drop_replicate]
    congr 1
    omega
  rw [part, e2, List.take_replicate]
  congr 1
  omega
theorem tear_self (x : Sec) (c : Nat) : tear x x c = x := List.take_append_drop c x
/-- the first sector torn, the others as they were -/
theorem torn_page {old new : List UInt8} (ho : old.length = 512) (c : Nat) (hc : c ≤ 128) :
    tear (part old 0) (part new 0) c ++ part old 1 ++ part old 2 ++ part old 3 = mix old new c := by
  have h := parts_all ho
  unfold mix
  conv => rhs; rw [← h]
  have hl : (part old 0).length = 128 := part_length ho (by omega)
  rw [List.append_assoc, List.append_assoc, List.append_assoc, List.append_assoc, List.drop_append_of_le_length (by omega)]
  unfold tear
  rw [List.append_assoc]
  congr 1
  unfold part
  rw [Nat.zero_mul, List.drop_zero, List.take_take, Nat.min_eq_left hc]

/-! ### what stands whatever crash -/
theorem getD_set_ne {l : List Sec} {i j : Nat} {s : Sec} (h : i ≠ j) : (l.set i s).getD j [] = l.getD j [] := by
  rw [List.getD_eq_getElem?_getD, List.getD_eq_getElem?_getD, List.getElem?_set_ne h]
theorem crashed_off (p : Pl) (ws : List Wr) (l : List Sec) (j : Nat) (h : ∀ w ∈ ws, w.at_ ≠ j) : ∀ k, (crashed p ws l k).getD j [] = l.getD j []
  | 0 => rfl
  | k + 1 => by
    rw [crashed]
    split
    · rename_i x hx
      rw [getD_set_ne (h x (List.mem_of_getElem? hx))]
      exact crashed_off p ws l j h k
    · exact crashed_off p ws l j h k
theorem crashed_pre (p : Pl) (ws us : List Wr) (l : List Sec) : ∀ k, k ≤ ws.length → crashed p (ws ++ us) l k = crashed p ws l k
  | 0, _ => rfl
  | k + 1, hk => by
    rw [crashed, crashed, crashed_pre p ws us l k (by omega), List.getElem?_append_left (by omega)]
/-- the first m writes of a page -/
def pageWs (q : Nat) (pg : List UInt8) (m : Nat) : List Wr := (List.range m).map fun i => ⟨q * 4 + i, part pg i⟩
theorem pageWs_len (q : Nat) (pg : List UInt8) (m : Nat) : (pageWs q pg m).length = m := by simp [pageWs]
theorem pageWs_succ (q : Nat) (pg : List UInt8) (m : Nat) : pageWs q pg (m + 1) = pageWs q pg m ++ [⟨q * 4 + m, part pg m⟩] := by
  simp [pageWs, List.range_succ]
theorem pageWs_at {q : Nat} {pg : List UInt8} {m : Nat} {w : Wr} (h : w ∈ pageWs q pg m) : q * 4 ≤ w.at_ ∧ w.at_ < q * 4 + m := by
  simp only [pageWs, List.mem_map, List.mem_range] at h
  obtain ⟨i, hi, rfl⟩ := h
  exact ⟨by show q * 4 ≤ q * 4 + i; omega, by show q * 4 + i < q * 4 + m; omega⟩
theorem page_crash (p : Pl) (q : Nat) (pg : List UInt8) (l : List Sec) : ∀ m, q * 4 + m ≤ l.length → ∀ j,
    (crashed p (pageWs q pg m) l m).getD j [] = if q * 4 ≤ j ∧ j < q * 4 + m then tear (l.getD j []) (part pg (j - q * 4)) (p.kept (j - q * 4)) else l.getD j []
  | 0, _, j => by rw [if_neg (by omega)]; rfl
  | m + 1, hm, j => by
    have ih := page_crash p q pg l m (by omega)
    rw [crashed, pageWs_succ, crashed_pre p _ _ l m (by rw [pageWs_len]; omega), List.getElem?_append_right (by rw [pageWs_len]; omega), pageWs_len, Nat.sub_self]
    show (List.set _ (q * 4 + m) (tear ((crashed p (pageWs q pg m) l m).getD (q * 4 + m) []) (part pg m) (p.kept m))).getD j [] = _
    by_cases hj : j = q * 4 + m
    · subst hj
      rw [getD_setS (by rw [crashed_len]; omega), if_pos rfl, if_pos (by omega), ih, if_neg (by omega), show q * 4 + m - q * 4 = m by omega]
    · rw [getD_set_ne (fun e => hj e.symm), ih]
      by_cases hc : q * 4 ≤ j ∧ j < q * 4 + m
      · rw [if_pos hc, if_pos (by omega)]
      · rw [if_neg hc, if_neg (by omega)]
/-- what a page says on what lasts -/
def pageL (l : List Sec) (n : Nat) : List UInt8 := (Dk.fresh l).page n
theorem pageL_four (l : List Sec) (n : Nat) : pageL l n = l.getD (n * 4) [] ++ l.getD (n * 4 + 1) [] ++ l.getD (n * 4 + 2) [] ++ l.getD (n * 4 + 3) [] := page_four _ n
theorem pageL_congr {l l' : List Sec} {n : Nat} (h : ∀ j, n * 4 ≤ j → j < n * 4 + 4 → l'.getD j [] = l.getD j []) : pageL l' n = pageL l n := by
  rw [pageL_four, pageL_four, h _ (by omega) (by omega), h _ (by omega) (by omega), h _ (by omega) (by omega), h _ (by omega) (by omega)]
theorem part_four {a b c d : Sec} (fa : a.length = 128) (fb : b.length = 128) (fc : c.length = 128) (fd : d.length = 128) : part (a ++ b ++ c ++ d) 0 = a ∧ part (a ++ b ++ c ++ d) 1 = b ∧ part (a ++ b ++ c ++ d) 2 = c ∧ part (a ++ b ++ c ++ d) 3 = d := by
  have e : a ++ b ++ c ++ d = a ++ (b ++ (c ++ d)) := by simp only [List.append_assoc]
  have d1 : (a ++ (b ++ (c ++ d))).drop 128 = b ++ (c ++ d) := List.drop_left' fa
  have d2 : (a ++ (b ++ (c ++ d))).drop 256 = c ++ d := by rw [show 256 = 128 + 128 from rfl, ← List.drop_drop, d1]; exact List.drop_left' fb
  have d3 : (a ++ (b ++ (c ++ d))).drop 384 = d := by rw [show 384 = 256 + 128 from rfl, ← List.drop_drop, d2]; exact List.drop_left' fc
  rw [e]
  unfold part
  refine ⟨?_, ?_, ?_, ?_⟩
  · rw [Nat.zero_mul, List.drop_zero]; exact List.take_left' fa
  · rw [Nat.one_mul, d1]; exact List.take_left' fb
  · rw [show 2 * 128 = 256 from rfl, d2]; exact List.take_left' fc
  · rw [show 3 * 128 = 384 from rfl, d3]; exact List.take_of_length_le (by omega)
theorem pageL_parts {l : List Sec} (hf : Full l) {n : Nat} (hn : n * 4 + 4 ≤ l.length) (i : Nat) (hi : i < 4) : part (pageL l n) i = l.getD (n * 4 + i) [] := by
  rw [pageL_four]
  obtain ⟨p0, p1, p2, p3⟩ := part_four (getD_full hf (i := n * 4) (by omega)) (getD_full hf (i := n * 4 + 1) (by omega)) (getD_full hf (i := n * 4 + 2) (by omega)) (getD_full hf (i := n * 4 + 3) (by omega))
  rcases (by omega : i = 0 ∨ i = 1 ∨ i = 2 ∨ i = 3) with rfl | rfl | rfl | rfl
  · exact p0
  · exact p1
  · exact p2
  · exact p3
/-- a torn write of a meta over a meta -/
theorem meta_crash {l : List Sec} (hf : Full l) {q : Nat} (hq : q * 4 + 4 ≤ l.length) {s r s' r' : Nat} (ho : pageL l q = Pg.made q (metaBytes s r)) (p : Pl) (hp : p.cut ≤ 128) (m : Nat) (hm : m ≤ 4) :
    ∃ c, pageL (crashed p (pageWs q (Pg.made q (metaBytes s' r')) m) l m) q = mix (Pg.made q (metaBytes s r)) (Pg.made q (metaBytes s' r')) c := by
  have hc := page_crash p q (Pg.made q (metaBytes s' r')) l m (by omega)
  have hparts := fun i hi => pageL_parts hf hq i hi
  rw [ho] at hparts
  have hrest : ∀ i, 1 ≤ i → i < 4 → (crashed p (pageWs q (Pg.made q (metaBytes s' r')) m) l m).getD (q * 4 + i) [] = part (Pg.made q (metaBytes s r)) i := fun i h1 h4 => by
    rw [hc, show q * 4 + i - q * 4 = i by omega, ← hparts i h4, part_meta q s' r' i h1 h4, part_meta q s r i h1 h4, tear_self, ite_self]
  rw [pageL_four, hrest 1 (by omega) (by omega), hrest 2 (by omega) (by omega), hrest 3 (by omega) (by omega)]
  have h0 := hc (q * 4)
  have hp0 := hparts 0 (by omega)
  rw [Nat.add_zero] at hp0
  rw [h0, Nat.sub_self, ← hp0]
  by_cases hm0 : 0 < m
  · rw [if_pos (by omega)]
    exact ⟨p.kept 0, torn_page (meta_length q s r) _ (p.kept_le hp 0)⟩
  · rw [if_neg (by omega)]
    refine ⟨0, ?_⟩
    rw [parts_all (meta_length q s r), mix, List.take_zero, List.drop_zero, List.nil_append]
end Go.Proofs.Ythlmjnlakenmoaa
/-
  A crash beneath a pager, plain mathematics: a commit on a disk with a fuse is there whole, or not at all.
-/
namespace Go.Proofs.Ythlmjnlakenmoaa
open Dk Pr Pg
set_option maxRecDepth 100000

def okR (N r : Nat) : Prop := r = 0 ∨ 2 ≤ r ∧ r < N
/-- both metas, behind the commit seq: that which the next commit leaves alone says the root -/
structure MetasAt (L : List Sec) (N seq root so sq rq : Nat) : Prop where
  stay : pageL L (seq % 2) = Pg.made (seq % 2) (metaBytes so root)
  next : pageL L ((seq + 1) % 2) = Pg.made ((seq + 1) % 2) (metaBytes sq rq)
  so_le : so ≤ seq
  sq_le : sq ≤ seq
  late : so ≤ sq → rq = root
  ro : okR N root
  rqo : okR N rq
def Metas (L : List Sec) (N seq root : Nat) : Prop := ∃ so sq rq, MetasAt L N seq root so sq rq
theorem Metas.congr {L L' : List Sec} {N seq root : Nat} (h : Metas L N seq root) (e : ∀ n, n < 2 → pageL L' n = pageL L n) : Metas L' N seq root := by
  obtain ⟨so, sq, rq, h⟩ := h
  exact ⟨so, sq, rq, by rw [e _ (by omega)]; exact h.stay, by rw [e _ (by omega)]; exact h.next, h.so_le, h.sq_le, h.late, h.ro, h.rqo⟩
theorem latest_any2 (x y : Nat × Nat) : latest (some x) (some y) = if y.1 > x.1 then some y else some x := rfl
theorem latest_two {s1 r1 s2 r2 : Nat} : (latest (some (s1, r1)) (some (s2, r2)) = some (s2, r2) ∧ s1 < s2) ∨ (latest (some (s1, r1)) (some (s2, r2)) = some (s1, r1) ∧ s2 ≤ s1) := by
  rw [latest_any2]
  by_cases h : s1 < s2
  · exact .inl ⟨if_pos h, h⟩
  · exact .inr ⟨if_neg h, by omega⟩
/-- what Open finds where the one meta says (so, root), the other nothing or (s, r) -/
theorem latest_some (o : Nat) (ho : o < 2) (so root : Nat) (a : Option (Nat × Nat)) (P : Nat → Nat → Prop) (h0 : a = none → P so root) (h1 : ∀ s r, a = some (s, r) → (so < s → P s r) ∧ (s < so → P so root) ∧ (s = so → P s r ∧ P so root)) (A B : Option (Nat × Nat)) (hA : A = if o = 0 then some (so, root) else a) (hB : B = if o = 0 then a else some (so, root)) : ∃ s r, latest A B = some (s, r) ∧ P s r := by
  rcases (by omega : o = 0 ∨ o = 1) with rfl | rfl
  · rw [if_pos rfl] at hA hB
    rw [hA, hB]
    cases a with
    | none => exact ⟨_, _, rfl, h0 rfl⟩
    | some x =>
      obtain ⟨s, r⟩ := x
      obtain ⟨k1, k2, k3⟩ := h1 s r rfl
      rcases @latest_two so root s r with ⟨e, hlt⟩ | ⟨e, hle⟩
      · exact ⟨_, _, e, k1 hlt⟩
      · rcases Nat.lt_or_eq_of_le hle with h | h
        · exact ⟨_, _, e, k2 h⟩
        · exact ⟨_, _, e, (k3 h).2⟩
  · rw [if_neg (by omega)] at hA hB
    rw [hA, hB]
    cases a with
    | none => exact ⟨_, _, rfl, h0 rfl⟩
    | some x =>
      obtain ⟨s, r⟩ := x
      obtain ⟨k1, k2, k3⟩ := h1 s r rfl
      rcases @latest_two s r so root with ⟨e, hlt⟩ | ⟨e, hle⟩
      · exact ⟨_, _, e, k2 hlt⟩
      · rcases Nat.lt_or_eq_of_le hle with h | h
        · exact ⟨_, _, e, k1 h⟩
        · exact ⟨_, _, e, (k3 h.symm).1⟩
theorem okR_lt {N r : Nat} (h : okR N r) (hN : N ≤ 16384) : r < 18446744073709551616 := by unfold okR at h; omega
/-- a crash within the writing of a meta -/
theorem metas_torn {L L' : List Sec} {N seq root r' : Nat} (hN : N ≤ 16384) (hL : L'.length / 4 = N) (hseq : seq + 1 ≤ 4611686018427387904) (hr : okR N r') (h : Metas L N seq root) (hst : pageL L' (seq % 2) = pageL L (seq % 2))
    (hm : ∀ s r, pageL L ((seq + 1) % 2) = Pg.made ((seq + 1) % 2) (metaBytes s r) → ∃ c, pageL L' ((seq + 1) % 2) = mix (Pg.made ((seq + 1) % 2) (metaBytes s r)) (Pg.made ((seq + 1) % 2) (metaBytes (seq + 1) r')) c) :
    ∃ s r, (Dk.fresh L').meta_ = some (s, r) ∧ (r = root ∨ r = r') := by
  obtain ⟨so, sq, rq, h⟩ := h
  obtain ⟨c, hc⟩ := hm _ _ h.next
  have hsle := h.so_le
  have hqle := h.sq_le
  have h1 := metaOf_made (seq % 2) N so root (by omega) h.ro hN
  have h2 := torn_meta ((seq + 1) % 2) N sq rq (seq + 1) r' c (by omega) (okR_lt h.rqo hN) (by omega) (okR_lt hr hN) (by omega)
  rw [← h.stay, ← hst] at h1
  rw [← hc] at h2
  refine latest_some (seq % 2) (Nat.mod_lt _ (by omega)) so root (metaOf ((seq + 1) % 2) N (pageL L' ((seq + 1) % 2))) (fun _ r => r = root ∨ r = r') (fun _ => .inl rfl) (fun s r e => ?_) _ _ ?_ ?_
  · rcases h2 with h2 | h2 | h2
    · rw [h2] at e; cases e
    · rw [h2] at e
      injection e with e
      injection e with e1 e2
      subst e1 e2
      exact ⟨fun hlt => .inl (h.late (Nat.le_of_lt hlt)), fun _ => .inl rfl, fun e => ⟨.inl (h.late (by omega)), .inl rfl⟩⟩
    · rw [h2] at e
      injection e with e
      injection e with e1 e2
      subst e1 e2
      exact ⟨fun _ => .inr rfl, fun _ => .inl rfl, fun _ => ⟨.inr rfl, .inl rfl⟩⟩
  · show metaOf 0 (L'.length / 4) (pageL L' 0) = _
    rw [hL]
    rcases (by omega : seq % 2 = 0 ∨ seq % 2 = 1) with e | e
    · rw [if_pos e, ← h1, e]
    · rw [if_neg (by omega), show (seq + 1) % 2 = 0 by omega]
  · show metaOf 1 (L'.length / 4) (pageL L' 1) = _
    rw [hL]
    rcases (by omega : seq % 2 = 0 ∨ seq % 2 = 1) with e | e
    · rw [if_pos e, show (seq + 1) % 2 = 1 by omega]
    · rw [if_neg (by omega), ← h1, e]

/-! ### what the pages say -/
abbrev Txt := Nat → Option (List UInt8)
def Says (L : List Sec) (N : Nat) (f : Txt) : Prop := ∀ n b, f n = some b → 2 ≤ n ∧ n < N ∧ b.length ≤ 502 ∧ pageL L n = Pg.made n b
theorem Says.congr {L L' : List Sec} {N : Nat} {f : Txt} (h : Says L N f) (e : ∀ n, f n ≠ none → pageL L' n = pageL L n) : Says L' N f := fun n b hb => by
  obtain ⟨h1, h2, h3, h4⟩ := h n b hb
  exact ⟨h1, h2, h3, (e n (by rw [hb]; simp)).trans h4⟩
/-- the writes that wait touch no meta, and no page of f -/
def Off (f : Txt) (ws : List Wr) : Prop := ∀ w ∈ ws, 8 ≤ w.at_ ∧ f (w.at_ / 4) = none
theorem Off.two {f : Txt} {ws : List Wr} (h : Off f ws) {n j : Nat} (hn : n < 2 ∨ f n ≠ none) (h1 : n * 4 ≤ j) (h2 : j < n * 4 + 4) : ∀ w ∈ ws, w.at_ ≠ j := fun w hw e => by
  obtain ⟨k1, k2⟩ := h w hw
  rcases hn with hn | hn
  · omega
  · exact hn (by rw [← k2]; congr 1; omega)
theorem off_crash {f : Txt} {ws : List Wr} (h : Off f ws) (p : Pl) (L : List Sec) (k : Nat) {n : Nat} (hn : n < 2 ∨ f n ≠ none) : pageL (crashed p ws L k) n = pageL L n :=
  pageL_congr fun j h1 h2 => crashed_off p ws L j (h.two hn h1 h2) k
theorem seen_off (j : Nat) (s : Sec) (ws : List Wr) (h : ∀ w ∈ ws, w.at_ ≠ j) : Dk.seen ws j s = s := by
  induction ws using snoc_ind with
  | h0 => rfl
  | h ws x ih => rw [seen_snoc, if_neg (h x (by simp)), ih fun w hw => h w (by simp [hw])]
theorem off_page {f : Txt} {x : St} (h : Off f x.waits) {n : Nat} (hn : n < 2 ∨ f n ≠ none) : x.page n = pageL x.lasts n := by
  rw [page_four, pageL_four]
  have e : ∀ j, n * 4 ≤ j → j < n * 4 + 4 → x.read j = x.lasts.getD j [] := fun j h1 h2 => seen_off j _ _ (h.two hn h1 h2)
  rw [e _ (by omega) (by omega), e _ (by omega) (by omega), e _ (by omega) (by omega), e _ (by omega) (by omega)]
theorem Off.nil (f : Txt) : Off f [] := fun w hw => by cases hw
theorem Off.page {f : Txt} {ws : List Wr} (h : Off f ws) {n : Nat} (h2 : 2 ≤ n) (hf : f n = none) (pg : List UInt8) {m : Nat} (hm : m ≤ 4) : Off f (ws ++ pageWs n pg m) := fun w hw => by
  rcases List.mem_append.1 hw with e | e
  · exact h w e
  · obtain ⟨k1, k2⟩ := pageWs_at e
    exact ⟨by omega, by rw [show w.at_ / 4 = n by omega]; exact hf⟩
/-- behind a crash: root r, and the pages f -/
def Lost (L : List Sec) (N root : Nat) (f : Txt) : Prop := L.length = N * 4 ∧ (∃ s, (Dk.fresh L).meta_ = some (s, root)) ∧ Says L N f
theorem metas_open {L : List Sec} {N seq root : Nat} (hN : N ≤ 16384) (hL : L.length / 4 = N) (hseq : seq + 1 ≤ 4611686018427387904) (h : Metas L N seq root) : ∃ s, (Dk.fresh L).meta_ = some (s, root) := by
  obtain ⟨so, sq, rq, h'⟩ := id h
  obtain ⟨s, r, e, hr⟩ := metas_torn (r' := root) hN hL hseq h'.ro h rfl fun s r e => ⟨0, by rw [e, mix, List.take_zero, List.drop_zero, List.nil_append]⟩
  exact ⟨s, by rw [e]; rcases hr with rfl | rfl <;> rfl⟩
theorem lost_crash {L : List Sec} {N seq root : Nat} {f : Txt} {ws : List Wr} (hN : N ≤ 16384) (hL : L.length = N * 4) (hseq : seq + 1 ≤ 4611686018427387904) (hm : Metas L N seq root) (hs : Says L N f) (ho : Off f ws) (p : Pl) (k : Nat) : Lost (crashed p ws L k) N root f :=
  ⟨by rw [crashed_len]; exact hL, metas_open hN (by rw [crashed_len]; omega) hseq (hm.congr fun n hn => off_crash ho p L k (.inl hn)), hs.congr fun n hn => off_crash ho p L k (.inr hn)⟩

/-! ### a fuse -/
theorem fz_write0 (x : St) (p : Pl) (i : Nat) (s : Sec) : ((x.fuse 0 p).write i s).dead = true ∧ ((x.fuse 0 p).write i s).lasts = crashed p (x.waits ++ [(⟨i, s⟩ : Wr)]) x.lasts (x.waits ++ [(⟨i, s⟩ : Wr)]).length := ⟨rfl, rfl⟩
theorem fz_flush0 (x : St) (p : Pl) : (x.fuse 0 p).flush.dead = true ∧ (x.fuse 0 p).flush.lasts = crashed p x.waits x.lasts x.waits.length := ⟨rfl, rfl⟩
theorem fz_due (x : St) (j : Nat) (p : Pl) : (x.fuse (j + 1) p).due = false := by simp [St.fuse, St.due]
theorem fz_writeS {x : St} (h : x.Live) (j : Nat) (p : Pl) (i : Nat) (s : Sec) : (x.fuse (j + 1) p).write i s = (x.write i s).fuse j p := by
  have e1 : ((x.fuse (j + 1) p).wait i s).due = false := fz_due x j p
  have e2 : (x.wait i s).due = false := h.due
  unfold St.write St.step
  rw [e1, e2, if_neg (by simp), if_neg (by simp)]
  simp [St.fuse, St.tick, St.wait]
theorem fz_flushS {x : St} (h : x.Live) (j : Nat) (p : Pl) : (x.fuse (j + 1) p).flush = x.flush.fuse j p := by
  unfold St.flush
  rw [fz_due, h.due, if_neg (by simp), if_neg (by simp)]
  simp [St.fuse, St.tick]
theorem live_raw {x : St} (h : x.Live) {n : Nat} {pg : List UInt8} (hp : pg.length = 512) (hn : n * 4 + 4 ≤ x.lasts.length) : ∀ k, k ≤ 4 → (x.puts n pg k).lasts = x.lasts ∧ (x.puts n pg k).waits = x.waits ++ pageWs n pg k
  | 0, _ => ⟨rfl, by simp [pageWs, St.puts]⟩
  | k + 1, hk => by
    obtain ⟨h1, h2⟩ := live_raw h hp hn k (by omega)
    have hl := (live_puts h hp hn k (by omega)).1
    have e : x.puts n pg (k + 1) = ((x.puts n pg k).wait (n * 4 + k) (part pg k)).tick := by
      rw [St.puts, if_neg (by rw [hl.dead]; simp)]
      unfold St.write St.step
      rw [due_wait, hl.due]; rfl
    rw [e, pageWs_succ, ← List.append_assoc, ← h2]
    exact ⟨h1, rfl⟩
theorem fz_puts {x : St} (h : x.Live) {n : Nat} {pg : List UInt8} (hp : pg.length = 512) (hn : n * 4 + 4 ≤ x.lasts.length) (p : Pl) : ∀ k, k ≤ 4 →
    (∀ j, (x.fuse (k + j) p).puts n pg k = (x.puts n pg k).fuse j p) ∧
    (∀ j, j < k → ((x.fuse j p).puts n pg k).dead = true ∧ ((x.fuse j p).puts n pg k).lasts = crashed p (x.waits ++ pageWs n pg (j + 1)) x.lasts (x.waits ++ pageWs n pg (j + 1)).length)
  | 0, _ => ⟨fun j => by rw [Nat.zero_add]; rfl, fun j hj => by omega⟩
  | k + 1, hk => by
    obtain ⟨i1, i2⟩ := fz_puts h hp hn p k (by omega)
    have hl := (live_puts h hp hn k (by omega)).1
    obtain ⟨r1, r2⟩ := live_raw h hp hn k (by omega)
    refine ⟨fun j => ?_, fun j hj => ?_⟩
    · rw [St.puts, St.puts, show k + 1 + j = k + (j + 1) by omega, i1 (j + 1), if_neg (show ¬ ((x.puts n pg k).fuse (j + 1) p).dead = true by rw [show ((x.puts n pg k).fuse (j + 1) p).dead = (x.puts n pg k).dead from rfl, hl.dead]; simp), if_neg (by rw [hl.dead]; simp)]
      exact fz_writeS hl j p _ _
    · by_cases hjk : j < k
      · obtain ⟨k1, k2⟩ := i2 j hjk
        rw [St.puts, if_pos k1]
        exact ⟨k1, k2⟩
      · obtain rfl : j = k := by omega
        have e := i1 0
        rw [Nat.add_zero] at e
        rw [St.puts, e, if_neg (show ¬ ((x.puts n pg j).fuse 0 p).dead = true by rw [show ((x.puts n pg j).fuse 0 p).dead = (x.puts n pg j).dead from rfl, hl.dead]; simp)]
        obtain ⟨w1, w2⟩ := fz_write0 (x.puts n pg j) p (n * 4 + j) (part pg j)
        refine ⟨w1, ?_⟩
        rw [w2, r1, r2, pageWs_succ, List.append_assoc]

/-! ### a disk beneath a pager that will crash by the plan p -/
structure SureAt (p : Pl) (d : St) (N seq root : Nat) (f : Txt) (x : St) (j : Nat) : Prop where
  is : d = x.fuse j p
  live : x.Live
  len : x.lasts.length = N * 4
  metas : Metas x.lasts N seq root
  says : Says x.lasts N f
  off : Off f x.waits
def Sure (p : Pl) (d : St) (N seq root : Nat) (f : Txt) : Prop := ∃ x j, SureAt p d N seq root f x j
theorem Sure.dead {p : Pl} {d : St} {N seq root : Nat} {f : Txt} (h : Sure p d N seq root f) : d.dead = false := by
  obtain ⟨x, j, h⟩ := h
  rw [h.is]; exact h.live.dead
theorem Sure.len {p : Pl} {d : St} {N seq root : Nat} {f : Txt} (h : Sure p d N seq root f) : d.lasts.length = N * 4 := by
  obtain ⟨x, j, h⟩ := h
  rw [h.is]; exact h.len
theorem Sure.page {p : Pl} {d : St} {N seq root : Nat} {f : Txt} (h : Sure p d N seq root f) {n : Nat} {b : List UInt8} (hf : f n = some b) : d.page n = Pg.made n b := by
  obtain ⟨x, j, h⟩ := h
  have e : d.page n = x.page n := by rw [h.is, page_four, page_four]; rfl
  rw [e, off_page h.off (.inr (by rw [hf]; simp))]
  exact (h.says n b hf).2.2.2
theorem sure_crash {p : Pl} {d : St} {N seq root : Nat} {f : Txt} (h : Sure p d N seq root f) (hN : N ≤ 16384) (hseq : seq + 1 ≤ 4611686018427387904) (p' : Pl) : Lost (d.crash p').lasts N root f := by
  obtain ⟨x, j, h⟩ := h
  have e : (d.crash p').lasts = crashed p' x.waits x.lasts x.waits.length := by rw [h.is]; rfl
  rw [e]
  exact lost_crash hN h.len hseq h.metas h.says h.off p' _
theorem sure_put {p : Pl} {d : St} {N seq root : Nat} {f : Txt} (h : Sure p d N seq root f) (hN : N ≤ 16384) (hseq : seq + 1 ≤ 4611686018427387904) {n : Nat} {pg : List UInt8} (h2 : 2 ≤ n) (hn : n < N) (hf : f n = none) (hp : pg.length = 512) :
    (Sure p (d.puts n pg 4) N seq root f ∧ ∀ m, (d.puts n pg 4).page m = if n = m then pg else d.page m) ∨ ((d.puts n pg 4).dead = true ∧ Lost (d.puts n pg 4).lasts N root f) := by
  obtain ⟨x, j, h⟩ := h
  have hl : n * 4 + 4 ≤ x.lasts.length := by rw [h.len]; omega
  obtain ⟨f1, f2⟩ := fz_puts h.live hp hl p 4 (by omega)
  rw [h.is]
  by_cases hj : j < 4
  · obtain ⟨k1, k2⟩ := f2 j hj
    refine .inr ⟨k1, ?_⟩
    rw [k2]
    exact lost_crash hN h.len hseq h.metas h.says (h.off.page h2 hf pg (by omega)) p _
  · have e := f1 (j - 4)
    rw [show 4 + (j - 4) = j by omega] at e
    rw [e]
    obtain ⟨r1, r2⟩ := live_raw h.live hp hl 4 (by omega)
    obtain ⟨l1, l2⟩ := live_putPage h.live hp hl
    refine .inl ⟨⟨x.puts n pg 4, j - 4, rfl, l1, by rw [r1]; exact h.len, by rw [r1]; exact h.metas, by rw [r1]; exact h.says, by rw [r2]; exact h.off.page h2 hf pg (by omega)⟩, fun m => ?_⟩
    have e1 : ((x.puts n pg 4).fuse (j - 4) p).page m = (x.puts n pg 4).page m := by rw [page_four, page_four]; rfl
    have e2 : (x.fuse j p).page m = x.page m := by rw [page_four, page_four]; rfl
    rw [e1, e2]
    exact l2 m
end Go.Proofs.Ythlmjnlakenmoaa

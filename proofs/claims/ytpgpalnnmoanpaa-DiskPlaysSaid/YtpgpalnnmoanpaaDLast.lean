/-
  DiskLasts, plain mathematics: sectors that are full of one byte, writes of them, flushes, and what a crash leaves of each.
-/
import Derived.Test.YtpgpalnnmoanpaaDLaw
namespace Go.Proofs.Ytpgpalnnmoanpaa
open Dk

abbrev Pw := Nat × UInt8
def mkW (x : Pw) : Wr := ⟨x.1, fullS x.2⟩
/-- the bytes that last behind the first k writes -/
def setAll (ll : List UInt8) (wl : List Pw) : Nat → List UInt8
  | 0 => ll
  | k + 1 => match wl[k]? with | some x => (setAll ll wl k).set x.1 x.2 | none => setAll ll wl k
theorem setAll_len (ll : List UInt8) (wl : List Pw) : ∀ k, (setAll ll wl k).length = ll.length
  | 0 => rfl
  | k + 1 => by
    rw [setAll]
    split
    · rw [List.length_set, setAll_len]
    · exact setAll_len ll wl k
theorem flushed_map (ll : List UInt8) (wl : List Pw) : ∀ k, flushed (wl.map mkW) (ll.map fullS) k = (setAll ll wl k).map fullS
  | 0 => rfl
  | k + 1 => by
    rw [flushed, setAll, List.getElem?_map, flushed_map ll wl k]
    cases wl[k]? with
    | none => rfl
    | some x => simp [mkW, List.map_set]
/-- the disk of such writes -/
def stOf (ll : List UInt8) (wl : List Pw) (k : Nat) : St := ⟨ll.map fullS, wl.map mkW, k, false, false, 0, noPlan⟩
theorem stOf_write (ll : List UInt8) (wl : List Pw) (k i : Nat) (c : UInt8) : (stOf ll wl k).write i (fullS c) = stOf ll (wl ++ [(i, c)]) (k + 1) := by
  simp [stOf, St.write, St.step, St.due, St.wait, St.tick, mkW]
theorem stOf_flush (ll : List UInt8) (wl : List Pw) (k : Nat) : (stOf ll wl k).flush = stOf (setAll ll wl wl.length) [] (k + 1) := by
  have e : flushed (wl.map mkW) (ll.map fullS) (wl.map mkW).length = (setAll ll wl wl.length).map fullS := by rw [List.length_map]; exact flushed_map ll wl _
  simp only [stOf, St.flush, St.due, St.tick, Bool.false_and, if_neg (Bool.false_ne_true), List.map_nil]
  rw [e]
  rfl
theorem stOf_made (n : Nat) : made n = stOf (List.replicate n 0) [] 0 := by
  simp only [made, fresh, stOf, List.map_replicate, List.map_nil]
  rfl

/-- a sector of two bytes -/
def mix (h t : UInt8) (c : Nat) : Sec := List.replicate c h ++ List.replicate (128 - c) t
theorem mix_len (h t : UInt8) (c : Nat) (hc : c ≤ 128) : (mix h t c).length = 128 := by simp [mix]; omega
theorem mix_zero (h t : UInt8) : mix h t 0 = fullS t := by simp [mix, fullS]
theorem mix_get (h t : UInt8) (c : Nat) (hc : c ≤ 128) (j : Nat) (hj : j < 128) : (mix h t c)[j]? = some (if j < c then h else t) := by
  rw [mix, List.getElem?_append]
  by_cases e : j < c
  · rw [if_pos (by simpa using e), if_pos e, List.getElem?_replicate, if_pos e]
  · rw [if_neg (by simpa using e), if_neg e, List.length_replicate, List.getElem?_replicate, if_pos (by omega)]
theorem fullS_mix (c : UInt8) : fullS c = mix c c 0 := (mix_zero c c).symm

/-- head, tail and cut of the sector i behind the first k writes -/
def htc (p : Pl) (wl : List Pw) (i : Nat) (c0 : UInt8) : Nat → UInt8 × UInt8 × Nat
  | 0 => (c0, c0, 0)
  | k + 1 => match wl[k]? with
    | some x => if x.1 = i then
        (if (k : Int) = p.torn then (x.2, (htc p wl i c0 k).2.1, p.cut.toNat) else if p.keep[k]? = some true then (x.2, x.2, 0) else htc p wl i c0 k)
      else htc p wl i c0 k
    | none => htc p wl i c0 k
theorem htc_cut {p : Pl} (hp : p.cut ≤ 128) (wl : List Pw) (i : Nat) (c0 : UInt8) : ∀ k, (htc p wl i c0 k).2.2 ≤ 128 ∧ ((k : Int) ≤ p.torn → (htc p wl i c0 k).2.2 = 0)
  | 0 => ⟨Nat.zero_le _, fun _ => rfl⟩
  | k + 1 => by
    obtain ⟨h1, h2⟩ := htc_cut hp wl i c0 k
    rw [htc]
    split
    · split
      · split
        · exact ⟨by show p.cut.toNat ≤ 128; omega, fun h => by omega⟩
        · split
          · exact ⟨Nat.zero_le _, fun _ => rfl⟩
          · exact ⟨h1, fun h => h2 (by omega)⟩
      · exact ⟨h1, fun h => h2 (by omega)⟩
    · exact ⟨h1, fun h => h2 (by omega)⟩
theorem getD_set {l : List Sec} {i : Nat} (hi : i < l.length) (j : Nat) (s : Sec) : (l.set j s).getD i [] = if j = i then s else l.getD i [] := by
  rw [List.getD_eq_getElem?_getD, List.getD_eq_getElem?_getD, List.getElem?_set]
  by_cases e : j = i
  · subst e; rw [if_pos rfl, if_pos hi, if_pos rfl]; rfl
  · rw [if_neg e, if_neg e]
theorem crashed_mix {p : Pl} (hp : p.cut ≤ 128) (ll : List UInt8) (wl : List Pw) (i : Nat) (hi : i < ll.length) (c0 : UInt8) (h0 : ll[i]? = some c0) : ∀ k,
    (crashed p (wl.map mkW) (ll.map fullS) k).getD i [] = mix (htc p wl i c0 k).1 (htc p wl i c0 k).2.1 (htc p wl i c0 k).2.2
  | 0 => by
    show (ll.map fullS).getD i [] = mix c0 c0 0
    rw [mix_zero, List.getD_eq_getElem?_getD, List.getElem?_map, h0]; rfl
  | k + 1 => by
    have ih := crashed_mix hp ll wl i hi c0 h0 k
    obtain ⟨g1, g2⟩ := htc_cut hp wl i c0 k
    have hlen : i < (crashed p (wl.map mkW) (ll.map fullS) k).length := by rw [crashed_len, List.length_map]; exact hi
    rw [crashed, htc, List.getElem?_map]
    cases hx : wl[k]? with
    | none => exact ih
    | some x =>
      simp only [Option.map_some]
      rw [getD_set hlen]
      by_cases e : x.1 = i
      · rw [if_pos (show (mkW x).at_ = i from e), if_pos e, show (mkW x).at_ = i from e, ih]
        by_cases ht : (k : Int) = p.torn
        · rw [if_pos ht, Pl.kept, if_pos ht, g2 (by omega), mix_zero, tear]
          show (fullS x.2).take p.cut.toNat ++ (fullS _).drop p.cut.toNat = mix x.2 _ p.cut.toNat
          rw [fullS, fullS, List.take_replicate, List.drop_replicate, mix, Nat.min_eq_left (by omega)]
        · rw [if_neg ht, Pl.kept, if_neg ht]
          by_cases hk : p.keep[k]? = some true
          · rw [if_pos hk, if_pos hk, mix_zero, tear, List.take_of_length_le (by rw [show (mkW x).says = fullS x.2 from rfl, fullS_len]; omega), List.drop_eq_nil_of_le (by rw [mix_len _ _ _ g1]; omega), List.append_nil]; rfl
          · rw [if_neg hk, if_neg hk, tear, List.take_zero, List.drop_zero, List.nil_append]
      · rw [if_neg (show ¬ (mkW x).at_ = i from e), if_neg e]
        exact ih

/-- the writes that come in -/
structure Put where
  at_ : UInt8
  what : UInt8
  flush : Bool
structure Run where
  ll : List UInt8
  wl : List Pw
  done : Nat
def Run.put (n : Nat) (r : Run) (x : Put) : Run :=
  if x.flush then ⟨setAll r.ll (r.wl ++ [(x.at_.toNat % n, x.what)]) (r.wl.length + 1), [], r.done + 2⟩ else ⟨r.ll, r.wl ++ [(x.at_.toNat % n, x.what)], r.done + 1⟩
def runTo (n : Nat) (ls : List Put) : Nat → Run
  | 0 => ⟨List.replicate n 0, [], 0⟩
  | k + 1 => match ls[k]? with | some x => (runTo n ls k).put n x | none => runTo n ls k
structure RunOk (n k : Nat) (r : Run) : Prop where
  len : r.ll.length = n
  most : r.wl.length ≤ k
  at_ : ∀ x ∈ r.wl, x.1 < n
  done : r.done ≤ 2 * k
theorem runTo_ok (n : Nat) (hn : 0 < n) (ls : List Put) : ∀ k, RunOk n k (runTo n ls k)
  | 0 => ⟨by simp [runTo], by simp [runTo], fun x hx => by simp [runTo] at hx, by simp [runTo]⟩
  | k + 1 => by
    have ih := runTo_ok n hn ls k
    rw [runTo]
    cases ls[k]? with
    | none => exact ⟨ih.len, Nat.le_succ_of_le ih.most, ih.at_, by have := ih.done; show (runTo n ls k).done ≤ 2 * (k + 1); omega⟩
    | some x =>
      simp only [Run.put]
      split
      · exact ⟨by simp only [setAll_len]; exact ih.len, by simp, fun y hy => by simp at hy, by have := ih.done; simp only; omega⟩
      · refine ⟨ih.len, by have := ih.most; simp; omega, fun y hy => ?_, by have := ih.done; simp only; omega⟩
        rcases List.mem_append.1 hy with h | h
        · exact ih.at_ y h
        · rw [List.mem_singleton.1 h]; exact Nat.mod_lt _ hn
end Go.Proofs.Ytpgpalnnmoanpaa

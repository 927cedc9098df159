/-
  A disk of sectors, plain mathematics: the cells of sectors and of writes; what reads, what lasts behind a flush and a crash. No program.
-/
import Derived.Test.YthlmjnlakenmoaaRows
import Derived.WalkKit
namespace Go.Proofs.Ythlmjnlakenmoaa.Dk

abbrev Sec := List UInt8
/-- a sector's cells -/
def secCells (s : Sec) : List Value := s.map fun x => Value.int .u8 (x.toNat : Int)
theorem secCells_len (s : Sec) : (secCells s).length = s.length := by simp [secCells]
theorem secCells_one (s : Sec) : ∀ v ∈ secCells s, v.oneCell' = true := by
  intro v hv
  simp only [secCells, List.mem_map] at hv
  obtain ⟨x, _, rfl⟩ := hv
  rfl
theorem secCells_append (s t : Sec) : secCells (s ++ t) = secCells s ++ secCells t := by simp [secCells]
theorem secCells_take (s : Sec) (k : Nat) : secCells (s.take k) = (secCells s).take k := by simp [secCells, List.map_take]
theorem secCells_drop (s : Sec) (k : Nat) : secCells (s.drop k) = (secCells s).drop k := by simp [secCells, List.map_drop]
theorem secCells_get (s : Sec) (k : Nat) (v : Value) (h : (secCells s)[k]? = some v) : ∃ x, s[k]? = some x ∧ v = .int .u8 (x.toNat : Int) := by
  simp only [secCells, List.getElem?_map, Option.map_eq_some_iff] at h
  obtain ⟨x, hx, rfl⟩ := h
  exact ⟨x, hx, rfl⟩

/-- a write that waits -/
structure Wr where
  at_ : Nat
  says : Sec
def wrCells (x : Wr) : List Value := .int .i64 (x.at_ : Int) :: secCells x.says
theorem wrCells_len (x : Wr) : (wrCells x).length = x.says.length + 1 := by simp [wrCells, secCells_len]
theorem wrCells_one (x : Wr) : ∀ v ∈ wrCells x, v.oneCell' = true := by
  intro v hv
  rcases List.mem_cons.1 hv with rfl | h
  · rfl
  · exact secCells_one _ v h

/-! ### rows of things that have m cells each -/
section
variable {α : Type} {f : α → List Value} {m : Nat}
theorem flat_len : ∀ {l : List α}, (∀ x ∈ l, (f x).length = m) → (l.flatMap f).length = l.length * m
  | [], _ => by simp
  | a :: l, h => by
    rw [List.flatMap_cons, List.length_append, h a (by simp), flat_len (fun x hx => h x (by simp [hx])), List.length_cons, Nat.add_mul]
    omega
theorem flat_at : ∀ {l : List α}, (∀ x ∈ l, (f x).length = m) → ∀ (i : Nat) (hi : i < l.length), ((l.flatMap f).drop (i * m)).take m = f l[i]
  | a :: l, h, 0, hi => by
    rw [Nat.zero_mul, List.drop_zero, List.flatMap_cons, ← h a (by simp), List.take_left]; rfl
  | a :: l, h, i + 1, hi => by
    rw [List.flatMap_cons, show (i + 1) * m = (f a).length + i * m by rw [h a (by simp), Nat.add_mul]; omega, List.drop_append, List.drop_eq_nil_of_le (by omega), List.nil_append, show (f a).length + i * m - (f a).length = i * m by omega]
    exact flat_at (fun x hx => h x (by simp [hx])) i (by simpa using hi)
theorem flat_set : ∀ {l : List α}, (∀ x ∈ l, (f x).length = m) → ∀ (i : Nat) (y : α), i < l.length →
    (l.set i y).flatMap f = (l.flatMap f).take (i * m) ++ f y ++ (l.flatMap f).drop (i * m + m)
  | a :: l, h, 0, y, hi => by
    rw [List.set_cons_zero, List.flatMap_cons, List.flatMap_cons, Nat.zero_mul, List.take_zero, List.nil_append, Nat.zero_add, ← h a (by simp), List.drop_left]
  | a :: l, h, i + 1, y, hi => by
    have ha := h a (by simp)
    rw [List.set_cons_succ, List.flatMap_cons, List.flatMap_cons, flat_set (fun x hx => h x (by simp [hx])) i y (by simpa using hi)]
    have e1 : (i + 1) * m = (f a).length + i * m := by rw [ha, Nat.add_mul]; omega
    rw [e1, show (f a).length + i * m + m = (f a).length + (i * m + m) by omega, List.take_length_add_append, List.drop_length_add_append]
    simp only [List.append_assoc]
theorem flat_get {l : List α} (h : ∀ x ∈ l, (f x).length = m) (i : Nat) (hi : i < l.length) (j : Nat) (hj : j < m) : (l.flatMap f)[i * m + j]? = (f l[i])[j]? := by
  rw [← flat_at h i hi, List.getElem?_take, if_pos hj, List.getElem?_drop]
theorem flat_one {l : List α} (h : ∀ x ∈ l, ∀ v ∈ f x, v.oneCell' = true) : ∀ v ∈ l.flatMap f, v.oneCell' = true := by
  intro v hv
  obtain ⟨x, hx, hv⟩ := List.mem_flatMap.1 hv
  exact h x hx v hv
end

def secs (l : List Sec) : List Value := l.flatMap secCells
def wrs (l : List Wr) : List Value := l.flatMap wrCells
/-- each has a sector's bytes -/
def Full (l : List Sec) : Prop := ∀ s ∈ l, s.length = 128
def FullW (n : Nat) (l : List Wr) : Prop := ∀ x ∈ l, x.says.length = 128 ∧ x.at_ < n
theorem Full.cells {l : List Sec} (h : Full l) : ∀ s ∈ l, (secCells s).length = 128 := fun s hs => by rw [secCells_len]; exact h s hs
theorem FullW.cells {n : Nat} {l : List Wr} (h : FullW n l) : ∀ x ∈ l, (wrCells x).length = 129 := fun x hx => by rw [wrCells_len, (h x hx).1]
theorem Full.len {l : List Sec} (h : Full l) : (secs l).length = l.length * 128 := flat_len h.cells
theorem FullW.len {n : Nat} {l : List Wr} (h : FullW n l) : (wrs l).length = l.length * 129 := flat_len h.cells
theorem secs_one (l : List Sec) : ∀ v ∈ secs l, v.oneCell' = true := flat_one fun s _ => secCells_one s
theorem wrs_one (l : List Wr) : ∀ v ∈ wrs l, v.oneCell' = true := flat_one fun s _ => wrCells_one s
theorem Full.set {l : List Sec} (h : Full l) (i : Nat) {s : Sec} (hs : s.length = 128) : Full (l.set i s) := fun x hx => by
  rcases List.mem_or_eq_of_mem_set hx with h1 | rfl
  · exact h x h1
  · exact hs
theorem FullW.snoc {n : Nat} {l : List Wr} (h : FullW n l) {x : Wr} (h1 : x.says.length = 128) (h2 : x.at_ < n) : FullW n (l ++ [x]) := fun y hy => by
  rcases List.mem_append.1 hy with h' | h'
  · exact h y h'
  · rw [List.mem_singleton.1 h']; exact ⟨h1, h2⟩
theorem wrs_snoc (l : List Wr) (x : Wr) : wrs (l ++ [x]) = wrs l ++ wrCells x := by simp [wrs]
def zsec : Sec := List.replicate 128 0
theorem zsec_len : zsec.length = 128 := List.length_replicate
theorem zsec_get (k : Nat) (h : k < 128) : (secCells zsec)[k]? = some (.int .u8 0) := by
  rw [secCells, zsec, List.map_replicate, List.getElem?_replicate, if_pos h]; rfl
theorem zero_full (n : Nat) : Full (List.replicate n zsec) := fun s hs => by rw [(List.mem_replicate.1 hs).2]; exact zsec_len

theorem snoc_ind {α : Type} {P : List α → Prop} (h0 : P []) (h : ∀ l x, P l → P (l ++ [x])) (l : List α) : P l := by
  have : ∀ r : List α, P r.reverse := fun r => by
    induction r with
    | nil => exact h0
    | cons a r ih => rw [List.reverse_cons]; exact h _ a ih
  simpa using this l.reverse

/-! ### what reads: the last write that waits -/
def seen (ws : List Wr) (i : Nat) (s : Sec) : Sec := ws.foldl (fun s x => if x.at_ = i then x.says else s) s
def lastIx (ws : List Wr) (i : Nat) : Option Nat := ws.zipIdx.foldl (fun o x => if x.1.at_ = i then some x.2 else o) none
theorem seen_snoc (ws : List Wr) (x : Wr) (i : Nat) (s : Sec) : seen (ws ++ [x]) i s = if x.at_ = i then x.says else seen ws i s := by simp [seen]
theorem lastIx_snoc (ws : List Wr) (x : Wr) (i : Nat) : lastIx (ws ++ [x]) i = if x.at_ = i then some ws.length else lastIx ws i := by
  simp [lastIx, List.zipIdx_append]
theorem lastIx_spec (i : Nat) (s : Sec) (ws : List Wr) : (∀ k, lastIx ws i = some k → ∃ h : k < ws.length, ws[k].at_ = i ∧ seen ws i s = ws[k].says) ∧ (lastIx ws i = none → seen ws i s = s) := by
  induction ws using snoc_ind with
  | h0 => exact ⟨fun k h => by simp [lastIx] at h, fun _ => rfl⟩
  | h ws x ih =>
    rw [lastIx_snoc, seen_snoc]
    by_cases hx : x.at_ = i
    · rw [if_pos hx, if_pos hx]
      refine ⟨fun k hk => ?_, fun h => by cases h⟩
      injection hk with hk
      subst hk
      exact ⟨by simp, by simpa using hx, by simp⟩
    · rw [if_neg hx, if_neg hx]
      refine ⟨fun k hk => ?_, ih.2⟩
      obtain ⟨h, h1, h2⟩ := ih.1 k hk
      refine ⟨by simp; omega, ?_, ?_⟩
      · rw [List.getElem_append_left h]; exact h1
      · rw [List.getElem_append_left h]; exact h2
theorem seen_len {n : Nat} {ws : List Wr} (h : FullW n ws) {i : Nat} {s : Sec} (hs : s.length = 128) : (seen ws i s).length = 128 := by
  induction ws using snoc_ind with
  | h0 => exact hs
  | h ws x ih =>
    rw [seen_snoc]
    split
    · exact (h x (by simp)).1
    · exact ih fun y hy => h y (by simp [hy])

/-! ### what lasts -/
/-- behind a flush of the first k writes -/
def flushed (ws : List Wr) (l : List Sec) : Nat → List Sec
  | 0 => l
  | k + 1 => match ws[k]? with | some x => (flushed ws l k).set x.at_ x.says | none => flushed ws l k
/-- what a crash does -/
structure Pl where
  keep : List Bool
  torn : Int
  cut : Int
/-- how many bytes last of the write at the place k -/
def Pl.kept (p : Pl) (k : Nat) : Nat := if (k : Int) = p.torn then p.cut.toNat else if p.keep[k]? = some true then 128 else 0
theorem Pl.kept_le {p : Pl} (h : p.cut ≤ 128) (k : Nat) : p.kept k ≤ 128 := by
  unfold Pl.kept
  split
  · omega
  · split <;> omega
def tear (s : Sec) (x : Sec) (c : Nat) : Sec := x.take c ++ s.drop c
theorem tear_len {s x : Sec} (hs : s.length = 128) (hx : x.length = 128) {c : Nat} (hc : c ≤ 128) : (tear s x c).length = 128 := by
  simp only [tear, List.length_append, List.length_take, List.length_drop]; omega
/-- behind a crash that has asked the plan of the first k writes -/
def crashed (p : Pl) (ws : List Wr) (l : List Sec) : Nat → List Sec
  | 0 => l
  | k + 1 => match ws[k]? with | some x => (crashed p ws l k).set x.at_ (tear ((crashed p ws l k).getD x.at_ []) x.says (p.kept k)) | none => crashed p ws l k
theorem flushed_len (ws : List Wr) (l : List Sec) : ∀ k, (flushed ws l k).length = l.length
  | 0 => rfl
  | k + 1 => by
    rw [flushed]
    split
    · rw [List.length_set, flushed_len]
    · exact flushed_len ws l k
theorem crashed_len (p : Pl) (ws : List Wr) (l : List Sec) : ∀ k, (crashed p ws l k).length = l.length
  | 0 => rfl
  | k + 1 => by
    rw [crashed]
    split
    · rw [List.length_set, crashed_len]
    · exact crashed_len p ws l k
theorem flushed_full {ws : List Wr} {l : List Sec} {n : Nat} (hw : FullW n ws) (hl : Full l) : ∀ k, Full (flushed ws l k)
  | 0 => hl
  | k + 1 => by
    rw [flushed]
    split
    · rename_i x hx
      exact (flushed_full hw hl k).set _ (hw x (List.mem_of_getElem? hx)).1
    · exact flushed_full hw hl k
theorem getD_full {l : List Sec} (h : Full l) {i : Nat} (hi : i < l.length) : (l.getD i []).length = 128 := by
  rw [List.getD_eq_getElem?_getD, List.getElem?_eq_getElem hi]
  exact h _ (List.getElem_mem hi)
theorem crashed_full {p : Pl} (hp : p.cut ≤ 128) {ws : List Wr} {l : List Sec} (hw : FullW l.length ws) (hl : Full l) : ∀ k, Full (crashed p ws l k)
  | 0 => hl
  | k + 1 => by
    rw [crashed]
    split
    · rename_i x hx
      have hx' := hw x (List.mem_of_getElem? hx)
      exact (crashed_full hp hw hl k).set _ (tear_len (getD_full (crashed_full hp hw hl k) (by rw [crashed_len]; exact hx'.2)) hx'.1 (p.kept_le hp k))
    · exact crashed_full hp hw hl k

/-! ### a disk -/
structure St where
  lasts : List Sec
  waits : List Wr
  done : Nat
  dead : Bool
  lit : Bool
  left : Nat
  plan : Pl
/-- a disk that may be -/
structure St.Ok (d : St) : Prop where
  some_ : 1 ≤ d.lasts.length
  most : d.lasts.length ≤ 65536
  full : Full d.lasts
  fullW : FullW d.lasts.length d.waits
  cut0 : 0 ≤ d.plan.cut
  cut1 : d.plan.cut ≤ 128
def noPlan : Pl := ⟨[], 0, 0⟩
def fresh (l : List Sec) : St := ⟨l, [], 0, false, false, 0, noPlan⟩
def made (n : Nat) : St := fresh (List.replicate n zsec)
theorem fresh_ok {l : List Sec} (h1 : 1 ≤ l.length) (h2 : l.length ≤ 65536) (h : Full l) : (fresh l).Ok := ⟨h1, h2, h, fun x hx => by simp [fresh] at hx, by simp [fresh, noPlan], by simp [fresh, noPlan]⟩
def St.read (d : St) (i : Nat) : Sec := seen d.waits i (d.lasts.getD i [])
/-- it crashes by the plan -/
def St.crash (d : St) (p : Pl) : St := ⟨crashed p d.waits d.lasts d.waits.length, [], d.done, true, false, 0, noPlan⟩
theorem St.crash_ok {d : St} (h : d.Ok) {p : Pl} (hp : p.cut ≤ 128) : (d.crash p).Ok :=
  ⟨by simp only [St.crash, crashed_len]; exact h.some_, by simp only [St.crash, crashed_len]; exact h.most, crashed_full hp h.fullW h.full _, fun x hx => by simp [St.crash] at hx, by simp [St.crash, noPlan], by simp [St.crash, noPlan]⟩
/-- a write or a flush is counted as done, or the fuse has burnt down -/
def St.due (d : St) : Bool := d.lit && d.left == 0
def St.tick (d : St) : St := { d with done := d.done + 1, left := if d.lit then d.left - 1 else d.left }
def St.step (d : St) : St := if d.due then d.crash d.plan else d.tick
def St.stepErr (d : St) : Int := if d.due then 20 else 0
def St.wait (d : St) (i : Nat) (s : Sec) : St := { d with waits := d.waits ++ [⟨i, s⟩] }
def St.write (d : St) (i : Nat) (s : Sec) : St := (d.wait i s).step
def St.flush (d : St) : St := if d.due then d.crash d.plan else { d.tick with lasts := flushed d.waits d.lasts d.waits.length, waits := [] }
def St.fuse (d : St) (k : Nat) (p : Pl) : St := { d with lit := true, left := k, plan := p }
theorem St.tick_ok {d : St} (h : d.Ok) : d.tick.Ok := ⟨h.some_, h.most, h.full, h.fullW, h.cut0, h.cut1⟩
theorem St.step_ok {d : St} (h : d.Ok) : d.step.Ok := by
  unfold St.step
  split
  · exact St.crash_ok h h.cut1
  · exact St.tick_ok h
theorem St.wait_ok {d : St} (h : d.Ok) {i : Nat} {s : Sec} (hi : i < d.lasts.length) (hs : s.length = 128) : (d.wait i s).Ok :=
  ⟨h.some_, h.most, h.full, h.fullW.snoc hs hi, h.cut0, h.cut1⟩
theorem St.write_ok {d : St} (h : d.Ok) {i : Nat} {s : Sec} (hi : i < d.lasts.length) (hs : s.length = 128) : (d.write i s).Ok := St.step_ok (St.wait_ok h hi hs)
theorem St.flush_ok {d : St} (h : d.Ok) : d.flush.Ok := by
  unfold St.flush
  split
  · exact St.crash_ok h h.cut1
  · exact ⟨by simp only [flushed_len]; exact h.some_, by simp only [flushed_len]; exact h.most, flushed_full h.fullW h.full _, fun x hx => by simp at hx, h.cut0, h.cut1⟩
theorem St.read_len {d : St} (h : d.Ok) {i : Nat} (hi : i < d.lasts.length) : (d.read i).length = 128 := seen_len h.fullW (getD_full h.full hi)
end Go.Proofs.Ythlmjnlakenmoaa.Dk
/-
  Rows of cells that are written in their middle, plain mathematics.
-/
namespace Go.Proofs.Ythlmjnlakenmoaa.Dk

theorem splice_take {α : Type} {cur xs : List α} {N : Nat} (h : cur.take N = xs) (o : Nat) (y : List α) (ho : o + y.length ≤ N) :
    (cur.take o ++ y ++ cur.drop (o + y.length)).take N = xs.take o ++ y ++ xs.drop (o + y.length) := by
  subst h
  by_cases hl : o ≤ cur.length
  · have e1 : (cur.take o ++ y).length = o + y.length := by simp; omega
    rw [List.take_append, e1, List.take_of_length_le (by omega), List.take_take, Nat.min_eq_left (by omega), List.drop_take]
  · rw [List.take_of_length_le (by omega : cur.length ≤ o), List.drop_eq_nil_of_le (by omega), List.append_nil, List.take_of_length_le (by simp; omega), List.take_of_length_le (by omega : cur.length ≤ N), List.take_of_length_le (by omega : cur.length ≤ o),
      List.drop_eq_nil_of_le (by omega), List.append_nil]
theorem store_row {l : List Sec} (h : Full l) {i : Nat} (hi : i < l.length) (s : Sec) (hs : s.length = 128) :
    (secs l).take (i * 128) ++ secCells s ++ (secs l).drop (i * 128 + (secCells s).length) = secs (l.set i s) := by
  rw [secCells_len, hs]
  exact (flat_set h.cells i s hi).symm
theorem tear_row {l : List Sec} (h : Full l) {i : Nat} (hi : i < l.length) (x : Sec) (hx : x.length = 128) (c : Nat) (hc : c ≤ 128) :
    (secs l).take (i * 128) ++ (secCells x).take c ++ (secs l).drop (i * 128 + ((secCells x).take c).length) = secs (l.set i (tear (l.getD i []) x c)) := by
  have hlen : ((secCells x).take c).length = c := by rw [List.length_take, secCells_len, hx]; omega
  rw [hlen]
  have e : secs (l.set i (tear (l.getD i []) x c)) = _ := flat_set h.cells i (tear (l.getD i []) x c) hi
  rw [e, tear, secCells_append, secCells_take, secCells_drop]
  have e2 : secCells (l.getD i []) = ((secs l).drop (i * 128)).take 128 := by
    rw [List.getD_eq_getElem?_getD, List.getElem?_eq_getElem hi]
    exact (flat_at h.cells i hi).symm
  rw [e2, List.append_assoc, List.append_assoc, List.append_assoc]
  congr 2
  have e3 : (secs l).drop (i * 128 + c) = (((secs l).drop (i * 128)).drop c) := by rw [List.drop_drop]
  have e4 : (secs l).drop (i * 128 + 128) = ((secs l).drop (i * 128)).drop 128 := by rw [List.drop_drop]
  show (secs l).drop (i * 128 + c) = (((secs l).drop (i * 128)).take 128).drop c ++ (secs l).drop (i * 128 + 128)
  rw [e3, e4]
  generalize (secs l).drop (i * 128) = r
  have e5 : r.drop 128 = (r.drop c).drop (128 - c) := by rw [List.drop_drop, show c + (128 - c) = 128 by omega]
  rw [List.drop_take, e5, List.take_append_drop]
end Go.Proofs.Ythlmjnlakenmoaa.Dk

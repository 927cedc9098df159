/-
  The pager by the document's words, in memory; what is asked of it.
-/
import Derived.Test.YthlmjnlakenmoaaPUse
import Derived.Test.YthlmjnlakenmoaaTexts
import Derived.Test.YthlmjnlakenmoaaPAbort
namespace Go.Proofs.Ythlmjnlakenmoaa
open Go.RowKit Go.Maps
set_option maxRecDepth 100000

namespace Pr
/-- what the document's disk says: the texts that were written, the metas' numbers and roots -/
structure Dr where
  f : Nat → Option (List UInt8)
  s0 : Int
  s1 : Int
  r0 : Int
  r1 : Int
/-- the first k states are others -/
def upto (g : Nat → Nat → Nat) (l : List Nat) (k : Nat) : List Nat := l.mapIdx fun j s => if j < k then g j s else s
theorem upto_len (g : Nat → Nat → Nat) (l : List Nat) (k : Nat) : (upto g l k).length = l.length := by simp [upto]
theorem upto_at (g : Nat → Nat → Nat) (l : List Nat) (k j : Nat) : (upto g l k)[j]? = l[j]?.map fun s => if j < k then g j s else s := by simp [upto]
theorem upto_set {g : Nat → Nat → Nat} {l : List Nat} {k : Nat} (hk : k < l.length) : (upto g l k).set k (g k l[k]) = upto g l (k + 1) := by
  refine List.ext_getElem? fun j => ?_
  by_cases e : j = k
  · subst e
    rw [List.getElem?_set_self (by rw [upto_len]; exact hk), upto_at, List.getElem?_eq_getElem hk]
    simp
  · rw [List.getElem?_set_ne (fun x => e x.symm), upto_at, upto_at]
    have : (j < k) ↔ (j < k + 1) := by omega
    simp only [this]
theorem upto_same {g : Nat → Nat → Nat} {l : List Nat} {k : Nat} (hk : k < l.length) (h : g k l[k] = l[k]) : upto g l k = upto g l (k + 1) := by
  refine List.ext_getElem? fun j => ?_
  rw [upto_at, upto_at]
  by_cases e : j = k
  · subst e
    rw [List.getElem?_eq_getElem hk]
    simp [h]
  · have : (j < k) ↔ (j < k + 1) := by omega
    simp only [this]
theorem upto_two {g : Nat → Nat → Nat} {l : List Nat} (h2 : ∀ i, i < 2 → l[i]? = some 0) (h0 : ∀ i, i < 2 → g i 0 = 0) : upto g l 2 = l := by
  refine List.ext_getElem? fun j => ?_
  rw [upto_at]
  by_cases e : j < 2
  · rw [h2 j e]; simp [e, h0 j e]
  · cases hj : l[j]? <;> simp [e]
theorem upto_all (g : Nat → Nat → Nat) (l : List Nat) : upto g l l.length = l.mapIdx g := by
  refine List.ext_getElem? fun j => ?_
  rw [upto_at, List.getElem?_mapIdx]
  cases hj : l[j]? with
  | none => rfl
  | some s => simp [(List.getElem?_eq_some_iff.1 hj).1]
theorem upto_map (g : Nat → Nat) (l : List Nat) : upto (fun _ s => g s) l l.length = l.map g := by
  rw [upto_all]
  refine List.ext_getElem? fun j => ?_
  rw [List.getElem?_mapIdx, List.getElem?_map]
theorem upto_get {g : Nat → Nat → Nat} {l : List Nat} {k : Nat} (hk : k < l.length) : (upto g l k)[k]? = some l[k] := by
  rw [upto_at, List.getElem?_eq_getElem hk]; simp
end Pr

def stCells (l : List Nat) : Array Value := (l.map fun s : Nat => Value.int .i64 (s : Int)).toArray
theorem stCells_set (l : List Nat) (i s : Nat) : (stCells l).setIfInBounds i (.int .i64 (s : Int)) = stCells (l.set i s) := by
  simp [stCells, List.map_set]
theorem stCells_at {l : List Nat} {i s : Nat} (h : l[i]? = some s) : (stCells l)[i]? = some (.int .i64 (s : Int)) := by simp [stCells, h]
def rdiskCells (N M : Nat) (q : Pr.Dr) : Array Value := #[.int .i64 (N : Int), .map (some M), .int .i64 q.s0, .int .i64 q.s1, .int .i64 q.r0, .int .i64 q.r1]
def rpagerCells (g L : Nat) (p : Pr.Pt) : Array Value := #[.pointer (some ⟨g, 0, none⟩), .slice (some ⟨L, 0, none⟩) p.l.length p.l.length, .int .i64 (p.seq : Int), .int .i64 (p.root : Int)]
/-- the document's disk, in block g -/
structure RDk (w : World) (g M N : Nat) (q : Pr.Dr) : Prop where
  box : Has w g 88 (rdiskCells N M q)
  txt : TxtAt w M N q.f
/-- the document's pager, in block x -/
structure RPg (w : World) (x g L M : Nat) (p : Pr.Pt) (q : Pr.Dr) : Prop where
  ok : p.Ok
  box : Has w x 90 (rpagerCells g L p)
  st : Has w L 3 (stCells p.l)
  dk : RDk w g M p.l.length q
def rS (x g L M : Nat) : Nat → Prop := fun k => k = x ∨ k = g ∨ k = L ∨ k = M
theorem RDk.keep {w w' : World} {F : Nat → Prop} {g M N : Nat} {q : Pr.Dr} (h : RDk w g M N q) (f : Fr F w w') (hg : ¬ F g) (hM : ¬ F M) : RDk w' g M N q := ⟨h.box.keep f hg, h.txt.keep f hM⟩
theorem RPg.keep {w w' : World} {F : Nat → Prop} {x g L M : Nat} {p : Pr.Pt} {q : Pr.Dr} (h : RPg w x g L M p q) (f : Fr F w w') (hs : ∀ k, rS x g L M k → ¬ F k) : RPg w' x g L M p q :=
  ⟨h.ok, h.box.keep f (hs _ (.inl rfl)), h.st.keep f (hs _ (.inr (.inr (.inl rfl)))), h.dk.keep f (hs _ (.inr (.inl rfl))) (hs _ (.inr (.inr (.inr rfl))))⟩
theorem RPg.below {w w' : World} {x g L M : Nat} {p : Pr.Pt} {q : Pr.Dr} (h : RPg w x g L M p q) (hb : Below w.heap.size w w') : RPg w' x g L M p q := h.keep (Fr.of_below hb noB) (fun _ _ e => e)
theorem RPg.lt {w : World} {x g L M : Nat} {p : Pr.Pt} {q : Pr.Dr} (h : RPg w x g L M p q) (k : Nat) (hk : rS x g L M k) : k < w.heap.size := by
  rcases hk with rfl | rfl | rfl | rfl
  · exact h.box.lt
  · exact h.dk.box.lt
  · exact h.st.lt
  · exact h.dk.txt.lt
theorem RPg.ne {w : World} {x g L M : Nat} {p : Pr.Pt} {q : Pr.Dr} (h : RPg w x g L M p q) : (x ≠ g ∧ x ≠ L ∧ x ≠ M) ∧ (g ≠ L ∧ g ≠ M) ∧ L ≠ M :=
  ⟨⟨h.box.apart h.dk.box (by decide), h.box.apart h.st (by decide), h.box.ne_texts h.dk.txt⟩, ⟨h.dk.box.apart h.st (by decide), h.dk.box.ne_texts h.dk.txt⟩, h.st.ne_texts h.dk.txt⟩
structure RCells (w : World) (x g L : Nat) (n : Nat) (seq root : Nat) : Prop where
  c0 : w.cell? ⟨x, 0, none⟩ = some (.pointer (some ⟨g, 0, none⟩))
  c1 : w.cell? ⟨x, 1, none⟩ = some (.slice (some ⟨L, 0, none⟩) n n)
  c2 : w.cell? ⟨x, 2, none⟩ = some (.int .i64 (seq : Int))
  c3 : w.cell? ⟨x, 3, none⟩ = some (.int .i64 (root : Int))
theorem RPg.cells {w : World} {x g L M : Nat} {p : Pr.Pt} {q : Pr.Dr} (h : RPg w x g L M p q) : RCells w x g L p.l.length p.seq p.root := ⟨h.box.cell 0, h.box.cell 1, h.box.cell 2, h.box.cell 3⟩
theorem RPg.at_ {w : World} {x g L M : Nat} {p : Pr.Pt} {q : Pr.Dr} (h : RPg w x g L M p q) {i s : Nat} (hi : p.l[i]? = some s) : w.cell? ⟨L, i, none⟩ = some (.int .i64 (s : Int)) := (h.st.cell i).trans (stCells_at hi)

/-! ### what is asked -/
theorem rpage_any (w : World) (x L n : Nat) (c1 : w.cell? ⟨x, 1, none⟩ = some (.slice (some ⟨L, 0, none⟩) n n)) (i : Int) :
    Calls Try.prog 48 #[.pointer (some ⟨x, 0, none⟩), .int .i64 i] w fun e w' => e = .returned (.bool (decide (2 ≤ i ∧ i < (n : Int)))) ∧ w = w' := by
  by_cases h2 : 2 ≤ i
  · by_cases h1 : i < (n : Int)
    all_goals
      go_enter Try.func48, Try.ntmps48
      go_wp2_with fail
      go_ret
      exact ⟨ret_bool (by simp <;> omega), rfl⟩
  · have h1 : decide (2 ≤ i) = false := by simpa using h2
    go_enter Try.func48, Try.ntmps48
    go_wp2_with fail
    go_ret
    exact ⟨ret_bool (by simp <;> omega), rfl⟩
theorem RPg.page {w : World} {x g L M : Nat} {p : Pr.Pt} {q : Pr.Dr} (h : RPg w x g L M p q) (i : Int) (v : Bool) (hv : decide (2 ≤ i ∧ i < (p.l.length : Int)) = v) :
    Calls Try.prog 48 #[.pointer (some ⟨x, 0, none⟩), .int .i64 i] w fun e w' => e = .returned (.bool v) ∧ w = w' := by
  rw [← hv]
  exact rpage_any w x L _ h.cells.c1 i
theorem rfree_any (w : World) (x g L M : Nat) (p : Pr.Pt) (q : Pr.Dr) (h : RPg w x g L M p q) :
    Calls Try.prog 56 #[.pointer (some ⟨x, 0, none⟩)] w fun e w' => e = .returned (.int .i64 (Pr.freeN p.l : Int)) ∧ w = w' := by
  have c1 := h.cells.c1
  have hmost := h.ok.most
  have hsome := h.ok.some_
  have H := Lib.hid h
  clear h
  go_enter Try.func56, Try.ntmps56
  go_wp2_with fail
  go_loopw [3, 4] (fun nv iv wr => ∃ k : Nat, 2 ≤ k ∧ k ≤ p.l.length ∧ iv = .int .i64 k ∧ nv = .int .i64 (cnt k (fun j => decide (2 ≤ j) && Pr.stp Pr.isF p.l j) : Nat) ∧ w = wr) (fun _ iv _ => p.l.length - (intOf iv).toNat)
  case atStart => exact ⟨2, by omega, by omega, rfl, by rfl, rfl⟩
  case round =>
    obtain ⟨k, hk2, hk, rfl, rfl, rfl⟩ := hrel
    have hc := cnt_le k (fun j => decide (2 ≤ j) && Pr.stp Pr.isF p.l j)
    have hsu := cnt_succ k (fun j => decide (2 ≤ j) && Pr.stp Pr.isF p.l j)
    by_cases hlt : k < p.l.length
    · have hlt' : (k : Int) < (p.l.length : Int) := by omega
      have hx := H.out.at_ (List.getElem?_eq_getElem hlt)
      rw [decide_eq_true hk2, Bool.true_and, Pr.stp_at hlt] at hsu
      have HSU := Lib.hid hsu
      clear hsu
      generalize p.l[k] = s at *
      by_cases hs : s = 0
      · subst hs
        rw [show Pr.isF 0 = true from rfl, if_pos rfl] at HSU
        go_wp2_with fail
        go_roundw
        case rel => exact ⟨k + 1, by omega, by omega, rfl, by rw [HSU.out]; rfl, trivial⟩
        case measure => simp [intOf]; omega
      · have hs' : ¬ ((s : Int) = 0) := by omega
        rw [show Pr.isF s = false from by simp [Pr.isF, hs], if_neg (by decide)] at HSU
        go_wp2_with fail
        go_roundw
        case rel => exact ⟨k + 1, by omega, by omega, rfl, by rw [HSU.out]; rfl, trivial⟩
        case measure => simp [intOf]; omega
    · have hkl : k = p.l.length := by omega
      have hlt' : ¬ ((k : Int) < (p.l.length : Int)) := by omega
      subst hkl
      clear hsu
      go_wp2_with fail
      go_ret
      exact ⟨rfl, rfl⟩
end Go.Proofs.Ythlmjnlakenmoaa
/-
  The pager by the document's words: pages read, taken, written, dropped.
-/
namespace Go.Proofs.Ythlmjnlakenmoaa
open Go.RowKit Go.Maps
set_option maxRecDepth 100000

namespace Pr
/-- what a read answers -/
def rdAt (s : Nat) (t : Option (List UInt8)) : List UInt8 × Int :=
  if s = 0 then ([], 250) else if s = 2 then ([], 5) else match t with
  | none => ([], 30)
  | some t => (t, 0)
def rdOf (p : Pt) (q : Dr) (i : Int) : List UInt8 × Int := if 2 ≤ i ∧ i < (p.l.length : Int) then rdAt (p.l.getD i.toNat 0) (q.f i.toNat) else ([], 1)
theorem five_of {s : Nat} (h : s ≤ 4) : s = 0 ∨ s = 1 ∨ s = 2 ∨ s = 3 ∨ s = 4 := by omega
end Pr
/-- it turns only the memory of the document's pager -/
def RGoes (w : World) (x g L M : Nat) (p : Pr.Pt) (q : Pr.Dr) (w' : World) : Prop := RPg w' x g L M p q ∧ Fr (rS x g L M) w w'
theorem RPg.state {w : World} {x g L M : Nat} {p : Pr.Pt} {q : Pr.Dr} (h : RPg w x g L M p q) {i s : Nat} (h2 : 2 ≤ i) (hs : s ≤ 4) :
    RGoes w x g L M ⟨p.l.set i s, p.seq, p.root⟩ q (w.setCell ⟨L, i, none⟩ (.int .i64 (s : Int))) := by
  obtain ⟨⟨n1, n2, n3⟩, ⟨n4, n5⟩, n6⟩ := h.ne
  have hf : Fr (oneB L) w (w.setCell ⟨L, i, none⟩ (.int .i64 (s : Int))) := (Fr.refl _ _).put _
  have hl : (p.l.set i s).length = p.l.length := List.length_set
  refine ⟨⟨Pr.Pt.Ok.set h.ok h2 hs, ?_, ?_, ?_⟩, hf.wide (fun k _ e => .inr (.inr (.inl e)))⟩
  · have := h.box.keep hf (fun e => n2 e)
    unfold rpagerCells at *
    rw [hl]; exact this
  · have := h.st.set i (.int .i64 (s : Int))
    rwa [stCells_set] at this
  · show RDk _ g M (p.l.set i s).length q
    rw [hl]
    exact h.dk.keep hf (fun e => n4 e) (fun e => n6 (Eq.symm e))
theorem rread_any (w : World) (x g L M : Nat) (p : Pr.Pt) (q : Pr.Dr) (h : RPg w x g L M p q) (i : Int) :
    Calls Try.prog 53 #[.pointer (some ⟨x, 0, none⟩), .int .i64 i] w fun e w' => e = .returned (.tuple #[bstr (Pr.rdOf p q i).1, .int .i64 (Pr.rdOf p q i).2]) ∧ w = w' := by
  have c0 := h.cells.c0
  have c1 := h.cells.c1
  have d1 : w.cell? ⟨g, 1, none⟩ = some (.map (some M)) := h.dk.box.cell 1
  by_cases hi : 2 ≤ i ∧ i < (p.l.length : Int)
  · have HP := Lib.hid (h.page i true (decide_eq_true hi))
    obtain ⟨n, rfl⟩ : ∃ n : Nat, i = (n : Int) := ⟨i.toNat, by omega⟩
    have hn : n < p.l.length := by omega
    have hn16 := h.ok.most
    have hs := h.at_ (List.getElem?_eq_getElem hn)
    have hs4 := h.ok.small _ (List.getElem_mem hn)
    have hlk := h.dk.txt.look_ok n (by omega)
    have hro : Pr.rdOf p q (n : Int) = Pr.rdAt p.l[n] (q.f n) := by
      unfold Pr.rdOf
      rw [if_pos hi, show ((n : Int)).toNat = n by omega, List.getD_eq_getElem?_getD, List.getElem?_eq_getElem hn]
      rfl
    rw [hro]
    clear hro h
    obtain ⟨hi2, hiN⟩ := hi
    generalize p.l[n] = s at *
    generalize q.f n = t at *
    unfold bstr at *
    rcases Pr.five_of hs4 with rfl | rfl | rfl | rfl | rfl
    · go_enter Try.func53, Try.ntmps53
      go_wp2_with fail
      refine HP.out.mono ?_
      rintro e w' ⟨rfl, rfl⟩
      go_wp2_with fail
      go_ret2
      exact ⟨rfl, rfl⟩
    · cases t
      all_goals
        go_enter Try.func53, Try.ntmps53
        go_wp2_with fail
        refine HP.out.mono ?_
        rintro e w' ⟨rfl, rfl⟩
        go_wp2_with fail
        go_ret2
        exact ⟨rfl, rfl⟩
    · go_enter Try.func53, Try.ntmps53
      go_wp2_with fail
      refine HP.out.mono ?_
      rintro e w' ⟨rfl, rfl⟩
      go_wp2_with fail
      go_ret2
      exact ⟨rfl, rfl⟩
    · cases t
      all_goals
        go_enter Try.func53, Try.ntmps53
        go_wp2_with fail
        refine HP.out.mono ?_
        rintro e w' ⟨rfl, rfl⟩
        go_wp2_with fail
        go_ret2
        exact ⟨rfl, rfl⟩
    · cases t
      all_goals
        go_enter Try.func53, Try.ntmps53
        go_wp2_with fail
        refine HP.out.mono ?_
        rintro e w' ⟨rfl, rfl⟩
        go_wp2_with fail
        go_ret2
        exact ⟨rfl, rfl⟩
  · have HP := Lib.hid (h.page i false (decide_eq_false hi))
    have hro : Pr.rdOf p q i = ([], 1) := if_neg hi
    rw [hro]
    clear hro h hi
    go_enter Try.func53, Try.ntmps53
    go_wp2_with fail
    refine HP.out.mono ?_
    rintro e w' ⟨rfl, rfl⟩
    go_wp2_with fail
    go_ret2
    exact ⟨rfl, rfl⟩
/-- a page is taken -/
theorem ralloc_any (w : World) (x g L M : Nat) (p : Pr.Pt) (q : Pr.Dr) (h : RPg w x g L M p q) :
    Calls Try.prog 49 #[.pointer (some ⟨x, 0, none⟩)] w fun e w' =>
      (∃ i : Nat, 2 ≤ i ∧ i < p.l.length ∧ p.l[i]? = some 0 ∧ (∀ j, 2 ≤ j → j < i → Pr.stp Pr.isF p.l j = false) ∧ e = .returned (.tuple #[.int .i64 (i : Int), .int .i64 0]) ∧ RGoes w x g L M ⟨p.l.set i 2, p.seq, p.root⟩ q w') ∨
      ((∀ j, 2 ≤ j → j < p.l.length → Pr.stp Pr.isF p.l j = false) ∧ e = .returned (.tuple #[.int .i64 0, .int .i64 3]) ∧ w = w') := by
  have c1 := h.cells.c1
  have hmost := h.ok.most
  have hsome := h.ok.some_
  have H := Lib.hid h
  clear h
  go_enter Try.func49, Try.ntmps49
  go_wp2_with fail
  go_loopw [4] (fun iv wr => ∃ k : Nat, 2 ≤ k ∧ k ≤ p.l.length ∧ iv = .int .i64 k ∧ Hid (∀ j, 2 ≤ j → j < k → Pr.stp Pr.isF p.l j = false) ∧ w = wr) (fun iv _ => p.l.length - (intOf iv).toNat)
  case atStart => exact ⟨2, by omega, by omega, rfl, Lib.hid (fun j h1 h2 => by omega), rfl⟩
  case round =>
    obtain ⟨k, hk2, hk, rfl, HN, rfl⟩ := hrel
    by_cases hlt : k < p.l.length
    · have hlt' : (k : Int) < (p.l.length : Int) := by omega
      have hx := H.out.at_ (List.getElem?_eq_getElem hlt)
      have hq : Pr.stp Pr.isF p.l k = Pr.isF p.l[k] := Pr.stp_at hlt
      have hg := List.getElem?_eq_getElem hlt
      have HQ := Lib.hid hq
      have HG := Lib.hid hg
      clear hq hg
      generalize p.l[k] = s at *
      by_cases hs : s = 0
      · subst hs
        have hz := H.out.st.free k
        have hst := H.out.state hk2 (s := 2) (by omega)
        have HST := Lib.hid hst
        clear hst
        go_wp2_with fail
        go_ret2
        exact .inl ⟨k, hk2, hlt, HG.out, HN.out, rfl, HST.out⟩
      · have hs' : ¬ ((s : Int) = 0) := by omega
        have hn' := Lib.hid (show ∀ j, 2 ≤ j → j < k + 1 → Pr.stp Pr.isF p.l j = false from fun j h1 h2 => by
          by_cases e : j = k
          · rw [e, HQ.out]; simp [Pr.isF, hs]
          · exact HN.out j h1 (by omega))
        go_wp2_with fail
        go_roundw
        case rel => exact ⟨k + 1, by omega, by omega, rfl, hn', trivial⟩
        case measure => simp [intOf]; omega
    · have hkl : k = p.l.length := by omega
      have hlt' : ¬ ((k : Int) < (p.l.length : Int)) := by omega
      have hn' := Lib.hid (show ∀ j, 2 ≤ j → j < p.l.length → Pr.stp Pr.isF p.l j = false from fun j h1 h2 => HN.out j h1 (by omega))
      go_wp2_with fail
      go_ret2
      exact .inr ⟨hn'.out, rfl, rfl⟩
/-- a page is written -/
theorem rwrite_arg (w : World) (x g L M : Nat) (p : Pr.Pt) (q : Pr.Dr) (h : RPg w x g L M p q) (i : Int) (t : List UInt8) (ht : t.length ≤ 140737488355328) (hi : ¬ (2 ≤ i ∧ i < (p.l.length : Int)) ∨ 502 < t.length) :
    Calls Try.prog 50 #[.pointer (some ⟨x, 0, none⟩), .int .i64 i, bstr t, .int .i64 502] w fun e w' => e = .returned (.int .i64 1) ∧ w = w' := by
  unfold bstr
  by_cases hin : 2 ≤ i ∧ i < (p.l.length : Int)
  · have HP := Lib.hid (h.page i true (decide_eq_true hin))
    have h5 : 502 < t.length := hi.resolve_left (fun e => e hin)
    have h5' : (502 : Int) < (t.length : Int) := by omega
    clear h hi hin
    go_enter Try.func50, Try.ntmps50
    go_wp2_with fail
    refine HP.out.mono ?_
    rintro e w' ⟨rfl, rfl⟩
    go_wp2_with fail
    go_ret
    exact ⟨rfl, rfl⟩
  · have HP := Lib.hid (h.page i false (decide_eq_false hin))
    clear h hi hin
    go_enter Try.func50, Try.ntmps50
    go_wp2_with fail
    refine HP.out.mono ?_
    rintro e w' ⟨rfl, rfl⟩
    go_wp2_with fail
    go_ret
    exact ⟨rfl, rfl⟩
theorem rwrite_state (w : World) (x g L M : Nat) (p : Pr.Pt) (q : Pr.Dr) (h : RPg w x g L M p q) (n : Nat) (hn2 : 2 ≤ n) (hn : n < p.l.length) (hs : Pr.stp Pr.isT p.l n = false) (t : List UInt8) (ht : t.length ≤ 502) :
    Calls Try.prog 50 #[.pointer (some ⟨x, 0, none⟩), .int .i64 (n : Int), bstr t, .int .i64 502] w fun e w' => e = .returned (.int .i64 250) ∧ w = w' := by
  unfold bstr
  have HP := Lib.hid (h.page n true (decide_eq_true (by omega)))
  have ht' : ¬ ((502 : Int) < (t.length : Int)) := by omega
  have c1 := h.cells.c1
  have hx := h.at_ (List.getElem?_eq_getElem hn)
  rw [Pr.stp_at hn] at hs
  have hmost := h.ok.most
  clear h
  generalize p.l[n] = s at *
  have h2 : ((s : Int) != 2) = true := bne_iff_ne.2 fun e => by
    have : s = 2 := by omega
    subst this; cases hs
  have h3 : ((s : Int) != 3) = true := bne_iff_ne.2 fun e => by
    have : s = 3 := by omega
    subst this; cases hs
  go_enter Try.func50, Try.ntmps50
  go_wp2_with fail
  refine HP.out.mono ?_
  rintro e w' ⟨rfl, rfl⟩
  go_wp2_with fail
  go_ret
  exact ⟨rfl, rfl⟩
theorem rwrite_ok (w : World) (x g L M : Nat) (p : Pr.Pt) (q : Pr.Dr) (h : RPg w x g L M p q) (n : Nat) (hn2 : 2 ≤ n) (hn : n < p.l.length) (hs : Pr.stp Pr.isT p.l n = true) (t : List UInt8) (ht : t.length ≤ 502) :
    Calls Try.prog 50 #[.pointer (some ⟨x, 0, none⟩), .int .i64 (n : Int), bstr t, .int .i64 502] w fun e w' => e = .returned (.int .i64 0) ∧ RGoes w x g L M ⟨p.l.set n 3, p.seq, p.root⟩ ⟨fun j => if j = n then some t else q.f j, q.s0, q.s1, q.r0, q.r1⟩ w' := by
  unfold bstr
  have HP := Lib.hid (h.page n true (decide_eq_true (by omega)))
  have ht' : ¬ ((502 : Int) < (t.length : Int)) := by omega
  have c0 := h.cells.c0
  have c1 := h.cells.c1
  have hx := h.at_ (List.getElem?_eq_getElem hn)
  have hz := h.st.free n
  rw [Pr.stp_at hn] at hs
  have hmost := h.ok.most
  have hst := h.state hn2 (s := 3) (by omega)
  have e0 : (w.setCell ⟨L, n, none⟩ (.int .i64 ((3 : Nat) : Int))).cell? ⟨x, 0, none⟩ = some (.pointer (some ⟨g, 0, none⟩)) := hst.1.box.cell 0
  have e1 : (w.setCell ⟨L, n, none⟩ (.int .i64 ((3 : Nat) : Int))).cell? ⟨g, 1, none⟩ = some (.map (some M)) := hst.1.dk.box.cell 1
  have HST := Lib.hid hst
  have hN : p.l.length ≤ 1000000 := by omega
  clear h hst
  have h23 : p.l[n] = 2 ∨ p.l[n] = 3 := by
    unfold Pr.isT at hs
    simpa using hs
  clear hs
  generalize p.l[n] = s at *
  rw [show ((3 : Nat) : Int) = 3 from rfl] at *
  rcases h23 with rfl | rfl
  all_goals
    go_enter Try.func50, Try.ntmps50
    go_wp2_with fail
    refine HP.out.mono ?_
    rintro e w' ⟨rfl, rfl⟩
    go_wp2_with (refine wpList_put_text _ rfl (.tmp 49) (.tmp 50) (.tmp 51) rfl M p.l.length _ (by have := HST.out.1.dk.txt; rw [List.length_set] at this; exact this) rfl n hn hN rfl t (by omega) rfl ?_; intro w6 ht6 hf6)
    go_ret
    obtain ⟨⟨n1, n2, n3⟩, ⟨n4, n5⟩, n6⟩ := HST.out.1.ne
    refine ⟨rfl, ⟨HST.out.1.ok, HST.out.1.box.keep hf6.out (fun e => n3 e), HST.out.1.st.keep hf6.out (fun e => n6 e), ⟨HST.out.1.dk.box.keep hf6.out (fun e => n5 e), by rw [List.length_set]; exact ht6.out⟩⟩, HST.out.2.trans hf6.out (fun k _ e => .inr (.inr (.inr e)))⟩
/-- a page is dropped -/
theorem rdrop_arg (w : World) (x g L M : Nat) (p : Pr.Pt) (q : Pr.Dr) (h : RPg w x g L M p q) (i : Int) (hi : ¬ (2 ≤ i ∧ i < (p.l.length : Int))) :
    Calls Try.prog 51 #[.pointer (some ⟨x, 0, none⟩), .int .i64 i] w fun e w' => e = .returned (.int .i64 1) ∧ w = w' := by
  have HP := Lib.hid (h.page i false (decide_eq_false hi))
  clear h hi
  go_enter Try.func51, Try.ntmps51
  go_wp2_with fail
  refine HP.out.mono ?_
  rintro e w' ⟨rfl, rfl⟩
  go_wp2_with fail
  go_ret
  exact ⟨rfl, rfl⟩
/-- what a drop of a page in a state answers, and the state behind it -/
def Pr.dropOf (s : Nat) : Int := if s = 0 ∨ s = 4 then 250 else 0
def Pr.dropTo (s : Nat) : Nat := if s = 1 then 4 else 0
theorem rdrop_any (w : World) (x g L M : Nat) (p : Pr.Pt) (q : Pr.Dr) (h : RPg w x g L M p q) (n s : Nat) (hn2 : 2 ≤ n) (hs : p.l[n]? = some s) :
    Calls Try.prog 51 #[.pointer (some ⟨x, 0, none⟩), .int .i64 (n : Int)] w fun e w' => e = .returned (.int .i64 (Pr.dropOf s)) ∧
      (((s = 0 ∨ s = 4) ∧ w = w') ∨ (¬ (s = 0 ∨ s = 4) ∧ RGoes w x g L M ⟨p.l.set n (Pr.dropTo s), p.seq, p.root⟩ q w')) := by
  have hn := (List.getElem?_eq_some_iff.1 hs).1
  have HP := Lib.hid (h.page n true (decide_eq_true (by omega)))
  have c1 := h.cells.c1
  have hx := h.at_ hs
  have hz := h.st.free n
  have hmost := h.ok.most
  have hs4 : s ≤ 4 := h.ok.small s (List.mem_of_getElem? hs)
  have HST := Lib.hid (h.state hn2 (s := Pr.dropTo s) (by unfold Pr.dropTo; split <;> omega))
  clear h hs
  rcases Pr.five_of hs4 with rfl | rfl | rfl | rfl | rfl
  · clear HST
    go_enter Try.func51, Try.ntmps51
    go_wp2_with fail
    refine HP.out.mono ?_
    rintro e w' ⟨rfl, rfl⟩
    go_wp2_with fail
    go_ret
    exact ⟨rfl, .inl ⟨by simp, rfl⟩⟩
  · go_enter Try.func51, Try.ntmps51
    go_wp2_with fail
    refine HP.out.mono ?_
    rintro e w' ⟨rfl, rfl⟩
    go_wp2_with fail
    go_ret
    exact ⟨rfl, .inr ⟨by omega, HST.out⟩⟩
  · go_enter Try.func51, Try.ntmps51
    go_wp2_with fail
    refine HP.out.mono ?_
    rintro e w' ⟨rfl, rfl⟩
    go_wp2_with fail
    go_ret
    exact ⟨rfl, .inr ⟨by omega, HST.out⟩⟩
  · go_enter Try.func51, Try.ntmps51
    go_wp2_with fail
    refine HP.out.mono ?_
    rintro e w' ⟨rfl, rfl⟩
    go_wp2_with fail
    go_ret
    exact ⟨rfl, .inr ⟨by omega, HST.out⟩⟩
  · clear HST
    go_enter Try.func51, Try.ntmps51
    go_wp2_with fail
    refine HP.out.mono ?_
    rintro e w' ⟨rfl, rfl⟩
    go_wp2_with fail
    go_ret
    exact ⟨rfl, .inl ⟨by simp, rfl⟩⟩
end Go.Proofs.Ythlmjnlakenmoaa
/-
  The pager by the document's words: a commit, an abort.
-/
namespace Go.Proofs.Ythlmjnlakenmoaa
open Go.RowKit Go.Maps
set_option maxRecDepth 100000

/-- a loop over the states, the first k of them turned by f -/
structure Turned (w : World) (x g L M : Nat) (p : Pr.Pt) (q : Pr.Dr) (f : Nat → Nat → Nat) (k : Nat) (wr : World) : Prop where
  box : Has wr x 90 (rpagerCells g L p)
  st : Has wr L 3 (stCells (Pr.upto f p.l k))
  dk : RDk wr g M p.l.length q
  fr : Fr (rS x g L M) w wr
theorem Turned.start {w : World} {x g L M : Nat} {p : Pr.Pt} {q : Pr.Dr} (h : RPg w x g L M p q) {f : Nat → Nat → Nat} (h0 : ∀ i, i < 2 → f i 0 = 0) : Turned w x g L M p q f 2 w :=
  ⟨h.box, by rw [Pr.upto_two h.ok.two h0]; exact h.st, h.dk, Fr.refl _ _⟩
theorem Turned.at_ {w wr : World} {x g L M : Nat} {p : Pr.Pt} {q : Pr.Dr} {f : Nat → Nat → Nat} {k : Nat} (h : Turned w x g L M p q f k wr) (hk : k < p.l.length) : wr.cell? ⟨L, k, none⟩ = some (.int .i64 (p.l[k] : Int)) :=
  (h.st.cell k).trans (stCells_at (Pr.upto_get hk))
theorem Turned.same {w wr : World} {x g L M : Nat} {p : Pr.Pt} {q : Pr.Dr} {f : Nat → Nat → Nat} {k : Nat} (h : Turned w x g L M p q f k wr) (hk : k < p.l.length) (e : f k p.l[k] = p.l[k]) : Turned w x g L M p q f (k + 1) wr :=
  ⟨h.box, by rw [← Pr.upto_same hk e]; exact h.st, h.dk, h.fr⟩
theorem Turned.ne {w wr : World} {x g L M : Nat} {p : Pr.Pt} {q : Pr.Dr} {f : Nat → Nat → Nat} {k : Nat} (h : Turned w x g L M p q f k wr) : (x ≠ g ∧ x ≠ L ∧ x ≠ M) ∧ (g ≠ L ∧ g ≠ M) ∧ L ≠ M :=
  ⟨⟨h.box.apart h.dk.box (by decide), h.box.apart h.st (by decide), h.box.ne_texts h.dk.txt⟩, ⟨h.dk.box.apart h.st (by decide), h.dk.box.ne_texts h.dk.txt⟩, h.st.ne_texts h.dk.txt⟩
theorem Turned.next {w wr : World} {x g L M : Nat} {p : Pr.Pt} {q : Pr.Dr} {f : Nat → Nat → Nat} {k : Nat} (h : Turned w x g L M p q f k wr) (hk : k < p.l.length) {v : Int} (e : v = (f k p.l[k] : Int)) : Turned w x g L M p q f (k + 1) (wr.setCell ⟨L, k, none⟩ (.int .i64 v)) := by
  obtain ⟨⟨n1, n2, n3⟩, ⟨n4, n5⟩, n6⟩ := h.ne
  have hf : Fr (oneB L) wr (wr.setCell ⟨L, k, none⟩ (.int .i64 v)) := (Fr.refl _ _).put _
  refine ⟨h.box.keep hf (fun e => n2 e), ?_, h.dk.keep hf (fun e => n4 e) (fun e => n6 (Eq.symm e)), h.fr.trans hf (fun k _ e => .inr (.inr (.inl e)))⟩
  have := h.st.set k (.int .i64 v)
  rw [e, stCells_set, Pr.upto_set hk] at this
  rwa [e]
theorem Turned.goes {w wr : World} {x g L M : Nat} {p : Pr.Pt} {q : Pr.Dr} {f : Nat → Nat → Nat} (h : Turned w x g L M p q f p.l.length wr) {l : List Nat} (hl : Pr.upto f p.l p.l.length = l) (ok : (⟨l, p.seq, p.root⟩ : Pr.Pt).Ok) : RGoes w x g L M ⟨l, p.seq, p.root⟩ q wr := by
  subst hl
  have hlen := Pr.upto_len f p.l p.l.length
  refine ⟨⟨ok, ?_, h.st, ?_⟩, h.fr⟩
  · have := h.box
    unfold rpagerCells at *
    rw [hlen]; exact this
  · show RDk _ g M (Pr.upto f p.l p.l.length).length q
    rw [hlen]; exact h.dk
theorem rabort_any (w : World) (x g L M : Nat) (p : Pr.Pt) (q : Pr.Dr) (h : RPg w x g L M p q) :
    Calls Try.prog 52 #[.pointer (some ⟨x, 0, none⟩)] w fun e w' => e = .returned (.tuple #[]) ∧ RGoes w x g L M (Pr.aborted p) q w' := by
  have hmost := h.ok.most
  have hsome := h.ok.some_
  have hok := h.ok
  have HT0 := Lib.hid (Turned.start h (f := fun _ s => Pr.abo s) (fun i _ => rfl))
  clear h
  go_enter Try.func52, Try.ntmps52
  go_wp2_with fail
  go_loopw [2] (fun iv wr => ∃ k : Nat, 2 ≤ k ∧ k ≤ p.l.length ∧ iv = .int .i64 k ∧ Hid (Turned w x g L M p q (fun _ s => Pr.abo s) k wr)) (fun iv _ => p.l.length - (intOf iv).toNat)
  case atStart => exact ⟨2, by omega, by omega, rfl, HT0⟩
  case round =>
    rename World => wr
    obtain ⟨k, hk2, hk, rfl, HT⟩ := hrel
    have c1 : wr.cell? ⟨x, 1, none⟩ = some (.slice (some ⟨L, 0, none⟩) p.l.length p.l.length) := HT.out.box.cell 1
    by_cases hlt : k < p.l.length
    · have hlt' : (k : Int) < (p.l.length : Int) := by omega
      have hx := HT.out.at_ hlt
      have hz := HT.out.st.free k
      have hs4 : p.l[k] ≤ 4 := hok.small _ (List.getElem_mem hlt)
      have HS := Lib.hid (fun (e : Pr.abo p.l[k] = p.l[k]) => HT.out.same hlt e)
      have HNX := Lib.hid (fun (v : Int) (e : v = (Pr.abo p.l[k] : Int)) => HT.out.next hlt (v := v) e)
      generalize p.l[k] = s at *
      rcases Pr.five_of hs4 with rfl | rfl | rfl | rfl | rfl
      · have HX := Lib.hid (HS.out rfl)
        go_wp2_with fail
        go_roundw
        case rel => exact ⟨k + 1, by omega, by omega, rfl, HX⟩
        case measure => simp [intOf]; omega
      · have HX := Lib.hid (HS.out rfl)
        go_wp2_with fail
        go_roundw
        case rel => exact ⟨k + 1, by omega, by omega, rfl, HX⟩
        case measure => simp [intOf]; omega
      · have HX := Lib.hid (HNX.out 0 rfl)
        go_wp2_with fail
        go_roundw
        case rel => exact ⟨k + 1, by omega, by omega, rfl, HX⟩
        case measure => simp [intOf]; omega
      · have HX := Lib.hid (HNX.out 0 rfl)
        go_wp2_with fail
        go_roundw
        case rel => exact ⟨k + 1, by omega, by omega, rfl, HX⟩
        case measure => simp [intOf]; omega
      · have HX := Lib.hid (HNX.out 1 rfl)
        go_wp2_with fail
        go_roundw
        case rel => exact ⟨k + 1, by omega, by omega, rfl, HX⟩
        case measure => simp [intOf]; omega
    · have hkl : k = p.l.length := by omega
      have hlt' : ¬ ((k : Int) < (p.l.length : Int)) := by omega
      subst hkl
      have HG := Lib.hid (HT.out.goes (Pr.upto_map Pr.abo p.l) (Pr.aborted_ok hok))
      go_wp2_with fail
      go_end0
      exact ⟨rfl, HG.out⟩
/-- a commit is refused -/
theorem rcommit_arg (w : World) (x g L M : Nat) (p : Pr.Pt) (q : Pr.Dr) (h : RPg w x g L M p q) (i : Int) (h0 : i ≠ 0) (hi : ¬ (2 ≤ i ∧ i < (p.l.length : Int))) :
    Calls Try.prog 14 #[.pointer (some ⟨x, 0, none⟩), .int .i64 i] w fun e w' => e = .returned (.int .i64 1) ∧ w = w' := by
  have HP := Lib.hid (h.page i false (decide_eq_false hi))
  clear h hi
  go_enter Try.func14, Try.ntmps14
  go_wp2_with fail
  refine HP.out.mono ?_
  rintro e w' ⟨rfl, rfl⟩
  go_wp2_with fail
  go_ret
  exact ⟨rfl, rfl⟩
theorem rcommit_state (w : World) (x g L M : Nat) (p : Pr.Pt) (q : Pr.Dr) (h : RPg w x g L M p q) (n : Nat) (hn2 : 2 ≤ n) (hn : n < p.l.length) (hok : Pr.stp Pr.isOk p.l n = false) :
    Calls Try.prog 14 #[.pointer (some ⟨x, 0, none⟩), .int .i64 (n : Int)] w fun e w' => e = .returned (.int .i64 250) ∧ w = w' := by
  have HP := Lib.hid (h.page n true (decide_eq_true (by omega)))
  have c1 := h.cells.c1
  have hx := h.at_ (List.getElem?_eq_getElem hn)
  have hmost := h.ok.most
  rw [Pr.stp_at hn] at hok
  clear h
  generalize p.l[n] = s at *
  have h1 : ((s : Int) != 1) = true := bne_iff_ne.2 fun e => by
    have : s = 1 := by omega
    subst this; cases hok
  have h3 : ((s : Int) != 3) = true := bne_iff_ne.2 fun e => by
    have : s = 3 := by omega
    subst this; cases hok
  have h0 : ¬ ((n : Int) = 0) := by omega
  go_enter Try.func14, Try.ntmps14
  go_wp2_with fail
  refine HP.out.mono ?_
  rintro e w' ⟨rfl, rfl⟩
  go_wp2_with fail
  go_ret
  exact ⟨rfl, rfl⟩
/-- what the document's disk says behind a commit -/
def Pr.Dr.keep (q : Dr) (s r : Nat) : Dr := if s % 2 = 0 then ⟨q.f, s, q.s1, r, q.r1⟩ else ⟨q.f, q.s0, s, q.r0, r⟩
theorem RDk.kept {w : World} {g M N : Nat} {q : Pr.Dr} (h : RDk w g M N q) {s r : Nat} (f : Fr (oneB g) w ((w.setCell ⟨g, 2 + s % 2, none⟩ (.int .i64 (s : Int))).setCell ⟨g, 4 + s % 2, none⟩ (.int .i64 (r : Int)))) (hgM : g ≠ M) :
    RDk ((w.setCell ⟨g, 2 + s % 2, none⟩ (.int .i64 (s : Int))).setCell ⟨g, 4 + s % 2, none⟩ (.int .i64 (r : Int))) g M N (q.keep s r) := by
  have hb := (h.box.set (2 + s % 2) (.int .i64 (s : Int))).set (4 + s % 2) (.int .i64 (r : Int))
  have ht := h.txt.keep f (fun e => hgM (Eq.symm e))
  unfold Pr.Dr.keep
  rcases Nat.mod_two_eq_zero_or_one s with e | e
  · rw [if_pos e]
    rw [e] at hb ht ⊢
    exact ⟨hb, ht⟩
  · rw [if_neg (by omega)]
    rw [e] at hb ht ⊢
    exact ⟨hb, ht⟩
set_option maxHeartbeats 3200000 in
theorem rcommit_ok (w : World) (x g L M : Nat) (p : Pr.Pt) (q : Pr.Dr) (h : RPg w x g L M p q) (hseq : p.seq + 1 ≤ 4611686018427387904) (n : Nat) (hn : n = 0 ∨ 2 ≤ n ∧ n < p.l.length ∧ Pr.stp Pr.isOk p.l n = true) :
    Calls Try.prog 14 #[.pointer (some ⟨x, 0, none⟩), .int .i64 (n : Int)] w fun e w' => e = .returned (.int .i64 0) ∧ RGoes w x g L M (Pr.committed p n) (q.keep (p.seq + 1) n) w' := by
  obtain ⟨⟨n1, n2, n3⟩, ⟨n4, n5⟩, n6⟩ := h.ne
  have hmost := h.ok.most
  have hsome := h.ok.some_
  have hok := Lib.hid h.ok
  have hroot : n = 0 ∨ 2 ≤ n ∧ n < p.l.length := hn.imp id (fun e => ⟨e.1, e.2.1⟩)
  have HROOT := Lib.hid hroot
  have HSEQ := Lib.hid hseq
  -- the memory behind the first stores
  have f1 : Fr (oneB x) w ((w.setCell ⟨x, 2, none⟩ (.int .i64 ((p.seq : Int) + 1))).setCell ⟨x, 3, none⟩ (.int .i64 (n : Int))) := ((Fr.refl _ _).put _).put _
  have hb1 : Has ((w.setCell ⟨x, 2, none⟩ (.int .i64 ((p.seq : Int) + 1))).setCell ⟨x, 3, none⟩ (.int .i64 (n : Int))) x 90 (rpagerCells g L ⟨p.l, p.seq + 1, n⟩) := (h.box.set 2 _).set 3 _
  have hs1 := h.st.keep f1 (fun e => n2 (Eq.symm e))
  have hd1 := h.dk.keep f1 (fun e => n1 (Eq.symm e)) (fun e => n3 (Eq.symm e))
  have c1 := h.cells.c1
  have c2 := h.cells.c2
  have c3 := h.cells.c3
  have z2 := h.box.free 2
  have z3 : (w.setCell ⟨x, 2, none⟩ (.int .i64 ((p.seq : Int) + 1))).frozen? ⟨x, 3, none⟩ = false := (h.box.set 2 _).free 3
  have HF1 := Lib.hid f1
  have HB1 := Lib.hid hb1
  have HS1 := Lib.hid hs1
  have HD1 := Lib.hid hd1
  have hpage := fun (e : 2 ≤ n ∧ n < p.l.length) => h.page n true (decide_eq_true (by omega))
  have hst : n = 0 ∨ ∃ v : Nat, (2 ≤ n ∧ n < p.l.length) ∧ w.cell? ⟨L, n, none⟩ = some (.int .i64 (v : Int)) ∧ (v = 1 ∨ v = 3) := by
    rcases hn with e | ⟨e1, e2, e3⟩
    · exact .inl e
    · refine .inr ⟨p.l[n], ⟨e1, e2⟩, h.at_ (List.getElem?_eq_getElem e2), ?_⟩
      rw [Pr.stp_at e2] at e3
      unfold Pr.isOk at e3
      simpa using e3
  have HPG := Lib.hid hpage
  have htail : ∀ w1, Hid (Has w1 x 90 (rpagerCells g L ⟨p.l, p.seq + 1, n⟩)) → Hid (RDk w1 g M p.l.length q) → Hid (Has w1 L 3 (stCells p.l)) → Hid (Fr (oneB x) w w1) → True := fun _ _ _ _ _ => trivial
  clear h hn hroot hseq f1 hb1 hs1 hd1 hpage htail
  go_enter Try.func14, Try.ntmps14
  go_upto_region 1 with fail
  go_cut [13] from 6 to 13 (fun c wx => c = .bool false ∧ w = wx)
  case first =>
    rcases hst with rfl | ⟨v, hnn, _, _⟩
    · go_wp2_with fail
      go_meet
      exact ⟨rfl, rfl⟩
    · have HPP := Lib.hid (HPG.out hnn)
      have h0 : ((n : Int) != 0) = true := bne_iff_ne.2 (by omega)
      have h0' : ¬ ((n : Int) = 0) := by omega
      obtain ⟨hn2, hnl⟩ := hnn
      go_wp2_with fail
      refine HPP.out.mono ?_
      rintro e w' ⟨rfl, rfl⟩
      go_wp2_with fail
      go_meet
      exact ⟨rfl, rfl⟩
  case rest =>
    obtain ⟨rfl, rfl⟩ := hcut
    go_upto_region 3 with fail
    go_cut [35] from 14 to 35 (fun c wx => c = .bool false ∧ w = wx)
    case first =>
      rcases hst with rfl | ⟨v, ⟨hn2, hnl⟩, hv, rfl | rfl⟩
      · go_wp2_with fail
        go_meet
        exact ⟨rfl, rfl⟩
      all_goals
        have h0 : ((n : Int) != 0) = true := bne_iff_ne.2 (by omega)
        have h0' : ¬ ((n : Int) = 0) := by omega
        go_wp2_with fail
        go_meet
        exact ⟨rfl, rfl⟩
    case rest =>
      obtain ⟨rfl, rfl⟩ := hcut
      clear hst c1 HPG hmost hsome
      have hsq : (p.seq : Int) ≤ 4611686018427387903 := by have := HSEQ.out; omega
      go_wp2_with fail
      have hx0 : Has ((w.setCell ⟨x, 2, none⟩ (.int .i64 ((p.seq : Int) + 1))).setCell ⟨x, 3, none⟩ (.int .i64 (n : Int))) x 90 (rpagerCells g L ⟨p.l, p.seq + 1, n⟩) := HB1.out
      generalize (w.setCell ⟨x, 2, none⟩ (.int .i64 ((p.seq : Int) + 1))).setCell ⟨x, 3, none⟩ (.int .i64 (n : Int)) = w1 at *
      obtain ⟨s, hs⟩ : ∃ s, s = p.seq + 1 := ⟨_, rfl⟩
      obtain ⟨z, hz⟩ : ∃ z, z = s % 2 := ⟨_, rfl⟩
      have hz2 : z < 2 := by omega
      have hz3 : (z : Int) < 2 := by omega
      have htm : ((s : Int)).tmod 2 = (z : Int) := by rw [Int.tmod_eq_emod_of_nonneg (by omega)]; omega
      have hsi : (p.seq : Int) + 1 = (s : Int) := by omega
      have HZ := Lib.hid hz
      have HS := Lib.hid hs
      rw [← hs] at hx0
      have a0 : w1.cell? ⟨x, 0, none⟩ = some (.pointer (some ⟨g, 0, none⟩)) := hx0.cell 0
      have a2 : w1.cell? ⟨x, 2, none⟩ = some (.int .i64 (s : Int)) := hx0.cell 2
      have HX0 := Lib.hid hx0
      clear hz hs hx0 hsq hsi c2 c3 z2 z3
      go_still_tail 16, (by kernel_rfl)
      change wpList _ _ _ _ _ w1.drew
      have hX2 : Has w1.drew x 90 (rpagerCells g L ⟨p.l, s, n⟩) := HX0.out
      have hD2 : RDk w1.drew g M p.l.length q := HD1.out.keep ((Fr.refl noB w1).drew) (fun e => e) (fun e => e)
      have hS2 : Has w1.drew L 3 (stCells p.l) := HS1.out
      have hF2 : Fr (oneB x) w w1.drew := HF1.out.drew
      generalize w1.drew = w2 at *
      have hb2 : ∃ v, w2.cell? ⟨g, 2 + z, none⟩ = some v := by
        rw [hD2.box.cell]
        rcases (show z = 0 ∨ z = 1 by omega) with rfl | rfl
        · exact ⟨_, rfl⟩
        · exact ⟨_, rfl⟩
      obtain ⟨v2, b2⟩ := hb2
      have g2 : w2.frozen? ⟨g, 2 + z, none⟩ = false := hD2.box.free _
      have hfg : Fr (oneB g) w2 (w2.setCell ⟨g, 2 + z, none⟩ (.int .i64 (s : Int))) := (Fr.refl _ _).put _
      have hX3 := hX2.keep hfg (fun e => n1 e)
      have a0' : (w2.setCell ⟨g, 2 + z, none⟩ (.int .i64 (s : Int))).cell? ⟨x, 0, none⟩ = some (.pointer (some ⟨g, 0, none⟩)) := hX3.cell 0
      have a2' : (w2.setCell ⟨g, 2 + z, none⟩ (.int .i64 (s : Int))).cell? ⟨x, 2, none⟩ = some (.int .i64 (s : Int)) := hX3.cell 2
      have hg3 := hD2.box.set (2 + z) (.int .i64 (s : Int))
      have hb3 : ∃ v, (w2.setCell ⟨g, 2 + z, none⟩ (.int .i64 (s : Int))).cell? ⟨g, 4 + z, none⟩ = some v := by
        rw [hg3.cell]
        rcases (show z = 0 ∨ z = 1 by omega) with rfl | rfl
        · exact ⟨_, rfl⟩
        · exact ⟨_, rfl⟩
      obtain ⟨v3, b3⟩ := hb3
      have g3 : (w2.setCell ⟨g, 2 + z, none⟩ (.int .i64 (s : Int))).frozen? ⟨g, 4 + z, none⟩ = false := hg3.free _
      have HX2 := Lib.hid hX2
      have HD2 := Lib.hid hD2
      have HS2 := Lib.hid hS2
      have HF2 := Lib.hid hF2
      clear hX2 hD2 hS2 hF2 hfg hX3 hg3 a0 a2 HB1 HS1 HD1 HF1 HX0
      go_wp2_with fail
      generalize hw3 : w2.setCell ⟨g, 2 + z, none⟩ (.int .i64 (s : Int)) = w3 at *
      have HW3 := Lib.hid hw3
      clear hw3 b2 g2
      go_still_tail 13, (by kernel_rfl)
      change wpList _ _ _ _ _ w3.drew
      have b3' : w3.drew.cell? ⟨g, 4 + z, none⟩ = some v3 := b3
      have g3' : w3.drew.frozen? ⟨g, 4 + z, none⟩ = false := g3
      have hfx : Fr (oneB g) w2 ((w3.setCell ⟨g, 4 + z, none⟩ (.int .i64 (n : Int))).drew) := by
        rw [← HW3.out]
        exact (((Fr.refl _ _).put _).put _).drew
      have hD4 : RDk ((w3.setCell ⟨g, 4 + z, none⟩ (.int .i64 (n : Int))).drew) g M p.l.length (q.keep s n) := by
        have hfx' := hfx
        rw [← HW3.out] at hfx' ⊢
        rw [HZ.out] at hfx' ⊢
        have := RDk.kept HD2.out (s := s) (r := n) (((Fr.refl _ _).put _).put _) n5
        exact this.keep (F := noB) ((Fr.refl noB ((w2.setCell ⟨g, 2 + s % 2, none⟩ (.int .i64 (s : Int))).setCell ⟨g, 4 + s % 2, none⟩ (.int .i64 (n : Int)))).drew) (fun e => e) (fun e => e)
      have hX4 := HX2.out.keep hfx (fun e => n1 e)
      have hS4 := HS2.out.keep hfx (fun e => n4 (Eq.symm e))
      have hF4 : Fr (rS x g L M) w ((w3.setCell ⟨g, 4 + z, none⟩ (.int .i64 (n : Int))).drew) := (HF2.out.wide (fun k _ e => .inl e)).trans hfx (fun k _ e => .inr (.inl e))
      have HD4 := Lib.hid hD4
      have HX4 := Lib.hid hX4
      have HS4 := Lib.hid hS4
      have HF4 := Lib.hid hF4
      clear hfx hD4 hX4 hS4 hF4 b3 g3
      go_wp2_with fail
      generalize (w3.setCell ⟨g, 4 + z, none⟩ (.int .i64 (n : Int))).drew = w4 at *
      have hok4 : (⟨p.l, s, n⟩ : Pr.Pt).Ok := ⟨hok.out.some_, hok.out.most, hok.out.two, hok.out.small, by have := HSEQ.out; have := HS.out; show s ≤ _; omega, HROOT.out⟩
      have HT0 := Lib.hid (Turned.start (f := fun _ s => Pr.com s) (⟨hok4, HX4.out, HS4.out, HD4.out⟩ : RPg w4 x g L M ⟨p.l, s, n⟩ (q.keep s n)) (fun i _ => rfl))
      have hmost := hok.out.most
      have hsome := hok.out.some_
      have HOK4 := Lib.hid hok4
      clear HX4 HS4 HD4 HX2 HD2 HS2 HF2 HW3 a0' a2' b3' g3' hok4 htm
      go_loopw [5] (fun iv wr => ∃ k : Nat, 2 ≤ k ∧ k ≤ p.l.length ∧ iv = .int .i64 k ∧ Hid (Turned w4 x g L M ⟨p.l, s, n⟩ (q.keep s n) (fun _ s => Pr.com s) k wr)) (fun iv _ => p.l.length - (intOf iv).toNat)
      case atStart => exact ⟨2, by omega, by omega, rfl, HT0⟩
      case round =>
        rename World => wr
        obtain ⟨k, hk2, hk, rfl, HT⟩ := hrel
        have c1 : wr.cell? ⟨x, 1, none⟩ = some (.slice (some ⟨L, 0, none⟩) p.l.length p.l.length) := HT.out.box.cell 1
        by_cases hlt : k < p.l.length
        · have hlt' : (k : Int) < (p.l.length : Int) := by omega
          have hx : wr.cell? ⟨L, k, none⟩ = some (.int .i64 (p.l[k] : Int)) := HT.out.at_ hlt
          have hz := HT.out.st.free k
          have hs4 : p.l[k] ≤ 4 := hok.out.small _ (List.getElem_mem hlt)
          have HS' := Lib.hid (fun (e : Pr.com p.l[k] = p.l[k]) => HT.out.same hlt e)
          have HNX := Lib.hid (fun (v : Int) (e : v = (Pr.com p.l[k] : Int)) => HT.out.next hlt (v := v) e)
          generalize p.l[k] = t at *
          rcases Pr.five_of hs4 with rfl | rfl | rfl | rfl | rfl
          · have HX := Lib.hid (HS'.out rfl)
            go_wp2_with fail
            go_roundw
            case rel => exact ⟨k + 1, by omega, by omega, rfl, HX⟩
            case measure => simp [intOf]; omega
          · have HX := Lib.hid (HS'.out rfl)
            go_wp2_with fail
            go_roundw
            case rel => exact ⟨k + 1, by omega, by omega, rfl, HX⟩
            case measure => simp [intOf]; omega
          · have HX := Lib.hid (HNX.out 1 rfl)
            go_wp2_with fail
            go_roundw
            case rel => exact ⟨k + 1, by omega, by omega, rfl, HX⟩
            case measure => simp [intOf]; omega
          · have HX := Lib.hid (HNX.out 1 rfl)
            go_wp2_with fail
            go_roundw
            case rel => exact ⟨k + 1, by omega, by omega, rfl, HX⟩
            case measure => simp [intOf]; omega
          · have HX := Lib.hid (HNX.out 0 rfl)
            go_wp2_with fail
            go_roundw
            case rel => exact ⟨k + 1, by omega, by omega, rfl, HX⟩
            case measure => simp [intOf]; omega
        · have hkl : k = p.l.length := by omega
          have hlt' : ¬ ((k : Int) < (p.l.length : Int)) := by omega
          subst hkl
          have HG := Lib.hid (HT.out.goes (Pr.upto_map Pr.com p.l) (by have := Pr.committed_ok hok.out (r := n) HSEQ.out HROOT.out; unfold Pr.committed at this; rw [← HS.out] at this; exact this))
          go_wp2_with fail
          go_ret
          rw [← HS.out]
          refine ⟨rfl, ?_, HF4.out.trans HG.out.2 (fun _ _ e => e)⟩
          have := HG.out.1
          unfold Pr.committed
          rw [← HS.out]
          exact this
end Go.Proofs.Ythlmjnlakenmoaa

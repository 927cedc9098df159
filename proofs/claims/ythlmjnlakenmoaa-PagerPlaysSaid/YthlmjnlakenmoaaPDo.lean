/-
  A step done to both pagers: what the kinds share; taking, dropping, aborting.
-/
import Derived.Test.YthlmjnlakenmoaaPTold
import Derived.Deep.CutRange
import Derived.Deep.CutBlock
import Derived.Deep.RegionHeld3
import Derived.Lib.BufferMore
import Derived.Maps.AppendAt
namespace Go.Proofs.Ythlmjnlakenmoaa
open Go.RowKit Go.Maps
set_option maxRecDepth 100000

def stepCells (kind n : Int) (t : List UInt8) (A : Option Addr) (l : List Int) (c : Nat) : Array Value := #[.int .i64 kind, .int .i64 n, bstr t, .slice A l.length c]
def DoPost (W : World) (db x g N k : Nat) (e : Ending) (w' : World) : Prop := ∃ b' : Nat, e = .returned (.tuple #[.pointer (some ⟨b', 0, none⟩), .bool true]) ∧ Both W w' b' db x g N (k + 1)
/-- what a pair of calls has made of both is a step of both -/
theorem Both.of {W w : World} {E : Nat → Prop} {b db x g N k : Nat} {p : Pr.Pt} {q : Pr.Dr} {d : Dk.St} (h : Mid W w E b db x g p p q d) (rel : PRel d q N k) (hN : p.l.length = N) (hs : p.seq ≤ k + 1) : Both W w b db x g N k := by
  obtain ⟨S, Sd, U, T, B, D, low, L, M, h, _⟩ := h
  exact ⟨_, _, _, _, _, _, _, _, _, _, _, _, h, rel, hN, hs⟩
theorem Both.mid {W w : World} {b db x g N k : Nat} (h : Both W w b db x g N k) : ∃ p q d, Mid W w noB b db x g p p q d ∧ PRel d q N k ∧ p.l.length = N ∧ p.seq ≤ k + 1 := by
  obtain ⟨S, Sd, U, T, B, D, low, L, M, p, q, d, h, r⟩ := h
  exact ⟨p, q, d, ⟨_, _, _, _, _, _, _, _, _, h, fun _ e => e.elim⟩, r⟩
theorem Both.below {W w : World} {b db x g N k : Nat} (h : Both W w b db x g N k) : Below W.heap.size W w := by
  obtain ⟨p, q, d, h, _⟩ := h.mid
  exact h.below
theorem Both.next {W w w' : World} {b db x g N k : Nat} (h : Both W w b db x g N k) (hb : Below w.heap.size w w') : Both W w' b db x g N k := by
  obtain ⟨p, q, d, h, r, hN, hs⟩ := h.mid
  exact Both.of (h.next hb) r hN hs
theorem Mid.dk {W w : World} {E : Nat → Prop} {b db x g : Nat} {p pr : Pr.Pt} {q : Pr.Dr} {d : Dk.St} (h : Mid W w E b db x g p pr q d) : w.cell? ⟨x, 0, none⟩ = some (.pointer (some ⟨g, 0, none⟩)) := by
  obtain ⟨S, Sd, U, T, B, D, low, L, M, h, _⟩ := h
  exact h.ref.cells.c0
theorem Mid.ok {W w : World} {E : Nat → Prop} {b db x g : Nat} {p pr : Pr.Pt} {q : Pr.Dr} {d : Dk.St} (h : Mid W w E b db x g p pr q d) : p.Ok := by
  obtain ⟨S, Sd, U, T, B, D, low, L, M, h, _⟩ := h
  exact h.sys.over.lies.ok
theorem free_at_least {s : List Nat} : (∃ i, 2 ≤ i ∧ i < s.length ∧ Pr.stp Pr.isF s i = true ∧ ∀ j, 2 ≤ j → j < i → Pr.stp Pr.isF s j = false) ∨ ∀ j, 2 ≤ j → j < s.length → Pr.stp Pr.isF s j = false := by
  by_cases hex : ∃ i, 2 ≤ i ∧ Pr.stp Pr.isF s i = true
  · refine .inl ?_
    have hdec : ∃ i, (2 ≤ i ∧ Pr.stp Pr.isF s i = true) ∧ ∀ j, j < i → ¬ (2 ≤ j ∧ Pr.stp Pr.isF s j = true) := by
      obtain ⟨i, hi⟩ := hex
      induction i using Nat.strongRecOn with
      | _ i ih =>
        by_cases hc : ∃ j, j < i ∧ 2 ≤ j ∧ Pr.stp Pr.isF s j = true
        · obtain ⟨j, hj, h2⟩ := hc
          exact ih j hj h2
        · exact ⟨i, hi, fun j hj h2 => hc ⟨j, hj, h2⟩⟩
    obtain ⟨i, ⟨h2, hf⟩, hmin⟩ := hdec
    refine ⟨i, h2, Pr.stp_lt hf, hf, fun j hj hji => ?_⟩
    cases hh : Pr.stp Pr.isF s j
    · rfl
    · exact absurd ⟨hj, hh⟩ (hmin j hji)
  · refine .inr fun j hj _ => ?_
    cases hh : Pr.stp Pr.isF s j
    · rfl
    · exact absurd ⟨j, hj, hh⟩ hex
theorem palloc_full (W w : World) (E : Nat → Prop) (b db x g : Nat) (p pr : Pr.Pt) (q : Pr.Dr) (d : Dk.St) (h : Mid W w E b db x g p pr q d) (hl : d.Live) (i : Nat) (h2 : 2 ≤ i) (hi : i < p.l.length) (hf : Pr.stp Pr.isF p.l i = true) (hmin : ∀ j, 2 ≤ j → j < i → Pr.stp Pr.isF p.l j = false) :
    Calls Try.prog 19 #[.pointer (some ⟨b, 0, none⟩)] w fun e w' => e = .returned (.tuple #[.int .i64 (i : Int), .int .i64 0]) ∧ Mid W w' E b db x g ⟨p.l.set i 2, p.seq, p.root⟩ pr q d := by
  obtain ⟨S, Sd, U, T, B, D, low, L, M, h, hE⟩ := h
  refine (palloc_some w S Sd noB b db U T B D low p d h.sys.over hl.dead i h2 hi hf hmin).mono ?_
  rintro e w' ⟨rfl, ho, hfr⟩
  exact ⟨rfl, (h.over' hE ho hfr).1⟩
theorem palloc_no (W w : World) (E : Nat → Prop) (b db x g : Nat) (p pr : Pr.Pt) (q : Pr.Dr) (d : Dk.St) (h : Mid W w E b db x g p pr q d) (hl : d.Live) (hno : ∀ j, 2 ≤ j → j < p.l.length → Pr.stp Pr.isF p.l j = false) :
    Calls Try.prog 19 #[.pointer (some ⟨b, 0, none⟩)] w fun e w' => e = .returned (.tuple #[.int .i64 0, .int .i64 3]) ∧ Mid W w' E b db x g p pr q d := by
  obtain ⟨S, Sd, U, T, B, D, low, L, M, h, hE⟩ := h
  refine (palloc_none w S Sd noB b db U T B D low p d h.sys.over hl.dead hno).mono ?_
  rintro e w' ⟨rfl, ho, hfr⟩
  exact ⟨rfl, (h.over' hE ho hfr).1⟩
theorem ralloc_full (W w : World) (E : Nat → Prop) (b db x g : Nat) (p pr : Pr.Pt) (q : Pr.Dr) (d : Dk.St) (h : Mid W w E b db x g p pr q d) (i : Nat) (h2 : 2 ≤ i) (hi : i < pr.l.length) (hf : Pr.stp Pr.isF pr.l i = true) (hmin : ∀ j, 2 ≤ j → j < i → Pr.stp Pr.isF pr.l j = false) :
    Calls Try.prog 49 #[.pointer (some ⟨x, 0, none⟩)] w fun e w' => e = .returned (.tuple #[.int .i64 (i : Int), .int .i64 0]) ∧ Mid W w' E b db x g p ⟨pr.l.set i 2, pr.seq, pr.root⟩ q d := by
  obtain ⟨S, Sd, U, T, B, D, low, L, M, h, hE⟩ := h
  refine (ralloc_any w x g L M pr q h.ref).mono ?_
  rintro e w' (⟨j, j2, hj, j0, jmin, rfl, hg⟩ | ⟨hno, _⟩)
  · have : j = i := by
      have hjf : Pr.stp Pr.isF pr.l j = true := stpF.2 j0
      rcases Nat.lt_trichotomy j i with hlt | he | hgt
      · rw [hmin j j2 hlt] at hjf; cases hjf
      · exact he
      · rw [jmin i h2 hgt] at hf; cases hf
    subst this
    exact ⟨rfl, (h.rgoes hE hg).1⟩
  · rw [hno i h2 hi] at hf; cases hf
theorem ralloc_no (W w : World) (E : Nat → Prop) (b db x g : Nat) (p pr : Pr.Pt) (q : Pr.Dr) (d : Dk.St) (h : Mid W w E b db x g p pr q d) (hno : ∀ j, 2 ≤ j → j < pr.l.length → Pr.stp Pr.isF pr.l j = false) :
    Calls Try.prog 49 #[.pointer (some ⟨x, 0, none⟩)] w fun e w' => e = .returned (.tuple #[.int .i64 0, .int .i64 3]) ∧ Mid W w' E b db x g p pr q d := by
  obtain ⟨S, Sd, U, T, B, D, low, L, M, h, hE⟩ := h
  refine (ralloc_any w x g L M pr q h.ref).mono ?_
  rintro e w' (⟨j, j2, hj, j0, jmin, rfl, hg⟩ | ⟨_, rfl, rfl⟩)
  · have hjf : Pr.stp Pr.isF pr.l j = true := stpF.2 j0
    rw [hno j j2 hj] at hjf; cases hjf
  · exact ⟨rfl, (h.same hE).1⟩
/-- the step, boxed -/
def boxed (w : World) (kind n : Int) (t : List UInt8) (A : Option Addr) (l : List Int) (c : Nat) : World := w.alloc (.cells (stepCells kind n t A l c) 41)
theorem boxed_has (w : World) (kind n : Int) (t : List UInt8) (A : Option Addr) (l : List Int) (c : Nat) : Has (boxed w kind n t A l c) w.heap.size 41 (stepCells kind n t A l c) := Has.of_alloc _ _ _
theorem boxed_below (w : World) (kind n : Int) (t : List UInt8) (A : Option Addr) (l : List Int) (c : Nat) : Below w.heap.size w (boxed w kind n t A l c) := (Below.refl _ _).alloc (Nat.le_refl _) _
set_option maxHeartbeats 1600000 in
theorem do_alloc (W w : World) (b db x g N k : Nat) (h : Both W w b db x g N k) (n : Int) (t : List UInt8) (A : Option Addr) (l : List Int) (c : Nat) :
    Calls Try.prog 16 #[.agg (stepCells 0 n t A l c), .pointer (some ⟨db, 0, none⟩), .pointer (some ⟨b, 0, none⟩), .pointer (some ⟨x, 0, none⟩)] w (DoPost W db x g N k) := by
  obtain ⟨p, q, d, hm, rel, hN, hs⟩ := h.mid
  have HM := Lib.hid (hm.next (boxed_below w 0 n t A l c))
  have hb := boxed_has w 0 n t A l c
  have x0 : (boxed w 0 n t A l c).cell? ⟨w.heap.size, 0, none⟩ = some (.int .i64 0) := hb.cell 0
  have HREL := Lib.hid rel
  clear h hm hb rel
  unfold stepCells boxed stepCells bstr at *
  rcases free_at_least (s := p.l) with ⟨i, h2, hi, hf, hmin⟩ | hno
  · have HA := Lib.hid (palloc_full W _ noB b db x g p p q d HM.out HREL.out.live i h2 hi hf hmin)
    have HMIN := Lib.hid hmin
    clear hmin
    go_enter Try.func16, Try.ntmps16
    go_wp2_with fail
    refine HA.out.mono ?_
    rintro e w2 ⟨rfl, hm2⟩
    have HR := Lib.hid (ralloc_full W w2 noB b db x g _ p q d hm2 i h2 hi hf HMIN.out)
    clear hm2 HA HM x0
    go_wp2_with fail
    refine HR.out.mono ?_
    rintro e w3 ⟨rfl, hm3⟩
    have HB := Lib.hid (Both.of hm3 HREL.out.more (by show (p.l.set i 2).length = N; rw [List.length_set]; exact hN) (by show p.seq ≤ _; omega))
    clear hm3 HR
    go_wp2_with fail
    go_ret2
    exact ⟨b, rfl, HB.out⟩
  · have HA := Lib.hid (palloc_no W _ noB b db x g p p q d HM.out HREL.out.live hno)
    have HNO := Lib.hid hno
    clear hno
    go_enter Try.func16, Try.ntmps16
    go_wp2_with fail
    refine HA.out.mono ?_
    rintro e w2 ⟨rfl, hm2⟩
    have HR := Lib.hid (ralloc_no W w2 noB b db x g _ p q d hm2 HNO.out)
    clear hm2 HA HM x0
    go_wp2_with fail
    refine HR.out.mono ?_
    rintro e w3 ⟨rfl, hm3⟩
    have HB := Lib.hid (Both.of hm3 HREL.out.more hN (by omega))
    clear hm3 HR
    go_wp2_with fail
    go_ret2
    exact ⟨b, rfl, HB.out⟩
theorem Mid.wide {W w : World} {E : Nat → Prop} {b db x g : Nat} {p pr : Pr.Pt} {q : Pr.Dr} {d : Dk.St} (h : Mid W w noB b db x g p pr q d) (hE : ∀ k, E k → w.heap.size ≤ k) {w' : World} (hb : Below w.heap.size w w') (hl : ∀ k, E k → k < w'.heap.size) : Mid W w' E b db x g p pr q d := by
  obtain ⟨S, Sd, U, T, B, D, low, L, M, h, _⟩ := h
  exact ⟨_, _, _, _, _, _, _, _, _, h.next hb, fun k hk => ⟨hl k hk, fun e => by have := h.sys.over.lt k e; have := hE k hk; omega, fun e => by have := h.ref.lt k e; have := hE k hk; omega⟩⟩
theorem Mid.drew {W w : World} {E : Nat → Prop} {b db x g : Nat} {p pr : Pr.Pt} {q : Pr.Dr} {d : Dk.St} (h : Mid W w E b db x g p pr q d) : Mid W w.drew E b db x g p pr q d := h.next ⟨rfl, rfl, rfl, Nat.le_refl _, fun _ _ => rfl⟩
/-- the boxed step and the pagers beside it -/
theorem Mid.boxed {W w : World} {b db x g : Nat} {p pr : Pr.Pt} {q : Pr.Dr} {d : Dk.St} (h : Mid W w noB b db x g p pr q d) (kind n : Int) (t : List UInt8) (A : Option Addr) (l : List Int) (c : Nat) : Mid W (boxed w kind n t A l c) (oneB w.heap.size) b db x g p pr q d :=
  h.wide (fun k e => by have e : k = w.heap.size := e; omega) (boxed_below w kind n t A l c) (fun k e => by have e : k = w.heap.size := e; rw [e]; exact (boxed_has w kind n t A l c).lt)
theorem MidK.has {W w w' : World} {E : Nat → Prop} {b db x g : Nat} {p pr : Pr.Pt} {q : Pr.Dr} {d : Dk.St} (h : MidK W w w' E b db x g p pr q d) {k : Nat} {t : TypeId} {cs : Array Value} (hh : Has w k t cs) (he : E k) : Has w' k t cs := (h.2 k he).trans hh
theorem PRel.drop {d : Dk.St} {q : Pr.Dr} {N k : Nat} (h : PRel d q N k) (p : Pr.Pt) (i : Int) (hN : p.l.length = N) (hs : p.seq ≤ k + 1) : PRel d q N (k + 1) ∧ (Pr.dTo p i).l.length = N ∧ (Pr.dTo p i).seq ≤ k + 1 + 1 := by
  refine ⟨h.more, ?_, ?_⟩
  · unfold Pr.dTo; split
    · rw [List.length_set]; exact hN
    · exact hN
  · unfold Pr.dTo; split
    · show p.seq ≤ _; omega
    · omega
set_option maxHeartbeats 1600000 in
theorem do_drop (W w : World) (b db x g N k : Nat) (h : Both W w b db x g N k) (n : Int) (t : List UInt8) (A : Option Addr) (l : List Int) (c : Nat) :
    Calls Try.prog 16 #[.agg (stepCells 2 n t A l c), .pointer (some ⟨db, 0, none⟩), .pointer (some ⟨b, 0, none⟩), .pointer (some ⟨x, 0, none⟩)] w (DoPost W db x g N k) := by
  obtain ⟨p, q, d, hm, rel, hN, hs⟩ := h.mid
  have HM := Lib.hid (hm.boxed 2 n t A l c)
  have hb := boxed_has w 2 n t A l c
  have x0 : (boxed w 2 n t A l c).cell? ⟨w.heap.size, 0, none⟩ = some (.int .i64 2) := hb.cell 0
  have x1 : (boxed w 2 n t A l c).cell? ⟨w.heap.size, 1, none⟩ = some (.int .i64 n) := hb.cell 1
  have HD := Lib.hid (fun w' pr h => pdrop_full W w' (oneB w.heap.size) b db x g p pr q d h rel.live n)
  have HR := Lib.hid (fun w' p' h => rdrop_full W w' (oneB w.heap.size) b db x g p' p q d h n)
  have HREL := Lib.hid (rel.drop p n hN hs)
  have HHB := Lib.hid hb
  clear h hm hb rel
  unfold stepCells boxed stepCells bstr at *
  go_enter Try.func16, Try.ntmps16
  go_wp2_with fail
  generalize hw1 : w.alloc (.cells #[.int .i64 2, .int .i64 n, .string { data := t.toArray }, .slice A l.length c] 41) = w1 at *
  clear hw1
  go_region_held3 (fun w' => w'.cell? ⟨w.heap.size, 1, none⟩ = some (.int .i64 n)) (first | assumption | exact x1) (first
    | (go_at_call 23; refine (HD.out _ _ HM.out.drew).mono ?_; rintro e w2 ⟨rfl, hm2⟩; have x2 : w2.cell? ⟨w.heap.size, 1, none⟩ = some (.int .i64 n) := (hm2.has (show Has w1.drew w.heap.size _ _ from HHB.out) rfl).cell 1; have HM2 := Lib.hid hm2; clear hm2)
    | (go_at_call 51; refine (HR.out _ _ HM2.out.1).mono ?_; rintro e w3 ⟨rfl, hm3⟩; have x3 : w3.cell? ⟨w.heap.size, 1, none⟩ = some (.int .i64 n) := (hm3.has (HM2.out.has (show Has w1.drew w.heap.size _ _ from HHB.out) rfl) rfl).cell 1; have HM3 := Lib.hid hm3; clear hm3))
  have HB := Lib.hid (Both.of HM3.out.1 HREL.out.1 HREL.out.2.1 HREL.out.2.2)
  clear HM3
  go_wp2_with fail
  go_ret2
  exact ⟨b, rfl, HB.out⟩
set_option maxHeartbeats 1600000 in
theorem do_abort (W w : World) (b db x g N k : Nat) (h : Both W w b db x g N k) (n : Int) (t : List UInt8) (A : Option Addr) (l : List Int) (c : Nat) :
    Calls Try.prog 16 #[.agg (stepCells 4 n t A l c), .pointer (some ⟨db, 0, none⟩), .pointer (some ⟨b, 0, none⟩), .pointer (some ⟨x, 0, none⟩)] w (DoPost W db x g N k) := by
  obtain ⟨p, q, d, hm, rel, hN, hs⟩ := h.mid
  have HA := Lib.hid (pabort_full W _ (oneB w.heap.size) b db x g p p q d (hm.boxed 4 n t A l c) rel.live)
  have hb := boxed_has w 4 n t A l c
  have x0 : (boxed w 4 n t A l c).cell? ⟨w.heap.size, 0, none⟩ = some (.int .i64 4) := hb.cell 0
  have HREL := Lib.hid rel
  clear h hm hb rel
  unfold boxed at HA x0
  unfold stepCells bstr at *
  go_enter Try.func16, Try.ntmps16
  go_wp2_with fail
  refine HA.out.mono ?_
  rintro e w2 ⟨rfl, hm2⟩
  have HR := Lib.hid (rabort_full W w2 (oneB w.heap.size) b db x g _ p q d hm2.1)
  clear hm2 HA x0
  go_wp2_with fail
  refine HR.out.mono ?_
  rintro e w3 ⟨rfl, hm3⟩
  have HB := Lib.hid (Both.of hm3.1 HREL.out.more (by show (p.l.map Pr.abo).length = N; rw [List.length_map]; exact hN) (by show p.seq ≤ _; omega))
  clear hm3 HR
  go_wp2_with fail
  go_ret2
  exact ⟨b, rfl, HB.out⟩
end Go.Proofs.Ythlmjnlakenmoaa
/-
  A step done to both pagers: a page is written, read.
-/
namespace Go.Proofs.Ythlmjnlakenmoaa
open Go.RowKit Go.Maps
set_option maxRecDepth 100000

/-- block g has n cells that may be turned -/
def Loose (w : World) (g n : Nat) : Prop := ∃ cs t, w.heap[g]? = some (.cells cs t (cs.size, cs.size + 1)) ∧ n ≤ cs.size
theorem Loose.keep {w w' : World} {g n : Nat} (h : Loose w g n) (hk : w'.heap[g]? = w.heap[g]?) : Loose w' g n := by
  obtain ⟨cs, t, h1, h2⟩ := h
  exact ⟨cs, t, hk.trans h1, h2⟩
theorem Loose.cell {w : World} {g n j : Nat} (h : Loose w g n) (hj : j < n) : ∃ v, w.cell? ⟨g, j, none⟩ = some v := by
  obtain ⟨cs, t, h1, h2⟩ := h
  exact ⟨cs[j]'(by omega), by simp [World.cell?, h1, show j < cs.size by omega]⟩
theorem Loose.free {w : World} {g n j : Nat} (h : Loose w g n) (hj : j < n) : w.frozen? ⟨g, j, none⟩ = false := by
  obtain ⟨cs, t, h1, h2⟩ := h
  have : ¬ cs.size ≤ j := by omega
  simp [World.frozen?, h1, this]
theorem Loose.set {w : World} {g n : Nat} (h : Loose w g n) (j : Nat) (v : Value) : Loose (w.setCell ⟨g, j, none⟩ v) g n := by
  obtain ⟨cs, t, h1, h2⟩ := h
  refine ⟨cs.setIfInBounds j v, t, ?_, by simpa using h2⟩
  have := Lib.heap_setCell_same (i := j) h1 v
  rw [this]
  simp
theorem Loose.lt {w : World} {g n : Nat} (h : Loose w g n) : g < w.heap.size := by
  obtain ⟨cs, t, h1, _⟩ := h
  exact lt_of_block h1
theorem run_text2 (w : World) (b : List UInt8) (hm : b.length ≤ 140737488355328) : ∃ cap wx, (convert 9 48 (bstr b)).run Try.prog w = .ok (.slice (some ⟨w.heap.size, 0, none⟩) b.length cap) wx ∧ Rd wx wx.heap.size (some ⟨w.heap.size, 0, none⟩) b ∧ Below w.heap.size w wx ∧ Loose wx w.heap.size b.length := by
  have h := Lib.run_convert_string_bytes (P := Try.prog) w 9 48 5 ⟨b.toArray⟩ und_str2 und_bytes und_u8
  have hc : ∀ j, j < b.length → (Lib.bytesWorld w 5 ⟨b.toArray⟩).cell? ⟨w.heap.size, j, none⟩ = some (.int .u8 ((ByteArray.mk b.toArray).data.toList.getD j 0).toNat) := fun j hj => Lib.bytesWorld_cell w _ _ j (by show j < b.toArray.size; simpa using hj)
  refine ⟨_, _, h, ⟨hm, fun _ => ⟨_, 0, rfl, by rw [Lib.bytesWorld_size]; omega, fun j u hj => ?_⟩⟩, Lib.bytesWorld_below w _ _, _, _, Lib.bytesWorld_at_new w _ _, ?_⟩
  · have hlt : j < b.length := by have := (List.getElem?_eq_some_iff.1 hj).1; rwa [bytCells_len] at this
    rw [Nat.zero_add, hc j hlt]
    rw [bytCells_get, List.getElem?_eq_getElem hlt] at hj
    have hj := Option.some.inj hj
    rw [← hj]
    simp [byt, hlt]
  · by_cases h0 : b.length = 0
    · omega
    · have := hc (b.length - 1) (by omega)
      rw [World.cell?, Lib.bytesWorld_at_new] at this
      simp only [Option.isSome_none, Bool.false_eq_true, if_false] at this
      have := (Array.getElem?_eq_some_iff.1 this).1
      omega
theorem Rd.at_block {w w' : World} {B B' g o : Nat} {l : List UInt8} (h : Rd w B (some ⟨g, o, none⟩) l) (hk : w'.heap[g]? = w.heap[g]?) (hB : g < B') : Rd w' B' (some ⟨g, o, none⟩) l := ⟨h.1, fun h0 => by
  obtain ⟨g', o', e, _, hc⟩ := h.2 h0
  injection e with e
  injection e with e1 e2 _
  subst e1 e2
  exact ⟨g, o, rfl, hB, fun j u hj => (World.cell?_of_block (a := ⟨g, o + j, none⟩) hk).trans (hc j u hj)⟩⟩
theorem Mid.poke {W w : World} {E : Nat → Prop} {b db x g : Nat} {p pr : Pr.Pt} {q : Pr.Dr} {d : Dk.St} (h : Mid W w E b db x g p pr q d) {B : Nat} (hB : E B) (hW : W.heap.size ≤ B) (j : Nat) (v : Value) : Mid W (w.setCell ⟨B, j, none⟩ v) E b db x g p pr q d := by
  obtain ⟨S, Sd, U, T, BB, D, low, L, M, h, hE⟩ := h
  obtain ⟨_, e2, e3⟩ := hE B hB
  have hf : Fr (oneB B) w (w.setCell ⟨B, j, none⟩ v) := (Fr.refl _ _).put _
  refine ⟨S, Sd, U, T, BB, D, low, L, M, ⟨⟨h.sys.over.keep hf (fun k hk => ?_), h.sys.news, h.sys.newr, h.sys.below.trans (hf.below h.sys.size fun k hk => ?_)⟩, h.ref.keep hf (fun k hk e => ?_), h.apart⟩, fun k hk => ⟨Nat.lt_of_lt_of_le (hE k hk).1 hf.size, (hE k hk).2⟩⟩
  · have hk : k = B := hk
    subst hk
    exact ⟨e2, fun e => e⟩
  · have hk : k = B := hk
    omega
  · have e : k = B := e
    subst e
    exact e3 hk
theorem PRel.wrote_ {d : Dk.St} {q : Pr.Dr} {N k : Nat} (h : PRel d q N k) (p : Pr.Pt) (i : Int) (t : List UInt8) (hN : p.l.length = N) (hs : p.seq ≤ k + 1) : PRel (Pr.wDk p d i t) (Pr.wDr p q i t) N (k + 1) ∧ (Pr.wTo p i t.length).l.length = N ∧ (Pr.wTo p i t.length).seq ≤ k + 1 + 1 := by
  unfold Pr.wDk Pr.wDr Pr.wTo
  by_cases he : Pr.wErr p i t.length = 0
  · rw [if_pos he, if_pos he, if_pos he]
    have hb : ¬ (¬ Pr.inP p i ∨ 502 < t.length) := fun e => by unfold Pr.wErr at he; rw [if_pos e] at he; cases he
    have hin : Pr.inP p i := Classical.byContradiction fun e => hb (.inl e)
    have ht5 : t.length ≤ 502 := by
      have : ¬ 502 < t.length := fun e => hb (.inr e)
      omega
    have h1 := hin.1
    have h2 := hin.2
    exact ⟨h.write (by omega) (by omega) ht5, by show (p.l.set _ 3).length = N; rw [List.length_set]; exact hN, by show p.seq ≤ _; omega⟩
  · rw [if_neg he, if_neg he, if_neg he]
    exact ⟨h.more, hN, by omega⟩
set_option maxHeartbeats 800000 in
theorem do_write (W w : World) (b db x g N k : Nat) (h : Both W w b db x g N k) (hk : k ≤ 1000) (n : Int) (t : List UInt8) (ht : t.length ≤ 2000) (A : Option Addr) (l : List Int) (c : Nat) :
    Calls Try.prog 16 #[.agg (stepCells 1 n t A l c), .pointer (some ⟨db, 0, none⟩), .pointer (some ⟨b, 0, none⟩), .pointer (some ⟨x, 0, none⟩)] w (DoPost W db x g N k) := by
  obtain ⟨p, q, d, hm, rel, hN, hs⟩ := h.mid
  have hz := h.below.size
  have hb := boxed_has w 1 n t A l c
  have x0 : (boxed w 1 n t A l c).cell? ⟨w.heap.size, 0, none⟩ = some (.int .i64 1) := hb.cell 0
  have x2 : (boxed w 1 n t A l c).cell? ⟨w.heap.size, 2, none⟩ = some (bstr t) := hb.cell 2
  obtain ⟨cap, w2, hcv, hrd, hb2, hlo⟩ := run_text2 (boxed w 1 n t A l c) t (by omega)
  have hs1 : (boxed w 1 n t A l c).heap.size = w.heap.size + 1 := World.size_alloc _ _
  obtain ⟨B, hB⟩ : ∃ B, B = w.heap.size + 1 := ⟨_, rfl⟩
  rw [hs1, ← hB] at hcv hrd hb2 hlo
  have hbx2 : Has w2 w.heap.size 41 (stepCells 1 n t A l c) := hb.keep (Fr.of_below (w := boxed w 1 n t A l c) (by rw [hs1, ← hB]; exact hb2) noB) (fun e => e)
  have hM2 : Mid W w2 (fun k => k = w.heap.size ∨ k = B) b db x g p p q d := hm.wide (fun k e => by rcases e with rfl | rfl <;> omega) ((boxed_below w 1 n t A l c).trans (hb2.mono (by omega))) (fun k e => by
    rcases e with rfl | rfl
    · exact hbx2.lt
    · exact hlo.lt)
  have HM2 := Lib.hid hM2
  have HD := Lib.hid (fun w' pr h hr => pwrite_full W w' (fun k => k = w.heap.size ∨ k = B) b db x g p pr q d h rel.live (rel.few.more (by omega)) n (some ⟨B, 0, none⟩) t cap hr)
  have HR := Lib.hid (fun w' p' d' h => rwrite_full W w' (fun k => k = w.heap.size ∨ k = B) b db x g p' p q d' h n t (by omega))
  have HREL := Lib.hid (rel.wrote_ p n t hN hs)
  have HBX2 := Lib.hid hbx2
  have HRD := Lib.hid (show Rd w2.drew w2.drew.heap.size (some ⟨B, 0, none⟩) t from hrd.at_block rfl hlo.lt)
  have HLO := Lib.hid hlo
  have HBB := Lib.hid (show W.heap.size ≤ B by omega)
  have HWZ := Lib.hid (show w.heap.size ≠ B by omega)
  clear h hm hb rel hM2 hbx2 hrd hlo hb2 hs1 hN hs hk hB hz
  unfold boxed stepCells bstr at *
  go_enter Try.func16, Try.ntmps16
  go_wp2_with fail
  clear hcv x0 x2
  have y1 : w2.cell? ⟨w.heap.size, 1, none⟩ = some (.int .i64 n) := HBX2.out.cell 1
  have y2 : w2.cell? ⟨w.heap.size, 2, none⟩ = some (.string { data := t.toArray }) := HBX2.out.cell 2
  go_region_held3 (fun w' => w'.cell? ⟨w.heap.size, 1, none⟩ = some (.int .i64 n) ∧ w'.cell? ⟨w.heap.size, 2, none⟩ = some (.string { data := t.toArray })) (first | assumption | exact ⟨y1, y2⟩) (first
    | (go_at_call 22; refine (HD.out _ _ HM2.out.drew HRD.out).mono ?_; rintro e w3 ⟨rfl, hm3⟩; have hx3 := hm3.has (show Has w2.drew w.heap.size _ _ from HBX2.out) (.inl rfl); have z3 : w3.cell? ⟨w.heap.size, 1, none⟩ = some (.int .i64 n) ∧ w3.cell? ⟨w.heap.size, 2, none⟩ = some (.string { data := t.toArray }) := ⟨hx3.cell 1, hx3.cell 2⟩; have HX3 := Lib.hid hx3; have HM3 := Lib.hid hm3; clear hm3 hx3)
    | (go_at_call 50; refine (HR.out _ _ _ HM3.out.1).mono ?_; rintro e w4 ⟨rfl, hm4⟩; have hx4 := hm4.has HX3.out (.inl rfl); have z4 : w4.cell? ⟨w.heap.size, 1, none⟩ = some (.int .i64 n) ∧ w4.cell? ⟨w.heap.size, 2, none⟩ = some (.string { data := t.toArray }) := ⟨hx4.cell 1, hx4.cell 2⟩; have HX4 := Lib.hid hx4; have HM4 := Lib.hid hm4; clear hm4 hx4))
  have hB4 : w4.heap[B]? = w2.heap[B]? := (HM4.out.2 B (.inr rfl)).trans (HM3.out.2 B (.inr rfl))
  have hlo4 := HLO.out.keep hB4
  have hrd4 : Rd w4 w4.heap.size (some ⟨B, 0, none⟩) t := HRD.out.at_block hB4 hlo4.lt
  have hcv := conv_rd w4 _ (some ⟨B, 0, none⟩) t cap hrd4
  unfold bstr at hcv
  have HLO4 := Lib.hid hlo4
  have HMM := Lib.hid HM4.out.1
  rename_i hHeld
  obtain ⟨q1, q2⟩ := hHeld
  clear hB4 hlo4 hrd4 HM3 HM4 HX3 HX4 HD HR HM2 HRD HLO HBX2 z3 z4 y1 y2
  generalize Pr.wErr p n t.length = er at *
  go_wp2_with fail
  clear hcv q1 q2
  go_loopw [18] (fun iv wr => ∃ j : Nat, j ≤ t.length ∧ iv = .int .i64 j ∧ Hid (Loose wr B t.length) ∧ Hid (Mid W wr (fun k => k = w.heap.size ∨ k = B) b db x g (Pr.wTo p n t.length) (Pr.wTo p n t.length) (Pr.wDr p q n t) (Pr.wDk p d n t))) (fun iv _ => t.length - (intOf iv).toNat)
  case atStart => exact ⟨0, by omega, rfl, HLO4, HMM⟩
  case round =>
    rename World => wr
    obtain ⟨j, hj, rfl, HL, HM⟩ := hrel
    by_cases hlt : j < t.length
    · have hlt' : (j : Int) < (t.length : Int) := by omega
      obtain ⟨v, hv⟩ := HL.out.cell hlt
      have hf := HL.out.free hlt
      have HX := Lib.hid (HL.out.set j (.int .u8 238))
      have HY := Lib.hid (HM.out.poke (.inr rfl) HBB.out j (.int .u8 238))
      go_wp2_with fail
      go_roundw
      case rel => exact ⟨j + 1, by omega, rfl, HX, HY⟩
      case measure => simp [intOf]; omega
    · have hlt' : ¬ ((j : Int) < (t.length : Int)) := by omega
      have HB := Lib.hid (Both.of HM.out HREL.out.1 HREL.out.2.1 HREL.out.2.2)
      go_wp2_with fail
      go_ret2
      exact ⟨b, rfl, HB.out⟩
end Go.Proofs.Ythlmjnlakenmoaa
/-
  A step done to both pagers: a page is read, it is said which are used.
-/
namespace Go.Proofs.Ythlmjnlakenmoaa
open Go.RowKit Go.Maps
set_option maxRecDepth 100000

set_option maxHeartbeats 3200000 in
theorem do_read (W w : World) (b db x g N k : Nat) (h : Both W w b db x g N k) (n : Int) (t : List UInt8) (A : Option Addr) (l : List Int) (c : Nat) :
    Calls Try.prog 16 #[.agg (stepCells 5 n t A l c), .pointer (some ⟨db, 0, none⟩), .pointer (some ⟨b, 0, none⟩), .pointer (some ⟨x, 0, none⟩)] w (DoPost W db x g N k) := by
  obtain ⟨S, Sd, U, T, BB, D, low, L, M, p, q, d, hat, rel, hN, hs⟩ := h
  have hz := hat.sys.below.size
  have hb := boxed_has w 5 n t A l c
  have hat1 := hat.next (boxed_below w 5 n t A l c)
  have x0 : (boxed w 5 n t A l c).cell? ⟨w.heap.size, 0, none⟩ = some (.int .i64 5) := hb.cell 0
  have x1 : (boxed w 5 n t A l c).cell? ⟨w.heap.size, 1, none⟩ = some (.int .i64 n) := hb.cell 1
  have HPR := Lib.hid (pread_rel _ W b db x g S Sd U T BB D low L M p q d N k hat1 rel hN n)
  have HAT := Lib.hid hat1
  have HREL := Lib.hid (show PRel d q N (k + 1) ∧ p.l.length = N ∧ p.seq ≤ k + 1 + 1 from ⟨rel.more, hN, by omega⟩)
  have HHB := Lib.hid hb
  have HZ := Lib.hid (show W.heap.size ≤ (boxed w 5 n t A l c).heap.size from Nat.le_trans hz (boxed_below w 5 n t A l c).size)
  clear hat hat1 hb rel hN hs hz
  unfold boxed stepCells bstr at *
  go_enter Try.func16, Try.ntmps16
  go_wp2_with fail
  generalize hw1 : w.alloc (.cells #[.int .i64 5, .int .i64 n, .string { data := t.toArray }, .slice A l.length c] 41) = w1 at *
  clear hw1
  refine HPR.out.mono ?_
  rintro e w2 ⟨A2, c2, rfl, hrd, hb2, hown, hnil⟩
  have hx2 := HHB.out.keep (Fr.of_below hb2 noB) (fun e => e)
  have y1 : w2.cell? ⟨w.heap.size, 1, none⟩ = some (.int .i64 n) := hx2.cell 1
  have HRR := Lib.hid (rread_any w2 x g L M p q (HAT.out.next hb2).ref n)
  have hcv := conv_rd w2 _ A2 (Pr.rdOf p q n).1 c2 hrd
  have hM2 : Mid W w2 (fun k => ∃ o, A2 = some ⟨k, o, none⟩) b db x g p p q d := ⟨S, Sd, U, T, BB, D, low, L, M, HAT.out.next hb2, fun k hk => by
    obtain ⟨o, rfl⟩ := hk
    obtain ⟨t', cs, hh, rfl, hsz, hge⟩ := hown k o rfl
    exact ⟨hh.lt, fun e => by have := HAT.out.sys.over.lt k e; omega, fun e => by have := HAT.out.ref.lt k e; omega⟩⟩
  have hL2 : 0 < (Pr.rdOf p q n).1.length → ∃ ga t' cs, A2 = some ⟨ga, 0, none⟩ ∧ Has w2 ga t' cs ∧ cs.size = (Pr.rdOf p q n).1.length ∧ W.heap.size ≤ ga := fun h0 => by
    obtain ⟨ga, o, e, _, _⟩ := hrd.2 h0
    obtain ⟨t', cs, hh, ho, hsz, hge⟩ := hown ga o e
    subst ho
    exact ⟨ga, t', cs, e, hh, hsz, Nat.le_trans HZ.out hge⟩
  have HM2 := Lib.hid hM2
  have HL2 := Lib.hid hL2
  have hlen : (Pr.rdOf p q n).1.length ≤ 140737488355328 := hrd.1
  clear hrd hb2 hown hnil hx2 hM2 hL2 HPR HAT HHB HZ x0 x1
  generalize Pr.rdOf p q n = rr at *
  unfold bstr at *
  go_wp2_with fail
  refine HRR.out.mono ?_
  rintro e w3 ⟨rfl, rfl⟩
  go_wp2_with fail
  clear hcv y1 HRR
  go_loopw [25] (fun iv wr => ∃ j : Nat, j ≤ rr.1.length ∧ iv = .int .i64 j ∧ Hid (0 < rr.1.length → ∃ ga t' cs, A2 = some ⟨ga, 0, none⟩ ∧ Has wr ga t' cs ∧ cs.size = rr.1.length ∧ W.heap.size ≤ ga) ∧ Hid (Mid W wr (fun k => ∃ o, A2 = some ⟨k, o, none⟩) b db x g p p q d)) (fun iv _ => rr.1.length - (intOf iv).toNat)
  case atStart => exact ⟨0, by omega, rfl, HL2, HM2⟩
  case round =>
    rename World => wr
    obtain ⟨j, hj, rfl, HL, HM⟩ := hrel
    by_cases hlt : j < rr.1.length
    · have hlt' : (j : Int) < (rr.1.length : Int) := by omega
      obtain ⟨ga, t', cs, rfl, hh, hsz, hge⟩ := HL.out (by omega)
      have hjc : j < cs.size := by omega
      have hv : wr.cell? ⟨ga, j, none⟩ = some cs[j] := (hh.cell j).trans (by simp [hjc])
      have hf := hh.free j
      have HX := Lib.hid (show 0 < rr.1.length → ∃ ga' t' cs, some (⟨ga, 0, none⟩ : Addr) = some ⟨ga', 0, none⟩ ∧ Has (wr.setCell ⟨ga, j, none⟩ (.int .u8 221)) ga' t' cs ∧ cs.size = rr.1.length ∧ W.heap.size ≤ ga' from fun _ => ⟨ga, t', _, rfl, hh.set j _, by simpa using hsz, hge⟩)
      have HY := Lib.hid (HM.out.poke (B := ga) ⟨0, rfl⟩ hge j (.int .u8 221))
      clear hh hsz
      go_wp2_with fail
      go_roundw
      case rel => exact ⟨j + 1, by omega, rfl, HX, HY⟩
      case measure => simp [intOf]; omega
    · have hlt' : ¬ ((j : Int) < (rr.1.length : Int)) := by omega
      have HB := Lib.hid (Both.of HM.out HREL.out.1 HREL.out.2.1 HREL.out.2.2)
      go_wp2_with fail
      go_ret2
      exact ⟨b, rfl, HB.out⟩
/-- numbers are laid behind an empty row of one's own -/
theorem run_append_ints (w : World) (ty : TypeId) (E : Nat) (hE : Has w E 3 #[]) (A : Option Addr) (l : List Int) (c : Nat) (hi' : Ints w A l) (hm : l.length ≤ 1000000) :
    ∃ A' c' w', (Builtin.append_ #[39, 39] ty #[.slice (some ⟨E, 0, none⟩) 0 0, .slice A l.length c]).run Try.prog w = .ok (.slice A' l.length c') w' ∧ Ints w' A' l ∧ w.grownBy w' (some E) := by
  obtain ⟨i0, hi, hz0, hz1, hz2⟩ := info_parts inf_i64
  have hown : w.ownsRow 0 3 1 (.slice (some ⟨E, 0, none⟩) 0 0) 0 [] := ⟨rfl, .inr ⟨E, 0, #[], rfl, Nat.zero_le _, hE, Nat.le_refl _, Nat.zero_le _, rfl, rfl⟩⟩
  cases A with
  | none =>
    have h0 : l = [] := by
      cases l with
      | nil => rfl
      | cons a l => obtain ⟨g, o, h, _⟩ := hi'.2 (by simp); cases h
    subst h0
    refine ⟨some ⟨E, 0, none⟩, 0, w, ?_, ⟨by simp, fun h => by simp at h⟩, ⟨rfl, rfl, rfl, Nat.le_refl _, fun _ _ _ => rfl⟩⟩
    simp [Builtin.append_, run_underlying und_ints, sizeOf, typeInfo, hi, Builtin.lenOf, Builtin.firstCells, storeCells]
  | some ad =>
    obtain ⟨v', w', hr, h2, h3, h4, h5⟩ := run_append_own_at (P := Try.prog) w 0 39 ty 3 i0 (.int .i64 0) 1 8 und_ints hi hz0 hz1 hz2 rfl (by omega) _ 0 [] hown ad l.length c (intCells l) (by rw [intCells_len]; omega)
      (fun j u hj => by
        simp only [intCells, List.getElem?_map, Option.map_eq_some_iff] at hj
        obtain ⟨x, hx, rfl⟩ := hj
        have hpos : 0 < l.length := by have := (List.getElem?_eq_some_iff.1 hx).1; omega
        obtain ⟨g, o, h, _, hcell⟩ := hi'.2 hpos
        injection h with h
        subst h
        rw [Addr.add_mid]
        exact hcell j x hx) (fun u hu => by
          simp only [intCells, List.mem_map] at hu
          obtain ⟨x, _, rfl⟩ := hu
          rfl) (by unfold maxLen; omega) (by omega) (Nat.zero_le _)
    rw [Nat.zero_add, List.nil_append] at h2
    obtain ⟨A', c', rfl, hints⟩ := OwnI.form (L := l) h2
    exact ⟨A', c', w', hr, hints (by omega), h3⟩
theorem wpList_append_run {ops : Array Oper} {rest : List Oper} {o : Oper} {a : Act} {w : World} {Q : Exit → Act → World → Prop} (hgd : o.guard = none) (s x : Operand)
    (ho : o.op = .call { callee := .builtin .append, args := #[s, x], argTypes := #[39, 39] }) (v1 v2 : Value) (hs : a.eval s = v1) (hx : a.eval x = v2) (r : Value) (w' : World) (hrun : (Builtin.append_ #[39, 39] o.type #[v1, v2]).run Try.prog w = .ok r w')
    (h : wpList Try.prog ops Q rest (a.put o.dst r) w') : wpList Try.prog ops Q (o :: rest) a w :=
  wpList_plain hgd fun K hK => by
    unfold Oper.wp execOp
    simp only [ho, resolve, invoke, builtin, Sem.run_bind, Sem.run_pure, Result.andThen_ok, List.map_toArray, List.map_cons, List.map_nil, hs, hx, hrun]
    exact hK _ _ h
theorem PRel.used_ {d : Dk.St} {q : Pr.Dr} {N k : Nat} (h : PRel d q N k) (p : Pr.Pt) (l : List Int) (hN : p.l.length = N) (hs : p.seq ≤ k + 1) : PRel d q N (k + 1) ∧ (Pr.uTo p l).l.length = N ∧ (Pr.uTo p l).seq ≤ k + 1 + 1 := by
  refine ⟨h.more, ?_, ?_⟩
  · unfold Pr.uTo; split
    · exact (Pr.usedL_len _ _).trans hN
    · exact hN
  · unfold Pr.uTo; split
    · show p.seq ≤ _; omega
    · omega
set_option maxHeartbeats 1600000 in
theorem do_use (W w : World) (b db x g N k : Nat) (h : Both W w b db x g N k) (n : Int) (t : List UInt8) (A : Option Addr) (l : List Int) (c : Nat) (hl : Ints W A l) (hl1 : l.length ≤ 100) :
    Calls Try.prog 16 #[.agg (stepCells 6 n t A l c), .pointer (some ⟨db, 0, none⟩), .pointer (some ⟨b, 0, none⟩), .pointer (some ⟨x, 0, none⟩)] w (DoPost W db x g N k) := by
  obtain ⟨p, q, d, hm, rel, hN, hs⟩ := h.mid
  have hbw := h.below
  have hb := boxed_has w 6 n t A l c
  have hm1 := hm.boxed 6 n t A l c
  have x0 : (boxed w 6 n t A l c).cell? ⟨w.heap.size, 0, none⟩ = some (.int .i64 6) := hb.cell 0
  have x3 : (boxed w 6 n t A l c).cell? ⟨w.heap.size, 3, none⟩ = some (.slice A l.length c) := hb.cell 3
  have hbe : Below (boxed w 6 n t A l c).heap.size (boxed w 6 n t A l c) ((boxed w 6 n t A l c).alloc (.cells #[] 3)) := (Below.refl _ _).alloc (Nat.le_refl _) _
  have hi1 : Ints ((boxed w 6 n t A l c).alloc (.cells #[] 3)) A l := hl.keep (Fr.of_below (hbw.trans (((boxed_below w 6 n t A l c).mono hbw.size).trans (hbe.mono (Nat.le_trans hbw.size (boxed_below w 6 n t A l c).size)))) noB) (fun _ _ _ e => e)
  obtain ⟨A', c', w3, hap, hi3, hg3⟩ := run_append_ints _ 39 (boxed w 6 n t A l c).heap.size (Has.of_alloc _ 3 #[]) A l c hi1 (by omega)
  have hs1 : (boxed w 6 n t A l c).heap.size = w.heap.size + 1 := World.size_alloc _ _
  have hb3 : Below (boxed w 6 n t A l c).heap.size (boxed w 6 n t A l c) w3 := hbe.trans ((Fr.of_grown hg3 (S := oneB (boxed w 6 n t A l c).heap.size) (fun k hk => by injection hk with hk; exact hk.symm)).below hbe.size (fun k e => Nat.le_of_eq (Eq.symm e)))
  have hm3 := hm1.next hb3
  have hx3 := hb.keep (Fr.of_below hb3 noB) (fun e => e)
  have y3 : w3.cell? ⟨w.heap.size, 3, none⟩ = some (.slice A l.length c) := hx3.cell 3
  have HD := Lib.hid (fun w' pr h hi => puse_full W w' (oneB w.heap.size) b db x g p pr q d h rel.live A' l c' hi)
  have HR := Lib.hid (fun w' p' h hi => ruse_full W w' (oneB w.heap.size) b db x g p' p q d h A l c hi)
  have HIA := Lib.hid (fun w' (hb : Below W.heap.size W w') => hl.keep (Fr.of_below hb noB) (fun _ _ _ e => e))
  have HREL := Lib.hid (rel.used_ p l hN hs)
  have HHX := Lib.hid hx3
  have HM3 := Lib.hid hm3
  have HI3 := Lib.hid (show Ints w3.drew A' l from hi3.keep ((Fr.refl noB w3).drew) (fun _ _ _ e => e))
  clear h hm hm1 hb hbe hi1 hg3 hb3 hm3 hx3 rel hN hs hl hi3 hbw
  unfold boxed stepCells bstr at *
  rw [hs1] at hap
  have HAP := Lib.hid hap
  clear hs1 hap
  go_enter Try.func16, Try.ntmps16
  go_wp2_with (at_builtin; refine wpList_append_run rfl _ _ rfl _ _ rfl rfl _ _ HAP.out ?_)
  clear HAP x0 x3
  go_region_held3 (fun w' => w'.cell? ⟨w.heap.size, 3, none⟩ = some (.slice A l.length c)) (first | assumption | exact y3) (first
    | (go_at_call 21; refine (HD.out _ _ HM3.out.drew HI3.out).mono ?_; rintro e w4 ⟨rfl, hm4⟩; have hx4 := hm4.has (show Has w3.drew w.heap.size _ _ from HHX.out) rfl; have z4 : w4.cell? ⟨w.heap.size, 3, none⟩ = some (.slice A l.length c) := hx4.cell 3; have HX4 := Lib.hid hx4; have HM4 := Lib.hid hm4; clear hm4 hx4)
    | (go_at_call 54; refine (HR.out _ _ HM4.out.1 (HIA.out _ HM4.out.1.below)).mono ?_; rintro e w5 ⟨rfl, hm5⟩; have z5 : w5.cell? ⟨w.heap.size, 3, none⟩ = some (.slice A l.length c) := (hm5.has HX4.out rfl).cell 3; have HM5 := Lib.hid hm5; clear hm5))
  have HB := Lib.hid (Both.of HM5.out.1 HREL.out.1 HREL.out.2.1 HREL.out.2.2)
  clear HM5
  generalize Pr.uErr p l = er at *
  go_wp2_with fail
  go_ret2
  exact ⟨b, rfl, HB.out⟩
end Go.Proofs.Ythlmjnlakenmoaa
/-
  A step done to both pagers: it is opened again, or formatted.
-/
namespace Go.Proofs.Ythlmjnlakenmoaa
open Go.RowKit Go.Maps
set_option maxRecDepth 100000

def assigned (w : World) (x g L : Nat) (p : Pr.Pt) : World := (((w.setCell ⟨x, 0, none⟩ (.pointer (some ⟨g, 0, none⟩))).setCell ⟨x, 1, none⟩ (.slice (some ⟨L, 0, none⟩) p.l.length p.l.length)).setCell ⟨x, 2, none⟩ (.int .i64 (p.seq : Int))).setCell ⟨x, 3, none⟩ (.int .i64 (p.root : Int))
theorem assigned_fr (w : World) (x g L : Nat) (p : Pr.Pt) : Fr (oneB x) w (assigned w x g L p) := ((((Fr.refl _ _).put _).put _).put _).put _
/-- one pager is another one from now on -/
theorem RPg.assigned {w : World} {x x' g L0 L M : Nat} {p0 p : Pr.Pt} {q : Pr.Dr} (hx : Has w x 90 (rpagerCells g L0 p0)) (h : RPg w x' g L M p q) : RPg (assigned w x g L p) x g L M p q := by
  have hf := assigned_fr w x g L p
  have n1 : L ≠ x := fun e => (hx.apart h.st (by decide)) e.symm
  have n2 : g ≠ x := fun e => (hx.apart h.dk.box (by decide)) e.symm
  have n3 : M ≠ x := fun e => (hx.ne_texts h.dk.txt) e.symm
  exact ⟨h.ok, (((hx.set 0 _).set 1 _).set 2 _).set 3 _, h.st.keep hf (fun e => n1 e), h.dk.keep hf (fun e => n2 e) (fun e => n3 e)⟩
set_option maxHeartbeats 1600000 in
theorem do_open (W w : World) (b db x g N k : Nat) (h : Both W w b db x g N k) (hk : k ≤ 1000) (n : Int) (t : List UInt8) (A : Option Addr) (l : List Int) (c : Nat) :
    Calls Try.prog 16 #[.agg (stepCells 7 n t A l c), .pointer (some ⟨db, 0, none⟩), .pointer (some ⟨b, 0, none⟩), .pointer (some ⟨x, 0, none⟩)] w (DoPost W db x g N k) := by
  obtain ⟨S, Sd, U, T, BB, D, low, L, M, p, q, d, hat, rel, hN, hs⟩ := h
  have hb := boxed_has w 7 n t A l c
  have hat1 := hat.next (boxed_below w 7 n t A l c)
  have x0 : (boxed w 7 n t A l c).cell? ⟨w.heap.size, 0, none⟩ = some (.int .i64 7) := hb.cell 0
  obtain ⟨s, r, hmt, hsel, hsk, hr⟩ := rel.found hk
  have hN3 : 3 ≤ N := by rw [← hN]; exact hat.sys.over.lies.ok.some_
  have HOP := Lib.hid (open_some (boxed w 7 n t A l c) Sd noB db d hat1.sys.over.disk rel.live.dead rel.long s r hmt)
  have HRO := Lib.hid (fun w' (h : RDk w' g M N q) => ropen_ok w' g M N q h hN3 rel.top s r hsel (by omega) hr)
  have HAT := Lib.hid hat1
  have HREL := Lib.hid (show PRel d q N (k + 1) ∧ (Pr.opened N s r).l.length = N ∧ (Pr.opened N s r).seq ≤ k + 1 + 1 from ⟨rel.more, Pr.opened_len hN3, by show s ≤ _; omega⟩)
  have HLEN := Lib.hid rel.len
  have HNN := Lib.hid hN
  clear hat hat1 hb rel hN hs hk hmt hsel hsk hr hN3
  unfold boxed stepCells bstr at *
  generalize hw1 : w.alloc (.cells #[.int .i64 7, .int .i64 n, .string { data := t.toArray }, .slice A l.length c] 41) = w1 at *
  have HW1 := Lib.hid hw1
  clear hw1
  go_enter Try.func16, Try.ntmps16
  go_wp2_with fail
  rw [HW1.out]
  go_wp2_with fail
  refine HOP.out.mono ?_
  rintro e w2 ⟨b', S', rfl, hp, hb2, hs'⟩
  rw [← HLEN.out] at hp
  obtain ⟨Sd', U', T', B', D', low', y2⟩ := HAT.out.sys.sys.pager hp (Fr.of_below hb2 Sd) hs'
  have hat2 := HAT.out.pg y2 (Fr.of_below hb2 S) (fun k hk => (hs' k hk).imp (fun e => (HAT.out.sys.over.own k).2 (.inl e)) id)
  have d0 := hat2.ref.cells.c0
  have HR2 := Lib.hid (HRO.out w2 (by have := hat2.ref.dk; rwa [HNN.out] at this))
  have HAT2 := Lib.hid hat2
  clear hp hb2 hs' y2 hat2 HOP HRO HAT HW1 x0
  go_wp2_with fail
  refine HR2.out.mono ?_
  rintro e w3 ⟨x', L', rfl, hr3, hb3, hx', hL'⟩
  have hat3 := HAT2.out.next hb3
  have e0 := hr3.cells.c0
  have e1 := hr3.cells.c1
  have e2 := hr3.cells.c2
  have e3 := hr3.cells.c3
  have f0 := hat3.ref.cells.c0
  have f1 := hat3.ref.cells.c1
  have f2 := hat3.ref.cells.c2
  have f3 := hat3.ref.cells.c3
  have z0 := hat3.ref.box.free 0
  have z1 := hat3.ref.box.free 1
  have z2 := hat3.ref.box.free 2
  have z3 := hat3.ref.box.free 3
  have hfin : Both W (assigned w3 x g L' (Pr.opened N s r)) b' db x g N (k + 1) := by
    refine Both.of (E := noB) ⟨_, _, _, _, _, _, _, _, _, (HAT2.out.rf (RPg.assigned hat3.ref.box hr3) ((Fr.of_below hb3 _).trans (assigned_fr _ _ _ _ _ |>.wide (fun k _ e => .inl e)) (fun _ _ e => e)) (.inr hL')), fun _ e => e.elim⟩ HREL.out.1 HREL.out.2.1 HREL.out.2.2
  have HFIN := Lib.hid hfin
  clear hr3 hb3 hx' hL' hat3 hfin HAT2 HR2 d0
  unfold assigned at HFIN
  generalize (Pr.opened N s r).l.length = ln at *
  generalize (Pr.opened N s r).seq = sq at *
  generalize hrt : (Pr.opened N s r).root = rt at *
  have hrt' : rt = r := hrt.symm
  subst hrt'
  clear hrt
  go_wp2_with fail
  go_ret2
  exact ⟨b', rfl, HFIN.out⟩
set_option maxHeartbeats 1600000 in
theorem do_format (W w : World) (b db x g N k : Nat) (h : Both W w b db x g N k) (hk : k ≤ 1000) (kind n : Int) (h0 : ¬ kind = 0) (h1 : ¬ kind = 1) (h2 : ¬ kind = 2) (h4 : ¬ kind = 4) (h5 : ¬ kind = 5) (h6 : ¬ kind = 6) (h7 : ¬ kind = 7) (t : List UInt8) (A : Option Addr) (l : List Int) (c : Nat) :
    Calls Try.prog 16 #[.agg (stepCells kind n t A l c), .pointer (some ⟨db, 0, none⟩), .pointer (some ⟨b, 0, none⟩), .pointer (some ⟨x, 0, none⟩)] w (DoPost W db x g N k) := by
  obtain ⟨S, Sd, U, T, BB, D, low, L, M, p, q, d, hat, rel, hN, hs⟩ := h
  have hb := boxed_has w kind n t A l c
  have hat1 := hat.next (boxed_below w kind n t A l c)
  have x0 : (boxed w kind n t A l c).cell? ⟨w.heap.size, 0, none⟩ = some (.int .i64 kind) := hb.cell 0
  have hN3 : 3 ≤ N := by rw [← hN]; exact hat.sys.over.lies.ok.some_
  have hfm := format_ok (boxed w kind n t A l c) Sd noB db d hat1.sys.over.disk rel.live.dead (rel.few.more (by omega)) rel.long
  unfold FmtPost at hfm
  rw [(live_format rel.live rel.long).1.dead, ← rel.len] at hfm
  have HFM := Lib.hid hfm
  have HRO := Lib.hid (fun w' (h : RDk w' g M N q) => rformat_ok w' g M N q h hN3 rel.top)
  have HAT := Lib.hid hat1
  have HREL := Lib.hid (show PRel d.format ⟨q.f, 1, 0, 0, 0⟩ N (k + 1) ∧ (List.replicate N 0).length = N from ⟨rel.fmt, List.length_replicate⟩)
  have HNN := Lib.hid hN
  clear hat hat1 hb rel hN hs hk hN3 hfm
  unfold boxed stepCells bstr at *
  generalize hw1 : w.alloc (.cells #[.int .i64 kind, .int .i64 n, .string { data := t.toArray }, .slice A l.length c] 41) = w1 at *
  have HW1 := Lib.hid hw1
  clear hw1
  go_enter Try.func16, Try.ntmps16
  go_wp2_with fail
  rw [HW1.out]
  go_wp2_with fail
  refine HFM.out.mono ?_
  rintro e w2 (⟨hdd, _⟩ | ⟨_, b', S', rfl, hp, hf2, hs'⟩)
  · cases hdd
  obtain ⟨Sd', U', T', B', D', low', y2⟩ := HAT.out.sys.sys.pager hp hf2 hs'
  have hSS : ∀ k, Sd k → S k := fun k e => (HAT.out.sys.over.own k).2 (.inl e)
  have hat2 := HAT.out.pg y2 (hf2.wide (fun k _ e => hSS k e)) (fun k hk => (hs' k hk).imp (hSS k) id)
  have d0 := hat2.ref.cells.c0
  have HR2 := Lib.hid (HRO.out w2 (by have := hat2.ref.dk; rwa [HNN.out] at this))
  have HAT2 := Lib.hid hat2
  clear hp hf2 hs' y2 hat2 hSS HFM HRO HAT HW1 x0 h0 h1 h2 h4 h5 h6 h7
  go_wp2_with fail
  refine HR2.out.mono ?_
  rintro e w3 ⟨x', L', rfl, hr3, hf3, hx', hL'⟩
  have hne := HAT2.out.ref.ne
  have hfx3 := HAT2.out.ref.box.keep hf3 (fun e => hne.1.1 e)
  have e0 := hr3.cells.c0
  have e1 := hr3.cells.c1
  have e2 := hr3.cells.c2
  have e3 := hr3.cells.c3
  have f0 : w3.cell? ⟨x, 0, none⟩ = some (.pointer (some ⟨g, 0, none⟩)) := hfx3.cell 0
  have f1 : w3.cell? ⟨x, 1, none⟩ = some (.slice (some ⟨L, 0, none⟩) p.l.length p.l.length) := hfx3.cell 1
  have f2 : w3.cell? ⟨x, 2, none⟩ = some (.int .i64 (p.seq : Int)) := hfx3.cell 2
  have f3 : w3.cell? ⟨x, 3, none⟩ = some (.int .i64 (p.root : Int)) := hfx3.cell 3
  have z0 := hfx3.free 0
  have z1 := hfx3.free 1
  have z2 := hfx3.free 2
  have z3 := hfx3.free 3
  have hfin : Both W (assigned w3 x g L' ⟨List.replicate N 0, 1, 0⟩) b' db x g N (k + 1) := by
    refine Both.of (E := noB) ⟨_, _, _, _, _, _, _, _, _, (HAT2.out.rf (RPg.assigned hfx3 hr3) ((hf3.wide (fun k _ e => .inr (.inl e))).trans (assigned_fr _ _ _ _ _ |>.wide (fun k _ e => .inl e)) (fun _ _ e => e)) (.inr hL')), fun _ e => e.elim⟩ HREL.out.1 HREL.out.2 (by show 1 ≤ _; omega)
  have HFIN := Lib.hid hfin
  dsimp only at e1 e2 e3
  clear hr3 hf3 hx' hL' hfx3 hfin HAT2 HR2 d0 hne
  unfold assigned at HFIN
  dsimp only at HFIN
  generalize (List.replicate N 0).length = ln at *
  go_wp2_with fail
  go_ret2
  exact ⟨b', rfl, HFIN.out⟩
end Go.Proofs.Ythlmjnlakenmoaa

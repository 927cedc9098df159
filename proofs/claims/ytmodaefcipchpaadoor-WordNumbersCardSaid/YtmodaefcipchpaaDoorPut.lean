/-
  What Quote puts behind its text: the closure 'put', by its own contract.
-/
import Derived.Test.YtmodaefcipchpaaDoorName
import Derived.Test.YtmodaefcipchpaaDoorConv
namespace Go.Proofs.YtmodaefcipchpaaDoor
open Go.RowKit

/-- below B all but the block T is as it was -/
structure KeptBut (B T : Nat) (w w' : World) : Prop where
  os : w'.os = w.os
  tape : w'.tape = w.tape
  output : w'.output = w.output
  size : w.heap.size ≤ w'.heap.size
  block : ∀ k, k < B → k ≠ T → w'.heap[k]? = w.heap[k]?

theorem KeptBut.refl (B T : Nat) (w : World) : KeptBut B T w w := ⟨rfl, rfl, rfl, Nat.le_refl _, fun _ _ _ => rfl⟩
theorem KeptBut.trans {B T : Nat} {a b c : World} (h : KeptBut B T a b) (k : KeptBut B T b c) : KeptBut B T a c :=
  ⟨k.os.trans h.os, k.tape.trans h.tape, k.output.trans h.output, Nat.le_trans h.size k.size, fun i hi hn => (k.block i hi hn).trans (h.block i hi hn)⟩
theorem KeptBut.alloc {B T : Nat} {a w : World} (h : KeptBut B T a w) (hB : B ≤ w.heap.size) (o : Obj) : KeptBut B T a (w.alloc o) :=
  ⟨h.os, h.tape, h.output, Nat.le_trans h.size (by show w.heap.size ≤ (w.heap.push o).size; simp), fun i hi hn => (Below.heap_alloc w o i (by omega)).trans (h.block i hi hn)⟩
theorem KeptBut.drewN {B T : Nat} {a w : World} (h : KeptBut B T a w) (n : Nat) : KeptBut B T a (w.drewN n) := ⟨h.os, h.tape, h.output, h.size, h.block⟩

/-- what the text's variable T holds: a slice of the call's own of these bytes -/
def Holds (w : World) (T B : Nat) (l : List Int) : Prop :=
  ∃ v, w.heap[T]? = some (.cells #[v] 48 (0, 0)) ∧ w.ownsRow B 5 1 v l.length (l.map (Value.int .u8))

theorem Holds.alloc {w : World} {T B : Nat} {l : List Int} (h : Holds w T B l) (o : Obj) : Holds (w.alloc o) T B l := by
  obtain ⟨v, h1, h2⟩ := h
  exact ⟨v, (Below.heap_alloc w o T (lt_of_block h1)).trans h1, h2.alloc o⟩
theorem Holds.drewN {w : World} {T B : Nat} {l : List Int} (h : Holds w T B l) (n : Nat) : Holds (w.drewN n) T B l := h

/-- the walk's end -/
def Put (w : World) (T B : Nat) (l : List Int) (e : Ending) (w' : World) : Prop := e = .returned (.tuple #[]) ∧ Holds w' T B l ∧ KeptBut B T w w'

theorem info8 : (Tryd.prog.info? 5).map (fun i => (i.zero, i.size, i.bytes)) = some (some (.int .u8 0), 1, 1) := by kernel_rfl

/-- the row's block is none of another tag -/
theorem owns_other {w : World} {B : Nat} {v : Value} {n T : Nat} {xs : List Value} {c : Array Value} (h : w.ownsRow B 5 1 v n xs) (hT : w.heap[T]? = some (.cells c 48 (0, 0))) : v.ownBlock ≠ some T := by
  intro e
  rcases h.2 with ⟨rfl, -⟩ | ⟨g, cap, cur, rfl, -, hh, -⟩
  · simp [Value.ownBlock] at e
  · simp only [Value.ownBlock, Option.some.injEq] at e
    subst e
    rw [hh] at hT
    simp at hT

theorem put_end (w w1 : World) (T B n m : Nat) (v v' : Value) (l news : List Int) (hT1 : w1.heap[T]? = some (.cells #[v] 48 (0, 0))) (hn : l.length = n) (hm : news.length = m)
    (hsz : B ≤ w.heap.size) (hvB : ∀ k, v.ownBlock = some k → B ≤ k)
    (hown : w1.ownsRow B 5 1 v' (n + m) ((l ++ news).map (Value.int .u8))) (hg : w.grownBy w1 v.ownBlock) :
    Holds (w1.setCell ⟨T, 0, none⟩ v') T B (l ++ news) ∧ KeptBut B T w (w1.setCell ⟨T, 0, none⟩ v') := by
  refine ⟨⟨v', one_setCell hT1, ?_⟩, ?_⟩
  · have := ownsRow_setCell_other hown (a := ⟨T, 0, none⟩) (owns_other hown hT1) v'
    rw [List.length_append, hn, hm]; exact this
  · refine ⟨hg.os, hg.tape, hg.output, by simpa using hg.size, fun k hk hne => ?_⟩
    rw [Below.heap_setCell _ _ _ _ (fun e => hne e)]
    exact hg.block k (by omega) (fun e => by have := hvB k e.symm; omega)

theorem owns_slice {w : World} {B : Nat} {e : TypeId} {size : Nat} {v : Value} {n : Nat} {xs : List Value} (h : w.ownsRow B e size v n xs) : ∃ a k c, v = .slice a k c := by
  rcases h.2 with ⟨rfl, -⟩ | ⟨g, cap, -, rfl, -⟩
  · exact ⟨_, _, _, rfl⟩
  · exact ⟨_, _, _, rfl⟩

set_option maxHeartbeats 800000 in
set_option maxRecDepth 100000 in
theorem put_any (w : World) (T B pb m c : Nat) (l news : List Int) (h : Holds w T B l) (hB : B ≤ w.heap.size) (hm : news.length = m)
    (hp : ∀ j, j < m → w.cell? ⟨pb, j, none⟩ = some (.int .u8 (news.getD j 0))) (hroom : l.length + m ≤ 70368744177664) :
    Calls Tryd.prog 24 #[.slice (some ⟨pb, 0, none⟩) m c, .pointer (some ⟨T, 0, none⟩)] w (Put w T B (l ++ news)) := by
  obtain ⟨v, hT, hown⟩ := h
  obtain ⟨va, vk, vc, rfl⟩ := owns_slice hown
  obtain ⟨i0, hi, hz0, hz1, hz2⟩ := info_parts info8
  have hc := cell_of_one hT
  have hf := free_of_one hT
  have hvB : ∀ k, (Value.slice va vk vc).ownBlock = some k → B ≤ k := fun k hk => (hown.lt k hk).1
  have hTl := lt_of_block hT
  have hvT := Lib.hid (owns_other hown hT)
  have HT := Lib.hid hT
  have Hp := Lib.hid hp
  have Hm := Lib.hid hm
  clear hT hp hm
  go_enter Tryd.func24, Tryd.ntmps24
  go_wp2_with (first
    | (at_builtin; go_loud (refine wpList_append_own _ rfl (.tmp 3) (.tmp 4) 48 rfl B 5 i0 (.int .u8 0) 1 1 under37 hi hz0 hz1 hz2 rfl (by decide) (.slice va vk vc) l.length _ rfl hown ⟨pb, 0, none⟩ m c (news.map (Value.int .u8)) rfl ?c1 ?c2 ?c3 ?c4 ?c5 hB ?_))
    | fail)
  case c1 => simp [Hm.out]
  case c2 =>
    intro j u hj
    have hadd : (⟨pb, 0, none⟩ : Addr).add j = ⟨pb, j, none⟩ := by unfold Addr.add; split <;> simp_all
    have hjl : j < news.length := by
      rcases Nat.lt_or_ge j news.length with h | h
      · exact h
      · simp [List.getElem?_eq_none (show (news.map (Value.int .u8)).length ≤ j by simpa using h)] at hj
    rw [hadd, Hp.out j (by have := Hm.out; omega)]
    simp [List.getElem?_eq_getElem hjl] at hj
    subst hj
    simp [List.getD, List.getElem?_eq_getElem hjl]
  case c3 => intro u hu; simp only [List.mem_map] at hu; obtain ⟨x, -, rfl⟩ := hu; rfl
  case c4 => unfold maxLen; omega
  case c5 => omega
  intro v' w1 hown1 hg1 _
  obtain ⟨ua, uk, uc, rfl⟩ := owns_slice hown1
  have hT1 : w1.heap[T]? = some (.cells #[.slice va vk vc] 48 (0, 0)) := by
    rw [hg1.block T hTl (fun e => hvT.out e.symm)]; exact HT.out
  have hfin := put_end w w1 T B l.length m _ _ l news hT1 rfl Hm.out hB hvB (by rw [List.map_append]; exact hown1) hg1
  have Hfin := Lib.hid hfin
  have hc1 := cell_of_one hT1
  have hf1 := free_of_one hT1
  clear hfin hT1 hown1 hg1
  go_wp2_with fail
  go_end0
  exact ⟨rfl, Hfin.out.1, Hfin.out.2⟩

/-- an owned slice of bytes as a string -/
theorem conv_owned (w : World) (B : Nat) (v : Value) (l : List Int) (h : w.ownsRow B 5 1 v l.length (l.map (Value.int .u8))) :
    (convert 48 9 v).run Tryd.prog w = .ok (.string (strOfNums l)) w := by
  rcases h.2 with ⟨rfl, hn⟩ | ⟨g, cap, cur, rfl, -, hh, hn, -, hs, ht⟩
  · have : l = [] := List.length_eq_zero_iff.1 hn
    subst this
    exact run_convert_bytes_nil w 48 5 under37 underU8 0 0 9 underStr
  · refine run_convert_bytes_arg w 48 5 under37 underU8 g 0 l.length cap l rfl (fun i hi => ?_) 9 underStr
    have hc := h.cellAt i (by omega)
    rw [Nat.zero_add, hc]
    simp [List.getD, hi]
theorem holds_conv {w : World} {T B : Nat} {l : List Int} (h : Holds w T B l) :
    ∃ a n c, w.heap[T]? = some (.cells #[.slice a n c] 48 (0, 0)) ∧ (convert 48 9 (.slice a n c)).run Tryd.prog w = .ok (.string (strOfNums l)) w := by
  obtain ⟨v, hT, hown⟩ := h
  obtain ⟨a, n, c, rfl⟩ := owns_slice hown
  exact ⟨a, n, c, hT, conv_owned w B _ l hown⟩
/-- a row of the call's own is kept where only new blocks are made -/
theorem ownsRow_below {w w' : World} {B : Nat} {e : TypeId} {size : Nat} {v : Value} {n : Nat} {xs : List Value} (h : w.ownsRow B e size v n xs) (hb : Below w.heap.size w w') : w'.ownsRow B e size v n xs := by
  refine ⟨h.1, ?_⟩
  rcases h.2 with h2 | ⟨g, cap, cur, hv, hg, hh, r⟩
  · exact .inl h2
  · exact .inr ⟨g, cap, cur, hv, hg, by rw [hb.block g (lt_of_block hh)]; exact hh, r⟩
end Go.Proofs.YtmodaefcipchpaaDoor

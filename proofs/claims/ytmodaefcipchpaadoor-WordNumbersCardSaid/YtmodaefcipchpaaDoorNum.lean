/-
  What Number and Parse answer: the program's.
-/
import Derived.Test.YtmodaefcipchpaaDoorMathNum
import Derived.Test.YtmodaefcipchpaaDoorShelf
import Derived.Test.YtmodaefcipchpaaDoorName
import Derived.Lib.LaidTab
import Derived.Lib.AtoiErrMem
import Derived.Shelf.Strconv.ErrVarParseInt
namespace Go.Proofs.YtmodaefcipchpaaDoor
open Go.RowKit

/-- the library's table and its two errors lie as its own text lays them -/
structure Laid (w : World) : Prop where
  tab : Lib.TabIs Tryd.prog w "internal/strconv.uint64pow10" .u64 Lib.pow10Tab
  form : ∃ tp p, w.var? Tryd.prog "strconv.ErrSyntax" = some #[.iface tp p]
  range : ∃ tp p, w.var? Tryd.prog "strconv.ErrRange" = some #[.iface tp p]

theorem var_below {P : Program} {w w' : World} {n : String} {cs : Array Value} (hb : Below w.heap.size w w') (h : w.var? P n = some cs) : w'.var? P n = some cs := by
  unfold World.var? at h ⊢
  cases hg : P.globalNamed n with
  | none => rw [hg] at h; simp at h
  | some g =>
    rw [hg] at h
    simp only [Option.bind_some] at h ⊢
    cases hh : w.heap[g]? with
    | none => rw [hh] at h; cases h
    | some o => rw [hb.block g (lt_of_block hh), hh]; rw [hh] at h; exact h
theorem Laid.below {w w' : World} (h : Laid w) (hb : Below w.heap.size w w') : Laid w' := by
  obtain ⟨t1, p1, h1⟩ := h.form
  obtain ⟨t2, p2, h2⟩ := h.range
  exact ⟨var_below hb h.tab, ⟨t1, p1, var_below hb h1⟩, ⟨t2, p2, var_below hb h2⟩⟩

theorem below_grow (w : World) (k : Nat) (os : Array Obj) : Below w.heap.size w (Sort.grow (w.drewN k) os) :=
  ⟨rfl, rfl, rfl, by show w.heap.size ≤ (w.heap ++ os).size; rw [Array.size_append]; omega, fun i hi => by
    show (w.heap ++ os)[i]? = w.heap[i]?
    rw [Array.getElem?_append_left hi]⟩

set_option maxHeartbeats 400000 in
set_option maxRecDepth 100000 in
theorem number_any (n : Int) (w : World) (h0 : -9223372036854775808 ≤ n) (h1 : n ≤ 9223372036854775807) (hL : Laid w) :
    Calls Tryd.prog 9 #[.int .i64 n] w fun e w' => e = .returned (.string ⟨(Lib.itoa n).toArray⟩) ∧ Below w.heap.size w w' := by
  have HL := Lib.hid hL
  clear hL
  go_enter Tryd.func9, Tryd.ntmps9
  go_wp2_with fail
  refine (Tryd.strconv_FormatInt_10 n h0 h1 _ HL.out.tab).mono ?_
  rintro e w' ⟨rfl, k, os, hw⟩
  have Hb := Lib.hid (show Below w.heap.size w w' by rw [hw]; exact below_grow w k os)
  clear hw
  go_wp2_with fail
  go_ret
  exact ⟨rfl, Hb.out⟩

def parseV : Option Int → Value
  | some v => .tuple #[.int .i64 v, .bool true]
  | none => .tuple #[.int .i64 0, .bool false]

theorem parse_err {l : List UInt8} (h : ∀ v, Lib.parseIntB 64 l ≠ .ok v) : Sp.parse l = none := by
  unfold Sp.parse
  cases hp : Lib.parseIntB 64 l
  case ok v => exact absurd hp (h v)
  all_goals rfl

set_option maxHeartbeats 800000 in
set_option maxRecDepth 100000 in
theorem parse_yes (s : ByteArray) (w : World) (hs : s.size ≤ 140737488355328) (hL : Laid w) (v : Int) (hp : Lib.parseIntB 64 s.data.toList = .ok v) :
    Calls Tryd.prog 8 #[.string s] w fun e w' => e = .returned (parseV (Sp.parse s.data.toList)) ∧ Below w.heap.size w w' := by
  obtain ⟨v0, v1⟩ := Sp.parse_bounds _ _ hp
  have hP : Sp.parse s.data.toList = if Lib.itoa v = s.data.toList then some v else none := by unfold Sp.parse; rw [hp]
  have HP := Lib.hid hP
  have Hp := Lib.hid hp
  have HL := Lib.hid hL
  clear hP hp hL
  by_cases he : Lib.itoa v = s.data.toList
  · have Hr : Hid (Sp.parse s.data.toList = some v) := by show _ = _; rw [HP.out, if_pos he]
    have fe : (Lib.itoa v == s.toList) = true := by rw [ByteArray.toList_eq]; exact beq_iff_eq.2 he
    clear he HP
    go_enter Tryd.func8, Tryd.ntmps8
    go_wp2_with fail
    refine (Tryd.strconv_ParseInt_10_at64_ok s (by omega) v Hp.out _).mono ?_
    rintro e w1 ⟨rfl, hw⟩
    have hb1 : Below w.heap.size w w1 := by
      rcases hw with rfl | ⟨t, rfl⟩
      · exact Below.refl _ _
      · exact Lib.bytesWorld_below _ _ _
    have hz1 := hb1.size
    have HL1 := Lib.hid (HL.out.below hb1)
    have Hb1 := Lib.hid hb1
    clear hw hb1
    go_wp2_with fail
    refine (number_any v _ v0 v1 HL1.out).mono ?_
    rintro e w2 ⟨rfl, hb2⟩
    have Hb2 := Lib.hid (Hb1.out.trans (hb2.mono hz1))
    clear hb2
    go_wp2_with fail
    go_ret2
    exact ⟨by rw [Hr.out]; rfl, Hb2.out⟩
  · have Hr : Hid (Sp.parse s.data.toList = none) := by show _ = _; rw [HP.out, if_neg he]
    have fe : (Lib.itoa v == s.toList) = false := by rw [ByteArray.toList_eq]; exact beq_eq_false_iff_ne.2 he
    clear he HP
    go_enter Tryd.func8, Tryd.ntmps8
    go_wp2_with fail
    refine (Tryd.strconv_ParseInt_10_at64_ok s (by omega) v Hp.out _).mono ?_
    rintro e w1 ⟨rfl, hw⟩
    have hb1 : Below w.heap.size w w1 := by
      rcases hw with rfl | ⟨t, rfl⟩
      · exact Below.refl _ _
      · exact Lib.bytesWorld_below _ _ _
    have hz1 := hb1.size
    have HL1 := Lib.hid (HL.out.below hb1)
    have Hb1 := Lib.hid hb1
    clear hw hb1
    go_wp2_with fail
    refine (number_any v _ v0 v1 HL1.out).mono ?_
    rintro e w2 ⟨rfl, hb2⟩
    have Hb2 := Lib.hid (Hb1.out.trans (hb2.mono hz1))
    clear hb2
    go_wp2_with fail
    go_ret2
    exact ⟨by rw [Hr.out]; rfl, Hb2.out⟩

set_option maxHeartbeats 800000 in
set_option maxRecDepth 100000 in
/-- where the library's call tells an error -/
theorem parse_no (s : ByteArray) (w : World) (x : Int) (tp : TypeId)
    (hc : Calls Tryd.prog 18 #[.string s, .int .i64 10, .int .i64 64] w fun e w' => ∃ N, e = .returned (.tuple #[.int .i64 x, .iface tp (.pointer (some ⟨N, 0, none⟩))]) ∧ Below w.heap.size w w') :
    Calls Tryd.prog 8 #[.string s] w fun e w' => e = .returned (parseV none) ∧ Below w.heap.size w w' := by
  have Hc := Lib.hid hc
  clear hc
  go_enter Tryd.func8, Tryd.ntmps8
  go_wp2_with fail
  refine Hc.out.mono ?_
  rintro e w1 ⟨N, rfl, hb1⟩
  have Hb1 := Lib.hid hb1
  clear hb1
  go_wp2_with fail
  go_ret2
  exact ⟨rfl, Hb1.out⟩

theorem parse_any (s : ByteArray) (w : World) (hs : s.size ≤ 140737488355328) (hL : Laid w) :
    Calls Tryd.prog 8 #[.string s] w fun e w' => e = .returned (parseV (Sp.parse s.data.toList)) ∧ Below w.heap.size w w' := by
  obtain ⟨t1, p1, h1⟩ := hL.form
  obtain ⟨t2, p2, h2⟩ := hL.range
  cases hp : Lib.parseIntB 64 s.data.toList
  case ok v => exact parse_yes s w hs hL v hp
  · rw [parse_err (fun v hv => by rw [hp] at hv; cases hv)]
    exact parse_no s w _ _ ((Any.strconv_ParseInt_10_at64_syntax_var Tryd.laysC174 s (by omega) hp t1 p1 w h1).mono fun _ _ ⟨N, he, _, _, hb⟩ => ⟨N, he, hb⟩)
  · rw [parse_err (fun v hv => by rw [hp] at hv; cases hv)]
    exact parse_no s w _ _ ((Any.strconv_ParseInt_10_at64_range_var Tryd.laysC174 s (by omega) hp t2 p2 w h2).mono fun _ _ ⟨N, he, _, _, hb⟩ => ⟨N, he, hb⟩)
end Go.Proofs.YtmodaefcipchpaaDoor

/-
  Read of a pager.
-/
import Derived.Test.YthlmjnlakenmoaaPAsk
import Derived.Test.YthlmjnlakenmoaaPGet
namespace Go.Proofs.Ythlmjnlakenmoaa
open Go.RowKit Go.Maps
set_option maxRecDepth 100000

theorem pread_nil (w : World) (i : Int) : Calls Try.prog 18 #[.pointer none, .int .i64 i] w fun e w' => e = .returned (.tuple #[.slice none 0 0, .int .i64 2]) ∧ w = w' := by
  go_enter Try.func18, Try.ntmps18
  go_wp2_with fail
  refine (prefuse_nil _).mono ?_
  rintro e w' ⟨rfl, rfl⟩
  go_wp2_with fail
  go_ret2
  exact ⟨rfl, rfl⟩
theorem pread_dead (w : World) (b db : Nat) (i : Int) (hp : w.cell? ⟨b, 0, none⟩ = some (.pointer (some ⟨db, 0, none⟩))) (hd : w.cell? ⟨db, 4, none⟩ = some (.bool true)) : Calls Try.prog 18 #[.pointer (some ⟨b, 0, none⟩), .int .i64 i] w fun e w' => e = .returned (.tuple #[.slice none 0 0, .int .i64 20]) ∧ w = w' := by
  have hr := prefuse_any w b db true hp hd
  rw [if_pos rfl] at hr
  have HR := Lib.hid hr
  clear hr hp hd
  go_enter Try.func18, Try.ntmps18
  go_wp2_with fail
  refine HR.out.mono ?_
  rintro e w' ⟨rfl, rfl⟩
  go_wp2_with fail
  go_ret2
  exact ⟨rfl, rfl⟩
/-- what each call of a pager asks first -/
theorem Over.refuse {w : World} {S Sd R : Nat → Prop} {b db U T B D low : Nat} {p : Pr.Pt} {d : Dk.St} (h : Over w S Sd R b db U T B D low p d) (hdead : d.dead = false) :
    Calls Try.prog 42 #[.pointer (some ⟨b, 0, none⟩)] w fun e w' => e = .returned (.int .i64 0) ∧ w = w' := by
  have := prefuse_any w b db false h.lies.cells.c0 (by rw [← hdead]; exact (disk_cells h.disk).2)
  rw [if_neg (by simp)] at this
  exact this
theorem Over.has {w : World} {S Sd R : Nat → Prop} {b db U T B D low : Nat} {p : Pr.Pt} {d : Dk.St} (h : Over w S Sd R b db U T B D low p d) (i : Int) (x : Bool) (hx : decide (2 ≤ i ∧ i < (p.l.length : Int)) = x) :
    Calls Try.prog 43 #[.pointer (some ⟨b, 0, none⟩), .int .i64 i] w fun e w' => e = .returned (.bool x) ∧ w = w' := by
  have := phas_page w b db d.lasts.length h.disk.ok.most i h.lies.cells.c0 (disk_cells h.disk).1
  rw [← h.len, hx] at this
  exact this
theorem pread_out (w : World) (S Sd R : Nat → Prop) (b db U T B D low : Nat) (p : Pr.Pt) (d : Dk.St) (h : Over w S Sd R b db U T B D low p d) (hdead : d.dead = false) (i : Int) (hi : ¬ (2 ≤ i ∧ i < (p.l.length : Int))) :
    Calls Try.prog 18 #[.pointer (some ⟨b, 0, none⟩), .int .i64 i] w fun e w' => e = .returned (.tuple #[.slice none 0 0, .int .i64 1]) ∧ w = w' := by
  have HR := Lib.hid (h.refuse hdead)
  have HH := Lib.hid (h.has i false (decide_eq_false hi))
  clear h hi
  go_enter Try.func18, Try.ntmps18
  go_wp2_with fail
  refine HR.out.mono ?_
  rintro e w' ⟨rfl, rfl⟩
  go_wp2_with fail
  refine HH.out.mono ?_
  rintro e w' ⟨rfl, rfl⟩
  go_wp2_with fail
  go_ret2
  exact ⟨rfl, rfl⟩
theorem pread_free (w : World) (S Sd R : Nat → Prop) (b db U T B D low : Nat) (p : Pr.Pt) (d : Dk.St) (h : Over w S Sd R b db U T B D low p d) (hdead : d.dead = false) (n : Nat) (hn2 : 2 ≤ n) (hn : n < p.l.length) (hf : Pr.stp Pr.isF p.l n = true) :
    Calls Try.prog 18 #[.pointer (some ⟨b, 0, none⟩), .int .i64 (n : Int)] w fun e w' => e = .returned (.tuple #[.slice none 0 0, .int .i64 250]) ∧ Below w.heap.size w w' := by
  have HR := Lib.hid (h.refuse hdead)
  have HH := Lib.hid (h.has n true (decide_eq_true (by omega)))
  have hif := isfree_any w b db U T B D low p h.lies n hn
  rw [hf] at hif
  have HF := Lib.hid hif
  clear h hf hif
  go_enter Try.func18, Try.ntmps18
  go_wp2_with fail
  refine HR.out.mono ?_
  rintro e w' ⟨rfl, rfl⟩
  go_wp2_with fail
  refine HH.out.mono ?_
  rintro e w' ⟨rfl, rfl⟩
  go_wp2_with fail
  refine HF.out.mono ?_
  rintro e w1 ⟨rfl, hb⟩
  have HB := Lib.hid hb
  clear hb
  go_wp2_with fail
  go_ret2
  exact ⟨rfl, HB.out⟩
theorem pread_blank (w : World) (S Sd R : Nat → Prop) (b db U T B D low : Nat) (p : Pr.Pt) (d : Dk.St) (h : Over w S Sd R b db U T B D low p d) (hdead : d.dead = false) (n : Nat) (hn2 : 2 ≤ n) (hn : n < p.l.length) (hf : Pr.stp Pr.isF p.l n = false) (hbl : Pr.stp Pr.isB p.l n = true) :
    Calls Try.prog 18 #[.pointer (some ⟨b, 0, none⟩), .int .i64 (n : Int)] w fun e w' => e = .returned (.tuple #[.slice none 0 0, .int .i64 5]) ∧ Below w.heap.size w w' := by
  have HR := Lib.hid (h.refuse hdead)
  have HH := Lib.hid (h.has n true (decide_eq_true (by omega)))
  have hif := isfree_any w b db U T B D low p h.lies n hn
  rw [hf] at hif
  have HF := Lib.hid hif
  have hm := h.lies.ok.most
  have H := Lib.hid h
  have HBL := Lib.hid hbl
  clear h hf hif hbl
  go_enter Try.func18, Try.ntmps18
  go_wp2_with fail
  refine HR.out.mono ?_
  rintro e w' ⟨rfl, rfl⟩
  go_wp2_with fail
  refine HH.out.mono ?_
  rintro e w' ⟨rfl, rfl⟩
  go_wp2_with fail
  refine HF.out.mono ?_
  rintro e w1 ⟨rfl, hb⟩
  have h1 := H.out.below hb
  have c5 := h1.lies.cells.c5
  have hbk := phas_any w1 B _ _ h1.lies.blank n (by omega)
  rw [HBL.out] at hbk
  have HBK := Lib.hid hbk
  have HB := Lib.hid hb
  clear h1 hbk hb
  go_wp2_with fail
  refine HBK.out.mono ?_
  rintro e w2 ⟨rfl, hb2⟩
  have HB2 := Lib.hid (HB.out.trans (hb2.mono HB.out.size))
  clear hb2
  go_wp2_with fail
  go_ret2
  exact ⟨rfl, HB2.out⟩
/-- what is read in a later world -/
theorem Reads.after {w w1 w' : World} {n : Nat} {l : List UInt8} {e : Ending} (hb : Below w.heap.size w w1) (h : Reads w1 n l e w') : Reads w n l e w' := by
  rcases h with ⟨h1, g, h2, h3, h4, h5⟩ | ⟨h1, h2, h3⟩
  · exact .inl ⟨h1, g, h2, h3, Nat.le_trans hb.size h4, hb.trans (h5.mono hb.size)⟩
  · exact .inr ⟨h1, h2, hb.trans (h3.mono hb.size)⟩
theorem pread_get (w : World) (S Sd R : Nat → Prop) (b db U T B D low : Nat) (p : Pr.Pt) (d : Dk.St) (h : Over w S Sd R b db U T B D low p d) (hdead : d.dead = false) (n : Nat) (hn2 : 2 ≤ n) (hn : n < p.l.length) (hf : Pr.stp Pr.isF p.l n = false) (hbl : Pr.stp Pr.isB p.l n = false) :
    Calls Try.prog 18 #[.pointer (some ⟨b, 0, none⟩), .int .i64 (n : Int)] w (Reads w n (d.page n)) := by
  have HR := Lib.hid (h.refuse hdead)
  have HH := Lib.hid (h.has n true (decide_eq_true (by omega)))
  have hif := isfree_any w b db U T B D low p h.lies n hn
  rw [hf] at hif
  have HF := Lib.hid hif
  have hm := h.lies.ok.most
  have hlen := h.len
  have H := Lib.hid h
  have HBL := Lib.hid hbl
  have HLN := Lib.hid hlen
  clear h hf hif hbl hlen
  go_enter Try.func18, Try.ntmps18
  go_wp2_with fail
  refine HR.out.mono ?_
  rintro e w' ⟨rfl, rfl⟩
  go_wp2_with fail
  refine HH.out.mono ?_
  rintro e w' ⟨rfl, rfl⟩
  go_wp2_with fail
  refine HF.out.mono ?_
  rintro e w1 ⟨rfl, hb⟩
  have h1 := H.out.below hb
  have c5 := h1.lies.cells.c5
  have hbk := phas_any w1 B _ _ h1.lies.blank n (by omega)
  rw [HBL.out] at hbk
  have HBK := Lib.hid hbk
  have HB := Lib.hid hb
  clear h1 hbk hb
  go_wp2_with fail
  refine HBK.out.mono ?_
  rintro e w2 ⟨rfl, hb2⟩
  have hB2 := HB.out.trans (hb2.mono HB.out.size)
  have h2 := H.out.below hB2
  have hget := pget_any w2 Sd R b db d h2.disk hdead h2.lies.cells.c0 n (by have := HLN.out; omega)
  have HG := Lib.hid hget
  have HB2 := Lib.hid hB2
  clear hb2 hB2 h2 hget
  go_wp2_with fail
  refine HG.out.mono ?_
  intro e w3 hr
  have hr3 := hr.after HB2.out
  have HR3 := Lib.hid hr3
  rcases hr with ⟨_, g, rfl, _⟩ | ⟨_, rfl, _⟩
  · clear hr3
    go_wp2_with fail
    go_ret2
    exact HR3.out
  · clear hr3
    go_wp2_with fail
    go_ret2
    exact HR3.out
end Go.Proofs.Ythlmjnlakenmoaa

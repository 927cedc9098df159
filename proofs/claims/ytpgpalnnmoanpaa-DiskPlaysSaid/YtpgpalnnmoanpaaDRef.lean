/-
  The disk of the statement's own words, in memory: a struct, a row of sectors, a row of writes; the sectors' bytes lie in blocks that nobody turns.
-/
import Derived.Test.YtpgpalnnmoanpaaDArgs
namespace Go.Proofs.Ytpgpalnnmoanpaa
open Go.RowKit Go.Maps

/-- a sector: a slice of a block of I -/
def SecAt (w : World) (I : Nat → Prop) (v : Value) (s : Dk.Sec) : Prop :=
  ∃ g c, v = .slice (some ⟨g, 0, none⟩) 128 c ∧ (I g ∧ 128 ≤ c) ∧ g < w.heap.size ∧ ∀ j u, (Dk.secCells s)[j]? = some u → w.cell? ⟨g, j, none⟩ = some u
theorem SecAt.keep {w w' : World} {I T : Nat → Prop} {v : Value} {s : Dk.Sec} (h : SecAt w I v s) (f : Fr T w w') (hT : ∀ k, I k → ¬ T k) : SecAt w' I v s := by
  obtain ⟨g, c, rfl, hi, hlt, hc⟩ := h
  refine ⟨g, c, rfl, hi, Nat.lt_of_lt_of_le hlt f.size, fun j u hj => ?_⟩
  rw [World.cell?_of_block (w := w) (f.old g hlt (hT g hi.1))]
  exact hc j u hj
theorem SecAt.mono {w : World} {I J : Nat → Prop} {v : Value} {s : Dk.Sec} (h : SecAt w I v s) (hi : ∀ k, I k → J k) : SecAt w J v s := by
  obtain ⟨g, c, rfl, h1, h2, h3⟩ := h
  exact ⟨g, c, rfl, ⟨hi g h1.1, h1.2⟩, h2, h3⟩
/-- the cells of the writes that wait -/
def rcells (ws : List Dk.Wr) (vs : List Value) : List Value := (ws.zip vs).flatMap fun q => [.int .i64 (q.1.at_ : Int), q.2]
theorem rcells_snoc (ws : List Dk.Wr) (vs : List Value) (h : vs.length = ws.length) (x : Dk.Wr) (v : Value) : rcells (ws ++ [x]) (vs ++ [v]) = rcells ws vs ++ [.int .i64 (x.at_ : Int), v] := by
  simp [rcells, List.zip_append h.symm]
theorem rcells_at (ws : List Dk.Wr) (vs : List Value) (h : vs.length = ws.length) (k : Nat) (hk : k < ws.length) (j : Nat) (hj : j < 2) :
    (rcells ws vs)[k * 2 + j]? = [Value.int .i64 (ws[k].at_ : Int), vs[k]'(by omega)][j]? := by
  have hz : k < (ws.zip vs).length := by rw [List.length_zip, h]; omega
  have := Dk.flat_get (f := fun q : Dk.Wr × Value => [Value.int .i64 (q.1.at_ : Int), q.2]) (l := ws.zip vs) (m := 2) (fun _ _ => rfl) k hz j hj
  rw [List.getElem_zip] at this
  exact this
def refCells (lv wv : Value) (d : Dk.St) (lit : Bool) (left : Nat) (kv : Value) (p : Dk.Pl) : Array Value :=
  #[lv, wv, .int .i64 (d.done : Int), .bool d.dead, .bool lit, .int .i64 (left : Int), kv, .int .i64 p.torn, .int .i64 p.cut]
/-- the disk x by its words; S: the blocks that it owns; I: those of the bytes, that it reads alone. What it has of a fuse is said while it lives. -/
structure RLies (w : World) (S I : Nat → Prop) (x : Nat) (lv wv kv : Value) (ls vs : List Value) (lit : Bool) (left : Nat) (p : Dk.Pl) (d : Dk.St) : Prop where
  ok : d.Ok
  box : Has w x 70 (refCells lv wv d lit left kv p)
  lives : d.dead = false → lit = d.lit ∧ left = d.left ∧ p = d.plan
  lasts : w.ownsRow 0 34 1 lv d.lasts.length ls
  waits : w.ownsRow 0 88 2 wv d.waits.length (rcells d.waits vs)
  vlen : vs.length = d.waits.length
  secs : ∀ (k : Nat) (s : Dk.Sec), d.lasts[k]? = some s → ∃ v : Value, ls[k]? = some v ∧ SecAt w I v s
  wrs : ∀ (k : Nat) (y : Dk.Wr), d.waits[k]? = some y → ∃ v : Value, vs[k]? = some v ∧ SecAt w I v y.says
  kept : KeepAt w I kv p.keep
  own : ∀ k, S k ↔ k = x ∨ lv.ownBlock = some k ∨ wv.ownBlock = some k
  apart : ∀ k, I k → ¬ S k
  low : ∀ k, I k → k < w.heap.size
def RefAt (w : World) (S I : Nat → Prop) (x : Nat) (d : Dk.St) : Prop := ∃ lv wv kv ls vs lit left p, RLies w S I x lv wv kv ls vs lit left p d
section
variable {w w' : World} {S I T : Nat → Prop} {x : Nat} {lv wv kv : Value} {ls vs : List Value} {lit : Bool} {left : Nat} {p : Dk.Pl} {d : Dk.St}
theorem RLies.keep (h : RLies w S I x lv wv kv ls vs lit left p d) (f : Fr T w w') (hT : ∀ k, T k → ¬ S k ∧ ¬ I k) : RLies w' S I x lv wv kv ls vs lit left p d := by
  have hS : ∀ k, S k → ¬ T k := fun k hk ht => (hT k ht).1 hk
  have hI : ∀ k, I k → ¬ T k := fun k hk ht => (hT k ht).2 hk
  exact { ok := h.ok, box := h.box.keep f (hS _ ((h.own _).2 (.inl rfl))), lives := h.lives,
          lasts := ownsRow_keep h.lasts f (fun k hk => hS k ((h.own _).2 (.inr (.inl hk)))), waits := ownsRow_keep h.waits f (fun k hk => hS k ((h.own _).2 (.inr (.inr hk)))), vlen := h.vlen,
          secs := fun k s hk => by obtain ⟨v, h1, h2⟩ := h.secs k s hk; exact ⟨v, h1, h2.keep f hI⟩
          wrs := fun k s hk => by obtain ⟨v, h1, h2⟩ := h.wrs k s hk; exact ⟨v, h1, h2.keep f hI⟩
          kept := h.kept.keep f hI, own := h.own, apart := h.apart, low := fun k hk => Nat.lt_of_lt_of_le (h.low k hk) f.size }
theorem RefAt.keep (h : RefAt w S I x d) (f : Fr T w w') (hT : ∀ k, T k → ¬ S k ∧ ¬ I k) : RefAt w' S I x d := by
  obtain ⟨lv, wv, kv, ls, vs, lit, left, p, h⟩ := h
  exact ⟨lv, wv, kv, ls, vs, lit, left, p, h.keep f hT⟩
theorem RLies.lt (h : RLies w S I x lv wv kv ls vs lit left p d) (k : Nat) (hk : S k) : k < w.heap.size := by
  rcases (h.own k).1 hk with rfl | h' | h'
  · exact h.box.lt
  · exact ownsRow_lt h.lasts _ h'
  · exact ownsRow_lt h.waits _ h'
theorem RLies.c0 (h : RLies w S I x lv wv kv ls vs lit left p d) : w.cell? ⟨x, 0, none⟩ = some lv := h.box.cell 0
theorem RLies.c1 (h : RLies w S I x lv wv kv ls vs lit left p d) : w.cell? ⟨x, 1, none⟩ = some wv := h.box.cell 1
theorem RLies.c2 (h : RLies w S I x lv wv kv ls vs lit left p d) : w.cell? ⟨x, 2, none⟩ = some (.int .i64 (d.done : Int)) := h.box.cell 2
theorem RLies.c3 (h : RLies w S I x lv wv kv ls vs lit left p d) : w.cell? ⟨x, 3, none⟩ = some (.bool d.dead) := h.box.cell 3
theorem RLies.c4 (h : RLies w S I x lv wv kv ls vs lit left p d) : w.cell? ⟨x, 4, none⟩ = some (.bool lit) := h.box.cell 4
theorem RLies.c5 (h : RLies w S I x lv wv kv ls vs lit left p d) : w.cell? ⟨x, 5, none⟩ = some (.int .i64 (left : Int)) := h.box.cell 5
theorem RLies.lform (h : RLies w S I x lv wv kv ls vs lit left p d) : ∃ A c, lv = .slice A d.lasts.length c := by
  rcases h.lasts.2 with ⟨rfl, h0⟩ | ⟨V, cap, cur, rfl, _⟩
  · exact ⟨_, _, by rw [h0]⟩
  · exact ⟨_, _, rfl⟩
theorem RLies.wform (h : RLies w S I x lv wv kv ls vs lit left p d) : ∃ A c, wv = .slice A d.waits.length c := by
  rcases h.waits.2 with ⟨rfl, h0⟩ | ⟨V, cap, cur, rfl, _⟩
  · exact ⟨_, _, by rw [h0]⟩
  · exact ⟨_, _, rfl⟩
end

theorem rlen_any (w : World) (S I : Nat → Prop) (x : Nat) (d : Dk.St) (h : RefAt w S I x d) : Calls Try.prog 34 #[.pointer (some ⟨x, 0, none⟩)] w fun e w' => e = .returned (.int .i64 (d.lasts.length : Int)) ∧ w = w' := by
  obtain ⟨lv, wv, kv, ls, vs, lit, left, p, h⟩ := h
  obtain ⟨A, c, rfl⟩ := h.lform
  have c0 := h.c0
  clear h
  go_enter Try.func34, Try.ntmps34
  go_wp2_with fail
  go_ret
  exact ⟨rfl, rfl⟩
theorem rwaits_any (w : World) (S I : Nat → Prop) (x : Nat) (d : Dk.St) (h : RefAt w S I x d) : Calls Try.prog 35 #[.pointer (some ⟨x, 0, none⟩)] w fun e w' => e = .returned (.int .i64 (d.waits.length : Int)) ∧ w = w' := by
  obtain ⟨lv, wv, kv, ls, vs, lit, left, p, h⟩ := h
  obtain ⟨A, c, rfl⟩ := h.wform
  have c1 := h.c1
  clear h
  go_enter Try.func35, Try.ntmps35
  go_wp2_with fail
  go_ret
  exact ⟨rfl, rfl⟩

/-- the fuse is asked: what it says, and how the struct is left -/
theorem rdue_any (w : World) (x : Nat) (lv wv kv : Value) (d : Dk.St) (p : Dk.Pl) (hb : Has w x 70 (refCells lv wv d d.lit d.left kv p)) (hl : d.left ≤ 9223372036854775807) :
    Calls Try.prog 46 #[.pointer (some ⟨x, 0, none⟩)] w fun e w' => e = .returned (.bool d.due) ∧ Has w' x 70 (refCells lv wv d d.lit (if d.lit then d.left - 1 else d.left) kv p) ∧ Fr (oneB x) w w' ∧ w'.heap.size = w.heap.size := by
  have c4 : w.cell? ⟨x, 4, none⟩ = some (.bool d.lit) := hb.cell 4
  have c5 : w.cell? ⟨x, 5, none⟩ = some (.int .i64 (d.left : Int)) := hb.cell 5
  have hfz : w.frozen? ⟨x, 5, none⟩ = false := hb.free 5
  have H := Lib.hid hb
  clear hb
  cases hlit : d.lit with
  | false =>
    rw [hlit] at c4 H
    have hdue : d.due = false := by simp [Dk.St.due, hlit]
    have Hd := Lib.hid hdue
    clear hdue hlit
    go_enter Try.func46, Try.ntmps46
    go_wp2_with fail
    go_ret
    exact ⟨congrArg (fun q => Ending.returned (Value.bool q)) Hd.out.symm, H.out, Fr.refl _ _, rfl⟩
  | true =>
    rw [hlit] at c4 H
    cases hle : d.left with
    | zero =>
      rw [hle] at c5 H
      have hdue : d.due = true := by simp [Dk.St.due, hlit, hle]
      have Hd := Lib.hid hdue
      clear hdue hlit hle
      go_enter Try.func46, Try.ntmps46
      go_wp2_with fail
      go_ret
      exact ⟨congrArg (fun q => Ending.returned (Value.bool q)) Hd.out.symm, H.out, Fr.refl _ _, rfl⟩
    | succ j =>
      rw [hle] at c5 H hl
      have hdue : d.due = false := by simp [Dk.St.due, hlit, hle]
      have hj : (((j + 1 : Nat) : Int) == 0) = false := by rw [beq_eq_false_iff_ne]; omega
      have hw : wrap64 (((j + 1 : Nat) : Int) - 1) = (j : Int) := by rw [IntWalk.wrap64_in _ ⟨by omega, by omega⟩]; omega
      have Hd := Lib.hid hdue
      have hset := H.out.set 5 (.int .i64 (j : Int))
      have hf := (Fr.refl (oneB x) w).put (i := 5) (.int .i64 (j : Int))
      have Hs := Lib.hid hset
      have Hf := Lib.hid hf
      clear hdue hlit hle hset hf
      generalize ((j + 1 : Nat) : Int) = z at *
      go_enter Try.func46, Try.ntmps46
      go_wp2_with fail
      go_ret
      exact ⟨congrArg (fun q => Ending.returned (Value.bool q)) Hd.out.symm, Hs.out, Hf.out, by simp [World.setCell]⟩
end Go.Proofs.Ytpgpalnnmoanpaa

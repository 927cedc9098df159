/-
  Crash, Fuse, Reopen.
-/
import Derived.Test.YthlmjnlakenmoaaDFlush
namespace Go.Proofs.Ythlmjnlakenmoaa
open Go.RowKit Go.Maps
set_option maxRecDepth 100000

theorem crash_nil (w : World) (pv : Value) (t c : Int) : Calls Try.prog 20 #[.pointer none, .agg #[pv, .int .i64 t, .int .i64 c]] w fun e w' => e = .returned (.int .i64 2) ∧ Below w.heap.size w w' := by
  go_enter Try.func20, Try.ntmps20
  go_wp2_with (go_at_call 58; refine (refuse_nil _).mono ?_; rintro e w' ⟨rfl, rfl⟩)
  go_ret
  exact ⟨rfl, (Below.refl _ _).alloc (Nat.le_refl _) _⟩
theorem crash_dead (w : World) (b : Nat) (pv : Value) (t c : Int) (hc : w.cell? ⟨b, 4, none⟩ = some (.bool true)) : Calls Try.prog 20 #[.pointer (some ⟨b, 0, none⟩), .agg #[pv, .int .i64 t, .int .i64 c]] w fun e w' => e = .returned (.int .i64 20) ∧ Below w.heap.size w w' := by
  have hlt := block_lt_of_cell hc
  have hc1 : (w.alloc (.cells #[pv, .int .i64 t, .int .i64 c] 56)).cell? ⟨b, 4, none⟩ = some (.bool true) := by rw [World.cell?_alloc_lt _ _ _ hlt]; exact hc
  have Hc := Lib.hid hc1
  clear hc hc1
  go_enter Try.func20, Try.ntmps20
  go_wp2_with (go_at_call 58; refine (refuse_any _ _ true Hc.out).mono ?_; rintro e w' ⟨rfl, rfl⟩)
  go_ret
  exact ⟨rfl, (Below.refl _ _).alloc (Nat.le_refl _) _⟩
theorem crash_bad (w : World) (b : Nat) (pv : Value) (t c : Int) (hc : w.cell? ⟨b, 4, none⟩ = some (.bool false)) (h : ¬ (0 ≤ c ∧ c ≤ 128)) : Calls Try.prog 20 #[.pointer (some ⟨b, 0, none⟩), .agg #[pv, .int .i64 t, .int .i64 c]] w fun e w' => e = .returned (.int .i64 1) ∧ Below w.heap.size w w' := by
  have hlt := block_lt_of_cell hc
  have hc1 : (w.alloc (.cells #[pv, .int .i64 t, .int .i64 c] 56)).cell? ⟨b, 4, none⟩ = some (.bool false) := by rw [World.cell?_alloc_lt _ _ _ hlt]; exact hc
  have Hc := Lib.hid hc1
  have hm := mayBe_any (w.alloc (.cells #[pv, .int .i64 t, .int .i64 c] 56)) pv t c
  rw [decide_eq_false h] at hm
  have Hm := Lib.hid hm
  clear hc hc1 hm h
  go_enter Try.func20, Try.ntmps20
  go_wp2_with (first
    | (go_at_call 58; refine (refuse_any _ _ false Hc.out).mono ?_; rintro e w' ⟨rfl, rfl⟩)
    | (go_at_call 59; refine Hm.out.mono ?_; rintro e w2 ⟨rfl, hb⟩; have Hb := Lib.hid hb; clear hb))
  go_ret
  exact ⟨rfl, ((Below.refl w.heap.size w).alloc (Nat.le_refl _) _).trans (Hb.out.mono (by simp))⟩

/-- P2.2: it crashes by the plan -/
theorem crash_ok (w : World) (S R R' : Nat → Prop) (b : Nat) (d : Dk.St) (h : DiskAt w S R b d) (hdead : d.dead = false) (pv : Value) (p : Dk.Pl) (hp : KeepAt w R' pv p.keep) (hp0 : 0 ≤ p.cut) (hp1 : p.cut ≤ 128) (hR : ∀ k, R' k → ¬ S k) (hm : d.waits.length ≤ 1000000) :
    Calls Try.prog 20 #[.pointer (some ⟨b, 0, none⟩), planV pv p] w fun e w' => e = .returned (.int .i64 0) ∧ Goes S noB b (d.crash p) w w' := by
  obtain ⟨L, cap, wv, M, kv, h⟩ := h
  have hc := h.cells.c4
  rw [hdead] at hc
  have hlt := block_lt_of_cell hc
  have hc1 : (w.alloc (.cells #[pv, .int .i64 p.torn, .int .i64 p.cut] 56)).cell? ⟨b, 4, none⟩ = some (.bool false) := by rw [World.cell?_alloc_lt _ _ _ hlt]; exact hc
  have Hc := Lib.hid hc1
  have hmb := mayBe_any (w.alloc (.cells #[pv, .int .i64 p.torn, .int .i64 p.cut] 56)) pv p.torn p.cut
  rw [decide_eq_true ⟨hp0, hp1⟩] at hmb
  have Hm := Lib.hid hmb
  have hN := Has.of_alloc w 56 #[pv, .int .i64 p.torn, .int .i64 p.cut]
  have hf0 : Fr noB w (w.alloc (.cells #[pv, .int .i64 p.torn, .int .i64 p.cut] 56)) := (Fr.refl noB w).alloc _
  have H := Lib.hid h
  have Hp := Lib.hid hp
  have HR := Lib.hid hR
  clear hc hc1 hmb h hp hR hdead
  unfold planV
  generalize hw1 : (w.alloc (.cells #[pv, .int .i64 p.torn, .int .i64 p.cut] 56)) = w1 at *
  have Hw1 := Lib.hid hw1
  have HN := Lib.hid hN
  have Hf0 := Lib.hid hf0
  clear hw1 hN hf0
  go_enter Try.func20, Try.ntmps20
  go_wp2_with fail
  rw [Hw1.out]
  refine (refuse_any _ _ false Hc.out).mono ?_
  rintro e w' ⟨rfl, rfl⟩
  have t0 : w1.cell? ⟨w.heap.size, 0, none⟩ = some pv := HN.out.cell 0
  have t1 : w1.cell? ⟨w.heap.size, 1, none⟩ = some (.int .i64 p.torn) := HN.out.cell 1
  have t2 : w1.cell? ⟨w.heap.size, 2, none⟩ = some (.int .i64 p.cut) := HN.out.cell 2
  go_wp2_with fail
  refine Hm.out.mono ?_
  rintro e w2 ⟨rfl, hb⟩
  have hf2 : Fr noB w w2 := Hf0.out.trans (Fr.of_below hb noB) (fun _ _ h => h)
  have hN2 := HN.out.keep (Fr.of_below hb noB) (fun h => h)
  have u0 : w2.cell? ⟨w.heap.size, 0, none⟩ = some pv := hN2.cell 0
  have u1 : w2.cell? ⟨w.heap.size, 1, none⟩ = some (.int .i64 p.torn) := hN2.cell 1
  have u2 : w2.cell? ⟨w.heap.size, 2, none⟩ = some (.int .i64 p.cut) := hN2.cell 2
  have hcr := crash_any w2 S R R' b L cap wv M kv d (H.out.keep hf2 (fun k hk => hk.elim)) pv p (Hp.out.keep hf2 (fun _ _ h => h)) hp0 hp1 HR.out hm
  unfold planV at hcr
  have Hcr := Lib.hid hcr
  have Hf2 := Lib.hid hf2
  clear t0 t1 t2 hb hf2 hN2 hcr
  go_wp2_with (go_at_call 60; refine Hcr.out.mono ?_; rintro e w3 ⟨rfl, hg⟩; have Hg := Lib.hid hg; clear hg)
  go_ret
  exact ⟨rfl, Goes.after (Hf2.out.wide (fun _ _ h => h.elim)) (fun _ h => .inl h) Hg.out⟩

theorem reopen_nil (w : World) : Calls Try.prog 32 #[.pointer none] w fun e w' => e = .returned (.tuple #[.pointer none, .int .i64 2]) ∧ w = w' := by
  go_enter Try.func32, Try.ntmps32
  go_wp2
  go_ret2
  exact ⟨rfl, rfl⟩
theorem reopen_not (w : World) (b : Nat) (hc : w.cell? ⟨b, 4, none⟩ = some (.bool false)) : Calls Try.prog 32 #[.pointer (some ⟨b, 0, none⟩)] w fun e w' => e = .returned (.tuple #[.pointer none, .int .i64 250]) ∧ w = w' := by
  go_enter Try.func32, Try.ntmps32
  go_wp2
  go_ret2
  exact ⟨rfl, rfl⟩
/-- P2.2: a disk of what lasts -/
theorem reopen_ok (w : World) (S R : Nat → Prop) (b : Nat) (d : Dk.St) (h : DiskAt w S R b d) (hdead : d.dead = true) :
    Calls Try.prog 32 #[.pointer (some ⟨b, 0, none⟩)] w fun e w' => ∃ b' S', e = .returned (.tuple #[ptr b', .int .i64 0]) ∧ DiskAt w' S' noB b' (Dk.fresh d.lasts) ∧ Below w.heap.size w w' ∧ ∀ k, S' k → w.heap.size ≤ k := by
  obtain ⟨L, cap, wv, M, kv, h⟩ := h
  have c4 := h.cells.c4
  have c0 := h.cells.c0
  rw [hdead] at c4
  have hok := h.ok
  have hcl := clone_secs w ⟨L, 0, none⟩ d.lasts.length cap (Dk.secs d.lasts) h.lasts.1 (h.lasts.cells (g := L) rfl) (by have := hok.most; omega) (Dk.secs_one _)
  have Hcl := Lib.hid hcl
  have Hok := Lib.hid hok
  clear h hdead hok hcl
  go_enter Try.func32, Try.ntmps32
  go_wp2_with fail
  refine Hcl.out.mono ?_
  rintro e w1 ⟨L', cap', rfl, ho, hL', hlt, hb⟩
  have hfr := fresh_any w1 L' cap' d.lasts Hok.out.some_ Hok.out.most Hok.out.full ho
  have Hfr := Lib.hid hfr
  have Hb := Lib.hid hb
  have hsz := hb.size
  clear ho hfr hb
  go_wp2_with fail
  refine Hfr.out.mono ?_
  rintro e w2 ⟨b', S', rfl, hd, hb2, hs⟩
  have Hd := Lib.hid hd
  have Hb2 := Lib.hid (Hb.out.trans (hb2.mono hsz))
  have Hs := Lib.hid hs
  clear hd hb2 hs
  go_wp2_with fail
  go_ret2
  refine ⟨b', S', rfl, Hd.out, Hb2.out, fun k hk => ?_⟩
  rcases Hs.out k hk with e | e <;> omega

theorem fuse_nil (w : World) (k : Int) (pv : Value) (t c : Int) : Calls Try.prog 29 #[.pointer none, .int .i64 k, .agg #[pv, .int .i64 t, .int .i64 c]] w fun e w' => e = .returned (.int .i64 2) ∧ Below w.heap.size w w' := by
  go_enter Try.func29, Try.ntmps29
  go_wp2_with (go_at_call 58; refine (refuse_nil _).mono ?_; rintro e w' ⟨rfl, rfl⟩)
  go_ret
  exact ⟨rfl, (Below.refl _ _).alloc (Nat.le_refl _) _⟩
theorem fuse_dead (w : World) (b : Nat) (k : Int) (pv : Value) (t c : Int) (hc : w.cell? ⟨b, 4, none⟩ = some (.bool true)) : Calls Try.prog 29 #[.pointer (some ⟨b, 0, none⟩), .int .i64 k, .agg #[pv, .int .i64 t, .int .i64 c]] w fun e w' => e = .returned (.int .i64 20) ∧ Below w.heap.size w w' := by
  have hlt := block_lt_of_cell hc
  have hc1 : (w.alloc (.cells #[pv, .int .i64 t, .int .i64 c] 56)).cell? ⟨b, 4, none⟩ = some (.bool true) := by rw [World.cell?_alloc_lt _ _ _ hlt]; exact hc
  have Hc := Lib.hid hc1
  clear hc hc1
  go_enter Try.func29, Try.ntmps29
  go_wp2_with (go_at_call 58; refine (refuse_any _ _ true Hc.out).mono ?_; rintro e w' ⟨rfl, rfl⟩)
  go_ret
  exact ⟨rfl, (Below.refl _ _).alloc (Nat.le_refl _) _⟩
theorem fuse_bad (w : World) (b : Nat) (k : Int) (pv : Value) (t c : Int) (hc : w.cell? ⟨b, 4, none⟩ = some (.bool false)) (h : ¬ (0 ≤ c ∧ c ≤ 128) ∨ k < 0) : Calls Try.prog 29 #[.pointer (some ⟨b, 0, none⟩), .int .i64 k, .agg #[pv, .int .i64 t, .int .i64 c]] w fun e w' => e = .returned (.int .i64 1) ∧ Below w.heap.size w w' := by
  have hlt := block_lt_of_cell hc
  have hc1 : (w.alloc (.cells #[pv, .int .i64 t, .int .i64 c] 56)).cell? ⟨b, 4, none⟩ = some (.bool false) := by rw [World.cell?_alloc_lt _ _ _ hlt]; exact hc
  have Hc := Lib.hid hc1
  have hm := mayBe_any (w.alloc (.cells #[pv, .int .i64 t, .int .i64 c] 56)) pv t c
  by_cases h0 : 0 ≤ c ∧ c ≤ 128
  · have hk : k < 0 := by rcases h with h | h; exact absurd h0 h; exact h
    rw [decide_eq_true h0] at hm
    have Hm := Lib.hid hm
    clear hc hc1 hm h h0
    go_enter Try.func29, Try.ntmps29
    go_wp2_with (first
      | (go_at_call 58; refine (refuse_any _ _ false Hc.out).mono ?_; rintro e w' ⟨rfl, rfl⟩)
      | (go_at_call 59; refine Hm.out.mono ?_; rintro e w2 ⟨rfl, hb⟩; have Hb := Lib.hid hb; clear hb))
    go_ret
    exact ⟨rfl, ((Below.refl w.heap.size w).alloc (Nat.le_refl _) _).trans (Hb.out.mono (by simp))⟩
  · rw [decide_eq_false h0] at hm
    have Hm := Lib.hid hm
    clear hc hc1 hm h h0
    go_enter Try.func29, Try.ntmps29
    go_wp2_with (first
      | (go_at_call 58; refine (refuse_any _ _ false Hc.out).mono ?_; rintro e w' ⟨rfl, rfl⟩)
      | (go_at_call 59; refine Hm.out.mono ?_; rintro e w2 ⟨rfl, hb⟩; have Hb := Lib.hid hb; clear hb))
    go_ret
    exact ⟨rfl, ((Below.refl w.heap.size w).alloc (Nat.le_refl _) _).trans (Hb.out.mono (by simp))⟩

/-- what is left of Fuse behind the plan's clone -/
theorem fuse_end {w w3 W : World} {S R : Nat → Prop} {b L cap : Nat} {wv : Value} {M : Nat} {kv kv' : Value} {d : Dk.St} (h : Lies w S R b L cap wv M kv d) (k : Nat) (p : Dk.Pl) (hp0 : 0 ≤ p.cut) (hp1 : p.cut ≤ 128)
    (hf : Fr noB w w3) (hkv : KeepAt W (fun k => w.heap.size ≤ k ∧ k < W.heap.size) kv' p.keep) (hb : Has W b 98 (diskCells (.slice (some ⟨L, 0, none⟩) d.lasts.length cap) wv M (d.fuse k p) kv')) (hW : Fr (fun k => k = b ∨ w.heap.size ≤ k) w3 W) :
    ∃ R', DiskAt W S R' b (d.fuse k p) ∧ Fr (oneB b) w W ∧ ∀ k, R' k → w.heap.size ≤ k := by
  obtain ⟨n1, n2, n3, n4⟩ := h.ne
  have ft : Fr (oneB b) w W := (hf.wide (T := oneB b) (fun _ _ e => e.elim)).trans hW (fun k hk e => by
    rcases e with e | e
    · exact e
    · omega)
  refine ⟨fun k => w.heap.size ≤ k ∧ k < W.heap.size, ⟨L, cap, wv, M, kv', ?_⟩, ft, fun k hk => hk.1⟩
  exact {
    ok := ⟨h.ok.some_, h.ok.most, h.ok.full, h.ok.fullW, hp0, hp1⟩
    box := hb
    lasts := ownsRow_keep h.lasts ft (fun k hk e => by
      have hk : L = k := by simpa [Value.ownBlock] using hk
      exact n1 (hk.trans e).symm)
    waits := ownsRow_keep h.waits ft (fun k hk e => (n4 k hk).1 (Eq.symm e))
    new := h.new.keep ft (fun e => n2 (Eq.symm e))
    kept := hkv
    own := h.own
    apart := fun k hk hs => by have := h.lt k hs; omega
    low := fun k hk => hk.2 }

/-- P2.2: a fuse -/
theorem fuse_ok (w : World) (S R R0 : Nat → Prop) (b : Nat) (d : Dk.St) (h : DiskAt w S R b d) (hdead : d.dead = false) (k : Nat) (hk : k ≤ 9223372036854775807) (pv : Value) (p : Dk.Pl) (hp : KeepAt w R0 pv p.keep) (hp0 : 0 ≤ p.cut) (hp1 : p.cut ≤ 128) :
    Calls Try.prog 29 #[.pointer (some ⟨b, 0, none⟩), .int .i64 k, planV pv p] w fun e w' => e = .returned (.int .i64 0) ∧ ∃ R', DiskAt w' S R' b (d.fuse k p) ∧ Fr (oneB b) w w' ∧ ∀ k, R' k → w.heap.size ≤ k := by
  obtain ⟨L, cap, wv, M, kv, h⟩ := h
  have hc := h.cells.c4
  rw [hdead] at hc
  have hlt : b < w.heap.size := block_lt_of_cell hc
  have hc1 : (w.alloc (.cells #[pv, .int .i64 p.torn, .int .i64 p.cut] 56)).cell? ⟨b, 4, none⟩ = some (.bool false) := by rw [World.cell?_alloc_lt _ _ _ hlt]; exact hc
  have Hc := Lib.hid hc1
  have hmb := mayBe_any (w.alloc (.cells #[pv, .int .i64 p.torn, .int .i64 p.cut] 56)) pv p.torn p.cut
  rw [decide_eq_true ⟨hp0, hp1⟩] at hmb
  have Hm := Lib.hid hmb
  have hN := Has.of_alloc w 56 #[pv, .int .i64 p.torn, .int .i64 p.cut]
  have hf0 : Fr noB w (w.alloc (.cells #[pv, .int .i64 p.torn, .int .i64 p.cut] 56)) := (Fr.refl noB w).alloc _
  have hne : b ≠ w.heap.size := by omega
  have hk0 : (0 : Int) ≤ (k : Int) := by omega
  have H := Lib.hid h
  have Hp := Lib.hid hp
  clear hc hc1 hmb h hp hdead
  unfold planV
  generalize hw1 : (w.alloc (.cells #[pv, .int .i64 p.torn, .int .i64 p.cut] 56)) = w1 at *
  have Hw1 := Lib.hid hw1
  have HN := Lib.hid hN
  have Hf0 := Lib.hid hf0
  clear hw1 hN hf0
  go_enter Try.func29, Try.ntmps29
  go_wp2_with fail
  rw [Hw1.out]
  refine (refuse_any _ _ false Hc.out).mono ?_
  rintro e w' ⟨rfl, rfl⟩
  have t0 : w1.cell? ⟨w.heap.size, 0, none⟩ = some pv := HN.out.cell 0
  have t1 : w1.cell? ⟨w.heap.size, 1, none⟩ = some (.int .i64 p.torn) := HN.out.cell 1
  have t2 : w1.cell? ⟨w.heap.size, 2, none⟩ = some (.int .i64 p.cut) := HN.out.cell 2
  go_wp2_with fail
  refine Hm.out.mono ?_
  rintro e w2 ⟨rfl, hb⟩
  have hf2 : Fr noB w w2 := Hf0.out.trans (Fr.of_below hb noB) (fun _ _ h => h)
  have hN2 := HN.out.keep (Fr.of_below hb noB) (fun h => h)
  have u0 : w2.cell? ⟨w.heap.size, 0, none⟩ = some pv := hN2.cell 0
  have hp2 := Hp.out.keep hf2 (fun _ _ h => h)
  have hb2 := H.out.box.keep hf2 (fun h => h)
  have HN2 := Lib.hid hN2
  have Hp2 := Lib.hid hp2
  have Hb2 := Lib.hid hb2
  have Hf2 := Lib.hid hf2
  have hsz := hf2.size
  clear t0 t1 t2 hb hf2 hN2 hp2 hb2
  go_wp2_with fail
  obtain ⟨A, c, rfl, hlen, hcells⟩ := Hp2.out
  have HC := Lib.hid hcells
  clear hcells
  cases A with
  | none =>
    have hk0' : p.keep = [] := by
      cases hk1 : p.keep with
      | nil => rfl
      | cons x l =>
        have := HC.out (by rw [hk1]; simp)
        obtain ⟨ad, h0, _⟩ := this
        cases h0
    have Hk := Lib.hid hk0'
    clear hk0'
    refine (clone_bools_nil w2 _ c).mono ?_
    rintro e w' ⟨rfl, rfl⟩
    have v0 := HN2.out.set 0 (.slice none 0 0)
    have v1 : (w2.setCell ⟨w.heap.size, 0, none⟩ (.slice none 0 0)).cell? ⟨w.heap.size, 0, none⟩ = some (.slice none 0 0) := v0.cell 0
    have v2 : (w2.setCell ⟨w.heap.size, 0, none⟩ (.slice none 0 0)).cell? ⟨w.heap.size, 1, none⟩ = some (.int .i64 p.torn) := v0.cell 1
    have v3 : (w2.setCell ⟨w.heap.size, 0, none⟩ (.slice none 0 0)).cell? ⟨w.heap.size, 2, none⟩ = some (.int .i64 p.cut) := v0.cell 2
    have z0 : w2.frozen? ⟨w.heap.size, 0, none⟩ = false := HN2.out.free 0
    have hbb := (Hb2.out.far (p := ⟨w.heap.size, 0, none⟩) hne (.slice none 0 0))
    obtain ⟨_, _, _, _, _, e5, e6, e7, e8, e9, efz⟩ := cells_of_has hbb
    have HB := Lib.hid hbb
    clear v0 hbb
    go_wp2_with fail
    go_ret
    have hS : ∀ u : Value, Fr (fun k => k = b ∨ w.heap.size ≤ k) w2 (w2.setCell ⟨w.heap.size, 0, none⟩ u) := fun u => (Fr.refl _ w2).setAt (.inl (.inr (Nat.le_refl _))) u
    refine ⟨rfl, fuse_end H.out k p hp0 hp1 Hf2.out (by rw [Hk.out]; exact KeepAt.nil _ _) (((((HB.out.set 5 _).set 6 _).set 7 _).set 8 _).set 9 _)
      (((((hS _).setAt (.inl (.inl rfl)) _).setAt (.inl (.inl rfl)) _).setAt (.inl (.inl rfl)) _).setAt (.inl (.inl rfl)) _ |>.setAt (.inl (.inl rfl)) _)⟩
  | some ad =>
    have hcb : ∀ j u, (p.keep.map Value.bool)[j]? = some u → w2.cell? (ad.add j) = some u := fun j u hj => by
      rw [List.getElem?_map, Option.map_eq_some_iff] at hj
      obtain ⟨x, hx, rfl⟩ := hj
      have hlt' : j < p.keep.length := (List.getElem?_eq_some_iff.1 hx).1
      obtain ⟨ad', h0, _, _, hcc⟩ := HC.out (by omega)
      injection h0 with h0
      subst h0
      exact hcc j x hx
    have hcl := clone_bools w2 ad p.keep.length c (p.keep.map Value.bool) (by simp) hcb hlen (fun u hu => by obtain ⟨x, _, rfl⟩ := List.mem_map.1 hu; rfl)
    refine hcl.mono ?_
    rintro e w3 ⟨L', cap', rfl, ho, hL', hltL, hb3⟩
    have hN3 := HN2.out.keep (Fr.of_below hb3 noB) (fun h => h)
    have hltN : w.heap.size < w2.heap.size := HN2.out.lt
    have hneL : L' ≠ w.heap.size := by omega
    have hf3 : Fr noB w w3 := Hf2.out.trans (Fr.of_below hb3 noB) (fun _ _ h => h)
    have hbb0 := Hb2.out.keep (Fr.of_below hb3 noB) (fun h => h)
    have hkp : KeepAt w3 (fun k => k = L') (.slice (some ⟨L', 0, none⟩) p.keep.length cap') p.keep := ⟨_, _, rfl, hlen, fun _ => ⟨_, rfl, rfl, hltL, fun j u hj => ho.cells (g := L') rfl j (.bool u) (by rw [List.getElem?_map, hj]; rfl)⟩⟩
    have v0 := hN3.set 0 (.slice (some ⟨L', 0, none⟩) p.keep.length cap')
    have v1 : (w3.setCell ⟨w.heap.size, 0, none⟩ (.slice (some ⟨L', 0, none⟩) p.keep.length cap')).cell? ⟨w.heap.size, 0, none⟩ = some (.slice (some ⟨L', 0, none⟩) p.keep.length cap') := v0.cell 0
    have v2 : (w3.setCell ⟨w.heap.size, 0, none⟩ (.slice (some ⟨L', 0, none⟩) p.keep.length cap')).cell? ⟨w.heap.size, 1, none⟩ = some (.int .i64 p.torn) := v0.cell 1
    have v3 : (w3.setCell ⟨w.heap.size, 0, none⟩ (.slice (some ⟨L', 0, none⟩) p.keep.length cap')).cell? ⟨w.heap.size, 2, none⟩ = some (.int .i64 p.cut) := v0.cell 2
    have y0 : w3.cell? ⟨w.heap.size, 0, none⟩ = some _ := hN3.cell 0
    have z0 : w3.frozen? ⟨w.heap.size, 0, none⟩ = false := hN3.free 0
    have hbb := (hbb0.far (p := ⟨w.heap.size, 0, none⟩) hne (.slice (some ⟨L', 0, none⟩) p.keep.length cap'))
    obtain ⟨_, _, _, _, _, e5, e6, e7, e8, e9, efz⟩ := cells_of_has hbb
    have HB := Lib.hid hbb
    have HK := Lib.hid hkp
    have Hf3 := Lib.hid hf3
    have hltb : L' ≠ b := by omega
    clear v0 hbb hN3 ho hb3 hf3 hbb0 hkp u0 hcl hcb
    go_wp2_with fail
    go_ret
    have hS : ∀ u : Value, Fr (fun k => k = b ∨ w.heap.size = k) w3 (w3.setCell ⟨w.heap.size, 0, none⟩ u) := fun u => (Fr.refl _ w3).setAt (.inl (.inr rfl)) u
    have hT : ∀ u0 u5 u6 u7 u8 u9 : Value, Fr (fun k => k = b ∨ w.heap.size = k) w3 ((((((w3.setCell ⟨w.heap.size, 0, none⟩ u0).setCell ⟨b, 5, none⟩ u5).setCell ⟨b, 6, none⟩ u6).setCell ⟨b, 7, none⟩ u7).setCell ⟨b, 8, none⟩ u8).setCell ⟨b, 9, none⟩ u9) := fun u0 _ _ _ _ _ =>
      (((((hS u0).setAt (.inl (.inl rfl)) _).setAt (.inl (.inl rfl)) _).setAt (.inl (.inl rfl)) _).setAt (.inl (.inl rfl)) _).setAt (.inl (.inl rfl)) _
    refine ⟨rfl, fuse_end H.out k p hp0 hp1 Hf3.out ?_ (((((HB.out.set 5 _).set 6 _).set 7 _).set 8 _).set 9 _) ((hT _ _ _ _ _ _).wide fun k _ e => by rcases e with e | e; exact .inl e; exact .inr (by omega))⟩
    refine (HK.out.keep (hT _ _ _ _ _ _) (fun k hk e => ?_)).mono (fun k hk => ?_)
    · have hk : k = L' := hk
      rcases e with e | e <;> omega
    · have hk : k = L' := hk
      subst hk
      exact ⟨by omega, by simp only [World.size_setCell]; omega⟩
end Go.Proofs.Ythlmjnlakenmoaa
/-
  A disk of one's own, made since some world; its calls at such a disk.
-/
namespace Go.Proofs.Ythlmjnlakenmoaa
open Go.RowKit Go.Maps
set_option maxRecDepth 100000

/-- a disk that was made since W0; nothing that was there then has turned -/
structure Sys (W0 w : World) (S R : Nat → Prop) (b : Nat) (d : Dk.St) : Prop where
  disk : DiskAt w S R b d
  news : ∀ k, S k → W0.heap.size ≤ k
  newr : ∀ k, R k → W0.heap.size ≤ k
  below : Below W0.heap.size W0 w
theorem Sys.size {W0 w : World} {S R : Nat → Prop} {b : Nat} {d : Dk.St} (h : Sys W0 w S R b d) : W0.heap.size ≤ w.heap.size := h.below.size
theorem Sys.goes {W0 w w' : World} {S R : Nat → Prop} {b : Nat} {d d' : Dk.St} (h : Sys W0 w S R b d) (g : Goes S R b d' w w') : ∃ S', Sys W0 w' S' R b d' ∧ Fr S w w' ∧ ∀ k, S' k → S k ∨ w.heap.size ≤ k := by
  obtain ⟨S', hd, hf, hs⟩ := g
  have hsz := h.size
  refine ⟨S', ⟨hd, fun k hk => ?_, h.newr, h.below.trans (hf.below hsz h.news)⟩, hf, hs⟩
  rcases hs k hk with e | e
  · exact h.news k e
  · omega
theorem Sys.next {W0 w w' : World} {S R : Nat → Prop} {b : Nat} {d : Dk.St} (h : Sys W0 w S R b d) (hb : Below w.heap.size w w') : Sys W0 w' S R b d :=
  ⟨h.disk.keep (T := noB) (Fr.of_below hb noB) (fun _ h => h.elim), h.news, h.newr, h.below.trans (hb.mono h.size)⟩
theorem Sys.made {W0 w w' : World} (hW : Below W0.heap.size W0 w) {b : Nat} {S : Nat → Prop} {d : Dk.St} (hd : DiskAt w' S noB b d) (hb : Below w.heap.size w w') (hs : ∀ k, S k → w.heap.size ≤ k) : Sys W0 w' S noB b d :=
  ⟨hd, fun k hk => Nat.le_trans hW.size (hs k hk), fun _ h => h.elim, hW.trans (hb.mono hW.size)⟩
/-- the source of a write is no block of the disk -/
theorem Sys.fresh {W0 w : World} {S R : Nat → Prop} {b : Nat} {d : Dk.St} (h : Sys W0 w S R b d) : ¬ S w.heap.size := fun hk => absurd (h.disk.lt _ hk) (Nat.lt_irrefl _)

theorem write_at (w : World) (S R : Nat → Prop) (b : Nat) (d : Dk.St) (h : DiskAt w S R b d) (hdead : d.dead = false) (hm : d.waits.length < 1000000) (hdone : d.done < 4611686018427387904) (hleft : d.left ≤ 9223372036854775807)
    (i : Nat) (hi : i < d.lasts.length) (g c : Nat) (t : TypeId) (s : Dk.Sec) (hs : s.length = 128) (hsrc : Has w g t (Dk.secCells s).toArray) (hgS : ¬ S g) :
    Calls Try.prog 67 #[.pointer (some ⟨b, 0, none⟩), .int .i64 i, .slice (some ⟨g, 0, none⟩) 128 c] w fun e w' => e = .returned (.int .i64 (d.wait i s).stepErr) ∧ Goes S R b (d.write i s) w w' := by
  obtain ⟨L, cap, wv, M, kv, h⟩ := h
  exact write_any w S R b L cap wv M kv d h hdead hm hdone hleft i hi g 0 c s hs (fun j v hj => by rw [Nat.zero_add, hsrc.cell, List.getElem?_toArray]; exact hj) hgS
theorem flush_at (w : World) (S R : Nat → Prop) (b : Nat) (d : Dk.St) (h : DiskAt w S R b d) (hdead : d.dead = false) (hm : d.waits.length ≤ 1000000) (hdone : d.done < 4611686018427387904) (hleft : d.left ≤ 9223372036854775807) :
    Calls Try.prog 41 #[.pointer (some ⟨b, 0, none⟩)] w fun e w' => e = .returned (.int .i64 d.stepErr) ∧ Goes S R b d.flush w w' := by
  obtain ⟨L, cap, wv, M, kv, h⟩ := h
  exact flush_any w S R b L cap wv M kv d h hdead hm hdone hleft
theorem read_at (w : World) (S R : Nat → Prop) (b : Nat) (d : Dk.St) (h : DiskAt w S R b d) (hdead : d.dead = false) (i : Nat) (hi : i < d.lasts.length) :
    Calls Try.prog 71 #[.pointer (some ⟨b, 0, none⟩), .int .i64 i] w fun e w' => e = .returned (.tuple #[.slice (some ⟨w.heap.size, 0, none⟩) 128 128, .int .i64 0]) ∧ Has w' w.heap.size 108 (Dk.secCells (d.read i)).toArray ∧ Below w.heap.size w w' := by
  obtain ⟨L, cap, wv, M, kv, h⟩ := h
  refine (read_lies w S R b L cap wv M kv d h hdead i hi).mono ?_
  rintro e w' ⟨rfl, rfl⟩
  exact ⟨rfl, Has.of_alloc _ _ _, (Below.refl _ _).alloc (Nat.le_refl _) _⟩
end Go.Proofs.Ythlmjnlakenmoaa

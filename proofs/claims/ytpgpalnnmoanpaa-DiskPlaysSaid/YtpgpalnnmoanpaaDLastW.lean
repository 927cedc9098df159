/-
  DiskLasts: whatever is written and flushed, and whatever the plan, each sector reads behind the crash as it should.
-/
import Derived.Test.YtpgpalnnmoanpaaDArgs
namespace Go.Proofs.Ytpgpalnnmoanpaa
open Go.RowKit Go.Maps

/-- the cells of the writes that wait, as the statement keeps them -/
def pcells (wl : List Pw) : List Value := wl.flatMap fun x => [Value.int .u8 (x.1 : Int), Value.int .u8 (x.2.toNat : Int), Value.bool false]
theorem pcells_len (wl : List Pw) : (pcells wl).length = wl.length * 3 := Dk.flat_len (fun _ _ => rfl)
theorem pcells_at (wl : List Pw) (k : Nat) (hk : k < wl.length) (j : Nat) (hj : j < 3) : (pcells wl)[k * 3 + j]? = [Value.int .u8 (wl[k].1 : Int), Value.int .u8 (wl[k].2.toNat : Int), Value.bool false][j]? :=
  Dk.flat_get (f := fun x : Pw => [Value.int .u8 (x.1 : Int), Value.int .u8 (x.2.toNat : Int), Value.bool false]) (fun _ _ => rfl) k hk j hj
theorem pcells_snoc (wl : List Pw) (x : Pw) : pcells (wl ++ [x]) = pcells wl ++ [Value.int .u8 (x.1 : Int), Value.int .u8 (x.2.toNat : Int), Value.bool false] := by simp [pcells]
theorem inf_put : (Try.prog.info? 53).map (fun i => (i.zero, i.size, i.bytes)) = some (some (.agg #[.int .u8 0, .int .u8 0, .bool false]), 3, 3) := by kernel_rfl

/-- what the statement has in memory: the disk, the bytes that last, the writes that wait, the plan -/
structure LMem (W : World) (b B : Nat) (pv : Value) (p : Dk.Pl) (d : Dk.St) (ll : List UInt8) (wl : List Pw) (v : Value) (S : Nat → Prop) (wr : World) : Prop where
  sys : Sys W wr S noB b d
  bytes : Has wr B 5 (Dk.secCells ll).toArray
  row : wr.ownsRow 0 53 3 v wl.length (pcells wl)
  plan : Has wr W.heap.size 46 #[pv, .int .i64 p.torn, .int .i64 p.cut]
  sB : ¬ S B
  sP : ¬ S W.heap.size
  sV : ∀ g, v.ownBlock = some g → ¬ S g ∧ W.heap.size ≤ g
  hB : W.heap.size ≤ B
section
variable {W : World} {b B : Nat} {pv : Value} {p : Dk.Pl} {d : Dk.St} {ll : List UInt8} {wl : List Pw} {v : Value} {S : Nat → Prop} {wr w' : World}
theorem LMem.next (h : LMem W b B pv p d ll wl v S wr) (hb : Below wr.heap.size wr w') : LMem W b B pv p d ll wl v S w' :=
  ⟨h.sys.next hb, h.bytes.keep (Fr.of_below hb noB) (fun e => e), ownsRow_keep h.row (Fr.of_below hb noB) (fun _ _ e => e), h.plan.keep (Fr.of_below hb noB) (fun e => e), h.sB, h.sP, h.sV, h.hB⟩
theorem LMem.goes {d' : Dk.St} (h : LMem W b B pv p d ll wl v S wr) (g : Goes S noB b d' wr w') : ∃ S', LMem W b B pv p d' ll wl v S' w' := by
  obtain ⟨S', y, f, hs⟩ := h.sys.goes g
  have out : ∀ k, ¬ S k → k < wr.heap.size → ¬ S' k := fun k hk hl hk' => by rcases hs k hk' with e | e; exact hk e; omega
  exact ⟨S', y, h.bytes.keep f h.sB, ownsRow_keep h.row f (fun k hk => (h.sV k hk).1), h.plan.keep f h.sP, out _ h.sB h.bytes.lt, out _ h.sP h.plan.lt, fun g hg => ⟨out _ (h.sV g hg).1 (ownsRow_lt h.row g hg), (h.sV g hg).2⟩, h.hB⟩
/-- a write more waits -/
theorem LMem.more {v' : Value} {x : Pw} (h : LMem W b B pv p d ll wl v S wr) (hg : wr.grownBy w' v.ownBlock) (ho : w'.ownsRow 0 53 3 v' (wl.length + 1) (pcells wl ++ [Value.int .u8 (x.1 : Int), Value.int .u8 (x.2.toNat : Int), Value.bool false])) (hat : v'.ownBlock = v.ownBlock ∨ v'.ownBlock = some wr.heap.size) :
    LMem W b B pv p d ll (wl ++ [x]) v' S w' := by
  have f : Fr (fun k => v.ownBlock = some k) wr w' := Fr.of_grown hg (fun k hk => hk)
  have hV : ∀ g t cs, Has wr g t cs → 53 ≠ t → ¬ v.ownBlock = some g := fun g t cs hh hne e => by
    rcases h.row.2 with ⟨hn, _⟩ | ⟨V, cap, cur, hv, _, hVh, _⟩
    · rw [hn] at e; cases e
    · rw [hv] at e
      have e : V = g := by simpa [Value.ownBlock] using e
      subst e
      exact Has.apart (t := 53) hVh hh hne rfl
  refine ⟨⟨h.sys.disk.keep f (fun k hk => ⟨(h.sV k hk).1, fun e => e⟩), h.sys.news, h.sys.newr, h.sys.below.trans (f.below h.sys.size (fun k hk => (h.sV k hk).2))⟩, h.bytes.keep f (hV _ _ _ h.bytes (by decide)), ?_, h.plan.keep f (hV _ _ _ h.plan (by decide)), h.sB, h.sP, fun g hg => ?_, h.hB⟩
  · rw [pcells_snoc, List.length_append]; exact ho
  · rcases hat with e | e
    · exact h.sV g (by rw [← e]; exact hg)
    · have e : wr.heap.size = g := by rw [e] at hg; injection hg
      subst e
      exact ⟨h.sys.fresh, h.sys.size⟩
/-- a byte that lasts is put -/
theorem LMem.put (h : LMem W b B pv p d ll wl v S wr) (i : Nat) (c : UInt8) : LMem W b B pv p d (ll.set i c) wl v S (wr.setCell ⟨B, i, none⟩ (.int .u8 (c.toNat : Int))) := by
  have f : Fr (oneB B) wr (wr.setCell ⟨B, i, none⟩ (.int .u8 (c.toNat : Int))) := (Fr.refl (oneB B) wr).put _
  refine ⟨⟨h.sys.disk.keep f (fun k hk => ⟨fun e => h.sB (by have hk : k = B := hk; rw [← hk]; exact e), fun e => e⟩), h.sys.news, h.sys.newr, h.sys.below.trans (f.below h.sys.size (fun k hk => by have hk : k = B := hk; rw [hk]; exact h.hB))⟩, ?_, ownsRow_keep h.row f (fun k hk e => ?_), h.plan.keep f (fun e => ?_), h.sB, h.sP, h.sV, h.hB⟩
  · have := h.bytes.set i (.int .u8 (c.toNat : Int))
    have e : (Dk.secCells (ll.set i c)).toArray = (Dk.secCells ll).toArray.setIfInBounds i (.int .u8 (c.toNat : Int)) := by
      rw [Dk.secCells, List.map_set, List.setIfInBounds_toArray]; rfl
    rw [e]; exact this
  · have e : k = B := e
    subst e
    rcases h.row.2 with ⟨hn, _⟩ | ⟨V, cap, cur, hv, _, hVh, _⟩
    · rw [hn] at hk; cases hk
    · rw [hv] at hk
      have hk : V = k := by simpa [Value.ownBlock] using hk
      subst hk
      exact Has.apart (t := 53) hVh h.bytes (by decide) rfl
  · exact Has.apart h.plan h.bytes (by decide) e
theorem LMem.drew (h : LMem W b B pv p d ll wl v S wr) : LMem W b B pv p d ll wl v S wr.drew := h.next (Below.refl _ _).drew
theorem LMem.drewN (h : LMem W b B pv p d ll wl v S wr) (n : Nat) : LMem W b B pv p d ll wl v S (wr.drewN n) := h.next ⟨rfl, rfl, rfl, Nat.le_refl _, fun _ _ => rfl⟩
/-- all that waited lasts now: nothing waits -/
theorem LMem.none_ (h : LMem W b B pv p d ll wl v S wr) : LMem W b B pv p d ll [] (.slice none 0 0) S wr :=
  ⟨h.sys, h.bytes, World.ownsRow_nil _ _ _ _, h.plan, h.sB, h.sP, fun g hg => (by cases hg), h.hB⟩
theorem LMem.wcell (h : LMem W b B pv p d ll wl v S wr) {k : Nat} (hk : k < wl.length) : ∃ V cap, v = .slice (some ⟨V, 0, none⟩) wl.length cap ∧ wr.cell? ⟨V, k * 3, none⟩ = some (.int .u8 (wl[k].1 : Int)) ∧ wr.cell? ⟨V, k * 3 + 1, none⟩ = some (.int .u8 (wl[k].2.toNat : Int)) := by
  rcases h.row.2 with ⟨_, h0⟩ | ⟨V, cap, cur, rfl, _⟩
  · omega
  · refine ⟨V, cap, rfl, ?_, ?_⟩
    · rw [h.row.cellAt _ (by omega), show k * 3 = k * 3 + 0 from rfl, pcells_at wl k hk 0 (by omega)]; rfl
    · rw [h.row.cellAt _ (by omega), pcells_at wl k hk 1 (by omega)]; rfl
theorem LMem.form (h : LMem W b B pv p d ll wl v S wr) : ∃ A cap, v = .slice A wl.length cap := by
  rcases h.row.2 with ⟨rfl, h0⟩ | ⟨V, cap, cur, rfl, _⟩
  · exact ⟨_, _, by rw [h0]⟩
  · exact ⟨_, _, rfl⟩
theorem LMem.arg (h : LMem W b B pv p d ll wl v S wr) {a : Addr} {u : Value} (hc : W.cell? a = some u) : wr.cell? a = some u := (h.sys.below.cell (block_lt_of_cell hc)).trans hc
end

theorem news_of (w : World) (l : List Value) (t : TypeId) (j : Nat) (u : Value) (hj : l[j]? = some u) : (w.alloc (.cells l.toArray t)).cell? ((⟨w.heap.size, 0, none⟩ : Addr).add j) = some u := by
  rw [Addr.add_mid, Nat.zero_add, (Has.of_alloc w t l.toArray).cell, List.getElem?_toArray]; exact hj
theorem waits_at (w : World) (S R : Nat → Prop) (b : Nat) (d : Dk.St) (h : DiskAt w S R b d) : Calls Try.prog 19 #[.pointer (some ⟨b, 0, none⟩)] w fun e w' => e = .returned (.int .i64 (d.waits.length : Int)) ∧ w = w' := by
  obtain ⟨L, cap, wv, M, kv, h⟩ := h
  obtain ⟨A, vcap, rfl, _⟩ := wait_form h.waits
  exact waits_any w b A _ vcap h.cells.c1
theorem done_at (w : World) (S R : Nat → Prop) (b : Nat) (d : Dk.St) (h : DiskAt w S R b d) : Calls Try.prog 20 #[.pointer (some ⟨b, 0, none⟩)] w fun e w' => e = .returned (.int .i64 (d.done : Int)) ∧ w = w' := by
  obtain ⟨L, cap, wv, M, kv, h⟩ := h
  exact done_any w b _ h.cells.c3
theorem dead_at (w : World) (S R : Nat → Prop) (b : Nat) (d : Dk.St) (h : DiskAt w S R b d) : Calls Try.prog 21 #[.pointer (some ⟨b, 0, none⟩)] w fun e w' => e = .returned (.bool d.dead) ∧ w = w' := by
  obtain ⟨L, cap, wv, M, kv, h⟩ := h
  exact dead_any w b _ h.cells.c4
theorem c4_at {w : World} {S R : Nat → Prop} {b : Nat} {d : Dk.St} (h : DiskAt w S R b d) {x : Bool} (hx : d.dead = x) : w.cell? ⟨b, 4, none⟩ = some (.bool x) := by
  obtain ⟨L, cap, wv, M, kv, h⟩ := h
  rw [← hx]; exact h.cells.c4
/-- the same with a disk that was made since -/
theorem LMem.other {W : World} {b B : Nat} {pv : Value} {p : Dk.Pl} {d : Dk.St} {ll : List UInt8} {wl : List Pw} {v : Value} {S : Nat → Prop} {wr w' : World} (h : LMem W b B pv p d ll wl v S wr) {b' : Nat} {S' : Nat → Prop} {d' : Dk.St} (hd : DiskAt w' S' noB b' d') (hb : Below wr.heap.size wr w') (hs : ∀ k, S' k → wr.heap.size ≤ k) : LMem W b' B pv p d' ll wl v S' w' := by
  have h' := h.next hb
  have out : ∀ k, k < wr.heap.size → ¬ S' k := fun k hk hk' => by have := hs k hk'; omega
  exact ⟨Sys.made h.sys.below hd hb hs, h'.bytes, h'.row, h'.plan, out _ h.bytes.lt, out _ h.plan.lt, fun g hg => ⟨out _ (ownsRow_lt h.row g hg), (h.sV g hg).2⟩, h.hB⟩

theorem count_of (n : Int) : ∃ m : Nat, 1 ≤ m ∧ m ≤ 20 ∧ wrap64 (1 + wrap64 ((IntKind.u64.wrap n).tmod 20)) = (m : Int) := by
  have h0 : 0 ≤ IntKind.u64.wrap n := by rw [IntKind.wrap_u64]; exact Int.emod_nonneg _ (by omega)
  have h1 : 0 ≤ (IntKind.u64.wrap n).tmod 20 := Int.tmod_nonneg _ h0
  have h2 : (IntKind.u64.wrap n).tmod 20 < 20 := Int.tmod_lt_of_pos _ (by omega)
  generalize (IntKind.u64.wrap n).tmod 20 = r at *
  refine ⟨(1 + r).toNat, by omega, by omega, ?_⟩
  rw [IntWalk.wrap64_in r ⟨by omega, by omega⟩, IntWalk.wrap64_in _ ⟨by omega, by omega⟩]
  omega

set_option maxHeartbeats 1600000 in
set_option maxRecDepth 100000 in
theorem lasts_any (W : World) (n : Int) (lv : Value) (ls : List Put) (hl : PutsAt W lv ls) (pv : Value) (p : Dk.Pl) (hp : KeepAt W (fun k => k < W.heap.size) pv p.keep) :
    Calls Try.prog 5 #[.int .i64 n, lv, planV pv p] W fun e w' => e = .returned (.bool true) ∧ Below W.heap.size W w' := by
  unfold planV
  obtain ⟨A, c, rfl, hlen, hcl⟩ := hl
  have HC := Lib.hid hcl
  have HP := Lib.hid hp
  clear hcl hp
  go_enter Try.func5, Try.ntmps5
  go_wp2_with fail
  obtain ⟨m, hm1, hm2, hmn⟩ := count_of n
  rw [hmn]
  clear hmn
  have hb0 : Below W.heap.size W (W.alloc (.cells #[pv, .int .i64 p.torn, .int .i64 p.cut] 46)) := (Below.refl _ _).alloc (Nat.le_refl _) _
  have hP0 := Has.of_alloc W 46 #[pv, .int .i64 p.torn, .int .i64 p.cut]
  have hz0 : (W.alloc (.cells #[pv, .int .i64 p.torn, .int .i64 p.cut] 46)).heap.size = W.heap.size + 1 := by simp
  generalize (W.alloc (.cells #[pv, .int .i64 p.torn, .int .i64 p.cut] 46)) = w0 at *
  refine (new_any w0 m (by omega) (by omega)).mono ?_
  rintro e w1 ⟨b, S, rfl, hd, hb, hs⟩
  have y1 : Sys W w1 S noB b (stOf (List.replicate m 0) [] 0) := by
    rw [← stOf_made]; exact Sys.made hb0 hd hb (fun k hk => hs k hk)
  have hP1 := hP0.keep (Fr.of_below hb noB) (fun h => h)
  have Y1 := Lib.hid y1
  have HP1 := Lib.hid hP1
  have hSP : ¬ S W.heap.size := fun h => by have := hs _ h; omega
  have HSP := Lib.hid hSP
  clear hd hb hs y1 hP1 hP0 hb0 hz0 hSP
  unfold ptr
  go_wp2_with fail
  refine (awake_any w1).mono ?_
  rintro e w2 ⟨rfl, hb2⟩
  have Y2 := Lib.hid (Y1.out.next hb2)
  have HP2 := Lib.hid (HP1.out.keep (Fr.of_below hb2 noB) (fun h => h))
  clear hb2 Y1 HP1
  have hmk : (Instr.makeSlice 34 (.int .i64 (m : Int)) (.int .i64 (m : Int))).run Try.prog w2 = .ok (.slice (some ⟨w2.heap.size, 0, none⟩) m m) (w2.alloc (.cells (Dk.secCells (List.replicate m 0)).toArray 5)) := by
    obtain ⟨i0, hi, hz0, hz1, hz2⟩ := info_parts inf_u8
    have := run_make (P := Try.prog) w2 _ _ i0 _ und_bytes hi hz0 .i64 .i64 (m : Int) (m : Int) (by omega) (by omega) (by rw [hz2]; omega) (by omega)
    rw [hz1] at this
    have e : madeCells (Value.int .u8 0).cells m = (Dk.secCells (List.replicate m 0)).toArray := by
      apply Array.toList_inj.1
      exact (toList_madeCells_one _ _).trans (by rw [Dk.secCells, List.map_replicate]; rfl)
    simpa [e] using this
  go_wp2_with fail
  have hM0 : LMem W b w2.heap.size pv p (stOf (List.replicate m 0) [] 0) (List.replicate m 0) [] (.slice (some ⟨w2.heap.size + 1, 0, none⟩) 0 0) S ((w2.alloc (.cells (Dk.secCells (List.replicate m 0)).toArray 5)).alloc (.cells #[] 53)) := by
    have hb3 : Below w2.heap.size w2 ((w2.alloc (.cells (Dk.secCells (List.replicate m 0)).toArray 5)).alloc (.cells #[] 53)) := ((Below.refl _ _).alloc (Nat.le_refl _) _).alloc (by simp) _
    have hz2 := Y2.out.size
    exact ⟨Y2.out.next hb3, heap_alloc2_old _ _ _, ⟨rfl, .inr ⟨_, 0, #[], rfl, Nat.zero_le _, heap_alloc2_new _ _ _, Nat.le_refl _, Nat.zero_le _, rfl, rfl⟩⟩, HP2.out.keep (Fr.of_below hb3 noB) (fun e => e), Y2.out.fresh, HSP.out, fun g hg => by
      have hg : w2.heap.size + 1 = g := by simpa [Value.ownBlock] using hg
      subst hg
      exact ⟨fun e => by have := Y2.out.disk.lt _ e; omega, by omega⟩, hz2⟩
  generalize ((w2.alloc (.cells (Dk.secCells (List.replicate m 0)).toArray 5)).alloc (.cells #[] 53)) = w3 at *
  generalize w2.heap.size + 1 = X at *
  generalize w2.heap.size = B at *
  clear Y2 HP2 HSP hmk
  go_loopw [10, 11] (fun v i wr => ∃ k : Nat, k ≤ ls.length ∧ k ≤ 60 ∧ i = .int .i64 k ∧ ∃ S, LMem W b B pv p (stOf (runTo m ls k).ll (runTo m ls k).wl (runTo m ls k).done) (runTo m ls k).ll (runTo m ls k).wl v S wr) (fun _ i _ => ls.length - (intOf i).toNat)
  case atStart => exact ⟨0, Nat.zero_le _, Nat.zero_le _, rfl, S, hM0⟩
  case round =>
    obtain ⟨k, hk, hk60, rfl, S1, hM⟩ := hrel
    have hro := runTo_ok m (by omega) ls k
    by_cases hgo : k < ls.length ∧ k < 60
    · obtain ⟨hlt, h60⟩ := hgo
      · obtain ⟨g, o, rfl, hc⟩ := HC.out (by omega)
        obtain ⟨q0, q1, q2⟩ := hc k _ (List.getElem?_eq_getElem hlt)
        have hstep : runTo m ls (k + 1) = (runTo m ls k).put m ls[k] := by rw [runTo, List.getElem?_eq_getElem hlt]
        have p0 := hM.arg q0
        have p1 := hM.arg q1
        have p2 := hM.arg q2
        generalize ls[k] = x at *
        generalize runTo m ls k = r at *
        have hx256 : (x.at_.toNat : Int) < 256 := by have := UInt8.toNat_lt x.at_; omega
        have hat : x.at_.toNat % m < m := Nat.mod_lt _ (by omega)
        have hM' := Lib.hid hM
        have Hro := Lib.hid hro
        have Hstep := Lib.hid hstep
        have hk1 : (k : Int) < ls.length := by omega
        have hk2 : (k : Int) < 60 := by omega
        have Q0 := Lib.hid q0
        have Q1 := Lib.hid q1
        have Q2 := Lib.hid q2
        clear hM hro hstep q0 q1 q2 hc hM0
        go_wp2_with fail
        refine (full_any x.what wr).mono ?_
        rintro e wa ⟨rfl, hga, hba⟩
        have hMa := Lib.hid (hM'.out.next hba)
        have HGA := Lib.hid hga
        have hfr := hM'.out.sys.fresh
        clear hga hba p0 p1 p2
        go_wp2_with fail
        have em : ((x.at_.toNat : Int) % (m : Int)) = ((x.at_.toNat % m : Nat) : Int) := (Int.natCast_emod _ _).symm
        rw [em]
        clear em
        have hput : ∀ a, a = x.at_.toNat % m → r.put m x = if x.flush then ⟨setAll r.ll (r.wl ++ [(a, x.what)]) (r.wl.length + 1), [], r.done + 2⟩ else ⟨r.ll, r.wl ++ [(a, x.what)], r.done + 1⟩ := fun a ha => by rw [ha]; rfl
        have Hput := Lib.hid (hput _ rfl)
        clear hput
        generalize x.at_.toNat % m = a at *
        have hla : a < (stOf r.ll r.wl r.done).lasts.length := by
          show a < (r.ll.map fullS).length
          rw [List.length_map, Hro.out.len]; exact hat
        have hwr := write_at wa S1 noB b _ hMa.out.sys.disk rfl (by show (r.wl.map mkW).length < 1000000; rw [List.length_map]; have := Hro.out.most; omega) (by show r.done < 4611686018427387904; have := Hro.out.done; omega) (by show 0 ≤ 9223372036854775807; omega) a hla wr.heap.size 128 _ (fullS x.what) (fullS_len _) HGA.out hfr
        have Hwr := Lib.hid hwr
        clear hwr hla hfr
        refine Hwr.out.mono ?_
        rintro e wb ⟨he, hgb⟩
        obtain rfl : e = .returned (.int .i64 0) := he
        rw [stOf_write] at hgb
        obtain ⟨Sb, hMb⟩ := hMa.out.goes hgb
        obtain ⟨vA, vcap, rfl⟩ := hMb.form
        have pb0 := hMb.arg Q0.out
        have pb1 := hMb.arg Q1.out
        have pb2 := hMb.arg Q2.out
        have HMb := Lib.hid hMb
        clear hgb hMb Hwr HGA hMa hM'
        obtain ⟨i0, hi0, hz0, hz1, hz2⟩ := info_parts inf_put
        have I0 := Lib.hid hi0
        have I1 := Lib.hid hz0
        have I2 := Lib.hid hz1
        have I3 := Lib.hid hz2
        clear hi0 hz0 hz1 hz2
        have hwl : r.wl.length ≤ 60 := by have := Hro.out.most; omega
        cases hfl : x.flush with
        | false =>
          have q2 := Q2.out
          rw [hfl] at q2
          have Q2' := Lib.hid q2
          have hr' : runTo m ls (k + 1) = ⟨r.ll, r.wl ++ [(a, x.what)], r.done + 1⟩ := by rw [Hstep.out, Hput.out, hfl]; rfl
          have Hr' := Lib.hid hr'
          clear hr' hfl q2 pb2
          go_wp2_with (at_builtin; refine wpList_append_own_at _ rfl (.tmp 71) (.tmp 80) _ rfl 0 53 i0 _ 3 3 und_puts I0.out I1.out I2.out I3.out rfl (by omega) _ _ (pcells r.wl) rfl (HMb.out.row.alloc _) ⟨wb.heap.size, 0, none⟩ 1 1 [.int .u8 (a : Int), .int .u8 (x.what.toNat : Int), .bool false] rfl rfl (news_of _ _ _) (by simp [Value.oneCell']) (by unfold maxLen; omega) (by omega) (Nat.zero_le _) ?_; intro v' wc hown hg _ hat'; have hMc := (HMb.out.next ((Below.refl _ _).alloc (Nat.le_refl _) (.cells #[.int .u8 (a : Int), .int .u8 (x.what.toNat : Int), .bool false] 53))).more (x := (a, x.what)) hg hown hat'; have pc2 := hMc.arg Q2'.out; have HMc := Lib.hid hMc; clear hown hg hat' hMc)
          go_roundw
          case rel => exact ⟨k + 1, by omega, by omega, by go_num, Sb, by rw [Hr'.out]; exact HMc.out⟩
          case measure => simp [intOf]; omega
        | true =>
          have q2 := Q2.out
          rw [hfl] at q2
          have Q2' := Lib.hid q2
          have hr' : runTo m ls (k + 1) = ⟨setAll r.ll (r.wl ++ [(a, x.what)]) (r.wl.length + 1), [], r.done + 2⟩ := by rw [Hstep.out, Hput.out, hfl]; rfl
          have Hr' := Lib.hid hr'
          clear hr' hfl q2 pb2
          go_wp2_with (at_builtin; refine wpList_append_own_at _ rfl (.tmp 71) (.tmp 80) _ rfl 0 53 i0 _ 3 3 und_puts I0.out I1.out I2.out I3.out rfl (by omega) _ _ (pcells r.wl) rfl (HMb.out.row.alloc _) ⟨wb.heap.size, 0, none⟩ 1 1 [.int .u8 (a : Int), .int .u8 (x.what.toNat : Int), .bool false] rfl rfl (news_of _ _ _) (by simp [Value.oneCell']) (by unfold maxLen; omega) (by omega) (Nat.zero_le _) ?_; intro v' wc hown hg _ hat'; have hMc := (HMb.out.next ((Below.refl _ _).alloc (Nat.le_refl _) (.cells #[.int .u8 (a : Int), .int .u8 (x.what.toNat : Int), .bool false] 53))).more (x := (a, x.what)) hg hown hat'; have pc2 := hMc.arg Q2'.out; have HMc := Lib.hid hMc; clear hown hg hat' hMc)
          clear pb0 pb1 pc2
          have hwl2 : (r.wl ++ [(a, x.what)]).length = r.wl.length + 1 := by simp
          have Hw2 : Hid (∀ y ∈ r.wl ++ [(a, x.what)], y.1 < m) := Lib.hid fun y hy => by
            rcases List.mem_append.1 hy with h | h
            · exact Hro.out.at_ y h
            · rw [List.mem_singleton.1 h]; exact hat
          have Hll := Lib.hid Hro.out.len
          rw [← hwl2] at Hr'
          have hwl3 : (r.wl ++ [(a, x.what)]).length ≤ 61 := by omega
          clear hwl2
          generalize (r.wl ++ [(a, x.what)]) = wl at *
          have hfl := flush_at wc Sb noB b _ HMc.out.sys.disk rfl (by show (wl.map mkW).length ≤ 1000000; rw [List.length_map]; omega) (by show r.done + 1 < 4611686018427387904; have := Hro.out.done; omega) (by show 0 ≤ 9223372036854775807; omega)
          have Hfl := Lib.hid hfl
          clear hfl
          refine Hfl.out.mono ?_
          rintro e wd ⟨he, hgd⟩
          obtain rfl : e = .returned (.int .i64 0) := he
          rw [stOf_flush] at hgd
          obtain ⟨Sd, hMd⟩ := HMc.out.goes hgd
          obtain ⟨vA', vcap', rfl⟩ := hMd.form
          have HMd := Lib.hid hMd
          clear hgd hMd Hfl HMc HMb
          go_wp2_with fail
          go_loopw [13] (fun i wi => ∃ k2 : Nat, k2 ≤ wl.length ∧ i = .int .i64 k2 ∧ LMem W b B pv p (stOf (setAll r.ll wl wl.length) [] (r.done + 1 + 1)) (setAll r.ll wl k2) wl (.slice vA' wl.length vcap') Sd wi) (fun i _ => wl.length - (intOf i).toNat)
          case atStart => exact ⟨0, Nat.zero_le _, rfl, HMd.out⟩
          case round =>
            obtain ⟨k2, hk2', rfl, hMi⟩ := hrel
            by_cases hlt2 : k2 < wl.length
            · obtain ⟨V, cap2, hv, s0, s1⟩ := hMi.wcell hlt2
              injection hv with hv1 _ hv2
              subst hv1
              clear hv2
              have hset : setAll r.ll wl (k2 + 1) = (setAll r.ll wl k2).set wl[k2].1 wl[k2].2 := by rw [setAll, List.getElem?_eq_getElem hlt2]
              have hy := Hw2.out _ (List.getElem_mem hlt2)
              have hcB : wr.cell? ⟨B, wl[k2].1, none⟩ = some (.int .u8 (((setAll r.ll wl k2)[wl[k2].1]'(by rw [setAll_len, Hll.out]; exact hy)).toNat : Int)) := by
                rw [hMi.bytes.cell, List.getElem?_toArray, Dk.secCells, List.getElem?_map, List.getElem?_eq_getElem (by rw [setAll_len, Hll.out]; exact hy)]; rfl
              have hput := (hMi.put wl[k2].1 wl[k2].2).drew
              rw [← hset] at hput
              have hfB : wr.frozen? ⟨B, wl[k2].1, none⟩ = false := hMi.bytes.free _
              generalize wl[k2] = y at *
              obtain ⟨y1, y2⟩ := y
              obtain ⟨u0, hu0⟩ : ∃ u0, wr.cell? ⟨B, y1, none⟩ = some u0 := ⟨_, hcB⟩
              have hy1 : (y1 : Int) < m := by have : y1 < m := hy; omega
              have hk21 : (k2 : Int) < wl.length := by omega
              have Hput2 := Lib.hid hput
              clear hcB hset hMi hput hy
              go_wp2_with fail
              refine wp_region_still_tail 12 (by kernel_rfl) (by kernel_rfl) ?_
              change wpStill _ _ (World.drew _) _ _ _
              simp only [List.take_succ_cons, List.take_zero, List.drop_succ_cons, List.drop_zero]
              repeat still_step
              refine wpStill_nil ?_
              change wpList _ _ _ _ _ (World.drew _)
              go_wp2_with fail
              go_roundw
              case rel => exact ⟨k2 + 1, by omega, by go_num, Hput2.out⟩
              case measure => simp [intOf]; omega
            · have hke : k2 = wl.length := by omega
              subst hke
              have HMi := Lib.hid hMi.none_
              clear hMi
              go_wp2_with fail
              go_roundw
              case rel => exact ⟨k + 1, by omega, by omega, by go_num, Sd, by rw [Hr'.out]; exact HMi.out⟩
              case measure => simp [intOf]; omega
    · have hor : decide (k < ls.length) = false ∨ ((k : Int) < ls.length ∧ (60 : Int) ≤ k) := by
        by_cases h : k < ls.length
        · exact .inr ⟨by omega, by omega⟩
        · exact .inl (by simpa using h)
      have hM1 := hM.plan
      have t0 : wr.cell? ⟨W.heap.size, 0, none⟩ = some pv := hM1.cell 0
      have t1 : wr.cell? ⟨W.heap.size, 1, none⟩ = some (.int .i64 p.torn) := hM1.cell 1
      have t2 : wr.cell? ⟨W.heap.size, 2, none⟩ = some (.int .i64 p.cut) := hM1.cell 2
      generalize runTo m ls k = r at *
      have HM := Lib.hid hM
      have Hro := Lib.hid hro
      clear hM hM1 hro hM0
      rcases hor with hge | ⟨hge, hge'⟩
      all_goals
        by_cases hc0 : p.cut < 0
        · have hbad := crash_bad wr b pv p.torn p.cut (c4_at HM.out.sys.disk rfl) (by omega)
          have Hbad := Lib.hid hbad
          clear hbad
          go_wp2_with fail
          refine Hbad.out.mono ?_
          rintro e w5 ⟨rfl, hb5⟩
          have HM5 := Lib.hid (HM.out.next hb5)
          clear hb5 HM
          go_wp2_with fail
          refine (dead_at w5 _ _ b _ HM5.out.sys.disk).mono ?_
          rintro e w' ⟨he, rfl⟩
          obtain rfl : e = .returned (.bool false) := he
          go_wp2_with fail
          go_ret
          exact ⟨rfl, HM5.out.sys.below⟩
        · have hc0' : 0 ≤ p.cut := by omega
          by_cases hc1 : 128 < p.cut
          · have hbad := crash_bad wr b pv p.torn p.cut (c4_at HM.out.sys.disk rfl) (by omega)
            have Hbad := Lib.hid hbad
            clear hbad
            go_wp2_with fail
            refine Hbad.out.mono ?_
            rintro e w5 ⟨rfl, hb5⟩
            have HM5 := Lib.hid (HM.out.next hb5)
            clear hb5 HM
            go_wp2_with fail
            refine (dead_at w5 _ _ b _ HM5.out.sys.disk).mono ?_
            rintro e w' ⟨he, rfl⟩
            obtain rfl : e = .returned (.bool false) := he
            go_wp2_with fail
            go_ret
            exact ⟨rfl, HM5.out.sys.below⟩
          · have hc1' : p.cut ≤ 128 := by omega
            have hkeep : KeepAt wr (fun k => k < W.heap.size) pv p.keep := HP.out.keep (w' := wr) (S := fun k => W.heap.size ≤ k) ⟨HM.out.sys.below.os, HM.out.sys.below.tape, HM.out.sys.below.output, HM.out.sys.below.size, fun k _ hk => HM.out.sys.below.block k (by omega)⟩ (fun k hk h => by omega)
            have hcr := crash_ok wr S1 noB (fun k => k < W.heap.size) b _ HM.out.sys.disk rfl pv p hkeep hc0' hc1' (fun k hk h => by have := HM.out.sys.news k h; omega) (by show (r.wl.map mkW).length ≤ 1000000; rw [List.length_map]; have := Hro.out.most; omega)
            unfold planV at hcr
            have Hcr := Lib.hid hcr
            clear hcr hkeep
            go_wp2_with fail
            refine Hcr.out.mono ?_
            rintro e w5 ⟨rfl, hg5⟩
            obtain ⟨S5, hM5⟩ := HM.out.goes hg5
            have HM5 := Lib.hid hM5
            clear hg5 hM5 HM Hcr t0 t1 t2
            go_wp2_with fail
            refine (dead_at w5 _ _ b _ HM5.out.sys.disk).mono ?_
            rintro e w' ⟨he, rfl⟩
            obtain rfl : e = .returned (.bool true) := he
            go_wp2_with fail
            refine (flush_dead w5 b (c4_at HM5.out.sys.disk rfl)).mono ?_
            rintro e w' ⟨rfl, rfl⟩
            go_wp2_with fail
            refine (reopen_ok w5 S5 noB b _ HM5.out.sys.disk rfl).mono ?_
            rintro e w6 ⟨b6, S6, rfl, hd6, hb6, hs6⟩
            have HM6 := Lib.hid (HM5.out.other hd6 hb6 hs6)
            clear hd6 hb6 hs6 HM5
            unfold ptr
            go_wp2_with fail
            refine (waits_at w6 _ _ b6 _ HM6.out.sys.disk).mono ?_
            rintro e w' ⟨he, rfl⟩
            obtain rfl : e = .returned (.int .i64 0) := he
            go_wp2_with fail
            refine (done_at w6 _ _ b6 _ HM6.out.sys.disk).mono ?_
            rintro e w' ⟨he, rfl⟩
            obtain rfl : e = .returned (.int .i64 0) := he
            go_wp2_with fail
            refine (dead_at w6 _ _ b6 _ HM6.out.sys.disk).mono ?_
            rintro e w' ⟨he, rfl⟩
            obtain rfl : e = .returned (.bool false) := he
            go_wp2_with fail
            obtain ⟨vA, vcap, rfl⟩ := HM6.out.form
            have hL6 : ∀ i c0, r.ll[i]? = some c0 → ((stOf r.ll r.wl r.done).crash p).lasts.getD i [] = mix (htc p r.wl i c0 r.wl.length).1 (htc p r.wl i c0 r.wl.length).2.1 (htc p r.wl i c0 r.wl.length).2.2 := fun i c0 h => by
              have hi : i < r.ll.length := (List.getElem?_eq_some_iff.1 h).1
              have := crashed_mix hc1' r.ll r.wl i hi c0 h r.wl.length
              rw [← this]
              show (Dk.crashed p (r.wl.map mkW) (r.ll.map fullS) (r.wl.map mkW).length).getD i [] = _
              rw [List.length_map]
            have hL6l : ((stOf r.ll r.wl r.done).crash p).lasts.length = m := by
              show (Dk.crashed p (r.wl.map mkW) (r.ll.map fullS) (r.wl.map mkW).length).length = m
              rw [Dk.crashed_len, List.length_map, Hro.out.len]
            have HL := Lib.hid hL6
            have HLl := Lib.hid hL6l
            have hw60 : r.wl.length ≤ 60 := by have := Hro.out.most; omega
            have HLll := Lib.hid Hro.out.len
            have HAt := Lib.hid Hro.out.at_
            clear hL6 hL6l Hro
            generalize ((stOf r.ll r.wl r.done).crash p).lasts = L6 at *
            go_loopw [15] (fun i wr => ∃ k3 : Nat, k3 ≤ m ∧ i = .int .i64 k3 ∧ LMem W b6 B pv p (Dk.fresh L6) r.ll r.wl (.slice vA r.wl.length vcap) S6 wr) (fun i _ => m - (intOf i).toNat)
            case atStart => exact ⟨0, Nat.zero_le _, rfl, HM6.out⟩
            case round =>
              obtain ⟨k3, hk3, rfl, hM7⟩ := hrel
              by_cases hlt3 : k3 < m
              · have hrd := read_at wr S6 noB b6 _ hM7.sys.disk rfl k3 (by rw [show (Dk.fresh L6).lasts = L6 from rfl, HLl.out]; exact hlt3)
                have hlk : k3 < r.ll.length := by rw [HLll.out]; exact hlt3
                obtain ⟨c0, hc0e⟩ : ∃ c0, r.ll[k3]? = some c0 := ⟨_, List.getElem?_eq_getElem hlk⟩
                have hsec := HL.out k3 c0 hc0e
                rw [show (Dk.fresh L6).read k3 = L6.getD k3 [] from rfl, hsec] at hrd
                have Hrd := Lib.hid hrd
                have HM7 := Lib.hid hM7
                have hbl : (Dk.secCells r.ll)[k3]? = some (.int .u8 (c0.toNat : Int)) := by rw [Dk.secCells, List.getElem?_map, hc0e]; rfl
                have Hbl := Lib.hid hbl
                clear hrd hsec hM7 hlk hbl hc0e
                have hk31 : (k3 : Int) < m := by omega
                go_wp2_with fail
                refine Hrd.out.mono ?_
                rintro e w7 ⟨rfl, hs7, hb7⟩
                have HM8 := Lib.hid (HM7.out.next hb7)
                have HS7 := Lib.hid hs7
                have hB7 : w7.cell? ⟨B, k3, none⟩ = some (.int .u8 (c0.toNat : Int)) := by rw [HM8.out.bytes.cell, List.getElem?_toArray]; exact Hbl.out
                clear hs7 hb7 HM7 Hrd
                go_wp2_with fail
                go_quiet (fail)
                go_wp2_with fail
                go_loopw [18, 19, 20, 21] (fun h t c i wr => ∃ k4 : Nat, k4 ≤ r.wl.length ∧ i = .int .i64 k4 ∧ h = .int .u8 ((htc p r.wl k3 c0 k4).1.toNat : Int) ∧ t = .int .u8 ((htc p r.wl k3 c0 k4).2.1.toNat : Int) ∧ c = .int .i64 ((htc p r.wl k3 c0 k4).2.2 : Int) ∧ LMem W b6 B pv p (Dk.fresh L6) r.ll r.wl (.slice vA r.wl.length vcap) S6 wr ∧ Fr noB w7 wr) (fun _ _ _ i _ => r.wl.length - (intOf i).toNat)
                case atStart => exact ⟨0, Nat.zero_le _, rfl, rfl, rfl, rfl, HM8.out.drewN _, (Fr.refl noB w7).drewN _⟩
                case round =>
                  obtain ⟨k4, hk4, rfl, rfl, rfl, rfl, hM9, hf9⟩ := hrel
                  by_cases hlt4 : k4 < r.wl.length
                  · obtain ⟨V, cap4, hv, s0, s1⟩ := hM9.wcell hlt4
                    injection hv with hv1 _ hv2
                    subst hv1
                    clear hv2
                    have hnx : htc p r.wl k3 c0 (k4 + 1) = if r.wl[k4].1 = k3 then (if (k4 : Int) = p.torn then (r.wl[k4].2, (htc p r.wl k3 c0 k4).2.1, p.cut.toNat) else if p.keep[k4]? = some true then (r.wl[k4].2, r.wl[k4].2, 0) else htc p r.wl k3 c0 k4) else htc p r.wl k3 c0 k4 := by
                      rw [htc, List.getElem?_eq_getElem hlt4]
                    have t0 : wr.cell? ⟨W.heap.size, 0, none⟩ = some pv := hM9.plan.cell 0
                    have t1 : wr.cell? ⟨W.heap.size, 1, none⟩ = some (.int .i64 p.torn) := hM9.plan.cell 1
                    have t2 : wr.cell? ⟨W.heap.size, 2, none⟩ = some (.int .i64 p.cut) := hM9.plan.cell 2
                    have hym := HAt.out _ (List.getElem_mem hlt4)
                    generalize r.wl[k4] = y at *
                    obtain ⟨y1, y2⟩ := y
                    have hym1 : (y1 : Int) < m := by have : y1 < m := hym; omega
                    clear hym
                    have hk41 : (k4 : Int) < r.wl.length := by omega
                    by_cases hy : y1 = k3
                    · have hyb : ((y1 : Int) != (k3 : Int)) = false := by rw [hy]; simp
                      rw [if_pos hy] at hnx
                      by_cases hto : (k4 : Int) = p.torn
                      · have htb : ((k4 : Int) == p.torn) = true := beq_iff_eq.2 hto
                        rw [if_pos hto] at hnx
                        have hcc : ((p.cut.toNat : Nat) : Int) = p.cut := by omega
                        have Hcc := Lib.hid hcc
                        have Hnx := Lib.hid hnx
                        have HM9 := Lib.hid hM9
                        have HF9 := Lib.hid hf9
                        clear hnx hM9 hf9 hy hto hcc
                        go_wp2_with fail
                        go_quiet (fail)
                        go_wp2_with fail
                        go_roundw
                        case rel => exact ⟨k4 + 1, by omega, by go_num, by rw [Hnx.out], by rw [Hnx.out], by rw [Hnx.out, Hcc.out], HM9.out.drewN _, HF9.out.drewN _⟩
                        case measure => simp [intOf]; omega
                      · have htb : ((k4 : Int) == p.torn) = false := beq_eq_false_iff_ne.2 hto
                        rw [if_neg hto] at hnx
                        have hkp : KeepAt wr (fun k => k < W.heap.size) pv p.keep := HP.out.keep (w' := wr) (S := fun k => W.heap.size ≤ k) ⟨hM9.sys.below.os, hM9.sys.below.tape, hM9.sys.below.output, hM9.sys.below.size, fun k _ hk => hM9.sys.below.block k (by omega)⟩ (fun k hk h => by omega)
                        obtain ⟨PA, pc, rfl, hpl, hpc⟩ := hkp
                        by_cases hkl : k4 < p.keep.length
                        · obtain ⟨pad, rfl, _, _, hpcc⟩ := hpc (by omega)
                          have hpk := hpcc k4 _ (List.getElem?_eq_getElem hkl)
                          have hkl1 : (k4 : Int) < p.keep.length := by omega
                          cases hkv : p.keep[k4] with
                          | true =>
                            rw [hkv] at hpk
                            rw [if_pos (by rw [List.getElem?_eq_getElem hkl, hkv])] at hnx
                            have Hnx := Lib.hid hnx
                            have HM9 := Lib.hid hM9
                            have HF9 := Lib.hid hf9
                            clear hnx hM9 hf9 hy hto hkv hpcc hpc
                            go_wp2_with fail
                            go_quiet (fail)
                            go_wp2_with fail
                            go_roundw
                            case rel => exact ⟨k4 + 1, by omega, by go_num, by rw [Hnx.out], by rw [Hnx.out], by rw [Hnx.out]; rfl, HM9.out.drewN _, HF9.out.drewN _⟩
                            case measure => simp [intOf]; omega
                          | false =>
                            rw [hkv] at hpk
                            rw [if_neg (by rw [List.getElem?_eq_getElem hkl, hkv]; simp)] at hnx
                            have Hnx := Lib.hid hnx
                            have HM9 := Lib.hid hM9
                            have HF9 := Lib.hid hf9
                            clear hnx hM9 hf9 hy hto hkv hpcc hpc
                            go_wp2_with fail
                            go_roundw
                            case rel => exact ⟨k4 + 1, by omega, by go_num, by rw [Hnx.out], by rw [Hnx.out], by rw [Hnx.out], HM9.out, HF9.out⟩
                            case measure => simp [intOf]; omega
                        · have hkl1 : decide (k4 < p.keep.length) = false := by simpa using hkl
                          rw [if_neg (by rw [List.getElem?_eq_none (by omega)]; simp)] at hnx
                          have Hnx := Lib.hid hnx
                          have HM9 := Lib.hid hM9
                          have HF9 := Lib.hid hf9
                          clear hnx hM9 hf9 hy hto hpc
                          go_wp2_with fail
                          go_roundw
                          case rel => exact ⟨k4 + 1, by omega, by go_num, by rw [Hnx.out], by rw [Hnx.out], by rw [Hnx.out], HM9.out, HF9.out⟩
                          case measure => simp [intOf]; omega
                    · have hyb : ((y1 : Int) != (k3 : Int)) = true := by rw [bne_iff_ne]; omega
                      rw [if_neg hy] at hnx
                      have Hnx := Lib.hid hnx
                      have HM9 := Lib.hid hM9
                      have HF9 := Lib.hid hf9
                      clear hnx hM9 hf9 hy
                      go_wp2_with fail
                      go_roundw
                      case rel => exact ⟨k4 + 1, by omega, by go_num, by rw [Hnx.out], by rw [Hnx.out], by rw [Hnx.out], HM9.out, HF9.out⟩
                      case measure => simp [intOf]; omega
                  · obtain rfl : k4 = r.wl.length := by omega
                    have hcut := (htc_cut hc1' r.wl k3 c0 r.wl.length).1
                    generalize htc p r.wl k3 c0 r.wl.length = q at *
                    obtain ⟨qh, qt, qc⟩ := q
                    have HS9 := Lib.hid (HS7.out.keep hf9 (fun h => h))
                    have HM9 := Lib.hid hM9
                    have hqc : (qc : Int) ≤ 128 := by have : qc ≤ 128 := hcut; omega
                    clear hM9 hf9 hcut
                    go_wp2_with fail
                    go_loop [22] (fun i => ∃ j : Nat, j ≤ 128 ∧ i = .int .i64 j) (fun i => 128 - (intOf i).toNat)
                    case atStart => exact ⟨0, Nat.zero_le _, rfl⟩
                    case round =>
                      obtain ⟨j, hj, rfl⟩ := hrel
                      by_cases hlt5 : j < 128
                      · have hb1 : ((qh.toNat : Int) != (qh.toNat : Int)) = false := by simp
                        have hb2 : ((qt.toNat : Int) != (qt.toNat : Int)) = false := by simp
                        have hcj := HS9.out.cell j
                        rw [List.getElem?_toArray, Dk.secCells, List.getElem?_map, mix_get _ _ _ (by omega) j hlt5] at hcj
                        have hj1 : (j : Int) < 128 := by omega
                        by_cases hjc : j < qc
                        · rw [if_pos hjc] at hcj
                          simp only [Option.map_some] at hcj
                          have hjc1 : (j : Int) < qc := by omega
                          generalize (qh.toNat : Int) = zh at *
                          go_wp2_with fail
                          go_round
                          case rel => exact ⟨j + 1, by omega, by go_num⟩
                          case measure => simp [intOf]; omega
                        · rw [if_neg hjc] at hcj
                          simp only [Option.map_some] at hcj
                          have hjc1 : (qc : Int) ≤ j := by omega
                          have hjc2 : decide (j < qc) = false := by simpa using hjc
                          generalize (qt.toNat : Int) = zt at *
                          go_wp2_with fail
                          go_round
                          case rel => exact ⟨j + 1, by omega, by go_num⟩
                          case measure => simp [intOf]; omega
                      · have hj1 : (128 : Int) ≤ j := by omega
                        go_wp2_with fail
                        go_roundw
                        case rel => exact ⟨k3 + 1, by omega, by go_num, HM9.out⟩
                        case measure => simp [intOf]; omega
              · have hk31 : (m : Int) ≤ k3 := by omega
                have HB7 := Lib.hid hM7.sys.below
                clear hM7
                go_wp2_with fail
                go_ret
                exact ⟨rfl, HB7.out⟩
end Go.Proofs.Ytpgpalnnmoanpaa

/-
  Flush: all that waits lasts, or the fuse crashes the disk.
-/
import Derived.Test.YthlmjnlakenmoaaDWrite
namespace Go.Proofs.Ythlmjnlakenmoaa
open Go.RowKit Go.Maps
set_option maxRecDepth 100000

/-- what holds behind k rounds of the flush -/
def FlushRel (w1 : World) (L cap : Nat) (d : Dk.St) (k : Nat) (wr : World) : Prop :=
  Fr (oneB L) w1 wr ∧ ∃ cur, Has wr L 108 cur ∧ cur.size = cap * 128 ∧ cur.toList.take (d.lasts.length * 128) = Dk.secs (Dk.flushed d.waits d.lasts k)

theorem flush_end {w wr W : World} {S R : Nat → Prop} {b L cap : Nat} {wv : Value} {M : Nat} {kv : Value} {d d' : Dk.St} (h : Lies w S R b L cap wv M kv d) (hd' : d'.Ok) (h1 : d'.lasts = Dk.flushed d.waits d.lasts d.waits.length) (h2 : d'.waits = []) (h3 : d'.plan = d.plan)
    (hr : FlushRel w L cap d d.waits.length wr) (hn2 : NewAt W wr.heap.size []) (hf2 : Fr (oneB b) wr W) (hb : Has W b 98 (diskCells (.slice (some ⟨L, 0, none⟩) d.lasts.length cap) (.slice none 0 0) wr.heap.size d' kv)) :
    Goes S R b d' w W := by
  obtain ⟨f, cur, hL, hcs, htk⟩ := hr
  obtain ⟨n1, n2, n3, n4⟩ := h.ne
  obtain ⟨cur0, hL0, hcs0, hnc0, hcm0, htk0⟩ := own_has h.lasts
  have hlen : d'.lasts.length = d.lasts.length := by rw [h1]; exact Dk.flushed_len _ _ _
  have hlw : w.heap.size ≤ wr.heap.size := f.size
  have hS : ∀ k, k = b ∨ k = L → S k := fun k hk => (h.own k).2 (by rcases hk with e | e; exact .inl e; exact .inr (.inl e))
  have ft : Fr S w W := (f.wide (T := S) (fun k _ e => hS k (.inr e))).trans hf2 (fun k _ e => hS k (.inl e))
  refine ⟨fun k => k = b ∨ k = L ∨ k = wr.heap.size, ⟨L, cap, .slice none 0 0, wr.heap.size, kv, ?_⟩, ft, ?_⟩
  · exact {
      ok := hd'
      box := by rw [hlen]; exact hb
      lasts := by
        rw [hlen]
        refine ⟨?_, .inr ⟨L, cap, cur, rfl, Nat.zero_le _, hL.keep hf2 (fun e => n1 (Eq.symm e)), hnc0, hcm0, hcs, by rw [h1]; exact htk⟩⟩
        rw [hd'.full.len, hlen]
      waits := by rw [h2]; exact World.ownsRow_nil _ _ _ _
      new := by rw [h2]; exact hn2
      kept := by rw [h3]; exact h.kept.keep ft h.apart
      own := fun k => by simp [Value.ownBlock]
      apart := fun k hk hs => by
        have := h.low k hk
        rcases hs with e | e | e
        · exact h.apart k hk (hS k (.inl e))
        · exact h.apart k hk (hS k (.inr e))
        · omega
      low := fun k hk => Nat.lt_of_lt_of_le (h.low k hk) ft.size }
  · intro k hk
    rcases hk with e | e | e
    · exact .inl (hS k (.inl e))
    · exact .inl (hS k (.inr e))
    · exact .inr (by omega)

set_option maxHeartbeats 800000 in
set_option maxRecDepth 100000 in
theorem flush_done (w : World) (S R : Nat → Prop) (b L cap : Nat) (wv : Value) (M : Nat) (kv : Value) (d : Dk.St) (h : Lies w S R b L cap wv M kv d) (hdead : d.dead = false) (hdue : d.due = false) (hm : d.waits.length ≤ 1000000) (hdone : d.done < 4611686018427387904) (hleft : d.left ≤ 9223372036854775807) :
    Calls Try.prog 41 #[.pointer (some ⟨b, 0, none⟩)] w fun e w' => e = .returned (.int .i64 0) ∧ Goes S R b d.flush w w' := by
  have hst := step_tick w S R b L cap wv M kv d h hdue hdone hleft
  have Hst := Lib.hid hst
  have c4 := h.cells.c4
  rw [hdead] at c4
  have hok := h.ok
  have H := Lib.hid h
  have hfl : d.flush = { d.tick with lasts := Dk.flushed d.tick.waits d.tick.lasts d.tick.waits.length, waits := [] } := by unfold Dk.St.flush; rw [hdue]; rfl
  have Hfl := Lib.hid hfl
  have Hok := Lib.hid (Dk.St.flush_ok hok)
  have hm' : d.tick.waits.length ≤ 1000000 := hm
  clear hst h hdue hdead hfl hdone hleft hok hm
  rw [Hfl.out] at Hok ⊢
  clear Hfl
  generalize d.tick = t at *
  go_enter Try.func41, Try.ntmps41
  go_wp2_with (go_at_call 58; refine (refuse_any _ _ false c4).mono ?_; rintro e w' ⟨rfl, rfl⟩)
  refine Hst.out.mono ?_
  rintro e w1 ⟨rfl, h1, hf1⟩
  obtain ⟨A, vcap, rfl, hA⟩ := wait_form h1.waits
  obtain ⟨c0, c1, c2, c3, c4', c5, c6, c7, c8, c9, hfz⟩ := h1.cells
  have H1 := Lib.hid h1
  have HA := Lib.hid hA
  have Hf1 := Lib.hid hf1
  clear hf1 h1 hA Hst c2 c3 c4' c5 c6 c7 c8 c9 hfz c0 c4
  go_wp2_with fail
  have hL1 := H1.out
  obtain ⟨cur0, hL0, hcs0, hnc0, hcm0, htk0⟩ := own_has hL1.lasts
  obtain ⟨n1, n2, n3, n4⟩ := hL1.ne
  have HN := Lib.hid n4
  clear n4 n2 n3 hcm0
  have hfs : ∀ k, FlushRel w1 L cap t k w1 → True := fun _ _ => trivial
  clear hfs
  have hcap := hnc0
  go_loopw [22] (fun i wr => ∃ k : Nat, k ≤ t.waits.length ∧ i = .int .i64 k ∧ FlushRel w1 L cap t k wr) (fun i _ => t.waits.length - (intOf i).toNat)
  case atStart => exact ⟨0, Nat.zero_le _, rfl, Fr.refl _ _, cur0, hL0, hcs0, htk0⟩
  case round =>
    obtain ⟨k, hk, rfl, hrel'⟩ := hrel
    obtain ⟨f, cur, hL, hcs, htk⟩ := hrel'
    have hb' := H1.out.box.keep f n1
    obtain ⟨e0, e1, _, _, _, _, _, _, _, _, efz⟩ := cells_of_has hb'
    have hok := H1.out.ok
    have hlen := Dk.flushed_len t.waits t.lasts k
    have hful := Dk.flushed_full hok.fullW hok.full k
    by_cases hlt : k < t.waits.length
    · obtain ⟨V, wcur, rfl, hV, hvt⟩ := HA.out (by omega)
      have hV1 := hV.keep f (fun e => (HN.out V rfl).2.1 (Eq.symm e))
      have hpart := wrs_part hok.fullW hlt hvt
      have hx := hok.fullW _ (List.getElem_mem hlt)
      have hstep : Dk.flushed t.waits t.lasts (k + 1) = (Dk.flushed t.waits t.lasts k).set t.waits[k].at_ t.waits[k].says := by
        rw [Dk.flushed, List.getElem?_eq_getElem hlt]
      generalize t.waits[k] = x at *
      obtain ⟨hx1, hx2⟩ := hx
      have hxl : (Dk.wrCells x).length = 129 := by rw [Dk.wrCells_len, hx1]
      have hsl : (Dk.secCells x.says).length = 128 := by rw [Dk.secCells_len, hx1]
      have hX : Has (wr.alloc (.cells (Dk.wrCells x).toArray 116)).drew wr.heap.size 116 (Dk.wrCells x).toArray := Has.of_alloc _ _ _
      have x0 : (wr.alloc (.cells (Dk.wrCells x).toArray 116)).drew.cell? ⟨wr.heap.size, 0, none⟩ = some (.int .i64 (x.at_ : Int)) := hX.cell 0
      have hB2 : Has (wr.alloc (.cells (Dk.wrCells x).toArray 116)).drew b _ _ := hb'.alloc _
      have y0 : (wr.alloc (.cells (Dk.wrCells x).toArray 116)).drew.cell? ⟨b, 0, none⟩ = some (.slice (some ⟨L, 0, none⟩) t.lasts.length cap) := hB2.cell 0
      have hL2 : Has (wr.alloc (.cells (Dk.wrCells x).toArray 116)).drew L _ _ := hL.alloc _
      have hz := zer_of inf_wr
      obtain ⟨fs, hfs⟩ := und_wr
      have hx3 : (x.at_ : Int) < t.lasts.length := by omega
      have hmost := hok.most
      have hkm1 : (k : Int) < t.waits.length := by omega
      have HV := Lib.hid hV1
      have Hpart := Lib.hid hpart
      have Hxl := Lib.hid hxl
      have Hsl := Lib.hid hsl
      have hR : (wr.alloc (.cells (Dk.wrCells x).toArray 116)).drew.rangeAt wr.heap.size 1 (Dk.secCells x.says) := fun j v hj => by
        rw [hX.cell, List.getElem?_toArray, Nat.add_comm 1 j, Dk.wrCells, List.getElem?_cons_succ]
        exact hj
      have HR := Lib.hid hR
      clear hR
      have HX := Lib.hid hX
      have HL2 := Lib.hid hL2
      have Hstep := Lib.hid hstep
      have Htk := Lib.hid htk
      have Hful := Lib.hid hful
      have Hlen := Lib.hid hlen
      have Hcs := Lib.hid hcs
      have Hx1 := Lib.hid hx1
      have Hf := Lib.hid f
      clear hV1 hpart hxl hsl hX hL2 hstep htk hful hlen hcs hx1 f htk0 hcs0 hL0 hV hvt hb' hB2 hL hok hx2
      go_wp2_with (first
        | (refine arm_load rfl 116 (.tmp 24) rfl V (k * 129) 129 rfl HV.out hfs rfl siz_wr (Dk.wrCells x) Hpart.out Hxl.out ?_)
        | (refine arm_fill rfl 116 (.tmp 6) (.tmp 25) rfl wr (Dk.wrCells x) rfl rfl 116 zero129 rfl (by rw [siz_wr, Hxl.out]) (by rw [Hxl.out, zero129_size]) (Dk.wrCells_one _) ?_)
        | fail)
      refine wp_region_still_tail 9 (by kernel_rfl) (by kernel_rfl) ?_
      change wpStill _ _ (World.drew _) _ _ _
      simp only [List.take_succ_cons, List.take_zero, List.drop_succ_cons, List.drop_zero]
      iterate 7 still_step
      refine still_load rfl _ _ rfl 33 rfl (.pointer (some ⟨wr.heap.size, 1, none⟩)) rfl (.agg (Dk.secCells x.says).toArray) (run_loadAt_mid _ wr.heap.size 1 _ (Dk.secCells x.says) _ HR.out und_sec rfl (by rw [Hsl.out]; exact siz_sec)) ?_
      still_step
      refine wpStill_nil ?_
      refine arm_store rfl 108 (.tmp 34) (.tmp 33) rfl L (x.at_ * 128) (Dk.secCells x.says) rfl rfl HL2.out (by rw [Hsl.out]; exact siz_sec) (by rw [Hsl.out, Hcs.out]; omega) (Dk.secCells_one _) ?_
      intro w3 hL3 hf3 hz3
      have Hrel : Hid (FlushRel w1 L cap t (k + 1) w3) := by
        refine Lib.hid ⟨(Hf.out.trans (((Fr.refl noB wr).alloc (.cells (Dk.wrCells x).toArray 116)).drew) (fun _ _ h => h.elim)).trans hf3 (fun _ _ h => h), _, hL3, ?_, ?_⟩
        · simp only [List.size_toArray, List.length_append, List.length_take, List.length_drop, Array.length_toList, Hsl.out, Hcs.out]
          omega
        · rw [Hstep.out, ← Dk.store_row Hful.out (by rw [Hlen.out]; omega) x.says Hx1.out]
          exact Dk.splice_take Htk.out _ _ (by rw [Hsl.out]; omega)
      clear hL3 hf3 hz3
      go_wp2_with fail
      go_roundw
      case rel => exact ⟨k + 1, by omega, by go_num, Hrel.out⟩
      case measure => simp [intOf]; omega
    · have hkm : k = t.waits.length := by omega
      have Hrel := Lib.hid (show FlushRel w1 L cap t k wr from ⟨f, cur, hL, hcs, htk⟩)
      have hfor := forget_any wr b _ _ _ _ _ _ _ _ _ _ hb'
      subst hkm
      have Hfor := Lib.hid hfor
      clear hfor hL htk hcs f htk0 hcs0 hL0 hb' hlen hful hok
      go_wp2_with (go_at_call 70; refine Hfor.out.mono ?_; rintro e w2 ⟨rfl, hb2, hn2, hf2, hz2⟩; have Hb2 := Lib.hid hb2; have Hn2 := Lib.hid hn2; have Hf2 := Lib.hid hf2; clear hb2 hn2 hf2 hz2)
      go_ret
      refine ⟨rfl, Goes.after (Hf1.out.wide (fun k _ e => (H1.out.own k).2 (.inl e))) (fun _ h => .inl h) (flush_end H1.out Hok.out rfl rfl rfl Hrel.out Hn2.out Hf2.out Hb2.out)⟩

theorem flush_due (w : World) (S R : Nat → Prop) (b L cap : Nat) (wv : Value) (M : Nat) (kv : Value) (d : Dk.St) (h : Lies w S R b L cap wv M kv d) (hdead : d.dead = false) (hdue : d.due = true) (hm : d.waits.length ≤ 1000000) :
    Calls Try.prog 41 #[.pointer (some ⟨b, 0, none⟩)] w fun e w' => e = .returned (.int .i64 20) ∧ Goes S R b d.flush w w' := by
  have hst := step_due w S R b L cap wv M kv d h hdue hm
  have Hst := Lib.hid hst
  have c4 := h.cells.c4
  rw [hdead] at c4
  have H := Lib.hid h
  have hfl : d.flush = d.crash d.plan := by unfold Dk.St.flush; rw [hdue]; rfl
  have Hfl := Lib.hid hfl
  clear hst h hdue hdead hfl
  go_enter Try.func41, Try.ntmps41
  go_wp2_with (first
    | (go_at_call 58; refine (refuse_any _ _ false c4).mono ?_; rintro e w' ⟨rfl, rfl⟩)
    | (go_at_call 69; refine Hst.out.mono ?_; rintro e w9 ⟨rfl, hg9⟩; have Hg9 := Lib.hid hg9; clear hg9))
  go_ret
  exact ⟨rfl, by rw [Hfl.out]; exact Hg9.out.widen fun k hk => ⟨H.out.apart k hk, H.out.low k hk⟩⟩

/-- P2.1: all that waits lasts -/
theorem flush_any (w : World) (S R : Nat → Prop) (b L cap : Nat) (wv : Value) (M : Nat) (kv : Value) (d : Dk.St) (h : Lies w S R b L cap wv M kv d) (hdead : d.dead = false) (hm : d.waits.length ≤ 1000000) (hdone : d.done < 4611686018427387904) (hleft : d.left ≤ 9223372036854775807) :
    Calls Try.prog 41 #[.pointer (some ⟨b, 0, none⟩)] w fun e w' => e = .returned (.int .i64 d.stepErr) ∧ Goes S R b d.flush w w' := by
  unfold Dk.St.stepErr
  cases hdue : d.due with
  | true => exact flush_due w S R b L cap wv M kv d h hdead hdue hm
  | false => exact flush_done w S R b L cap wv M kv d h hdead hdue hm hdone hleft
theorem flush_nil (w : World) : Calls Try.prog 41 #[.pointer none] w fun e w' => e = .returned (.int .i64 2) ∧ w = w' := by
  go_enter Try.func41, Try.ntmps41
  go_wp2_with (go_at_call 58; refine (refuse_nil _).mono ?_; rintro e w' ⟨rfl, rfl⟩)
  go_ret
  exact ⟨rfl, rfl⟩
theorem flush_dead (w : World) (b : Nat) (hc : w.cell? ⟨b, 4, none⟩ = some (.bool true)) : Calls Try.prog 41 #[.pointer (some ⟨b, 0, none⟩)] w fun e w' => e = .returned (.int .i64 20) ∧ w = w' := by
  go_enter Try.func41, Try.ntmps41
  go_wp2_with (go_at_call 58; refine (refuse_any _ _ true hc).mono ?_; rintro e w' ⟨rfl, rfl⟩)
  go_ret
  exact ⟨rfl, rfl⟩
theorem write_nil (w : World) (i : Int) (v : Value) : Calls Try.prog 67 #[.pointer none, .int .i64 i, v] w fun e w' => e = .returned (.int .i64 2) ∧ w = w' := by
  go_enter Try.func67, Try.ntmps67
  go_wp2_with (go_at_call 58; refine (refuse_nil _).mono ?_; rintro e w' ⟨rfl, rfl⟩)
  go_ret
  exact ⟨rfl, rfl⟩
theorem write_dead (w : World) (b : Nat) (i : Int) (v : Value) (hc : w.cell? ⟨b, 4, none⟩ = some (.bool true)) : Calls Try.prog 67 #[.pointer (some ⟨b, 0, none⟩), .int .i64 i, v] w fun e w' => e = .returned (.int .i64 20) ∧ w = w' := by
  go_enter Try.func67, Try.ntmps67
  go_wp2_with (go_at_call 58; refine (refuse_any _ _ true hc).mono ?_; rintro e w' ⟨rfl, rfl⟩)
  go_ret
  exact ⟨rfl, rfl⟩
theorem write_bad (w : World) (b : Nat) (i : Int) (a : Option Addr) (n cap : Nat) (A : Option Addr) (m mc : Nat) (hc : w.cell? ⟨b, 4, none⟩ = some (.bool false)) (h0 : w.cell? ⟨b, 0, none⟩ = some (.slice a n cap)) (hi : ¬ (0 ≤ i ∧ i < n) ∨ m ≠ 128) :
    Calls Try.prog 67 #[.pointer (some ⟨b, 0, none⟩), .int .i64 i, .slice A m mc] w fun e w' => e = .returned (.int .i64 1) ∧ w = w' := by
  have hd := has_any w b a n cap i h0
  by_cases h1 : 0 ≤ i ∧ i < n
  · have h2 : m ≠ 128 := by rcases hi with h | h; exact absurd h1 h; exact h
    have hb : ((m : Int) != 128) = true := by rw [bne_iff_ne]; omega
    rw [decide_eq_true h1] at hd
    have Hd := Lib.hid hd
    clear hd hi h1 h2
    go_enter Try.func67, Try.ntmps67
    go_wp2_with (first
      | (go_at_call 58; refine (refuse_any _ _ false hc).mono ?_; rintro e w' ⟨rfl, rfl⟩)
      | (go_at_call 77; refine Hd.out.mono ?_; rintro e w' ⟨rfl, rfl⟩))
    go_ret
    exact ⟨rfl, rfl⟩
  · rw [decide_eq_false h1] at hd
    have Hd := Lib.hid hd
    clear hd hi h1
    go_enter Try.func67, Try.ntmps67
    go_wp2_with (first
      | (go_at_call 58; refine (refuse_any _ _ false hc).mono ?_; rintro e w' ⟨rfl, rfl⟩)
      | (go_at_call 77; refine Hd.out.mono ?_; rintro e w' ⟨rfl, rfl⟩))
    go_ret
    exact ⟨rfl, rfl⟩
end Go.Proofs.Ythlmjnlakenmoaa
/-
  slices.Clone at sectors, writes and bools: the same cells in new memory.
-/
namespace Go.Proofs.Ythlmjnlakenmoaa
open Go.RowKit Go.Maps
set_option maxRecDepth 100000

theorem inf_bool : (Try.prog.info? 4).map (fun i => (i.zero, i.size, i.bytes)) = some (some (.bool false), 1, 1) := by kernel_rfl
/-- what a clone is -/
def CloneOf (w : World) (e : TypeId) (size n : Nat) (xs : List Value) (en : Ending) (w' : World) : Prop :=
  ∃ L' cap', en = .returned (.slice (some ⟨L', 0, none⟩) n cap') ∧ w'.ownsRow 0 e size (.slice (some ⟨L', 0, none⟩) n cap') n xs ∧ w.heap.size ≤ L' ∧ L' < w'.heap.size ∧ Below w.heap.size w w'
theorem clone_end {w w1 : World} {e : TypeId} {size n : Nat} {xs : List Value} {v' : Value} {t : TypeId} (h : w1.ownsRow 0 e size v' (0 + n) ([] ++ xs)) (hg : (w.alloc (.cells #[] t)).grownBy w1 (some w.heap.size)) (hnil : v' = .slice none 0 0 ↔ Value.slice (some ⟨w.heap.size, 0, none⟩) 0 0 = .slice none 0 0 ∧ n = 0)
    (hat : v'.ownBlock = some w.heap.size ∨ v'.ownBlock = some (w.alloc (.cells #[] t)).heap.size) : CloneOf w e size n xs (.returned v') w1 := by
  have hne : v' ≠ .slice none 0 0 := fun he => by have := (hnil.1 he).1; cases this
  rw [Nat.zero_add, List.nil_append] at h
  have hown := h
  rcases h.2 with ⟨h0, _⟩ | ⟨g, cap, cur, rfl, _, hgg, _⟩
  · exact absurd h0 hne
  · refine ⟨g, cap, rfl, hown, ?_, lt_of_block hgg, ((Below.refl w.heap.size w).alloc (Nat.le_refl _) _).grown hg (by simp) (fun k hk => by injection hk with hk; omega)⟩
    rcases hat with hat | hat
    · have : g = w.heap.size := by simpa [Value.ownBlock] using hat
      omega
    · have : g = w.heap.size + 1 := by simpa [Value.ownBlock] using hat
      omega

set_option maxHeartbeats 400000 in
theorem clone_secs (w : World) (ad : Addr) (n cap : Nat) (xs : List Value) (hl : xs.length = n * 128) (hc : ∀ j u, xs[j]? = some u → w.cell? (ad.add j) = some u) (hm : n ≤ 1000000) (h1 : ∀ u ∈ xs, u.oneCell' = true) :
    Calls Try.prog 63 #[.slice (some ad) n cap] w (CloneOf w 108 128 n xs) := by
  obtain ⟨i0, hi, hz0, hz1, hz2⟩ := info_parts inf_sec
  have hsrc : ∀ j u, xs[j]? = some u → (w.alloc (.cells #[] 108)).cell? (ad.add j) = some u := fun j u hj => by
    rw [World.cell?_alloc_lt _ _ _ (block_lt_of_cell (hc j u hj))]; exact hc j u hj
  have H := Lib.hid hsrc
  have Hl := Lib.hid hl
  have H1 := Lib.hid h1
  have Hi := Lib.hid hi
  have Z0 := Lib.hid hz0
  have Z1 := Lib.hid hz1
  have Z2 := Lib.hid hz2
  have q := fun (w : World) => Lib.run_eql_slice_nil (P := Try.prog) w _ _ (some ad) n cap 0 0 und_secs
  clear hsrc hl h1 hz0 hz1 hz2 hi hc
  go_enter Try.func63, Try.ntmps63
  go_wp2_with (at_builtin; refine wpList_append_own_at _ rfl (.tmp 5) (.tmp 6) _ rfl 0 108 i0 _ 128 128 und_secs Hi.out Z0.out Z1.out Z2.out zero128_size (by omega) (.slice (some ⟨w.heap.size, 0, none⟩) 0 0) 0 [] rfl (World.ownsRow_made w #[] 0 (Nat.zero_le _) (Nat.zero_le _) rfl) ad n cap xs rfl Hl.out H.out H1.out (by unfold maxLen; omega) (by omega) (Nat.zero_le _) ?_; intro v' w1 hown hg hnil hat; have Ho := Lib.hid hown; have Hg := Lib.hid hg; have Hn := Lib.hid hnil; have Ha := Lib.hid hat; clear hown hg hnil hat)
  go_ret
  exact clone_end Ho.out Hg.out Hn.out Ha.out

set_option maxHeartbeats 400000 in
theorem clone_bools (w : World) (ad : Addr) (n cap : Nat) (xs : List Value) (hl : xs.length = n * 1) (hc : ∀ j u, xs[j]? = some u → w.cell? (ad.add j) = some u) (hm : n ≤ 140737488355328) (h1 : ∀ u ∈ xs, u.oneCell' = true) :
    Calls Try.prog 62 #[.slice (some ad) n cap] w (CloneOf w 4 1 n xs) := by
  obtain ⟨i0, hi, hz0, hz1, hz2⟩ := info_parts inf_bool
  have hsrc : ∀ j u, xs[j]? = some u → (w.alloc (.cells #[] 4)).cell? (ad.add j) = some u := fun j u hj => by
    rw [World.cell?_alloc_lt _ _ _ (block_lt_of_cell (hc j u hj))]; exact hc j u hj
  have H := Lib.hid hsrc
  have Hl := Lib.hid hl
  have H1 := Lib.hid h1
  have Hi := Lib.hid hi
  have Z0 := Lib.hid hz0
  have Z1 := Lib.hid hz1
  have Z2 := Lib.hid hz2
  have q := fun (w : World) => Lib.run_eql_slice_nil (P := Try.prog) w _ _ (some ad) n cap 0 0 und_bools
  clear hsrc hl h1 hz0 hz1 hz2 hi hc
  go_enter Try.func62, Try.ntmps62
  go_wp2_with (at_builtin; refine wpList_append_own_at _ rfl (.tmp 5) (.tmp 6) _ rfl 0 4 i0 _ 1 1 und_bools Hi.out Z0.out Z1.out Z2.out rfl (by omega) (.slice (some ⟨w.heap.size, 0, none⟩) 0 0) 0 [] rfl (World.ownsRow_made w #[] 0 (Nat.zero_le _) (Nat.zero_le _) rfl) ad n cap xs rfl Hl.out H.out H1.out (by unfold maxLen; omega) (by omega) (Nat.zero_le _) ?_; intro v' w1 hown hg hnil hat; have Ho := Lib.hid hown; have Hg := Lib.hid hg; have Hn := Lib.hid hnil; have Ha := Lib.hid hat; clear hown hg hnil hat)
  go_ret
  exact clone_end Ho.out Hg.out Hn.out Ha.out

theorem clone_bools_nil (w : World) (n cap : Nat) : Calls Try.prog 62 #[.slice none n cap] w fun e w' => e = .returned (.slice none 0 0) ∧ w = w' := by
  have q := fun (w : World) => Lib.run_eql_slice_nil (P := Try.prog) w _ _ none n cap 0 0 und_bools
  go_enter Try.func62, Try.ntmps62
  go_wp2
  go_ret
  exact ⟨rfl, rfl⟩
end Go.Proofs.Ythlmjnlakenmoaa

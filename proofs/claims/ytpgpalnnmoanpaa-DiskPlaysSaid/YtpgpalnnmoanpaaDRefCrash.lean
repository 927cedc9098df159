/-
  Crash of the disk by its words: refused, or each write that waits is kept, torn, or lost.
-/
import Derived.Test.YtpgpalnnmoanpaaDBytes
namespace Go.Proofs.Ytpgpalnnmoanpaa
open Go.RowKit Go.Maps

theorem run_head (g c : Nat) (z : Int) (k : Nat) (hz : z = (k : Int)) (hk : k ≤ 128) (hc : 128 ≤ c) (w : World) : (Instr.sliceAt 34 (.slice (some ⟨g, 0, none⟩) 128 c) none (some (.int .i64 z)) none).run Try.prog w = .ok (.slice (some ⟨g, 0, none⟩) k c) w := by
  subst hz
  have he : Try.prog.elem 34 = 5 := by kernel_rfl
  have ht : Try.prog.underlying 34 = some (.slice (Try.prog.elem 34)) := by rw [he]; exact und_bytes
  have hsz : ∀ w, (Go.sizeOf 5).run Try.prog w = .ok 1 w := by
    intro w
    obtain ⟨i0, hi, hz0, hz1, hz2⟩ := info_parts inf_u8
    simp [Go.sizeOf, typeInfo, hi, hz1]
  rw [run_sliceAt_slice w _ _ _ _ _ ht, run_slice_h w _ (some ⟨g, 0, none⟩) 128 c ht .i64 (k : Int) (by omega) (by omega), he, hsz, Result.andThen_ok]
  have e2 : ¬ c = 0 := by omega
  simp [sliced, Addr.add, e2]
theorem run_tail (g c : Nat) (z : Int) (k : Nat) (hz : z = (k : Int)) (hk : k ≤ 128) (_ : 128 ≤ c) (w : World) : (Instr.sliceAt 34 (.slice (some ⟨g, 0, none⟩) 128 c) (some (.int .i64 z)) none none).run Try.prog w = .ok (.slice (some ⟨g, if c = k then 0 else k, none⟩) (128 - k) (c - k)) w := by
  subst hz
  have he : Try.prog.elem 34 = 5 := by kernel_rfl
  have ht : Try.prog.underlying 34 = some (.slice (Try.prog.elem 34)) := by rw [he]; exact und_bytes
  have hsz : ∀ w, (Go.sizeOf 5).run Try.prog w = .ok 1 w := by
    intro w
    obtain ⟨i0, hi, hz0, hz1, hz2⟩ := info_parts inf_u8
    simp [Go.sizeOf, typeInfo, hi, hz1]
  rw [run_sliceAt_slice w _ _ _ _ _ ht, run_slice_l w _ (some ⟨g, 0, none⟩) 128 c ht .i64 (k : Int) (by omega) (by omega), he, hsz, Result.andThen_ok]
  by_cases hck : c = k
  · simp [sliced, hck]
  · simp [sliced, hck, Addr.add_mid]

theorem rcrash_dead (w : World) (x : Nat) (pv : Value) (t c : Int) (hc : w.cell? ⟨x, 3, none⟩ = some (.bool true)) :
    Calls Try.prog 30 #[.pointer (some ⟨x, 0, none⟩), .agg #[pv, .int .i64 t, .int .i64 c]] w fun e w' => e = .returned (.int .i64 20) ∧ Below w.heap.size w w' := by
  have c3 : (w.alloc (.cells #[pv, .int .i64 t, .int .i64 c] 68)).cell? ⟨x, 3, none⟩ = some (.bool true) := (World.cell?_alloc_lt _ _ _ (block_lt_of_cell hc)).trans hc
  have HB := Lib.hid ((Below.refl w.heap.size w).alloc (Nat.le_refl _) (.cells #[pv, .int .i64 t, .int .i64 c] 68))
  go_enter Try.func30, Try.ntmps30
  go_wp2_with fail
  go_ret
  exact ⟨rfl, HB.out⟩
theorem rcrash_bad (w : World) (x : Nat) (pv : Value) (t c : Int) (hc : w.cell? ⟨x, 3, none⟩ = some (.bool false)) (h : ¬ (0 ≤ c ∧ c ≤ 128)) :
    Calls Try.prog 30 #[.pointer (some ⟨x, 0, none⟩), .agg #[pv, .int .i64 t, .int .i64 c]] w fun e w' => e = .returned (.int .i64 1) ∧ Below w.heap.size w w' := by
  have c3 : (w.alloc (.cells #[pv, .int .i64 t, .int .i64 c] 68)).cell? ⟨x, 3, none⟩ = some (.bool false) := (World.cell?_alloc_lt _ _ _ (block_lt_of_cell hc)).trans hc
  have HB := Lib.hid ((Below.refl w.heap.size w).alloc (Nat.le_refl _) (.cells #[pv, .int .i64 t, .int .i64 c] 68))
  rcases Int.lt_or_le c 0 with h0 | h0
  · have hg0 : decide (c < 0) = true := decide_eq_true h0
    clear h h0
    go_enter Try.func30, Try.ntmps30
    go_wp2_with fail
    go_ret
    exact ⟨rfl, HB.out⟩
  · have hg0 : decide (c < 0) = false := decide_eq_false (by omega)
    have hg1 : decide (128 < c) = true := decide_eq_true (by omega)
    clear h h0
    go_enter Try.func30, Try.ntmps30
    go_wp2_with fail
    go_ret
    exact ⟨rfl, HB.out⟩

/-- the beginning of a sector, as bytes that are read -/
theorem rd_take {w : World} {I : Nat → Prop} {g c n B : Nat} {y : Dk.Sec} (h : SecAt w I (.slice (some ⟨g, 0, none⟩) 128 c) y) (hB : g < B) (hn : n ≤ 128) : Rd w B (some ⟨g, 0, none⟩) (y.take n) := by
  obtain ⟨g', c', e, _, _, hc⟩ := h
  injection e with e _ _
  injection e with e
  injection e with e
  subst e
  refine ⟨by rw [List.length_take]; omega, fun _ => ⟨g, 0, rfl, hB, fun j u hj => ?_⟩⟩
  rw [Nat.zero_add]
  refine hc j u ?_
  rw [Dk.secCells_take] at hj
  rw [List.getElem?_take] at hj
  split at hj
  · exact hj
  · cases hj
theorem rd_drop {w : World} {I : Nat → Prop} {g c n B : Nat} {y : Dk.Sec} (h : SecAt w I (.slice (some ⟨g, 0, none⟩) 128 c) y) (hy : y.length = 128) (hB : g < B) (hn : n ≤ 128) (hc : 128 ≤ c) : Rd w B (some ⟨g, if c = n then 0 else n, none⟩) (y.drop n) := by
  obtain ⟨g', c', e, _, _, hcc⟩ := h
  injection e with e _ _
  injection e with e
  injection e with e
  subst e
  refine ⟨by rw [List.length_drop]; omega, fun h0 => ⟨g, _, rfl, hB, fun j u hj => ?_⟩⟩
  rw [List.length_drop] at h0
  rw [if_neg (by omega)]
  refine hcc (n + j) u ?_
  rw [Dk.secCells_drop, List.getElem?_drop] at hj
  exact hj
/-- what the torn write's statement reads, whatever was made meanwhile -/
structure TornS (x L lcap n lo a P0 : Nat) (p : Dk.Pl) (w : World) : Prop where
  box : w.cell? ⟨x, 0, none⟩ = some (.slice (some ⟨L, 0, none⟩) n lcap)
  at_ : w.cell? ⟨lo, 0, none⟩ = some (.int .i64 (a : Int))
  cut : w.cell? ⟨P0, 2, none⟩ = some (.int .i64 p.cut)
theorem sec_of_own {w : World} {B : Nat} {v : Value} {s : Dk.Sec} (h : OwnV w B v s) (hs : s.length = 128) :
    ∃ g c, v = .slice (some ⟨g, 0, none⟩) 128 c ∧ B ≤ g ∧ g < w.heap.size ∧ ∀ (I : Nat → Prop), I g → SecAt w I (.slice (some ⟨g, 0, none⟩) 128 c) s := by
  have hrow := h
  rcases h.2 with ⟨_, h0⟩ | ⟨g, cap, cur, rfl, hb, hg, h1, h2, h3, h4⟩
  · omega
  · refine ⟨g, cap, by rw [hs], hb, lt_of_block hg, fun I hi => ⟨g, cap, rfl, ⟨hi, by omega⟩, lt_of_block hg, fun j u hj => ?_⟩⟩
    have := hrow.cells (g := g) rfl j u hj
    rw [Addr.add_mid, Nat.zero_add] at this
    exact this
theorem RLies.widen {w : World} {S I I2 : Nat → Prop} {x : Nat} {lv wv kv : Value} {ls vs : List Value} {lit : Bool} {left : Nat} {p : Dk.Pl} {d : Dk.St} (h : RLies w S I x lv wv kv ls vs lit left p d) (hI : ∀ k, I k → I2 k) (hn : ∀ k, I2 k → I k ∨ (¬ S k ∧ k < w.heap.size)) : RLies w S I2 x lv wv kv ls vs lit left p d :=
  { ok := h.ok, box := h.box, lives := h.lives, lasts := h.lasts, waits := h.waits, vlen := h.vlen
    secs := fun k s hk => by obtain ⟨v, e1, e2⟩ := h.secs k s hk; exact ⟨v, e1, e2.mono hI⟩
    wrs := fun k s hk => by obtain ⟨v, e1, e2⟩ := h.wrs k s hk; exact ⟨v, e1, e2.mono hI⟩
    kept := h.kept.mono hI, own := h.own
    apart := fun k hk => by rcases hn k hk with e | e; exact h.apart k e; exact e.1
    low := fun k hk => by rcases hn k hk with e | e; exact h.low k e; exact e.2 }
/-- behind k writes of a crash -/
def CrRel (w1 : World) (S I : Nat → Prop) (x L lcap : Nat) (wv kv : Value) (vs : List Value) (lit : Bool) (left : Nat) (p0 : Dk.Pl) (d : Dk.St) (p : Dk.Pl) (k : Nat) (wr : World) : Prop :=
  Fr S w1 wr ∧ ∃ ls' I', RLies wr S I' x (.slice (some ⟨L, 0, none⟩) d.lasts.length lcap) wv kv ls' vs lit left p0 (St.lasting d (Dk.crashed p d.waits d.lasts k)) ∧ ∀ j, I' j → I j ∨ w1.heap.size ≤ j
theorem tear_all (s y : Dk.Sec) (hs : s.length = 128) (hy : y.length = 128) : Dk.tear s y 128 = y := by
  unfold Dk.tear
  rw [List.take_of_length_le (by omega), List.drop_eq_nil_of_le (by omega), List.append_nil]
theorem tear_none (s y : Dk.Sec) : Dk.tear s y 0 = s := by simp [Dk.tear]
theorem set_getD (l : List Dk.Sec) (i : Nat) (hi : i < l.length) : l.set i (l.getD i []) = l := by
  rw [List.getD_eq_getElem?_getD, List.getElem?_eq_getElem hi, Option.getD_some, List.set_getElem_self]

set_option maxHeartbeats 1600000 in
set_option maxRecDepth 100000 in
theorem rcrash_ok (w : World) (S I R0 : Nat → Prop) (x : Nat) (d : Dk.St) (h : RefAt w S I x d) (hdead : d.dead = false) (pv : Value) (p : Dk.Pl) (hp : KeepAt w R0 pv p.keep) (hR : ∀ k, R0 k → ¬ S k) (hp0 : 0 ≤ p.cut) (hp1 : p.cut ≤ 128) (hm : d.waits.length ≤ 1000000) :
    Calls Try.prog 30 #[.pointer (some ⟨x, 0, none⟩), planV pv p] w fun e w' => e = .returned (.int .i64 0) ∧ RGoes S I x (d.crash p) w w' := by
  obtain ⟨lv, wv, kv, ls, vs, lit, left, p0, h⟩ := h
  have hxS : S x := (h.own x).2 (.inl rfl)
  have hg0 : decide (p.cut < 0) = false := decide_eq_false (by omega)
  have hg1 : decide (128 < p.cut) = false := decide_eq_false (by omega)
  obtain ⟨L, lcap, v0, rfl, j0, j1⟩ := h.lcell (k := 0) (by have := h.ok.some_; omega)
  obtain ⟨A, c, rfl⟩ := h.wform
  clear j0 j1
  have hSlt := h.lt
  have hf1 : Fr noB w (w.alloc (.cells #[pv, .int .i64 p.torn, .int .i64 p.cut] 68)) := (Fr.refl noB w).alloc _
  have h1 := h.keep hf1 (fun _ e => e.elim)
  have hK1 := hp.keep hf1 (fun _ _ e => e)
  have hP1 : Has (w.alloc (.cells #[pv, .int .i64 p.torn, .int .i64 p.cut] 68)) w.heap.size 68 #[pv, .int .i64 p.torn, .int .i64 p.cut] := Has.of_alloc _ _ _
  have c3 : (w.alloc (.cells #[pv, .int .i64 p.torn, .int .i64 p.cut] 68)).cell? ⟨x, 3, none⟩ = some (.bool false) := by rw [← hdead]; exact h1.c3
  have t2 : (w.alloc (.cells #[pv, .int .i64 p.torn, .int .i64 p.cut] 68)).cell? ⟨w.heap.size, 2, none⟩ = some (.int .i64 p.cut) := hP1.cell 2
  have hPS : ¬ S w.heap.size := fun e => by have := hSlt _ e; omega
  have hw1 : w.heap.size < (w.alloc (.cells #[pv, .int .i64 p.torn, .int .i64 p.cut] 68)).heap.size := hP1.lt
  have H1 := Lib.hid h1
  have HK1 := Lib.hid hK1
  have HP1 := Lib.hid hP1
  have HF1 := Lib.hid hf1
  have HPS := Lib.hid hPS
  have HR := Lib.hid hR
  clear h h1 hp hK1 hP1 hf1 hR hPS hdead hSlt
  unfold planV
  go_enter Try.func30, Try.ntmps30
  go_wp2_with fail
  generalize (w.alloc (.cells #[pv, .int .i64 p.torn, .int .i64 p.cut] 68)) = w1 at *
  generalize hP0 : w.heap.size = P0 at *
  have HP0 := Lib.hid hP0
  clear hP0
  clear c3 t2
  go_loopw [5] (fun i wr => ∃ k : Nat, k ≤ d.waits.length ∧ i = .int .i64 k ∧ CrRel w1 S I x L lcap (.slice A d.waits.length c) kv vs lit left p0 d p k wr) (fun i _ => d.waits.length - (intOf i).toNat)
  case atStart => exact ⟨0, Nat.zero_le _, rfl, Fr.refl _ _, ls, I, H1.out, fun _ e => .inl e⟩
  case round =>
    rename_i wr
    obtain ⟨k, hk, rfl, hF, ls', I', hr, hI'⟩ := hrel
    have c1 : wr.cell? ⟨x, 1, none⟩ = some (.slice A d.waits.length c) := hr.c1
    by_cases hlt : k < d.waits.length
    · obtain ⟨V, cap, v, hv, w0, wv1, hs⟩ := hr.wcell (k := k) hlt
      injection hv with hv1 hq3 hv2
      subst hv1
      clear hv2 hq3
      have hyok := H1.out.ok.fullW _ (List.getElem_mem hlt)
      have hlen := Dk.crashed_len p d.waits d.lasts k
      have hstep : Dk.crashed p d.waits d.lasts (k + 1) = (Dk.crashed p d.waits d.lasts k).set d.waits[k].at_ (Dk.tear ((Dk.crashed p d.waits d.lasts k).getD d.waits[k].at_ []) d.waits[k].says (p.kept k)) := by
        rw [Dk.crashed, List.getElem?_eq_getElem hlt]
      obtain ⟨L', lcap', vo, hvv, hcell, hso⟩ := hr.lcell (k := d.waits[k].at_) (by show d.waits[k].at_ < (Dk.crashed p d.waits d.lasts k).length; rw [hlen]; exact hyok.2)
      injection hvv with hvv hq1 hq2
      injection hvv with hvv
      injection hvv with hvv
      subst hvv
      clear hq1 hq2
      have hold : (St.lasting d (Dk.crashed p d.waits d.lasts k)).lasts[d.waits[k].at_]'(by show d.waits[k].at_ < (Dk.crashed p d.waits d.lasts k).length; rw [hlen]; exact hyok.2) = (Dk.crashed p d.waits d.lasts k).getD d.waits[k].at_ [] := by
        rw [List.getD_eq_getElem?_getD, List.getElem?_eq_getElem (by rw [hlen]; exact hyok.2)]
        rfl
      rw [hold] at hso
      have hofull := Dk.getD_full (Dk.crashed_full hp1 H1.out.ok.fullW H1.out.ok.full k) (i := d.waits[k].at_) (by rw [hlen]; exact hyok.2)
      have hself := set_getD (Dk.crashed p d.waits d.lasts k) d.waits[k].at_ (by rw [hlen]; exact hyok.2)
      have hll : wr.ownsRow 0 34 1 (.slice (some ⟨L, 0, none⟩) d.lasts.length lcap) d.lasts.length ls' := by
        have := hr.lasts
        rw [show (St.lasting d (Dk.crashed p d.waits d.lasts k)).lasts.length = d.lasts.length from hlen] at this
        exact this
      obtain ⟨cur, hLh, _, _, _, _⟩ := own_has hll
      have hPr : Has wr P0 68 #[pv, .int .i64 p.torn, .int .i64 p.cut] := HP1.out.keep hF HPS.out
      have hKr : KeepAt wr R0 pv p.keep := HK1.out.keep hF HR.out
      have hat := hyok.2
      have hsays := hyok.1
      have w0' : wr.cell? ⟨V, k * 2, none⟩ = some (.int .i64 (d.waits[k].at_ : Int)) := w0
      have hs' : SecAt wr I' v d.waits[k].says := hs
      have hr' : RLies wr S I' x (.slice (some ⟨L, 0, none⟩) d.lasts.length lcap) (.slice (some ⟨V, 0, none⟩) d.waits.length c) kv ls' vs lit left p0 (St.lasting d (Dk.crashed p d.waits d.lasts k)) := hr
      have HStep := Lib.hid hstep
      have HSelf := Lib.hid hself
      clear hr hs hold w0 hyok hstep hself hll
      generalize d.waits[k].at_ = a at *
      generalize d.waits[k].says = y at *
      generalize hX : (Dk.crashed p d.waits d.lasts k) = X at *
      generalize (X.getD a []) = o at *
      have HXL : Hid (X.length = d.lasts.length) := Lib.hid hlen
      clear hlen
      have hat1 : (a : Int) < d.lasts.length := by omega
      have hmost := H1.out.ok.most
      have hk1 : (k : Int) < d.waits.length := by omega
      have hL : S L := (hr'.own L).2 (.inr (.inl rfl))
      have hPlt := hPr.lt
      have hVlt := block_lt_of_cell w0'
      have hxlt := hr'.box.lt
      -- the world in which the write has been laid aside
      have hfa : Fr noB wr (wr.alloc (.cells #[.int .i64 (a : Int), v] 88)) := (Fr.refl noB wr).alloc _
      have hPa := hPr.keep hfa (fun e => e)
      have hra := hr'.keep hfa (fun _ e => e.elim)
      have hKa := hKr.keep hfa (fun _ _ e => e)
      have hlo : Has (wr.alloc (.cells #[.int .i64 (a : Int), v] 88)) wr.heap.size 88 #[.int .i64 (a : Int), v] := Has.of_alloc _ _ _
      have hFa : Fr S w1 (wr.alloc (.cells #[.int .i64 (a : Int), v] 88)) := hF.alloc _
      have hva := hs'.keep hfa (fun _ _ e => e)
      have hoa := hso.keep hfa (fun _ _ e => e)
      have hLa := hLh.keep hfa (fun e => e)
      have t1a : (wr.alloc (.cells #[.int .i64 (a : Int), v] 88)).cell? ⟨P0, 1, none⟩ = some (.int .i64 p.torn) := hPa.cell 1
      have hcella : (wr.alloc (.cells #[.int .i64 (a : Int), v] 88)).cell? ⟨L, a, none⟩ = some vo := (World.cell?_alloc_lt _ _ _ hLh.lt).trans hcell
      obtain ⟨gy, cy, rfl, hiy, hgy, hcy⟩ := hs'
      have HR' := Lib.hid hr'
      have HRa := Lib.hid hra
      have HKa := Lib.hid hKa
      have HPa := Lib.hid hPa
      have HLo := Lib.hid hlo
      have HFa := Lib.hid hFa
      have HVa := Lib.hid hva
      have HOa := Lib.hid hoa
      have HLa := Lib.hid hLa
      have HX := Lib.hid hX
      have HF0 := Lib.hid hF
      have HI := Lib.hid hI'
      have Hcella := Lib.hid hcella
      clear hcell hso hLh hPr hKr hr' hra hKa hPa hlo hFa hva hoa hLa hX hF hI' hcella hgy hcy hfa
      by_cases he : (k : Int) = p.torn
      · have hb : ((k : Int) == p.torn) = true := beq_iff_eq.2 he
        have hkept : p.kept k = p.cut.toNat := by unfold Dk.Pl.kept; rw [if_pos he]
        rw [hkept] at HStep
        clear he hkept
        obtain ⟨go, co, rfl, hio, hgo, hco⟩ := HOa.out
        obtain ⟨gv, cv, hvv, hiv, hgv, hcv⟩ := HVa.out
        injection hvv with hvv _ hvc
        injection hvv with hvv
        injection hvv with hvv
        subst hvv hvc
        have hcz : p.cut = ((p.cut.toNat : Nat) : Int) := by omega
        have hc128 : p.cut.toNat ≤ 128 := by omega
        have hhead := run_head gy cy p.cut p.cut.toNat hcz hc128 hiv.2
        have htail := run_tail go co p.cut p.cut.toNat hcz hc128 hio.2
        have HTail := Lib.hid htail
        clear htail
        -- what is read behind the making of b
        have hfb : Fr noB (wr.alloc (.cells #[.int .i64 (a : Int), .slice (some ⟨gy, 0, none⟩) 128 cy] 88)) ((wr.alloc (.cells #[.int .i64 (a : Int), .slice (some ⟨gy, 0, none⟩) 128 cy] 88)).alloc (.cells #[] 5)) := (Fr.refl noB _).alloc _
        have t2b : ((wr.alloc (.cells #[.int .i64 (a : Int), .slice (some ⟨gy, 0, none⟩) 128 cy] 88)).alloc (.cells #[] 5)).cell? ⟨P0, 2, none⟩ = some (.int .i64 p.cut) := (HPa.out.keep hfb (fun e => e)).cell 2
        have t1b : ((wr.alloc (.cells #[.int .i64 (a : Int), .slice (some ⟨gy, 0, none⟩) 128 cy] 88)).alloc (.cells #[] 5)).cell? ⟨wr.heap.size, 1, none⟩ = some (.slice (some ⟨gy, 0, none⟩) 128 cy) := (HLo.out.keep hfb (fun e => e)).cell 1
        have hsb : wr.heap.size < (wr.alloc (.cells #[.int .i64 (a : Int), .slice (some ⟨gy, 0, none⟩) 128 cy] 88)).heap.size := HLo.out.lt
        have hsz1 : (wr.alloc (.cells #[.int .i64 (a : Int), .slice (some ⟨gy, 0, none⟩) 128 cy] 88)).heap.size = wr.heap.size + 1 := by simp
        have rdy : Rd ((wr.alloc (.cells #[.int .i64 (a : Int), .slice (some ⟨gy, 0, none⟩) 128 cy] 88)).alloc (.cells #[] 5)) (wr.heap.size + 1) (some ⟨gy, 0, none⟩) (y.take p.cut.toNat) := rd_take ((HVa.out).keep hfb (fun _ _ e => e)) (by rw [← hsz1]; exact hgv) hc128
        have RDy := Lib.hid rdy
        have hyt : (y.take p.cut.toNat).length = p.cut.toNat := by rw [List.length_take]; omega
        have HYT := Lib.hid hyt
        have o0 : OwnV ((wr.alloc (.cells #[.int .i64 (a : Int), .slice (some ⟨gy, 0, none⟩) 128 cy] 88)).alloc (.cells #[] 5)) (wr.heap.size + 1) (.slice (some ⟨wr.heap.size + 1, 0, none⟩) 0 0) [] := by
          have := (Own.none_ (wr.alloc (.cells #[.int .i64 (a : Int), .slice (some ⟨gy, 0, none⟩) 128 cy] 88)) (wr.heap.size + 1) (by rw [hsz1]; omega)).row
          rw [hsz1] at this
          exact this
        have O0 := Lib.hid o0
        have hbb : Below (wr.heap.size + 1) (wr.alloc (.cells #[.int .i64 (a : Int), .slice (some ⟨gy, 0, none⟩) 128 cy] 88)) ((wr.alloc (.cells #[.int .i64 (a : Int), .slice (some ⟨gy, 0, none⟩) 128 cy] 88)).alloc (.cells #[] 5)) := (Below.refl _ _).alloc (by rw [hsz1]; omega) _
        have HS1 := Lib.hid hsz1
        clear hsz1
        have HBB := Lib.hid hbb
        have HCZ := Lib.hid hcz
        clear rdy o0 hbb hyt hcz
        go_wp2_with (refine wpList_append_v rfl (.tmp 41) (.tmp 46) rfl (wr.heap.size + 1) _ [] rfl O0.out (wr.heap.size + 1) (some ⟨gy, 0, none⟩) (y.take p.cut.toNat) cy (by rw [HYT.out]; rfl) RDy.out (fun e => by cases e) (by rw [HYT.out]; simp; omega) (by simp) _ HBB.out ?_; intro vb wb OB BB; have OB' : Hid (OwnV wb (wr.heap.size + 1) vb (y.take p.cut.toNat)) := OB; clear OB)
        have hW1 : Below (wr.alloc (.cells #[.int .i64 (a : Int), .slice (some ⟨gy, 0, none⟩) 128 cy] 88)).heap.size (wr.alloc (.cells #[.int .i64 (a : Int), .slice (some ⟨gy, 0, none⟩) 128 cy] 88)) wb := by rw [HS1.out]; exact BB.out
        have hfn := Fr.of_below hW1 noB
        have hRb := HRa.out.keep hfn (fun _ e => e.elim)
        have hOb := HOa.out.keep hfn (fun _ _ e => e)
        have hcb : wb.drew.cell? ⟨L, a, none⟩ = some (.slice (some ⟨go, 0, none⟩) 128 co) := (World.cell?_of_block (hfn.old L HLa.out.lt (fun e => e))).trans Hcella.out
        have hTS : TornS x L lcap d.lasts.length wr.heap.size a P0 p wb.drew := ⟨hRb.c0, (HLo.out.keep hfn (fun e => e)).cell 0, (HPa.out.keep hfn (fun e => e)).cell 2⟩
        have TS := Lib.hid hTS
        have hWb : wr.heap.size + 1 ≤ wb.heap.size := by have := hW1.size; rw [HS1.out] at this; exact this
        have rdo : Rd wb (wr.heap.size + 1) (some ⟨go, if co = p.cut.toNat then 0 else p.cut.toNat, none⟩) (o.drop p.cut.toNat) := rd_drop hOb hofull (by rw [← HS1.out]; exact hgo) hc128 hio.2
        have RDO := Lib.hid rdo
        have hdl : (o.drop p.cut.toNat).length = 128 - p.cut.toNat := by rw [List.length_drop, hofull]
        have HDL := Lib.hid hdl
        have hlenb : (y.take p.cut.toNat).length + (o.drop p.cut.toNat).length = 128 := by rw [HYT.out, hdl]; omega
        have HLB := Lib.hid hlenb
        have HCB := Lib.hid hcb
        clear hRb hOb hcb hTS rdo hdl hlenb hfn hW1 hb hhead t1b t2b hfb
        refine wp_region_held (S := TornS x L lcap d.lasts.length wr.heap.size a P0 p) (by kernel_rfl) ?_
        change wpAnyH _ _ _ _ _ _ _ _ (World.drew _)
        refine held_yield (i := 0) 48 (.pointer (some ⟨x, 0, none⟩)) rfl rfl (by kernel_rfl) (by kernel_rfl) (by kernel_rfl) (fun _ _ _ h => h) rfl ?_ TS.out ?_
        · intro w' hw'; obtain ⟨s0, s1, s2⟩ := hw'; go_simp
        simp only [Act.put, List.setIfInBounds_toArray, List.set_cons_succ, List.set_cons_zero]
        refine held_yield (i := 1) 49 (.pointer (some ⟨x, 0, none⟩)) rfl rfl (by kernel_rfl) (by kernel_rfl) (by kernel_rfl) (fun _ _ _ h => h) rfl ?_ TS.out ?_
        · intro w' hw'; obtain ⟨s0, s1, s2⟩ := hw'; go_simp
        simp only [Act.put, List.setIfInBounds_toArray, List.set_cons_succ, List.set_cons_zero]
        refine held_yield (i := 2) 50 (.pointer (some ⟨x, 0, none⟩)) rfl rfl (by kernel_rfl) (by kernel_rfl) (by kernel_rfl) (fun _ _ _ h => h) rfl ?_ TS.out ?_
        · intro w' hw'; obtain ⟨s0, s1, s2⟩ := hw'; go_simp
        simp only [Act.put, List.setIfInBounds_toArray, List.set_cons_succ, List.set_cons_zero]
        refine held_yield (i := 3) 51 (.slice (some ⟨L, 0, none⟩) d.lasts.length lcap) rfl rfl (by kernel_rfl) (by kernel_rfl) (by kernel_rfl) (fun _ _ _ h => h) rfl ?_ TS.out ?_
        · intro w' hw'; obtain ⟨s0, s1, s2⟩ := hw'; go_simp
        simp only [Act.put, List.setIfInBounds_toArray, List.set_cons_succ, List.set_cons_zero]
        refine held_yield (i := 4) 52 (.pointer (some ⟨wr.heap.size, 0, none⟩)) rfl rfl (by kernel_rfl) (by kernel_rfl) (by kernel_rfl) (fun _ _ _ h => h) rfl ?_ TS.out ?_
        · intro w' hw'; obtain ⟨s0, s1, s2⟩ := hw'; go_simp
        simp only [Act.put, List.setIfInBounds_toArray, List.set_cons_succ, List.set_cons_zero]
        refine held_yield (i := 5) 53 (.int .i64 (a : Int)) rfl rfl (by kernel_rfl) (by kernel_rfl) (by kernel_rfl) (fun _ _ _ h => h) rfl ?_ TS.out ?_
        · intro w' hw'; obtain ⟨s0, s1, s2⟩ := hw'; go_simp
        simp only [Act.put, List.setIfInBounds_toArray, List.set_cons_succ, List.set_cons_zero]
        refine held_yield (i := 6) 54 (vb) rfl rfl (by kernel_rfl) (by kernel_rfl) (by kernel_rfl) (fun _ _ _ h => h) rfl ?_ TS.out ?_
        · intro w' hw'; obtain ⟨s0, s1, s2⟩ := hw'; go_simp
        simp only [Act.put, List.setIfInBounds_toArray, List.set_cons_succ, List.set_cons_zero]
        refine held_yield (i := 7) 55 (.pointer (some ⟨x, 0, none⟩)) rfl rfl (by kernel_rfl) (by kernel_rfl) (by kernel_rfl) (fun _ _ _ h => h) rfl ?_ TS.out ?_
        · intro w' hw'; obtain ⟨s0, s1, s2⟩ := hw'; go_simp
        simp only [Act.put, List.setIfInBounds_toArray, List.set_cons_succ, List.set_cons_zero]
        refine held_yield (i := 8) 56 (.pointer (some ⟨x, 0, none⟩)) rfl rfl (by kernel_rfl) (by kernel_rfl) (by kernel_rfl) (fun _ _ _ h => h) rfl ?_ TS.out ?_
        · intro w' hw'; obtain ⟨s0, s1, s2⟩ := hw'; go_simp
        simp only [Act.put, List.setIfInBounds_toArray, List.set_cons_succ, List.set_cons_zero]
        refine held_yield (i := 9) 57 (.pointer (some ⟨x, 0, none⟩)) rfl rfl (by kernel_rfl) (by kernel_rfl) (by kernel_rfl) (fun _ _ _ h => h) rfl ?_ TS.out ?_
        · intro w' hw'; obtain ⟨s0, s1, s2⟩ := hw'; go_simp
        simp only [Act.put, List.setIfInBounds_toArray, List.set_cons_succ, List.set_cons_zero]
        refine held_yield (i := 10) 58 (.slice (some ⟨L, 0, none⟩) d.lasts.length lcap) rfl rfl (by kernel_rfl) (by kernel_rfl) (by kernel_rfl) (fun _ _ _ h => h) rfl ?_ TS.out ?_
        · intro w' hw'; obtain ⟨s0, s1, s2⟩ := hw'; go_simp
        simp only [Act.put, List.setIfInBounds_toArray, List.set_cons_succ, List.set_cons_zero]
        refine held_yield (i := 11) 59 (.pointer (some ⟨wr.heap.size, 0, none⟩)) rfl rfl (by kernel_rfl) (by kernel_rfl) (by kernel_rfl) (fun _ _ _ h => h) rfl ?_ TS.out ?_
        · intro w' hw'; obtain ⟨s0, s1, s2⟩ := hw'; go_simp
        simp only [Act.put, List.setIfInBounds_toArray, List.set_cons_succ, List.set_cons_zero]
        refine held_yield (i := 12) 60 (.int .i64 (a : Int)) rfl rfl (by kernel_rfl) (by kernel_rfl) (by kernel_rfl) (fun _ _ _ h => h) rfl ?_ TS.out ?_
        · intro w' hw'; obtain ⟨s0, s1, s2⟩ := hw'; go_simp
        simp only [Act.put, List.setIfInBounds_toArray, List.set_cons_succ, List.set_cons_zero]
        refine held_yield (i := 13) 61 (.pointer (some ⟨L, a, none⟩)) rfl rfl (by kernel_rfl) (by kernel_rfl) (by kernel_rfl) (fun _ _ _ h => h) rfl ?_ TS.out ?_
        · intro w' hw'; obtain ⟨s0, s1, s2⟩ := hw'; go_simp
        simp only [Act.put, List.setIfInBounds_toArray, List.set_cons_succ, List.set_cons_zero]
        refine held_yield (i := 15) 63 (.pointer (some ⟨P0, 2, none⟩)) rfl rfl (by kernel_rfl) (by kernel_rfl) (by kernel_rfl) (fun _ _ _ h => h) rfl ?_ TS.out ?_
        · intro w' hw'; obtain ⟨s0, s1, s2⟩ := hw'; go_simp
        simp only [Act.put, List.setIfInBounds_toArray, List.set_cons_succ, List.set_cons_zero]
        refine held_yield (i := 16) 64 (.int .i64 p.cut) rfl rfl (by kernel_rfl) (by kernel_rfl) (by kernel_rfl) (fun _ _ _ h => h) rfl ?_ TS.out ?_
        · intro w' hw'; obtain ⟨s0, s1, s2⟩ := hw'; go_simp
        simp only [Act.put, List.setIfInBounds_toArray, List.set_cons_succ, List.set_cons_zero]
        refine held_one (i := 14) (by kernel_rfl) rfl rfl ?_
        intro K hK
        have hcb := HCB.out
        go_simp
        refine hK _ _ TS.out ?_
        clear hK K hcb
        refine held_yield (i := 17) 65 (.slice (some ⟨go, if co = p.cut.toNat then 0 else p.cut.toNat, none⟩) (128 - p.cut.toNat) (co - p.cut.toNat)) rfl rfl (by kernel_rfl) (by kernel_rfl) (by kernel_rfl) (fun _ _ _ h => h) rfl ?_ TS.out ?_
        · intro w' hw'; have htail := HTail.out; go_simp
        simp only [Act.put, List.setIfInBounds_toArray, List.set_cons_succ, List.set_cons_zero]
        refine held_one (i := 18) (by kernel_rfl) rfl rfl ?_
        intro K hK
        refine wp_append_v (.tmp 54) (.tmp 65) rfl (wr.heap.size + 1) vb (y.take p.cut.toNat) rfl OB'.out (wr.heap.size + 1) (some ⟨go, if co = p.cut.toNat then 0 else p.cut.toNat, none⟩) (o.drop p.cut.toNat) (co - p.cut.toNat) (by rw [HDL.out]; rfl) RDO.out (fun e => by cases e) (by rw [HLB.out]; omega) hWb _ (Below.drew BB.out) ?_
        intro v3 w3 o3 b3
        have h3 : Below (wr.alloc (.cells #[.int .i64 (a : Int), .slice (some ⟨gy, 0, none⟩) 128 cy] 88)).heap.size (wr.alloc (.cells #[.int .i64 (a : Int), .slice (some ⟨gy, 0, none⟩) 128 cy] 88)) w3 := by rw [HS1.out]; exact b3
        have hf3 := Fr.of_below h3 noB
        have hR3 := HRa.out.keep hf3 (fun _ e => e.elim)
        have hL3 := HLa.out.keep hf3 (fun e => e)
        have hc3 : w3.cell? ⟨L, a, none⟩ = some (.slice (some ⟨go, 0, none⟩) 128 co) := (World.cell?_of_block (hf3.old L HLa.out.lt (fun e => e))).trans Hcella.out
        have hlo3 := HLo.out.keep hf3 (fun e => e)
        have hpl3 := HPa.out.keep hf3 (fun e => e)
        have hT3 : TornS x L lcap d.lasts.length wr.heap.size a P0 p w3 := ⟨hR3.c0, hlo3.cell 0, hpl3.cell 2⟩
        refine wp_of_dst (some 66) rfl _ ?_
        refine hK _ _ hT3 ?_
        clear hK K
        simp only [Act.put, List.setIfInBounds_toArray, List.set_cons_succ, List.set_cons_zero]
        refine held_yield (i := 19) 67 (.pointer (some ⟨L, a, none⟩)) rfl rfl (by kernel_rfl) (by kernel_rfl) (by kernel_rfl) (fun _ _ _ h => h) rfl ?_ hT3 ?_
        · intro w' hw'; obtain ⟨s0, s1, s2⟩ := hw'; go_simp
        simp only [Act.put, List.setIfInBounds_toArray, List.set_cons_succ, List.set_cons_zero]
        have hz3 : w3.frozen? ⟨L, a, none⟩ = false := hL3.free a
        have htl : (y.take p.cut.toNat ++ o.drop p.cut.toNat).length = 128 := by rw [List.length_append, HLB.out]
        obtain ⟨VV, cc, rfl, hVV, hVVl, hsec⟩ := sec_of_own o3 htl
        have hR4 := hR3.widen (I2 := fun j => I' j ∨ j = VV) (fun _ e => .inl e) (fun j e => by
          rcases e with e | e
          · exact .inl e
          · refine .inr ⟨fun hs => ?_, by rw [e]; exact hVVl⟩
            have := HR'.out.lt j hs
            omega)
        have hset := hR4.setLast HXL.out.symm a _ _ htl (hsec (fun j => I' j ∨ j = VV) (.inr rfl))
        have Hset := Lib.hid hset
        have HF3 : Hid (Fr S w1 w3) := Lib.hid (HFa.out.trans hf3 (fun _ _ e => e.elim))
        have hT4 : TornS x L lcap d.lasts.length wr.heap.size a P0 p (w3.setCell ⟨L, a, none⟩ (.slice (some ⟨VV, 0, none⟩) 128 cc)) := ⟨(hR3.box.far (p := ⟨L, a, none⟩) (hR3.box.apart hL3 (by decide)) _).cell 0, (hlo3.far (p := ⟨L, a, none⟩) (hlo3.apart hL3 (by decide)) _).cell 0, (hpl3.far (p := ⟨L, a, none⟩) (hpl3.apart hL3 (by decide)) _).cell 2⟩
        have HVV : Hid (wr.heap.size ≤ VV) := Lib.hid (by omega)
        clear hR4 hset hR3 hf3 h3 o3 b3 htl hsec hL3 hlo3 hpl3 hT3
        refine held_one (i := 20) (by kernel_rfl) rfl rfl ?_
        intro K hK
        go_simp
        refine hK _ _ hT4 ?_
        clear hK K hT4
        refine wpAnyH_done (by kernel_rfl) ?_ 0
        have hnext : CrRel w1 S I x L lcap (.slice (some ⟨V, 0, none⟩) d.waits.length c) kv vs lit left p0 d p (k + 1) (w3.setCell ⟨L, a, none⟩ (.slice (some ⟨VV, 0, none⟩) 128 cc)) := by
          refine ⟨HF3.out.setAt (.inl hL) _, _, fun j => I' j ∨ j = VV, by rw [HStep.out]; exact Hset.out, fun j e => ?_⟩
          rcases e with e | e
          · exact HI.out j e
          · refine .inr ?_
            have h1 := HF0.out.size
            have h2 := HVV.out
            omega
        have HN := Lib.hid hnext
        clear hnext hc3 hz3
        go_wp2_with fail
        go_roundw
        case rel => exact ⟨k + 1, by omega, by go_num, HN.out⟩
        case measure => simp [intOf]; omega
      · have hb : ((k : Int) == p.torn) = false := beq_eq_false_iff_ne.2 he
        obtain ⟨KA, kc, rfl, hkl, hkc⟩ := HKa.out
        have p0a : (wr.alloc (.cells #[.int .i64 (a : Int), .slice (some ⟨gy, 0, none⟩) 128 cy] 88)).cell? ⟨P0, 0, none⟩ = some (.slice KA p.keep.length kc) := HPa.out.cell 0
        by_cases hlk : k < p.keep.length
        · obtain ⟨ad, rfl, _, hadl, hcs⟩ := hkc (by omega)
          have hck := hcs k _ (List.getElem?_eq_getElem hlk)
          have hlk' : (k : Int) < (p.keep.length : Int) := by omega
          cases hv : p.keep[k] with
          | true =>
            rw [hv] at hck
            have hkept : p.kept k = 128 := by unfold Dk.Pl.kept; rw [if_neg he, if_pos (by rw [List.getElem?_eq_getElem hlk, hv])]
            rw [hkept, tear_all o y hofull hsays] at HStep
            have hsw := (HRa.out.drew).setLast HXL.out.symm a _ y hsays (HVa.out.keep ((Fr.refl noB _).drew) (fun _ _ e => e))
            have hFw : Fr S w1 ((wr.alloc (.cells #[.int .i64 (a : Int), .slice (some ⟨gy, 0, none⟩) 128 cy] 88)).drew.setCell ⟨L, a, none⟩ (.slice (some ⟨gy, 0, none⟩) 128 cy)) := HFa.out.drew.setAt (.inl hL) _
            have Hsw := Lib.hid hsw
            have HFw := Lib.hid hFw
            have d0 : (wr.alloc (.cells #[.int .i64 (a : Int), .slice (some ⟨gy, 0, none⟩) 128 cy] 88)).drew.cell? ⟨x, 0, none⟩ = some (.slice (some ⟨L, 0, none⟩) d.lasts.length lcap) := HRa.out.c0
            have d1 : (wr.alloc (.cells #[.int .i64 (a : Int), .slice (some ⟨gy, 0, none⟩) 128 cy] 88)).drew.cell? ⟨wr.heap.size, 0, none⟩ = some (.int .i64 (a : Int)) := HLo.out.cell 0
            have d2 : (wr.alloc (.cells #[.int .i64 (a : Int), .slice (some ⟨gy, 0, none⟩) 128 cy] 88)).drew.cell? ⟨wr.heap.size, 1, none⟩ = some (.slice (some ⟨gy, 0, none⟩) 128 cy) := HLo.out.cell 1
            have d3 : (wr.alloc (.cells #[.int .i64 (a : Int), .slice (some ⟨gy, 0, none⟩) 128 cy] 88)).drew.cell? ⟨L, a, none⟩ = some vo := Hcella.out
            have d4 : (wr.alloc (.cells #[.int .i64 (a : Int), .slice (some ⟨gy, 0, none⟩) 128 cy] 88)).drew.frozen? ⟨L, a, none⟩ = false := HLa.out.free a
            clear he hcs hv hkept hsw hFw hkc
            go_wp2_with fail
            generalize (wr.alloc (.cells #[.int .i64 (a : Int), .slice (some ⟨gy, 0, none⟩) 128 cy] 88)) = wa at *
            go_still_tail 9, (by kernel_rfl)
            change wpList _ _ _ _ _ (World.drew _)
            go_wp2_with fail
            go_roundw
            case rel => exact ⟨k + 1, by omega, by go_num, HFw.out, _, I', by rw [HStep.out]; exact Hsw.out, HI.out⟩
            case measure => simp [intOf]; omega
          | false =>
            rw [hv] at hck
            have hkept : p.kept k = 0 := by unfold Dk.Pl.kept; rw [if_neg he, if_neg (by rw [List.getElem?_eq_getElem hlk, hv]; simp)]
            rw [hkept, tear_none, HSelf.out] at HStep
            have hnext : CrRel w1 S I x L lcap (.slice (some ⟨V, 0, none⟩) d.waits.length c) kv vs lit left p0 d p (k + 1) (wr.alloc (.cells #[.int .i64 (a : Int), .slice (some ⟨gy, 0, none⟩) 128 cy] 88)) := ⟨HFa.out, _, I', by rw [HStep.out]; exact HRa.out, HI.out⟩
            have HN := Lib.hid hnext
            clear he hcs hv hkept hnext hkc
            go_wp2_with fail
            go_roundw
            case rel => exact ⟨k + 1, by omega, by go_num, HN.out⟩
            case measure => simp [intOf]; omega
        · have hge : decide (k < p.keep.length) = false := by simpa using hlk
          have hkept : p.kept k = 0 := by unfold Dk.Pl.kept; rw [if_neg he, if_neg (by rw [List.getElem?_eq_none (by omega)]; simp)]
          rw [hkept, tear_none, HSelf.out] at HStep
          have hnext : CrRel w1 S I x L lcap (.slice (some ⟨V, 0, none⟩) d.waits.length c) kv vs lit left p0 d p (k + 1) (wr.alloc (.cells #[.int .i64 (a : Int), .slice (some ⟨gy, 0, none⟩) 128 cy] 88)) := ⟨HFa.out, _, I', by rw [HStep.out]; exact HRa.out, HI.out⟩
          have HN := Lib.hid hnext
          clear he hkept hnext hkc
          go_wp2_with fail
          go_roundw
          case rel => exact ⟨k + 1, by omega, by go_num, HN.out⟩
          case measure => simp [intOf]; omega
    · obtain rfl : k = d.waits.length := by omega
      have Hr := Lib.hid hr
      have HF := Lib.hid hF
      have HI' := Lib.hid hI'
      have z1 : wr.frozen? ⟨x, 1, none⟩ = false := hr.box.free 1
      have z3 : wr.frozen? ⟨x, 3, none⟩ = false := hr.box.free 3
      have c3 : wr.cell? ⟨x, 3, none⟩ = some (.bool d.dead) := hr.c3
      clear hr hF hI' hlt
      go_wp2_with fail
      go_ret
      have hbx := (Hr.out.box.set 1 (.slice none 0 0)).set 3 (.bool true)
      have hfx : Fr (oneB x) wr ((wr.setCell ⟨x, 1, none⟩ (.slice none 0 0)).setCell ⟨x, 3, none⟩ (.bool true)) := ((Fr.refl (oneB x) wr).put _).put _
      refine ⟨rfl, _, I', ⟨_, _, _, _, _, _, _, _, Hr.out.emptied (d' := d.crash p) hbx hfx (Dk.St.crash_ok H1.out.ok hp1) rfl rfl (fun e => by cases e)⟩, ((HF1.out.wide (fun _ _ e => e.elim)).trans HF.out (fun _ _ e => e)).trans (hfx.wide (T := S) (fun k _ e => by have e : k = x := e; rw [e]; exact hxS)) (fun _ _ e => e), fun k hk => .inl ((H1.out.own k).2 (by rcases hk with e | e; exact .inl e; exact .inr (.inl e))), fun k e => ?_⟩
      rcases HI'.out k e with e | e
      · exact .inl e
      · exact .inr (by have := HP0.out; omega)
end Go.Proofs.Ytpgpalnnmoanpaa

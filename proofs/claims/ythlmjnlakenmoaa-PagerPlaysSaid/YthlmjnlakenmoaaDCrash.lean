/-
  crash: what lasts behind a crash, write by write; the disk is dead then.
-/
import Derived.Test.YthlmjnlakenmoaaDRead
import Derived.Test.YthlmjnlakenmoaaDMath
import Derived.StillTailTactics
import Derived.Deep.QuietTactic
namespace Go.Proofs.Ythlmjnlakenmoaa
open Go.RowKit Go.Maps
set_option maxRecDepth 100000

section
variable {P : Program} {ops : Array Oper} {rest : List Oper} {o : Oper} {a : Act} {w : World} {Q : Exit → Act → World → Prop}
/-- copy into the middle of a row that is known whole -/
theorem arm_copy (hgd : o.guard = none) (x y : Operand) (t : TypeId) (ho : o.op = .call { callee := .builtin .copy, args := #[x, y], argTypes := #[t, t] }) (e : TypeId) (hu : P.underlying t = some (.slice e)) (hs : (P.info? e).map (·.size) = some 1)
    (g off n cap : Nat) (hx : a.eval x = .slice (some ⟨g, off, none⟩) n cap) (ad : Addr) (m mc : Nat) (hy : a.eval y = .slice (some ad) m mc) {t' : TypeId} {cur : Array Value} (hb : Has w g t' cur) (cs : List Value) (hn : cs.length = Nat.min m n)
    (hsrc : ∀ j v, cs[j]? = some v → w.cell? (ad.add j) = some v) (hfit : off + cs.length ≤ cur.size) (h1 : ∀ v ∈ cs, v.oneCell' = true)
    (h : ∀ w', Has w' g t' (cur.toList.take off ++ cs ++ cur.toList.drop (off + cs.length)).toArray → Fr (oneB g) w w' → w'.heap.size = w.heap.size → wpList P ops Q rest (a.put o.dst (.int .i64 (cs.length : Int))) w') : wpList P ops Q (o :: rest) a w := by
  refine wpList_plain hgd fun K hK => ?_
  have hr := run_copy_row (P := P) w t t o.type e g off n cap ad m mc cur t' cs hu hs hb hn hsrc hfit h1
  unfold Oper.wp execOp
  simp only [ho, resolve, invoke, builtin, Sem.run_bind, Sem.run_pure, Result.andThen_ok, List.map_toArray, List.map_cons, List.map_nil, hx, hy, hr]
  exact hK _ _ (h _ (hb.row _) ((Fr.refl (oneB g) w).setRow (.inl (oneB_self g)) _) (by simp))
end

theorem wait_form {w : World} {wv : Value} {ws : List Dk.Wr} (h : w.ownsRow 0 116 129 wv ws.length (Dk.wrs ws)) :
    ∃ A vcap, wv = .slice A ws.length vcap ∧ (0 < ws.length → ∃ V wcur, A = some ⟨V, 0, none⟩ ∧ Has w V 116 wcur ∧ wcur.toList.take (ws.length * 129) = Dk.wrs ws) := by
  rcases h.2 with ⟨rfl, h0⟩ | ⟨V, vcap, wcur, rfl, _, hV, _, _, _, ht⟩
  · exact ⟨none, 0, by rw [h0], fun h => by omega⟩
  · exact ⟨_, _, rfl, fun _ => ⟨V, wcur, rfl, hV, ht⟩⟩

theorem und_wr : ∃ fs, Try.prog.underlying 116 = some (.struct fs) := ⟨_, rfl⟩
/-- what holds behind k rounds of the crash -/
def CrashRel (w1 : World) (L cap : Nat) (p : Dk.Pl) (d : Dk.St) (k : Nat) (wr : World) : Prop :=
  Fr (oneB L) w1 wr ∧ ∃ cur, Has wr L 108 cur ∧ cur.size = cap * 128 ∧ cur.toList.take (d.lasts.length * 128) = Dk.secs (Dk.crashed p d.waits d.lasts k)

theorem crash_end {w w1 wr w2 W : World} {S R : Nat → Prop} {b L cap : Nat} {wv : Value} {M : Nat} {kv : Value} {d : Dk.St} {p : Dk.Pl} (h : Lies w S R b L cap wv M kv d) (hp1 : p.cut ≤ 128) (hf1 : Fr noB w w1)
    (hr : CrashRel w1 L cap p d d.waits.length wr) (hn2 : NewAt w2 wr.heap.size []) (hf2 : Fr (oneB b) wr w2) (hb : Has W b 98 (diskCells (.slice (some ⟨L, 0, none⟩) d.lasts.length cap) (.slice none 0 0) wr.heap.size (d.crash p) (.slice none 0 0))) (hf3 : Fr (oneB b) w2 W) :
    Goes S noB b (d.crash p) w W := by
  obtain ⟨f, cur, hL, hcs, htk⟩ := hr
  obtain ⟨n1, n2, n3, n4⟩ := h.ne
  obtain ⟨cur0, hL0, hcs0, hnc0, hcm0, htk0⟩ := own_has h.lasts
  have hf23 : Fr (oneB b) wr W := hf2.trans hf3 (fun _ _ h => h)
  have hlw : w.heap.size ≤ wr.heap.size := Nat.le_trans hf1.size f.size
  refine ⟨fun k => k = b ∨ k = L ∨ k = wr.heap.size, ⟨L, cap, .slice none 0 0, wr.heap.size, .slice none 0 0, ?_⟩, ?_, ?_⟩
  · exact {
      ok := Dk.St.crash_ok h.ok hp1
      box := by rw [show (d.crash p).lasts.length = d.lasts.length from Dk.crashed_len _ _ _ _]; exact hb
      lasts := by
        rw [show (d.crash p).lasts.length = d.lasts.length from Dk.crashed_len _ _ _ _]
        refine ⟨?_, .inr ⟨L, cap, cur, rfl, Nat.zero_le _, hL.keep hf23 (fun e => n1 (Eq.symm e)), hnc0, hcm0, hcs, htk⟩⟩
        rw [(Dk.St.crash_ok h.ok hp1).full.len]
        exact congrArg (· * 128) (Dk.crashed_len _ _ _ _)
      waits := World.ownsRow_nil _ _ _ _
      new := hn2.keep hf3 (fun e => by
        have e : wr.heap.size = b := e
        have := h.box.lt
        omega)
      kept := KeepAt.nil _ _
      own := fun k => by simp [Value.ownBlock]
      apart := fun k hk => hk.elim
      low := fun k hk => hk.elim }
  · have hS : ∀ k, k = b ∨ k = L → S k := fun k hk => (h.own k).2 (by rcases hk with e | e; exact .inl e; exact .inr (.inl e))
    exact ((hf1.wide (T := S) (fun _ _ h => h.elim)).trans f (fun k _ e => hS k (.inr e))).trans hf23 (fun k _ e => hS k (.inl e))
  · rintro k (rfl | rfl | rfl)
    · exact .inl ((h.own _).2 (.inl rfl))
    · exact .inl ((h.own _).2 (.inr (.inl rfl)))
    · exact .inr hlw

set_option maxHeartbeats 1600000 in
theorem crash_any (w : World) (S R R' : Nat → Prop) (b L cap : Nat) (wv : Value) (M : Nat) (kv : Value) (d : Dk.St) (h : Lies w S R b L cap wv M kv d) (pv : Value) (p : Dk.Pl) (hp : KeepAt w R' pv p.keep) (hp0 : 0 ≤ p.cut) (hp1 : p.cut ≤ 128) (hR : ∀ k, R' k → ¬ S k) (hm : d.waits.length ≤ 1000000) :
    Calls Try.prog 60 #[.pointer (some ⟨b, 0, none⟩), planV pv p] w fun e w' => e = .returned (.tuple #[]) ∧ Goes S noB b (d.crash p) w w' := by
  have hmf : ∀ (fn : Fn) (first cap : Array Value) (w : World), (Instr.makeFunc fn first cap).run Try.prog w = .ok (.func fn first cap) w := fun _ _ _ _ => rfl
  obtain ⟨c0, c1, c2, c3, c4, c5, c6, c7, c8, c9, hfz⟩ := h.cells
  have hblt := block_lt_of_cell c0
  obtain ⟨A, vcap, rfl, hA⟩ := wait_form h.waits
  have H := Lib.hid h
  have HA := Lib.hid hA
  clear hA
  have Hp := Lib.hid hp
  have HR := Lib.hid hR
  clear h hp hR
  unfold planV
  go_enter Try.func60, Try.ntmps60
  go_wp2_with fail
  have hN : Lies (w.alloc (.cells #[pv, Value.int IntKind.i64 p.torn, Value.int IntKind.i64 p.cut] 56)) S R b L cap (.slice A d.waits.length vcap) M kv d := H.out.keep ((Fr.refl noB w).alloc _) (fun k hk => hk.elim)
  have hbox1 : Has (w.alloc (.cells #[pv, Value.int IntKind.i64 p.torn, Value.int IntKind.i64 p.cut] 56)) w.heap.size 56 #[pv, Value.int IntKind.i64 p.torn, Value.int IntKind.i64 p.cut] := Has.of_alloc _ _ _
  have hf1 : Fr noB w (w.alloc (.cells #[pv, Value.int IntKind.i64 p.torn, Value.int IntKind.i64 p.cut] 56)) := (Fr.refl noB w).alloc _
  have hp2 := Hp.out.keep ((Fr.refl noB w).alloc (.cells #[pv, Value.int IntKind.i64 p.torn, Value.int IntKind.i64 p.cut] 56)) (fun _ _ h => h)
  have hA1 := HA.out
  obtain ⟨cur0, hL0, hcs0, hnc0, hcm0, htk0⟩ := own_has hN.lasts
  obtain ⟨n1, n2, n3, n4⟩ := hN.ne
  have hne : L ≠ w.heap.size := Nat.ne_of_lt (by obtain ⟨cur, hL, _⟩ := own_has H.out.lasts; exact hL.lt)
  generalize (w.alloc (.cells #[pv, Value.int IntKind.i64 p.torn, Value.int IntKind.i64 p.cut] 56)) = w1 at *
  go_loopw [13] (fun i wr => ∃ k : Nat, k ≤ d.waits.length ∧ i = .int .i64 k ∧ CrashRel w1 L cap p d k wr) (fun i _ => d.waits.length - (intOf i).toNat)
  case atStart => exact ⟨0, Nat.zero_le _, rfl, Fr.refl _ _, cur0, hL0, hcs0, htk0⟩
  case round =>
    obtain ⟨k, hk, rfl, hrel'⟩ := hrel
    obtain ⟨f, cur, hL, hcs, htk⟩ := hrel'
    have hb' := hN.box.keep f n1
    have hP' := hbox1.keep f (Ne.symm hne)
    have hp' := hp2.keep f (fun k hk e => HR.out k hk ((H.out.own _).2 (.inr (.inl e))))
    obtain ⟨e0, e1, _, _, _, _, _, _, _, _, efz⟩ := cells_of_has hb'
    have hok := H.out.ok
    have hlen := Dk.crashed_len p d.waits d.lasts k
    have hful := Dk.crashed_full hp1 hok.fullW hok.full k
    by_cases hlt : k < d.waits.length
    · obtain ⟨V, wcur, rfl, hV, hvt⟩ := HA.out (by omega)
      have hV1 := (hV.keep hf1 (fun e => e)).keep f (fun e => (n4 V rfl).2.1 (Eq.symm e))
      have hpart := wrs_part hok.fullW hlt hvt
      have hx := hok.fullW _ (List.getElem_mem hlt)
      have hstep : Dk.crashed p d.waits d.lasts (k + 1) = (Dk.crashed p d.waits d.lasts k).set d.waits[k].at_ (Dk.tear ((Dk.crashed p d.waits d.lasts k).getD d.waits[k].at_ []) d.waits[k].says (p.kept k)) := by
        rw [Dk.crashed, List.getElem?_eq_getElem hlt]
      have hkept := p.kept_le hp1 k
      have hkm : k ≤ 1000000 := by omega
      have hcall := kept_any (wr.alloc (.cells (Dk.wrCells d.waits[k]).toArray 116)).drew R' w.heap.size pv p k (hP'.alloc _) (hp'.keep ((Fr.refl noB wr).alloc _).drew (fun _ _ h => h)) hp0 (by simp only [maxLen]; omega)
      generalize d.waits[k] = x at *
      obtain ⟨hx1, hx2⟩ := hx
      have hxl : (Dk.wrCells x).length = 129 := by rw [Dk.wrCells_len, hx1]
      have hX : Has (wr.alloc (.cells (Dk.wrCells x).toArray 116)).drew wr.heap.size 116 (Dk.wrCells x).toArray := Has.of_alloc _ _ _
      have x0 : (wr.alloc (.cells (Dk.wrCells x).toArray 116)).drew.cell? ⟨wr.heap.size, 0, none⟩ = some (.int .i64 (x.at_ : Int)) := hX.cell 0
      have hB2 : Has (wr.alloc (.cells (Dk.wrCells x).toArray 116)).drew b _ _ := hb'.alloc _
      have y0 : (wr.alloc (.cells (Dk.wrCells x).toArray 116)).drew.cell? ⟨b, 0, none⟩ = some (.slice (some ⟨L, 0, none⟩) d.lasts.length cap) := hB2.cell 0
      have hL2 : Has (wr.alloc (.cells (Dk.wrCells x).toArray 116)).drew L _ _ := hL.alloc _
      have hz := zer_of inf_wr
      obtain ⟨fs, hfs⟩ := und_wr
      have hx3 : (x.at_ : Int) < d.lasts.length := by omega
      have hc1 : (0 : Int) ≤ (p.kept k : Int) := by omega
      have hc2 : ((p.kept k : Nat) : Int) ≤ 128 := by omega
      have hmost := hok.most
      have hkm1 : (k : Int) < d.waits.length := by omega
      have HV := Lib.hid hV1
      have Hpart := Lib.hid hpart
      have Hxl := Lib.hid hxl
      have Hcall := Lib.hid hcall
      have HX := Lib.hid hX
      have HL2 := Lib.hid hL2
      have Hstep := Lib.hid hstep
      have Htk := Lib.hid htk
      have Hful := Lib.hid hful
      have Hlen := Lib.hid hlen
      have Hcs := Lib.hid hcs
      have Hx1 := Lib.hid hx1
      have Hf := Lib.hid f
      have Hn := Lib.hid (And.intro n1 (And.intro n2 (And.intro n3 n4)))
      have HN := Lib.hid hN
      have Hc0 := Lib.hid htk0
      clear hV1 hpart hxl hcall hX hL2 hstep htk hful hlen hcs hx1 f n1 n2 n3 n4 hN htk0 hcs0 hcm0 hL0 hbox1 hp2 hf1 hV hvt hb' hP' hp' hB2 hL c0 c1 c2 c3 c4 c5 c6 c7 c8 c9 hfz hne hok hx2
      go_wp2_with (first
        | (refine arm_load rfl 116 (.tmp 16) rfl V (k * 129) 129 rfl HV.out hfs rfl siz_wr (Dk.wrCells x) Hpart.out Hxl.out ?_)
        | (refine arm_fill rfl 116 (.tmp 6) (.tmp 17) rfl wr (Dk.wrCells x) rfl rfl 116 zero129 rfl (by rw [siz_wr, Hxl.out]) (by rw [Hxl.out, zero129_size]) (Dk.wrCells_one _) ?_)
        | fail)
      refine wp_region_still_tail 13 (by kernel_rfl) (by kernel_rfl) ?_
      change wpStill _ _ (World.drew _) _ _ _
      simp only [List.take_succ_cons, List.take_zero, List.drop_succ_cons, List.drop_zero]
      repeat still_step
      still_call (Hcall.out.mono fun _ _ hh => ⟨hh.1, hh.2.symm⟩)
      repeat still_step
      refine wpStill_nil ?_
      have hkl : ((Dk.secCells x.says).take (p.kept k)).length = p.kept k := by rw [List.length_take, Dk.secCells_len, Hx1.out]; omega
      have Hkl := Lib.hid hkl
      clear hkl
      have hsrc : ∀ j v, ((Dk.secCells x.says).take (p.kept k))[j]? = some v → (wr.alloc (.cells (Dk.wrCells x).toArray 116)).drew.cell? ((⟨wr.heap.size, 1, none⟩ : Addr).add j) = some v := by
        intro j v hv
        rw [List.getElem?_take] at hv
        split at hv
        · rw [Addr.add_mid, HX.out.cell, List.getElem?_toArray, Nat.add_comm 1 j, Dk.wrCells, List.getElem?_cons_succ]
          exact hv
        · cases hv
      have Hsrc := Lib.hid hsrc
      clear hsrc
      have und8 : Try.prog.underlying 48 = some (.slice 5) := by kernel_rfl
      have siz8 : (Try.prog.info? 5).map (·.size) = some 1 := by kernel_rfl
      refine arm_copy rfl (.tmp 28) (.tmp 30) 48 rfl 5 und8 siz8 L (x.at_ * 128) (p.kept k) 128 rfl ⟨wr.heap.size, 1, none⟩ 128 128 rfl HL2.out ((Dk.secCells x.says).take (p.kept k)) ?_ ?_ ?_ ?_ ?_
      · rw [Hkl.out]; exact (Nat.min_eq_right hkept).symm
      · exact Hsrc.out
      · rw [Hkl.out, Hcs.out]; omega
      · exact fun v hv => Dk.secCells_one _ v (List.mem_of_mem_take hv)
      intro w3 hL3 hf3 hz3
      have Hrel : Hid (CrashRel w1 L cap p d (k + 1) w3) := by
        refine Lib.hid ⟨(Hf.out.trans (((Fr.refl noB wr).alloc (.cells (Dk.wrCells x).toArray 116)).drew) (fun _ _ h => h.elim)).trans hf3 (fun _ _ h => h), _, hL3, ?_, ?_⟩
        · simp only [List.size_toArray, List.length_append, List.length_take, List.length_drop, Array.length_toList, Hkl.out, Hcs.out]
          omega
        · rw [Hstep.out, ← Dk.tear_row Hful.out (by rw [Hlen.out]; omega) x.says Hx1.out (p.kept k) hkept]
          exact Dk.splice_take Htk.out _ _ (by rw [Hkl.out]; omega)
      clear hL3 hf3 hz3
      go_wp2_with fail
      go_roundw
      case rel => exact ⟨k + 1, by omega, by go_num, Hrel.out⟩
      case measure => simp [intOf]; omega
    · have hkm : k = d.waits.length := by omega
      have Hrel := Lib.hid (show CrashRel w1 L cap p d k wr from ⟨f, cur, hL, hcs, htk⟩)
      have hfor := forget_any wr b _ _ _ _ _ _ _ _ _ _ hb'
      subst hkm
      have Hfor := Lib.hid hfor
      have Hf1 := Lib.hid hf1
      clear hfor hL htk hcs f n1 n2 n3 n4 hN htk0 hcs0 hcm0 hL0 hbox1 hp2 hf1 hb' hP' hp' c0 c1 c2 c3 c4 c5 c6 c7 c8 c9 hfz hne hlen hful hok
      go_wp2_with (go_at_call 70; refine Hfor.out.mono ?_; rintro e w2 ⟨rfl, hb2, hn2, hf2, hz2⟩; obtain ⟨g0, g1, g2, g3, g4, g5, g6, g7, g8, g9, gfz⟩ := cells_of_has hb2; have Hb2 := Lib.hid hb2; have Hn2 := Lib.hid hn2; have Hf2 := Lib.hid hf2; have Hz2 := Lib.hid hz2; clear hb2 hn2 hf2 hz2)
      go_end0
      refine ⟨rfl, crash_end H.out hp1 Hf1.out Hrel.out Hn2.out Hf2.out ((((((Hb2.out.set 4 _).set 5 _).set 6 _).set 7 _).set 8 _).set 9 _) ((((((Fr.refl (oneB b) _).put _).put _).put _).put _).put _ |>.put _)⟩
end Go.Proofs.Ythlmjnlakenmoaa

/-
  Write and Flush of the disk by its words: refused, or counted, or the fuse crashes it.
-/
import Derived.Test.YtpgpalnnmoanpaaDLastOp
namespace Go.Proofs.Ytpgpalnnmoanpaa
open Go.RowKit Go.Maps

theorem rflush_dead (w : World) (x : Nat) (hc : w.cell? ⟨x, 3, none⟩ = some (.bool true)) : Calls Try.prog 29 #[.pointer (some ⟨x, 0, none⟩)] w fun e w' => e = .returned (.int .i64 20) ∧ w = w' := by
  go_enter Try.func29, Try.ntmps29
  go_wp2_with fail
  go_ret
  exact ⟨rfl, rfl⟩
theorem RGoes.after {S S1 I I1 : Nat → Prop} {x : Nat} {d : Dk.St} {w w1 w' : World} (hf : Fr S w w1) (hs : ∀ k, S1 k → S k ∨ w.heap.size ≤ k) (hi : ∀ k, I1 k → I k ∨ w.heap.size ≤ k) (h : RGoes S1 I1 x d w1 w') : RGoes S I x d w w' := by
  obtain ⟨S', I', h1, h2, h3, h4⟩ := h
  have hsz := hf.size
  refine ⟨S', I', h1, hf.trans h2 (fun k hk e => ?_), fun k e => ?_, fun k e => ?_⟩
  · rcases hs k e with e | e
    · exact e
    · omega
  · rcases h3 k e with e | e
    · exact hs k e
    · exact .inr (by omega)
  · rcases h4 k e with e | e
    · exact hi k e
    · exact .inr (by omega)
theorem siz_plan3 : (Try.prog.info? 68).map (·.size) = some 3 := by kernel_rfl
theorem und_rplan : ∃ fs, Try.prog.underlying 68 = some (.struct fs) := ⟨_, rfl⟩

theorem plan_part (lv wv kv : Value) (d : Dk.St) (lit : Bool) (left : Nat) (p : Dk.Pl) : ((refCells lv wv d lit left kv p).toList.drop 6).take 3 = [kv, .int .i64 p.torn, .int .i64 p.cut] := rfl

set_option maxHeartbeats 800000 in
theorem rflush_due (w : World) (S I : Nat → Prop) (x : Nat) (d : Dk.St) (h : RefAt w S I x d) (hdead : d.dead = false) (hdue : d.due = true) (hm : d.waits.length ≤ 1000000) (hleft : d.left ≤ 9223372036854775807) :
    Calls Try.prog 29 #[.pointer (some ⟨x, 0, none⟩)] w fun e w' => e = .returned (.int .i64 20) ∧ RGoes S I x (d.crash d.plan) w w' := by
  obtain ⟨lv, wv, kv, ls, vs, lit, left, p, h⟩ := h
  obtain ⟨e1, e2, e3⟩ := h.lives hdead
  subst e1 e2 e3
  have c3 := h.c3
  rw [hdead] at c3
  have hdu := rdue_any w x _ wv kv d d.plan h.box hleft
  rw [hdue] at hdu
  have Hdu := Lib.hid hdu
  have H := Lib.hid h
  obtain ⟨fs, hfs⟩ := und_rplan
  clear hdu h hdue
  go_enter Try.func29, Try.ntmps29
  go_wp2_with fail
  refine Hdu.out.mono ?_
  rintro e w1 ⟨rfl, hb1, hf1, hz1⟩
  have h1 : RLies w1 S I x lv wv kv ls vs d.lit (St.burnt d).left d.plan (St.burnt d) := H.out.rebox hb1 hf1 (burnt_ok H.out.ok) rfl rfl (fun _ => ⟨rfl, rfl, rfl⟩)
  have hsx : S x := (H.out.own x).2 (.inl rfl)
  have hF1 := Lib.hid (hf1.wide (T := S) (fun k _ e => by have e : k = x := e; rw [e]; exact hsx))
  have hcr := rcrash_ok w1 S I I x (St.burnt d) ⟨_, _, _, _, _, _, _, _, h1⟩ hdead kv d.plan h1.kept h1.apart H.out.ok.cut0 H.out.ok.cut1 hm
  unfold planV at hcr
  have HCR := Lib.hid hcr
  have HB1 := Lib.hid hb1
  clear h1 hb1 hf1 hz1 Hdu hcr hdead
  go_wp2_with (refine arm_load rfl 68 (.tmp 13) rfl x 6 3 rfl HB1.out hfs rfl siz_plan3 [kv, .int .i64 d.plan.torn, .int .i64 d.plan.cut] (plan_part _ _ _ _ _ _ _) rfl ?_)
  refine HCR.out.mono ?_
  rintro e w2 ⟨rfl, hg⟩
  have HG := Lib.hid hg
  clear hg
  go_wp2_with fail
  go_ret
  exact ⟨rfl, RGoes.after hF1.out (fun _ e => .inl e) (fun _ e => .inl e) HG.out⟩
theorem rflush_any (w : World) (S I : Nat → Prop) (x : Nat) (d : Dk.St) (h : RefAt w S I x d) (hdead : d.dead = false) (hm : d.waits.length ≤ 1000000) (hdone : d.done < 4611686018427387904) (hleft : d.left ≤ 9223372036854775807) :
    Calls Try.prog 29 #[.pointer (some ⟨x, 0, none⟩)] w fun e w' => e = .returned (.int .i64 d.stepErr) ∧ RGoes S I x d.flush w w' := by
  unfold Dk.St.stepErr Dk.St.flush
  cases hdue : d.due with
  | true => exact rflush_due w S I x d h hdead hdue hm hleft
  | false =>
    have := rflush_tick w S I x d h hdead hdue hm hdone hleft
    unfold Dk.St.flush at this
    rw [hdue] at this
    exact this

theorem rwrite_dead (w : World) (x : Nat) (i : Int) (v : Value) (hc : w.cell? ⟨x, 3, none⟩ = some (.bool true)) : Calls Try.prog 28 #[.pointer (some ⟨x, 0, none⟩), .int .i64 i, v] w fun e w' => e = .returned (.int .i64 20) ∧ w = w' := by
  go_enter Try.func28, Try.ntmps28
  go_wp2_with fail
  go_ret
  exact ⟨rfl, rfl⟩
theorem rwrite_bad (w : World) (x : Nat) (i : Int) (A B : Option Addr) (n cap m c : Nat) (hc : w.cell? ⟨x, 3, none⟩ = some (.bool false)) (h0 : w.cell? ⟨x, 0, none⟩ = some (.slice A n cap)) (h : ¬ (0 ≤ i ∧ i < n) ∨ m ≠ 128) :
    Calls Try.prog 28 #[.pointer (some ⟨x, 0, none⟩), .int .i64 i, .slice B m c] w fun e w' => e = .returned (.int .i64 1) ∧ w = w' := by
  rcases Int.lt_or_le i 0 with hi | hi
  · have h1 : decide (i < 0) = true := decide_eq_true hi
    clear h hi
    go_enter Try.func28, Try.ntmps28
    go_wp2_with fail
    go_ret
    exact ⟨rfl, rfl⟩
  · have h1 : decide (i < 0) = false := decide_eq_false (by omega)
    rcases Int.lt_or_le i n with hn | hn
    · have h2 : decide ((n : Int) ≤ i) = false := decide_eq_false (by omega)
      have h3 : ((m : Int) == 128) = false := by rw [beq_eq_false_iff_ne]; omega
      have h4 : ((m : Int) != 128) = true := by rw [bne_iff_ne]; omega
      clear h hi hn
      go_enter Try.func28, Try.ntmps28
      go_wp2_with fail
      go_ret
      exact ⟨rfl, rfl⟩
    · have h2 : decide ((n : Int) ≤ i) = true := decide_eq_true hn
      clear h hi hn
      go_enter Try.func28, Try.ntmps28
      go_wp2_with fail
      go_ret
      exact ⟨rfl, rfl⟩
theorem inf_rwr : (Try.prog.info? 88).map (fun i => (i.zero, i.size, i.bytes)) = some (some (.agg #[.int .i64 0, .slice none 0 0]), 2, 32) := by kernel_rfl
theorem und_rwrs : Try.prog.underlying 67 = some (.slice 88) := by kernel_rfl
/-- one write more waits, of the disk by its words -/
theorem wp_append_rw {o : Oper} {a : Act} {w : World} {K : Act → World → Prop} {Q : Exit → Act → World → Prop} (s x : Operand) (ho : o.op = .call { callee := .builtin .append, args := #[s, x], argTypes := #[67, 67] })
    (v : Value) (n : Nat) (xs : List Value) (hs : a.eval s = v) (hown : w.ownsRow 0 88 2 v n xs) (g : Nat) (hx : a.eval x = .slice (some ⟨g, 0, none⟩) 1 1) (vs : List Value) (hv : vs.length = 2) (hb : Has w g 88 vs.toArray)
    (h1 : ∀ u ∈ vs, u.oneCell' = true) (hn : n < 1000000)
    (h : ∀ (V cap : Nat) (w' : World), w'.ownsRow 0 88 2 (.slice (some ⟨V, 0, none⟩) (n + 1) cap) (n + 1) (xs ++ vs) → w.grownBy w' v.ownBlock → (v.ownBlock = some V ∨ V = w.heap.size) → K (a.put o.dst (.slice (some ⟨V, 0, none⟩) (n + 1) cap)) w') : o.wp Try.prog a w K Q := by
  obtain ⟨i0, hi, hz0, hz1, hz2⟩ := info_parts inf_rwr
  obtain ⟨v', w', hr, h2, h3, _, h5⟩ := run_append_own_at (P := Try.prog) w 0 _ o.type _ i0 _ 2 32 und_rwrs hi hz0 hz1 hz2 rfl (by omega) v n xs hown ⟨g, 0, none⟩ 1 1 vs (by rw [hv])
    (fun j u hj => by rw [Addr.add_mid, Nat.zero_add, hb.cell, List.getElem?_toArray]; exact hj) h1 (by unfold maxLen; omega) (by omega) (Nat.zero_le _)
  rcases h2.2 with ⟨_, h0⟩ | ⟨V, cap, cur, rfl, _⟩
  · omega
  · unfold Oper.wp execOp
    simp only [ho, resolve, invoke, builtin, Sem.run_bind, Sem.run_pure, Result.andThen_ok, List.map_toArray, List.map_cons, List.map_nil, hs, hx, hr]
    refine h V cap w' h2 h3 ?_
    rcases h5 with h5 | h5
    · exact .inl (by rw [← h5]; rfl)
    · exact .inr (by injection h5)

/-- a write waits: its bytes lie in the block VV, the row perhaps in a new one -/
theorem RLies.waited {w w3 : World} {S I : Nat → Prop} {x : Nat} {lv wv kv : Value} {ls vs : List Value} {lit : Bool} {left : Nat} {p : Dk.Pl} {d : Dk.St} (h : RLies w S I x lv wv kv ls vs lit left p d) (i : Nat) (s : Dk.Sec) (hi : i < d.lasts.length) (hs : s.length = 128)
    {VV cc V' cap' : Nat} (hf : Fr (fun k => wv.ownBlock = some k) w w3) (hrow : w3.ownsRow 0 88 2 (.slice (some ⟨V', 0, none⟩) (d.waits.length + 1) cap') (d.waits.length + 1) (rcells d.waits vs ++ [.int .i64 (i : Int), .slice (some ⟨VV, 0, none⟩) 128 cc]))
    (hV : wv.ownBlock = some V' ∨ w.heap.size ≤ V') (hVV : w.heap.size ≤ VV) (hne : VV ≠ V') (hsec : ∀ J : Nat → Prop, J VV → SecAt w3 J (.slice (some ⟨VV, 0, none⟩) 128 cc) s) (hVl : VV < w3.heap.size) :
    RLies (w3.setCell ⟨x, 1, none⟩ (.slice (some ⟨V', 0, none⟩) (d.waits.length + 1) cap')) (fun k => k = x ∨ lv.ownBlock = some k ∨ k = V') (fun k => I k ∨ k = VV) x lv (.slice (some ⟨V', 0, none⟩) (d.waits.length + 1) cap') kv ls (vs ++ [.slice (some ⟨VV, 0, none⟩) 128 cc]) lit left p (d.wait i s) ∧
      Fr S w (w3.setCell ⟨x, 1, none⟩ (.slice (some ⟨V', 0, none⟩) (d.waits.length + 1) cap')) := by
  have hxS : S x := (h.own x).2 (.inl rfl)
  have hwS : ∀ k, wv.ownBlock = some k → S k := fun k e => (h.own k).2 (.inr (.inr e))
  have hwx : ∀ k, wv.ownBlock = some k → k ≠ x := row_apart h.waits h.box (by decide)
  have hlx : ∀ k, lv.ownBlock = some k → k ≠ x := row_apart h.lasts h.box (by decide)
  have hlw : ∀ k, lv.ownBlock = some k → ¬ wv.ownBlock = some k := fun k e1 e2 => by
    rcases h.lasts.2 with ⟨hn, _⟩ | ⟨L, lc, lcur, hv', _, hL, _⟩
    · rw [hn] at e1; cases e1
    · rw [hv'] at e1
      have e1 : L = k := by simpa [Value.ownBlock] using e1
      subst e1
      have hL' : Has w L 34 lcur := hL
      exact row_apart h.waits hL' (by decide) L e2 rfl
  have fx : Fr (oneB x) w3 (w3.setCell ⟨x, 1, none⟩ (.slice (some ⟨V', 0, none⟩) (d.waits.length + 1) cap')) := (Fr.refl (oneB x) w3).put _
  have hV'x : V' ≠ x := by
    rcases hV with e | e
    · exact hwx _ e
    · have := h.box.lt; omega
  have ft : Fr S w (w3.setCell ⟨x, 1, none⟩ (.slice (some ⟨V', 0, none⟩) (d.waits.length + 1) cap')) := (hf.wide (fun k _ e => hwS k e)).trans fx (fun k _ e => by have e : k = x := e; rw [e]; exact hxS)
  have hbx : Has w3 x 70 (refCells lv wv d lit left kv p) := h.box.keep hf (fun e => hwx x e rfl)
  refine ⟨{ ok := Dk.St.wait_ok h.ok hi hs, box := hbx.set 1 _, lives := h.lives
            lasts := ownsRow_keep (ownsRow_keep h.lasts hf hlw) fx (fun k hk e => hlx k hk e)
            waits := by
              show World.ownsRow _ 0 _ 2 _ (d.waits ++ ([⟨i, s⟩] : List Dk.Wr)).length (rcells (d.waits ++ ([⟨i, s⟩] : List Dk.Wr)) _)
              rw [List.length_append, rcells_snoc d.waits vs h.vlen]
              exact ownsRow_keep hrow fx (fun k hk e => by have e : k = x := e; have hk : V' = k := by simpa [Value.ownBlock] using hk
                                                           exact hV'x (hk.trans e))
            vlen := by show (vs ++ [_]).length = (d.waits ++ ([⟨i, s⟩] : List Dk.Wr)).length; rw [List.length_append, List.length_append, h.vlen]; rfl
            secs := fun k y hk => by
              obtain ⟨v, e1, e2⟩ := h.secs k y hk
              exact ⟨v, e1, (e2.keep ft h.apart).mono fun _ e => .inl e⟩
            wrs := fun k y hk => by
              have hk : (d.waits ++ ([⟨i, s⟩] : List Dk.Wr))[k]? = some y := hk
              by_cases hlt : k < d.waits.length
              · rw [List.getElem?_append_left hlt] at hk
                obtain ⟨v, e1, e2⟩ := h.wrs k y hk
                exact ⟨v, by rw [List.getElem?_append_left (by rw [h.vlen]; exact hlt)]; exact e1, (e2.keep ft h.apart).mono fun _ e => .inl e⟩
              · rw [List.getElem?_append_right (by omega)] at hk
                have hk0 : k - d.waits.length = 0 := by
                  have := (List.getElem?_eq_some_iff.1 hk).1
                  simp at this
                  omega
                rw [hk0] at hk
                injection hk with hk
                subst hk
                refine ⟨_, by rw [List.getElem?_append_right (by rw [h.vlen]; omega), h.vlen, hk0]; rfl, (hsec _ (.inr rfl)).keep fx (fun j hj e => ?_)⟩
                have e : j = x := e
                subst e
                rcases hj with hj | hj
                · exact h.apart _ hj hxS
                · have := h.box.lt; omega
            kept := (h.kept.keep ft h.apart).mono fun _ e => .inl e
            own := fun k => by simp [Value.ownBlock, eq_comm]
            apart := fun k hk hs' => by
              rcases hk with hk | hk
              · rcases hs' with e | e | e
                · exact h.apart k hk (by rw [e]; exact hxS)
                · exact h.apart k hk ((h.own k).2 (.inr (.inl e)))
                · rcases hV with e2 | e2
                  · exact h.apart k hk (hwS k (by rw [e]; exact e2))
                  · have := h.low k hk; omega
              · subst hk
                rcases hs' with e | e | e
                · have := h.box.lt; omega
                · have := ownsRow_lt h.lasts _ e; omega
                · exact hne e
            low := fun k hk => by
              rcases hk with hk | hk
              · exact Nat.lt_of_lt_of_le (h.low k hk) ft.size
              · subst hk; simpa [World.setCell] using hVl }, ft⟩
-- GENERATED

set_option maxHeartbeats 1600000 in
set_option maxRecDepth 100000 in
theorem rwrite_ok (w : World) (S I : Nat → Prop) (x : Nat) (d : Dk.St) (h : RefAt w S I x d) (hdead : d.dead = false) (hm : d.waits.length < 1000000) (hdone : d.done < 4611686018427387904) (hleft : d.left ≤ 9223372036854775807)
    (i : Nat) (hi : i < d.lasts.length) (A : Option Addr) (c : Nat) (s : Dk.Sec) (hs : s.length = 128) (hr : Rd w w.heap.size A s) (hA : A = none → c = 0) (hAS : ∀ g o, A = some ⟨g, o, none⟩ → ¬ S g) :
    Calls Try.prog 28 #[.pointer (some ⟨x, 0, none⟩), .int .i64 i, .slice A 128 c] w fun e w' => e = .returned (.int .i64 (d.wait i s).stepErr) ∧ RGoes S I x (d.write i s) w w' := by
  obtain ⟨lv, wv, kv, ls, vs, lit, left, p, h⟩ := h
  obtain ⟨e1, e2, e3⟩ := h.lives hdead
  subst e1 e2 e3
  have c3 := h.c3
  have c0 := h.c0
  rw [hdead] at c3
  obtain ⟨LA, lc, hlf⟩ := h.lform
  rw [hlf] at c0
  have hdu := rdue_any w x _ wv kv d d.plan h.box hleft
  have Hdu := Lib.hid hdu
  have H := Lib.hid h
  have HSL := Lib.hid hs
  have HA := Lib.hid hA
  have hi1 : (i : Int) < d.lasts.length := by omega
  have hmost := h.ok.most
  have hxS : S x := (h.own x).2 (.inl rfl)
  have hr1 : ∀ w1, Fr (oneB x) w w1 → Rd w1 w1.heap.size A s := fun w1 f => ⟨hr.1, fun h0 => by
    obtain ⟨g, o, e, h1, h2⟩ := hr.2 h0
    refine ⟨g, o, e, Nat.lt_of_lt_of_le h1 f.size, fun j u hj => (World.cell?_of_block (f.old g h1 (fun e2 => ?_))).trans (h2 j u hj)⟩
    have e2 : g = x := e2
    exact hAS g o e (e2 ▸ hxS)⟩
  have HR1 := Lib.hid hr1
  clear h hdu hlf hs hA hr hr1 hAS
  go_enter Try.func28, Try.ntmps28
  go_wp2_with fail
  refine Hdu.out.mono ?_
  rintro e w1 ⟨rfl, hb1, hf1, hz1⟩
  have h1 : RLies w1 S I x lv wv kv ls vs d.lit (St.burnt d).left d.plan (St.burnt d) := H.out.rebox hb1 hf1 (burnt_ok H.out.ok) rfl rfl (fun _ => ⟨rfl, rfl, rfl⟩)
  have HF1 := Lib.hid (hf1.wide (T := S) (fun k _ e => by have e : k = x := e; rw [e]; exact hxS))
  have HRd := Lib.hid (HR1.out w1 hf1)
  have hx1 : w1.drew.cell? ⟨x, 1, none⟩ = some wv := h1.c1
  have HX := Lib.hid hx1
  have HXL : Hid (x < w1.heap.size) := Lib.hid h1.box.lt
  have H1 := Lib.hid h1
  clear h1 hb1 hf1 hz1 Hdu HR1 hx1 c0 c3
  generalize hdue : d.due = due at *
  have HDue := Lib.hid hdue
  clear hdue
  go_wp2_with fail
  refine LastH.begin (fun w' => w'.cell? ⟨x, 1, none⟩ = some wv) 14 (by kernel_rfl) ?_
  refine last_yield (i := 0) 30 (.pointer (some ⟨x, 0, none⟩)) rfl rfl (by kernel_rfl) (by kernel_rfl) (by kernel_rfl) (by kernel_rfl) (fun _ _ _ h => h) rfl ?_ HX.out ?_
  · intro w' hw'; have hw1 := hw'; go_simp
  simp only [Act.put, List.setIfInBounds_toArray, List.set_cons_succ, List.set_cons_zero]
  refine last_yield (i := 1) 31 (.pointer (some ⟨x, 0, none⟩)) rfl rfl (by kernel_rfl) (by kernel_rfl) (by kernel_rfl) (by kernel_rfl) (fun _ _ _ h => h) rfl ?_ HX.out ?_
  · intro w' hw'; have hw1 := hw'; go_simp
  simp only [Act.put, List.setIfInBounds_toArray, List.set_cons_succ, List.set_cons_zero]
  refine last_yield (i := 2) 32 (.pointer (some ⟨x, 0, none⟩)) rfl rfl (by kernel_rfl) (by kernel_rfl) (by kernel_rfl) (by kernel_rfl) (fun _ _ _ h => h) rfl ?_ HX.out ?_
  · intro w' hw'; have hw1 := hw'; go_simp
  simp only [Act.put, List.setIfInBounds_toArray, List.set_cons_succ, List.set_cons_zero]
  refine last_yield (i := 3) 33 (.pointer (some ⟨x, 1, none⟩)) rfl rfl (by kernel_rfl) (by kernel_rfl) (by kernel_rfl) (by kernel_rfl) (fun _ _ _ h => h) rfl ?_ HX.out ?_
  · intro w' hw'; have hw1 := hw'; go_simp
  simp only [Act.put, List.setIfInBounds_toArray, List.set_cons_succ, List.set_cons_zero]
  refine last_yield (i := 4) 34 (wv) rfl rfl (by kernel_rfl) (by kernel_rfl) (by kernel_rfl) (by kernel_rfl) (fun _ _ _ h => h) rfl ?_ HX.out ?_
  · intro w' hw'; have hw1 := hw'; go_simp
  simp only [Act.put, List.setIfInBounds_toArray, List.set_cons_succ, List.set_cons_zero]
  refine last_yield (i := 5) 35 (.int .i64 (i : Int)) rfl rfl (by kernel_rfl) (by kernel_rfl) (by kernel_rfl) (by kernel_rfl) (fun _ _ _ h => h) rfl ?_ HX.out ?_
  · intro w' hw'; have hw1 := hw'; go_simp
  simp only [Act.put, List.setIfInBounds_toArray, List.set_cons_succ, List.set_cons_zero]
  refine last_yield (i := 7) 37 (.slice A 128 c) rfl rfl (by kernel_rfl) (by kernel_rfl) (by kernel_rfl) (by kernel_rfl) (fun _ _ _ h => h) rfl ?_ HX.out ?_
  · intro w' hw'; have hw1 := hw'; go_simp
  simp only [Act.put, List.setIfInBounds_toArray, List.set_cons_succ, List.set_cons_zero]
  refine last_one (i := 6) (by kernel_rfl) rfl rfl ?_
  intro K hK
  go_simp
  have hx2 : (w1.alloc (.cells #[] 5)).drew.cell? ⟨x, 1, none⟩ = some wv := (World.cell?_alloc_lt w1 _ _ (block_lt_of_cell HX.out)).trans HX.out
  refine hK _ _ (.inr hx2) ?_
  clear hK K
  have o2 : OwnV (w1.alloc (.cells #[] 5)).drew w1.heap.size (.slice (some ⟨w1.heap.size, 0, none⟩) 0 0) [] := (Own.none_ w1 w1.heap.size (Nat.le_refl _)).row
  have b2 : Below w1.heap.size w1 (w1.alloc (.cells #[] 5)).drew := Below.drew ((Below.refl _ _).alloc (Nat.le_refl _) _)
  have r2 : Rd (w1.alloc (.cells #[] 5)).drew w1.heap.size A s := HRd.out.below b2
  generalize (w1.alloc (.cells #[] 5)).drew = w2 at *
  refine last_one (i := 8) (by kernel_rfl) rfl rfl ?_
  intro K hK
  refine wp_append_v (.tmp 36) (.tmp 37) rfl w1.heap.size _ [] rfl o2 _ A s c (by rw [HSL.out]; rfl) r2 HA.out (by rw [HSL.out]; simp) b2.size w1 b2 ?_
  intro vb w3 o3 b3
  have o3 : OwnV w3 w1.heap.size vb s := o3
  obtain ⟨VV, cc, rfl, hVV, hVVl, hsec⟩ := sec_of_own o3 HSL.out
  have hx3 : w3.cell? ⟨x, 1, none⟩ = some wv := (World.cell?_of_block (b3.block x HXL.out)).trans HX.out
  refine wp_of_dst (some 38) rfl _ ?_
  refine hK _ _ (.inr hx3) ?_
  clear hK K o2 b2 r2 hx2 o3
  simp only [Act.put, List.setIfInBounds_toArray, List.set_cons_succ, List.set_cons_zero]
  refine last_one (i := 9) (by kernel_rfl) rfl rfl ?_
  intro K hK
  go_simp
  refine hK _ _ (.inr hx3) ?_
  clear hK K
  refine last_one (i := 10) (by kernel_rfl) rfl rfl ?_
  intro K hK
  go_simp
  have f3 : Fr noB w1 w3 := Fr.of_below b3 noB
  have h4 := (H1.out.keep f3 (fun _ e => e.elim)).keep (T := noB) ((Fr.refl noB w3).alloc (.cells #[.int .i64 (i : Int), .slice (some ⟨VV, 0, none⟩) 128 cc] 88)) (fun _ e => e.elim)
  have hx4 := h4.c1
  have hn4 : Has (w3.alloc (.cells #[.int .i64 (i : Int), .slice (some ⟨VV, 0, none⟩) 128 cc] 88)) w3.heap.size 88 #[.int .i64 (i : Int), .slice (some ⟨VV, 0, none⟩) 128 cc] := Has.of_alloc _ _ _
  have hs4 : ∀ J : Nat → Prop, J VV → SecAt (w3.alloc (.cells #[.int .i64 (i : Int), .slice (some ⟨VV, 0, none⟩) 128 cc] 88)) J (.slice (some ⟨VV, 0, none⟩) 128 cc) s := fun J hj => (hsec J hj).keep (T := noB) ((Fr.refl noB w3).alloc _) (fun _ _ e => e)
  have f4 : Fr noB w1 (w3.alloc (.cells #[.int .i64 (i : Int), .slice (some ⟨VV, 0, none⟩) 128 cc] 88)) := f3.alloc _
  have hz4 : w3.heap.size < (w3.alloc (.cells #[.int .i64 (i : Int), .slice (some ⟨VV, 0, none⟩) 128 cc] 88)).heap.size := hn4.lt
  refine hK _ _ (.inr hx4) ?_
  clear hK K hsec
  generalize hg4 : w3.heap.size = g4 at *
  generalize (w3.alloc (.cells #[.int .i64 (i : Int), .slice (some ⟨VV, 0, none⟩) 128 cc] 88)) = w4 at *
  refine last_one (i := 11) (by kernel_rfl) rfl rfl ?_
  intro K hK
  have hwl : (St.burnt d).waits.length = d.waits.length := rfl
  refine wp_append_rw (.tmp 34) (.tmp 40) rfl wv d.waits.length (rcells d.waits vs) rfl h4.waits g4 rfl [.int .i64 (i : Int), .slice (some ⟨VV, 0, none⟩) 128 cc] rfl hn4 (by intro u hu; simp at hu; rcases hu with rfl | rfl <;> rfl) hm ?_
  intro V' cap' w5 hrow hgr hV
  have f5 : Fr (fun k => wv.ownBlock = some k) w4 w5 := Fr.of_grown hgr (fun k hk => hk)
  have hx5 : w5.cell? ⟨x, 1, none⟩ = some wv := (World.cell?_of_block (f5.old x h4.box.lt (fun e => row_apart h4.waits h4.box (by decide) x e rfl))).trans hx4
  refine wp_of_dst (some 41) rfl _ ?_
  refine hK _ _ (.inr hx5) ?_
  clear hK K
  simp only [Act.put, List.setIfInBounds_toArray, List.set_cons_succ, List.set_cons_zero]
  have hV4 : wv.ownBlock = some V' ∨ w4.heap.size ≤ V' := hV.imp id (fun e => by omega)
  have hne : VV ≠ V' := by
    rcases hV4 with e | e
    · have := ownsRow_lt H1.out.waits _ e; omega
    · omega
  have f15 : Fr (fun k => wv.ownBlock = some k) w1 w5 := (f4.wide (fun _ _ e => e.elim)).trans f5 (fun _ _ e => e)
  have hs5 := (hs4 (fun k => k = VV) rfl).keep f5 (fun k hk e => by have hk : k = VV := hk; have := ownsRow_lt H1.out.waits _ e; omega)
  have hend : RLies (w5.setCell ⟨x, 1, none⟩ (.slice (some ⟨V', 0, none⟩) (d.waits.length + 1) cap')) (fun k => k = x ∨ lv.ownBlock = some k ∨ k = V') (fun k => I k ∨ k = VV) x lv (.slice (some ⟨V', 0, none⟩) (d.waits.length + 1) cap') kv ls (vs ++ [.slice (some ⟨VV, 0, none⟩) 128 cc]) d.lit (St.burnt d).left d.plan ((St.burnt d).wait i s) ∧ Fr S w1 (w5.setCell ⟨x, 1, none⟩ (.slice (some ⟨V', 0, none⟩) (d.waits.length + 1) cap')) := H1.out.waited i s hi HSL.out f15 hrow (hV4.imp id (fun e => by have := f4.size; omega)) hVV hne (fun J hj => hs5.mono (fun k hk => by have hk : k = VV := hk; rw [hk]; exact hj)) (by have := f5.size; omega)
  have hV1 : Hid (wv.ownBlock = some V' ∨ w1.heap.size ≤ V') := Lib.hid (hV4.imp id (fun e => by have := f4.size; omega))
  clear hs5 f15
  obtain ⟨hE, hEF⟩ := hend
  have HE := Lib.hid hE
  have HEF := Lib.hid hEF
  have hz5 : w5.frozen? ⟨x, 1, none⟩ = false := (h4.box.keep f5 (fun e => row_apart h4.waits h4.box (by decide) x e rfl)).free 1
  refine last_one (i := 12) (by kernel_rfl) rfl rfl ?_
  intro K hK
  go_simp
  refine hK _ _ (.inr hx5) ?_
  clear hK K
  refine last_one (i := 13) (by kernel_rfl) rfl rfl ?_
  intro K hK
  go_simp
  refine hK _ _ (.inr hx5) ?_
  clear hK K
  refine last_one (i := 14) (by kernel_rfl) rfl rfl ?_
  intro K hK
  go_simp
  refine hK _ _ (.inl rfl) ?_
  clear hK K hx5 hz5 hE hEF hrow hgr hV f5 hV4 hs4 h4 hn4 hx4 f4 f3 hx3 b3
  refine LastH.done (by kernel_rfl) ?_ 0
  have hlow6 : ∀ k, (k = x ∨ lv.ownBlock = some k ∨ k = V') → S k ∨ w.heap.size ≤ k := fun k e => by
    rcases e with e | e | e
    · exact .inl (by rw [e]; exact hxS)
    · exact .inl ((H1.out.own k).2 (.inr (.inl e)))
    · rcases hV1.out with e2 | e2
      · exact .inl ((H1.out.own k).2 (.inr (.inr (by rw [e]; exact e2))))
      · exact .inr (by have := HF1.out.size; omega)
  have hI6 : ∀ k, (I k ∨ k = VV) → I k ∨ w.heap.size ≤ k := fun k e => e.imp id (fun e => by have := HF1.out.size; omega)
  have HL6 := Lib.hid hlow6
  have HI6 := Lib.hid hI6
  have HF6 := Lib.hid (HF1.out.trans HEF.out (fun _ _ e => e))
  clear hlow6 hI6 HEF
  generalize (w5.setCell ⟨x, 1, none⟩ (.slice (some ⟨V', 0, none⟩) (d.waits.length + 1) cap')) = w6 at *
  cases due with
  | true =>
    obtain ⟨fs, hfs⟩ := und_rplan
    have hcr := rcrash_ok w6 _ _ _ x ((St.burnt d).wait i s) ⟨_, _, _, _, _, _, _, _, HE.out⟩ hdead kv d.plan HE.out.kept HE.out.apart H.out.ok.cut0 H.out.ok.cut1 (by show (d.waits ++ [_]).length ≤ 1000000; rw [List.length_append]; simp; omega)
    unfold planV at hcr
    have HCR := Lib.hid hcr
    clear hcr hdead
    go_wp2_with (refine arm_load rfl 68 (.tmp 48) rfl x 6 3 rfl HE.out.box hfs rfl siz_plan3 [kv, .int .i64 d.plan.torn, .int .i64 d.plan.cut] (plan_part _ _ _ _ _ _ _) rfl ?_)
    refine HCR.out.mono ?_
    rintro e w7 ⟨rfl, hg⟩
    have HG := Lib.hid hg
    clear hg
    go_wp2_with fail
    go_ret
    have hdw : (d.wait i s).due = true := HDue.out
    have hw : d.write i s = (d.wait i s).crash d.plan := by unfold Dk.St.write Dk.St.step; rw [hdw]; rfl
    refine ⟨congrArg (fun q => Ending.returned (Value.int .i64 q)) (by unfold Dk.St.stepErr; rw [hdw]; rfl), ?_⟩
    rw [hw]
    exact RGoes.after HF6.out HL6.out HI6.out HG.out
  | false =>
    have c2 : w6.cell? ⟨x, 2, none⟩ = some (.int .i64 (d.done : Int)) := HE.out.box.cell 2
    have z2 : w6.frozen? ⟨x, 2, none⟩ = false := HE.out.box.free 2
    have hdn : (d.done : Int) < 4611686018427387904 := by omega
    go_wp2_with fail
    go_ret
    have hdw : (d.wait i s).due = false := HDue.out
    have hw : d.write i s = (d.wait i s).tick := by unfold Dk.St.write Dk.St.step; rw [hdw]; rfl
    refine ⟨congrArg (fun q => Ending.returned (Value.int .i64 q)) (by unfold Dk.St.stepErr; rw [hdw]; rfl), ?_⟩
    rw [hw]
    have fx : Fr (oneB x) w6 (w6.setCell ⟨x, 2, none⟩ (.int .i64 ((d.done : Int) + 1))) := (Fr.refl (oneB x) w6).put _
    have hfin := HE.out.rebox (d' := (d.wait i s).tick) (HE.out.box.set 2 (.int .i64 ((d.done : Int) + 1))) fx (Dk.St.tick_ok (Dk.St.wait_ok H.out.ok hi HSL.out)) rfl rfl (fun _ => ⟨rfl, rfl, rfl⟩)
    exact ⟨_, _, ⟨_, _, _, _, _, _, _, _, hfin⟩, HF6.out.trans (fx.wide (T := S) (fun k _ e => by have e : k = x := e; rw [e]; exact hxS)) (fun _ _ e => e), HL6.out, HI6.out⟩
end Go.Proofs.Ytpgpalnnmoanpaa

/-
  Flush of the disk by its words, where the fuse has not burnt down: all that waits lasts.
-/
import Derived.Test.YtpgpalnnmoanpaaDRefRead
import Derived.StillTailTactics
namespace Go.Proofs.Ytpgpalnnmoanpaa
open Go.RowKit Go.Maps

theorem ownsRow_set {w : World} {base : Nat} {e : TypeId} {size V n cap : Nat} {xs : List Value} (h : w.ownsRow base e size (.slice (some ⟨V, 0, none⟩) n cap) n xs) (j : Nat) (u : Value) :
    (w.setCell ⟨V, j, none⟩ u).ownsRow base e size (.slice (some ⟨V, 0, none⟩) n cap) n (xs.set j u) := by
  rcases h.2 with ⟨h0, _⟩ | ⟨g, cap', cur, h', hb, hg, h1, h2, h3, h4⟩
  · cases h0
  · injection h' with ha _ hc
    injection ha with ha
    injection ha with ha
    subst ha
    subst hc
    refine ⟨by rw [List.length_set]; exact h.1, .inr ⟨V, cap, cur.setIfInBounds j u, rfl, hb, heap_setCell_same w V j cur e u hg, h1, h2, by simpa using h3, ?_⟩⟩
    rw [Array.toList_setIfInBounds, List.take_set, h4]
/-- the disk whose sectors are l -/
def St.lasting (d : Dk.St) (l : List Dk.Sec) : Dk.St := { d with lasts := l }
theorem lasting_ok {d : Dk.St} (h : d.Ok) {l : List Dk.Sec} (hl : l.length = d.lasts.length) (hf : Dk.Full l) : (St.lasting d l).Ok :=
  ⟨by show 1 ≤ l.length; rw [hl]; exact h.some_, by show l.length ≤ 65536; rw [hl]; exact h.most, hf, by show Dk.FullW l.length d.waits; rw [hl]; exact h.fullW, h.cut0, h.cut1⟩
section
variable {w : World} {S I : Nat → Prop} {x : Nat} {wv kv : Value} {ls vs : List Value} {lit : Bool} {left : Nat} {p : Dk.Pl} {d : Dk.St} {L lcap : Nat}
/-- a sector is another one now -/
theorem RLies.setLast {n : Nat} (h : RLies w S I x (.slice (some ⟨L, 0, none⟩) n lcap) wv kv ls vs lit left p d) (hn : n = d.lasts.length) (a : Nat) (v : Value) (s : Dk.Sec) (hs : s.length = 128) (hv : SecAt w I v s) :
    RLies (w.setCell ⟨L, a, none⟩ v) S I x (.slice (some ⟨L, 0, none⟩) n lcap) wv kv (ls.set a v) vs lit left p (St.lasting d (d.lasts.set a s)) := by
  subst hn
  have hS : S L := (h.own L).2 (.inr (.inl rfl))
  have f : Fr (oneB L) w (w.setCell ⟨L, a, none⟩ v) := (Fr.refl (oneB L) w).put _
  have hI : ∀ k, I k → ¬ oneB L k := fun k hk e => h.apart k hk (by have e : k = L := e; rw [e]; exact hS)
  obtain ⟨cur, hL, _⟩ := own_has h.lasts
  have hlen : (d.lasts.set a s).length = d.lasts.length := List.length_set
  have hxL : x ≠ L := h.box.apart hL (by decide)
  have hwL : ∀ k, wv.ownBlock = some k → ¬ oneB L k := fun k hk e => by
    have e : k = L := e
    subst e
    rcases h.waits.2 with ⟨hn, _⟩ | ⟨V, vc, wcur, hv', _, hV, _⟩
    · rw [hn] at hk; cases hk
    · rw [hv'] at hk
      have hk : V = k := by simpa [Value.ownBlock] using hk
      subst hk
      have hV' : Has w V 88 wcur := hV
      exact hV'.apart hL (by decide) rfl
  exact { ok := lasting_ok h.ok hlen (h.ok.full.set a hs), box := h.box.keep f hxL, lives := h.lives,
          lasts := by rw [show (St.lasting d (d.lasts.set a s)).lasts.length = d.lasts.length from hlen]; exact ownsRow_set h.lasts a v
          waits := ownsRow_keep h.waits f hwL, vlen := h.vlen
          secs := fun k y hk => by
            have hk : (d.lasts.set a s)[k]? = some y := hk
            have hkl : k < d.lasts.length := by rw [← hlen]; exact (List.getElem?_eq_some_iff.1 hk).1
            obtain ⟨v0, e0, k0⟩ := h.secs k _ (List.getElem?_eq_getElem hkl)
            have hkv : k < ls.length := (List.getElem?_eq_some_iff.1 e0).1
            rw [List.getElem?_set] at hk
            by_cases e : a = k
            · subst e
              rw [if_pos rfl, if_pos hkl] at hk
              injection hk with hk
              subst hk
              exact ⟨v, by rw [List.getElem?_set, if_pos rfl, if_pos hkv], hv.keep f hI⟩
            · rw [if_neg e] at hk
              obtain ⟨v1, e1, k1⟩ := h.secs k y hk
              exact ⟨v1, by rw [List.getElem?_set, if_neg e]; exact e1, k1.keep f hI⟩
          wrs := fun k y hk => by obtain ⟨v1, h1, h2⟩ := h.wrs k y hk; exact ⟨v1, h1, h2.keep f hI⟩
          kept := h.kept.keep f hI, own := h.own, apart := h.apart, low := fun k hk => Nat.lt_of_lt_of_le (h.low k hk) f.size }
theorem RLies.drew {lv : Value} (h : RLies w S I x lv wv kv ls vs lit left p d) : RLies w.drew S I x lv wv kv ls vs lit left p d :=
  h.keep (T := noB) ((Fr.refl noB w).drew) (fun _ hk => hk.elim)
theorem row_apart {w : World} {base : Nat} {e t : TypeId} {size n x : Nat} {v : Value} {xs : List Value} {cs : Array Value} (h : w.ownsRow base e size v n xs) (hx : Has w x t cs) (hne : e ≠ t) (k : Nat) (hk : v.ownBlock = some k) : k ≠ x := by
  rcases h.2 with ⟨hn, _⟩ | ⟨V, vc, wcur, hv', _, hV, _⟩
  · rw [hn] at hk; cases hk
  · rw [hv'] at hk
    have hk : V = k := by simpa [Value.ownBlock] using hk
    subst hk
    have hV' : Has w V e wcur := hV
    exact hV'.apart hx hne
/-- the struct alone was written -/
theorem RLies.rebox {w' : World} {lv : Value} (h : RLies w S I x lv wv kv ls vs lit left p d) {d' : Dk.St} {lit' : Bool} {left' : Nat} (hb : Has w' x 70 (refCells lv wv d' lit' left' kv p)) (f : Fr (oneB x) w w') (hok : d'.Ok) (h1 : d'.lasts = d.lasts) (h2 : d'.waits = d.waits)
    (h3 : d'.dead = false → lit' = d'.lit ∧ left' = d'.left ∧ p = d'.plan) : RLies w' S I x lv wv kv ls vs lit' left' p d' := by
  have hI : ∀ k, I k → ¬ oneB x k := fun k hk e => h.apart k hk (by have e : k = x := e; rw [e]; exact (h.own x).2 (.inl rfl))
  exact { ok := hok, box := hb, lives := h3, lasts := by rw [h1]; exact ownsRow_keep h.lasts f (row_apart h.lasts h.box (by decide))
          waits := by rw [h2]; exact ownsRow_keep h.waits f (row_apart h.waits h.box (by decide))
          vlen := by rw [h2]; exact h.vlen
          secs := fun k s hk => by rw [h1] at hk; obtain ⟨v, e1, e2⟩ := h.secs k s hk; exact ⟨v, e1, e2.keep f hI⟩
          wrs := fun k s hk => by rw [h2] at hk; obtain ⟨v, e1, e2⟩ := h.wrs k s hk; exact ⟨v, e1, e2.keep f hI⟩
          kept := h.kept.keep f hI, own := h.own, apart := h.apart, low := fun k hk => Nat.lt_of_lt_of_le (h.low k hk) f.size }
/-- nothing waits any more -/
theorem RLies.emptied {w' : World} {lv : Value} (h : RLies w S I x lv wv kv ls vs lit left p d) {d' : Dk.St} (hb : Has w' x 70 (refCells lv (.slice none 0 0) d' lit left kv p)) (f : Fr (oneB x) w w') (hok : d'.Ok) (h1 : d'.lasts = d.lasts) (h2 : d'.waits = [])
    (h3 : d'.dead = false → lit = d'.lit ∧ left = d'.left ∧ p = d'.plan) : RLies w' (fun k => k = x ∨ lv.ownBlock = some k) I x lv (.slice none 0 0) kv ls [] lit left p d' := by
  have hI : ∀ k, I k → ¬ oneB x k := fun k hk e => h.apart k hk (by have e : k = x := e; rw [e]; exact (h.own x).2 (.inl rfl))
  exact { ok := hok, box := hb, lives := h3, lasts := by rw [h1]; exact ownsRow_keep h.lasts f (row_apart h.lasts h.box (by decide))
          waits := by rw [h2]; exact World.ownsRow_nil _ _ _ _
          vlen := by rw [h2]; rfl
          secs := fun k s hk => by rw [h1] at hk; obtain ⟨v, e1, e2⟩ := h.secs k s hk; exact ⟨v, e1, e2.keep f hI⟩
          wrs := fun k s hk => by rw [h2] at hk; simp at hk
          kept := h.kept.keep f hI, own := fun k => by simp [Value.ownBlock], apart := fun k hk hs => h.apart k hk ((h.own k).2 (by rcases hs with e | e; exact .inl e; exact .inr (.inl e))), low := fun k hk => Nat.lt_of_lt_of_le (h.low k hk) f.size }
end
/-- the disk x by its words went on: it is d' now -/
def RGoes (S I : Nat → Prop) (x : Nat) (d' : Dk.St) (w w' : World) : Prop :=
  ∃ S' I', RefAt w' S' I' x d' ∧ Fr S w w' ∧ (∀ k, S' k → S k ∨ w.heap.size ≤ k) ∧ ∀ k, I' k → I k ∨ w.heap.size ≤ k
def St.burnt (d : Dk.St) : Dk.St := { d with left := if d.lit then d.left - 1 else d.left }
theorem burnt_ok {d : Dk.St} (h : d.Ok) : (St.burnt d).Ok := ⟨h.some_, h.most, h.full, h.fullW, h.cut0, h.cut1⟩

set_option maxHeartbeats 800000 in
theorem rflush_tick (w : World) (S I : Nat → Prop) (x : Nat) (d : Dk.St) (h : RefAt w S I x d) (hdead : d.dead = false) (hdue : d.due = false) (hm : d.waits.length ≤ 1000000) (hdone : d.done < 4611686018427387904) (hleft : d.left ≤ 9223372036854775807) :
    Calls Try.prog 29 #[.pointer (some ⟨x, 0, none⟩)] w fun e w' => e = .returned (.int .i64 0) ∧ RGoes S I x d.flush w w' := by
  obtain ⟨lv, wv, kv, ls, vs, lit, left, p, h⟩ := h
  obtain ⟨e1, e2, e3⟩ := h.lives hdead
  subst e1 e2 e3
  have c3 := h.c3
  rw [hdead] at c3
  obtain ⟨L, lcap, v0, rfl, j0, j1⟩ := h.lcell (k := 0) (by have := h.ok.some_; omega)
  clear j0 j1
  have hdu := rdue_any w x _ wv kv d d.plan h.box hleft
  rw [hdue] at hdu
  have Hdu := Lib.hid hdu
  have H := Lib.hid h
  have hfl : d.flush = { d.tick with lasts := Dk.flushed d.waits d.lasts d.waits.length, waits := [] } := by unfold Dk.St.flush; rw [hdue]; rfl
  have Hfl := Lib.hid hfl
  have Hok := Lib.hid (Dk.St.flush_ok h.ok)
  rw [hfl] at Hok
  clear hdu h hdue hfl
  go_enter Try.func29, Try.ntmps29
  go_wp2_with fail
  refine Hdu.out.mono ?_
  rintro e w1 ⟨rfl, hb1, hf1, hz1⟩
  have h1 : RLies w1 S I x (.slice (some ⟨L, 0, none⟩) d.lasts.length lcap) wv kv ls vs d.lit (St.burnt d).left d.plan (St.burnt d) := H.out.rebox hb1 hf1 (burnt_ok H.out.ok) rfl rfl (fun _ => ⟨rfl, rfl, rfl⟩)
  have H1 := Lib.hid h1
  have hsx : S x := (H.out.own x).2 (.inl rfl)
  have hF1 := Lib.hid (hf1.wide (T := S) (fun k _ e => by have e : k = x := e; rw [e]; exact hsx))
  obtain ⟨A, c, rfl⟩ := h1.wform
  have hwl : (St.burnt d).waits.length = d.waits.length := rfl
  clear h1 hb1 hf1 hz1 Hdu hwl
  go_wp2_with fail
  go_loopw [3] (fun i wr => ∃ k : Nat, k ≤ d.waits.length ∧ i = .int .i64 k ∧ Fr S w1 wr ∧ ∃ ls', RLies wr S I x (.slice (some ⟨L, 0, none⟩) d.lasts.length lcap) (.slice A d.waits.length c) kv ls' vs d.lit (St.burnt d).left d.plan (St.lasting (St.burnt d) (Dk.flushed d.waits d.lasts k))) (fun i _ => d.waits.length - (intOf i).toNat)
  case atStart => exact ⟨0, Nat.zero_le _, rfl, Fr.refl _ _, ls, H1.out⟩
  case round =>
    obtain ⟨k, hk, rfl, hF, ls', hr⟩ := hrel
    have c0 := hr.c0
    have c1 := hr.c1
    have hfl := Dk.flushed_len d.waits d.lasts k
    by_cases hlt : k < d.waits.length
    · obtain ⟨V, cap, v, hv, w0, wv1, hs⟩ := hr.wcell (k := k) hlt
      injection hv with hv1 hq3 hv2
      subst hv1
      clear hv2 hq3
      have hyok := H.out.ok.fullW _ (List.getElem_mem hlt)
      have hstep : Dk.flushed d.waits d.lasts (k + 1) = (Dk.flushed d.waits d.lasts k).set d.waits[k].at_ d.waits[k].says := by
        rw [Dk.flushed, List.getElem?_eq_getElem hlt]
      have w0' : wr.cell? ⟨V, k * 2, none⟩ = some (.int .i64 (d.waits[k].at_ : Int)) := w0
      have hs' : SecAt wr I v d.waits[k].says := hs
      have hsetl := hr.drew.setLast hfl.symm d.waits[k].at_ v d.waits[k].says hyok.1 (hs'.keep ((Fr.refl noB wr).drew) (fun _ _ e => e))
      have hL : S L := (hr.own L).2 (.inr (.inl rfl))
      have hF2 : Fr S w1 (wr.drew.setCell ⟨L, d.waits[k].at_, none⟩ v) := hF.drew.setAt (.inl hL) v
      have hll : wr.ownsRow 0 34 1 (.slice (some ⟨L, 0, none⟩) d.lasts.length lcap) d.lasts.length ls' := by
        have := hr.lasts
        rw [show (St.lasting (St.burnt d) (Dk.flushed d.waits d.lasts k)).lasts.length = d.lasts.length from hfl] at this
        exact this
      obtain ⟨cur, hLh, _, _, _, _⟩ := own_has hll
      obtain ⟨L', lcap', vv, hvv, hcell, j2⟩ := hr.lcell (k := d.waits[k].at_) (by show d.waits[k].at_ < (Dk.flushed d.waits d.lasts k).length; rw [hfl]; exact hyok.2)
      injection hvv with hvv hq1 hq2
      injection hvv with hvv
      injection hvv with hvv
      subst hvv
      clear hq1 hq2
      have hfz : wr.drew.frozen? ⟨L, d.waits[k].at_, none⟩ = false := hLh.free _
      have hcell' : wr.drew.cell? ⟨L, d.waits[k].at_, none⟩ = some vv := hcell
      have hsetl' : RLies (wr.drew.setCell ⟨L, d.waits[k].at_, none⟩ v) S I x (.slice (some ⟨L, 0, none⟩) d.lasts.length lcap) (.slice (some ⟨V, 0, none⟩) d.waits.length c) kv (ls'.set d.waits[k].at_ v) vs d.lit (St.burnt d).left d.plan (St.lasting (St.burnt d) (Dk.flushed d.waits d.lasts (k + 1))) := by
        rw [hstep]; exact hsetl
      have Hst := Lib.hid hsetl'
      have HF2 := Lib.hid hF2
      have hat := hyok.2
      obtain ⟨g, c', rfl, j3, j4, j5⟩ := hs'
      clear j2 j3 j4 j5 hr hF hsetl hsetl' hF2 hstep hs hll hLh hfl hyok w0 hcell
      generalize d.waits[k].at_ = a at *
      have hat1 : (a : Int) < d.lasts.length := by omega
      have hmost := H.out.ok.most
      have hk1 : (k : Int) < d.waits.length := by omega
      go_wp2_with fail
      go_still_tail 21, (by kernel_rfl)
      change wpList _ _ _ _ _ wr.drew
      go_wp2_with fail
      go_roundw
      case rel => exact ⟨k + 1, by omega, by go_num, HF2.out, _, Hst.out⟩
      case measure => simp [intOf]; omega
    · obtain rfl : k = d.waits.length := by omega
      have Hr := Lib.hid hr
      have HF := Lib.hid hF
      have z1 : wr.frozen? ⟨x, 1, none⟩ = false := hr.box.free 1
      have z2 : wr.frozen? ⟨x, 2, none⟩ = false := hr.box.free 2
      have c2 : wr.cell? ⟨x, 2, none⟩ = some (.int .i64 (d.done : Int)) := hr.c2
      clear hr hF hfl
      go_wp2_with fail
      go_ret
      have hbx := (Hr.out.box.set 1 (.slice none 0 0)).set 2 (.int .i64 ((d.done : Int) + 1))
      have hfx : Fr (oneB x) wr ((wr.setCell ⟨x, 1, none⟩ (.slice none 0 0)).setCell ⟨x, 2, none⟩ (.int .i64 ((d.done : Int) + 1))) := ((Fr.refl (oneB x) wr).put _).put _
      rw [Hfl.out]
      refine ⟨rfl, _, I, ⟨_, _, _, _, _, _, _, _, Hr.out.emptied (d' := { d.tick with lasts := Dk.flushed d.waits d.lasts d.waits.length, waits := [] }) hbx hfx Hok.out rfl rfl (fun _ => ⟨rfl, rfl, rfl⟩)⟩, (hF1.out.trans HF.out (fun _ _ e => e)).trans (hfx.wide (T := S) (fun k _ e => by have e : k = x := e; rw [e]; exact hsx)) (fun _ _ e => e), fun k hk => .inl ((H.out.own k).2 (by rcases hk with e | e; exact .inl e; exact .inr (.inl e))), fun _ e => .inl e⟩
end Go.Proofs.Ytpgpalnnmoanpaa

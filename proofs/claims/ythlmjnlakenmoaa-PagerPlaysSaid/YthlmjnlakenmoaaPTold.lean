/-
  The pager beside the pager by the document's words, in memory; all is told alike of them.
-/
import Derived.Test.YthlmjnlakenmoaaPRel
import Derived.Test.YthlmjnlakenmoaaPRefNew
import Derived.Test.YthlmjnlakenmoaaKonst
import Derived.Deep.QuietTactic
namespace Go.Proofs.Ythlmjnlakenmoaa
open Go.RowKit Go.Maps
set_option maxRecDepth 100000

structure BothAt (W w : World) (b db x g : Nat) (S Sd : Nat → Prop) (U T B D low L M : Nat) (p pr : Pr.Pt) (q : Pr.Dr) (d : Dk.St) : Prop where
  sys : PSys W w S Sd noB b db U T B D low p d
  ref : RPg w x g L M pr q
  apart : ∀ k, rS x g L M k → W.heap.size ≤ k ∧ ¬ S k
theorem BothAt.pg {W w w' : World} {b b' db x g : Nat} {S S' Sd Sd' : Nat → Prop} {U T B D low U' T' B' D' low' L M : Nat} {p p' pr : Pr.Pt} {q : Pr.Dr} {d d' : Dk.St} (h : BothAt W w b db x g S Sd U T B D low L M p pr q d)
    (y : PSys W w' S' Sd' noB b' db U' T' B' D' low' p' d') (f : Fr S w w') (hs : ∀ k, S' k → S k ∨ w.heap.size ≤ k) : BothAt W w' b' db x g S' Sd' U' T' B' D' low' L M p' pr q d' :=
  ⟨y, h.ref.keep f (fun k hk => (h.apart k hk).2), fun k hk => ⟨(h.apart k hk).1, fun e => by
    rcases hs k e with e2 | e2
    · exact (h.apart k hk).2 e2
    · have := h.ref.lt k hk; omega⟩⟩
theorem BothAt.rf {W w w' : World} {b db x g : Nat} {S Sd : Nat → Prop} {U T B D low L M L' : Nat} {p pr pr' : Pr.Pt} {q q' : Pr.Dr} {d : Dk.St} (h : BothAt W w b db x g S Sd U T B D low L M p pr q d)
    (r : RPg w' x g L' M pr' q') (f : Fr (rS x g L M) w w') (hn : L' = L ∨ w.heap.size ≤ L') : BothAt W w' b db x g S Sd U T B D low L' M p pr' q' d := by
  have hz := h.sys.size
  refine ⟨⟨h.sys.over.keep f (fun k hk => ⟨(h.apart k hk).2, fun e => e⟩), h.sys.news, h.sys.newr, h.sys.below.trans (f.below hz fun k hk => (h.apart k hk).1)⟩, r, fun k hk => ?_⟩
  have hnew : ∀ k, w.heap.size ≤ k → W.heap.size ≤ k ∧ ¬ S k := fun k hk => ⟨by omega, fun e => by have := h.sys.over.lt k e; omega⟩
  rcases hk with rfl | rfl | rfl | rfl
  · exact h.apart _ (.inl rfl)
  · exact h.apart _ (.inr (.inl rfl))
  · rcases hn with rfl | e
    · exact h.apart _ (.inr (.inr (.inl rfl)))
    · exact hnew _ e
  · exact h.apart _ (.inr (.inr (.inr rfl)))
theorem BothAt.next {W w w' : World} {b db x g : Nat} {S Sd : Nat → Prop} {U T B D low L M : Nat} {p pr : Pr.Pt} {q : Pr.Dr} {d : Dk.St} (h : BothAt W w b db x g S Sd U T B D low L M p pr q d) (hb : Below w.heap.size w w') : BothAt W w' b db x g S Sd U T B D low L M p pr q d :=
  ⟨h.sys.next hb, h.ref.below hb, h.apart⟩
/-- the two pagers, k steps behind the first Format -/
def Both (W w : World) (b db x g N k : Nat) : Prop := ∃ S Sd U T B D low L M p q d, BothAt W w b db x g S Sd U T B D low L M p p q d ∧ PRel d q N k ∧ p.l.length = N ∧ p.seq ≤ k + 1
/-- what a read of the pager answers -/
theorem pread_rel (w : World) (W : World) (b db x g : Nat) (S Sd : Nat → Prop) (U T B D low L M : Nat) (p : Pr.Pt) (q : Pr.Dr) (d : Dk.St) (N k : Nat) (h : BothAt W w b db x g S Sd U T B D low L M p p q d) (rel : PRel d q N k) (hN : p.l.length = N) (i : Int) :
    Calls Try.prog 18 #[.pointer (some ⟨b, 0, none⟩), .int .i64 i] w fun e w' => ∃ A c, e = .returned (.tuple #[.slice A (Pr.rdOf p q i).1.length c, .int .i64 (Pr.rdOf p q i).2]) ∧ Rd w' w'.heap.size A (Pr.rdOf p q i).1 ∧ Below w.heap.size w w' ∧
      (∀ ga o, A = some ⟨ga, o, none⟩ → ∃ t cs, Has w' ga t cs ∧ o = 0 ∧ cs.size = (Pr.rdOf p q i).1.length ∧ w.heap.size ≤ ga) ∧ (A = none → (Pr.rdOf p q i).1 = []) := by
  have hov := h.sys.over
  have hd := rel.live.dead
  subst hN
  by_cases hi : 2 ≤ i ∧ i < (p.l.length : Int)
  · obtain ⟨n, rfl⟩ : ∃ n : Nat, i = (n : Int) := ⟨i.toNat, by omega⟩
    have hn2 : 2 ≤ n := by omega
    have hn : n < p.l.length := by omega
    have hro : Pr.rdOf p q (n : Int) = Pr.rdAt p.l[n] (q.f n) := by
      unfold Pr.rdOf
      rw [if_pos hi, show ((n : Int)).toNat = n by omega, List.getD_eq_getElem?_getD, List.getElem?_eq_getElem hn]
      rfl
    rw [hro]
    have hsF := Pr.stp_at (q := Pr.isF) hn
    have hsB := Pr.stp_at (q := Pr.isB) hn
    have hs4 := hov.lies.ok.small _ (List.getElem_mem hn)
    generalize p.l[n] = s at *
    by_cases h0 : s = 0
    · subst h0
      refine (pread_free w S Sd noB b db U T B D low p d hov hd n hn2 hn (by rw [hsF]; rfl)).mono ?_
      rintro e w' ⟨rfl, hb⟩
      exact ⟨none, 0, rfl, Rd.nil _ _ _, hb, fun ga o e => (by cases e), fun _ => rfl⟩
    · have hfF : Pr.stp Pr.isF p.l n = false := by rw [hsF]; simp [Pr.isF, h0]
      by_cases h2 : s = 2
      · subst h2
        refine (pread_blank w S Sd noB b db U T B D low p d hov hd n hn2 hn hfF (by rw [hsB]; rfl)).mono ?_
        rintro e w' ⟨rfl, hb⟩
        exact ⟨none, 0, rfl, Rd.nil _ _ _, hb, fun ga o e => (by cases e), fun _ => rfl⟩
      · have hfB : Pr.stp Pr.isB p.l n = false := by rw [hsB]; simp [Pr.isB, h2]
        refine (pread_get w S Sd noB b db U T B D low p d hov hd n hn2 hn hfF hfB).mono ?_
        have hra : Pr.rdAt s (q.f n) = (match q.f n with | none => ([], 30) | some t => (t, 0)) := by unfold Pr.rdAt; rw [if_neg h0, if_neg h2]; cases q.f n <;> rfl
        rw [hra]
        intro e w' hp
        rcases rel.read hn2 hn with ⟨t, ht, htl, hpg⟩ | ⟨ht, hpg⟩
        · rw [ht]
          rcases hp with ⟨_, gg, he, hg, hge, hb⟩ | ⟨hs, _⟩
          · rw [hpg, Pg.payload_made n t htl] at he hg
            subst he
            refine ⟨_, _, rfl, Rd.of_has (o := 0) hg (List.take_of_length_le (by simp [bytCells_len])) (by show t.length ≤ _; omega), hb, fun ga o e => ?_, fun e => by cases e⟩
            injection e with e
            injection e with e1 e2 _
            subst e1 e2
            exact ⟨_, _, hg, rfl, by simp [bytCells_len], hge⟩
          · rw [hpg, Pg.sound_made n t htl] at hs; cases hs
        · rw [ht]
          rcases hp with ⟨hs, _⟩ | ⟨_, rfl, hb⟩
          · rw [hpg] at hs; cases hs
          · exact ⟨none, 0, rfl, Rd.nil _ _ _, hb, fun ga o e => (by cases e), fun _ => rfl⟩
  · have hro : Pr.rdOf p q i = ([], 1) := if_neg hi
    rw [hro]
    refine (pread_out w S Sd noB b db U T B D low p d hov hd i hi).mono ?_
    rintro e w' ⟨rfl, rfl⟩
    exact ⟨none, 0, rfl, Rd.nil _ _ _, Below.refl _ _, fun ga o e => (by cases e), fun _ => rfl⟩
theorem quiet_free {f : FuncId} {args : Array Value} {w : World} {n : Nat} {v : Value} (h : Calls Try.prog f args (w.drewN n) fun e w' => e = .returned v ∧ ∃ k, w' = (w.drewN n).drewN k) : Calls Try.prog f args (w.drewN n) fun e w'' => e = .returned v ∧ ∃ m, w'' = w.drewN m :=
  h.mono fun _ _ ⟨he, k, hk⟩ => ⟨he, n + k, by rw [hk, World.drewN_drewN]⟩
set_option maxHeartbeats 1600000 in
theorem told_any (w : World) (W : World) (b db x g : Nat) (S Sd : Nat → Prop) (U T B D low L M : Nat) (p : Pr.Pt) (q : Pr.Dr) (d : Dk.St) (N k : Nat) (h : BothAt W w b db x g S Sd U T B D low L M p p q d) (rel : PRel d q N k) (hN : p.l.length = N) :
    Calls Try.prog 17 #[.pointer (some ⟨b, 0, none⟩), .pointer (some ⟨x, 0, none⟩)] w fun e w' => e = .returned (.bool true) ∧ Below w.heap.size w w' := by
  have hov := h.sys.over
  have c0 := h.ref.cells.c0
  have c2 := h.ref.cells.c2
  have c3 := h.ref.cells.c3
  have d0 : w.cell? ⟨g, 0, none⟩ = some (.int .i64 (p.l.length : Int)) := h.ref.dk.box.cell 0
  have hmost := hov.lies.ok.most
  have hov' := fun n => hov.keep (F := noB) ((Fr.refl noB w).drewN n) (fun _ e => e.elim)
  have hrf' := fun n => h.ref.keep (F := noB) ((Fr.refl noB w).drewN n) (fun _ _ e => e)
  have hpg : ∀ n, Calls Try.prog 25 #[.pointer (some ⟨b, 0, none⟩)] (w.drewN n) fun e w' => e = .returned (.int .i64 (p.l.length : Int)) ∧ w.drewN n = w' := fun n => by
    have := ppages_any (w.drewN n) b db d.lasts.length ((hov' n).disk.ok.most) (hov' n).lies.cells.c0 (disk_cells (hov' n).disk).1
    rwa [← hov.len] at this
  have HPG := Lib.hid hpg
  have HFR := Lib.hid (fun n => pfree_any (w.drewN n) b db U T B D low p (hov' n).lies _ (hov' n).disk.ok.most (hov' n).len (disk_cells (hov' n).disk).1)
  have HRF := Lib.hid (fun n => rfree_any (w.drewN n) x g L M p q (hrf' n))
  have HSQ := Lib.hid (fun n => pseq_any (w.drewN n) b (p.seq : Int) (hov' n).lies.cells.c1)
  have HRT := Lib.hid (fun n => proot_any (w.drewN n) b (p.root : Int) (hov' n).lies.cells.c2)
  have H := Lib.hid h
  have HREL := Lib.hid rel
  have HN := Lib.hid hN
  clear h rel hov hov' hrf' hpg hN
  go_enter Try.func17, Try.ntmps17
  go_wp2_with fail
  go_quiet (first
    | (go_at_call 25; exact quiet_same (HPG.out _))
    | (go_at_call 26; exact quiet_free (HFR.out _))
    | (go_at_call 56; exact quiet_same (HRF.out _))
    | (go_at_call 27; exact quiet_same (HSQ.out _))
    | (go_at_call 28; exact quiet_same (HRT.out _)))
  have HB0 : Hid (Below w.heap.size w (w.drewN nq)) := Lib.hid ⟨rfl, rfl, rfl, Nat.le_refl _, fun _ _ => rfl⟩
  clear c0 c2 c3 d0 HPG HFR HRF HSQ HRT
  generalize w.drewN nq = w0 at *
  go_wp2_with fail
  go_loopw [5] (fun v wr => ∃ i : Int, v = .int .i64 i ∧ -1 ≤ i ∧ i ≤ 30 ∧ Hid (Below w.heap.size w wr)) (fun v _ => (31 - intOf v).toNat)
  case atStart => exact ⟨-1, rfl, by omega, by omega, HB0⟩
  case round =>
    rename World => wr
    obtain ⟨i, rfl, hi0, hi1, HB⟩ := hrel
    have HX := Lib.hid (H.out.next HB.out)
    have c0 := HX.out.ref.cells.c0
    have d0 : wr.cell? ⟨g, 0, none⟩ = some (.int .i64 (p.l.length : Int)) := HX.out.ref.dk.box.cell 0
    by_cases hl : i ≤ (p.l.length : Int)
    · by_cases h30 : i < 30
      · have HPR := Lib.hid (pread_rel wr W b db x g S Sd U T B D low L M p q d N k HX.out HREL.out HN.out i)
        go_wp2_with fail
        refine HPR.out.mono ?_
        rintro e w2 ⟨A, c, rfl, hrd, hb2, _, _⟩
        have HRR := Lib.hid (rread_any w2 x g L M p q (HX.out.next hb2).ref i)
        have hcv := conv_rd w2 _ A (Pr.rdOf p q i).1 c hrd
        have HB2 := Lib.hid (HB.out.trans (hb2.mono HB.out.size))
        clear hrd hb2 HPR c0 d0
        generalize Pr.rdOf p q i = rr at *
        unfold bstr at *
        go_wp2_with fail
        refine HRR.out.mono ?_
        rintro e w3 ⟨rfl, rfl⟩
        go_wp2_with fail
        go_roundw
        case rel => exact ⟨i + 1, rfl, by omega, by omega, HB2⟩
        case measure => simp only [intOf]; omega
      · go_wp2_with fail
        go_ret
        exact ⟨rfl, HB.out⟩
    · go_wp2_with fail
      go_ret
      exact ⟨rfl, HB.out⟩
end Go.Proofs.Ythlmjnlakenmoaa
/-
  Each call of both pagers, whole: refused or not, what it answers is one and the same function of the state.
-/
namespace Go.Proofs.Ythlmjnlakenmoaa
open Go.RowKit Go.Maps
set_option maxRecDepth 100000

/-- the two pagers in memory, their states p and pr; the blocks of E are apart -/
def Mid (W w : World) (E : Nat → Prop) (b db x g : Nat) (p pr : Pr.Pt) (q : Pr.Dr) (d : Dk.St) : Prop := ∃ S Sd U T B D low L M, BothAt W w b db x g S Sd U T B D low L M p pr q d ∧ ∀ k, E k → k < w.heap.size ∧ ¬ S k ∧ ¬ rS x g L M k
/-- .. and E's blocks stay -/
def MidK (W w w' : World) (E : Nat → Prop) (b db x g : Nat) (p pr : Pr.Pt) (q : Pr.Dr) (d : Dk.St) : Prop := Mid W w' E b db x g p pr q d ∧ ∀ k, E k → w'.heap[k]? = w.heap[k]?
def Aside (w : World) (E S : Nat → Prop) (x g L M : Nat) : Prop := ∀ k, E k → k < w.heap.size ∧ ¬ S k ∧ ¬ rS x g L M k
theorem Mid.next {W w w' : World} {E : Nat → Prop} {b db x g : Nat} {p pr : Pr.Pt} {q : Pr.Dr} {d : Dk.St} (h : Mid W w E b db x g p pr q d) (hb : Below w.heap.size w w') : Mid W w' E b db x g p pr q d := by
  obtain ⟨S, Sd, U, T, B, D, low, L, M, h, he⟩ := h
  exact ⟨_, _, _, _, _, _, _, _, _, h.next hb, fun k hk => ⟨Nat.lt_of_lt_of_le (he k hk).1 hb.size, (he k hk).2⟩⟩
theorem Mid.below {W w : World} {E : Nat → Prop} {b db x g : Nat} {p pr : Pr.Pt} {q : Pr.Dr} {d : Dk.St} (h : Mid W w E b db x g p pr q d) : Below W.heap.size W w := by
  obtain ⟨S, Sd, U, T, B, D, low, L, M, h, _⟩ := h
  exact h.sys.below
theorem BothAt.same {W w : World} {E : Nat → Prop} {b db x g : Nat} {S Sd : Nat → Prop} {U T B D low L M : Nat} {p pr : Pr.Pt} {q : Pr.Dr} {d : Dk.St} (h : BothAt W w b db x g S Sd U T B D low L M p pr q d) (he : Aside w E S x g L M) : MidK W w w E b db x g p pr q d :=
  ⟨⟨_, _, _, _, _, _, _, _, _, h, he⟩, fun _ _ => rfl⟩
theorem BothAt.on {W w w' : World} {E : Nat → Prop} {b db x g : Nat} {S Sd : Nat → Prop} {U T B D low L M : Nat} {p pr : Pr.Pt} {q : Pr.Dr} {d : Dk.St} (h : BothAt W w b db x g S Sd U T B D low L M p pr q d) (he : Aside w E S x g L M) (hb : Below w.heap.size w w') : MidK W w w' E b db x g p pr q d :=
  ⟨⟨_, _, _, _, _, _, _, _, _, h.next hb, fun k hk => ⟨Nat.lt_of_lt_of_le (he k hk).1 hb.size, (he k hk).2⟩⟩, fun k hk => hb.block k (he k hk).1⟩
theorem BothAt.goes {W w w' : World} {E : Nat → Prop} {b db x g : Nat} {S Sd : Nat → Prop} {U T B D low U' T' B' D' low' L M : Nat} {p p' pr : Pr.Pt} {q : Pr.Dr} {d d' : Dk.St} (h : BothAt W w b db x g S Sd U T B D low L M p pr q d) (he : Aside w E S x g L M)
    (hg : PGoes w S noB b db U' T' B' D' low' p' d' w') : MidK W w w' E b db x g p' pr q d' := by
  obtain ⟨S', Sd', ho, hf, hs⟩ := hg
  refine ⟨⟨S', Sd', U', T', B', D', low', L, M, h.pg ⟨ho, fun k hk => ?_, h.sys.newr, h.sys.below.trans (hf.below h.sys.size h.sys.news)⟩ hf hs, fun k hk => ?_⟩, fun k hk => hf.old k (he k hk).1 (he k hk).2.1⟩
  · rcases hs k hk with e | e
    · exact h.sys.news k e
    · have := h.sys.size; omega
  · obtain ⟨e1, e2, e3⟩ := he k hk
    refine ⟨Nat.lt_of_lt_of_le e1 hf.size, fun e => ?_, e3⟩
    rcases hs k e with e | e
    · exact e2 e
    · omega
theorem BothAt.over' {W w w' : World} {E : Nat → Prop} {b db x g : Nat} {S Sd : Nat → Prop} {U T B D low low' L M : Nat} {p p' pr : Pr.Pt} {q : Pr.Dr} {d : Dk.St} (h : BothAt W w b db x g S Sd U T B D low L M p pr q d) (he : Aside w E S x g L M)
    (ho : Over w' S Sd noB b db U T B D low' p' d) (hf : Fr S w w') : MidK W w w' E b db x g p' pr q d :=
  ⟨⟨_, _, _, _, _, _, _, _, _, h.pg (h.sys.over' ho hf) hf (fun _ hk => .inl hk), fun k hk => ⟨Nat.lt_of_lt_of_le (he k hk).1 hf.size, (he k hk).2⟩⟩, fun k hk => hf.old k (he k hk).1 (he k hk).2.1⟩
theorem BothAt.rgoes {W w w' : World} {E : Nat → Prop} {b db x g : Nat} {S Sd : Nat → Prop} {U T B D low L M : Nat} {p pr pr' : Pr.Pt} {q q' : Pr.Dr} {d : Dk.St} (h : BothAt W w b db x g S Sd U T B D low L M p pr q d) (he : Aside w E S x g L M)
    (hg : RGoes w x g L M pr' q' w') : MidK W w w' E b db x g p pr' q' d :=
  ⟨⟨_, _, _, _, _, _, _, _, _, h.rf hg.1 hg.2 (.inl rfl), fun k hk => ⟨Nat.lt_of_lt_of_le (he k hk).1 hg.2.size, (he k hk).2⟩⟩, fun k hk => hg.2.old k (he k hk).1 (he k hk).2.2⟩
namespace Pr
def inP (p : Pt) (i : Int) : Prop := 2 ≤ i ∧ i < (p.l.length : Int)
instance (p : Pt) (i : Int) : Decidable (inP p i) := inferInstanceAs (Decidable (_ ∧ _))
def wErr (p : Pt) (i : Int) (m : Nat) : Int := if ¬ inP p i ∨ 502 < m then 1 else if stp isT p.l i.toNat then 0 else 250
def wTo (p : Pt) (i : Int) (m : Nat) : Pt := if wErr p i m = 0 then ⟨p.l.set i.toNat 3, p.seq, p.root⟩ else p
def wDk (p : Pt) (d : Dk.St) (i : Int) (t : List UInt8) : Dk.St := if wErr p i t.length = 0 then d.putPage i.toNat t else d
def wDr (p : Pt) (q : Dr) (i : Int) (t : List UInt8) : Dr := if wErr p i t.length = 0 then ⟨fun j => if j = i.toNat then some t else q.f j, q.s0, q.s1, q.r0, q.r1⟩ else q
def dErr (p : Pt) (i : Int) : Int := if inP p i then dropOf (p.l.getD i.toNat 0) else 1
def dTo (p : Pt) (i : Int) : Pt := if dErr p i = 0 then ⟨p.l.set i.toNat (dropTo (p.l.getD i.toNat 0)), p.seq, p.root⟩ else p
def cErr (p : Pt) (i : Int) : Int := if i ≠ 0 ∧ ¬ inP p i then 1 else if i ≠ 0 ∧ stp isOk p.l i.toNat = false then 250 else 0
def cTo (p : Pt) (i : Int) : Pt := if cErr p i = 0 then committed p i.toNat else p
def cDk (p : Pt) (d : Dk.St) (i : Int) : Dk.St := if cErr p i = 0 then d.keep (p.seq + 1) i.toNat else d
def cDr (p : Pt) (q : Dr) (i : Int) : Dr := if cErr p i = 0 then q.keep (p.seq + 1) i.toNat else q
def busy (p : Pt) : Bool := decide (0 < cnt p.l.length (stp isT p.l) ∨ 0 < cnt p.l.length (stp isD p.l))
def uErr (p : Pt) (l : List Int) : Int := if busy p then 250 else if ¬ (∀ y ∈ l, inP p y) then 1 else if ¬ l.Nodup then 6 else 0
def uTo (p : Pt) (l : List Int) : Pt := if uErr p l = 0 then usePt p l else p
theorem busy_at {p : Pt} (h : p.Ok) (hb : busy p = true) : ∃ j s, 2 ≤ j ∧ p.l[j]? = some s ∧ 1 < s := by
  have key : ∀ q : Nat → Bool, (∀ s, q s = true → 1 < s) → 0 < cnt p.l.length (stp q p.l) → ∃ j s, 2 ≤ j ∧ p.l[j]? = some s ∧ 1 < s := fun q hq hc => by
    have : ∃ j, j < p.l.length ∧ stp q p.l j = true := Classical.byContradiction fun hn => by
      have := cnt_none (N := p.l.length) (f := stp q p.l) fun j hj => by
        cases hh : stp q p.l j
        · rfl
        · exact absurd ⟨j, hj, hh⟩ hn
      omega
    obtain ⟨j, hj, hs⟩ := this
    rw [stp_at hj] at hs
    refine ⟨j, p.l[j], ?_, List.getElem?_eq_getElem hj, hq _ hs⟩
    by_cases h2 : j < 2
    · have := h.two j h2
      rw [List.getElem?_eq_getElem hj] at this
      injection this with this
      rw [this] at hs
      have := hq 0 hs
      omega
    · omega
  rcases of_decide_eq_true hb with e | e
  · exact key isT (fun s hs => by unfold isT at hs; simp at hs; omega) e
  · exact key isD (fun s hs => by unfold isD at hs; simp at hs; omega) e
theorem busy_not {p : Pt} (h : p.Ok) (hb : busy p = false) : cnt p.l.length (stp isT p.l) = 0 ∧ cnt p.l.length (stp isD p.l) = 0 ∧ ∀ j s, 2 ≤ j → p.l[j]? = some s → s ≤ 1 := by
  have hn := of_decide_eq_false hb
  have h1 : cnt p.l.length (stp isT p.l) = 0 := by omega
  have h2 : cnt p.l.length (stp isD p.l) = 0 := by omega
  refine ⟨h1, h2, fun j s _ hs => ?_⟩
  have hj := (List.getElem?_eq_some_iff.1 hs).1
  have e1 := cnt_zero h1 j hj
  have e2 := cnt_zero h2 j hj
  have h4 := h.small s (List.mem_of_getElem? hs)
  rw [state_of isT hs] at e1
  rw [state_of isD hs] at e2
  rcases five_of h4 with rfl | rfl | rfl | rfl | rfl
  · omega
  · omega
  · cases e1
  · cases e1
  · cases e2
end Pr

/-! ### the pager -/
theorem pwrite_full (W w : World) (E : Nat → Prop) (b db x g : Nat) (p pr : Pr.Pt) (q : Pr.Dr) (d : Dk.St) (h : Mid W w E b db x g p pr q d) (hl : d.Live) (few : d.Few 100000) (i : Int) (A : Option Addr) (t : List UInt8) (c : Nat) (hr : Rd w w.heap.size A t) :
    Calls Try.prog 22 #[.pointer (some ⟨b, 0, none⟩), .int .i64 i, .slice A t.length c] w fun e w' => e = .returned (.int .i64 (Pr.wErr p i t.length)) ∧ MidK W w w' E b db x g (Pr.wTo p i t.length) pr q (Pr.wDk p d i t) := by
  obtain ⟨S, Sd, U, T, B, D, low, L, M, h, hE⟩ := h
  have ho := h.sys.over
  unfold Pr.wTo Pr.wDk
  by_cases hb : ¬ Pr.inP p i ∨ 502 < t.length
  · have he : Pr.wErr p i t.length = 1 := if_pos hb
    rw [he, if_neg (by decide), if_neg (by decide)]
    refine (pwrite_arg w S Sd noB b db U T B D low p d ho hl.dead i A t.length c hb).mono ?_
    rintro e w' ⟨rfl, rfl⟩
    exact ⟨rfl, h.same hE⟩
  · have hin : Pr.inP p i := Classical.byContradiction fun e => hb (.inl e)
    have ht5 : t.length ≤ 502 := by
      have : ¬ 502 < t.length := fun e => hb (.inr e)
      omega
    obtain ⟨n, rfl⟩ : ∃ n : Nat, i = (n : Int) := ⟨i.toNat, by have := hin.1; omega⟩
    have hn2 : 2 ≤ n := by have := hin.1; omega
    have hn : n < p.l.length := by have := hin.2; omega
    cases hT : Pr.stp Pr.isT p.l n with
    | true =>
      have he : Pr.wErr p (n : Int) t.length = 0 := by unfold Pr.wErr; rw [if_neg hb, show ((n : Int)).toNat = n by omega, hT]; rfl
      rw [he, if_pos rfl, if_pos rfl, show ((n : Int)).toNat = n by omega]
      have hlp := (live_putPage hl (n := n) (pg := Pg.made n t) (Pg.made_length _ _ ht5) (by have := ho.len; omega)).1.dead
      refine (pwrite_ok w S Sd noB b db U T B D low p d ho hl.dead (few.more (by omega)) n hn2 hn hT A t c ht5 hr).mono ?_
      rintro e w' ⟨rfl, hg⟩
      have hlp' : (d.putPage n t).dead = false := hlp
      rw [hlp'] at hg ⊢
      exact ⟨rfl, h.goes hE hg⟩
    | false =>
      have he : Pr.wErr p (n : Int) t.length = 250 := by unfold Pr.wErr; rw [if_neg hb, show ((n : Int)).toNat = n by omega, hT]; rfl
      rw [he, if_neg (by decide), if_neg (by decide)]
      refine (pwrite_state w S Sd noB b db U T B D low p d ho hl.dead n hn2 hn A t.length c ht5 hT).mono ?_
      rintro e w' ⟨rfl, hbl⟩
      exact ⟨rfl, h.on hE hbl⟩
theorem pdrop_full (W w : World) (E : Nat → Prop) (b db x g : Nat) (p pr : Pr.Pt) (q : Pr.Dr) (d : Dk.St) (h : Mid W w E b db x g p pr q d) (hl : d.Live) (i : Int) :
    Calls Try.prog 23 #[.pointer (some ⟨b, 0, none⟩), .int .i64 i] w fun e w' => e = .returned (.int .i64 (Pr.dErr p i)) ∧ MidK W w w' E b db x g (Pr.dTo p i) pr q d := by
  obtain ⟨S, Sd, U, T, B, D, low, L, M, h, hE⟩ := h
  have ho := h.sys.over
  unfold Pr.dTo
  by_cases hin : Pr.inP p i
  · obtain ⟨n, rfl⟩ : ∃ n : Nat, i = (n : Int) := ⟨i.toNat, by have := hin.1; omega⟩
    have hn2 : 2 ≤ n := by have := hin.1; omega
    have hn : n < p.l.length := by have := hin.2; omega
    have hg := List.getElem?_eq_getElem hn
    have hgd : p.l.getD n 0 = p.l[n] := by rw [List.getD_eq_getElem?_getD, hg]; rfl
    have he : Pr.dErr p (n : Int) = Pr.dropOf p.l[n] := by unfold Pr.dErr; rw [if_pos hin, show ((n : Int)).toNat = n by omega, hgd]
    rw [he, show ((n : Int)).toNat = n by omega, hgd]
    have hs4 := ho.lies.ok.small _ (List.getElem_mem hn)
    have hsF := Pr.stp_at (q := Pr.isF) hn
    have hsD := Pr.stp_at (q := Pr.isD) hn
    generalize p.l[n] = s at *
    rcases Pr.five_of hs4 with rfl | rfl | rfl | rfl | rfl
    · rw [if_neg (by decide)]
      refine (pdrop_state w S Sd noB b db U T B D low p d ho hl.dead n hn2 hn (.inl (by rw [hsF]; rfl))).mono ?_
      rintro e w' ⟨rfl, hbl⟩
      exact ⟨rfl, h.on hE hbl⟩
    · rw [if_pos (by decide)]
      refine (pdrop_used w S Sd noB b db U T B D low p d ho hl.dead n hn2 hn hg).mono ?_
      rintro e w' ⟨rfl, ho', hf⟩
      exact ⟨rfl, h.over' hE ho' hf⟩
    · rw [if_pos (by decide)]
      refine (pdrop_taken w S Sd noB b db U T B D low p d ho hl.dead n hn2 hn (.inl hg)).mono ?_
      rintro e w' ⟨rfl, ho', hf⟩
      exact ⟨rfl, h.over' hE ho' hf⟩
    · rw [if_pos (by decide)]
      refine (pdrop_taken w S Sd noB b db U T B D low p d ho hl.dead n hn2 hn (.inr hg)).mono ?_
      rintro e w' ⟨rfl, ho', hf⟩
      exact ⟨rfl, h.over' hE ho' hf⟩
    · rw [if_neg (by decide)]
      refine (pdrop_state w S Sd noB b db U T B D low p d ho hl.dead n hn2 hn (.inr (by rw [hsD]; rfl))).mono ?_
      rintro e w' ⟨rfl, hbl⟩
      exact ⟨rfl, h.on hE hbl⟩
  · have he : Pr.dErr p i = 1 := if_neg hin
    rw [he, if_neg (by decide)]
    refine (pdrop_arg w S Sd noB b db U T B D low p d ho hl.dead i hin).mono ?_
    rintro e w' ⟨rfl, rfl⟩
    exact ⟨rfl, h.same hE⟩
theorem pcommit_full (W w : World) (E : Nat → Prop) (b db x g : Nat) (p pr : Pr.Pt) (q : Pr.Dr) (d : Dk.St) (h : Mid W w E b db x g p pr q d) (hl : d.Live) (few : d.Few 100000) (hseq : p.seq + 1 ≤ 4611686018427387904) (i : Int) :
    Calls Try.prog 13 #[.pointer (some ⟨b, 0, none⟩), .int .i64 i] w fun e w' => e = .returned (.int .i64 (Pr.cErr p i)) ∧ MidK W w w' E b db x g (Pr.cTo p i) pr q (Pr.cDk p d i) := by
  obtain ⟨S, Sd, U, T, B, D, low, L, M, h, hE⟩ := h
  have ho := h.sys.over
  have h3 := ho.lies.ok.some_
  unfold Pr.cTo Pr.cDk
  by_cases hb : i ≠ 0 ∧ ¬ Pr.inP p i
  · have he : Pr.cErr p i = 1 := if_pos hb
    rw [he, if_neg (by decide), if_neg (by decide)]
    refine (pcommit_arg w S Sd noB b db U T B D low p d ho hl.dead i hb.1 hb.2).mono ?_
    rintro e w' ⟨rfl, rfl⟩
    exact ⟨rfl, h.same hE⟩
  · by_cases hs : i ≠ 0 ∧ Pr.stp Pr.isOk p.l i.toNat = false
    · have he : Pr.cErr p i = 250 := by unfold Pr.cErr; rw [if_neg hb, if_pos hs]
      rw [he, if_neg (by decide), if_neg (by decide)]
      have hin : Pr.inP p i := Classical.byContradiction fun e => hb ⟨hs.1, e⟩
      obtain ⟨n, rfl⟩ : ∃ n : Nat, i = (n : Int) := ⟨i.toNat, by have := hin.1; omega⟩
      refine (pcommit_state w S Sd noB b db U T B D low p d ho hl.dead n (by have := hin.1; omega) (by have := hin.2; omega) hs.2).mono ?_
      rintro e w' ⟨rfl, hbl⟩
      exact ⟨rfl, h.on hE hbl⟩
    · have he : Pr.cErr p i = 0 := by unfold Pr.cErr; rw [if_neg hb, if_neg hs]
      rw [he, if_pos rfl, if_pos rfl]
      have hi : i = 0 ∨ Pr.inP p i ∧ Pr.stp Pr.isOk p.l i.toNat = true := by
        by_cases h0 : i = 0
        · exact .inl h0
        · refine .inr ⟨Classical.byContradiction fun e => hb ⟨h0, e⟩, ?_⟩
          cases hh : Pr.stp Pr.isOk p.l i.toNat
          · exact absurd ⟨h0, hh⟩ hs
          · rfl
      obtain ⟨n, rfl⟩ : ∃ n : Nat, i = (n : Int) := ⟨i.toNat, by rcases hi with e | e; omega; have := e.1.1; omega⟩
      rw [show ((n : Int)).toNat = n by omega] at hi ⊢
      have hlk := (live_keep hl (by have := ho.len; omega) (p.seq + 1) n).1.dead
      refine (pcommit_ok w S Sd noB b db U T B D low p d ho hl.dead (few.more (by omega)) hseq n (hi.imp (fun e => by omega) (fun e => ⟨by have := e.1.1; omega, by have := e.1.2; omega, e.2⟩))).mono ?_
      intro e w' hp
      rcases hp with ⟨hd, _⟩ | ⟨_, rfl, T', B', D', low', hg⟩
      · rw [hlk] at hd; cases hd
      · exact ⟨rfl, h.goes hE hg⟩
theorem puse_full (W w : World) (E : Nat → Prop) (b db x g : Nat) (p pr : Pr.Pt) (q : Pr.Dr) (d : Dk.St) (h : Mid W w E b db x g p pr q d) (hl : d.Live) (A : Option Addr) (l : List Int) (c : Nat) (hi : Ints w A l) :
    Calls Try.prog 21 #[.pointer (some ⟨b, 0, none⟩), .slice A l.length c] w fun e w' => e = .returned (.int .i64 (Pr.uErr p l)) ∧ MidK W w w' E b db x g (Pr.uTo p l) pr q d := by
  obtain ⟨S, Sd, U, T, B, D, low, L, M, h, hE⟩ := h
  have ho := h.sys.over
  unfold Pr.uTo
  cases hb : Pr.busy p with
  | true =>
    have he : Pr.uErr p l = 250 := by unfold Pr.uErr; rw [if_pos hb]
    rw [he, if_neg (by decide)]
    refine (puse_state w S Sd noB b db U T B D low p d ho hl.dead _ (of_decide_eq_true hb)).mono ?_
    rintro e w' ⟨rfl, rfl⟩
    exact ⟨rfl, h.same hE⟩
  | false =>
    have hbn : ¬ Pr.busy p = true := by rw [hb]; decide
    obtain ⟨h1, h2, _⟩ := Pr.busy_not ho.lies.ok hb
    refine (puse_any w S Sd noB b db U T B D low p d ho hl.dead h1 h2 A l c hi).mono ?_
    intro e w' hp
    rcases hp with ⟨hn, rfl, hbl⟩ | ⟨hn, hd, rfl, hbl⟩ | ⟨hn, hd, rfl, hg⟩
    · have he : Pr.uErr p l = 1 := by unfold Pr.uErr; rw [if_neg hbn]; exact if_pos hn
      rw [he, if_neg (by decide)]
      exact ⟨rfl, h.on hE hbl⟩
    · have he : Pr.uErr p l = 6 := by unfold Pr.uErr; rw [if_neg hbn]; exact (if_neg (fun e => e hn)).trans (if_pos hd)
      rw [he, if_neg (by decide)]
      exact ⟨rfl, h.on hE hbl⟩
    · have he : Pr.uErr p l = 0 := by unfold Pr.uErr; rw [if_neg hbn]; exact (if_neg (fun e => e hn)).trans (if_neg (fun e => e hd))
      rw [he, if_pos rfl]
      exact ⟨rfl, h.goes hE hg⟩
theorem pabort_full (W w : World) (E : Nat → Prop) (b db x g : Nat) (p pr : Pr.Pt) (q : Pr.Dr) (d : Dk.St) (h : Mid W w E b db x g p pr q d) (hl : d.Live) :
    Calls Try.prog 24 #[.pointer (some ⟨b, 0, none⟩)] w fun e w' => e = .returned (.int .i64 0) ∧ MidK W w w' E b db x g (Pr.aborted p) pr q d := by
  obtain ⟨S, Sd, U, T, B, D, low, L, M, h, hE⟩ := h
  refine (pabort_ok w S Sd noB b db U T B D low p d h.sys.over hl.dead).mono ?_
  rintro e w' ⟨rfl, T', B', D', low', hg⟩
  exact ⟨rfl, h.goes hE hg⟩

/-! ### the document's -/
theorem rwrite_full (W w : World) (E : Nat → Prop) (b db x g : Nat) (p pr : Pr.Pt) (q : Pr.Dr) (d : Dk.St) (h : Mid W w E b db x g p pr q d) (i : Int) (t : List UInt8) (ht : t.length ≤ 140737488355328) :
    Calls Try.prog 50 #[.pointer (some ⟨x, 0, none⟩), .int .i64 i, bstr t, .int .i64 502] w fun e w' => e = .returned (.int .i64 (Pr.wErr pr i t.length)) ∧ MidK W w w' E b db x g p (Pr.wTo pr i t.length) (Pr.wDr pr q i t) d := by
  obtain ⟨S, Sd, U, T, B, D, low, L, M, h, hE⟩ := h
  unfold Pr.wTo Pr.wDr
  by_cases hb : ¬ Pr.inP pr i ∨ 502 < t.length
  · have he : Pr.wErr pr i t.length = 1 := if_pos hb
    rw [he, if_neg (by decide), if_neg (by decide)]
    refine (rwrite_arg w x g L M pr q h.ref i t ht hb).mono ?_
    rintro e w' ⟨rfl, rfl⟩
    exact ⟨rfl, h.same hE⟩
  · have hin : Pr.inP pr i := Classical.byContradiction fun e => hb (.inl e)
    have ht5 : t.length ≤ 502 := by
      have : ¬ 502 < t.length := fun e => hb (.inr e)
      omega
    obtain ⟨n, rfl⟩ : ∃ n : Nat, i = (n : Int) := ⟨i.toNat, by have := hin.1; omega⟩
    have hn2 : 2 ≤ n := by have := hin.1; omega
    have hn : n < pr.l.length := by have := hin.2; omega
    cases hT : Pr.stp Pr.isT pr.l n with
    | true =>
      have he : Pr.wErr pr (n : Int) t.length = 0 := by unfold Pr.wErr; rw [if_neg hb, show ((n : Int)).toNat = n by omega, hT]; rfl
      rw [he, if_pos rfl, if_pos rfl, show ((n : Int)).toNat = n by omega]
      refine (rwrite_ok w x g L M pr q h.ref n hn2 hn hT t ht5).mono ?_
      rintro e w' ⟨rfl, hg⟩
      exact ⟨rfl, h.rgoes hE hg⟩
    | false =>
      have he : Pr.wErr pr (n : Int) t.length = 250 := by unfold Pr.wErr; rw [if_neg hb, show ((n : Int)).toNat = n by omega, hT]; rfl
      rw [he, if_neg (by decide), if_neg (by decide)]
      refine (rwrite_state w x g L M pr q h.ref n hn2 hn hT t ht5).mono ?_
      rintro e w' ⟨rfl, rfl⟩
      exact ⟨rfl, h.same hE⟩
theorem rdrop_full (W w : World) (E : Nat → Prop) (b db x g : Nat) (p pr : Pr.Pt) (q : Pr.Dr) (d : Dk.St) (h : Mid W w E b db x g p pr q d) (i : Int) :
    Calls Try.prog 51 #[.pointer (some ⟨x, 0, none⟩), .int .i64 i] w fun e w' => e = .returned (.int .i64 (Pr.dErr pr i)) ∧ MidK W w w' E b db x g p (Pr.dTo pr i) q d := by
  obtain ⟨S, Sd, U, T, B, D, low, L, M, h, hE⟩ := h
  unfold Pr.dTo
  by_cases hin : Pr.inP pr i
  · obtain ⟨n, rfl⟩ : ∃ n : Nat, i = (n : Int) := ⟨i.toNat, by have := hin.1; omega⟩
    have hn2 : 2 ≤ n := by have := hin.1; omega
    have hn : n < pr.l.length := by have := hin.2; omega
    have hg := List.getElem?_eq_getElem hn
    have hgd : pr.l.getD n 0 = pr.l[n] := by rw [List.getD_eq_getElem?_getD, hg]; rfl
    have he : Pr.dErr pr (n : Int) = Pr.dropOf pr.l[n] := by unfold Pr.dErr; rw [if_pos hin, show ((n : Int)).toNat = n by omega, hgd]
    rw [he, show ((n : Int)).toNat = n by omega, hgd]
    refine (rdrop_any w x g L M pr q h.ref n pr.l[n] hn2 hg).mono ?_
    rintro e w' ⟨rfl, ⟨hs, rfl⟩ | ⟨hs, hg⟩⟩
    · rw [if_neg (by unfold Pr.dropOf; rw [if_pos hs]; decide)]
      exact ⟨rfl, h.same hE⟩
    · rw [if_pos (by unfold Pr.dropOf; rw [if_neg hs])]
      exact ⟨rfl, h.rgoes hE hg⟩
  · have he : Pr.dErr pr i = 1 := if_neg hin
    rw [he, if_neg (by decide)]
    refine (rdrop_arg w x g L M pr q h.ref i hin).mono ?_
    rintro e w' ⟨rfl, rfl⟩
    exact ⟨rfl, h.same hE⟩
theorem rcommit_full (W w : World) (E : Nat → Prop) (b db x g : Nat) (p pr : Pr.Pt) (q : Pr.Dr) (d : Dk.St) (h : Mid W w E b db x g p pr q d) (hseq : pr.seq + 1 ≤ 4611686018427387904) (i : Int) :
    Calls Try.prog 14 #[.pointer (some ⟨x, 0, none⟩), .int .i64 i] w fun e w' => e = .returned (.int .i64 (Pr.cErr pr i)) ∧ MidK W w w' E b db x g p (Pr.cTo pr i) (Pr.cDr pr q i) d := by
  obtain ⟨S, Sd, U, T, B, D, low, L, M, h, hE⟩ := h
  unfold Pr.cTo Pr.cDr
  by_cases hb : i ≠ 0 ∧ ¬ Pr.inP pr i
  · have he : Pr.cErr pr i = 1 := if_pos hb
    rw [he, if_neg (by decide), if_neg (by decide)]
    refine (rcommit_arg w x g L M pr q h.ref i hb.1 hb.2).mono ?_
    rintro e w' ⟨rfl, rfl⟩
    exact ⟨rfl, h.same hE⟩
  · by_cases hs : i ≠ 0 ∧ Pr.stp Pr.isOk pr.l i.toNat = false
    · have he : Pr.cErr pr i = 250 := by unfold Pr.cErr; rw [if_neg hb, if_pos hs]
      rw [he, if_neg (by decide), if_neg (by decide)]
      have hin : Pr.inP pr i := Classical.byContradiction fun e => hb ⟨hs.1, e⟩
      obtain ⟨n, rfl⟩ : ∃ n : Nat, i = (n : Int) := ⟨i.toNat, by have := hin.1; omega⟩
      refine (rcommit_state w x g L M pr q h.ref n (by have := hin.1; omega) (by have := hin.2; omega) hs.2).mono ?_
      rintro e w' ⟨rfl, rfl⟩
      exact ⟨rfl, h.same hE⟩
    · have he : Pr.cErr pr i = 0 := by unfold Pr.cErr; rw [if_neg hb, if_neg hs]
      rw [he, if_pos rfl, if_pos rfl]
      have hi : i = 0 ∨ Pr.inP pr i ∧ Pr.stp Pr.isOk pr.l i.toNat = true := by
        by_cases h0 : i = 0
        · exact .inl h0
        · refine .inr ⟨Classical.byContradiction fun e => hb ⟨h0, e⟩, ?_⟩
          cases hh : Pr.stp Pr.isOk pr.l i.toNat
          · exact absurd ⟨h0, hh⟩ hs
          · rfl
      obtain ⟨n, rfl⟩ : ∃ n : Nat, i = (n : Int) := ⟨i.toNat, by rcases hi with e | e; omega; have := e.1.1; omega⟩
      rw [show ((n : Int)).toNat = n by omega] at hi ⊢
      refine (rcommit_ok w x g L M pr q h.ref hseq n (hi.imp (fun e => by omega) (fun e => ⟨by have := e.1.1; omega, by have := e.1.2; omega, e.2⟩))).mono ?_
      rintro e w' ⟨rfl, hg⟩
      exact ⟨rfl, h.rgoes hE hg⟩
theorem ruse_full (W w : World) (E : Nat → Prop) (b db x g : Nat) (p pr : Pr.Pt) (q : Pr.Dr) (d : Dk.St) (h : Mid W w E b db x g p pr q d) (A : Option Addr) (l : List Int) (c : Nat) (hi : Ints w A l) :
    Calls Try.prog 54 #[.pointer (some ⟨x, 0, none⟩), .slice A l.length c] w fun e w' => e = .returned (.int .i64 (Pr.uErr pr l)) ∧ MidK W w w' E b db x g p (Pr.uTo pr l) q d := by
  obtain ⟨S, Sd, U, T, B, D, low, L, M, h, hE⟩ := h
  unfold Pr.uTo
  cases hb : Pr.busy pr with
  | true =>
    have he : Pr.uErr pr l = 250 := by unfold Pr.uErr; rw [if_pos hb]
    rw [he, if_neg (by decide)]
    obtain ⟨j, s, hj2, hj, hs⟩ := Pr.busy_at h.ref.ok hb
    refine (ruse_state w x g L M pr q h.ref j s hj2 hj hs _).mono ?_
    rintro e w' ⟨rfl, rfl⟩
    exact ⟨rfl, h.same hE⟩
  | false =>
    have hbn : ¬ Pr.busy pr = true := by rw [hb]; decide
    obtain ⟨_, _, hle⟩ := Pr.busy_not h.ref.ok hb
    refine (ruse_any w x g L M pr q h.ref hle A l c hi).mono ?_
    intro e w' hp
    rcases hp with ⟨hn, rfl, hbl⟩ | ⟨hn, hd, rfl, hbl⟩ | ⟨hn, hd, rfl, hg⟩
    · have he : Pr.uErr pr l = 1 := by unfold Pr.uErr; rw [if_neg hbn]; exact if_pos hn
      rw [he, if_neg (by decide)]
      exact ⟨rfl, h.on hE hbl⟩
    · have he : Pr.uErr pr l = 6 := by unfold Pr.uErr; rw [if_neg hbn]; exact (if_neg (fun e => e hn)).trans (if_pos hd)
      rw [he, if_neg (by decide)]
      exact ⟨rfl, h.on hE hbl⟩
    · have he : Pr.uErr pr l = 0 := by unfold Pr.uErr; rw [if_neg hbn]; exact (if_neg (fun e => e hn)).trans (if_neg (fun e => e hd))
      rw [he, if_pos rfl]
      exact ⟨rfl, h.rgoes hE hg⟩
theorem rabort_full (W w : World) (E : Nat → Prop) (b db x g : Nat) (p pr : Pr.Pt) (q : Pr.Dr) (d : Dk.St) (h : Mid W w E b db x g p pr q d) :
    Calls Try.prog 52 #[.pointer (some ⟨x, 0, none⟩)] w fun e w' => e = .returned (.tuple #[]) ∧ MidK W w w' E b db x g p (Pr.aborted pr) q d := by
  obtain ⟨S, Sd, U, T, B, D, low, L, M, h, hE⟩ := h
  refine (rabort_any w x g L M pr q h.ref).mono ?_
  rintro e w' ⟨rfl, hg⟩
  exact ⟨rfl, h.rgoes hE hg⟩
end Go.Proofs.Ythlmjnlakenmoaa

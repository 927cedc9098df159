/-
  Write of a pager.
-/
import Derived.Test.YthlmjnlakenmoaaPAlloc
namespace Go.Proofs.Ythlmjnlakenmoaa
open Go.RowKit Go.Maps
set_option maxRecDepth 100000

theorem pwrite_nil (w : World) (i : Int) (v : Value) : Calls Try.prog 22 #[.pointer none, .int .i64 i, v] w fun e w' => e = .returned (.int .i64 2) ∧ w = w' := by
  go_enter Try.func22, Try.ntmps22
  go_wp2_with fail
  refine (prefuse_nil _).mono ?_
  rintro e w' ⟨rfl, rfl⟩
  go_wp2_with fail
  go_ret
  exact ⟨rfl, rfl⟩
theorem pwrite_dead (w : World) (b db : Nat) (i : Int) (v : Value) (hp : w.cell? ⟨b, 0, none⟩ = some (.pointer (some ⟨db, 0, none⟩))) (hd : w.cell? ⟨db, 4, none⟩ = some (.bool true)) : Calls Try.prog 22 #[.pointer (some ⟨b, 0, none⟩), .int .i64 i, v] w fun e w' => e = .returned (.int .i64 20) ∧ w = w' := by
  have hr := prefuse_any w b db true hp hd
  rw [if_pos rfl] at hr
  have HR := Lib.hid hr
  clear hr hp hd
  go_enter Try.func22, Try.ntmps22
  go_wp2_with fail
  refine HR.out.mono ?_
  rintro e w' ⟨rfl, rfl⟩
  go_wp2_with fail
  go_ret
  exact ⟨rfl, rfl⟩
theorem pwrite_arg (w : World) (S Sd R : Nat → Prop) (b db U T B D low : Nat) (p : Pr.Pt) (d : Dk.St) (h : Over w S Sd R b db U T B D low p d) (hdead : d.dead = false) (i : Int) (A : Option Addr) (m c : Nat) (hi : ¬ (2 ≤ i ∧ i < (p.l.length : Int)) ∨ 502 < m) :
    Calls Try.prog 22 #[.pointer (some ⟨b, 0, none⟩), .int .i64 i, .slice A m c] w fun e w' => e = .returned (.int .i64 1) ∧ w = w' := by
  have HR := Lib.hid (h.refuse hdead)
  by_cases hin : 2 ≤ i ∧ i < (p.l.length : Int)
  · have hm : (502 : Int) < (m : Int) := by rcases hi with e | e; exact absurd hin e; omega
    have HH := Lib.hid (h.has i true (decide_eq_true hin))
    clear h hi hin
    go_enter Try.func22, Try.ntmps22
    go_wp2_with fail
    refine HR.out.mono ?_
    rintro e w' ⟨rfl, rfl⟩
    go_wp2_with fail
    refine HH.out.mono ?_
    rintro e w' ⟨rfl, rfl⟩
    go_wp2_with fail
    go_ret
    exact ⟨rfl, rfl⟩
  · have HH := Lib.hid (h.has i false (decide_eq_false hin))
    clear h hi hin
    go_enter Try.func22, Try.ntmps22
    go_wp2_with fail
    refine HR.out.mono ?_
    rintro e w' ⟨rfl, rfl⟩
    go_wp2_with fail
    refine HH.out.mono ?_
    rintro e w' ⟨rfl, rfl⟩
    go_wp2_with fail
    go_ret
    exact ⟨rfl, rfl⟩
theorem pwrite_state (w : World) (S Sd R : Nat → Prop) (b db U T B D low : Nat) (p : Pr.Pt) (d : Dk.St) (h : Over w S Sd R b db U T B D low p d) (hdead : d.dead = false) (n : Nat) (hn2 : 2 ≤ n) (hn : n < p.l.length) (A : Option Addr) (m c : Nat) (hm : m ≤ 502) (ht : Pr.stp Pr.isT p.l n = false) :
    Calls Try.prog 22 #[.pointer (some ⟨b, 0, none⟩), .int .i64 (n : Int), .slice A m c] w fun e w' => e = .returned (.int .i64 250) ∧ Below w.heap.size w w' := by
  have HR := Lib.hid (h.refuse hdead)
  have HH := Lib.hid (h.has n true (decide_eq_true (by omega)))
  have hmost := h.lies.ok.most
  have htk := phas_any w T _ _ h.lies.taken n (by omega)
  rw [ht] at htk
  have HT := Lib.hid htk
  have c4 := h.lies.cells.c4
  have hm' : (m : Int) ≤ 502 := by omega
  clear h htk ht hm
  go_enter Try.func22, Try.ntmps22
  go_wp2_with fail
  refine HR.out.mono ?_
  rintro e w' ⟨rfl, rfl⟩
  go_wp2_with fail
  refine HH.out.mono ?_
  rintro e w' ⟨rfl, rfl⟩
  go_wp2_with fail
  refine HT.out.mono ?_
  rintro e w1 ⟨rfl, hb⟩
  have HB := Lib.hid hb
  clear hb
  go_wp2_with fail
  go_ret
  exact ⟨rfl, HB.out⟩

/-- a call of the disk beneath a pager -/
theorem Over.goes {w w' : World} {S Sd R : Nat → Prop} {b db U T B D low : Nat} {p : Pr.Pt} {d d' : Dk.St} (h : Over w S Sd R b db U T B D low p d) (hl : d'.lasts.length = d.lasts.length) (hg : Goes Sd R db d' w w') :
    ∃ S' Sd', Over w' S' Sd' R b db U T B D low p d' ∧ Fr S w w' ∧ ∀ k, S' k → S k ∨ w.heap.size ≤ k := by
  obtain ⟨Sd', hd, hf, hs⟩ := hg
  refine ⟨fun k => Sd' k ∨ pS b U T B D k, Sd', ⟨h.lies.keep hf (fun k hk => (h.apart k hk).1), hd, fun _ => Iff.rfl, fun k hk => ⟨fun e => ?_, (h.apart k hk).2⟩, by rw [hl]; exact h.len⟩, hf.wide (fun x _ e => (h.own x).2 (.inl e)), fun k hk => ?_⟩
  · rcases hs k e with e | e
    · exact (h.apart k hk).1 e
    · have := h.lies.lt k hk; omega
  · rcases hk with e | e
    · rcases hs k e with e | e
      · exact .inl ((h.own k).2 (.inl e))
      · exact .inr e
    · exact .inl ((h.own k).2 (.inr e))
/-- behind a call that hands a pager and its disk on -/
def PGoes (w : World) (S R : Nat → Prop) (b db U T B D low : Nat) (p : Pr.Pt) (d : Dk.St) (w' : World) : Prop :=
  ∃ S' Sd', Over w' S' Sd' R b db U T B D low p d ∧ Fr S w w' ∧ ∀ k, S' k → S k ∨ w.heap.size ≤ k
/-- a page is put: what the disk is behind it -/
def Dk.St.putPage (d : Dk.St) (n : Nat) (l : List UInt8) : Dk.St := d.puts n (Pg.made n l) 4
theorem putPage_len (d : Dk.St) (n : Nat) (l : List UInt8) : (d.putPage n l).lasts.length = d.lasts.length := puts_lasts_len _ _ _ _
/-- the pager behind a write behind which the disk is dead, or not -/
def Pr.wrote (p : Pr.Pt) (n : Nat) : Bool → Pr.Pt
  | true => p
  | false => ⟨p.l.set n 3, p.seq, p.root⟩
set_option maxHeartbeats 1600000 in
theorem pwrite_ok (w : World) (S Sd R : Nat → Prop) (b db U T B D low : Nat) (p : Pr.Pt) (d : Dk.St) (h : Over w S Sd R b db U T B D low p d) (hdead : d.dead = false) (few : d.Few 900000) (n : Nat) (hn2 : 2 ≤ n) (hn : n < p.l.length) (ht : Pr.stp Pr.isT p.l n = true)
    (A : Option Addr) (l : List UInt8) (c : Nat) (hl : l.length ≤ 502) (hr : Rd w w.heap.size A l) :
    Calls Try.prog 22 #[.pointer (some ⟨b, 0, none⟩), .int .i64 (n : Int), .slice A l.length c] w fun e w' => e = .returned (.int .i64 (ecode (d.putPage n l).dead)) ∧
      PGoes w S R b db U T B D low (Pr.wrote p n (d.putPage n l).dead) (d.putPage n l) w' := by
  have HR := Lib.hid (h.refuse hdead)
  have HH := Lib.hid (h.has n true (decide_eq_true (by omega)))
  have hmost := h.lies.ok.most
  have htk := phas_any w T _ _ h.lies.taken n (by omega)
  rw [ht] at htk
  have HT := Lib.hid htk
  have c4 := h.lies.cells.c4
  have hm' : (l.length : Int) ≤ 502 := by omega
  have H := Lib.hid h
  have HRd := Lib.hid hr
  have HF := Lib.hid few
  have HTT := Lib.hid ht
  clear h htk ht hr few
  go_enter Try.func22, Try.ntmps22
  go_wp2_with fail
  refine HR.out.mono ?_
  rintro e w' ⟨rfl, rfl⟩
  go_wp2_with fail
  refine HH.out.mono ?_
  rintro e w' ⟨rfl, rfl⟩
  go_wp2_with fail
  refine HT.out.mono ?_
  rintro e w1 ⟨rfl, hb⟩
  have h1 := H.out.below hb
  have hput : Calls Try.prog 39 #[.pointer (some ⟨b, 0, none⟩), .int .i64 (n : Int), .slice A l.length c] w1 fun e w' => e = .returned (.int .i64 (ecode (d.putPage n l).dead)) ∧ Goes Sd R db (d.putPage n l) w1 w' := pput_any w1 Sd R b db d h1.disk hdead (h1.apart b (.inl rfl)).1 h1.lies.cells.c0 HF.out n (by have := H.out.len; omega) A l c hl ((HRd.out.below hb).more hb.size)
  have HB := Lib.hid hb
  have HP := Lib.hid hput
  have H1 := Lib.hid h1
  clear hb h1 hput c4
  go_wp2_with fail
  refine HP.out.mono ?_
  rintro e w2 ⟨rfl, hg⟩
  obtain ⟨S', Sd', h2, hf2, hs2⟩ := H1.out.goes (putPage_len d n l) hg
  have hf2' : Fr S w w2 := (Fr.of_below HB.out S).trans hf2 (fun _ _ e => e)
  have hs2' : ∀ k, S' k → S k ∨ w.heap.size ≤ k := fun k hk => (hs2 k hk).imp id (fun e => Nat.le_trans HB.out.size e)
  have H2 := Lib.hid h2
  have HF2 := Lib.hid hf2'
  have HS2 := Lib.hid hs2'
  clear hg h2 hf2 hs2 hf2' hs2' HP H1
  cases hdd : (d.putPage n l).dead
  · have HDD := Lib.hid hdd
    clear hdd
    have c5 := H2.out.lies.cells.c5
    obtain ⟨nb, DB, hob, hnb, hdb⟩ := H2.out.lies.blank
    have HOB := Lib.hid hob
    have hkey := key_of (i := n) (by omega)
    clear hob
    simp only [show ecode false = 0 from rfl]
    go_wp2_with (at_delete; refine wpList_delete_own _ rfl _ _ 81 3 rfl 111 key_int und_pages _ B nb DB rfl HOB.out _ _ rfl hkey ?_; intro w3 ho3 ht3; have HO3 := Lib.hid ho3; have HT3 := Lib.hid ht3; clear ho3 ht3)
    go_ret
    have hf3 := Fr.of_turned HT3.out
    have hov := H2.out
    obtain ⟨n1, n2, n3, n4⟩ := hov.lies.bne
    obtain ⟨m1, m2, m3⟩ := hov.lies.ne
    have hsz := HF2.out.size
    have hBS : S' B := (hov.own B).2 (.inr (.inr (.inr (.inr (.inl rfl)))))
    have hlset : (p.l.set n 3).length = p.l.length := List.length_set
    obtain ⟨s, hs⟩ : ∃ s, p.l[n]? = some s := ⟨_, List.getElem?_eq_getElem hn⟩
    have hst : s = 2 ∨ s = 3 := by
      have := HTT.out
      rw [Pr.state_of _ hs] at this
      simpa [Pr.isT] using this
    have hk0 : ∀ q : Nat → Bool, q 2 = q 3 → ∀ j, Pr.stp q p.l j = Pr.stp q (p.l.set n 3) j := fun q hq j => Pr.stp_keep hn (by rw [Pr.state_of q hs]; rcases hst with rfl | rfl; exact hq; rfl) j
    rw [HDD.out]
    change _ ∧ PGoes w S R b db U T B D low ⟨p.l.set n 3, p.seq, p.root⟩ (d.putPage n l) w3
    refine ⟨rfl, S', Sd', ⟨⟨hov.lies.ok.set hn2 (by omega), hov.lies.box.keep hf3 (fun e => n3 e), ?_, ?_, ?_, ?_, hov.lies.ne, hov.lies.low2, by show low ≤ (p.l.set n 3).length; rw [hlset]; exact hov.lies.lowN, fun i h2 hik => ?_⟩, hov.disk.keep hf3 (fun x hx => ?_), hov.own, hov.apart, ?_⟩, ?_, HS2.out⟩
    · show SetAt w3 U (p.l.set n 3).length (Pr.stp Pr.isU (p.l.set n 3))
      rw [hlset]
      exact (hov.lies.used.keep hf3 (fun e => m1.2.1 e)).congr (hk0 _ rfl)
    · show SetAt w3 T (p.l.set n 3).length (Pr.stp Pr.isT (p.l.set n 3))
      rw [hlset]
      exact (hov.lies.taken.keep hf3 (fun e => m2.1 e)).congr (hk0 _ rfl)
    · show SetAt w3 B (p.l.set n 3).length (Pr.stp Pr.isB (p.l.set n 3))
      rw [hlset]
      exact (SetAt.mk' HO3.out (hdb.del HO3.out)).congr (Pr.stp_del hn rfl)
    · show SetAt w3 D (p.l.set n 3).length (Pr.stp Pr.isD (p.l.set n 3))
      rw [hlset]
      exact (hov.lies.dropped.keep hf3 (fun e => m3 (Eq.symm e))).congr (hk0 _ rfl)
    · show (p.l.set n 3)[i]? ≠ some 0
      by_cases hin : i = n
      · subst hin
        rw [List.getElem?_set_self hn]
        simp
      · rw [List.getElem?_set_ne (fun e => hin e.symm)]
        exact hov.lies.nofree i h2 hik
    · have hx : x = B := hx
      subst hx
      exact hov.apart x (.inr (.inr (.inr (.inl rfl))))
    · show (p.l.set n 3).length = _
      rw [hlset]; exact hov.len
    · exact HF2.out.trans hf3 (fun x hx e => by
        have e : x = B := e
        subst e
        rcases HS2.out x hBS with e | e
        · exact e
        · omega)
  · have HDD := Lib.hid hdd
    clear hdd
    simp only [show ecode true = 20 from rfl]
    go_wp2_with fail
    go_ret
    rw [HDD.out]
    exact ⟨rfl, S', Sd', H2.out, HF2.out, HS2.out⟩
end Go.Proofs.Ythlmjnlakenmoaa

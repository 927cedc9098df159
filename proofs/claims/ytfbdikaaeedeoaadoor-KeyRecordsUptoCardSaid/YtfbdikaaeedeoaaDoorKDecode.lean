/-
  Bytes are read as items, to their end.
-/
import Derived.Test.YtfbdikaaeedeoaaDoorKItemT
namespace Go.Proofs.YtfbdikaaeedeoaaDoor
open Go.RowKit Go.Maps
open Ky (Its)
set_option maxRecDepth 100000

def Ky.decF : Nat → List UInt8 → Except Int Its
  | _, [] => .ok .nil
  | 0, _ :: _ => .error 4
  | n + 1, b :: s => match Ky.readIt 16 (b :: s) with
    | .error e => .error e
    | .ok ((k, m, a, sub), r) => match Ky.decF n r with
      | .error e => .error e
      | .ok t => .ok (.cons k m a sub t)
/-- the items of bytes -/
def Ky.dec (s : List UInt8) : Except Int Its := Ky.decF s.length s
theorem Ky.readIt_shorter {s r a : List UInt8} {k : UInt8} {m : Int} {sub : Its} (h : Ky.readIt 16 s = .ok ((k, m, a, sub), r)) : r.length < s.length := by
  rw [(Ky.readIt_back 16 (by omega) s k m a sub r h).1]
  simp
  omega
theorem Ky.decF_same : ∀ (N n m : Nat) (s : List UInt8), s.length ≤ N → s.length ≤ n → s.length ≤ m → Ky.decF n s = Ky.decF m s := by
  intro N
  induction N with
  | zero =>
    intro n m s h0 _ _
    cases s with
    | nil => cases n <;> cases m <;> rfl
    | cons => simp at h0
  | succ N ih =>
    intro n m s h0 h1 h2
    cases s with
    | nil => cases n <;> cases m <;> rfl
    | cons b s =>
      obtain ⟨n, rfl⟩ : ∃ n', n = n' + 1 := ⟨n - 1, by simp at h1; omega⟩
      obtain ⟨m, rfl⟩ : ∃ m', m = m' + 1 := ⟨m - 1, by simp at h2; omega⟩
      rw [Ky.decF, Ky.decF]
      cases hi : Ky.readIt 16 (b :: s) with
      | error e => rfl
      | ok y =>
        obtain ⟨⟨k, m', a, sub⟩, r⟩ := y
        have := Ky.readIt_shorter hi
        simp only [List.length_cons] at this h0 h1 h2
        simp only
        rw [ih n m r (by omega) (by omega) (by omega)]
theorem Ky.dec_nil : Ky.dec [] = .ok .nil := rfl
theorem Ky.dec_bad {s : List UInt8} {c : Int} (hs : s ≠ []) (h : Ky.readIt 16 s = .error c) : Ky.dec s = .error c := by
  cases s with
  | nil => exact absurd rfl hs
  | cons b s =>
    show Ky.decF (s.length + 1) (b :: s) = _
    rw [Ky.decF, h]
theorem Ky.dec_step {s r a : List UInt8} {k : UInt8} {m : Int} {sub : Its} (h : Ky.readIt 16 s = .ok ((k, m, a, sub), r)) : Ky.dec s = match Ky.dec r with
    | .error e => .error e
    | .ok t => .ok (.cons k m a sub t) := by
  have hl := Ky.readIt_shorter h
  cases s with
  | nil => simp at hl
  | cons b s =>
    show Ky.decF (s.length + 1) (b :: s) = _
    rw [Ky.decF, h]
    simp only
    simp only [List.length_cons] at hl
    rw [show Ky.dec r = Ky.decF s.length r from Ky.decF_same r.length _ _ r (Nat.le_refl _) (Nat.le_refl _) (by omega)]
def joinA (d : Its) : Except Int Its → Except Int Its
  | .error e => .error e
  | .ok t => .ok (Its.app d t)
theorem joinA_nil (e : Except Int Its) : joinA .nil e = e := by rcases e with e | t <;> rfl
theorem joinA_step {s r a : List UInt8} {k : UInt8} {m : Int} {sub d : Its} (h : Ky.readIt 16 s = .ok ((k, m, a, sub), r)) : joinA d (Ky.dec s) = joinA (Its.app d (one k m a sub)) (Ky.dec r) := by
  rw [Ky.dec_step h]
  rcases Ky.dec r with e | t
  · rfl
  · simp only [joinA, Its.app_assoc]
    rfl
/-- what Decode tells -/
def Ky.decE (s : List UInt8) : Int := if 100000 < s.length then 3 else match Ky.dec s with
  | .error c => c
  | .ok _ => 0
def Ky.decT (s : List UInt8) : Its := if 100000 < s.length then .nil else match Ky.dec s with
  | .error _ => .nil
  | .ok t => t
def DecPost (w : World) (s : List UInt8) (e : Ending) (w' : World) : Prop :=
  (∃ A c, e = .returned (.tuple #[.slice A (Ky.decT s).len c, .int .i64 (Ky.decE s)]) ∧ SlX w' (fun g => w.heap.size ≤ g ∧ g < w'.heap.size) A (Ky.decT s)) ∧ Below w.heap.size w w'
theorem dec_none {w w' : World} {s : List UInt8} {c : Int} (hE : Ky.decE s = c) (hT : Ky.decT s = .nil) (hb : Below w.heap.size w w') : DecPost w s (.returned (.tuple #[.slice none 0 0, .int .i64 c])) w' := by
  unfold DecPost
  rw [hE, hT]
  exact ⟨⟨none, 0, rfl, SlX.nil _ _ _⟩, hb⟩
theorem dec_some {w w' : World} {s : List UInt8} {t : Its} {A : Option Addr} {c : Nat} (hl : ¬ 100000 < s.length) (h : Ky.dec s = .ok t) (hx : SlX w' (fun g => w.heap.size ≤ g ∧ g < w'.heap.size) A t) (hb : Below w.heap.size w w') : DecPost w s (.returned (.tuple #[.slice A t.len c, .int .i64 0])) w' := by
  unfold DecPost Ky.decE Ky.decT
  rw [if_neg hl, if_neg hl, h]
  exact ⟨⟨A, c, rfl, hx⟩, hb⟩
/-- where the loop stands: d is read, l is left, in the reader at R -/
def DRel (w : World) (s : List UInt8) (v : Value) (d : Its) (l : List UInt8) (wr : World) : Prop :=
  joinA .nil (Ky.dec s) = joinA d (Ky.dec l) ∧ d.len + l.length ≤ s.length ∧ RAt wr w.heap.size l ∧ OwnI 62 wr (w.heap.size + 1) v d ∧ Below w.heap.size w wr ∧ w.heap.size + 1 ≤ wr.heap.size
set_option maxHeartbeats 3200000 in
theorem decode_any (w : World) (s : List UInt8) (hs : s.length ≤ 1000000000) :
    Calls Tryd.prog 27 #[bstr s] w (DecPost w s) := by
  by_cases hl : 100000 < s.length
  · have hl' : (100000 : Int) < (s.length : Int) := by omega
    have hsb : (s.length : Int) ≤ 1000000000 := by omega
    have HP : Hid (DecPost w s (.returned (.tuple #[.slice none 0 0, .int .i64 3])) w) := Lib.hid (dec_none (by unfold Ky.decE; rw [if_pos hl]) (by unfold Ky.decT; rw [if_pos hl]) (Below.refl _ _))
    clear hl hs
    unfold bstr
    go_enter Tryd.func27, Tryd.ntmps27
    go_wp2_with fail
    go_ret2
    exact HP.out
  · have hl' : ¬ ((100000 : Int) < (s.length : Int)) := by omega
    have hR0 : DRel w s (.slice none 0 0) .nil s (w.alloc (.cells #[bstr s] 78)) := ⟨rfl, by simp [Its.len], Has.of_alloc _ _ _, OwnI.nil _ _ _, (Below.refl _ _).alloc (Nat.le_refl _) _, by simp⟩
    have HR0 := Lib.hid hR0
    have HS : Hid (¬ 100000 < s.length) := Lib.hid hl
    clear hR0 hl hs
    unfold bstr at *
    go_enter Tryd.func27, Tryd.ntmps27
    go_wp2_with fail
    generalize (w.alloc (.cells #[.string ⟨s.toArray⟩] 78)) = w1 at *
    clear hl'
    generalize hR : w.heap.size = R at *
    have HRW := Lib.hid hR
    clear hR
    go_loopg [4] s.length (fun gk v wr => ∃ d l, l.length ≤ gk ∧ Hid (DRel w s v d l wr))
    case atStart => exact ⟨.nil, s, Nat.le_refl _, HR0⟩
    case round =>
      rename World => wr
      obtain ⟨d, l, hg, HR⟩ := hrel
      have HRr : Hid (RAt wr R l) := Lib.hid (by have := HR.out.2.2.1; rw [HRW.out] at this; exact this)
      obtain ⟨A, c, rfl, -, -⟩ := HR.out.2.2.2.1.form
      have HOr : Hid (OwnI 62 wr (R + 1) (.slice A d.len c) d) := Lib.hid (by have := HR.out.2.2.2.1; rw [HRW.out] at this; exact this)
      have HBr : Hid (Below R w wr) := Lib.hid (by have := HR.out.2.2.2.2.1; rw [HRW.out] at this; exact this)
      have HZr : Hid (R + 1 ≤ wr.heap.size) := Lib.hid (by have := HR.out.2.2.2.2.2; rw [HRW.out] at this; exact this)
      have c0 : wr.cell? ⟨R, 0, none⟩ = some (bstr l) := HRr.out.cell 0
      have HG := Lib.hid hg
      clear hg
      have HSL : Hid (SlX wr (fun k => R + 1 ≤ k ∧ k < wr.heap.size) A d) := Lib.hid (by
        obtain ⟨A', c', e, -, h⟩ := HOr.out.form
        injection e with e1 e2 e3
        subst e1
        exact h)
      unfold bstr at c0
      by_cases hle0 : l = []
      · subst hle0
        have HP : Hid (DecPost w s (.returned (.tuple #[.slice A d.len c, .int .i64 0])) wr) := Lib.hid (dec_some HS.out (by have h := HR.out.1; rw [joinA_nil, Ky.dec_nil] at h; rw [h, joinA, Its.app_nil]) (HSL.out.keep (fun g hg => ⟨by have := hg.1; have := HRW.out; omega, hg.2⟩) (fun _ _ => rfl)) (by rw [HRW.out]; exact HBr.out))
        go_wp2_with fail
        go_ret2
        exact HP.out
      · have hle : l.isEmpty = false := by cases l <;> simp_all
        have HI := Lib.hid (item_any wr R l HRr.out (by have := HR.out.2.1; have := HS.out; omega))
        unfold ItemPost itemV bstr at HI
        cases hi : Ky.readIt 16 l with
        | error cc =>
          rw [hi] at HI
          have hcn : (cc != 0) = true := by simpa using readIt_err 16 l cc hi
          have hcn2 : ¬ (cc = 0) := by simpa using hcn
          have hdc : Ky.dec s = .error cc := by have h := HR.out.1; rw [joinA_nil, Ky.dec_bad hle0 hi] at h; exact h
          have HP : Hid (∀ w', Below R w w' → DecPost w s (.returned (.tuple #[.slice none 0 0, .int .i64 cc])) w') := Lib.hid (fun w' hb => dec_none (by unfold Ky.decE; rw [if_neg HS.out, hdc]) (by unfold Ky.decT; rw [if_neg HS.out, hdc]) (by rw [HRW.out]; exact hb))
          clear hi hdc hle0
          go_wp2_with fail
          refine HI.out.mono ?_
          rintro e w4 ⟨⟨rfl, s', hr4⟩, hf4⟩
          have HB4 : Hid (Below R w w4) := Lib.hid (HBr.out.trans (hf4.below (by have := HZr.out; omega) (fun k hk => by have h : k = R := hk; omega)))
          clear hr4 hf4
          go_wp2_with fail
          go_ret2
          exact HP.out _ (HB4.out.alloc (by have := HB4.out.size; have := HRW.out; omega) _)
        | ok y =>
          obtain ⟨⟨k', n', a', sub'⟩, l'⟩ := y
          rw [hi] at HI
          have HLT : Hid (l'.length < l.length) := Lib.hid (Ky.readIt_shorter hi)
          have HJ : Hid (joinA .nil (Ky.dec s) = joinA (Its.app d (one k' n' a' sub')) (Ky.dec l')) := Lib.hid (by rw [HR.out.1, joinA_step hi])
          clear hi hle0
          go_wp2_with fail
          refine HI.out.mono ?_
          rintro e w4 ⟨⟨⟨A4, c4, rfl, hs4⟩, hr4⟩, hf4⟩
          have hRB : ∀ k, oneB R k → k < R + 1 := fun k e => by have e : k = R := e; omega
          have HO4 : Hid (OwnI 62 w4 (R + 1) (.slice A d.len c) d) := Lib.hid (HOr.out.fr hf4 hRB)
          have HS4 := Lib.hid hs4
          have HR4 := Lib.hid hr4
          have HB4 : Hid (Below R w w4) := Lib.hid (HBr.out.trans (hf4.below (by have := HZr.out; omega) (fun k hk => by have h : k = R := hk; omega)))
          have HZ4 : Hid (wr.heap.size ≤ w4.heap.size) := Lib.hid hf4.size
          clear hs4 hr4 hf4 hRB
          go_upto_region 7 with fail
          have hh := Has.of_alloc w4 62 #[.int .u8 (k'.toNat : Int), .int .i64 n', .string ⟨a'.toArray⟩, .slice A4 sub'.len c4]
          have HBW : Hid (Below w4.heap.size w4 (w4.alloc (.cells #[.int .u8 (k'.toNat : Int), .int .i64 n', .string ⟨a'.toArray⟩, .slice A4 sub'.len c4] 62))) := Lib.hid ((Below.refl _ _).alloc (Nat.le_refl _) _)
          generalize (w4.alloc (.cells #[.int .u8 (k'.toNat : Int), .int .i64 n', .string ⟨a'.toArray⟩, .slice A4 sub'.len c4] 62)) = w5 at *
          have y0 := hh.cell 0
          have y1 := hh.cell 1
          have y2 := hh.cell 2
          have y3 := hh.cell 3
          have HB6 : Hid (Below w4.heap.size w4 (w5.alloc (.cells #[.int .u8 (k'.toNat : Int), .int .i64 n', .string ⟨a'.toArray⟩, .slice A4 sub'.len c4] 62))) := Lib.hid (HBW.out.alloc HBW.out.size _)
          have HO6 : Hid (OwnI 62 (w5.alloc (.cells #[.int .u8 (k'.toNat : Int), .int .i64 n', .string ⟨a'.toArray⟩, .slice A4 sub'.len c4] 62)) (R + 1) (.slice A d.len c) d) := Lib.hid (HO4.out.below HB6.out)
          obtain ⟨xs, hq1, hq2⟩ := HO6.out.row
          have HQ1 := Lib.hid hq1
          have HQ2 := Lib.hid hq2
          have HS6 : Hid (SlX (w5.alloc (.cells #[.int .u8 (k'.toNat : Int), .int .i64 n', .string ⟨a'.toArray⟩, .slice A4 sub'.len c4] 62)) (InX (w5.alloc (.cells #[.int .u8 (k'.toNat : Int), .int .i64 n', .string ⟨a'.toArray⟩, .slice A4 sub'.len c4] 62)) (R + 1) (.slice A d.len c)) A4 sub') := Lib.hid (HS4.out.keep (fun b hb => ⟨by have := hb.1; have := HZr.out; omega, by have := hb.2; have := HB6.out.size; omega, fun e => by have := (HOr.out.lt b e).2; have := hb.1; omega⟩) (fun b hb => HB6.out.block b hb.2))
          have HH6 := Lib.hid (Has.of_alloc w5 62 #[.int .u8 (k'.toNat : Int), .int .i64 n', .string ⟨a'.toArray⟩, .slice A4 sub'.len c4])
          have hdl : (d.len : Int) ≤ 100000 := by have := HR.out.2.1; have := HS.out; omega
          clear hh hq1 hq2
          go_wp2_with (refine wpList_append_row eltI rfl (.tmp 23) (.tmp 25) rfl (R + 1) _ d.len xs rfl HQ1.out w5.heap.size [.int .u8 (k'.toNat : Int), .int .i64 n', .string ⟨a'.toArray⟩, .slice A4 sub'.len c4] rfl HH6.out rfl (fun u hu => by simp at hu; rcases hu with rfl | rfl | rfl | rfl <;> rfl) (by have := HR.out.2.1; have := HS.out; omega) (by decide) (by have := HB6.out.size; have := HZ4.out; have := HZr.out; omega) ?_; intro g' cap w7 O7 F7 G7 Z7)
          have HB7 : Hid (Below R w w7) := Lib.hid ((HB4.out.trans (HB6.out.mono (by have := HZ4.out; have := HZr.out; omega))).trans (F7.out.below (by have := HB6.out.size; have := HZ4.out; have := HZr.out; omega) (fun x hx => by have := (HO6.out.lt x hx).1; omega)))
          have HR7 : Hid (RAt w7 R l') := Lib.hid ((HR4.out.keep (Fr.of_below HB6.out noB) (fun e => e)).keep F7.out (fun e => by have := (HO6.out.lt _ e).1; omega))
          have HO7 : Hid (OwnI 62 w7 (R + 1) (.slice (some ⟨g', 0, none⟩) (d.len + 1) cap) (Its.app d (one k' n' a' sub'))) := Lib.hid (OwnI.snoc HQ2.out HS6.out O7.out F7.out (by
            rcases G7.out with h | h
            · exact .inl h.symm
            · exact .inr (congrArg some h)))
          have HW7 : Hid (R + 1 ≤ w7.heap.size) := Lib.hid (by have := F7.out.size; have := HB6.out.size; have := HZ4.out; have := HZr.out; omega)
          go_roundg l'.length
          case measure => have := HG.out; have := HLT.out; omega
          case rel =>
            refine ⟨Its.app d (one k' n' a' sub'), l', Nat.le_refl _, Lib.hid ⟨HJ.out, ?_, ?_, ?_, ?_, ?_⟩⟩
            · rw [Its.app_len]
              have := HLT.out
              have := HR.out.2.1
              simp only [Its.len]
              omega
            · rw [HRW.out]; exact HR7.out
            · rw [HRW.out]; exact HO7.out
            · rw [HRW.out]; exact HB7.out
            · rw [HRW.out]; exact HW7.out
end Go.Proofs.YtfbdikaaeedeoaaDoor

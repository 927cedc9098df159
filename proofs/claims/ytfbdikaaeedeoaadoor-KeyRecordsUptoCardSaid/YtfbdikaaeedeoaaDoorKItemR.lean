/-
  An item is read out of bytes.
-/
import Derived.Test.YtfbdikaaeedeoaaDoorKDec
import Derived.Test.YtfbdikaaeedeoaaDoorKUnfold
namespace Go.Proofs.YtfbdikaaeedeoaaDoor
open Go.RowKit Go.Maps
open Ky (Its)
set_option maxRecDepth 100000

theorem OwnI.fr {S : Nat → Prop} {e : TypeId} {w w' : World} {B : Nat} {v : Value} {t : Its} (h : OwnI e w B v t) (f : Fr S w w') (hs : ∀ k, S k → k < B) : OwnI e w' B v t := by
  have hlt := h.lt
  obtain ⟨xs, ho, hx⟩ := h.row
  refine ⟨xs, ownsRow_keep ho f (fun k hk hS => by have := (hlt k hk).1; have := hs k hS; omega), CellsX.keep (fun k hk => ⟨hk.1, by have := hk.2.1; have := f.size; omega, hk.2.2⟩) (fun g hg => f.old g hg.2.1 (fun hS => by have := hg.1; have := hs g hS; omega)) t hx⟩
/-- an item that was read, or why it was not -/
def ItemPost (q : Nat) (w : World) (R : Nat) (s : List UInt8) (e : Ending) (w' : World) : Prop :=
  (match Ky.readIt q s with
    | .error c => e = .returned (.tuple #[itemV 0 0 [] none 0 0, .int .i64 c]) ∧ ∃ s', RAt w' R s'
    | .ok ((k, n, a, sub), r) => (∃ A c, e = .returned (.tuple #[itemV k n a A sub.len c, .int .i64 0]) ∧ SlX w' (fun g => w.heap.size ≤ g ∧ g < w'.heap.size) A sub) ∧ RAt w' R r) ∧ Fr (oneB R) w w'
theorem item_bad {q R : Nat} {w w' : World} {s s' : List UInt8} {c : Int} (h : Ky.readIt q s = .error c) (hr : RAt w' R s') (f : Fr (oneB R) w w') : ItemPost q w R s (.returned (.tuple #[.agg #[.int .u8 0, .int .i64 0, .string ⟨#[]⟩, .slice none 0 0], .int .i64 c])) w' := by
  unfold ItemPost
  rw [h]
  exact ⟨⟨rfl, s', hr⟩, f⟩
theorem item_ok {q R : Nat} {w w' : World} {s a r : List UInt8} {k : UInt8} {n : Int} {sub : Its} {A : Option Addr} {c : Nat} (h : Ky.readIt q s = .ok ((k, n, a, sub), r)) (hs : SlX w' (fun g => w.heap.size ≤ g ∧ g < w'.heap.size) A sub) (hr : RAt w' R r) (f : Fr (oneB R) w w') : ItemPost q w R s (.returned (.tuple #[itemV k n a A sub.len c, .int .i64 0])) w' := by
  unfold ItemPost
  rw [h]
  exact ⟨⟨⟨A, c, rfl, hs⟩, hr⟩, f⟩
/-- an item's variable -/
abbrev VarI (w : World) (V : Nat) (k : UInt8) (n : Int) (a : List UInt8) (v : Value) : Prop := Has w V 62 #[.int .u8 (k.toNat : Int), .int .i64 n, bstr a, v]
theorem readIt_count {q : Nat} {k : UInt8} {r : List UInt8} (h : Ky.readC 0 0 r = none) : Ky.readIt q (k :: r) = .error 4 := by
  cases q <;> rw [Ky.readIt, h]
theorem readIt_num {q : Nat} {x : Nat} {r r2 : List UInt8} (h : Ky.readC 0 0 r = some (x, r2)) : Ky.readIt q (1 :: r) = .ok ((1, Ky.unfolded x, [], .nil), r2) := by
  cases q <;> rw [Ky.readIt, h] <;> simp
theorem readIt_short {q : Nat} {x : Nat} {r r2 : List UInt8} (h : Ky.readC 0 0 r = some (x, r2)) (hl : r2.length < x) : Ky.readIt q (2 :: r) = .error 4 := by
  cases q <;> rw [Ky.readIt, h] <;> simp [hl]
theorem readIt_text {q : Nat} {x : Nat} {r r2 : List UInt8} (h : Ky.readC 0 0 r = some (x, r2)) (hl : ¬ r2.length < x) : Ky.readIt q (2 :: r) = .ok ((2, 0, r2.take x, .nil), r2.drop x) := by
  cases q <;> rw [Ky.readIt, h] <;> simp [hl]
theorem readIt_deep {x : Nat} {r r2 : List UInt8} (h : Ky.readC 0 0 r = some (x, r2)) : Ky.readIt 0 (3 :: r) = .error 84 := by
  rw [Ky.readIt, h]
  simp
theorem readIt_list_bad {q x : Nat} {r r2 : List UInt8} {e : Int} (h : Ky.readC 0 0 r = some (x, r2)) (hl : Ky.readL (Ky.readIt q) x r2 = .error e) : Ky.readIt (q + 1) (3 :: r) = .error e := by
  rw [Ky.readIt, h]
  simp [hl]
theorem readIt_list_ok {q x : Nat} {r r2 r3 : List UInt8} {t : Its} (h : Ky.readC 0 0 r = some (x, r2)) (hl : Ky.readL (Ky.readIt q) x r2 = .ok (t, r3)) : Ky.readIt (q + 1) (3 :: r) = .ok ((3, 0, [], t), r3) := by
  rw [Ky.readIt, h]
  simp [hl]
theorem readIt_else {q x : Nat} {k : UInt8} {r r2 : List UInt8} (h : Ky.readC 0 0 r = some (x, r2)) (h1 : k ≠ 1) (h2 : k ≠ 2) (h3 : k ≠ 3) : Ky.readIt q (k :: r) = .error 4 := by
  cases q <;> rw [Ky.readIt, h] <;> simp [h1, h2, h3]
theorem readIt_err : ∀ (q : Nat) (s : List UInt8) (c : Int), Ky.readIt q s = .error c → c ≠ 0 := by
  have hL : ∀ (f : List UInt8 → Except Int ((UInt8 × Int × List UInt8 × Its) × List UInt8)), (∀ s c, f s = .error c → c ≠ 0) → ∀ n s c, Ky.readL f n s = .error c → c ≠ 0 := by
    intro f hf n
    induction n with
    | zero => intro s c h; rw [Ky.readL] at h; cases h
    | succ n ih =>
      intro s c h
      rw [Ky.readL] at h
      split at h
      · rename_i e h1
        simp only [Except.error.injEq] at h
        subst h
        exact hf _ _ h1
      · split at h
        · rename_i e h1
          simp only [Except.error.injEq] at h
          subst h
          exact ih _ _ h1
        · cases h
  intro q
  induction q with
  | zero =>
    intro s c h
    cases s with
    | nil => rw [Ky.readIt] at h; simp at h; omega
    | cons k r =>
      cases hc : Ky.readC 0 0 r with
      | none => rw [readIt_count hc] at h; simp at h; omega
      | some y =>
        obtain ⟨x, r2⟩ := y
        by_cases h1 : k = 1
        · subst h1; rw [readIt_num hc] at h; cases h
        · by_cases h2 : k = 2
          · subst h2
            by_cases hl : r2.length < x
            · rw [readIt_short hc hl] at h; simp at h; omega
            · rw [readIt_text hc hl] at h; cases h
          · by_cases h3 : k = 3
            · subst h3; rw [readIt_deep hc] at h; simp at h; omega
            · rw [readIt_else hc h1 h2 h3] at h; simp at h; omega
  | succ q ih =>
    intro s c h
    cases s with
    | nil => rw [Ky.readIt] at h; simp at h; omega
    | cons k r =>
      cases hc : Ky.readC 0 0 r with
      | none => rw [readIt_count hc] at h; simp at h; omega
      | some y =>
        obtain ⟨x, r2⟩ := y
        by_cases h1 : k = 1
        · subst h1; rw [readIt_num hc] at h; cases h
        · by_cases h2 : k = 2
          · subst h2
            by_cases hl : r2.length < x
            · rw [readIt_short hc hl] at h; simp at h; omega
            · rw [readIt_text hc hl] at h; cases h
          · by_cases h3 : k = 3
            · subst h3
              cases hl : Ky.readL (Ky.readIt q) x r2 with
              | error e =>
                rw [readIt_list_bad hc hl] at h
                simp only [Except.error.injEq] at h
                subst h
                exact hL _ ih _ _ _ hl
              | ok y => obtain ⟨t, r3⟩ := y; rw [readIt_list_ok hc hl] at h; cases h
            · rw [readIt_else hc h1 h2 h3] at h; simp at h; omega
def joinL (d : Its) : Except Int (Its × List UInt8) → Except Int (Its × List UInt8)
  | .error e => .error e
  | .ok (t, r) => .ok (Its.app d t, r)
theorem joinL_nil (e : Except Int (Its × List UInt8)) : joinL .nil e = e := by
  rcases e with e | ⟨t, r⟩ <;> rfl
theorem joinL_step {f : List UInt8 → Except Int ((UInt8 × Int × List UInt8 × Its) × List UInt8)} {n : Nat} {d : Its} {l r : List UInt8} {k : UInt8} {m : Int} {a : List UInt8} {sub : Its} (h : f l = .ok ((k, m, a, sub), r)) : joinL d (Ky.readL f (n + 1) l) = joinL (Its.app d (one k m a sub)) (Ky.readL f n r) := by
  rw [Ky.readL, h]
  simp only
  rcases Ky.readL f n r with e | ⟨t, r'⟩
  · rfl
  · simp only [joinL, Its.app_assoc]
    rfl
theorem joinL_bad {f : List UInt8 → Except Int ((UInt8 × Int × List UInt8 × Its) × List UInt8)} {n : Nat} {d : Its} {l : List UInt8} {c : Int} (h : f l = .error c) : joinL d (Ky.readL f (n + 1) l) = .error c := by
  rw [Ky.readL, h]
  rfl
theorem var4_set {w w2 : World} {R Z : Nat} {s : List UInt8} (hr : RAt w2 R s) (f : Fr (oneB R) w w2) (hR : R < w.heap.size) (hZ : w.heap.size ≤ Z) (x y z u : Value) :
    RAt ((((w2.setCell ⟨Z, 0, none⟩ x).setCell ⟨Z, 1, none⟩ y).setCell ⟨Z, 2, none⟩ z).setCell ⟨Z, 3, none⟩ u) R s ∧ Fr (oneB R) w ((((w2.setCell ⟨Z, 0, none⟩ x).setCell ⟨Z, 1, none⟩ y).setCell ⟨Z, 2, none⟩ z).setCell ⟨Z, 3, none⟩ u) :=
  ⟨(((hr.far (p := ⟨Z, 0, none⟩) (by show R ≠ Z; omega) x).far (p := ⟨Z, 1, none⟩) (by show R ≠ Z; omega) y).far (p := ⟨Z, 2, none⟩) (by show R ≠ Z; omega) z).far (p := ⟨Z, 3, none⟩) (by show R ≠ Z; omega) u,
    (((f.setAt (.inr hZ) x).setAt (.inr hZ) y).setAt (.inr hZ) z).setAt (.inr hZ) u⟩
set_option maxHeartbeats 6400000 in
theorem item1_any (N : Nat) : ∀ (q deep : Nat) (w : World) (P V R : Nat) (s : List UInt8), q < N → deep + q = 17 → q ≤ 16 → Has w P 104 #[.pointer (some ⟨R, 0, none⟩)] → Has w V 113 #[.func (.func 59) #[] #[.pointer (some ⟨P, 0, none⟩), .pointer (some ⟨V, 0, none⟩)]] → RAt w R s → s.length ≤ 100000 →
    Calls Tryd.prog 59 #[.int .i64 (deep : Int), .pointer (some ⟨P, 0, none⟩), .pointer (some ⟨V, 0, none⟩)] w (ItemPost q w R s) := by
  induction N with
  | zero => intro q deep w P V R s h; omega
  | succ N ih =>
    intro q deep w P V R s hN hdq hq hP hV hR hs
    have HRW := Lib.hid hR.lt
    have HPR : Hid (P ≠ R) := Lib.hid (hP.apart hR (by decide))
    have HVR : Hid (V ≠ R) := Lib.hid (hV.apart hR (by decide))
    have HPP := Lib.hid hP
    have HVV := Lib.hid hV
    have HS := Lib.hid hs
    have HIH := Lib.hid ih
    have HN := Lib.hid hN
    have HDQ := Lib.hid hdq
    have hdb : (deep : Int) ≤ 17 := by omega
    have HRA : Hid (RAt (w.alloc (.cells #[.int .u8 0, .int .i64 0, .string ⟨#[]⟩, .slice none 0 0] 62)) R s) := Lib.hid (hR.alloc _)
    have HFA : Hid (Fr (oneB R) w (w.alloc (.cells #[.int .u8 0, .int .i64 0, .string ⟨#[]⟩, .slice none 0 0] 62))) := Lib.hid ((Fr.refl _ _).alloc _)
    have HZ : Hid (VarI (w.alloc (.cells #[.int .u8 0, .int .i64 0, .string ⟨#[]⟩, .slice none 0 0] 62)) w.heap.size 0 0 [] (.slice none 0 0)) := Lib.hid (Has.of_alloc _ _ _)
    have p0 : (w.alloc (.cells #[.int .u8 0, .int .i64 0, .string ⟨#[]⟩, .slice none 0 0] 62)).cell? ⟨P, 0, none⟩ = some (.pointer (some ⟨R, 0, none⟩)) := (hP.alloc _).cell 0
    clear ih hP hV hR hs hN hdq hq
    cases s with
    | nil =>
      have HT := Lib.hid (take_no _ R [] HRA.out 1 (by decide) (by decide) (by decide))
      rw [show ((1 : Nat) : Int) = 1 from rfl] at HT
      have HC := Lib.hid (rcount_any _ R [] HRA.out (by decide))
      unfold bstr at HT
      go_enter Tryd.func59, Tryd.ntmps59
      go_wp2_with fail
      refine HT.out.mono ?_
      rintro e w' ⟨rfl, rfl⟩
      go_wp2_with fail
      refine HC.out.mono ?_
      rintro e w2 ⟨⟨⟨n, rfl⟩, s', hr2⟩, hf2, hz2⟩
      have HR2 := Lib.hid hr2
      have HF2 : Hid (Fr (oneB R) w w2) := Lib.hid (HFA.out.trans hf2 (fun _ _ h => h))
      have HZ2 : Hid (VarI w2 w.heap.size 0 0 [] (.slice none 0 0)) := Lib.hid (HZ.out.keep hf2 (fun e => by have e : w.heap.size = R := e; have := HRW.out; omega))
      clear hr2 hf2 hz2 p0
      have v0 := HZ2.out.cell 0
      have v1 := HZ2.out.cell 1
      have v2 := HZ2.out.cell 2
      have v3 := HZ2.out.cell 3
      have f0 := HZ2.out.free 0
      have f1 := HZ2.out.free 1
      have f2 := HZ2.out.free 2
      have f3 := HZ2.out.free 3
      go_wp2_with fail
      obtain ⟨hx, hf⟩ := var4_set HR2.out HF2.out HRW.out (Nat.le_refl _) (.int .u8 0) (.int .i64 0) (.string ⟨#[]⟩) (.slice none 0 0)
      exact bodyPost_ret (v := .tuple #[.agg #[.int .u8 0, .int .i64 0, .string ⟨#[]⟩, .slice none 0 0], .int .i64 4]) (by simp [results, Tryd.results59, go_sem, v0, v1, v2, v3]) rfl (item_bad (by cases q <;> rfl) hx hf)
    | cons k r =>
      have HT := Lib.hid (take_yes _ R (k :: r) HRA.out 1 (by simp) (by have := HS.out; omega))
      rw [show ((1 : Nat) : Int) = 1 from rfl, show (k :: r).take 1 = [k] from rfl, show (k :: r).drop 1 = r from rfl] at HT
      unfold bstr at HT
      go_enter Tryd.func59, Tryd.ntmps59
      go_wp2_with fail
      refine HT.out.mono ?_
      rintro e w1 ⟨rfl, hr1, hf1, hz1⟩
      have HR1 := Lib.hid hr1
      have HF1 : Hid (Fr (oneB R) w w1) := Lib.hid (HFA.out.trans hf1 (fun _ _ h => h))
      have HZ1 : Hid (VarI w1 w.heap.size 0 0 [] (.slice none 0 0)) := Lib.hid (HZ.out.keep hf1 (fun e => by have e : w.heap.size = R := e; have := HRW.out; omega))
      have HPP1 := Lib.hid (HPP.out.keep HF1.out HPR.out)
      have hz1' : w1.heap.size = w.heap.size + 1 := by rw [hz1]; simp
      clear hr1 hf1 hz1 p0
      have p0 := HPP1.out.cell 0
      have HC := Lib.hid (rcount_any w1 R r HR1.out (by have := HS.out; simp at this; omega))
      unfold CountPost at HC
      cases hc : Ky.readC 0 0 r with
      | none =>
        rw [hc] at HC
        have HP := Lib.hid (readIt_count (q := q) (k := k) hc)
        clear hc hz1'
        go_wp2_with fail
        refine HC.out.mono ?_
        rintro e w2 ⟨⟨⟨n, rfl⟩, s', hr2⟩, hf2, hz2⟩
        have HR2 := Lib.hid hr2
        have HF2 : Hid (Fr (oneB R) w w2) := Lib.hid (HF1.out.trans hf2 (fun _ _ h => h))
        have HZ2 : Hid (VarI w2 w.heap.size 0 0 [] (.slice none 0 0)) := Lib.hid (HZ1.out.keep hf2 (fun e => by have e : w.heap.size = R := e; have := HRW.out; omega))
        clear hr2 hf2 hz2 p0
        have v0 := HZ2.out.cell 0
        have v1 := HZ2.out.cell 1
        have v2 := HZ2.out.cell 2
        have v3 := HZ2.out.cell 3
        have f0 := HZ2.out.free 0
        have f1 := HZ2.out.free 1
        have f2 := HZ2.out.free 2
        have f3 := HZ2.out.free 3
        go_wp2_with fail
        obtain ⟨hx, hf⟩ := var4_set HR2.out HF2.out HRW.out (Nat.le_refl _) (.int .u8 0) (.int .i64 0) (.string ⟨#[]⟩) (.slice none 0 0)
        exact bodyPost_ret (v := .tuple #[.agg #[.int .u8 0, .int .i64 0, .string ⟨#[]⟩, .slice none 0 0], .int .i64 4]) (by simp [results, Tryd.results59, go_sem, v0, v1, v2, v3]) rfl (item_bad HP.out hx hf)
      | some y =>
        obtain ⟨x, r2⟩ := y
        rw [hc] at HC
        have HCC := Lib.hid hc
        have hxl := (Ky.readC_whole hc).2
        have hrl : r2.length < r.length := by
          have h1 := (Ky.readC_whole hc).1
          have h2 := Ky.cnt_ne x
          have h3 := congrArg List.length h1
          rw [List.length_append] at h3
          have h4 : 0 < (Ky.cnt x).length := List.length_pos_iff.2 h2
          omega
        have HRL := Lib.hid hrl
        clear hc hrl
        go_wp2_with fail
        refine HC.out.mono ?_
        rintro e w2 ⟨⟨rfl, hr2⟩, hf2, hz2⟩
        have HR2 := Lib.hid hr2
        have HF2 : Hid (Fr (oneB R) w w2) := Lib.hid (HF1.out.trans hf2 (fun _ _ h => h))
        have HZ2 : Hid (VarI w2 w.heap.size 0 0 [] (.slice none 0 0)) := Lib.hid (HZ1.out.keep hf2 (fun e => by have e : w.heap.size = R := e; have := HRW.out; omega))
        have hX : w2.heap.size = w.heap.size + 1 := by rw [hz2, hz1']
        clear hr2 hf2 hz2 p0 hz1'
        have hix := byte_at [k] 0 (by simp) k rfl
        have hk256 : (k.toNat : Int) < 256 := by have := k.toNat_lt; omega
        -- the item's variable
        have HX3 : Hid (VarI (w2.alloc (.cells #[.int .u8 (k.toNat : Int), .int .i64 0, .string ⟨#[]⟩, .slice none 0 0] 62)) (w.heap.size + 1) k 0 [] (.slice none 0 0)) := Lib.hid (by have := Has.of_alloc w2 62 #[.int .u8 (k.toNat : Int), .int .i64 0, .string ⟨#[]⟩, .slice none 0 0]; rw [hX] at this; exact this)
        have HR3 : Hid (RAt (w2.alloc (.cells #[.int .u8 (k.toNat : Int), .int .i64 0, .string ⟨#[]⟩, .slice none 0 0] 62)) R r2) := Lib.hid (HR2.out.alloc _)
        have HF3 : Hid (Fr (oneB R) w (w2.alloc (.cells #[.int .u8 (k.toNat : Int), .int .i64 0, .string ⟨#[]⟩, .slice none 0 0] 62))) := Lib.hid (HF2.out.alloc _)
        have HZ3 : Hid (VarI (w2.alloc (.cells #[.int .u8 (k.toNat : Int), .int .i64 0, .string ⟨#[]⟩, .slice none 0 0] 62)) w.heap.size 0 0 [] (.slice none 0 0)) := Lib.hid (HZ2.out.alloc _)
        have HS3 : Hid ((w2.alloc (.cells #[.int .u8 (k.toNat : Int), .int .i64 0, .string ⟨#[]⟩, .slice none 0 0] 62)).heap.size = w.heap.size + 2) := Lib.hid (by simp [hX])
        go_upto_region 6 with fail
        generalize (w2.alloc (.cells #[.int .u8 (k.toNat : Int), .int .i64 0, .string ⟨#[]⟩, .slice none 0 0] 62)) = w3 at *
        clear hix hX
        have x0 := HX3.out.cell 0
        have x1 := HX3.out.cell 1
        have x2 := HX3.out.cell 2
        have x3 := HX3.out.cell 3
        have g1 := HX3.out.free 1
        have g2 := HX3.out.free 2
        have z0 := HZ3.out.cell 0
        have z1 := HZ3.out.cell 1
        have z2 := HZ3.out.cell 2
        have z3 := HZ3.out.cell 3
        have f0 := HZ3.out.free 0
        have f1 := HZ3.out.free 1
        have f2 := HZ3.out.free 2
        have f3 := HZ3.out.free 3
        have e1 := u8_eq k 1
        have e2 := u8_eq k 2
        have e3 := u8_eq k 3
        by_cases h1 : k = 1
        · subst h1
          have HU := Lib.hid (fun W => unfolded_any W x hxl)
          have HP := Lib.hid (readIt_num (q := q) HCC.out)
          clear e1 e2 e3
          go_wp2_with fail
          refine (HU.out _).mono ?_
          rintro e w' ⟨rfl, rfl⟩
          go_upto_region 25 with fail
          have HX5 : Hid (VarI (w3.setCell ⟨w.heap.size + 1, 1, none⟩ (.int .i64 (Ky.unfolded x))) (w.heap.size + 1) 1 (Ky.unfolded x) [] (.slice none 0 0)) := Lib.hid (HX3.out.set 1 _)
          have HZ5 : Hid (VarI (w3.setCell ⟨w.heap.size + 1, 1, none⟩ (.int .i64 (Ky.unfolded x))) w.heap.size 0 0 [] (.slice none 0 0)) := Lib.hid (HZ3.out.far (p := ⟨w.heap.size + 1, 1, none⟩) (by show w.heap.size ≠ w.heap.size + 1; omega) _)
          have HR5 : Hid (RAt (w3.setCell ⟨w.heap.size + 1, 1, none⟩ (.int .i64 (Ky.unfolded x))) R r2) := Lib.hid (HR3.out.far (p := ⟨w.heap.size + 1, 1, none⟩) (by have := HRW.out; show R ≠ w.heap.size + 1; omega) _)
          have HF5 : Hid (Fr (oneB R) w (w3.setCell ⟨w.heap.size + 1, 1, none⟩ (.int .i64 (Ky.unfolded x)))) := Lib.hid (HF3.out.setAt (.inr (Nat.le_succ _)) _)
          generalize (w3.setCell ⟨w.heap.size + 1, 1, none⟩ (.int .i64 (Ky.unfolded x))) = w5 at *
          clear x0 x1 x2 x3 g1 g2 z0 z1 z2 z3 f0 f1 f2 f3
          have x0 := HX5.out.cell 0
          have x1 := HX5.out.cell 1
          have x2 := HX5.out.cell 2
          have x3 := HX5.out.cell 3
          have z0 := HZ5.out.cell 0
          have z1 := HZ5.out.cell 1
          have z2 := HZ5.out.cell 2
          have z3 := HZ5.out.cell 3
          have f0 := HZ5.out.free 0
          have f1 := HZ5.out.free 1
          have f2 := HZ5.out.free 2
          have f3 := HZ5.out.free 3
          unfold bstr at x2 z2
          go_wp2_with fail
          obtain ⟨hx, hf⟩ := var4_set HR5.out HF5.out HRW.out (Nat.le_refl _) (.int .u8 1) (.int .i64 (Ky.unfolded x)) (.string ⟨#[]⟩) (.slice none 0 0)
          exact bodyPost_ret (v := .tuple #[.agg #[.int .u8 1, .int .i64 (Ky.unfolded x), .string ⟨#[]⟩, .slice none 0 0], .int .i64 0]) (by simp [results, Tryd.results59, go_sem, z0, z1, z2, z3]) rfl (item_ok (sub := .nil) HP.out (SlX.nil _ _ _) hx hf)
        · by_cases h2 : k = 2
          · subst h2
            by_cases hl : r2.length < x
            · have HT2 := Lib.hid (take_no w3 R r2 HR3.out x hxl hl (by have := HRL.out; have := HS.out; simp at this; omega))
              have HP := Lib.hid (readIt_short (q := q) HCC.out hl)
              have q0 := (HPP.out.keep HF3.out HPR.out).cell 0
              clear e1 e2 e3 hl h1
              unfold bstr at HT2
              go_wp2_with fail
              refine HT2.out.mono ?_
              rintro e w' ⟨rfl, rfl⟩
              go_wp2_with fail
              obtain ⟨hx, hf⟩ := var4_set HR3.out HF3.out HRW.out (Nat.le_refl _) (.int .u8 0) (.int .i64 0) (.string ⟨#[]⟩) (.slice none 0 0)
              exact bodyPost_ret (v := .tuple #[.agg #[.int .u8 0, .int .i64 0, .string ⟨#[]⟩, .slice none 0 0], .int .i64 4]) (by simp [results, Tryd.results59, go_sem, z0, z1, z2, z3]) rfl (item_bad HP.out hx hf)
            · have HT2 := Lib.hid (take_yes w3 R r2 HR3.out x (by omega) (by have := HRL.out; have := HS.out; simp at this; omega))
              have HP := Lib.hid (readIt_text (q := q) HCC.out hl)
              have q0 := (HPP.out.keep HF3.out HPR.out).cell 0
              have HK := Lib.hid (fun W => clone_any W (r2.take x) (by have := HRL.out; have := HS.out; simp at this; rw [List.length_take]; omega))
              generalize r2.take x = a at *
              generalize r2.drop x = r4 at *
              clear e1 e2 e3 hl h1
              unfold bstr at HT2 HK
              go_wp2_with fail
              refine HT2.out.mono ?_
              rintro e w4 ⟨rfl, hr4, hf4, hz4⟩
              have HR4 := Lib.hid hr4
              have HF4 : Hid (Fr (oneB R) w w4) := Lib.hid (HF3.out.trans hf4 (fun _ _ h => h))
              have HZ4 : Hid (VarI w4 w.heap.size 0 0 [] (.slice none 0 0)) := Lib.hid (HZ3.out.keep hf4 (fun e => by have e : w.heap.size = R := e; have := HRW.out; omega))
              have HX4 : Hid (VarI w4 (w.heap.size + 1) 2 0 [] (.slice none 0 0)) := Lib.hid (HX3.out.keep hf4 (fun e => by have e : w.heap.size + 1 = R := e; have := HRW.out; omega))
              clear hr4 hf4 hz4 x0 x1 x2 x3 g1 g2 z0 z1 z2 z3 f0 f1 f2 f3 q0
              go_wp2_with fail
              refine (HK.out _).mono ?_
              rintro e w5 ⟨rfl, hb5⟩
              have HR6 := Lib.hid (HR4.out.keep (Fr.of_below hb5 noB) (fun e => e))
              have HF6 : Hid (Fr (oneB R) w w5) := Lib.hid (fr_below HF4.out (hb5.mono HF4.out.size))
              have HZ6 := Lib.hid (HZ4.out.keep (Fr.of_below hb5 noB) (fun e => e))
              have HX6 := Lib.hid (HX4.out.keep (Fr.of_below hb5 noB) (fun e => e))
              clear hb5
              have y2 := HX6.out.cell 2
              have g2 := HX6.out.free 2
              go_upto_region 25 with fail
              have HX5 : Hid (VarI (w5.setCell ⟨w.heap.size + 1, 2, none⟩ (.string ⟨a.toArray⟩)) (w.heap.size + 1) 2 0 a (.slice none 0 0)) := Lib.hid (HX6.out.set 2 _)
              have HZ5 : Hid (VarI (w5.setCell ⟨w.heap.size + 1, 2, none⟩ (.string ⟨a.toArray⟩)) w.heap.size 0 0 [] (.slice none 0 0)) := Lib.hid (HZ6.out.far (p := ⟨w.heap.size + 1, 2, none⟩) (by show w.heap.size ≠ w.heap.size + 1; omega) _)
              have HR5 : Hid (RAt (w5.setCell ⟨w.heap.size + 1, 2, none⟩ (.string ⟨a.toArray⟩)) R r4) := Lib.hid (HR6.out.far (p := ⟨w.heap.size + 1, 2, none⟩) (by have := HRW.out; show R ≠ w.heap.size + 1; omega) _)
              have HF5 : Hid (Fr (oneB R) w (w5.setCell ⟨w.heap.size + 1, 2, none⟩ (.string ⟨a.toArray⟩))) := Lib.hid (HF6.out.setAt (.inr (Nat.le_succ _)) _)
              generalize (w5.setCell ⟨w.heap.size + 1, 2, none⟩ (.string ⟨a.toArray⟩)) = w7 at *
              clear y2 g2
              have x0 := HX5.out.cell 0
              have x1 := HX5.out.cell 1
              have x2 := HX5.out.cell 2
              have x3 := HX5.out.cell 3
              have z0 := HZ5.out.cell 0
              have z1 := HZ5.out.cell 1
              have z2 := HZ5.out.cell 2
              have z3 := HZ5.out.cell 3
              have f0 := HZ5.out.free 0
              have f1 := HZ5.out.free 1
              have f2 := HZ5.out.free 2
              have f3 := HZ5.out.free 3
              unfold bstr at x2 z2
              go_wp2_with fail
              obtain ⟨hx, hf⟩ := var4_set HR5.out HF5.out HRW.out (Nat.le_refl _) (.int .u8 2) (.int .i64 0) (.string ⟨a.toArray⟩) (.slice none 0 0)
              exact bodyPost_ret (v := .tuple #[.agg #[.int .u8 2, .int .i64 0, .string ⟨a.toArray⟩, .slice none 0 0], .int .i64 0]) (by simp [results, Tryd.results59, go_sem, z0, z1, z2, z3]) rfl (item_ok (sub := .nil) HP.out (SlX.nil _ _ _) hx hf)
          · by_cases h3 : k = 3
            · subst h3
              clear e1 e2 e3 h1 h2 x1 x2 g1 g2
              by_cases hd16 : 16 < deep
              · have hd16' : (16 : Int) < (deep : Int) := by omega
                obtain rfl : q = 0 := by have := HDQ.out; omega
                have HP := Lib.hid (readIt_deep HCC.out)
                clear hd16
                go_wp2_with fail
                obtain ⟨hx, hf⟩ := var4_set HR3.out HF3.out HRW.out (Nat.le_refl _) (.int .u8 0) (.int .i64 0) (.string ⟨#[]⟩) (.slice none 0 0)
                exact bodyPost_ret (v := .tuple #[.agg #[.int .u8 0, .int .i64 0, .string ⟨#[]⟩, .slice none 0 0], .int .i64 84]) (by simp [results, Tryd.results59, go_sem, z0, z1, z2, z3]) rfl (item_bad HP.out hx hf)
              · have hd16' : ¬ ((16 : Int) < (deep : Int)) := by omega
                obtain ⟨q', rfl⟩ : ∃ q', q = q' + 1 := ⟨q - 1, by have := HDQ.out; omega⟩
                have hxi : (x : Int) < 18446744073709551616 := by omega
                have hr2l : r2.length ≤ 100000 := by have := HRL.out; have := HS.out; simp at this; omega
                have HR2L := Lib.hid hr2l
                clear hd16 z0 z1 z2 z3 f0 f1 f2 f3 hr2l
                go_wp2_with fail
                clear x0 x3
                go_loopw [63] (fun i wr => ∃ (j : Nat) (d : Its) (l : List UInt8) (v : Value), i = .int .u64 (j : Int) ∧ j ≤ x ∧ Hid (d.len = j ∧ joinL .nil (Ky.readL (Ky.readIt q') x r2) = joinL d (Ky.readL (Ky.readIt q') (x - j) l) ∧ l.length + j ≤ r2.length ∧ RAt wr R l ∧ OwnI 62 wr (w.heap.size + 2) v d ∧ VarI wr (w.heap.size + 1) 3 0 [] v ∧ VarI wr w.heap.size 0 0 [] (.slice none 0 0) ∧ Fr (oneB R) w wr ∧ w.heap.size + 2 ≤ wr.heap.size)) (fun i _ => 100001 - (intOf i).toNat)
                case atStart => exact ⟨0, .nil, r2, .slice none 0 0, rfl, Nat.zero_le _, Lib.hid ⟨rfl, rfl, Nat.le_refl _, HR3.out, OwnI.nil _ _ _, HX3.out, HZ3.out, HF3.out, by rw [HS3.out]; exact Nat.le_refl _⟩⟩
                case round =>
                  rename World => wr
                  obtain ⟨j, d, l, v, rfl, hjx, HL⟩ := hrel
                  have HR5 : Hid (RAt wr R l) := Lib.hid HL.out.2.2.2.1
                  have HO5 : Hid (OwnI 62 wr (w.heap.size + 2) v d) := Lib.hid HL.out.2.2.2.2.1
                  have HX5 : Hid (VarI wr (w.heap.size + 1) 3 0 [] v) := Lib.hid HL.out.2.2.2.2.2.1
                  have HZ5 : Hid (VarI wr w.heap.size 0 0 [] (.slice none 0 0)) := Lib.hid HL.out.2.2.2.2.2.2.1
                  have HF5 : Hid (Fr (oneB R) w wr) := Lib.hid HL.out.2.2.2.2.2.2.2.1
                  have HB5 : Hid (w.heap.size + 2 ≤ wr.heap.size) := Lib.hid HL.out.2.2.2.2.2.2.2.2
                  have hjb : (j : Int) ≤ 100000 := by have := HL.out.2.2.1; have := HR2L.out; omega
                  obtain ⟨Av, cv, rfl, hcv, hsl⟩ := HO5.out.form
                  have HSL := Lib.hid hsl
                  clear hsl hcv
                  by_cases hjlt : j < x
                  · have hjlt' : (j : Int) < (x : Int) := by omega
                    have hv0 := (HVV.out.keep HF5.out HVR.out).cell 0
                    have HI := Lib.hid (HIH.out q' (deep + 1) wr P V R l (by have := HN.out; omega) (by have := HDQ.out; omega) (by have := HDQ.out; omega) (HPP.out.keep HF5.out HPR.out) (HVV.out.keep HF5.out HVR.out) HR5.out (by have := HL.out.2.2.1; have := HR2L.out; omega))
                    rw [show ((deep + 1 : Nat) : Int) = (deep : Int) + 1 by omega] at HI
                    unfold ItemPost itemV bstr at HI
                    cases hi : Ky.readIt q' l with
                    | error c =>
                      rw [hi] at HI
                      have hcn : (c != 0) = true := by simpa using readIt_err q' l c hi
                      have hcn2 : ¬ (c = 0) := by simpa using hcn
                      have HP : Hid (Ky.readIt (q' + 1) (3 :: r) = .error c) := Lib.hid (readIt_list_bad HCC.out (by
                        have h := HL.out.2.1
                        rw [joinL_nil, show x - j = (x - (j + 1)) + 1 by omega, joinL_bad hi] at h
                        exact h))
                      clear hi hjlt
                      go_wp2_with fail
                      refine HI.out.mono ?_
                      rintro e w4 ⟨⟨rfl, s', hr4⟩, hf4⟩
                      have HR4 : Hid (RAt (w4.alloc (.cells #[.int .u8 0, .int .i64 0, .string ⟨#[]⟩, .slice none 0 0] 62)) R s') := Lib.hid (hr4.alloc _)
                      have HF4 : Hid (Fr (oneB R) w (w4.alloc (.cells #[.int .u8 0, .int .i64 0, .string ⟨#[]⟩, .slice none 0 0] 62))) := Lib.hid ((HF5.out.trans hf4 (fun _ _ h => h)).alloc _)
                      have HZ4 : Hid (VarI (w4.alloc (.cells #[.int .u8 0, .int .i64 0, .string ⟨#[]⟩, .slice none 0 0] 62)) w.heap.size 0 0 [] (.slice none 0 0)) := Lib.hid ((HZ5.out.keep hf4 (fun e => by have e : w.heap.size = R := e; have := HRW.out; omega)).alloc _)
                      clear hr4 hf4 hv0
                      go_upto_region 21 with fail
                      generalize (w4.alloc (.cells #[.int .u8 0, .int .i64 0, .string ⟨#[]⟩, .slice none 0 0] 62)) = w5 at *
                      have z0 := HZ4.out.cell 0
                      have z1 := HZ4.out.cell 1
                      have z2 := HZ4.out.cell 2
                      have z3 := HZ4.out.cell 3
                      have f0 := HZ4.out.free 0
                      have f1 := HZ4.out.free 1
                      have f2 := HZ4.out.free 2
                      have f3 := HZ4.out.free 3
                      unfold bstr at z2
                      go_wp2_with fail
                      obtain ⟨hx, hf⟩ := var4_set HR4.out HF4.out HRW.out (Nat.le_refl _) (.int .u8 0) (.int .i64 0) (.string ⟨#[]⟩) (.slice none 0 0)
                      exact bodyPost_ret (v := .tuple #[.agg #[.int .u8 0, .int .i64 0, .string ⟨#[]⟩, .slice none 0 0], .int .i64 c]) (by simp [results, Tryd.results59, go_sem, z0, z1, z2, z3]) rfl (item_bad HP.out hx hf)
                    | ok y =>
                      obtain ⟨⟨k', n', a', sub'⟩, l'⟩ := y
                      rw [hi] at HI
                      have HLT : Hid (l'.length < l.length) := Lib.hid (by
                        have h := (Ky.readIt_back q' (by have := HDQ.out; omega) l k' n' a' sub' l' hi).1
                        rw [h]
                        simp
                        omega)
                      have HJ : Hid (joinL .nil (Ky.readL (Ky.readIt q') x r2) = joinL (Its.app d (one k' n' a' sub')) (Ky.readL (Ky.readIt q') (x - (j + 1)) l')) := Lib.hid (by
                        have h := HL.out.2.1
                        rw [show x - j = (x - (j + 1)) + 1 by omega, joinL_step hi] at h
                        exact h)
                      clear hi
                      go_wp2_with fail
                      refine HI.out.mono ?_
                      rintro e w4 ⟨⟨⟨A4, c4, rfl, hs4⟩, hr4⟩, hf4⟩
                      have hRB : ∀ k, oneB R k → k < w.heap.size + 2 := fun k e => by have e : k = R := e; have := HRW.out; omega
                      have ho4 : OwnI 62 w4 (w.heap.size + 2) (.slice Av d.len cv) d := HO5.out.fr hf4 hRB
                      have hx4 : VarI w4 (w.heap.size + 1) 3 0 [] (.slice Av d.len cv) := HX5.out.keep hf4 (fun e => by have e : w.heap.size + 1 = R := e; have := HRW.out; omega)
                      have hz4 : VarI w4 w.heap.size 0 0 [] (.slice none 0 0) := HZ5.out.keep hf4 (fun e => by have e : w.heap.size = R := e; have := HRW.out; omega)
                      have hF4 : Fr (oneB R) w w4 := HF5.out.trans hf4 (fun _ _ h => h)
                      have HS4 := Lib.hid hs4
                      have HO4 := Lib.hid ho4
                      have HX4 := Lib.hid hx4
                      have HZ4 := Lib.hid hz4
                      have HF4 := Lib.hid hF4
                      have HR4 := Lib.hid hr4
                      have HB4 : Hid (wr.heap.size ≤ w4.heap.size) := Lib.hid hf4.size
                      clear hs4 hr4 hf4 hv0 ho4 hx4 hz4 hF4 hRB
                      go_upto_region 23 with fail
                      have hh := Has.of_alloc w4 62 #[.int .u8 (k'.toNat : Int), .int .i64 n', .string ⟨a'.toArray⟩, .slice A4 sub'.len c4]
                      have HBW : Hid (Below w4.heap.size w4 (w4.alloc (.cells #[.int .u8 (k'.toNat : Int), .int .i64 n', .string ⟨a'.toArray⟩, .slice A4 sub'.len c4] 62))) := Lib.hid ((Below.refl _ _).alloc (Nat.le_refl _) _)
                      have HX6 : Hid (VarI (w4.alloc (.cells #[.int .u8 (k'.toNat : Int), .int .i64 n', .string ⟨a'.toArray⟩, .slice A4 sub'.len c4] 62)) (w.heap.size + 1) 3 0 [] (.slice Av d.len cv)) := Lib.hid (HX4.out.alloc _)
                      generalize (w4.alloc (.cells #[.int .u8 (k'.toNat : Int), .int .i64 n', .string ⟨a'.toArray⟩, .slice A4 sub'.len c4] 62)) = w5 at *
                      have x3 := HX6.out.cell 3
                      have y0 := hh.cell 0
                      have y1 := hh.cell 1
                      have y2 := hh.cell 2
                      have y3 := hh.cell 3
                      have HB6 : Hid (Below w4.heap.size w4 (w5.alloc (.cells #[.int .u8 (k'.toNat : Int), .int .i64 n', .string ⟨a'.toArray⟩, .slice A4 sub'.len c4] 62))) := Lib.hid (HBW.out.alloc HBW.out.size _)
                      have HX7 : Hid (VarI (w5.alloc (.cells #[.int .u8 (k'.toNat : Int), .int .i64 n', .string ⟨a'.toArray⟩, .slice A4 sub'.len c4] 62)) (w.heap.size + 1) 3 0 [] (.slice Av d.len cv)) := Lib.hid (HX6.out.alloc _)
                      have HO6 : Hid (OwnI 62 (w5.alloc (.cells #[.int .u8 (k'.toNat : Int), .int .i64 n', .string ⟨a'.toArray⟩, .slice A4 sub'.len c4] 62)) (w.heap.size + 2) (.slice Av d.len cv) d) := Lib.hid (HO4.out.below HB6.out)
                      obtain ⟨xs, hq1, hq2⟩ := HO6.out.row
                      have HQ1 := Lib.hid hq1
                      have HQ2 := Lib.hid hq2
                      have HS6 : Hid (SlX (w5.alloc (.cells #[.int .u8 (k'.toNat : Int), .int .i64 n', .string ⟨a'.toArray⟩, .slice A4 sub'.len c4] 62)) (InX (w5.alloc (.cells #[.int .u8 (k'.toNat : Int), .int .i64 n', .string ⟨a'.toArray⟩, .slice A4 sub'.len c4] 62)) (w.heap.size + 2) (.slice Av d.len cv)) A4 sub') := Lib.hid (HS4.out.keep (fun b hb => ⟨by have := hb.1; have := HB5.out; omega, by have := hb.2; have := HB6.out.size; omega, fun e => by have := (HO5.out.lt b e).2; have := hb.1; omega⟩) (fun b hb => HB6.out.block b hb.2))
                      have HH6 := Lib.hid (Has.of_alloc w5 62 #[.int .u8 (k'.toNat : Int), .int .i64 n', .string ⟨a'.toArray⟩, .slice A4 sub'.len c4])
                      have HDL : Hid (d.len = j) := Lib.hid HL.out.1
                      clear hh hq1 hq2
                      go_wp2_with (refine wpList_append_row eltI rfl (.tmp 77) (.tmp 79) rfl (w.heap.size + 2) _ d.len xs rfl HQ1.out w5.heap.size [.int .u8 (k'.toNat : Int), .int .i64 n', .string ⟨a'.toArray⟩, .slice A4 sub'.len c4] rfl HH6.out rfl (fun u hu => by simp at hu; rcases hu with rfl | rfl | rfl | rfl <;> rfl) (by have := HDL.out; omega) (by decide) (by have := HB6.out.size; have := HB4.out; have := HB5.out; omega) ?_; intro g' cap w7 O7 F7 G7 Z7; have HX8 := Lib.hid (HX7.out.keep F7.out (fun e => by have := (HO6.out.lt _ e).1; omega)); have x7 := HX8.out.cell 3; have fx7 := HX8.out.free 3)
                      have hF6 : Fr (oneB R) w (w5.alloc (.cells #[.int .u8 (k'.toNat : Int), .int .i64 n', .string ⟨a'.toArray⟩, .slice A4 sub'.len c4] 62)) := fr_below HF4.out (HB6.out.mono HF4.out.size)
                      have HF7 : Hid (Fr (oneB R) w w7) := Lib.hid (hF6.trans F7.out (fun x hx ho => by have := (HO6.out.lt x ho).1; omega))
                      have HR7 : Hid (RAt w7 R l') := Lib.hid ((HR4.out.keep (Fr.of_below HB6.out noB) (fun e => e)).keep F7.out (fun e => by have := (HO6.out.lt _ e).1; have := HRW.out; omega))
                      have HZ7 : Hid (VarI w7 w.heap.size 0 0 [] (.slice none 0 0)) := Lib.hid ((HZ4.out.keep (Fr.of_below HB6.out noB) (fun e => e)).keep F7.out (fun e => by have := (HO6.out.lt _ e).1; omega))
                      have HO7 : Hid (OwnI 62 w7 (w.heap.size + 2) (.slice (some ⟨g', 0, none⟩) (d.len + 1) cap) (Its.app d (one k' n' a' sub'))) := Lib.hid (OwnI.snoc HQ2.out HS6.out O7.out F7.out (by
                        rcases G7.out with h | h
                        · exact .inl h.symm
                        · exact .inr (congrArg some h)))
                      have HW7 : Hid (w.heap.size + 2 ≤ w7.heap.size) := Lib.hid (by have := F7.out.size; have := HB6.out.size; have := HB4.out; have := HB5.out; omega)
                      clear hF6
                      go_roundw
                      case rel =>
                        refine ⟨j + 1, Its.app d (one k' n' a' sub'), l', .slice (some ⟨g', 0, none⟩) (d.len + 1) cap, by go_num, by omega, Lib.hid ⟨?_, HJ.out, by have := HLT.out; have := HL.out.2.2.1; omega, HR7.out.far (p := ⟨w.heap.size + 1, 3, none⟩) (by have := HRW.out; show R ≠ w.heap.size + 1; omega) _, HO7.out.fr (S := oneB (w.heap.size + 1)) ((Fr.refl _ _).put _) (fun k e => by have e : k = w.heap.size + 1 := e; omega), HX8.out.set 3 _, HZ7.out.far (p := ⟨w.heap.size + 1, 3, none⟩) (by show w.heap.size ≠ w.heap.size + 1; omega) _, HF7.out.setAt (.inr (Nat.le_succ _)) _, by simpa using HW7.out⟩⟩
                        rw [Its.app_len, HDL.out]
                        rfl
                      case measure => (simp [intOf]) <;> omega
                  · obtain rfl : j = x := by omega
                    have HP : Hid (Ky.readIt (q' + 1) (3 :: r) = .ok ((3, 0, [], d), l)) := Lib.hid (readIt_list_ok HCC.out (by
                      have h := HL.out.2.1
                      rw [joinL_nil, Nat.sub_self] at h
                      rw [h, Ky.readL, joinL, Its.app_nil]))
                    clear hjlt
                    have x0 := HX5.out.cell 0
                    have x1 := HX5.out.cell 1
                    have x2 := HX5.out.cell 2
                    have x3 := HX5.out.cell 3
                    have z0 := HZ5.out.cell 0
                    have z1 := HZ5.out.cell 1
                    have z2 := HZ5.out.cell 2
                    have z3 := HZ5.out.cell 3
                    have f0 := HZ5.out.free 0
                    have f1 := HZ5.out.free 1
                    have f2 := HZ5.out.free 2
                    have f3 := HZ5.out.free 3
                    unfold bstr at x2 z2
                    go_wp2_with fail
                    obtain ⟨hx, hf⟩ := var4_set HR5.out HF5.out HRW.out (Nat.le_refl _) (.int .u8 3) (.int .i64 0) (.string ⟨#[]⟩) (.slice Av d.len cv)
                    have F4 : Fr (oneB w.heap.size) wr ((((wr.setCell ⟨w.heap.size, 0, none⟩ (.int .u8 3)).setCell ⟨w.heap.size, 1, none⟩ (.int .i64 0)).setCell ⟨w.heap.size, 2, none⟩ (.string ⟨#[]⟩)).setCell ⟨w.heap.size, 3, none⟩ (.slice Av d.len cv)) := ((((Fr.refl _ _).put _).put _).put _).put _
                    exact bodyPost_ret (v := .tuple #[.agg #[.int .u8 3, .int .i64 0, .string ⟨#[]⟩, .slice Av d.len cv], .int .i64 0]) (by simp [results, Tryd.results59, go_sem, z0, z1, z2, z3]) rfl (item_ok (sub := d) HP.out (HSL.out.keep (fun g hg => ⟨by have := hg.1; omega, by have := hg.2; have := F4.size; omega⟩) (fun g hg => F4.old g hg.2 (fun e => by have e : g = w.heap.size := e; have := hg.1; omega))) hx hf)
            · have HP := Lib.hid (readIt_else (q := q) HCC.out h1 h2 h3)
              rw [decide_eq_false h1] at e1
              rw [decide_eq_false h2] at e2
              rw [decide_eq_false h3] at e3
              have e1 : ((k.toNat : Int) == 1) = false := e1
              have e2 : ((k.toNat : Int) == 2) = false := e2
              have e3 : ((k.toNat : Int) == 3) = false := e3
              clear h1 h2 h3
              go_wp2_with fail
              obtain ⟨hx, hf⟩ := var4_set HR3.out HF3.out HRW.out (Nat.le_refl _) (.int .u8 0) (.int .i64 0) (.string ⟨#[]⟩) (.slice none 0 0)
              exact bodyPost_ret (v := .tuple #[.agg #[.int .u8 0, .int .i64 0, .string ⟨#[]⟩, .slice none 0 0], .int .i64 4]) (by simp [results, Tryd.results59, go_sem, z0, z1, z2, z3]) rfl (item_bad HP.out hx hf)
end Go.Proofs.YtfbdikaaeedeoaaDoor

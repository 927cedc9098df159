/-
  The document's bytes of a record: items, one by one; Encode.
-/
import Derived.Test.YtfbdikaaeedeoaaDoorKRefI
import Derived.Test.YtfbdikaaeedeoaaDoorKEnc
namespace Go.Proofs.YtfbdikaaeedeoaaDoor
open Go.RowKit Go.Maps
open Ky (Its)
set_option maxRecDepth 100000

/-- the bytes behind d, or the refusal; nothing old is turned but d's own block -/
def IPost (B : Nat) (w : World) (v : Value) (d : List UInt8) (t : Its) (D : Nat) (e : Ending) (w' : World) : Prop :=
  (if Ky.encE D t = 0 then ∃ v', e = .returned (.tuple #[v', .int .i64 0]) ∧ OwnV w' B v' (d ++ Ky.encB t) ∧ NewB w v v' else e = .returned (.tuple #[.slice none 0 0, .int .i64 (Ky.encE D t)])) ∧ Fr (fun k => v.ownBlock = some k) w w'
theorem ipost_ok {B D : Nat} {w w' : World} {d : List UInt8} {t : Its} {v v' : Value} (he : Ky.encE D t = 0) (ho : OwnV w' B v' (d ++ Ky.encB t)) (hn : NewB w v v') (hb : Fr (fun k => v.ownBlock = some k) w w') : IPost B w v d t D (.returned (.tuple #[v', .int .i64 0])) w' := by
  unfold IPost
  rw [if_pos he]
  exact ⟨⟨v', rfl, ho, hn⟩, hb⟩
theorem ipost_bad {B D : Nat} {w w' : World} {d : List UInt8} {t : Its} {v : Value} {c : Int} (he : Ky.encE D t = c) (hc : c ≠ 0) (hb : Fr (fun k => v.ownBlock = some k) w w') : IPost B w v d t D (.returned (.tuple #[.slice none 0 0, .int .i64 c])) w' := by
  unfold IPost
  rw [he, if_neg hc]
  exact ⟨rfl, hb⟩
/-- where the loop stands -/
structure ILoop (B : Nat) (w : World) (v0 : Value) (A : Option Addr) (d : List UInt8) (t : Its) (D : Nat) (v : Value) (j : Nat) (x : List UInt8) (r : Its) (wr : World) : Prop where
  rel : IRel B wr A t j r
  own : OwnV wr B v x
  low : Below B w wr
  fr : Fr (fun k => v0.ownBlock = some k) w wr
  blk : NewB w v0 v
  byt : d ++ Ky.encB t = x ++ Ky.encB r
  err : Ky.encE D t = Ky.encE D r
  len : x.length + 12 * r.weight ≤ 100000000
  fit : r.fits
/-- an item is behind -/
theorem ILoop.next {B D g o j : Nat} {w wr w' : World} {d x : List UInt8} {t sub r : Its} {k : UInt8} {n : Int} {s : List UInt8} {v0 v v' : Value} (h : ILoop B w v0 (some ⟨g, o, none⟩) d t D v j x (.cons k n s sub r) wr) (hg : g < B) (hat : At wr B g (o + j * 4 + 4) r) (hw : t.weight ≤ 1048576) (hB : B ≤ w.heap.size)
    (ho : OwnV w' B v' (x ++ k :: Ky.body k n s sub.len (Ky.encB sub))) (hf : Fr (fun k => v.ownBlock = some k) wr w') (hn : NewB wr v v') (he : Ky.encE D (.cons k n s sub r) = Ky.encE D r) : ILoop B w v0 (some ⟨g, o, none⟩) d t D v' (j + 1) (x ++ k :: Ky.body k n s sub.len (Ky.encB sub)) r w' :=
  have hb : Below B wr w' := hf.below (by have := h.fr.size; omega) (fun k hk => (World.ownsRow.lt h.own k hk).1)
  { rel := IRel.next h.rel hg (hat.below hg hb (Nat.le_refl _))
    own := ho
    low := h.low.trans hb
    fr := h.fr.step h.blk hf
    blk := h.blk.step h.fr.size hn
    byt := by rw [h.byt, Ky.encB]; simp
    err := by rw [h.err, he]
    len := by
      have h1 := h.len
      have h2 := h.fit
      have h3 := h.rel.2.2.1
      simp only [Its.weight] at h1 h3
      have h4 := Ky.body_len (k := k) (s := s) h2.1.1 h2.1.2 (by omega) (by omega) (Ky.encB_len sub h2.2.1 (by omega))
      simp only [List.length_append, List.length_cons]
      omega
    fit := h.fit.2.2 }
theorem ILoop.bad {B D j : Nat} {w wr w' : World} {A : Option Addr} {d x : List UInt8} {t r : Its} {v0 v : Value} {c : Int} (h : ILoop B w v0 A d t D v j x r wr) (he : Ky.encE D r = c) (hc : c ≠ 0) (hf : Fr (fun k => v.ownBlock = some k) wr w') : IPost B w v0 d t D (.returned (.tuple #[.slice none 0 0, .int .i64 c])) w' :=
  ipost_bad (h.err.trans he) hc (h.fr.step h.blk hf)
theorem fold_neg {n : Int} (h : n < 0) (h1 : -9223372036854775808 ≤ n) : bits .xor .u64 (if IntKind.u64.signed = true then -1 else IntKind.u64.max) (IntKind.u64.wrap (IntKind.u64.wrap n * 2)) = (Ky.folded n : Int) := by
  rw [IntKind.wrap_u64, IntKind.wrap_u64, show (n % 18446744073709551616 * 2 % 18446744073709551616 : Int) = (((2 * n + 18446744073709551616).toNat : Nat) : Int) by omega, show (if IntKind.u64.signed = true then (-1 : Int) else IntKind.u64.max) = IntKind.u64.max from rfl, Ky.not_u64 _ (by omega)]
  unfold Ky.folded
  rw [if_pos h]
  omega
theorem fold_pos {n : Int} (h : ¬ n < 0) (h2 : n ≤ 9223372036854775807) : IntKind.u64.wrap (IntKind.u64.wrap n * 2) = (Ky.folded n : Int) := by
  rw [IntKind.wrap_u64, IntKind.wrap_u64]
  unfold Ky.folded
  rw [if_neg h]
  omega
set_option maxHeartbeats 6400000 in
theorem ritems_any (N : Nat) : ∀ (t : Its) (w : World) (B : Nat) (v : Value) (d : List UInt8) (A : Option Addr) (c deep : Nat), t.size < N → t.fits → t.weight ≤ 1048576 → SlAt w B A t → OwnV w B v d → B ≤ w.heap.size → d.length + 12 * t.weight ≤ 100000000 → deep ≤ 16 →
    Calls Tryd.prog 42 #[v, .slice A t.len c, .int .i64 (deep : Int)] w (IPost B w v d t (deep + 1)) := by
  induction N with
  | zero => intro t w B v d A c deep hN; omega
  | succ N ih =>
    intro t w B v0 d A c deep hN hf hw hsl ho hB hlen hd
    have HL0 : Hid (ILoop B w v0 A d t (deep + 1) v0 0 d t w) := Lib.hid ⟨IRel.start hsl, ho, Below.refl _ _, Fr.refl _ _, NewB.refl _ _, rfl, rfl, hlen, hf⟩
    have HN := Lib.hid hN
    have HW := Lib.hid hw
    have HIH := Lib.hid ih
    have HBW := Lib.hid hB
    have HD := Lib.hid hd
    have hlm : (t.len : Int) ≤ 1048576 := by have := Its.len_size t; have := Its.size_weight t; omega
    have hd16 : (deep : Int) ≤ 16 := by omega
    clear ih hsl hN hw hf ho hB hlen hd
    go_enter Tryd.func42, Tryd.ntmps42
    go_wp2_with fail
    go_loopw [0, 8] (fun v i wr => ∃ (j : Nat) (x : List UInt8) (r : Its), i = .int .i64 j ∧ Hid (ILoop B w v0 A d t (deep + 1) v j x r wr)) (fun _ i _ => t.len - (intOf i).toNat)
    case atStart => exact ⟨0, d, t, rfl, HL0⟩
    case round =>
      rename World => wr
      obtain ⟨j, x, r, rfl, HL⟩ := hrel
      obtain ⟨Av, cv, rfl, -, -⟩ := HL.out.own.form
      cases r with
      | nil =>
        have hj : j = t.len := by have := HL.out.rel.1; simpa [Its.len] using this
        subst hj
        have HP : Hid (IPost B w v0 d t (deep + 1) (.returned (.tuple #[.slice Av x.length cv, .int .i64 0])) wr) := Lib.hid (ipost_ok (by rw [HL.out.err]; rfl) (by have h := HL.out.byt; rw [Ky.encB, List.append_nil] at h; rw [h]; exact HL.out.own) HL.out.blk HL.out.fr)
        go_wp2_with fail
        go_ret2
        exact HP.out
      | cons k n s sub r =>
        have hlt : (j : Int) < (t.len : Int) := by have := HL.out.rel.1; simp only [Its.len] at this; omega
        obtain ⟨g, o, rfl, hg, c0, c1, c2, ⟨As, cs, c3, hsub⟩, hat⟩ := HL.out.rel.2.2.2 (by simp)
        have HG := Lib.hid hg
        have HSUB : Hid (SlAt wr B As sub) := Lib.hid hsub
        have HAT := Lib.hid hat
        have hk256 : (k.toNat : Int) < 256 := by have := k.toNat_lt; omega
        clear hsub hat hg
        unfold bstr at c2
        go_upto_region 5 with fail
        have HX4 : Hid (Has (wr.alloc (.cells #[.int .u8 (k.toNat : Int), .int .i64 n, .string ⟨s.toArray⟩, .slice As sub.len cs] 83)) wr.heap.size 83 #[.int .u8 (k.toNat : Int), .int .i64 n, .string ⟨s.toArray⟩, .slice As sub.len cs]) := Lib.hid (Has.of_alloc _ _ _)
        have HB4 : Hid (Below wr.heap.size wr (wr.alloc (.cells #[.int .u8 (k.toNat : Int), .int .i64 n, .string ⟨s.toArray⟩, .slice As sub.len cs] 83))) := Lib.hid ((Below.refl _ _).alloc (Nat.le_refl _) _)
        have HO4 : Hid (OwnV (wr.alloc (.cells #[.int .u8 (k.toNat : Int), .int .i64 n, .string ⟨s.toArray⟩, .slice As sub.len cs] 83)) B (.slice Av x.length cv) x) := Lib.hid (HL.out.own.alloc _)
        generalize (wr.alloc (.cells #[.int .u8 (k.toNat : Int), .int .i64 n, .string ⟨s.toArray⟩, .slice As sub.len cs] 83)) = w4 at *
        generalize hXX : wr.heap.size = X at *
        have HXX := Lib.hid hXX
        clear hXX c0 c1 c2 c3
        have x0 := HX4.out.cell 0
        have HBX : Hid (B ≤ X) := Lib.hid (by have := HL.out.low.size; have := HBW.out; have := HXX.out; omega)
        have HXL : Hid (x.length + 12 * (s.length + sub.weight + 1) ≤ 100000000 ∧ s.length ≤ 1048576 ∧ sub.weight ≤ 1048576) := Lib.hid (by have h1 := HL.out.len; have h2 := HL.out.rel.2.2.1; have := HW.out; simp only [Its.weight] at h1 h2; omega)
        have HOX : Hid (∀ k, (Value.slice Av x.length cv).ownBlock = some k → B ≤ k ∧ k < X) := Lib.hid (by have h := HL.out.own; have h2 := HXX.out; rw [← h2]; exact fun k e => World.ownsRow.lt h k e)
        go_upto_region 6 with (refine wpList_append_vf rfl (.tmp 23) (.tmp 26) rfl B _ x rfl (HO4.out.alloc _) _ (some ⟨w4.heap.size, 0, none⟩) [k] 1 rfl (rd_one w4 _ k rfl) (fun e => by cases e) (by have := HXL.out; simp only [List.length_cons, List.length_nil]; omega) (by have := HB4.out.size; have := HXX.out; have := HBX.out; simp; omega) ?_; intro v6 w6 O6 F6 G6)
        have HX6 := Lib.hid ((HX4.out.alloc _).keep F6.out (fun e => by have := (HOX.out _ e).2; omega))
        have HF6 : Hid (Fr (fun k => (Value.slice Av x.length cv).ownBlock = some k) wr w6) := Lib.hid ((Fr.of_below (by have := HB4.out; rw [← HXX.out] at this; exact this.alloc this.size _) _).trans F6.out (fun _ _ h => h))
        have HN6 : Hid (NewB wr (.slice Av x.length cv) v6) := Lib.hid ((NewB.refl wr _).step (by have := HB4.out.size; simp; omega) G6.out)
        have HB6 : Hid (Below B wr w6) := Lib.hid (HF6.out.below (by have := HXX.out; have := HBX.out; omega) (fun k hk => (HOX.out k hk).1))
        have HV6 : Hid (∀ k, v6.ownBlock = some k → k ≠ X) := Lib.hid (fun k hk => by
          rcases G6.out k hk with h | h
          · have := HOX.out k h
            omega
          · have := HX4.out.lt
            simp at h
            omega)
        have HXB6 : Hid (B ≤ w6.heap.size) := Lib.hid (by have := HB6.out.size; have := HBX.out; have := HXX.out; omega)
        have y0 := HX6.out.cell 0
        have y1 := HX6.out.cell 1
        have y2 := HX6.out.cell 2
        have y3 := HX6.out.cell 3
        clear x0 HX4 HB4 HO4 F6 G6
        have e1 := u8_eq k 1
        have e2 := u8_eq k 2
        have e3 := u8_eq k 3
        by_cases h1 : k = 1
        · subst h1
          clear e1 e2 e3
          by_cases hs0 : s = []
          · subst hs0
            by_cases hm0 : sub.len = 0
            · have HOK : Hid (Ky.ok1 1 n [] sub.len = true) := Lib.hid (by unfold Ky.ok1; rw [hm0]; rfl)
              rw [hm0] at y3
              have HFB : Hid (-9223372036854775808 ≤ n ∧ n ≤ 9223372036854775807) := Lib.hid HL.out.fit.1
              have hfl := Ky.folded_lt n HFB.out.1 HFB.out.2
              have HC := Lib.hid (rcnt_any w6 (Ky.folded n) hfl)
              clear hm0 hfl
              by_cases hn : n < 0
              · go_upto_region 14 with fail
                rw [fold_neg hn HFB.out.1]
                go_wp2_with fail
                refine HC.out.mono ?_
                rintro e w7 ⟨⟨v7, rfl, ho7⟩, hb7⟩
                obtain ⟨A7, c7, rfl, hA7, hrd7⟩ := ho7.form
                have HA7 := Lib.hid hA7
                have HR7 := Lib.hid (hrd7 (by have := Ky.cnt_len64 _ (Ky.folded_lt n HFB.out.1 HFB.out.2); omega))
                have HO7 : Hid (OwnV w7 B v6 (x ++ [1])) := Lib.hid (O6.out.below hb7)
                have HF7 : Hid (Fr (fun k => (Value.slice Av x.length cv).ownBlock = some k) wr w7) := Lib.hid (HF6.out.trans (Fr.of_below hb7 noB) (fun _ _ h => h.elim))
                have HZ7 : Hid (B ≤ w7.heap.size) := Lib.hid (by have := hb7.size; have := HXB6.out; omega)
                clear ho7 hb7 hA7 hrd7
                go_wp2_with (refine wpList_append_vf rfl (.tmp 50) (.tmp 52) rfl B _ (x ++ [1]) rfl HO7.out _ A7 (Ky.cnt (Ky.folded n)) c7 rfl HR7.out HA7.out (by have := Ky.cnt_len64 _ (Ky.folded_lt n HFB.out.1 HFB.out.2); have := HXL.out; simp only [List.length_append, List.length_cons, List.length_nil]; omega) HZ7.out ?_; intro v8 w8 O8 F8 G8)
                go_roundw
                case rel => exact ⟨j + 1, _, r, by go_num, Lib.hid (HL.out.next HG.out HAT.out HW.out HBW.out (by have h := O8.out; rw [List.append_assoc] at h; exact h) (HF7.out.step HN6.out F8.out) (HN6.out.step HF7.out.size G8.out) (Ky.encE_flat HOK.out (by decide)))⟩
                case measure => (simp [intOf]) <;> omega
              · go_upto_region 14 with fail
                rw [fold_pos hn HFB.out.2]
                go_wp2_with fail
                refine HC.out.mono ?_
                rintro e w7 ⟨⟨v7, rfl, ho7⟩, hb7⟩
                obtain ⟨A7, c7, rfl, hA7, hrd7⟩ := ho7.form
                have HA7 := Lib.hid hA7
                have HR7 := Lib.hid (hrd7 (by have := Ky.cnt_len64 _ (Ky.folded_lt n HFB.out.1 HFB.out.2); omega))
                have HO7 : Hid (OwnV w7 B v6 (x ++ [1])) := Lib.hid (O6.out.below hb7)
                have HF7 : Hid (Fr (fun k => (Value.slice Av x.length cv).ownBlock = some k) wr w7) := Lib.hid (HF6.out.trans (Fr.of_below hb7 noB) (fun _ _ h => h.elim))
                have HZ7 : Hid (B ≤ w7.heap.size) := Lib.hid (by have := hb7.size; have := HXB6.out; omega)
                clear ho7 hb7 hA7 hrd7
                go_wp2_with (refine wpList_append_vf rfl (.tmp 50) (.tmp 52) rfl B _ (x ++ [1]) rfl HO7.out _ A7 (Ky.cnt (Ky.folded n)) c7 rfl HR7.out HA7.out (by have := Ky.cnt_len64 _ (Ky.folded_lt n HFB.out.1 HFB.out.2); have := HXL.out; simp only [List.length_append, List.length_cons, List.length_nil]; omega) HZ7.out ?_; intro v8 w8 O8 F8 G8)
                go_roundw
                case rel => exact ⟨j + 1, _, r, by go_num, Lib.hid (HL.out.next HG.out HAT.out HW.out HBW.out (by have h := O8.out; rw [List.append_assoc] at h; exact h) (HF7.out.step HN6.out F8.out) (HN6.out.step HF7.out.size G8.out) (Ky.encE_flat HOK.out (by decide)))⟩
                case measure => (simp [intOf]) <;> omega
            · have HOK : Hid (Ky.ok1 1 n [] sub.len = false) := Lib.hid (by unfold Ky.ok1; simp [hm0])
              have HP := Lib.hid (fun w' hb => HL.out.bad (w' := w') (Ky.encE_bad HOK.out) (by decide) hb)
              have hm' : ((sub.len : Int) != 0) = true := by simpa using hm0
              clear hm0
              go_wp2_with fail
              go_ret2
              exact HP.out _ HF6.out
          · have HOK : Hid (Ky.ok1 1 n s sub.len = false) := Lib.hid (by unfold Ky.ok1; simp [hs0])
            have HP := Lib.hid (fun w' hb => HL.out.bad (w' := w') (Ky.encE_bad HOK.out) (by decide) hb)
            have hs' : s.isEmpty = false := by cases s <;> simp_all
            clear hs0
            go_wp2_with fail
            go_ret2
            exact HP.out _ HF6.out
        · by_cases h2 : k = 2
          · subst h2
            clear e1 e2 e3 h1
            by_cases hn0 : n = 0
            · subst hn0
              by_cases hm0 : sub.len = 0
              · have HOK : Hid (Ky.ok1 2 0 s sub.len = true) := Lib.hid (by unfold Ky.ok1; rw [hm0]; rfl)
                rw [hm0] at y3
                have HC : Hid (∀ W, Calls Tryd.prog 56 #[.int .u64 (IntKind.u64.wrap (s.length : Int))] W fun e w' => (∃ v, e = .returned v ∧ OwnV w' W.heap.size v (Ky.cnt s.length)) ∧ Below W.heap.size W w') := Lib.hid (fun W => by
                  have hz : s.length < 18446744073709551616 := (by have := HXL.out; omega)
                  rw [show IntKind.u64.wrap (s.length : Int) = (s.length : Int) by rw [IntKind.wrap_u64]; omega]
                  exact rcnt_any W s.length hz)
                have hsb : (s.length : Int) ≤ 1048576 := by have := HXL.out; omega
                clear hm0
                go_upto_region 18 with fail
                clear y0 y1 y3
                go_region_held3 (fun W => W.cell? ⟨X, 2, none⟩ = some (.string ⟨s.toArray⟩)) (first | go_keep | exact HX7.out.cell 2 | exact HX8.out.cell 2 | exact HX9.out.cell 2) (first
                  | (go_at_call 56
                     refine (HC.out _).mono ?_
                     rintro e w7 ⟨⟨v7, rfl, ho7⟩, hb7⟩
                     have hb6 : Below w6.heap.size w6 w7 := (Below.refl w6.heap.size w6).drew.trans hb7
                     obtain ⟨A7, c7, rfl, hA7, hrd7⟩ := ho7.form
                     have HA7 := Lib.hid hA7
                     have HR7 := Lib.hid (hrd7 (by have := Ky.cnt_len64 s.length (by have := HXL.out; omega); omega))
                     have HO7 : Hid (OwnV w7 B v6 (x ++ [2])) := Lib.hid (O6.out.below hb6)
                     have HF7 : Hid (Fr (fun k => (Value.slice Av x.length cv).ownBlock = some k) wr w7) := Lib.hid (HF6.out.trans (Fr.of_below hb6 noB) (fun _ _ h => h.elim))
                     have HZ7 : Hid (B ≤ w7.heap.size) := Lib.hid (by have := hb6.size; have := HXB6.out; omega)
                     have HX7 := Lib.hid (HX6.out.keep (Fr.of_below hb6 noB) (fun e => e))
                     clear ho7 hb7 hb6 hA7 hrd7)
                  | (refine step_append_vf rfl (.tmp 65) (.tmp 70) rfl B _ (x ++ [2]) rfl HO7.out _ A7 (Ky.cnt s.length) c7 rfl HR7.out HA7.out (by have := Ky.cnt_len64 s.length (by have := HXL.out; omega); have := HXL.out; simp only [List.length_append, List.length_cons, List.length_nil]; omega) HZ7.out ?_
                     intro v8 w8 O8 F8 G8
                     have HX8 := Lib.hid (HX7.out.keep F8.out (fun e => HV6.out _ e rfl))
                     have HZ8 : Hid (B ≤ w8.heap.size) := Lib.hid (by have := F8.out.size; have := HZ7.out; omega))
                  | (refine step_append_str rfl (.tmp 71) (.tmp 73) rfl B _ (x ++ [2] ++ Ky.cnt s.length) rfl O8.out s rfl (by have := Ky.cnt_len64 s.length (by have := HXL.out; omega); have := HXL.out; simp only [List.length_append, List.length_cons, List.length_nil]; omega) HZ8.out ?_
                     intro v9 w9 O9 F9 G9
                     have HX9 := Lib.hid (HX8.out.keep F9.out (fun e => (G8.out _ e).elim (fun h => HV6.out _ h rfl) (fun h => by have := HX7.out.lt; omega)))))
                have HF9 := Lib.hid ((HF7.out.step HN6.out F8.out).step (HN6.out.step HF7.out.size G8.out) F9.out)
                have HN9 := Lib.hid ((HN6.out.step HF7.out.size G8.out).step (HF7.out.step HN6.out F8.out).size G9.out)
                go_wp2_with fail
                go_roundw
                case rel => exact ⟨j + 1, _, r, by go_num, Lib.hid (HL.out.next HG.out HAT.out HW.out HBW.out (by have h := O9.out; rw [List.append_assoc, List.append_assoc] at h; exact h) HF9.out HN9.out (Ky.encE_flat HOK.out (by decide)))⟩
                case measure => (simp [intOf]) <;> omega
              · have HOK : Hid (Ky.ok1 2 0 s sub.len = false) := Lib.hid (by unfold Ky.ok1; simp [hm0])
                have HP := Lib.hid (fun w' hb => HL.out.bad (w' := w') (Ky.encE_bad HOK.out) (by decide) hb)
                have hm' : ((sub.len : Int) != 0) = true := by simpa using hm0
                clear hm0
                go_wp2_with fail
                go_ret2
                exact HP.out _ HF6.out
            · have HOK : Hid (Ky.ok1 2 n s sub.len = false) := Lib.hid (by unfold Ky.ok1; simp [hn0])
              have HP := Lib.hid (fun w' hb => HL.out.bad (w' := w') (Ky.encE_bad HOK.out) (by decide) hb)
              have hn' : (n != 0) = true := by simpa using hn0
              clear hn0
              go_wp2_with fail
              go_ret2
              exact HP.out _ HF6.out
          · by_cases h3 : k = 3
            · subst h3
              clear e1 e2 e3 h1 h2
              by_cases hn0 : n = 0
              · subst hn0
                by_cases hs0 : s = []
                · subst hs0
                  have HOK : Hid (Ky.ok1 3 0 [] sub.len = true) := Lib.hid (by unfold Ky.ok1; rfl)
                  by_cases hde : deep = 16
                  · have HP := Lib.hid (fun w' hb => HL.out.bad (w' := w') (Ky.encE_deep HOK.out (by omega)) (by decide) hb)
                    have hde' : ((deep : Int) == 16) = true := by simp; omega
                    clear hde
                    go_wp2_with fail
                    go_ret2
                    exact HP.out _ HF6.out
                  · have hde' : ((deep : Int) == 16) = false := by simp; omega
                    have HDE : Hid (deep + 1 ≤ 16) := Lib.hid (by have := HD.out; omega)
                    have HWR : Hid (IntKind.i64.wrap ((deep : Int) + 1) = ((deep + 1 : Nat) : Int)) := Lib.hid (by have := HD.out; rw [IntKind.wrap_i64]; omega)
                    have HC : Hid (∀ W, Calls Tryd.prog 56 #[.int .u64 (IntKind.u64.wrap (sub.len : Int))] W fun e w' => (∃ v, e = .returned v ∧ OwnV w' W.heap.size v (Ky.cnt sub.len)) ∧ Below W.heap.size W w') := Lib.hid (fun W => by
                  have hz : sub.len < 18446744073709551616 := (by have := HXL.out; have := Its.len_size sub; have := Its.size_weight sub; omega)
                  rw [show IntKind.u64.wrap (sub.len : Int) = (sub.len : Int) by rw [IntKind.wrap_u64]; omega]
                  exact rcnt_any W sub.len hz)
                    have hsb : (sub.len : Int) ≤ 1048576 := by have := HXL.out; have := Its.len_size sub; have := Its.size_weight sub; omega
                    have HSL : Hid (sub.len < 18446744073709551616) := Lib.hid (by omega)
                    have HSZ : Hid (sub.size < N) := Lib.hid (by have h1 := HL.out.rel.2.1; have h2 := HN.out; simp only [Its.size] at h1; omega)
                    have HFI : Hid (sub.fits) := Lib.hid HL.out.fit.2.1
                    clear hde
                    by_cases hes : Ky.encE (deep + 1 + 1) sub = 0
                    · have HE : Hid (Ky.encE (deep + 1) (.cons 3 0 [] sub r) = Ky.encE (deep + 1) r) := Lib.hid (by rw [Ky.encE_sub HOK.out (by have := HDE.out; omega), if_pos hes])
                      have HES := Lib.hid hes
                      clear hes
                      go_upto_region 24 with fail
                      clear y0 y1 y2 hde'
                      go_region_held3 (fun W => W.cell? ⟨X, 3, none⟩ = some (.slice As sub.len cs)) (first | go_keep | exact HX7.out.cell 3 | exact HX8.out.cell 3 | exact HX9.out.cell 3) (first
                        | (go_at_call 56
                           refine (HC.out _).mono ?_
                           rintro e w7 ⟨⟨v7, rfl, ho7⟩, hb7⟩
                           have hb6 : Below w6.heap.size w6 w7 := (Below.refl w6.heap.size w6).drew.trans hb7
                           obtain ⟨A7, c7, rfl, hA7, hrd7⟩ := ho7.form
                           have HA7 := Lib.hid hA7
                           have HR7 := Lib.hid (hrd7 (by have := Ky.cnt_len64 sub.len HSL.out; omega))
                           have HO7 : Hid (OwnV w7 B v6 (x ++ [3])) := Lib.hid (O6.out.below hb6)
                           have HF7 : Hid (Fr (fun k => (Value.slice Av x.length cv).ownBlock = some k) wr w7) := Lib.hid (HF6.out.trans (Fr.of_below hb6 noB) (fun _ _ h => h.elim))
                           have HZ7 : Hid (B ≤ w7.heap.size) := Lib.hid (by have := hb6.size; have := HXB6.out; omega)
                           have HX7 := Lib.hid (HX6.out.keep (Fr.of_below hb6 noB) (fun e => e))
                           clear ho7 hb7 hb6 hA7 hrd7)
                        | (refine step_append_vf rfl (.tmp 88) (.tmp 93) rfl B _ (x ++ [3]) rfl HO7.out _ A7 (Ky.cnt sub.len) c7 rfl HR7.out HA7.out (by have := Ky.cnt_len64 sub.len HSL.out; have := HXL.out; simp only [List.length_append, List.length_cons, List.length_nil]; omega) HZ7.out ?_
                           intro v8 w8 O8 F8 G8
                           have HX8 := Lib.hid (HX7.out.keep F8.out (fun e => HV6.out _ e rfl))
                           have HZ8 : Hid (B ≤ w8.heap.size) := Lib.hid (by have := F8.out.size; have := HZ7.out; omega)
                           have HF8 := Lib.hid (HF7.out.step HN6.out F8.out)
                           have HN8 := Lib.hid (HN6.out.step HF7.out.size G8.out)
                           have HB8 : Hid (Below B wr w8) := Lib.hid (HF8.out.below (by have := HXX.out; have := HBX.out; omega) (fun k hk => (HOX.out k hk).1)))
                        | (go_at_call 42
                           rw [HWR.out]
                           refine (HIH.out sub w8 B v8 (x ++ [3] ++ Ky.cnt sub.len) As cs (deep + 1) HSZ.out HFI.out HXL.out.2.2 (HSUB.out.below HB8.out (Nat.le_refl _)) O8.out HZ8.out (by have := Ky.cnt_len64 sub.len HSL.out; have := HXL.out; simp only [List.length_append, List.length_cons, List.length_nil] at *; omega) HDE.out).mono ?_
                           rintro e w9 hq9
                           unfold IPost at hq9
                           rw [if_pos HES.out] at hq9
                           obtain ⟨⟨v9, rfl, ho9, hn9⟩, hb9⟩ := hq9
                           have O9 := Lib.hid ho9
                           have HX9 := Lib.hid (HX8.out.keep hb9 (fun e => (G8.out _ e).elim (fun h => HV6.out _ h rfl) (fun h => by have := HX7.out.lt; omega)))
                           have HF9 := Lib.hid (HF8.out.step HN8.out hb9)
                           have HN9 := Lib.hid (HN8.out.step HF8.out.size hn9)
                           clear ho9 hn9 hb9))
                      go_wp2_with fail
                      go_roundw
                      case rel => exact ⟨j + 1, _, r, by go_num, Lib.hid (HL.out.next HG.out HAT.out HW.out HBW.out (by have h := O9.out; rw [List.append_assoc, List.append_assoc] at h; exact h) HF9.out HN9.out HE.out)⟩
                      case measure => (simp [intOf]) <;> omega
                    · have HE : Hid (Ky.encE (deep + 1) (.cons 3 0 [] sub r) = Ky.encE (deep + 1 + 1) sub) := Lib.hid (by rw [Ky.encE_sub HOK.out (by have := HDE.out; omega), if_neg hes])
                      have HES := Lib.hid hes
                      have HP := Lib.hid (fun w' hb => HL.out.bad (w' := w') HE.out HES.out hb)
                      generalize hce : Ky.encE (deep + 1 + 1) sub = ce at *
                      have HCE := Lib.hid hce
                      clear hce
                      have hes' : (ce != 0) = true := by simpa using hes
                      go_upto_region 24 with fail
                      clear y0 y1 y2 hde'
                      go_region_held3 (fun W => W.cell? ⟨X, 3, none⟩ = some (.slice As sub.len cs)) (first | go_keep | exact HX7.out.cell 3 | exact HX8.out.cell 3 | exact HX9.out.cell 3) (first
                        | (go_at_call 56
                           refine (HC.out _).mono ?_
                           rintro e w7 ⟨⟨v7, rfl, ho7⟩, hb7⟩
                           have hb6 : Below w6.heap.size w6 w7 := (Below.refl w6.heap.size w6).drew.trans hb7
                           obtain ⟨A7, c7, rfl, hA7, hrd7⟩ := ho7.form
                           have HA7 := Lib.hid hA7
                           have HR7 := Lib.hid (hrd7 (by have := Ky.cnt_len64 sub.len HSL.out; omega))
                           have HO7 : Hid (OwnV w7 B v6 (x ++ [3])) := Lib.hid (O6.out.below hb6)
                           have HF7 : Hid (Fr (fun k => (Value.slice Av x.length cv).ownBlock = some k) wr w7) := Lib.hid (HF6.out.trans (Fr.of_below hb6 noB) (fun _ _ h => h.elim))
                           have HZ7 : Hid (B ≤ w7.heap.size) := Lib.hid (by have := hb6.size; have := HXB6.out; omega)
                           have HX7 := Lib.hid (HX6.out.keep (Fr.of_below hb6 noB) (fun e => e))
                           clear ho7 hb7 hb6 hA7 hrd7)
                        | (refine step_append_vf rfl (.tmp 88) (.tmp 93) rfl B _ (x ++ [3]) rfl HO7.out _ A7 (Ky.cnt sub.len) c7 rfl HR7.out HA7.out (by have := Ky.cnt_len64 sub.len HSL.out; have := HXL.out; simp only [List.length_append, List.length_cons, List.length_nil]; omega) HZ7.out ?_
                           intro v8 w8 O8 F8 G8
                           have HX8 := Lib.hid (HX7.out.keep F8.out (fun e => HV6.out _ e rfl))
                           have HZ8 : Hid (B ≤ w8.heap.size) := Lib.hid (by have := F8.out.size; have := HZ7.out; omega)
                           have HF8 := Lib.hid (HF7.out.step HN6.out F8.out)
                           have HN8 := Lib.hid (HN6.out.step HF7.out.size G8.out)
                           have HB8 : Hid (Below B wr w8) := Lib.hid (HF8.out.below (by have := HXX.out; have := HBX.out; omega) (fun k hk => (HOX.out k hk).1)))
                        | (go_at_call 42
                           rw [HWR.out]
                           refine (HIH.out sub w8 B v8 (x ++ [3] ++ Ky.cnt sub.len) As cs (deep + 1) HSZ.out HFI.out HXL.out.2.2 (HSUB.out.below HB8.out (Nat.le_refl _)) O8.out HZ8.out (by have := Ky.cnt_len64 sub.len HSL.out; have := HXL.out; simp only [List.length_append, List.length_cons, List.length_nil] at *; omega) HDE.out).mono ?_
                           rintro e w9 hq9
                           unfold IPost at hq9
                           rw [HCE.out, if_neg HES.out] at hq9
                           obtain ⟨rfl, hb9⟩ := hq9
                           have HX9 := Lib.hid (HX8.out.keep hb9 (fun e => (G8.out _ e).elim (fun h => HV6.out _ h rfl) (fun h => by have := HX7.out.lt; omega)))
                           have HF9 := Lib.hid (HF8.out.step HN8.out hb9)
                           clear hb9))
                      go_wp2_with fail
                      go_ret2
                      exact HP.out _ HF9.out
                · have HOK : Hid (Ky.ok1 3 0 s sub.len = false) := Lib.hid (by unfold Ky.ok1; simp [hs0])
                  have HP := Lib.hid (fun w' hb => HL.out.bad (w' := w') (Ky.encE_bad HOK.out) (by decide) hb)
                  have hs' : s.isEmpty = false := by cases s <;> simp_all
                  clear hs0
                  go_wp2_with fail
                  go_ret2
                  exact HP.out _ HF6.out
              · have HOK : Hid (Ky.ok1 3 n s sub.len = false) := Lib.hid (by unfold Ky.ok1; simp [hn0])
                have HP := Lib.hid (fun w' hb => HL.out.bad (w' := w') (Ky.encE_bad HOK.out) (by decide) hb)
                have hn' : (n != 0) = true := by simpa using hn0
                clear hn0
                go_wp2_with fail
                go_ret2
                exact HP.out _ HF6.out
            · have HOK : Hid (Ky.ok1 k n s sub.len = false) := Lib.hid (by unfold Ky.ok1; rw [if_neg h1, if_neg h2, if_neg h3])
              have HP := Lib.hid (fun w' hb => HL.out.bad (w' := w') (Ky.encE_bad HOK.out) (by decide) hb)
              rw [decide_eq_false h1] at e1
              rw [decide_eq_false h2] at e2
              rw [decide_eq_false h3] at e3
              have e1 : ((k.toNat : Int) == 1) = false := e1
              have e2 : ((k.toNat : Int) == 2) = false := e2
              have e3 : ((k.toNat : Int) == 3) = false := e3
              clear h1 h2 h3
              go_wp2_with fail
              go_ret2
              exact HP.out _ HF6.out
set_option maxHeartbeats 1600000 in
theorem rencode_any (w : World) (A : Option Addr) (c : Nat) (t : Its) (hr : SlAt w w.heap.size A t) (hf : t.fits) (hw : t.weight ≤ 1048576) :
    Calls Tryd.prog 23 #[.slice A t.len c] w (EncPost w t) := by
  have HI := Lib.hid (ritems_any (t.size + 1) t w w.heap.size (.slice none 0 0) [] A c 0 (by omega) hf hw hr (OwnV.nil _ _) (Nat.le_refl _) (by simp; omega) (by omega))
  rw [show ((0 : Nat) : Int) = 0 from rfl] at HI
  have HLN := Lib.hid (Ky.encB_len t hf (by omega))
  have HW := Lib.hid hw
  unfold IPost at HI
  rw [show (0 : Nat) + 1 = 1 from rfl, List.nil_append] at HI
  clear hr hf hw
  by_cases he : Ky.encE 1 t = 0
  · simp only [if_pos he] at HI
    have HE := Lib.hid he
    clear he
    go_enter Tryd.func23, Tryd.ntmps23
    go_wp2_with fail
    refine HI.out.mono ?_
    rintro e w2 ⟨⟨v, rfl, ho, -⟩, hfr⟩
    obtain ⟨A2, c2, rfl, hA2, hrd⟩ := ho.form
    have HB2 : Hid (Below w.heap.size w w2) := Lib.hid (hfr.below (Nat.le_refl _) (fun k hk => by cases hk))
    have HRD := Lib.hid (hrd (by have := HLN.out; have := HW.out; omega))
    clear ho hfr hA2 hrd
    have hlb : ((Ky.encB t).length : Int) ≤ 12582912 := by have := HLN.out; have := HW.out; omega
    by_cases hfull : 100000 < (Ky.encB t).length
    · have hfull' : (100000 : Int) < ((Ky.encB t).length : Int) := by omega
      have HP := Lib.hid (Ky.encode_full HE.out hfull)
      clear hfull
      go_wp2_with fail
      go_ret2
      exact ret_enc HP.out HB2.out
    · have hfull' : ¬ ((100000 : Int) < ((Ky.encB t).length : Int)) := by omega
      have HP := Lib.hid (Ky.encode_ok HE.out hfull)
      have hcv := conv_rd w2 _ A2 (Ky.encB t) c2 HRD.out
      clear hfull
      go_wp2_with fail
      go_ret2
      exact ret_enc HP.out HB2.out
  · simp only [if_neg he] at HI
    have HP := Lib.hid (Ky.encode_bad he)
    have hne : (Ky.encE 1 t != 0) = true := by simpa using he
    clear he
    go_enter Tryd.func23, Tryd.ntmps23
    go_wp2_with fail
    refine HI.out.mono ?_
    rintro e w2 ⟨rfl, hfr⟩
    have HB2 : Hid (Below w.heap.size w w2) := Lib.hid (hfr.below (Nat.le_refl _) (fun k hk => by cases hk))
    clear hfr
    go_wp2_with fail
    go_ret2
    exact ret_enc HP.out HB2.out
end Go.Proofs.YtfbdikaaeedeoaaDoor

/-
  Items are written, to a letter or to a count of bytes.
-/
import Derived.Test.YtfbdikaaeedeoaaDoorKItem
namespace Go.Proofs.YtfbdikaaeedeoaaDoor
open Go.RowKit Go.Maps
open Ky (Its)
set_option maxRecDepth 100000

/-- what stays, but for block L -/
def Kp (B L : Nat) (w w' : World) : Prop := Below B w w' ∧ Oth L w w'
theorem Kp.refl (B L : Nat) (w : World) : Kp B L w w := ⟨Below.refl _ _, Lib.OthersKept.refl _ _ _⟩
theorem Kp.trans {B L : Nat} {a b c : World} (h : Kp B L a b) (k : Kp B L b c) : Kp B L a c := ⟨h.1.trans k.1, h.2.trans k.2⟩
theorem Kp.of_below {B L : Nat} {w w' : World} (h : Below w.heap.size w w') (hB : B ≤ w.heap.size) : Kp B L w w' := ⟨h.mono hB, oth_below h⟩
/-- a function that bytes are handed to: what it has is told by S -/
structure Snk (F : FuncId) (B L : Nat) (S : World → List UInt8 → Prop) : Prop where
  enter : ∀ args w, (callFunc F args).run Tryd.prog w = .ok (.enter F args) w
  base : B ≤ L
  lt : ∀ w l, S w l → L < w.heap.size
  below : ∀ w w' l, S w l → Below w.heap.size w w' → S w' l
  put : ∀ w l s, S w l → l.length + s.length ≤ 1000000000 → B ≤ w.heap.size → Calls Tryd.prog F #[.pointer (some ⟨L, 0, none⟩), bstr s] w fun e w' => e = .returned (.tuple #[]) ∧ S w' (l ++ s) ∧ Kp B L w w'
theorem snk_letter (B L : Nat) (hB : B ≤ L) : Snk 35 B L (fun w l => Let w B L l) where
  enter := enters_of Tryd.func35 (by kernel_rfl) rfl
  base := hB
  lt := fun _ _ h => h.lt
  below := fun _ _ _ h hb => h.below hb
  put := fun w l s h hm hB => (kadd_any w B L l s h (by omega) hB).mono fun _ _ h => ⟨h.1, h.2.1, h.2.2⟩
def Cnt (w : World) (L : Nat) (l : List UInt8) : Prop := Has w L 85 #[.int .i64 (l.length : Int)]
theorem length_any (w : World) (B L : Nat) (l s : List UInt8) (h : Cnt w L l) (hBL : B ≤ L) (hm : l.length + s.length ≤ 1000000000) :
    Calls Tryd.prog 41 #[.pointer (some ⟨L, 0, none⟩), bstr s] w fun e w' => e = .returned (.tuple #[]) ∧ Cnt w' L (l ++ s) ∧ Kp B L w w' := by
  have c0 : w.cell? ⟨L, 0, none⟩ = some (.int .i64 (l.length : Int)) := h.cell 0
  have z0 := h.free 0
  have hs : (ByteArray.mk s.toArray).size = s.length := by simp [ByteArray.size]
  have hm' : (l.length : Int) + (s.length : Int) ≤ 1000000000 := by omega
  have H := Lib.hid h
  have HS := Lib.hid hs
  clear h hs
  unfold bstr
  go_enter Tryd.func41, Tryd.ntmps41
  go_wp2_with fail
  go_end0
  refine ⟨rfl, ?_, (Below.refl _ _).setCell (p := ⟨L, 0, none⟩) hBL _, (Lib.OthersKept.refl _ _ _).setCell ⟨L, 0, none⟩ rfl _⟩
  have := H.out.set 0 (.int .i64 ((l ++ s).length : Int))
  rw [List.length_append] at this
  unfold Cnt
  rw [List.length_append]
  exact this
theorem snk_length (B L : Nat) (hB : B ≤ L) : Snk 41 B L (fun w l => Cnt w L l) where
  enter := enters_of Tryd.func41 (by kernel_rfl) rfl
  base := hB
  lt := fun _ _ h => h.lt
  below := fun _ _ _ h hb => h.keep (Fr.of_below hb noB) (fun e => e)
  put := fun w l s h hm _ => length_any w B L l s h hB hm
def WPost (B L : Nat) (S : World → List UInt8 → Prop) (w : World) (deep : Nat) (t : Its) (l : List UInt8) (e : Ending) (w' : World) : Prop :=
  e = .returned (.int .i64 (Ky.encE deep t)) ∧ (Ky.encE deep t = 0 → S w' (l ++ Ky.encB t)) ∧ Kp B L w w'
/-- where the loop over the items stands: j are behind, d is written, r is left -/
def WRel (B L : Nat) (S : World → List UInt8 → Prop) (w : World) (deep : Nat) (t : Its) (l : List UInt8) (A : Option Addr) (j : Nat) (r : Its) (d : List UInt8) (wr : World) : Prop :=
  j + r.len = t.len ∧ r.size ≤ t.size ∧ r.fits ∧ d.length + 12 * r.weight ≤ 12 * t.weight ∧ Ky.encE deep t = Ky.encE deep r ∧ Ky.encB t = d ++ Ky.encB r ∧ S wr (l ++ d) ∧ Kp B L w wr ∧ (r ≠ .nil → ∃ g o, A = some ⟨g, o, none⟩ ∧ g < B ∧ At wr B g (o + j * 4) r)
theorem WRel.next {B L : Nat} {S : World → List UInt8 → Prop} {w wr w' : World} {deep : Nat} {t : Its} {l : List UInt8} {j g o : Nat} {k : UInt8} {n : Int} {s : List UInt8} {sub r : Its} {d : List UInt8}
    (h : WRel B L S w deep t l (some ⟨g, o, none⟩) j (.cons k n s sub r) d wr) (hg : g < B) (hw : t.weight ≤ 10000000) (hat : At wr B g (o + j * 4 + 4) r) (he : Ky.encE deep (.cons k n s sub r) = Ky.encE deep r)
    (hs : S w' (l ++ d ++ [k] ++ Ky.body k n s sub.len (Ky.encB sub))) (hk : Kp B L wr w') :
    WRel B L S w deep t l (some ⟨g, o, none⟩) (j + 1) r (d ++ k :: Ky.body k n s sub.len (Ky.encB sub)) w' := by
  obtain ⟨h1, h2, h3, h4, h5, h6, _, h8, _⟩ := h
  simp only [Its.len, Its.size, Its.weight] at h1 h2 h4
  have h9 := Ky.body_len (k := k) (s := s) h3.1.1 h3.1.2 (by omega) (by omega) (Ky.encB_len sub h3.2.1 (by omega))
  refine ⟨by omega, by omega, h3.2.2, ?_, h5.trans he, ?_, ?_, h8.trans hk, fun _ => ⟨g, o, rfl, hg, ?_⟩⟩
  · rw [List.length_append, List.length_cons]
    omega
  · rw [h6, Ky.encB, List.append_assoc, List.cons_append]
  · rw [show l ++ (d ++ k :: Ky.body k n s sub.len (Ky.encB sub)) = l ++ d ++ [k] ++ Ky.body k n s sub.len (Ky.encB sub) by simp]
    exact hs
  · rw [show o + (j + 1) * 4 = o + j * 4 + 4 by omega]
    exact At.below hat hg hk.1 (Nat.le_refl _)
set_option maxHeartbeats 4000000 in
theorem wall_any {F : FuncId} {B L : Nat} {S : World → List UInt8 → Prop} (hS : Snk F B L S) (N : Nat) : ∀ (t : Its) (w : World) (A : Option Addr) (c : Nat) (l : List UInt8) (deep : Nat), t.size < N → deep ≤ 17 → t.fits → t.weight ≤ 10000000 → SlAt w B A t → S w l → B ≤ w.heap.size → l.length + 12 * t.weight ≤ 900000000 →
    Calls Tryd.prog 40 #[.slice A t.len c, .int .i64 (deep : Int), .func (.func F) #[.pointer (some ⟨L, 0, none⟩)] #[]] w (WPost B L S w deep t l) := by
  induction N with
  | zero => intro t w A c l deep hN; omega
  | succ N ih =>
    intro t w A c l deep hN hd hf hw hat hsl hB hlen
    have hR0 : WRel B L S w deep t l A 0 t [] w := ⟨by simp, Nat.le_refl _, hf, by simp, rfl, rfl, by rw [List.append_nil]; exact hsl, Kp.refl _ _ _, fun hn => by simpa using hat hn⟩
    have hlm : t.len ≤ 10000000 := by have := Its.len_size t; have := Its.size_weight t; omega
    have HR0 := Lib.hid hR0
    have HW := Lib.hid hw
    have HLN := Lib.hid hlen
    have HB := Lib.hid hB
    have HN := Lib.hid hN
    have HS := Lib.hid hS
    have hent := hS.enter
    have HIH := Lib.hid ih
    have hd' : (deep : Int) ≤ 17 := by omega
    have hlm' : (t.len : Int) ≤ 10000000 := by omega
    clear hR0 hw hlen hB hN hS hf hat hsl ih
    go_enter Tryd.func40, Tryd.ntmps40
    go_wp2_with fail
    go_loopw [12] (fun i wr => ∃ (j : Nat) (r : Its) (d : List UInt8), i = .int .i64 j ∧ Hid (WRel B L S w deep t l A j r d wr)) (fun i _ => t.len - (intOf i).toNat)
    case atStart => exact ⟨0, t, [], rfl, HR0⟩
    case round =>
      rename World => wr
      obtain ⟨j, r, d, rfl, HR⟩ := hrel
      cases r with
      | nil =>
        obtain ⟨h1, _, _, _, h5, h6, h7, h8, _⟩ := HR.out
        have hj : j = t.len := by simpa [Its.len] using h1
        subst hj
        have HP : Hid (WPost B L S w deep t l (.returned (.int .i64 0)) wr) := Lib.hid ⟨by rw [h5]; rfl, fun _ => by rw [h6, Ky.encB, List.append_nil]; exact h7, h8⟩
        clear h1 h5 h6 h7 h8
        go_wp2_with fail
        go_ret
        exact HP.out
      | cons k n s sub r =>
        have hlt : j < t.len := by have := HR.out.1; simp only [Its.len] at this; omega
        obtain ⟨g, o, rfl, hg, c0, c1, c2, ⟨As, cs, c3, hsub⟩, hat⟩ := HR.out.2.2.2.2.2.2.2.2 (by simp)
        have hjm : (j : Int) < 10000000 := by omega
        have hsm : sub.len ≤ 10000000 := by have h1 := HR.out.2.2.2.1; simp only [Its.weight] at h1; have h2 := Its.len_size sub; have h3 := Its.size_weight sub; have := HW.out; omega
        have hsl : s.length ≤ 10000000 := by have h1 := HR.out.2.2.2.1; simp only [Its.weight] at h1; have := HW.out; omega
        have HSM := Lib.hid hsm
        have HSL := Lib.hid hsl
        have HSUB := Lib.hid hsub
        have HAT := Lib.hid hat
        have HM := Lib.hid (imayBe_any (wr.alloc (.cells #[.int .u8 (k.toNat : Int), .int .i64 n, bstr s, .slice As sub.len cs] 62)) k n s As sub.len cs)
        have HH := Lib.hid (Has.of_alloc wr 62 #[.int .u8 (k.toNat : Int), .int .i64 n, bstr s, .slice As sub.len cs])
        have HBA : Hid (Below wr.heap.size wr (wr.alloc (.cells #[.int .u8 (k.toNat : Int), .int .i64 n, bstr s, .slice As sub.len cs] 62))) := Lib.hid ((Below.refl _ _).alloc (Nat.le_refl _) _)
        have HSR : Hid (S wr (l ++ d)) := Lib.hid HR.out.2.2.2.2.2.2.1
        have HKR : Hid (Kp B L w wr) := Lib.hid HR.out.2.2.2.2.2.2.2.1
        have HLr : Hid (L < wr.heap.size) := Lib.hid (HS.out.lt _ _ HSR.out)
        have HBr : Hid (B ≤ wr.heap.size) := Lib.hid (by have := HKR.out.1.size; have := HB.out; omega)
        have HNN : Hid (-9223372036854775808 ≤ n ∧ n ≤ 9223372036854775807) := Lib.hid HR.out.2.2.1.1
        have HLL : Hid (l.length + d.length + 12 * (Its.cons k n s sub r).weight ≤ 900000000) := Lib.hid (by have := HR.out.2.2.2.1; have := HLN.out; omega)
        clear hat hsub hsm hsl
        unfold bstr itemV at *
        go_wp2_with fail
        refine HM.out.mono ?_
        rintro e w2 ⟨rfl, hb2⟩
        have hh2 := HH.out.keep (Fr.of_below hb2 noB) (fun e => e)
        have d0 : w2.cell? ⟨wr.heap.size, 0, none⟩ = some (.int .u8 (k.toNat : Int)) := hh2.cell 0
        have HH2 := Lib.hid hh2
        have HBW : Hid (Below wr.heap.size wr w2) := Lib.hid (HBA.out.trans (hb2.mono (by simp)))
        have HS2 : Hid (wr.heap.size < w2.heap.size) := Lib.hid hh2.lt
        clear hh2 hb2
        cases hok : Ky.ok1 k n s sub.len with
        | false =>
          have HP : Hid (WPost B L S w deep t l (.returned (.int .i64 1)) w2) := Lib.hid ⟨by rw [HR.out.2.2.2.2.1, Ky.encE_bad hok], fun h => by rw [HR.out.2.2.2.2.1, Ky.encE_bad hok] at h; exact absurd h (by decide), HKR.out.trans (Kp.of_below HBW.out HBr.out)⟩
          go_wp2_with fail
          go_ret
          exact HP.out
        | true =>
          have hcv := conv_rd (w2.alloc (.cells #[.int .u8 (k.toNat : Int)] 5)) _ (some ⟨w2.heap.size, 0, none⟩) [k] 1 (rd_one w2 _ k rfl)
          rw [show ([k] : List UInt8).length = 1 from rfl] at hcv
          have HS3 : Hid (S (w2.alloc (.cells #[.int .u8 (k.toNat : Int)] 5)) (l ++ d)) := Lib.hid (HS.out.below _ _ _ (HS.out.below _ _ _ HSR.out HBW.out) ((Below.refl _ _).alloc (Nat.le_refl _) _))
          have HP1 := Lib.hid (HS.out.put (w2.alloc (.cells #[.int .u8 (k.toNat : Int)] 5)) (l ++ d) [k] HS3.out (by have := HLL.out; simp only [Its.weight] at this; simp; omega) (by have := HBr.out; have := HS2.out; simp; omega))
          have HK2 : Hid (Kp B L wr (w2.alloc (.cells #[.int .u8 (k.toNat : Int)] 5))) := Lib.hid (Kp.of_below (HBW.out.alloc (by have := HS2.out; omega) _) HBr.out)
          have HH3 : Hid (Has (w2.alloc (.cells #[.int .u8 (k.toNat : Int)] 5)) wr.heap.size 62 #[.int .u8 (k.toNat : Int), .int .i64 n, bstr s, .slice As sub.len cs]) := Lib.hid (HH2.out.alloc _)
          unfold bstr at *
          go_wp2_with fail
          refine HP1.out.mono ?_
          rintro e w3 ⟨rfl, hs3, hk3⟩
          have hh3 := HH3.out.oth hk3.2 (by have := HLr.out; omega) (by decide)
          have e0 : w3.cell? ⟨wr.heap.size, 0, none⟩ = some (.int .u8 (k.toNat : Int)) := hh3.cell 0
          have e1 : w3.cell? ⟨wr.heap.size, 1, none⟩ = some (.int .i64 n) := hh3.cell 1
          have e2 : w3.cell? ⟨wr.heap.size, 2, none⟩ = some (.string ⟨s.toArray⟩) := hh3.cell 2
          have e3 : w3.cell? ⟨wr.heap.size, 3, none⟩ = some (.slice As sub.len cs) := hh3.cell 3
          have HH4 := Lib.hid hh3
          have HS4 := Lib.hid hs3
          have HK4 : Hid (Kp B L wr w3) := Lib.hid (HK2.out.trans hk3)
          have HZ4 : Hid (wr.heap.size < w3.heap.size) := Lib.hid hh3.lt
          have HOK := Lib.hid hok
          clear hh3 hs3 hk3 d0 hcv
          clear HP1 HM
          by_cases h1 : k = 1
          · subst h1
            have HF := Lib.hid (folded_any w3 n HNN.out.1 HNN.out.2)
            have hfl := Ky.folded_lt n HNN.out.1 HNN.out.2
            have HC := Lib.hid (count_any w3 (Ky.folded n) hfl)
            have HCL := Lib.hid (Ky.cnt_len64 _ hfl)
            clear hfl
            unfold bstr at HC
            go_wp2_with fail
            refine HF.out.mono ?_
            rintro e w4 ⟨rfl, rfl⟩
            go_wp2_with fail
            refine HC.out.mono ?_
            rintro e w4 ⟨rfl, hb4⟩
            have HP5 := Lib.hid (HS.out.put w4 (l ++ d ++ [1]) (Ky.cnt (Ky.folded n)) (HS.out.below _ _ _ HS4.out hb4) (by have := HLL.out; have := HCL.out; simp only [Its.weight] at *; simp; omega) (by have := HBr.out; have := HZ4.out; have := hb4.size; omega))
            have HB4 : Hid (Kp B L wr w4) := Lib.hid (HK4.out.trans (Kp.of_below hb4 (by have := HBr.out; have := HZ4.out; omega)))
            clear hb4
            unfold bstr at HP5
            go_wp2_with fail
            refine HP5.out.mono ?_
            rintro e w5 ⟨rfl, hs5, hk5⟩
            have HX := Lib.hid (WRel.next HR.out hg HW.out HAT.out (Ky.encE_flat HOK.out (by decide)) hs5 (HB4.out.trans hk5))
            clear hs5 hk5
            go_wp2_with fail
            go_round
            case rel => exact ⟨j + 1, r, _, by go_num, HX⟩
            case measure => (simp [intOf]) <;> omega
          · by_cases h2 : k = 2
            · subst h2
              have HC := Lib.hid (count_any w3 s.length (by have := HSL.out; omega))
              have HCL := Lib.hid (Ky.cnt_len64 s.length (by have := HSL.out; omega))
              have hss : (s.length : Int) ≤ 10000000 := by have := HSL.out; omega
              unfold bstr at HC
              go_wp2_with fail
              refine HC.out.mono ?_
              rintro e w4 ⟨rfl, hb4⟩
              have HP5 := Lib.hid (HS.out.put w4 (l ++ d ++ [2]) (Ky.cnt s.length) (HS.out.below _ _ _ HS4.out hb4) (by have := HLL.out; have := HCL.out; simp only [Its.weight] at *; simp; omega) (by have := HBr.out; have := HZ4.out; have := hb4.size; omega))
              have HB4 : Hid (Kp B L wr w4) := Lib.hid (HK4.out.trans (Kp.of_below hb4 (by have := HBr.out; have := HZ4.out; omega)))
              have HH5 : Hid (Has w4 wr.heap.size 62 #[.int .u8 ((2 : UInt8).toNat : Int), .int .i64 n, bstr s, .slice As sub.len cs]) := Lib.hid (HH4.out.keep (Fr.of_below hb4 noB) (fun e => e))
              clear hb4
              unfold bstr at *
              go_wp2_with fail
              refine HP5.out.mono ?_
              rintro e w5 ⟨rfl, hs5, hk5⟩
              have hh5 := HH5.out.oth hk5.2 (by have := HLr.out; omega) (by decide)
              have f2 : w5.cell? ⟨wr.heap.size, 2, none⟩ = some (.string ⟨s.toArray⟩) := hh5.cell 2
              have HP6 := Lib.hid (HS.out.put w5 (l ++ d ++ [2] ++ Ky.cnt s.length) s hs5 (by have := HLL.out; have := HCL.out; simp only [Its.weight] at *; simp; omega) (by have := HBr.out; have := hh5.lt; omega))
              have HB5 : Hid (Kp B L wr w5) := Lib.hid (HB4.out.trans hk5)
              clear hh5 hs5 hk5
              unfold bstr at HP6
              go_wp2_with fail
              refine HP6.out.mono ?_
              rintro e w6 ⟨rfl, hs6, hk6⟩
              have HX := Lib.hid (WRel.next HR.out hg HW.out HAT.out (Ky.encE_flat HOK.out (by decide)) (by rw [List.append_assoc] at hs6; exact hs6) (HB5.out.trans hk6))
              clear hs6 hk6
              go_wp2_with fail
              go_round
              case rel => exact ⟨j + 1, r, _, by go_num, HX⟩
              case measure => (simp [intOf]) <;> omega
            · obtain rfl := Ky.ok1_kind HOK.out h1 h2
              clear h1 h2
              by_cases hdp : 16 < deep
              · have HP : Hid (WPost B L S w deep t l (.returned (.int .i64 84)) w3) := Lib.hid ⟨by rw [HR.out.2.2.2.2.1, Ky.encE_deep HOK.out hdp], fun h => by rw [HR.out.2.2.2.2.1, Ky.encE_deep HOK.out hdp] at h; exact absurd h (by decide), HKR.out.trans HK4.out⟩
                have hdp' : (16 : Int) < (deep : Int) := by omega
                clear hdp
                go_wp2_with fail
                go_ret
                exact HP.out
              · have hdp' : decide ((16 : Int) < (deep : Int)) = false := decide_eq_false (by omega)
                have HDP := Lib.hid hdp
                clear hdp hd hd'
                go_upto_region 16 with fail
                have hd16 : (deep : Int) ≤ 100 := by have := HDP.out; omega
                clear hdp'
                have HC := Lib.hid (count_any w3 sub.len (by have := HSM.out; omega))
                have HCL := Lib.hid (Ky.cnt_len64 sub.len (by have := HSM.out; omega))
                have hss : (sub.len : Int) ≤ 10000000 := by have := HSM.out; omega
                unfold bstr at HC
                go_wp2_with fail
                refine HC.out.mono ?_
                rintro e w4 ⟨rfl, hb4⟩
                have HP5 := Lib.hid (HS.out.put w4 (l ++ d ++ [3]) (Ky.cnt sub.len) (HS.out.below _ _ _ HS4.out hb4) (by have := HLL.out; have := HCL.out; simp only [Its.weight] at *; simp; omega) (by have := HBr.out; have := HZ4.out; have := hb4.size; omega))
                have HB4 : Hid (Kp B L wr w4) := Lib.hid (HK4.out.trans (Kp.of_below hb4 (by have := HBr.out; have := HZ4.out; omega)))
                have HH5 : Hid (Has w4 wr.heap.size 62 #[.int .u8 ((3 : UInt8).toNat : Int), .int .i64 n, bstr s, .slice As sub.len cs]) := Lib.hid (HH4.out.keep (Fr.of_below hb4 noB) (fun e => e))
                clear hb4
                unfold bstr at *
                go_wp2_with fail
                refine HP5.out.mono ?_
                rintro e w5 ⟨rfl, hs5, hk5⟩
                have hh5 := HH5.out.oth hk5.2 (by have := HLr.out; omega) (by decide)
                have f3 : w5.cell? ⟨wr.heap.size, 3, none⟩ = some (.slice As sub.len cs) := hh5.cell 3
                have HB5 : Hid (Kp B L wr w5) := Lib.hid (HB4.out.trans hk5)
                have hat5 : SlAt w5 B As sub := fun hn => by
                  obtain ⟨g', o', hA, hg', hx⟩ := HSUB.out hn
                  exact ⟨g', o', hA, hg', hx.below hg' HB5.out.1 (Nat.le_refl _)⟩
                have HI := Lib.hid (HIH.out sub w5 As cs (l ++ d ++ [3] ++ Ky.cnt sub.len) (deep + 1) (by have := HR.out.2.1; have := HN.out; simp only [Its.size] at *; omega) (by have := HDP.out; omega) HR.out.2.2.1.2.1 (by have := HR.out.2.2.2.1; have := HW.out; simp only [Its.weight] at *; omega) hat5 hs5 (by have := HBr.out; have := hh5.lt; omega) (by have := HLL.out; have := HCL.out; simp only [Its.weight] at *; simp; omega))
                rw [show ((deep + 1 : Nat) : Int) = (deep : Int) + 1 by omega] at HI
                clear hat5 hs5 hk5 hh5
                go_wp2_with fail
                refine HI.out.mono ?_
                rintro e w6 ⟨rfl, hs6, hk6⟩
                have HK6 : Hid (Kp B L wr w6) := Lib.hid (HB5.out.trans hk6)
                have HS6 := Lib.hid hs6
                clear hs6 hk6
                by_cases he : Ky.encE (deep + 1) sub = 0
                · have hE : Ky.encE deep (.cons 3 n s sub r) = Ky.encE deep r := by rw [Ky.encE_sub HOK.out HDP.out, if_pos he]
                  have HX := Lib.hid (WRel.next HR.out hg HW.out HAT.out hE (by have := HS6.out he; rw [List.append_assoc] at this; exact this) HK6.out)
                  rw [he]
                  clear he hE
                  go_wp2_with fail
                  go_round
                  case rel => exact ⟨j + 1, r, _, by go_num, HX⟩
                  case measure => (simp [intOf]) <;> omega
                · have hE : Ky.encE deep (.cons 3 n s sub r) = Ky.encE (deep + 1) sub := by rw [Ky.encE_sub HOK.out HDP.out, if_neg he]
                  have HP : Hid (WPost B L S w deep t l (.returned (.int .i64 (Ky.encE (deep + 1) sub))) w6) := Lib.hid ⟨by rw [HR.out.2.2.2.2.1, hE], fun h => by rw [HR.out.2.2.2.2.1, hE] at h; exact absurd h he, HKR.out.trans HK6.out⟩
                  have hne : (Ky.encE (deep + 1) sub != 0) = true := by simpa using he
                  clear he hE
                  go_wp2_with fail
                  go_ret
                  exact HP.out
end Go.Proofs.YtfbdikaaeedeoaaDoor

/-
  The statement's sector: data as long as a sector, if it must be.
-/
import Derived.Test.YtpgpalnnmoanpaaDCopy
namespace Go.Proofs.Ytpgpalnnmoanpaa
open Go.RowKit Go.Maps

/-- the bytes that a step hands in -/
def Dk.secOf (l : List UInt8) (whole : Bool) : List UInt8 :=
  if whole then ((l.take 300) ++ List.replicate (128 - (l.take 300).length) (UInt8.ofNat l.length)).take 128 else l.take 300
def lenOf : Value → Nat
  | .slice _ n _ => n
  | _ => 0
theorem rd_takes {w : World} {B : Nat} {A : Option Addr} {l : List UInt8} (h : Rd w B A l) (n : Nat) : Rd w B A (l.take n) :=
  ⟨by have := h.1; rw [List.length_take]; omega, fun h0 => by
    obtain ⟨g, o, e, h1, h2⟩ := h.2 (by rw [List.length_take] at h0; omega)
    refine ⟨g, o, e, h1, fun j u hj => h2 j u ?_⟩
    rw [secCells_opt] at hj ⊢
    rw [List.getElem?_take] at hj
    split at hj
    · exact hj
    · cases hj⟩
theorem byte_len (n : Nat) : ((UInt8.ofNat n).toNat : Int) = (n : Int) % 256 := by
  rw [UInt8.toNat_ofNat']
  omega
theorem rd_one (w : World) (n : Nat) : Rd (w.alloc (.cells #[.int .u8 ((n : Int) % 256)] 5)) (w.heap.size + 1) (some ⟨w.heap.size, 0, none⟩) [UInt8.ofNat n] := by
  have h := Rd.of_has (Has.of_alloc w 5 #[.int .u8 ((n : Int) % 256)]) (o := 0) (l := [UInt8.ofNat n]) (by simp [Dk.secCells]) (by simp)
  exact h.more (by simp)
/-- new bytes, that the call gives away -/
def NewBytes (w : World) (bs : List UInt8) (e : Ending) (w' : World) : Prop :=
  ∃ g n c' cur, e = .returned (.slice (some ⟨g, 0, none⟩) n c') ∧ n = bs.length ∧ w.heap.size ≤ g ∧ Has w' g 5 cur ∧ n ≤ cur.size ∧ cur.toList.take n = Dk.secCells bs ∧ Below w.heap.size w w'
theorem sector_any (w : World) (kind at_ torn cut : Int) (A : Option Addr) (l : List UInt8) (c : Nat) (whole : Bool) (kv : Value) (hr : Rd w w.heap.size A l) (hA : A = none → c = 0) (hc : l.length ≤ c) :
    Calls Try.prog 27 #[.agg #[.int .i64 kind, .int .i64 at_, .slice A l.length c, .bool whole, kv, .int .i64 torn, .int .i64 cut]] w (NewBytes w (Dk.secOf l whole)) := by
  have hRB : ∀ w', Below w.heap.size w w' → Rd w' (w.heap.size + 1) A l := fun w' b => (hr.below b).more (by omega)
  have HRB := Lib.hid hRB
  have HA := Lib.hid hA
  have Hlen := Lib.hid hr.1
  clear hr hRB hA
  rcases Nat.lt_or_ge 300 l.length with h300 | h300
  · skip
    have e300 : (300 : Int) < l.length := by omega
    have e301 : ¬ (l.length : Int) < 300 := by omega
    have hT : (l.take 300).length = 300 := List.length_take_of_le (by omega)
    have hm : (300 : Nat) ≤ 300 := by omega
    have HRT : Hid (∀ w', Below w.heap.size w w' → Rd w' (w.heap.size + 1) A (l.take 300)) := Lib.hid (fun w' b => rd_takes (HRB.out w' b) 300)
    have HT := Lib.hid hT
    have HTt : Hid (l.take 300 = l.take 300) := Lib.hid rfl
    clear hT
    go_enter Try.func27, Try.ntmps27
    go_wp2_with (first
      | (at_builtin; refine wpList_append_rd rfl (.tmp 4) (.tmp 11) rfl (w.heap.size + 1) (w.heap.size + 1) 0 0 300 [] rfl rfl (Own.none_at _ _ _ (by simp) (by simp)) (w.heap.size + 1) A (l.take 300) c (by rw [HT.out]; rfl) (HRT.out _ (((Below.refl _ w).alloc (Nat.le_refl _) _).alloc (by simp) _)) HA.out (by rw [HT.out]; simp) (by have := Hlen.out; omega) (by simp) (w.alloc (.cells #[.int .i64 kind, .int .i64 at_, .slice A l.length c, .bool whole, kv, .int .i64 torn, .int .i64 cut] 37)) ((Below.refl _ _).alloc (by simp) _) ?_; intro g1 c1 w1 O1 B1 F1; have O1' : Hid (Own w1 (w.heap.size + 1) g1 c1 (l.take 300)) := O1; clear O1 F1)
      | fail)
    have HBox : Hid (Has (w.alloc (.cells #[.int .i64 kind, .int .i64 at_, .slice A l.length c, .bool whole, kv, .int .i64 torn, .int .i64 cut] 37)) w.heap.size 37 #[.int .i64 kind, .int .i64 at_, .slice A l.length c, .bool whole, kv, .int .i64 torn, .int .i64 cut]) := Lib.hid (Has.of_alloc _ _ _)
    have HW0 : Hid (Below w.heap.size w (w.alloc (.cells #[.int .i64 kind, .int .i64 at_, .slice A l.length c, .bool whole, kv, .int .i64 torn, .int .i64 cut] 37))) := Lib.hid ((Below.refl _ w).alloc (Nat.le_refl _) _)
    generalize (w.alloc (.cells #[.int .i64 kind, .int .i64 at_, .slice A l.length c, .bool whole, kv, .int .i64 torn, .int .i64 cut] 37)) = wb at *
    go_loopw [3] (fun v wr => ∃ n k g c' : Nat, v = .slice (some ⟨g, 0, none⟩) n c' ∧ Hid (n = 300 + k) ∧ Own wr (w.heap.size + 1) g c' (l.take 300 ++ List.replicate k (UInt8.ofNat l.length)) ∧ Below (w.heap.size + 1) wb wr ∧ (k = 0 ∨ (whole = true ∧ 300 + k ≤ 128))) (fun v _ => 128 - lenOf v)
    case atStart => exact ⟨_, 0, g1, c1, rfl, Lib.hid rfl, by rw [List.replicate_zero, List.append_nil]; exact O1'.out, B1.out, .inl rfl⟩
    case round =>
      rename World => wr
      obtain ⟨n, k, g, c', rfl, hn, O, Bw, hk⟩ := hrel
      have hk3 : wr.cell? ⟨w.heap.size, 3, none⟩ = some (.bool whole) := (World.cell?_of_block (Bw.block w.heap.size (by omega))).trans (HBox.out.cell 3)
      have hk2 : wr.cell? ⟨w.heap.size, 2, none⟩ = some (.slice A l.length c) := (World.cell?_of_block (Bw.block w.heap.size (by omega))).trans (HBox.out.cell 2)
      have OO := Lib.hid O
      have BW := Lib.hid Bw
      have HK := Lib.hid hk
      have hL : (l.take 300 ++ List.replicate k (UInt8.ofNat l.length)).length = n := by rw [List.length_append, HT.out, List.length_replicate, hn.out]
      have HL := Lib.hid hL
      obtain ⟨cur, hown, hsz, htk⟩ := O.has
      have HO1 := Lib.hid hown
      have HO2 := Lib.hid hsz
      have HO3 := Lib.hid htk
      have hcapn : n ≤ c' := by
        rcases O.row.2 with ⟨e, _⟩ | ⟨g', cap', cur', e, _, _, h4, _⟩
        · cases e
        · injection e with _ _ e
          rw [hL] at h4
          omega
      have hE := hn.out
      have HFin : Hid (Below w.heap.size w wr) := Lib.hid (HW0.out.trans (Bw.mono (by omega)))
      have hgB := O.base.1
      clear O Bw hL hk hown hsz htk
      cases whole with
      | false =>
        have hk0 : k = 0 := by rcases HK.out with hk | hk; exact hk; exact absurd hk.1 (by decide)
        clear hE
        go_wp2_with fail
        go_ret
        have hsec : Dk.secOf l false = l.take 300 ++ List.replicate k (UInt8.ofNat l.length) := by rw [hk0, List.replicate_zero, List.append_nil]; rfl
        refine ⟨g, n, c', cur, rfl, by rw [hsec]; exact HL.out.symm, by omega, HO1.out, by have := HO2.out; rw [HL.out] at this; exact this, by rw [hsec]; have := HO3.out; rw [HL.out] at this; exact this, HFin.out⟩
      | true =>
        by_cases hlt : n < 128
        · have hltI : (n : Int) < 128 := by omega
          clear hE
          clear e300 h300 e301 hcapn
          have RD1 : Hid (Rd (wr.alloc (.cells #[.int .u8 ((l.length : Int) % 256)] 5)) (wr.heap.size + 1) (some ⟨wr.heap.size, 0, none⟩) [UInt8.ofNat l.length]) := Lib.hid (rd_one wr l.length)
          have hszB := BW.out.size
          have HLim : Hid (n < 128) := Lib.hid hlt
          go_wp2_with (first
            | (at_builtin; refine wpList_append_rd rfl (.tmp 20) (.tmp 25) rfl (w.heap.size + 1) g c' n (n + 1) _ HL.out.symm rfl (OO.out.alloc _) _ (some ⟨wr.heap.size, 0, none⟩) [UInt8.ofNat l.length] 1 rfl RD1.out (fun e => by cases e) (by rw [HL.out]; rfl) (by have := HLim.out; omega) (by have := OO.out.base; simp; omega) wb (BW.out.alloc (by have := OO.out.base; omega) _) ?_; intro g2 c2 w2 O2 B2 F2)
            | fail)
          have hn1 := hn.out
          refine ⟨⟨n + 1, k + 1, g2, c2, rfl, Lib.hid (by omega), ?_, B2.out, .inr ⟨trivial, by omega⟩⟩, by simp only [lenOf]; omega⟩
          have := O2.out
          rw [List.append_assoc, ← List.replicate_succ'] at this
          exact this
        · have hltI : ¬ (n : Int) < 128 := by omega
          have hcI : (128 : Int) ≤ c' := by omega
          have hn1 : 300 + k = n := hn.out.symm
          clear hE
          go_wp2_with fail
          go_ret
          have hsec : Dk.secOf l true = (l.take 300 ++ List.replicate k (UInt8.ofNat l.length)).take 128 := by
            show ((l.take 300) ++ List.replicate (128 - (l.take 300).length) (UInt8.ofNat l.length)).take 128 = _
            rw [HT.out]
            rcases HK.out with hk | hk
            · subst hk
              rw [show 128 - 300 = 0 by omega]
            · rw [show 128 - 300 = k by omega]
          have hl128 : (Dk.secOf l true).length = 128 := by rw [hsec, List.length_take, HL.out]; omega
          refine ⟨g, 128, c', cur, rfl, hl128.symm, by omega, HO1.out, by have := HO2.out; rw [HL.out] at this; omega, ?_, HFin.out⟩
          have := congrArg (List.take 128) HO3.out
          rw [HL.out, List.take_take, Nat.min_eq_left (by omega)] at this
          rw [this, hsec]
          exact List.map_take.symm
  · skip
    have e300 : ¬ (300 : Int) < l.length := by omega
    have hcap : (l.length : Int) ≤ c := by omega
    have hT : (l.take 300).length = l.length := by rw [List.length_take]; omega
    have hm : l.length ≤ 300 := h300
    have HRT : Hid (∀ w', Below w.heap.size w w' → Rd w' (w.heap.size + 1) A (l.take 300)) := Lib.hid (fun w' b => rd_takes (HRB.out w' b) 300)
    have HT := Lib.hid hT
    have HTt : Hid (l.take 300 = l.take 300) := Lib.hid rfl
    clear hT
    go_enter Try.func27, Try.ntmps27
    go_wp2_with (first
      | (at_builtin; refine wpList_append_rd rfl (.tmp 4) (.tmp 11) rfl (w.heap.size + 1) (w.heap.size + 1) 0 0 l.length [] rfl rfl (Own.none_at _ _ _ (by simp) (by simp)) (w.heap.size + 1) A (l.take 300) c (by rw [HT.out]; rfl) (HRT.out _ (((Below.refl _ w).alloc (Nat.le_refl _) _).alloc (by simp) _)) HA.out (by rw [HT.out]; simp) (by have := Hlen.out; omega) (by simp) (w.alloc (.cells #[.int .i64 kind, .int .i64 at_, .slice A l.length c, .bool whole, kv, .int .i64 torn, .int .i64 cut] 37)) ((Below.refl _ _).alloc (by simp) _) ?_; intro g1 c1 w1 O1 B1 F1; have O1' : Hid (Own w1 (w.heap.size + 1) g1 c1 (l.take 300)) := O1; clear O1 F1)
      | fail)
    have HBox : Hid (Has (w.alloc (.cells #[.int .i64 kind, .int .i64 at_, .slice A l.length c, .bool whole, kv, .int .i64 torn, .int .i64 cut] 37)) w.heap.size 37 #[.int .i64 kind, .int .i64 at_, .slice A l.length c, .bool whole, kv, .int .i64 torn, .int .i64 cut]) := Lib.hid (Has.of_alloc _ _ _)
    have HW0 : Hid (Below w.heap.size w (w.alloc (.cells #[.int .i64 kind, .int .i64 at_, .slice A l.length c, .bool whole, kv, .int .i64 torn, .int .i64 cut] 37))) := Lib.hid ((Below.refl _ w).alloc (Nat.le_refl _) _)
    generalize (w.alloc (.cells #[.int .i64 kind, .int .i64 at_, .slice A l.length c, .bool whole, kv, .int .i64 torn, .int .i64 cut] 37)) = wb at *
    go_loopw [3] (fun v wr => ∃ n k g c' : Nat, v = .slice (some ⟨g, 0, none⟩) n c' ∧ Hid (n = l.length + k) ∧ Own wr (w.heap.size + 1) g c' (l.take 300 ++ List.replicate k (UInt8.ofNat l.length)) ∧ Below (w.heap.size + 1) wb wr ∧ (k = 0 ∨ (whole = true ∧ l.length + k ≤ 128))) (fun v _ => 128 - lenOf v)
    case atStart => exact ⟨_, 0, g1, c1, rfl, Lib.hid rfl, by rw [List.replicate_zero, List.append_nil]; exact O1'.out, B1.out, .inl rfl⟩
    case round =>
      rename World => wr
      obtain ⟨n, k, g, c', rfl, hn, O, Bw, hk⟩ := hrel
      have hk3 : wr.cell? ⟨w.heap.size, 3, none⟩ = some (.bool whole) := (World.cell?_of_block (Bw.block w.heap.size (by omega))).trans (HBox.out.cell 3)
      have hk2 : wr.cell? ⟨w.heap.size, 2, none⟩ = some (.slice A l.length c) := (World.cell?_of_block (Bw.block w.heap.size (by omega))).trans (HBox.out.cell 2)
      have OO := Lib.hid O
      have BW := Lib.hid Bw
      have HK := Lib.hid hk
      have hL : (l.take 300 ++ List.replicate k (UInt8.ofNat l.length)).length = n := by rw [List.length_append, HT.out, List.length_replicate, hn.out]
      have HL := Lib.hid hL
      obtain ⟨cur, hown, hsz, htk⟩ := O.has
      have HO1 := Lib.hid hown
      have HO2 := Lib.hid hsz
      have HO3 := Lib.hid htk
      have hcapn : n ≤ c' := by
        rcases O.row.2 with ⟨e, _⟩ | ⟨g', cap', cur', e, _, _, h4, _⟩
        · cases e
        · injection e with _ _ e
          rw [hL] at h4
          omega
      have hE := hn.out
      have HFin : Hid (Below w.heap.size w wr) := Lib.hid (HW0.out.trans (Bw.mono (by omega)))
      have hgB := O.base.1
      clear O Bw hL hk hown hsz htk
      cases whole with
      | false =>
        have hk0 : k = 0 := by rcases HK.out with hk | hk; exact hk; exact absurd hk.1 (by decide)
        clear hE
        go_wp2_with fail
        go_ret
        have hsec : Dk.secOf l false = l.take 300 ++ List.replicate k (UInt8.ofNat l.length) := by rw [hk0, List.replicate_zero, List.append_nil]; rfl
        refine ⟨g, n, c', cur, rfl, by rw [hsec]; exact HL.out.symm, by omega, HO1.out, by have := HO2.out; rw [HL.out] at this; exact this, by rw [hsec]; have := HO3.out; rw [HL.out] at this; exact this, HFin.out⟩
      | true =>
        by_cases hlt : n < 128
        · have hltI : (n : Int) < 128 := by omega
          clear hE
          clear e300 h300 hcap hcapn
          have RD1 : Hid (Rd (wr.alloc (.cells #[.int .u8 ((l.length : Int) % 256)] 5)) (wr.heap.size + 1) (some ⟨wr.heap.size, 0, none⟩) [UInt8.ofNat l.length]) := Lib.hid (rd_one wr l.length)
          have hszB := BW.out.size
          have HLim : Hid (n < 128) := Lib.hid hlt
          go_wp2_with (first
            | (at_builtin; refine wpList_append_rd rfl (.tmp 20) (.tmp 25) rfl (w.heap.size + 1) g c' n (n + 1) _ HL.out.symm rfl (OO.out.alloc _) _ (some ⟨wr.heap.size, 0, none⟩) [UInt8.ofNat l.length] 1 rfl RD1.out (fun e => by cases e) (by rw [HL.out]; rfl) (by have := HLim.out; omega) (by have := OO.out.base; simp; omega) wb (BW.out.alloc (by have := OO.out.base; omega) _) ?_; intro g2 c2 w2 O2 B2 F2)
            | fail)
          have hn1 := hn.out
          refine ⟨⟨n + 1, k + 1, g2, c2, rfl, Lib.hid (by omega), ?_, B2.out, .inr ⟨trivial, by omega⟩⟩, by simp only [lenOf]; omega⟩
          have := O2.out
          rw [List.append_assoc, ← List.replicate_succ'] at this
          exact this
        · have hltI : ¬ (n : Int) < 128 := by omega
          have hcI : (128 : Int) ≤ c' := by omega
          have hn1 : l.length + k = n := hn.out.symm
          clear hE
          go_wp2_with fail
          go_ret
          have hsec : Dk.secOf l true = (l.take 300 ++ List.replicate k (UInt8.ofNat l.length)).take 128 := by
            show ((l.take 300) ++ List.replicate (128 - (l.take 300).length) (UInt8.ofNat l.length)).take 128 = _
            rw [HT.out]
            rcases HK.out with hk | hk
            · subst hk
              rw [show 128 - l.length = 0 by omega]
            · rw [show 128 - l.length = k by omega]
          have hl128 : (Dk.secOf l true).length = 128 := by rw [hsec, List.length_take, HL.out]; omega
          refine ⟨g, 128, c', cur, rfl, hl128.symm, by omega, HO1.out, by have := HO2.out; rw [HL.out] at this; omega, ?_, HFin.out⟩
          have := congrArg (List.take 128) HO3.out
          rw [HL.out, List.take_take, Nat.min_eq_left (by omega)] at this
          rw [this, hsec]
          exact List.map_take.symm
end Go.Proofs.Ytpgpalnnmoanpaa

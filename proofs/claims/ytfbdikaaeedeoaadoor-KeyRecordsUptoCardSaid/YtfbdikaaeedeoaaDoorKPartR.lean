/-
  Bytes are read as a part of a key.
-/
import Derived.Test.YtfbdikaaeedeoaaDoorKRead
namespace Go.Proofs.YtfbdikaaeedeoaaDoor
open Go.RowKit Go.Maps
set_option maxRecDepth 100000

def PartPost (w : World) (R : Nat) (s : List UInt8) (e : Ending) (w' : World) : Prop :=
  (match Ky.readPart s with
    | none => e = .returned (.tuple #[partV ⟨false, 0, []⟩, .bool false]) ∧ ∃ s', RAt w' R s'
    | some (p, r) => e = .returned (.tuple #[partV p, .bool true]) ∧ RAt w' R r) ∧ Fr (oneB R) w w'
theorem part_none {w w' : World} {R : Nat} {s : List UInt8} (h : Ky.readPart s = none) (hr : ∃ s', RAt w' R s') (f : Fr (oneB R) w w') : PartPost w R s (.returned (.tuple #[.agg #[.bool false, .int .i64 0, .string ⟨#[]⟩], .bool false])) w' := by
  unfold PartPost
  rw [h]
  exact ⟨⟨rfl, hr⟩, f⟩
theorem part_some {w w' : World} {R : Nat} {s r : List UInt8} {p : Ky.Part} (h : Ky.readPart s = some (p, r)) (hr : RAt w' R r) (f : Fr (oneB R) w w') : PartPost w R s (.returned (.tuple #[partV p, .bool true])) w' := by
  unfold PartPost
  rw [h]
  exact ⟨⟨rfl, hr⟩, f⟩
/-- the result's variable -/
abbrev VarP (w : World) (V : Nat) (p : Ky.Part) : Prop := Has w V 38 #[.bool p.text, .int .i64 p.n, bstr p.say]
theorem or_low (n c : Nat) (hc : c < 256) (hn : n < 72057594037927936) : bits .or .u64 ((n * 256 : Nat) : Int) (c : Int) = ((n * 256 + c : Nat) : Int) := by
  rw [u64_or_nat _ _ (by omega) (by omega)]
  congr 1
  have := Nat.two_pow_add_eq_or_of_lt (i := 8) (b := c) (by omega) n
  rw [show n * 256 = 2 ^ 8 * n by omega]
  exact this.symm
theorem toN8_lt' (l : List UInt8) (h : l.length = 8) : Pr.toN l < 18446744073709551616 := Ky.toN8_lt l h
theorem toN_take (l : List UInt8) (k : Nat) (h : k < l.length) : Pr.toN (l.take (k + 1)) = Pr.toN (l.take k) * 256 + l[k].toNat := by
  rw [List.take_succ_eq_append_getElem h, Pr.toN_snoc]
theorem var_set {w w2 : World} {R : Nat} {s : List UInt8} (hr : RAt w2 R s) (f : Fr (oneB R) w w2) (hR : R < w.heap.size) (x y z : Value) :
    RAt (((w2.setCell ⟨w.heap.size, 0, none⟩ x).setCell ⟨w.heap.size, 1, none⟩ y).setCell ⟨w.heap.size, 2, none⟩ z) R s ∧ Fr (oneB R) w (((w2.setCell ⟨w.heap.size, 0, none⟩ x).setCell ⟨w.heap.size, 1, none⟩ y).setCell ⟨w.heap.size, 2, none⟩ z) :=
  ⟨((hr.far (p := ⟨w.heap.size, 0, none⟩) (by show R ≠ w.heap.size; omega) x).far (p := ⟨w.heap.size, 1, none⟩) (by show R ≠ w.heap.size; omega) y).far (p := ⟨w.heap.size, 2, none⟩) (by show R ≠ w.heap.size; omega) z,
    ((f.setAt (.inr (Nat.le_refl _)) x).setAt (.inr (Nat.le_refl _)) y).setAt (.inr (Nat.le_refl _)) z⟩
set_option maxHeartbeats 3200000 in
theorem part_any (w : World) (R : Nat) (s : List UInt8) (h : RAt w R s) (hs : s.length ≤ 100000000) :
    Calls Tryd.prog 39 #[.pointer (some ⟨R, 0, none⟩)] w (PartPost w R s) := by
  have HRW := Lib.hid h.lt
  have HRA : Hid (RAt (w.alloc (.cells #[.bool false, .int .i64 0, .string ⟨#[]⟩] 38)) R s) := Lib.hid (h.alloc _)
  have HFA : Hid (Fr (oneB R) w (w.alloc (.cells #[.bool false, .int .i64 0, .string ⟨#[]⟩] 38))) := Lib.hid ((Fr.refl _ _).alloc _)
  have HV : Hid (VarP (w.alloc (.cells #[.bool false, .int .i64 0, .string ⟨#[]⟩] 38)) w.heap.size ⟨false, 0, []⟩) := Lib.hid (Has.of_alloc _ _ _)
  have HS := Lib.hid hs
  clear h hs
  cases s with
  | nil =>
    have HT := Lib.hid (take_no _ R [] HRA.out 1 (by decide) (by decide) (by decide))
    rw [show ((1 : Nat) : Int) = 1 from rfl] at HT
    unfold bstr at HT
    go_enter Tryd.func39, Tryd.ntmps39
    go_wp2_with fail
    refine HT.out.mono ?_
    rintro e w' ⟨rfl, rfl⟩
    go_wp2_with fail
    exact bodyPost_ret (v := .tuple #[.agg #[.bool false, .int .i64 0, .string ⟨#[]⟩], .bool false]) (by simp [results, Tryd.results39, go_sem]) rfl (part_none rfl ⟨_, HRA.out⟩ HFA.out)
  | cons b r =>
    have HT := Lib.hid (take_yes _ R (b :: r) HRA.out 1 (by simp) (by have := HS.out; omega))
    rw [show ((1 : Nat) : Int) = 1 from rfl, show (b :: r).take 1 = [b] from rfl, show (b :: r).drop 1 = r from rfl] at HT
    unfold bstr at HT
    go_enter Tryd.func39, Tryd.ntmps39
    go_wp2_with fail
    refine HT.out.mono ?_
    rintro e w2 ⟨rfl, hr2, hf2, hz2⟩
    have HR2 := Lib.hid hr2
    have HF2 : Hid (Fr (oneB R) w w2) := Lib.hid (HFA.out.trans hf2 (fun _ _ h => h))
    have HV2 : Hid (VarP w2 w.heap.size ⟨false, 0, []⟩) := Lib.hid (HV.out.keep hf2 (fun e => by have e : w.heap.size = R := e; have := HRW.out; omega))
    clear hr2 hf2 hz2
    have v0 : w2.cell? ⟨w.heap.size, 0, none⟩ = some (.bool false) := HV2.out.cell 0
    have v1 : w2.cell? ⟨w.heap.size, 1, none⟩ = some (.int .i64 0) := HV2.out.cell 1
    have v2 : w2.cell? ⟨w.heap.size, 2, none⟩ = some (.string ⟨#[]⟩) := HV2.out.cell 2
    have f0 := HV2.out.free 0
    have f1 := HV2.out.free 1
    have f2 := HV2.out.free 2
    by_cases h1 : b = 1
    · subst h1
      by_cases h8 : r.length < 8
      · have HT8 := Lib.hid (take_no w2 R r HR2.out 8 (by decide) h8 (by omega))
        rw [show ((8 : Nat) : Int) = 8 from rfl] at HT8
        have HP : Hid (Ky.readPart (1 :: r) = none) := Lib.hid (by rw [Ky.readPart, if_pos rfl, if_pos h8])
        clear h8
        unfold bstr at HT8
        go_wp2_with fail
        refine HT8.out.mono ?_
        rintro e w' ⟨rfl, rfl⟩
        go_wp2_with fail
        obtain ⟨hx, hf⟩ := var_set HR2.out HF2.out HRW.out (.bool false) (.int .i64 0) (.string ⟨#[]⟩)
        exact bodyPost_ret (v := .tuple #[.agg #[.bool false, .int .i64 0, .string ⟨#[]⟩], .bool false]) (by simp [results, Tryd.results39, go_sem, v0, v1, v2]) rfl (part_none HP.out ⟨_, hx⟩ hf)
      · have HT8 := Lib.hid (take_yes w2 R r HR2.out 8 (by omega) (by have := HS.out; simp at this; omega))
        rw [show ((8 : Nat) : Int) = 8 from rfl] at HT8
        have HP : Hid (Ky.readPart (1 :: r) = some (⟨false, Ky.unshift (Pr.toN (r.take 8)), []⟩, r.drop 8)) := Lib.hid (by rw [Ky.readPart, if_pos rfl, if_neg h8])
        have hl8 : (r.take 8).length = 8 := by rw [List.length_take]; omega
        generalize r.take 8 = t at *
        generalize r.drop 8 = r' at *
        clear h8 v0 v1 v2 f0 f1 f2
        unfold bstr at HT8
        go_wp2_with fail
        refine HT8.out.mono ?_
        rintro e w3 ⟨rfl, hr3, hf3, -⟩
        have HR3 := Lib.hid hr3
        have HF3 : Hid (Fr (oneB R) w w3) := Lib.hid (HF2.out.trans hf3 (fun _ _ h => h))
        have HV3 : Hid (VarP w3 w.heap.size ⟨false, 0, []⟩) := Lib.hid (HV2.out.keep hf3 (fun e => by have e : w.heap.size = R := e; have := HRW.out; omega))
        have v0 : w3.cell? ⟨w.heap.size, 0, none⟩ = some (.bool false) := HV3.out.cell 0
        have v1 : w3.cell? ⟨w.heap.size, 1, none⟩ = some (.int .i64 0) := HV3.out.cell 1
        have v2 : w3.cell? ⟨w.heap.size, 2, none⟩ = some (.string ⟨#[]⟩) := HV3.out.cell 2
        have f0 := HV3.out.free 0
        have f1 := HV3.out.free 1
        have f2 := HV3.out.free 2
        clear hr3 hf3
        have HL8 := Lib.hid hl8
        have hl8' : (t.length : Int) ≤ 8 := by omega
        clear hl8
        go_wp2_with fail
        go_loop [8, 30] (fun x i => ∃ k : Nat, k ≤ t.length ∧ i = .int .i64 k ∧ x = .int .u64 ((Pr.toN (t.take k) : Nat) : Int)) (fun _ i => t.length - (intOf i).toNat)
        case atStart => exact ⟨0, Nat.zero_le _, rfl, rfl⟩
        case round =>
          obtain ⟨k, hk, rfl, rfl⟩ := hrel
          by_cases hlt : k < t.length
          · have hx7 : Pr.toN (t.take k) < 72057594037927936 := by
              have h1 := Pr.toN_lt (t.take k)
              have h2 : (t.take k).length ≤ 7 := by have := HL8.out; rw [List.length_take]; omega
              have h3 : 256 ^ (t.take k).length ≤ 256 ^ 7 := Nat.pow_le_pow_right (by decide) h2
              have h4 : (256 : Nat) ^ 7 = 72057594037927936 := by decide
              omega
            have hnx := toN_take t k hlt
            obtain ⟨c, hc⟩ : ∃ c, t[k] = c := ⟨_, rfl⟩
            have hix : ∀ h, (ByteArray.mk t.toArray)[k]'h = c := fun h => by
              rw [← hc]
              show t.toArray[k] = t[k]
              rw [List.getElem_toArray]
            rw [hc] at hnx
            have hol := or_low (Pr.toN (t.take k)) c.toNat c.toNat_lt hx7
            have hc256 : (c.toNat : Int) < 256 := by have := c.toNat_lt; omega
            clear hc
            generalize Pr.toN (t.take k) = x at *
            rw [show ((x * 256 : Nat) : Int) = (x : Int) * 256 by omega] at hol
            have HNX := Lib.hid hnx
            have hx7' : (x : Int) < 72057594037927936 := by omega
            clear hnx hx7
            go_wp2_with fail
            go_round
            case rel => exact ⟨k + 1, by omega, by go_num, by rw [HNX.out]; go_num⟩
            case measure => simp [intOf]; omega
          · obtain rfl : k = t.length := by omega
            rw [List.take_length]
            have hv := toN8_lt' t HL8.out
            have hsg := Ky.sign_off (Pr.toN t) hv
            generalize Pr.toN t = x at *
            have HNM := Lib.hid (num_any w3 (Ky.unshift x))
            unfold partV at HNM
            clear hv
            go_wp2_with fail
            refine HNM.out.mono ?_
            rintro e w4 ⟨rfl, hb4⟩
            have HV4 := HV3.out.keep (Fr.of_below hb4 noB) (fun e => e)
            have HR4 : Hid (RAt w4 R r') := Lib.hid (HR3.out.keep (Fr.of_below hb4 noB) (fun e => e))
            have HF4 : Hid (Fr (oneB R) w w4) := Lib.hid (fr_below HF3.out (hb4.mono HF3.out.size))
            clear hb4 v0 v1 v2 f0 f1 f2
            have v0 : w4.cell? ⟨w.heap.size, 0, none⟩ = some (.bool false) := HV4.cell 0
            have v1 : w4.cell? ⟨w.heap.size, 1, none⟩ = some (.int .i64 0) := HV4.cell 1
            have v2 : w4.cell? ⟨w.heap.size, 2, none⟩ = some (.string ⟨#[]⟩) := HV4.cell 2
            have f0 := HV4.free 0
            have f1 := HV4.free 1
            have f2 := HV4.free 2
            unfold bstr
            go_wp2_with fail
            obtain ⟨hx, hf⟩ := var_set HR4.out HF4.out HRW.out (.bool false) (.int .i64 (Ky.unshift x)) (.string ⟨#[]⟩)
            exact bodyPost_ret (v := .tuple #[.agg #[.bool false, .int .i64 (Ky.unshift x), .string ⟨#[]⟩], .bool true]) (by simp [results, Tryd.results39, go_sem, v0, v1, v2]) rfl (part_some HP.out hx hf)
    · by_cases h2 : b = 2
      · subst h2
        have HTX := Lib.hid (text_any w2 R r HR2.out (by have := HS.out; simp at this; omega))
        unfold TextPost at HTX
        cases hrt : Ky.readText r with
        | none =>
          rw [hrt] at HTX
          have HP : Hid (Ky.readPart (2 :: r) = none) := Lib.hid (by rw [Ky.readPart, if_neg (by decide), if_pos rfl, hrt]; rfl)
          go_wp2_with fail
          refine HTX.out.mono ?_
          rintro e w3 ⟨⟨rfl, s', hr3⟩, hf3⟩
          have HR3 := Lib.hid hr3
          have HF3 : Hid (Fr (oneB R) w w3) := Lib.hid (HF2.out.trans hf3 (fun _ _ h => h))
          have HV3 : Hid (VarP w3 w.heap.size ⟨false, 0, []⟩) := Lib.hid (HV2.out.keep hf3 (fun e => by have e : w.heap.size = R := e; have := HRW.out; omega))
          clear v0 v1 v2 f0 f1 f2 hr3 hf3
          have v0 : w3.cell? ⟨w.heap.size, 0, none⟩ = some (.bool false) := HV3.out.cell 0
          have v1 : w3.cell? ⟨w.heap.size, 1, none⟩ = some (.int .i64 0) := HV3.out.cell 1
          have v2 : w3.cell? ⟨w.heap.size, 2, none⟩ = some (.string ⟨#[]⟩) := HV3.out.cell 2
          have f0 := HV3.out.free 0
          have f1 := HV3.out.free 1
          have f2 := HV3.out.free 2
          unfold bstr
          go_wp2_with fail
          obtain ⟨hx, hf⟩ := var_set HR3.out HF3.out HRW.out (.bool false) (.int .i64 0) (.string ⟨#[]⟩)
          exact bodyPost_ret (v := .tuple #[.agg #[.bool false, .int .i64 0, .string ⟨#[]⟩], .bool false]) (by simp [results, Tryd.results39, go_sem, v0, v1, v2]) rfl (part_none HP.out ⟨_, hx⟩ hf)
        | some x =>
          obtain ⟨a, r'⟩ := x
          rw [hrt] at HTX
          have HP : Hid (Ky.readPart (2 :: r) = some (⟨true, 0, a⟩, r')) := Lib.hid (by rw [Ky.readPart, if_neg (by decide), if_pos rfl, hrt]; rfl)
          go_wp2_with fail
          refine HTX.out.mono ?_
          rintro e w3 ⟨⟨rfl, hr3⟩, hf3⟩
          have HR3 := Lib.hid hr3
          have HF3 : Hid (Fr (oneB R) w w3) := Lib.hid (HF2.out.trans hf3 (fun _ _ h => h))
          have HV3 : Hid (VarP w3 w.heap.size ⟨false, 0, []⟩) := Lib.hid (HV2.out.keep hf3 (fun e => by have e : w.heap.size = R := e; have := HRW.out; omega))
          have HSP := Lib.hid (strp_any w3 a)
          unfold partV at HSP
          clear v0 v1 v2 f0 f1 f2 hr3 hf3
          unfold bstr at *
          go_wp2_with fail
          refine HSP.out.mono ?_
          rintro e w4 ⟨rfl, hb4⟩
          have HV4 := HV3.out.keep (Fr.of_below hb4 noB) (fun e => e)
          have HR4 : Hid (RAt w4 R r') := Lib.hid (HR3.out.keep (Fr.of_below hb4 noB) (fun e => e))
          have HF4 : Hid (Fr (oneB R) w w4) := Lib.hid (fr_below HF3.out (hb4.mono HF3.out.size))
          clear hb4
          have v0 : w4.cell? ⟨w.heap.size, 0, none⟩ = some (.bool false) := HV4.cell 0
          have v1 : w4.cell? ⟨w.heap.size, 1, none⟩ = some (.int .i64 0) := HV4.cell 1
          have v2 : w4.cell? ⟨w.heap.size, 2, none⟩ = some (.string ⟨#[]⟩) := HV4.cell 2
          have f0 := HV4.free 0
          have f1 := HV4.free 1
          have f2 := HV4.free 2
          go_wp2_with fail
          obtain ⟨hx, hf⟩ := var_set HR4.out HF4.out HRW.out (.bool true) (.int .i64 0) (.string ⟨a.toArray⟩)
          exact bodyPost_ret (v := .tuple #[.agg #[.bool true, .int .i64 0, .string ⟨a.toArray⟩], .bool true]) (by simp [results, Tryd.results39, go_sem, v0, v1, v2]) rfl (part_some HP.out hx hf)
      · have e1 : (([b] : List UInt8) == [1]) = false := beq_false_of_ne fun e => h1 (by injection e)
        have e2 : (([b] : List UInt8) == [2]) = false := beq_false_of_ne fun e => h2 (by injection e)
        have HP : Hid (Ky.readPart (b :: r) = none) := Lib.hid (by rw [Ky.readPart, if_neg h1, if_neg h2])
        go_wp2_with fail
        obtain ⟨hx, hf⟩ := var_set HR2.out HF2.out HRW.out (.bool false) (.int .i64 0) (.string ⟨#[]⟩)
        exact bodyPost_ret (v := .tuple #[.agg #[.bool false, .int .i64 0, .string ⟨#[]⟩], .bool false]) (by simp [results, Tryd.results39, go_sem, v0, v1, v2]) rfl (part_none HP.out ⟨_, hx⟩ hf)
end Go.Proofs.YtfbdikaaeedeoaaDoor

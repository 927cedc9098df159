/-
  The greater one of two metas.
-/
import Derived.Test.YthlmjnlakenmoaaPMeta
namespace Go.Proofs.Ythlmjnlakenmoaa
open Go.RowKit Go.Maps
set_option maxRecDepth 100000

def Pr.latest : Option (Nat × Nat) → Option (Nat × Nat) → Option (Nat × Nat)
  | some x, some y => if y.1 > x.1 then some y else some x
  | some x, none => some x
  | none, o => o
def metaCells : Option (Nat × Nat) → Array Value
  | some (x, y) => #[.int .i64 (x : Int), .int .i64 (y : Int)]
  | none => #[.int .i64 0, .int .i64 0]
theorem metaRes_eq (o : Option (Nat × Nat)) : metaRes o = .tuple #[.agg (metaCells o), .bool o.isSome] := by
  cases o <;> rfl
/-- behind k rounds -/
def Pr.acc (a b : Option (Nat × Nat)) : Nat → Option (Nat × Nat)
  | 0 => none
  | 1 => a
  | _ => Pr.latest a b
set_option maxHeartbeats 1600000 in
theorem latest_any (w : World) (Sd R : Nat → Prop) (b db : Nat) (d : Dk.St) (h : DiskAt w Sd R db d) (hdead : d.dead = false) (hp : w.cell? ⟨b, 0, none⟩ = some (.pointer (some ⟨db, 0, none⟩))) (hn : 8 ≤ d.lasts.length) :
    Calls Try.prog 36 #[.func (.func 37) #[.pointer (some ⟨b, 0, none⟩)] #[]] w fun e w' => e = .returned (metaRes (Pr.latest (Pr.metaOf 0 (d.lasts.length / 4) (d.page 0)) (Pr.metaOf 1 (d.lasts.length / 4) (d.page 1)))) ∧ Below w.heap.size w w' := by
  have hblt := block_lt_of_cell hp
  have hm : ∀ W, Below w.heap.size w W → ∀ n : Nat, n * 4 + 4 ≤ d.lasts.length → Calls Try.prog 37 #[.pointer (some ⟨b, 0, none⟩), .int .i64 (n : Int)] W fun e w' => e = .returned (metaRes (Pr.metaOf n (d.lasts.length / 4) (d.page n))) ∧ Below W.heap.size W w' := fun W hW n hn =>
    meta_any W Sd R b db d (h.keep (Fr.of_below hW noB) (fun _ e => e.elim)) hdead ((World.cell?_of_block (hW.block b hblt)).trans hp) n hn
  have h0 := fun W hW => hm W hW 0 (by omega)
  have h1 := fun W hW => hm W hW 1 (by omega)
  rw [show ((0 : Nat) : Int) = 0 from rfl] at h0
  rw [show ((1 : Nat) : Int) = 1 from rfl] at h1
  generalize Pr.metaOf 0 (d.lasts.length / 4) (d.page 0) = m0 at *
  generalize Pr.metaOf 1 (d.lasts.length / 4) (d.page 1) = m1 at *
  have H0 := Lib.hid h0
  have H1 := Lib.hid h1
  have hb0 : Below w.heap.size w ((w.alloc (.cells #[.int .i64 0, .int .i64 0] 76)).alloc (.cells #[.int .i64 0, .int .i64 0] 76)) := ((Below.refl _ _).alloc (Nat.le_refl _) _).alloc (by simp) _
  have hr0 : Has ((w.alloc (.cells #[.int .i64 0, .int .i64 0] 76)).alloc (.cells #[.int .i64 0, .int .i64 0] 76)) w.heap.size 76 #[.int .i64 0, .int .i64 0] := (Has.of_alloc _ _ _).alloc _
  have hc0 : Has ((w.alloc (.cells #[.int .i64 0, .int .i64 0] 76)).alloc (.cells #[.int .i64 0, .int .i64 0] 76)) (w.heap.size + 1) 76 #[.int .i64 0, .int .i64 0] := by
    have := Has.of_alloc (w.alloc (.cells #[.int .i64 0, .int .i64 0] 76)) 76 #[.int .i64 0, .int .i64 0]
    simpa using this
  have HB := Lib.hid hb0
  have HR := Lib.hid hr0
  have HC := Lib.hid hc0
  clear h hp hm h0 h1 hb0 hr0 hc0
  go_enter Try.func36, Try.ntmps36
  go_wp2_with fail
  go_loopw [5, 9] (fun found i wr => ∃ k : Nat, k ≤ 2 ∧ i = .int .i64 k ∧ found = .bool (Pr.acc m0 m1 k).isSome ∧ Has wr (w.heap.size + 1) 76 (metaCells (Pr.acc m0 m1 k)) ∧ Has wr w.heap.size 76 #[.int .i64 0, .int .i64 0] ∧ Below w.heap.size w wr) (fun _ i _ => 2 - (intOf i).toNat)
  case atStart => exact ⟨0, by omega, rfl, rfl, HC.out, HR.out, HB.out⟩
  case round =>
    rename_i wr
    obtain ⟨k, hk, rfl, rfl, hc, hr, hb⟩ := hrel
    have HC' := Lib.hid hc
    have HR' := Lib.hid hr
    have HB' := Lib.hid hb
    have hsz := hb.size
    have hk1 := hc.lt
    clear hc hr hb
    have : k = 0 ∨ k = 1 ∨ k = 2 := by omega
    rcases this with rfl | rfl | rfl
    · have e0 : Pr.acc m0 m1 0 = none := rfl
      rw [e0] at HC' ⊢
      go_wp2_with fail
      refine (H0.out wr HB'.out).mono ?_
      rintro e w2 ⟨rfl, hb2⟩
      have hc2 := HC'.out.keep (Fr.of_below hb2 noB) (fun e => e)
      have hr2 := HR'.out.keep (Fr.of_below hb2 noB) (fun e => e)
      have hB2 := HB'.out.trans (hb2.mono hsz)
      have hz2 := hb2.size
      clear hb2
      cases m0 with
      | none =>
        have HC2 := Lib.hid hc2
        have HR2 := Lib.hid hr2
        have HB2 := Lib.hid hB2
        clear hc2 hr2 hB2
        unfold metaRes
        go_wp2_with fail
        go_roundw
        case rel => exact ⟨1, by omega, rfl, rfl, HC2.out.alloc _, HR2.out.alloc _, HB2.out.alloc (by omega) _⟩
        case measure => simp [intOf]
      | some xy =>
        obtain ⟨x, y⟩ := xy
        have HC2 := Lib.hid hc2
        have HR2 := Lib.hid hr2
        have HB2 := Lib.hid hB2
        have c0 : (w2.alloc (.cells #[.int .i64 (x : Int), .int .i64 (y : Int)] 76)).cell? ⟨w.heap.size + 1, 0, none⟩ = some (.int .i64 0) := (hc2.alloc _).cell 0
        have c1 : (w2.alloc (.cells #[.int .i64 (x : Int), .int .i64 (y : Int)] 76)).cell? ⟨w.heap.size + 1, 1, none⟩ = some (.int .i64 0) := (hc2.alloc _).cell 1
        have z0 : (w2.alloc (.cells #[.int .i64 (x : Int), .int .i64 (y : Int)] 76)).frozen? ⟨w.heap.size + 1, 0, none⟩ = false := (hc2.alloc _).free 0
        have z1 : (w2.alloc (.cells #[.int .i64 (x : Int), .int .i64 (y : Int)] 76)).frozen? ⟨w.heap.size + 1, 1, none⟩ = false := (hc2.alloc _).free 1
        clear hc2 hr2 hB2
        have HE : Hid (Pr.acc (some (x, y)) m1 1 = some (x, y)) := Lib.hid rfl
        unfold metaRes
        go_wp2_with fail
        go_roundw
        case rel => exact ⟨1, by omega, rfl, by rw [HE.out]; rfl, by rw [HE.out]; exact ((HC2.out.alloc _).set 0 _).set 1 _, ((HR2.out.alloc _).far (p := ⟨w.heap.size + 1, 0, none⟩) (by show w.heap.size ≠ w.heap.size + 1; omega) _).far (p := ⟨w.heap.size + 1, 1, none⟩) (by show w.heap.size ≠ w.heap.size + 1; omega) _, ((HB2.out.alloc (by omega) _).setCell (by show w.heap.size ≤ w.heap.size + 1; omega) _).setCell (by show w.heap.size ≤ w.heap.size + 1; omega) _⟩
        case measure => simp [intOf]
    · have e1 : Pr.acc m0 m1 1 = m0 := rfl
      rw [e1] at HC' ⊢
      go_wp2_with fail
      refine (H1.out wr HB'.out).mono ?_
      rintro e w2 ⟨rfl, hb2⟩
      have hc2 := HC'.out.keep (Fr.of_below hb2 noB) (fun e => e)
      have hr2 := HR'.out.keep (Fr.of_below hb2 noB) (fun e => e)
      have hB2 := HB'.out.trans (hb2.mono hsz)
      have hz2 := hb2.size
      clear hb2
      cases m0 with
      | none =>
        cases m1 with
        | none =>
          have HC2 := Lib.hid hc2
          have HR2 := Lib.hid hr2
          have HB2 := Lib.hid hB2
          have c0 : (w2.alloc (.cells #[.int .i64 0, .int .i64 0] 76)).cell? ⟨w.heap.size + 1, 0, none⟩ = some (.int .i64 0) := (hc2.alloc _).cell 0
          have c1 : (w2.alloc (.cells #[.int .i64 0, .int .i64 0] 76)).cell? ⟨w.heap.size + 1, 1, none⟩ = some (.int .i64 0) := (hc2.alloc _).cell 1
          have z0 : (w2.alloc (.cells #[.int .i64 0, .int .i64 0] 76)).frozen? ⟨w.heap.size + 1, 0, none⟩ = false := (hc2.alloc _).free 0
          have z1 : (w2.alloc (.cells #[.int .i64 0, .int .i64 0] 76)).frozen? ⟨w.heap.size + 1, 1, none⟩ = false := (hc2.alloc _).free 1
          clear hc2 hr2 hB2
          have HE : Hid (Pr.acc none none 2 = none) := Lib.hid rfl
          unfold metaRes
          go_wp2_with fail
          go_roundw
          case rel => exact ⟨2, by omega, rfl, by rw [HE.out]; rfl, by rw [HE.out]; exact HC2.out.alloc _, HR2.out.alloc _, HB2.out.alloc (by omega) _⟩
          case measure => simp [intOf]
        | some xy =>
          obtain ⟨x, y⟩ := xy
          have HC2 := Lib.hid hc2
          have HR2 := Lib.hid hr2
          have HB2 := Lib.hid hB2
          have c0 : (w2.alloc (.cells #[.int .i64 (x : Int), .int .i64 (y : Int)] 76)).cell? ⟨w.heap.size + 1, 0, none⟩ = some (.int .i64 0) := (hc2.alloc _).cell 0
          have c1 : (w2.alloc (.cells #[.int .i64 (x : Int), .int .i64 (y : Int)] 76)).cell? ⟨w.heap.size + 1, 1, none⟩ = some (.int .i64 0) := (hc2.alloc _).cell 1
          have z0 : (w2.alloc (.cells #[.int .i64 (x : Int), .int .i64 (y : Int)] 76)).frozen? ⟨w.heap.size + 1, 0, none⟩ = false := (hc2.alloc _).free 0
          have z1 : (w2.alloc (.cells #[.int .i64 (x : Int), .int .i64 (y : Int)] 76)).frozen? ⟨w.heap.size + 1, 1, none⟩ = false := (hc2.alloc _).free 1
          clear hc2 hr2 hB2
          have HE : Hid (Pr.acc none (some (x, y)) 2 = some (x, y)) := Lib.hid rfl
          unfold metaRes
          go_wp2_with fail
          go_roundw
          case rel => exact ⟨2, by omega, rfl, by rw [HE.out]; rfl, by rw [HE.out]; exact ((HC2.out.alloc _).set 0 _).set 1 _, ((HR2.out.alloc _).far (p := ⟨w.heap.size + 1, 0, none⟩) (by show w.heap.size ≠ w.heap.size + 1; omega) _).far (p := ⟨w.heap.size + 1, 1, none⟩) (by show w.heap.size ≠ w.heap.size + 1; omega) _, ((HB2.out.alloc (by omega) _).setCell (by show w.heap.size ≤ w.heap.size + 1; omega) _).setCell (by show w.heap.size ≤ w.heap.size + 1; omega) _⟩
          case measure => simp [intOf]
      | some uv =>
        obtain ⟨u, v⟩ := uv
        cases m1 with
        | none =>
          have HC2 := Lib.hid hc2
          have HR2 := Lib.hid hr2
          have HB2 := Lib.hid hB2
          have c0 : (w2.alloc (.cells #[.int .i64 0, .int .i64 0] 76)).cell? ⟨w.heap.size + 1, 0, none⟩ = some (.int .i64 (u : Int)) := (hc2.alloc _).cell 0
          have c1 : (w2.alloc (.cells #[.int .i64 0, .int .i64 0] 76)).cell? ⟨w.heap.size + 1, 1, none⟩ = some (.int .i64 (v : Int)) := (hc2.alloc _).cell 1
          have z0 : (w2.alloc (.cells #[.int .i64 0, .int .i64 0] 76)).frozen? ⟨w.heap.size + 1, 0, none⟩ = false := (hc2.alloc _).free 0
          have z1 : (w2.alloc (.cells #[.int .i64 0, .int .i64 0] 76)).frozen? ⟨w.heap.size + 1, 1, none⟩ = false := (hc2.alloc _).free 1
          clear hc2 hr2 hB2
          have HE : Hid (Pr.acc (some (u, v)) none 2 = some (u, v)) := Lib.hid rfl
          unfold metaRes
          go_wp2_with fail
          go_roundw
          case rel => exact ⟨2, by omega, rfl, by rw [HE.out]; rfl, by rw [HE.out]; exact HC2.out.alloc _, HR2.out.alloc _, HB2.out.alloc (by omega) _⟩
          case measure => simp [intOf]
        | some xy =>
          obtain ⟨x, y⟩ := xy
          by_cases hgt : x > u
          · have HC2 := Lib.hid hc2
            have HR2 := Lib.hid hr2
            have HB2 := Lib.hid hB2
            have c0 : (w2.alloc (.cells #[.int .i64 (x : Int), .int .i64 (y : Int)] 76)).cell? ⟨w.heap.size + 1, 0, none⟩ = some (.int .i64 (u : Int)) := (hc2.alloc _).cell 0
            have c1 : (w2.alloc (.cells #[.int .i64 (x : Int), .int .i64 (y : Int)] 76)).cell? ⟨w.heap.size + 1, 1, none⟩ = some (.int .i64 (v : Int)) := (hc2.alloc _).cell 1
            have z0 : (w2.alloc (.cells #[.int .i64 (x : Int), .int .i64 (y : Int)] 76)).frozen? ⟨w.heap.size + 1, 0, none⟩ = false := (hc2.alloc _).free 0
            have z1 : (w2.alloc (.cells #[.int .i64 (x : Int), .int .i64 (y : Int)] 76)).frozen? ⟨w.heap.size + 1, 1, none⟩ = false := (hc2.alloc _).free 1
            clear hc2 hr2 hB2
            have HE : Hid (Pr.acc (some (u, v)) (some (x, y)) 2 = some (x, y)) := Lib.hid (by show (if x > u then some (x, y) else some (u, v)) = _; rw [if_pos hgt])
            have hgi : (u : Int) < (x : Int) := by omega
            clear hgt
            unfold metaRes
            go_wp2_with fail
            go_roundw
            case rel => exact ⟨2, by omega, rfl, by rw [HE.out]; rfl, by rw [HE.out]; exact ((HC2.out.alloc _).set 0 _).set 1 _, ((HR2.out.alloc _).far (p := ⟨w.heap.size + 1, 0, none⟩) (by show w.heap.size ≠ w.heap.size + 1; omega) _).far (p := ⟨w.heap.size + 1, 1, none⟩) (by show w.heap.size ≠ w.heap.size + 1; omega) _, ((HB2.out.alloc (by omega) _).setCell (by show w.heap.size ≤ w.heap.size + 1; omega) _).setCell (by show w.heap.size ≤ w.heap.size + 1; omega) _⟩
            case measure => simp [intOf]
          · have HC2 := Lib.hid hc2
            have HR2 := Lib.hid hr2
            have HB2 := Lib.hid hB2
            have c0 : (w2.alloc (.cells #[.int .i64 (x : Int), .int .i64 (y : Int)] 76)).cell? ⟨w.heap.size + 1, 0, none⟩ = some (.int .i64 (u : Int)) := (hc2.alloc _).cell 0
            have c1 : (w2.alloc (.cells #[.int .i64 (x : Int), .int .i64 (y : Int)] 76)).cell? ⟨w.heap.size + 1, 1, none⟩ = some (.int .i64 (v : Int)) := (hc2.alloc _).cell 1
            have z0 : (w2.alloc (.cells #[.int .i64 (x : Int), .int .i64 (y : Int)] 76)).frozen? ⟨w.heap.size + 1, 0, none⟩ = false := (hc2.alloc _).free 0
            have z1 : (w2.alloc (.cells #[.int .i64 (x : Int), .int .i64 (y : Int)] 76)).frozen? ⟨w.heap.size + 1, 1, none⟩ = false := (hc2.alloc _).free 1
            clear hc2 hr2 hB2
            have HE : Hid (Pr.acc (some (u, v)) (some (x, y)) 2 = some (u, v)) := Lib.hid (by show (if x > u then some (x, y) else some (u, v)) = _; rw [if_neg hgt])
            have hgi : (x : Int) ≤ (u : Int) := by omega
            clear hgt
            unfold metaRes
            go_wp2_with fail
            go_roundw
            case rel => exact ⟨2, by omega, rfl, by rw [HE.out]; rfl, by rw [HE.out]; exact HC2.out.alloc _, HR2.out.alloc _, HB2.out.alloc (by omega) _⟩
            case measure => simp [intOf]
    · have e2 : Pr.acc m0 m1 2 = Pr.latest m0 m1 := rfl
      rw [e2] at HC' ⊢
      have y0 : wr.cell? ⟨w.heap.size, 0, none⟩ = some (.int .i64 0) := HR'.out.cell 0
      have y1 : wr.cell? ⟨w.heap.size, 1, none⟩ = some (.int .i64 0) := HR'.out.cell 1
      have z0 := HR'.out.free 0
      have z1 := HR'.out.free 1
      generalize hlo : Pr.latest m0 m1 = o at *
      have HLO := Lib.hid hlo
      clear hlo
      cases o with
      | none =>
        have c0 : wr.cell? ⟨w.heap.size + 1, 0, none⟩ = some (.int .i64 0) := HC'.out.cell 0
        have c1 : wr.cell? ⟨w.heap.size + 1, 1, none⟩ = some (.int .i64 0) := HC'.out.cell 1
        go_wp2_with fail
        obtain ⟨fs, hfs⟩ := und_meta
        refine bodyPost_ret (ret_cell rfl _ ((HR'.out.set 0 _).set 1 _) (.struct fs) rfl hfs rfl siz_meta) rfl ?_
        rw [HLO.out]
        exact ⟨rfl, (HB'.out.setCell (Nat.le_refl _) _).setCell (Nat.le_refl _) _⟩
      | some xy =>
        obtain ⟨x, y⟩ := xy
        have c0 : wr.cell? ⟨w.heap.size + 1, 0, none⟩ = some (.int .i64 (x : Int)) := HC'.out.cell 0
        have c1 : wr.cell? ⟨w.heap.size + 1, 1, none⟩ = some (.int .i64 (y : Int)) := HC'.out.cell 1
        go_wp2_with fail
        obtain ⟨fs, hfs⟩ := und_meta
        refine bodyPost_ret (ret_cell rfl _ ((HR'.out.set 0 _).set 1 _) (.struct fs) rfl hfs rfl siz_meta) rfl ?_
        rw [HLO.out]
        exact ⟨rfl, (HB'.out.setCell (Nat.le_refl _) _).setCell (Nat.le_refl _) _⟩
end Go.Proofs.Ythlmjnlakenmoaa

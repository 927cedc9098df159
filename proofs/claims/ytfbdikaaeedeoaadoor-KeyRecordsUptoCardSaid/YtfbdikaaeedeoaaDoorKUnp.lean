/-
  Bytes are read as a key.
-/
import Derived.Test.YtfbdikaaeedeoaaDoorKPartR
import Derived.Test.YtfbdikaaeedeoaaDoorKRow
namespace Go.Proofs.YtfbdikaaeedeoaaDoor
open Go.RowKit Go.Maps
set_option maxRecDepth 100000

/-- an answer of parts: the parts that the bytes are, or the refusal -/
def UnpPost (e0 : TypeId) (w : World) (s : List UInt8) (e : Ending) (w' : World) : Prop :=
  (match Ky.unpacked s with
    | none => e = .returned (.tuple #[.slice none 0 0, .int .i64 4])
    | some l => ∃ v, e = .returned (.tuple #[v, .int .i64 0]) ∧ OwnPs e0 w' w.heap.size v l) ∧ Below w.heap.size w w'
theorem unp_none {e0 : TypeId} {w w' : World} {s : List UInt8} (h : Ky.unpacked s = none) (hb : Below w.heap.size w w') : UnpPost e0 w s (.returned (.tuple #[.slice none 0 0, .int .i64 4])) w' := by
  unfold UnpPost
  rw [h]
  exact ⟨rfl, hb⟩
theorem unp_some {e0 : TypeId} {w w' : World} {s : List UInt8} {l : List Ky.Part} {v : Value} (h : Ky.unpacked s = some l) (ho : OwnPs e0 w' w.heap.size v l) (hb : Below w.heap.size w w') : UnpPost e0 w s (.returned (.tuple #[v, .int .i64 0])) w' := by
  unfold UnpPost
  rw [h]
  exact ⟨⟨v, rfl, ho⟩, hb⟩
/-- where the loop stands: d is read, l is left, in the reader at R -/
def URel (w : World) (R : Nat) (s : List UInt8) (v : Value) (d : List Ky.Part) (l : List UInt8) (wr : World) : Prop :=
  Ky.unpack s = (Ky.unpack l).map (d ++ ·) ∧ d.length ≤ 16 ∧ l.length ≤ s.length ∧ RAt wr R l ∧ OwnPs 38 wr w.heap.size v d ∧ Below w.heap.size w wr
set_option maxHeartbeats 3200000 in
theorem unpack_any (w : World) (s : List UInt8) (hs : s.length ≤ 100000000) :
    Calls Tryd.prog 16 #[bstr s] w (UnpPost 38 w s) := by
  have hR0 : URel w w.heap.size s (.slice none 0 0) [] s (w.alloc (.cells #[bstr s] 78)) := ⟨by simp, by simp, Nat.le_refl _, Has.of_alloc _ _ _, OwnPs.nil _ _ _, (Below.refl _ _).alloc (Nat.le_refl _) _⟩
  have HR0 := Lib.hid hR0
  have HS := Lib.hid hs
  clear hR0 hs
  unfold bstr at *
  go_enter Tryd.func16, Tryd.ntmps16
  go_wp2_with fail
  generalize (w.alloc (.cells #[.string ⟨s.toArray⟩] 78)) = w1 at *
  generalize hR : w.heap.size = R at *
  have HRW := Lib.hid hR
  clear hR
  go_loopg [4] s.length (fun gk v wr => ∃ d l, l.length ≤ gk ∧ Hid (URel w R s v d l wr))
  case atStart => exact ⟨[], s, Nat.le_refl _, HR0⟩
  case round =>
    rename World => wr
    obtain ⟨d, l, hg, HR⟩ := hrel
    have hRr := HR.out.2.2.2.1
    have c0 : wr.cell? ⟨R, 0, none⟩ = some (bstr l) := hRr.cell 0
    have HG := Lib.hid hg
    clear hg hRr
    obtain ⟨A, c, rfl, hrd, hgo⟩ := HR.out.2.2.2.2.1.form
    have HGO := Lib.hid hgo
    clear hrd hgo
    unfold bstr at c0
    by_cases hl : l = []
    · subst hl
      have HP : Hid (UnpPost 38 w s (.returned (.tuple #[.slice A d.length c, .int .i64 0])) wr) := Lib.hid (unp_some (l := d) (by unfold Ky.unpacked; rw [HR.out.1, Ky.unpack_nil]; simp; exact HR.out.2.1) HR.out.2.2.2.2.1 HR.out.2.2.2.2.2)
      go_wp2_with fail
      go_ret2
      exact HP.out
    · have hle : l.isEmpty = false := by cases l <;> simp_all
      have HPA := Lib.hid (part_any wr R l HR.out.2.2.2.1 (by have := HR.out.2.2.1; have := HS.out; omega))
      unfold PartPost partV bstr at HPA
      have hun := Ky.unpack_step l hl
      cases hp : Ky.readPart l with
      | none =>
        rw [hp] at HPA hun
        have HP : Hid (Ky.unpacked s = none) := Lib.hid (by unfold Ky.unpacked; rw [HR.out.1, hun]; rfl)
        clear hp hun hl
        go_wp2_with fail
        refine HPA.out.mono ?_
        rintro e w2 ⟨⟨rfl, -⟩, hf2⟩
        have HB2 : Hid (Below w.heap.size w w2) := Lib.hid (HR.out.2.2.2.2.2.trans (hf2.below (by have := HR.out.2.2.2.2.2.size; omega) (fun k hk => by have h : k = R := hk; have := HRW.out; omega)))
        clear hf2
        go_wp2_with fail
        go_ret2
        exact unp_none HP.out (HB2.out.alloc HB2.out.size _)
      | some x =>
        obtain ⟨p, r⟩ := x
        rw [hp] at HPA hun
        simp only at hun
        have hrl := (Ky.readPart_back l p r hp).2.2.2
        have HUN := Lib.hid hun
        have HRL := Lib.hid hrl
        clear hp hun hl hrl
        go_wp2_with fail
        refine HPA.out.mono ?_
        rintro e w2 ⟨⟨rfl, hr2⟩, hf2⟩
        have HB2 : Hid (Below w.heap.size w w2) := Lib.hid (HR.out.2.2.2.2.2.trans (hf2.below (by have := HR.out.2.2.2.2.2.size; omega) (fun k hk => by have h : k = R := hk; have := HRW.out; omega)))
        have ho2 : OwnPs 38 w2 w.heap.size (.slice A d.length c) d := HR.out.2.2.2.2.1.keep hf2 (HR.out.2.2.2.2.1.apart HR.out.2.2.2.1 (by decide))
        have HO2 := Lib.hid ho2
        have HR2 := Lib.hid hr2
        clear hf2 hr2 ho2
        by_cases h16 : d.length = 16
        · have HP : Hid (Ky.unpacked s = none) := Lib.hid (by
            unfold Ky.unpacked
            rw [HR.out.1, HUN.out]
            cases Ky.unpack r with
            | none => rfl
            | some m => simp only [Option.map_some]; rw [if_neg (by simp; omega)])
          have h16' : ((d.length : Int) == 16) = true := by simp; omega
          clear h16
          go_wp2_with fail
          go_ret2
          exact unp_none HP.out (HB2.out.alloc HB2.out.size _)
        · have h16' : ((d.length : Int) == 16) = false := by simp; omega
          have HD : Hid (d.length + 1 ≤ 16) := Lib.hid (by have := HR.out.2.1; omega)
          clear h16
          go_upto_region 7 with fail
          have hh := Has.of_alloc w2 38 #[.bool p.text, .int .i64 p.n, .string ⟨p.say.toArray⟩]
          have HB3 : Hid (Below w.heap.size w (w2.alloc (.cells #[.bool p.text, .int .i64 p.n, .string ⟨p.say.toArray⟩] 38))) := Lib.hid (HB2.out.alloc HB2.out.size _)
          have HO3 : Hid (OwnPs 38 (w2.alloc (.cells #[.bool p.text, .int .i64 p.n, .string ⟨p.say.toArray⟩] 38)) w.heap.size (.slice A d.length c) d) := Lib.hid (HO2.out.below ((Below.refl _ _).alloc (Nat.le_refl _) _))
          have HR3 : Hid (RAt (w2.alloc (.cells #[.bool p.text, .int .i64 p.n, .string ⟨p.say.toArray⟩] 38)) R r) := Lib.hid (HR2.out.alloc _)
          generalize (w2.alloc (.cells #[.bool p.text, .int .i64 p.n, .string ⟨p.say.toArray⟩] 38)) = w3 at *
          have x0 := hh.cell 0
          have x1 := hh.cell 1
          have x2 := hh.cell 2
          have hd16 : (d.length : Int) ≤ 16 := by have := HD.out; omega
          have HO4 : Hid (OwnPs 38 (w3.alloc (.cells #[.bool p.text, .int .i64 p.n, .string ⟨p.say.toArray⟩] 38)) w.heap.size (.slice A d.length c) d) := Lib.hid (HO3.out.below ((Below.refl _ _).alloc (Nat.le_refl _) _))
          have HR4 : Hid (RAt (w3.alloc (.cells #[.bool p.text, .int .i64 p.n, .string ⟨p.say.toArray⟩] 38)) R r) := Lib.hid (HR3.out.alloc _)
          have HB4 : Hid (Below w.heap.size w (w3.alloc (.cells #[.bool p.text, .int .i64 p.n, .string ⟨p.say.toArray⟩] 38))) := Lib.hid (HB3.out.alloc HB3.out.size _)
          have HH4 := Lib.hid (Has.of_alloc w3 38 #[.bool p.text, .int .i64 p.n, .string ⟨p.say.toArray⟩])
          clear h16' hh
          go_wp2_with (refine wpList_append_row eltP rfl (.tmp 24) (.tmp 26) rfl w.heap.size _ d.length (partCells d) rfl HO4.out w3.heap.size [.bool p.text, .int .i64 p.n, .string ⟨p.say.toArray⟩] rfl HH4.out rfl (fun u hu => by simp at hu; rcases hu with rfl | rfl | rfl <;> rfl) (by have := HD.out; omega) (by decide) HB4.out.size ?_; intro g' cap w5 O5 F5 G5 Z5)
          have HB5 : Hid (Below w.heap.size w w5) := Lib.hid (HB4.out.trans (F5.out.below HB4.out.size (fun k hk => (HO4.out.lt k hk).1)))
          have HR5 : Hid (RAt w5 R r) := Lib.hid (HR4.out.keep F5.out (fun hk => HO4.out.apart HR4.out (by decide) R hk rfl))
          go_roundg r.length
          case measure => have := HG.out; have := HRL.out; omega
          case rel => exact ⟨d ++ [p], r, Nat.le_refl _, Lib.hid ⟨by rw [HR.out.1, HUN.out, Option.map_map]; congr 1; funext x; simp, by have := HD.out; simp; omega, by have := HRL.out; have := HR.out.2.2.1; omega, HR5.out, OwnPs.snoc O5.out, HB5.out⟩⟩
end Go.Proofs.YtfbdikaaeedeoaaDoor

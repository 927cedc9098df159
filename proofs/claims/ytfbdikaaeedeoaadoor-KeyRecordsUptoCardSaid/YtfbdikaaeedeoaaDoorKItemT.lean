/-
  The next item.
-/
import Derived.Test.YtfbdikaaeedeoaaDoorKItemR
import Derived.Laws.EntriesVeiled
namespace Go.Proofs.YtfbdikaaeedeoaaDoor
open Go.RowKit Go.Maps
open Ky (Its)
set_option maxRecDepth 100000

set_option maxHeartbeats 1600000 in
theorem item_any (w : World) (R : Nat) (s : List UInt8) (hR : RAt w R s) (hs : s.length ≤ 100000) :
    Calls Tryd.prog 44 #[.pointer (some ⟨R, 0, none⟩)] w (ItemPost 16 w R s) := by
  have HRW := Lib.hid hR.lt
  have HR := Lib.hid hR
  have HS := Lib.hid hs
  clear hR hs
  go_enter Tryd.func44, Tryd.ntmps44
  have HW3 : Hid (Has (((w.alloc (.cells #[.pointer (some ⟨R, 0, none⟩)] 104)).alloc (.cells #[.int .u8 0, .int .i64 0, .string ⟨#[]⟩, .slice none 0 0] 62)).alloc (.cells #[.nilFunc] 113)) (w.heap.size + 1 + 1) 113 #[.nilFunc]) := Lib.hid (by have := Has.of_alloc ((w.alloc (.cells #[.pointer (some ⟨R, 0, none⟩)] 104)).alloc (.cells #[.int .u8 0, .int .i64 0, .string ⟨#[]⟩, .slice none 0 0] 62)) 113 #[.nilFunc]; simpa using this)
  have HP3 : Hid (Has (((w.alloc (.cells #[.pointer (some ⟨R, 0, none⟩)] 104)).alloc (.cells #[.int .u8 0, .int .i64 0, .string ⟨#[]⟩, .slice none 0 0] 62)).alloc (.cells #[.nilFunc] 113)) w.heap.size 104 #[.pointer (some ⟨R, 0, none⟩)]) := Lib.hid (((Has.of_alloc w _ _).alloc _).alloc _)
  have HZ3 : Hid (VarI (((w.alloc (.cells #[.pointer (some ⟨R, 0, none⟩)] 104)).alloc (.cells #[.int .u8 0, .int .i64 0, .string ⟨#[]⟩, .slice none 0 0] 62)).alloc (.cells #[.nilFunc] 113)) (w.heap.size + 1) 0 0 [] (.slice none 0 0)) := Lib.hid (by have := (Has.of_alloc (w.alloc (.cells #[.pointer (some ⟨R, 0, none⟩)] 104)) 62 #[.int .u8 0, .int .i64 0, .string ⟨#[]⟩, .slice none 0 0]).alloc (.cells #[.nilFunc] 113); (try unfold VarI bstr); simpa using this)
  have HR3 : Hid (RAt (((w.alloc (.cells #[.pointer (some ⟨R, 0, none⟩)] 104)).alloc (.cells #[.int .u8 0, .int .i64 0, .string ⟨#[]⟩, .slice none 0 0] 62)).alloc (.cells #[.nilFunc] 113)) R s) := Lib.hid (((HR.out.alloc _).alloc _).alloc _)
  have HF3 : Hid (Fr (oneB R) w (((w.alloc (.cells #[.pointer (some ⟨R, 0, none⟩)] 104)).alloc (.cells #[.int .u8 0, .int .i64 0, .string ⟨#[]⟩, .slice none 0 0] 62)).alloc (.cells #[.nilFunc] 113))) := Lib.hid ((((Fr.refl _ _).alloc _).alloc _).alloc _)
  go_upto_region 2 with fail
  generalize (((w.alloc (.cells #[.pointer (some ⟨R, 0, none⟩)] 104)).alloc (.cells #[.int .u8 0, .int .i64 0, .string ⟨#[]⟩, .slice none 0 0] 62)).alloc (.cells #[.nilFunc] 113)) = w3 at *
  have c0 := HW3.out.cell 0
  have z0 := HW3.out.free 0
  go_upto_region 3 with fail
  have HV4 : Hid (Has (w3.setCell ⟨w.heap.size + 1 + 1, 0, none⟩ (.func (.func 59) #[] #[.pointer (some ⟨w.heap.size, 0, none⟩), .pointer (some ⟨w.heap.size + 1 + 1, 0, none⟩)])) (w.heap.size + 1 + 1) 113 #[(.func (.func 59) #[] #[.pointer (some ⟨w.heap.size, 0, none⟩), .pointer (some ⟨w.heap.size + 1 + 1, 0, none⟩)])]) := Lib.hid (HW3.out.set 0 _)
  have HP4 := Lib.hid (HP3.out.far (p := ⟨w.heap.size + 1 + 1, 0, none⟩) (by show w.heap.size ≠ w.heap.size + 1 + 1; omega) (.func (.func 59) #[] #[.pointer (some ⟨w.heap.size, 0, none⟩), .pointer (some ⟨w.heap.size + 1 + 1, 0, none⟩)]))
  have HZ4 := Lib.hid (HZ3.out.far (p := ⟨w.heap.size + 1 + 1, 0, none⟩) (by show w.heap.size + 1 ≠ w.heap.size + 1 + 1; omega) (.func (.func 59) #[] #[.pointer (some ⟨w.heap.size, 0, none⟩), .pointer (some ⟨w.heap.size + 1 + 1, 0, none⟩)]))
  have HR4 := Lib.hid (HR3.out.far (p := ⟨w.heap.size + 1 + 1, 0, none⟩) (by have := HRW.out; show R ≠ w.heap.size + 1 + 1; omega) (.func (.func 59) #[] #[.pointer (some ⟨w.heap.size, 0, none⟩), .pointer (some ⟨w.heap.size + 1 + 1, 0, none⟩)]))
  have HF4 : Hid (Fr (oneB R) w (w3.setCell ⟨w.heap.size + 1 + 1, 0, none⟩ (.func (.func 59) #[] #[.pointer (some ⟨w.heap.size, 0, none⟩), .pointer (some ⟨w.heap.size + 1 + 1, 0, none⟩)]))) := Lib.hid (HF3.out.setAt (.inr (by omega)) _)
  generalize (w3.setCell ⟨w.heap.size + 1 + 1, 0, none⟩ (.func (.func 59) #[] #[.pointer (some ⟨w.heap.size, 0, none⟩), .pointer (some ⟨w.heap.size + 1 + 1, 0, none⟩)])) = w4 at *
  clear c0 z0
  have v0 := HV4.out.cell 0
  have HI := Lib.hid (item1_any 17 16 1 w4 w.heap.size (w.heap.size + 1 + 1) R s (by omega) (by omega) (by omega) HP4.out HV4.out HR4.out HS.out)
  rw [show ((1 : Nat) : Int) = 1 from rfl] at HI
  unfold ItemPost itemV bstr at HI
  cases hi : Ky.readIt 16 s with
  | error c =>
    rw [hi] at HI
    go_wp2_with fail
    refine HI.out.mono ?_
    rintro e w5 ⟨⟨rfl, s', hr5⟩, hf5⟩
    have HR5 := Lib.hid hr5
    have HF5 : Hid (Fr (oneB R) w w5) := Lib.hid (HF4.out.trans hf5 (fun _ _ h => h))
    have HZ5 : Hid (VarI w5 (w.heap.size + 1) 0 0 [] (.slice none 0 0)) := Lib.hid (HZ4.out.keep hf5 (fun e => by have e : w.heap.size + 1 = R := e; have := HRW.out; omega))
    clear hr5 hf5 v0
    have z0 := HZ5.out.cell 0
    have z1 := HZ5.out.cell 1
    have z2 := HZ5.out.cell 2
    have z3 := HZ5.out.cell 3
    have f0 := HZ5.out.free 0
    have f1 := HZ5.out.free 1
    have f2 := HZ5.out.free 2
    have f3 := HZ5.out.free 3
    unfold bstr at z2
    go_wp2_with fail
    obtain ⟨hx, hf⟩ := var4_set HR5.out HF5.out HRW.out (Nat.le_succ _) (.int .u8 0) (.int .i64 0) (.string ⟨#[]⟩) (.slice none 0 0)
    exact bodyPost_ret (v := .tuple #[.agg #[.int .u8 0, .int .i64 0, .string ⟨#[]⟩, .slice none 0 0], .int .i64 c]) (by simp [results, Tryd.results44, go_sem, z0, z1, z2, z3]) rfl (item_bad hi hx hf)
  | ok y =>
    obtain ⟨⟨k', n', a', sub'⟩, l'⟩ := y
    rw [hi] at HI
    have HB4 : Hid (w.heap.size ≤ w4.heap.size) := Lib.hid HF4.out.size
    have HZL := Lib.hid HZ4.out.lt
    go_wp2_with fail
    refine HI.out.mono ?_
    rintro e w5 ⟨⟨⟨A5, c5, rfl, hs5⟩, hr5⟩, hf5⟩
    have HS5 := Lib.hid hs5
    have HR5 := Lib.hid hr5
    have HF5 : Hid (Fr (oneB R) w w5) := Lib.hid (HF4.out.trans hf5 (fun _ _ h => h))
    have HZ5 : Hid (VarI w5 (w.heap.size + 1) 0 0 [] (.slice none 0 0)) := Lib.hid (HZ4.out.keep hf5 (fun e => by have e : w.heap.size + 1 = R := e; have := HRW.out; omega))
    clear hr5 hf5 hs5 v0
    have z0 := HZ5.out.cell 0
    have z1 := HZ5.out.cell 1
    have z2 := HZ5.out.cell 2
    have z3 := HZ5.out.cell 3
    have f0 := HZ5.out.free 0
    have f1 := HZ5.out.free 1
    have f2 := HZ5.out.free 2
    have f3 := HZ5.out.free 3
    unfold bstr at z2
    go_wp2_with fail
    obtain ⟨hx, hf⟩ := var4_set HR5.out HF5.out HRW.out (Nat.le_succ _) (.int .u8 (k'.toNat : Int)) (.int .i64 n') (.string ⟨a'.toArray⟩) (.slice A5 sub'.len c5)
    have F6 : Fr (oneB (w.heap.size + 1)) w5 ((((w5.setCell ⟨w.heap.size + 1, 0, none⟩ (.int .u8 (k'.toNat : Int))).setCell ⟨w.heap.size + 1, 1, none⟩ (.int .i64 n')).setCell ⟨w.heap.size + 1, 2, none⟩ (.string ⟨a'.toArray⟩)).setCell ⟨w.heap.size + 1, 3, none⟩ (.slice A5 sub'.len c5)) := ((((Fr.refl _ _).put _).put _).put _).put _
    exact bodyPost_ret (v := .tuple #[.agg #[.int .u8 (k'.toNat : Int), .int .i64 n', .string ⟨a'.toArray⟩, .slice A5 sub'.len c5], .int .i64 0]) (by simp [results, Tryd.results44, go_sem, z0, z1, z2, z3]) rfl (item_ok hi (HS5.out.keep (fun g hg => ⟨by have := hg.1; have := HB4.out; omega, by have := hg.2; have := F6.size; omega⟩) (fun g hg => F6.old g hg.2 (fun e => by have e : g = w.heap.size + 1 := e; have := hg.1; have := HZL.out; omega))) hx hf)
end Go.Proofs.YtfbdikaaeedeoaaDoor

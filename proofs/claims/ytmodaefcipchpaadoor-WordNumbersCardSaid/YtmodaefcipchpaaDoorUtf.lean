/-
  What UTF8 answers: the program's.
-/
import Derived.Test.YtmodaefcipchpaaDoorAt
import Derived.Test.YtmodaefcipchpaaDoorName
import Derived.Test.YtmodaefcipchpaaDoorMathUtf
namespace Go.Proofs.YtmodaefcipchpaaDoor
open Go.RowKit

set_option maxHeartbeats 800000 in
set_option maxRecDepth 100000 in
theorem utf_any (s : ByteArray) (w : World) (hs : s.size ≤ 140737488355328) :
    Calls Tryd.prog 11 #[.string s] w fun e w' => e = .returned (.bool (Sp.utf8 s)) ∧ Below w.heap.size w w' := by
  go_enter Tryd.func11, Tryd.ntmps11
  go_wp2_with fail
  go_loopw [3] (fun i wr => ∃ j f : Nat, j ≤ s.size ∧ i = .int .i64 j ∧ s.size ≤ j + f ∧ Sp.utf8 s = Sp.utf8From s f j ∧ Below w.heap.size w wr) (fun i _ => s.size - (intOf i).toNat)
  case atStart => exact ⟨0, s.size, by omega, rfl, by omega, rfl, Below.refl _ _⟩
  case round =>
    rename_i wr _
    obtain ⟨j, f, hj, rfl, hf, hu, hb⟩ := hrel
    have Hu := Lib.hid hu
    have hsz := hb.size
    have Hb := Lib.hid hb
    clear hu hb
    by_cases hlt : j < s.size
    · cases hd : Sp.dec s j with
      | none =>
        have Hd := Lib.hid hd
        clear hd
        go_wp2_with fail
        refine (at_in s j _ (by unfold maxLen; omega) hlt).mono ?_
        rintro e w1 ⟨rfl, hb1⟩
        have Hb1 := Lib.hid hb1
        clear hb1
        rw [Hd.out]
        unfold atV
        go_wp2_with fail
        go_ret
        exact ⟨ret_bool (by rw [Hu.out, Sp.from_none s f j hlt Hd.out]), Hb.out.trans (Hb1.out.mono hsz)⟩
      | some p =>
        obtain ⟨c, n⟩ := p
        have hn := Sp.dec_room hd
        have Hd := Lib.hid hd
        clear hd
        go_wp2_with fail
        refine (at_in s j _ (by unfold maxLen; omega) hlt).mono ?_
        rintro e w1 ⟨rfl, hb1⟩
        have Hb1 := Lib.hid hb1
        clear hb1
        rw [Hd.out]
        unfold atV
        go_wp2_with fail
        go_roundw
        case rel =>
          obtain ⟨g, hg, he⟩ := Sp.from_some s f j c n hlt hf Hd.out
          exact ⟨j + n, g, by omega, by go_num, hg, by rw [Hu.out, he], Hb.out.trans (Hb1.out.mono hsz)⟩
        case measure => simp [intOf]; omega
    · go_wp2_with fail
      go_ret
      exact ⟨ret_bool (by rw [Hu.out, Sp.from_end s f j (by omega)]), Hb.out⟩

end Go.Proofs.YtmodaefcipchpaaDoor

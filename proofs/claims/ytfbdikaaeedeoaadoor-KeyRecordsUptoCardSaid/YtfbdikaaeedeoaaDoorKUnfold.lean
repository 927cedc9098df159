/-
  A number is unfolded.
-/
import Derived.Test.YtfbdikaaeedeoaaDoorKCount
import Derived.Laws.DeepNot64
namespace Go.Proofs.YtfbdikaaeedeoaaDoor
open Go.RowKit Go.Maps
set_option maxRecDepth 100000

theorem wpList_not {ops : Array Oper} {rest : List Oper} {o : Oper} {a : Act} {w : World} {Q : Exit → Act → World → Prop} (hgd : o.guard = none) (t : TypeId) (x : Operand) (ho : o.op = .unOp .xor t x) (n v : Int) (hx : a.eval x = .int .i64 n) (hv : bits .xor .i64 (-1) n = v)
    (h : wpList Tryd.prog ops Q rest (a.put o.dst (.int .i64 v)) w) : wpList Tryd.prog ops Q (o :: rest) a w :=
  wpList_plain hgd fun _ hK => by
    have h2 := hK _ _ h
    unfold Oper.wp execOp
    rw [ho]
    simp only [hx, unary_xor, IntKind.signed, if_true, intBits_xor, Sem.run_bind, Sem.run_pure, Result.andThen_ok, hv]
    exact h2
theorem unfolded_any (w : World) (u : Nat) (hu : u < 18446744073709551616) :
    Calls Tryd.prog 61 #[.int .u64 (u : Int)] w fun e w' => e = .returned (.int .i64 (Ky.unfolded u)) ∧ w = w' := by
  have hu' : (u : Int) < 18446744073709551616 := by omega
  have hand : bits .and .u64 (u : Int) 1 = ((u % 2 : Nat) : Int) := by
    rw [show (1 : Int) = ((1 : Nat) : Int) from rfl, u64_and_nat _ _ hu (by omega), Nat.and_one_is_mod]
  by_cases h1 : u % 2 = 1
  · have hand1 : bits .and .u64 (u : Int) 1 = 1 := by rw [hand, h1]; rfl
    have hnot : bits .xor .i64 (-1) ((u : Int) / 2) = -((u : Int) / 2) - 1 := by
      have h3 := i64_not (u / 2) (by omega)
      rw [show (((u / 2 : Nat) : Int)) = (u : Int) / 2 by omega] at h3
      rw [h3]; omega
    have hz : Ky.unfolded u = -((u : Int) / 2) - 1 := by unfold Ky.unfolded; rw [if_pos h1]; omega
    rw [hz]
    clear hand h1
    have HN := Lib.hid hnot
    clear hnot
    go_enter Tryd.func61, Tryd.ntmps61
    go_wp2_with (refine wpList_not rfl 2 (.tmp 8) rfl _ _ rfl HN.out ?_)
    go_ret
    exact ⟨rfl, rfl⟩
  · have h0 : u % 2 = 0 := by omega
    replace hand : bits .and .u64 (u : Int) 1 = 0 := by rw [hand, h0]; rfl
    have HE : Hid (Ky.unfolded u = ((u / 2 : Nat) : Int)) := Lib.hid (by unfold Ky.unfolded; rw [if_neg h1])
    clear h1 h0
    go_enter Tryd.func61, Tryd.ntmps61
    go_wp2_with fail
    go_ret
    exact ⟨by rw [HE.out]; rfl, rfl⟩
end Go.Proofs.YtfbdikaaeedeoaaDoor

/-
  The document's bytes of a record: counts, items.
-/
import Derived.Test.YtfbdikaaeedeoaaDoorKRefA
import Derived.Test.YtfbdikaaeedeoaaDoorKGiven
import Derived.Test.YtfbdikaaeedeoaaDoorKUnfold
import Derived.Lib.AppendStr
namespace Go.Proofs.YtfbdikaaeedeoaaDoor
open Go.RowKit Go.Maps
open Ky (Its)
set_option maxRecDepth 100000

/-- the block of what was appended to is the old one, or a new one -/
def NewB (w : World) (v v' : Value) : Prop := ∀ k, v'.ownBlock = some k → v.ownBlock = some k ∨ w.heap.size ≤ k
theorem NewB.refl (w : World) (v : Value) : NewB w v v := fun _ h => .inl h
theorem NewB.of {w : World} {v v' : Value} (h : v'.ownBlock = v.ownBlock ∨ v'.ownBlock = some w.heap.size) : NewB w v v' := fun k hk => by
  rcases h with h | h
  · exact .inl (h ▸ hk)
  · rw [h] at hk
    exact .inr (Nat.le_of_eq (Option.some.inj hk))
theorem NewB.step {w w7 : World} {v v6 v8 : Value} (h : NewB w v v6) (hs : w.heap.size ≤ w7.heap.size) (h2 : NewB w7 v6 v8) : NewB w v v8 := fun k hk => by
  rcases h2 k hk with h2 | h2
  · exact h k h2
  · exact .inr (by omega)
theorem Fr.step {w w7 w8 : World} {v v6 : Value} (f : Fr (fun k => v.ownBlock = some k) w w7) (h : NewB w v v6) (f2 : Fr (fun k => v6.ownBlock = some k) w7 w8) : Fr (fun k => v.ownBlock = some k) w w8 :=
  f.trans f2 fun x hx ho => (h x ho).elim id fun h => by omega
theorem wp_append_vf {o : Oper} {a : Act} {w : World} {K : Act → World → Prop} {Q : Exit → Act → World → Prop} (s x : Operand)
    (ho : o.op = .call { callee := .builtin .append, args := #[s, x], argTypes := #[65, 65] }) (B : Nat) (v : Value) (L : List UInt8) (hs : a.eval s = v) (hown : OwnV w B v L)
    (C : Nat) (A : Option Addr) (l : List UInt8) (d : Nat) (hx : a.eval x = .slice A l.length d) (hr : Rd w C A l) (hA : A = none → d = 0) (hm : L.length + l.length ≤ 140737488355328) (hB : B ≤ w.heap.size)
    (h : ∀ v' w', OwnV w' B v' (L ++ l) → Fr (fun k => v.ownBlock = some k) w w' → NewB w v v' → K (a.put o.dst v') w') : o.wp Tryd.prog a w K Q := by
  obtain ⟨i0, hi, hz0, hz1, hz2⟩ := info_parts inf_u8
  cases A with
  | none =>
    have hl : l = [] := by
      cases l with
      | nil => rfl
      | cons y l => obtain ⟨_, _, e, _⟩ := hr.2 (by simp); cases e
    subst hl
    obtain rfl := hA rfl
    rw [List.append_nil] at h
    have hrun := run_append_owned_none (P := Tryd.prog) (w := w) B _ o.type _ i0 1 und_bytes hi _ L.length (bytCells L) hown
    unfold Oper.wp
    have hx' : a.eval x = .slice none 0 0 := hx
    simp [execOp, ho, resolve, invoke, builtin, hs, hx', hrun, Result.andThen]
    exact h v w hown (Fr.refl _ _) (NewB.refl _ _)
  | some ad =>
    obtain ⟨v', w', hrun, h2, h3, h4, h5⟩ := run_append_own_at (P := Tryd.prog) w B _ o.type _ i0 _ 1 1 und_bytes hi hz0 hz1 hz2 rfl (by omega) _ L.length (bytCells L) hown ad l.length d (bytCells l) (by rw [bytCells_len, Nat.mul_one])
      (fun j u hj => by
        have hlt : j < l.length := by
          rw [← bytCells_len]
          exact (List.getElem?_eq_some_iff.1 hj).1
        obtain ⟨g1, o1, e, _, hc⟩ := hr.2 (by omega)
        injection e with e
        subst e
        rw [Addr.add_mid]
        exact hc j u hj) (bytCells_one _) (by unfold maxLen; omega) (by omega) hB
    unfold Oper.wp execOp
    simp only [ho, resolve, invoke, builtin, Sem.run_bind, Sem.run_pure, Result.andThen_ok, List.map_toArray, List.map_cons, List.map_nil, hs, hx, hrun]
    refine h v' w' ?_ (Fr.of_grown h3 (fun k hk => hk)) (NewB.of h5)
    unfold OwnV
    rw [bytCells_append, List.length_append]
    exact h2
theorem wpList_append_vf {ops : Array Oper} {rest : List Oper} {o : Oper} {a : Act} {w : World} {Q : Exit → Act → World → Prop} (hgd : o.guard = none) (s x : Operand)
    (ho : o.op = .call { callee := .builtin .append, args := #[s, x], argTypes := #[65, 65] }) (B : Nat) (v : Value) (L : List UInt8) (hs : a.eval s = v) (hown : OwnV w B v L)
    (C : Nat) (A : Option Addr) (l : List UInt8) (d : Nat) (hx : a.eval x = .slice A l.length d) (hr : Rd w C A l) (hA : A = none → d = 0) (hm : L.length + l.length ≤ 140737488355328) (hB : B ≤ w.heap.size)
    (h : ∀ v' w', Hid (OwnV w' B v' (L ++ l)) → Hid (Fr (fun k => v.ownBlock = some k) w w') → Hid (NewB w v v') → wpList Tryd.prog ops Q rest (a.put o.dst v') w') : wpList Tryd.prog ops Q (o :: rest) a w :=
  wpList_plain hgd fun _ hK => wp_append_vf s x ho B v L hs hown C A l d hx hr hA hm hB fun v' w' h1 h2 h3 => hK _ _ (h v' w' (Lib.hid h1) (Lib.hid h2) (Lib.hid h3))
theorem step_append_vf {ops : Array Oper} {o : Oper} {a : Act} {w : World} {K : Act → World → Prop} {Q : Exit → Act → World → Prop} {X : Prop} (hgd : o.guard = none) (s x : Operand)
    (ho : o.op = .call { callee := .builtin .append, args := #[s, x], argTypes := #[65, 65] }) (B : Nat) (v : Value) (L : List UInt8) (hs : a.eval s = v) (hown : OwnV w B v L)
    (C : Nat) (A : Option Addr) (l : List UInt8) (d : Nat) (hx : a.eval x = .slice A l.length d) (hr : Rd w C A l) (hA : A = none → d = 0) (hm : L.length + l.length ≤ 140737488355328) (hB : B ≤ w.heap.size)
    (h : ∀ v' w', Hid (OwnV w' B v' (L ++ l)) → Hid (Fr (fun k => v.ownBlock = some k) w w') → Hid (NewB w v v') → K (a.put o.dst v') w') :
    if Region.wanted o (yielded ops a.tmps) = true then Oper.wp Tryd.prog o a w K Q else X := by
  have hw : Region.wanted o (yielded ops a.tmps) = true := by simp [Region.wanted, hgd]
  rw [if_pos hw]
  exact wp_append_vf s x ho B v L hs hown C A l d hx hr hA hm hB fun v' w' h1 h2 h3 => h v' w' (Lib.hid h1) (Lib.hid h2) (Lib.hid h3)
theorem strCells_bytes (s : List UInt8) : Lib.strCells ⟨s.toArray⟩ = bytCells s := by
  unfold Lib.strCells bytCells
  simp
  intro a _
  rfl
theorem wp_append_str {o : Oper} {a : Act} {w : World} {K : Act → World → Prop} {Q : Exit → Act → World → Prop} (s x : Operand)
    (ho : o.op = .call { callee := .builtin .append, args := #[s, x], argTypes := #[65, 9] }) (B : Nat) (v : Value) (L : List UInt8) (hs : a.eval s = v) (hown : OwnV w B v L)
    (l : List UInt8) (hx : a.eval x = .string ⟨l.toArray⟩) (hm : L.length + l.length ≤ 140737488355328) (hB : B ≤ w.heap.size)
    (h : ∀ v' w', OwnV w' B v' (L ++ l) → Fr (fun k => v.ownBlock = some k) w w' → NewB w v v' → K (a.put o.dst v') w') : o.wp Tryd.prog a w K Q := by
  obtain ⟨i0, hi, hz0, hz1, hz2⟩ := info_parts inf_u8
  have hsz : (ByteArray.mk l.toArray).size = l.length := by show l.toArray.size = _; simp
  obtain ⟨v', w', hrun, h2, h3, h4⟩ := Lib.run_append_own_string (P := Tryd.prog) w B _ 9 o.type _ i0 und_bytes und_str hi hz0 hz1 hz2 v L.length (bytCells L) hown ⟨l.toArray⟩ (by rw [hsz]; unfold maxLen; omega) (by rw [hsz]; omega) hB
  have hN : NewB w v v' := by
    rcases hown.2 with ⟨e, e2⟩ | ⟨g, cap, cur, e, hbg, hg, hnc, hcm, hcs, htake⟩
    · have hown2 : w.ownsRow w.heap.size 5 1 v L.length (bytCells L) := ⟨hown.1, .inl ⟨e, e2⟩⟩
      obtain ⟨v2, w2, hrun2, k2, _⟩ := Lib.run_append_own_string (P := Tryd.prog) w w.heap.size _ 9 o.type _ i0 und_bytes und_str hi hz0 hz1 hz2 v L.length (bytCells L) hown2 ⟨l.toArray⟩ (by rw [hsz]; unfold maxLen; omega) (by rw [hsz]; omega) (Nat.le_refl _)
      rw [hrun] at hrun2
      injection hrun2 with e3 e4
      subst e3
      exact fun k hk => .inr (World.ownsRow.lt k2 k hk).1
    · subst e
      by_cases hroom : L.length + (ByteArray.mk l.toArray).size ≤ cap
      · have hr := Lib.run_append_room_string (P := Tryd.prog) w _ 9 o.type _ i0 und_bytes und_str hi hz1 g L.length cap cur hg ⟨l.toArray⟩ hroom (by rw [hcs, Nat.mul_one]; exact hroom)
        rw [hrun] at hr
        injection hr with e3 e4
        subst e3
        exact fun k hk => .inl hk
      · have holds : ∀ j u, (bytCells L)[j]? = some u → w.cell? ((⟨g, 0, none⟩ : Addr).add j) = some u := World.ownsRow.cells hown (g := g) rfl
        have hr := Lib.run_append_grow_string (P := Tryd.prog) w _ 9 o.type _ i0 (.int .u8 0) und_bytes und_str hi hz0 ⟨g, 0, none⟩ L.length cap (bytCells L) (by rw [hz1, bytCells_len, Nat.mul_one]) holds ⟨l.toArray⟩ (by omega) (by rw [hsz]; omega) (by rw [hz2]; exact growslice_fits (by omega) (by rw [hsz]; omega))
        rw [hrun] at hr
        injection hr with e3 e4
        subst e3
        exact fun k hk => .inr (Nat.le_of_eq (Option.some.inj hk))
  unfold Oper.wp execOp
  simp only [ho, resolve, invoke, builtin, Sem.run_bind, Sem.run_pure, Result.andThen_ok, List.map_toArray, List.map_cons, List.map_nil, hs, hx, hrun]
  refine h v' w' ?_ (Fr.of_grown h3 (fun k hk => hk)) hN
  unfold OwnV
  rw [bytCells_append, List.length_append]
  rw [hsz, strCells_bytes] at h2
  exact h2
theorem step_append_str {ops : Array Oper} {o : Oper} {a : Act} {w : World} {K : Act → World → Prop} {Q : Exit → Act → World → Prop} {X : Prop} (hgd : o.guard = none) (s x : Operand)
    (ho : o.op = .call { callee := .builtin .append, args := #[s, x], argTypes := #[65, 9] }) (B : Nat) (v : Value) (L : List UInt8) (hs : a.eval s = v) (hown : OwnV w B v L)
    (l : List UInt8) (hx : a.eval x = .string ⟨l.toArray⟩) (hm : L.length + l.length ≤ 140737488355328) (hB : B ≤ w.heap.size)
    (h : ∀ v' w', Hid (OwnV w' B v' (L ++ l)) → Hid (Fr (fun k => v.ownBlock = some k) w w') → Hid (NewB w v v') → K (a.put o.dst v') w') :
    if Region.wanted o (yielded ops a.tmps) = true then Oper.wp Tryd.prog o a w K Q else X := by
  have hw : Region.wanted o (yielded ops a.tmps) = true := by simp [Region.wanted, hgd]
  rw [if_pos hw]
  exact wp_append_str s x ho B v L hs hown l hx hm hB fun v' w' h1 h2 h3 => h v' w' (Lib.hid h1) (Lib.hid h2) (Lib.hid h3)
set_option maxHeartbeats 800000 in
theorem rcnt_any (w : World) (n : Nat) (hn : n < 18446744073709551616) :
    Calls Tryd.prog 56 #[.int .u64 (n : Int)] w fun e w' => (∃ v, e = .returned v ∧ OwnV w' w.heap.size v (Ky.cnt n)) ∧ Below w.heap.size w w' := by
  have HN := Lib.hid hn
  go_enter Tryd.func56, Tryd.ntmps56
  go_wp2_with fail
  go_loopw [0, 3] (fun x v wr => ∃ (u : Nat) (d : List UInt8), u ≤ n ∧ x = .int .u64 (u : Int) ∧ Hid (OwnV wr w.heap.size v d) ∧ Hid (Ky.cnt n = d ++ Ky.cnt u) ∧ Hid (Below w.heap.size w wr)) (fun x _ _ => (intOf x).toNat)
  case atStart => exact ⟨n, [], by omega, rfl, Lib.hid (OwnV.nil _ _), Lib.hid rfl, Lib.hid (Below.refl _ _)⟩
  case round =>
    rename World => wr
    obtain ⟨u, d, hu, rfl, hO, hC, hB⟩ := hrel
    by_cases h : u < 128
    · have hcn := hC.out
      rw [Ky.cnt_small h] at hcn
      have hb : (u : Int) = ((UInt8.ofNat u).toNat : Int) := by
        rw [UInt8.toNat_ofNat']
        omega
      have HCN := Lib.hid hcn
      have HBX := Lib.hid hb
      have hd : Hid (d.length ≤ 10) := Lib.hid (by have := Ky.cnt_len64 n HN.out; rw [hC.out, List.length_append] at this; omega)
      clear hcn hb hC
      go_wp2_with (refine wpList_append_v rfl (.tmp 15) (.tmp 18) rfl w.heap.size _ d rfl (hO.out.alloc _) _ (some ⟨wr.heap.size, 0, none⟩) [UInt8.ofNat u] 1 rfl (rd_one wr _ _ HBX.out) (fun e => by cases e) (by have := hd.out; simp only [List.length_cons, List.length_nil]; omega) (by have := hB.out.size; simp; omega) w (hB.out.alloc hB.out.size _) ?_; intro v2 w2 O2 B2)
      go_ret
      exact ⟨⟨_, rfl, by rw [HCN.out]; exact O2.out⟩, B2.out⟩
    · have hcn := hC.out
      rw [Ky.cnt_more h] at hcn
      have hb : ((u : Int) % 128 + 128) = ((UInt8.ofNat (u % 128 + 128)).toNat : Int) := by
        rw [UInt8.toNat_ofNat']
        omega
      have HCN := Lib.hid hcn
      have HBX := Lib.hid hb
      have hd : Hid (d.length ≤ 10) := Lib.hid (by have := Ky.cnt_len64 n HN.out; rw [hC.out, List.length_append] at this; omega)
      clear hcn hb hC
      go_wp2_with (refine wpList_append_v rfl (.tmp 6) (.tmp 11) rfl w.heap.size _ d rfl (hO.out.alloc _) _ (some ⟨wr.heap.size, 0, none⟩) [UInt8.ofNat (u % 128 + 128)] 1 rfl (rd_one wr _ _ HBX.out) (fun e => by cases e) (by have := hd.out; simp only [List.length_cons, List.length_nil]; omega) (by have := hB.out.size; simp; omega) w (hB.out.alloc hB.out.size _) ?_; intro v2 w2 O2 B2)
      go_roundw
      case rel => exact ⟨u / 128, _, by omega, by go_num, O2, Lib.hid (by rw [HCN.out]; simp), B2⟩
      case measure => (simp [intOf]) <;> omega
end Go.Proofs.YtfbdikaaeedeoaaDoor

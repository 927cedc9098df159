/-
  The document's own sum, and a number in eight bytes.
-/
import Derived.Test.YtnghpklegomaeaaGApp
namespace Go.Proofs.Ytnghpklegomaeaa
open Go.RowKit Go.Maps

theorem ron_any (w : World) (s : Nat) (hs : s < 18446744073709551616) (A : Option Addr) (l : List UInt8) (c B : Nat) (h : Rd w B A l) :
    Calls Try.prog 23 #[.int .u64 (s : Int), .slice A l.length c] w fun e w' => e = .returned (.int .u64 (Pg.on s l : Int)) ∧ w = w' := by
  have hm := h.1
  have H := Lib.hid h
  clear h
  go_enter Try.func23, Try.ntmps23
  go_wp2_with fail
  go_loop [0, 5] (fun x i => ∃ k : Nat, k ≤ l.length ∧ i = .int .i64 k ∧ x = .int .u64 (Pg.on s (l.take k) : Int)) (fun _ i => l.length - (intOf i).toNat)
  case atStart => exact ⟨0, by omega, rfl, rfl⟩
  case round =>
    obtain ⟨k, hk, rfl, rfl⟩ := hrel
    by_cases hlt : k < l.length
    · obtain ⟨g, o, rfl, hg, hc⟩ := H.out.at_ hlt
      unfold byt at hc
      have hl8 := l[k].toNat_lt
      have hst := step_int (Pg.on s (l.take k)) l[k] (Pg.on_lt _ _ hs)
      have hnx : Pg.on s (l.take (k + 1)) = Pg.step (Pg.on s (l.take k)) l[k] := by rw [List.take_succ_eq_append_getElem hlt, Pg.on_snoc]
      have HNx := Lib.hid hnx
      clear hnx
      go_wp2_with fail
      go_round
      case rel => exact ⟨k + 1, by omega, by go_num, by rw [HNx.out]⟩
      case measure => simp [intOf]; omega
    · have hkl : k = l.length := by omega
      subst hkl
      go_wp2_with fail
      go_ret
      exact ⟨rfl, rfl⟩
theorem rsum_any (w : World) (A : Option Addr) (l : List UInt8) (c B : Nat) (h : Rd w B A l) :
    Calls Try.prog 15 #[.slice A l.length c] w fun e w' => e = .returned (.int .u64 (Pg.sum l : Int)) ∧ w = w' := by
  have ho := ron_any w 14695981039346656037 (by decide) A l c B h
  have HO := Lib.hid ho
  clear ho h
  go_enter Try.func15, Try.ntmps15
  go_wp2_with fail
  refine HO.out.mono ?_
  rintro e w' ⟨rfl, rfl⟩
  go_wp2_with fail
  go_ret
  exact ⟨rfl, rfl⟩

theorem be_drop (m v r : Nat) (hr : r ≤ m) : (Pg.be m v).drop r = Pg.be (m - r) v := by
  induction r with
  | zero => rfl
  | succ r ih =>
    rw [← List.drop_drop, ih (by omega)]
    obtain ⟨q, hq⟩ : ∃ q, m - r = q + 1 := ⟨m - r - 1, by omega⟩
    rw [hq, be_cons, List.drop_succ_cons, List.drop_zero]
    congr 1
    omega
theorem be_take (m v r : Nat) (hr : r < m) : (Pg.be m v).take (r + 1) = (Pg.be m v).take r ++ [UInt8.ofNat (v / 256 ^ (m - 1 - r) % 256)] := by
  have hl : r < (Pg.be m v).length := by rw [Pg.be_length]; exact hr
  rw [List.take_succ_eq_append_getElem hl]
  congr 2
  have h1 := be_drop m v r (by omega)
  obtain ⟨q, hq⟩ : ∃ q, m - r = q + 1 := ⟨m - r - 1, by omega⟩
  rw [hq, be_cons, List.drop_eq_getElem_cons hl] at h1
  injection h1 with h1 _
  rw [h1, show m - 1 - r = q by omega]

/-- a slice of the call's own, perhaps nil -/
def OwnV (w : World) (B : Nat) (v : Value) (L : List UInt8) : Prop := w.ownsRow B 5 1 v L.length (bytCells L)
theorem OwnV.form {w : World} {B : Nat} {v : Value} {L : List UInt8} (h : OwnV w B v L) : ∃ A c, v = .slice A L.length c ∧ (A = none → c = 0) ∧ (L.length ≤ 140737488355328 → Rd w w.heap.size A L) := by
  rcases h.2 with ⟨rfl, h0⟩ | ⟨g, cap, cur, rfl, hb, hg, h1, h2, h3, h4⟩
  · have : L = [] := List.length_eq_zero_iff.1 h0
    subst this
    exact ⟨none, 0, rfl, fun _ => rfl, fun _ => Rd.nil _ _ _⟩
  · have ho : Own w B g cap L := ⟨h⟩
    exact ⟨_, _, rfl, (fun e => by cases e), fun hm => ho.rd hm⟩
theorem OwnV.nil (w : World) (B : Nat) : OwnV w B (.slice none 0 0) [] := World.ownsRow_nil _ _ _ _
theorem OwnV.alloc {w : World} {B : Nat} {v : Value} {L : List UInt8} (h : OwnV w B v L) (o : Obj) : OwnV (w.alloc o) B v L := World.ownsRow.alloc h o

theorem wp_append_v {o : Oper} {a : Act} {w : World} {K : Act → World → Prop} {Q : Exit → Act → World → Prop} (s x : Operand)
    (ho : o.op = .call { callee := .builtin .append, args := #[s, x], argTypes := #[25, 25] }) (B : Nat) (v : Value) (L : List UInt8) (hs : a.eval s = v) (hown : OwnV w B v L)
    (C : Nat) (A : Option Addr) (l : List UInt8) (d : Nat) (hx : a.eval x = .slice A l.length d) (hr : Rd w C A l) (hA : A = none → d = 0) (hm : L.length + l.length ≤ 140737488355328) (hB : B ≤ w.heap.size) (w0 : World) (hb : Below B w0 w)
    (h : ∀ v' w', OwnV w' B v' (L ++ l) → Below B w0 w' → K (a.put o.dst v') w') : o.wp Try.prog a w K Q := by
  obtain ⟨i0, hi, hz0, hz1, hz2⟩ := info_parts inf_u8
  cases A with
  | none =>
    have hl : l = [] := by
      cases l with
      | nil => rfl
      | cons y l => obtain ⟨_, _, e, _⟩ := hr.2 (by simp); cases e
    subst hl
    obtain rfl := hA rfl
    rw [List.append_nil] at h
    have hrun := run_append_owned_none (P := Try.prog) (w := w) B _ o.type _ i0 1 und_bytes hi _ L.length (bytCells L) hown
    unfold Oper.wp
    have hx' : a.eval x = .slice none 0 0 := hx
    simp [execOp, ho, resolve, invoke, builtin, hs, hx', hrun, Result.andThen]
    exact h v w hown hb
  | some ad =>
    obtain ⟨v', w', hrun, h2, h3, h4, h5⟩ := run_append_own_at (P := Try.prog) w B _ o.type _ i0 _ 1 1 und_bytes hi hz0 hz1 hz2 rfl (by omega) _ L.length (bytCells L) hown ad l.length d (bytCells l) (by rw [bytCells_len, Nat.mul_one])
      (fun j u hj => by
        have hlt : j < l.length := by
          rw [← bytCells_len]
          exact (List.getElem?_eq_some_iff.1 hj).1
        obtain ⟨g1, o1, e, _, hc⟩ := hr.2 (by omega)
        injection e with e
        subst e
        rw [Addr.add_mid]
        exact hc j u hj) (bytCells_one _) (by unfold maxLen; omega) (by omega) hB
    unfold Oper.wp execOp
    simp only [ho, resolve, invoke, builtin, Sem.run_bind, Sem.run_pure, Result.andThen_ok, List.map_toArray, List.map_cons, List.map_nil, hs, hx, hrun]
    refine h v' w' ?_ (hb.grown h3 hB (fun k hk => (hown.lt k hk).1))
    unfold OwnV
    rw [bytCells_append, List.length_append]
    exact h2
theorem wpList_append_v {ops : Array Oper} {rest : List Oper} {o : Oper} {a : Act} {w : World} {Q : Exit → Act → World → Prop} (hgd : o.guard = none) (s x : Operand)
    (ho : o.op = .call { callee := .builtin .append, args := #[s, x], argTypes := #[25, 25] }) (B : Nat) (v : Value) (L : List UInt8) (hs : a.eval s = v) (hown : OwnV w B v L)
    (C : Nat) (A : Option Addr) (l : List UInt8) (d : Nat) (hx : a.eval x = .slice A l.length d) (hr : Rd w C A l) (hA : A = none → d = 0) (hm : L.length + l.length ≤ 140737488355328) (hB : B ≤ w.heap.size) (w0 : World) (hb : Below B w0 w)
    (h : ∀ v' w', Hid (OwnV w' B v' (L ++ l)) → Hid (Below B w0 w') → wpList Try.prog ops Q rest (a.put o.dst v') w') : wpList Try.prog ops Q (o :: rest) a w :=
  wpList_plain hgd fun _ hK => wp_append_v s x ho B v L hs hown C A l d hx hr hA hm hB w0 hb fun v' w' h1 h2 => hK _ _ (h v' w' (Lib.hid h1) (Lib.hid h2))
/-- one byte in a block of its own -/
theorem rd_one (w : World) (n : Int) (x : UInt8) (hx : n = (x.toNat : Int)) : Rd (w.alloc (.cells #[.int .u8 n] 5)) (w.alloc (.cells #[.int .u8 n] 5)).heap.size (some ⟨w.heap.size, 0, none⟩) [x] := by
  subst hx
  exact Rd.of_has (Has.of_alloc _ _ _) rfl (by simp)
end Go.Proofs.Ytnghpklegomaeaa

/-
  The document reads items.
-/
import Derived.Test.YtfbdikaaeedeoaaDoorKRefN
import Derived.Test.YtfbdikaaeedeoaaDoorKDecode
import Derived.Deep.CutRange
namespace Go.Proofs.YtfbdikaaeedeoaaDoor
open Go.RowKit Go.Maps
open Ky (Its)
set_option maxRecDepth 100000

theorem eltRI : Elt 41 83 4 56 := elt_of (z := .agg #[.int .u8 0, .int .i64 0, .string ⟨#[]⟩, .slice none 0 0]) (by kernel_rfl) (by kernel_rfl) rfl (by decide)
/-- what is read from here on: so many items, or all that there are -/
def Ky.rdM (M : Int) (q kk : Nat) (l : List UInt8) : Except Int (Its × List UInt8) :=
  if M < 0 then (match Ky.dec l with
    | .error e => .error e
    | .ok t => .ok (t, [])) else Ky.readL (Ky.readIt q) (M.toNat - kk) l
/-- is there more to read? -/
def Ky.more (M : Int) (kk a n : Nat) : Bool := decide (M < 0 ∧ a < n ∨ (kk : Int) < M)
theorem rdM_stop {M : Int} {q kk a : Nat} {s : List UInt8} (h : Ky.more M kk a s.length = false) : Ky.rdM M q kk (s.drop a) = .ok (.nil, s.drop a) := by
  have h := of_decide_eq_false h
  unfold Ky.rdM
  by_cases hM : M < 0
  · rw [if_pos hM, show s.drop a = [] from List.drop_eq_nil_of_le (by omega), Ky.dec_nil]
  · rw [if_neg hM, show M.toNat - kk = 0 by omega, Ky.readL]
theorem rdM_bad {M : Int} {q kk a : Nat} {s : List UInt8} {c : Int} (hq : M < 0 → q = 16) (h : Ky.more M kk a s.length = true) (hi : Ky.readIt q (s.drop a) = .error c) : Ky.rdM M q kk (s.drop a) = .error c := by
  have h := of_decide_eq_true h
  unfold Ky.rdM
  by_cases hM : M < 0
  · rw [if_pos hM]
    obtain rfl := hq hM
    rw [Ky.dec_bad (by intro e; have := congrArg List.length e; simp at this; omega) hi]
  · rw [if_neg hM, show M.toNat - kk = (M.toNat - (kk + 1)) + 1 by omega, Ky.readL, hi]
theorem rdM_step {M : Int} {q kk a : Nat} {s r x : List UInt8} {k : UInt8} {n : Int} {sub d : Its} (hq : M < 0 → q = 16) (h : Ky.more M kk a s.length = true) (hi : Ky.readIt q (s.drop a) = .ok ((k, n, x, sub), r)) :
    joinL d (Ky.rdM M q kk (s.drop a)) = joinL (Its.app d (one k n x sub)) (Ky.rdM M q (kk + 1) r) := by
  have h := of_decide_eq_true h
  unfold Ky.rdM
  by_cases hM : M < 0
  · rw [if_pos hM, if_pos hM]
    obtain rfl := hq hM
    rw [Ky.dec_step hi]
    rcases Ky.dec r with e | t
    · rfl
    · simp only [joinL, Its.app_assoc]
      rfl
  · rw [if_neg hM, if_neg hM, show M.toNat - kk = (M.toNat - (kk + 1)) + 1 by omega, joinL_step hi]
theorem readIt_shorter {q : Nat} {s r a : List UInt8} {k : UInt8} {m : Int} {sub : Its} (hq : q ≤ 16) (h : Ky.readIt q s = .ok ((k, m, a, sub), r)) : r.length < s.length := by
  rw [(Ky.readIt_back q hq s k m a sub r h).1]
  simp
  omega
/-- more items than bytes: whatever the number, it ends alike -/
theorem readL_many {q : Nat} (hq : q ≤ 16) : ∀ (L n m : Nat) (l : List UInt8), l.length ≤ L → l.length < n → l.length < m → Ky.readL (Ky.readIt q) n l = Ky.readL (Ky.readIt q) m l := by
  intro L
  induction L with
  | zero =>
    intro n m l h0 h1 h2
    obtain rfl : l = [] := List.eq_nil_of_length_eq_zero (by omega)
    obtain ⟨n, rfl⟩ : ∃ n', n = n' + 1 := ⟨n - 1, by omega⟩
    obtain ⟨m, rfl⟩ : ∃ m', m = m' + 1 := ⟨m - 1, by omega⟩
    have he : Ky.readIt q [] = .error 4 := by cases q <;> rfl
    rw [Ky.readL, Ky.readL, he]
  | succ L ih =>
    intro n m l h0 h1 h2
    obtain ⟨n, rfl⟩ : ∃ n', n = n' + 1 := ⟨n - 1, by omega⟩
    obtain ⟨m, rfl⟩ : ∃ m', m = m' + 1 := ⟨m - 1, by omega⟩
    rw [Ky.readL, Ky.readL]
    cases hi : Ky.readIt q l with
    | error e => rfl
    | ok y =>
      obtain ⟨⟨k, m', a, sub⟩, r⟩ := y
      have := readIt_shorter hq hi
      simp only
      rw [ih n m r (by omega) (by omega) (by omega)]
theorem drop_suffix {s x r : List UInt8} {j : Nat} (h : s.drop j = x ++ r) : s.drop (s.length - r.length) = r ∧ r.length ≤ s.length - j := by
  have hl := congrArg List.length h
  simp only [List.length_drop, List.length_append] at hl
  refine ⟨?_, by omega⟩
  have h2 : s.length - r.length = j + x.length ∨ (r = [] ∧ x = []) := by
    by_cases hj : j ≤ s.length
    · left; omega
    · right
      exact ⟨List.eq_nil_of_length_eq_zero (by omega), List.eq_nil_of_length_eq_zero (by omega)⟩
  rcases h2 with h2 | ⟨rfl, rfl⟩
  · rw [h2, ← List.drop_drop, h, List.drop_left]
  · simp
def RPost (M : Int) (q : Nat) (w : World) (s : List UInt8) (p : Nat) (e : Ending) (w' : World) : Prop :=
  (match Ky.rdM M q 0 (s.drop p) with
    | .error c => e = .returned (.tuple #[.slice none 0 0, .int .i64 0, .int .i64 c])
    | .ok (t, r) => ∃ A c, e = .returned (.tuple #[.slice A t.len c, .int .i64 ((s.length : Int) - (r.length : Int)), .int .i64 0]) ∧ SlX w' (fun g => w.heap.size ≤ g ∧ g < w'.heap.size) A t) ∧ Below w.heap.size w w'
structure RLp (M : Int) (q : Nat) (w : World) (s : List UInt8) (p : Nat) (a kk : Nat) (v : Value) (d : Its) (wr : World) : Prop where
  le : a ≤ s.length
  cnt : kk ≤ a
  dl : d.len ≤ a
  join : joinL .nil (Ky.rdM M q 0 (s.drop p)) = joinL d (Ky.rdM M q kk (s.drop a))
  own : OwnI 83 wr w.heap.size v d
  low : Below w.heap.size w wr
theorem RLp.bad {M : Int} {q : Nat} {w wr w' : World} {s : List UInt8} {p a kk : Nat} {v : Value} {d : Its} {c : Int} (h : RLp M q w s p a kk v d wr) (hq : M < 0 → q = 16) (hm : Ky.more M kk a s.length = true) (hi : Ky.readIt q (s.drop a) = .error c) (hb : Below w.heap.size wr w') : RPost M q w s p (.returned (.tuple #[.slice none 0 0, .int .i64 0, .int .i64 c])) w' := by
  have hj := h.join
  rw [joinL_nil, rdM_bad hq hm hi] at hj
  unfold RPost
  rw [hj]
  exact ⟨rfl, h.low.trans hb⟩
theorem RLp.done {M : Int} {q : Nat} {w wr : World} {s : List UInt8} {p a kk c : Nat} {A : Option Addr} {d : Its} (h : RLp M q w s p a kk (.slice A d.len c) d wr) (hm : Ky.more M kk a s.length = false) : RPost M q w s p (.returned (.tuple #[.slice A d.len c, .int .i64 (a : Int), .int .i64 0])) wr := by
  have hj := h.join
  rw [joinL_nil, rdM_stop hm, joinL, Its.app_nil] at hj
  obtain ⟨A', c', e, -, hs⟩ := h.own.form
  injection e with e1 e2 e3
  subst e1
  unfold RPost
  rw [hj]
  refine ⟨⟨A, c, ?_, hs⟩, h.low⟩
  rw [List.length_drop]
  have := h.le
  rw [show (s.length : Int) - ((s.length - a : Nat) : Int) = (a : Int) by omega]
theorem RLp.next {M : Int} {q : Nat} {w wr w' : World} {s r x : List UInt8} {p a b kk : Nat} {v v' : Value} {d sub : Its} {k : UInt8} {n : Int} (h : RLp M q w s p a kk v d wr) (hq : M < 0 → q = 16) (hq16 : q ≤ 16) (hm : Ky.more M kk a s.length = true) (hi : Ky.readIt q (s.drop a) = .ok ((k, n, x, sub), r)) (hb : s.drop b = r) (hbl : b ≤ s.length)
    (ho : OwnI 83 w' w.heap.size v' (Its.app d (one k n x sub))) (hw : Below w.heap.size w w') : RLp M q w s p b (kk + 1) v' (Its.app d (one k n x sub)) w' ∧ a < b := by
  have hl := readIt_shorter hq16 hi
  rw [← hb, List.length_drop, List.length_drop] at hl
  have hle := h.le
  have hab : a < b := by omega
  refine ⟨⟨hbl, by have := h.cnt; omega, ?_, ?_, ho, hw⟩, hab⟩
  · rw [Its.app_len]
    have := h.dl
    simp only [Its.len]
    omega
  · rw [h.join, rdM_step hq hm hi, hb]
theorem readIt_kind {q : Nat} {k : UInt8} {r : List UInt8} (h1 : k ≠ 1) (h2 : k ≠ 2) (h3 : k ≠ 3) : Ky.readIt q (k :: r) = .error 4 := by
  cases hc : Ky.readC 0 0 r with
  | none => exact readIt_count hc
  | some y => obtain ⟨x, r2⟩ := y; exact readIt_else hc h1 h2 h3
set_option maxHeartbeats 6400000 in
theorem rread_any (N : Nat) : ∀ (q deep : Nat) (M : Int) (w : World) (s : List UInt8) (p : Nat), q < N → deep + q = 16 → (M = -1 ∧ q = 16 ∨ 0 ≤ M ∧ M ≤ 100001) → s.length ≤ 100000 → p ≤ s.length →
    Calls Tryd.prog 45 #[bstr s, .int .i64 (p : Int), .int .i64 M, .int .i64 (deep : Int)] w (RPost M q w s p) := by
  induction N with
  | zero => intro q deep M w s p hN; omega
  | succ N ih =>
    intro q deep M w s p hN hdq hM hs hp
    have HN := Lib.hid hN
    have HIH := Lib.hid ih
    have HM := Lib.hid hM
    have HDQ := Lib.hid hdq
    have HS := Lib.hid hs
    have HQ : Hid (M < 0 → q = 16) := Lib.hid (by omega)
    have HQ16 : Hid (q ≤ 16) := Lib.hid (by omega)
    have hd16 : (deep : Int) ≤ 16 := by omega
    have hsb : (s.length : Int) ≤ 100000 := by omega
    have HL0 : Hid (RLp M q w s p p 0 (.slice none 0 0) .nil w) := Lib.hid ⟨hp, Nat.zero_le _, Nat.zero_le _, rfl, OwnI.nil _ _ _, Below.refl _ _⟩
    have hpb : (p : Int) ≤ 100000 := by omega
    clear ih hN hdq hM hs hp
    unfold bstr
    go_enter Tryd.func45, Tryd.ntmps45
    go_wp2_with fail
    go_loopw [1, 11, 12] (fun x v i wr => ∃ (a kk : Nat) (d : Its), x = .int .i64 (a : Int) ∧ i = .int .i64 (kk : Int) ∧ Hid (RLp M q w s p a kk v d wr)) (fun x _ _ _ => s.length - (intOf x).toNat)
    case atStart => exact ⟨p, 0, .nil, rfl, rfl, HL0⟩
    case round =>
      rename World => wr
      obtain ⟨a, kk, d, rfl, rfl, HL⟩ := hrel
      obtain ⟨Av, cv, rfl, -, -⟩ := HL.out.own.form
      have hab : (a : Int) ≤ 100000 := by have := HL.out.le; have := HS.out; omega
      have hkb : (kk : Int) ≤ 100000 := by have := HL.out.cnt; have := HL.out.le; have := HS.out; omega
      go_upto_region 3 with fail
      go_cut [32] from 20 to 134 (fun b wx => b = .bool (Ky.more M kk a s.length) ∧ wr = wx)
      case first =>
        rcases HM.out with ⟨rfl, -⟩ | ⟨h0, h1⟩
        · have HMO : Hid (Ky.more (-1) kk a s.length = decide ((a : Int) < (s.length : Int))) := Lib.hid (by unfold Ky.more; simp; omega)
          have hk1 : ¬ ((kk : Int) < -1) := by omega
          by_cases hal : (a : Int) < (s.length : Int)
          · go_wp2_with fail
            go_meet
            exact ⟨by rw [HMO.out, decide_eq_true hal], rfl⟩
          · go_wp2_with fail
            go_meet
            exact ⟨by rw [HMO.out, decide_eq_false (by omega)], rfl⟩
        · have h0' : ¬ (M < 0) := by omega
          have HMO : Hid (Ky.more M kk a s.length = decide ((kk : Int) < M)) := Lib.hid (by unfold Ky.more; simp; omega)
          by_cases hkm : (kk : Int) < M
          · go_wp2_with fail
            go_meet
            exact ⟨by rw [HMO.out, decide_eq_true hkm], rfl⟩
          · go_wp2_with fail
            go_meet
            exact ⟨by rw [HMO.out, decide_eq_false (by omega)], rfl⟩
      case rest =>
      obtain ⟨rfl, rfl⟩ := hcut
      cases hmore : Ky.more M kk a s.length with
      | false =>
        have HP : Hid (RPost M q w s p (.returned (.tuple #[.slice Av d.len cv, .int .i64 (a : Int), .int .i64 0])) wr) := Lib.hid (HL.out.done hmore)
        clear hmore
        go_wp2_with fail
        go_ret3
        exact HP.out
      | true =>
        have HMORE := Lib.hid hmore
        clear hmore
        by_cases hal : a < s.length
        · have hal' : (a : Int) < (s.length : Int) := by omega
          obtain ⟨b, hb⟩ : ∃ b, s[a] = b := ⟨_, rfl⟩
          have hix := byte_at s a hal b hb
          have HDR : Hid (s.drop a = b :: s.drop (a + 1)) := Lib.hid (by rw [List.drop_eq_getElem_cons hal, hb])
          have hqd : decide (s.length ≤ a) = false := decide_eq_false (by omega)
          have hb256 : (b.toNat : Int) < 256 := by have := b.toNat_lt; omega
          have HAL := Lib.hid hal
          have HC := Lib.hid (rnum_any wr s (a + 1) (by have := HS.out; omega) (by omega))
          rw [show ((a + 1 : Nat) : Int) = (a : Int) + 1 by omega] at HC
          unfold bstr at HC
          clear hb hal
          by_cases hkind : b = 1 ∨ b = 2 ∨ b = 3
          · have hb1 : ¬ ((b.toNat : Int) < 1) := by rcases hkind with rfl | rfl | rfl <;> decide
            have hb3 : ¬ ((3 : Int) < (b.toNat : Int)) := by rcases hkind with rfl | rfl | rfl <;> decide
            have HK := Lib.hid hkind
            clear hkind
            cases hc : Ky.readC 0 0 (s.drop (a + 1)) with
            | none =>
              rw [(num_none hc).1, (num_none hc).2] at HC
              have HP := Lib.hid (fun w' hb => HL.out.bad (w' := w') HQ.out HMORE.out (by rw [HDR.out]; exact readIt_count hc) hb)
              clear hc
              go_wp2_with fail
              refine HC.out.mono ?_
              rintro e w' ⟨rfl, rfl⟩
              go_wp2_with fail
              go_ret3
              exact HP.out _ (Below.refl _ _)
            | some y =>
              obtain ⟨x, r2⟩ := y
              rw [(num_some hc).1, (num_some hc).2] at HC
              have HCC := Lib.hid hc
              have hw := Ky.readC_whole hc
              obtain ⟨hsu, hrl⟩ := drop_suffix hw.1
              have hxl : (x : Int) < 18446744073709551616 := by have := hw.2; omega
              obtain ⟨e2, he2⟩ : ∃ e2 : Nat, e2 = s.length - r2.length := ⟨_, rfl⟩
              have HE2 : Hid (s.drop e2 = r2 ∧ e2 ≤ s.length ∧ e2 + r2.length = s.length) := Lib.hid (by rw [he2]; exact ⟨hsu, by omega, by omega⟩)
              rw [show (s.length : Int) - (r2.length : Int) = (e2 : Int) by omega] at HC
              have he2b : (e2 : Int) ≤ 100000 := by have := HE2.out.2.1; have := HS.out; omega
              clear hc hw hsu hrl he2
              go_wp2_with fail
              refine HC.out.mono ?_
              rintro e w' ⟨rfl, rfl⟩
              clear hb1 hb3 hix hqd
              go_upto_region 9 with fail
              clear hxl
              go_upto_region 11 with fail
              go_upto_region 12 with fail
              rcases HK.out with rfl | rfl | rfl
              · -- a number
                have hwr : IntKind.i64.wrap ((x : Int) / 2) = (x : Int) / 2 := by have := (Ky.readC_whole HCC.out).2; rw [IntKind.wrap_i64]; omega
                have hand0 : bits .and .u64 (x : Int) 1 = ((x % 2 : Nat) : Int) := by
                  rw [show (1 : Int) = ((1 : Nat) : Int) from rfl, u64_and_nat _ _ (by have := (Ky.readC_whole HCC.out).2; omega) (by omega), Nat.and_one_is_mod]
                by_cases h1 : x % 2 = 1
                · have hand : bits .and .u64 (x : Int) 1 = 1 := by rw [hand0, h1]; rfl
                  have hnot : bits .xor .i64 (-1) ((x : Int) / 2) = -((x : Int) / 2) - 1 := by
                    have h3 := i64_not (x / 2) (by have := (Ky.readC_whole HCC.out).2; omega)
                    rw [show (((x / 2 : Nat) : Int)) = (x : Int) / 2 by omega] at h3
                    rw [h3]; omega
                  have hz : Ky.unfolded x = -((x : Int) / 2) - 1 := by unfold Ky.unfolded; rw [if_pos h1]; omega
                  have HIT : Hid (Ky.readIt q (1 :: s.drop (a + 1)) = .ok ((1, -((x : Int) / 2) - 1, [], .nil), r2)) := Lib.hid (by rw [readIt_num HCC.out, hz])
                  have HN := Lib.hid hnot
                  clear hand0 h1 hz hnot
                  go_upto_region 26 with (refine wpList_not rfl 2 (.tmp 104) rfl _ _ rfl HN.out ?_)
                  clear hand hwr
                  generalize hnn : -((x : Int) / 2) - 1 = nn at *
                  clear hnn
                  have HB6 : Hid (Below wr.heap.size wr (wr.alloc (.cells #[.int .u8 1, .int .i64 nn, .string ⟨#[]⟩, .slice none 0 0] 83))) := Lib.hid ((Below.refl _ _).alloc (Nat.le_refl _) _)
                  have HO6 : Hid (OwnI 83 (wr.alloc (.cells #[.int .u8 1, .int .i64 nn, .string ⟨#[]⟩, .slice none 0 0] 83)) w.heap.size (.slice Av d.len cv) d) := Lib.hid (HL.out.own.below HB6.out)
                  obtain ⟨xs, hq1, hq2⟩ := HO6.out.row
                  have HQ1 := Lib.hid hq1
                  have HQ2 := Lib.hid hq2
                  have HH6 := Lib.hid (Has.of_alloc wr 83 #[.int .u8 1, .int .i64 nn, .string ⟨#[]⟩, .slice none 0 0])
                  have HZ6 : Hid (w.heap.size ≤ wr.heap.size) := Lib.hid (HL.out.low.size)
                  clear hq1 hq2
                  go_wp2_with (refine wpList_append_row eltRI rfl (.tmp 106) (.tmp 109) rfl w.heap.size _ d.len xs rfl HQ1.out wr.heap.size [.int .u8 1, .int .i64 nn, .string ⟨#[]⟩, .slice none 0 0] rfl HH6.out rfl (fun u hu => by simp at hu; rcases hu with rfl | rfl | rfl | rfl <;> rfl) (by have := HL.out.dl; have := HL.out.le; have := HS.out; omega) (by decide) (by have := HZ6.out; have := HB6.out.size; omega) ?_; intro g' cap w7 O7 F7 G7 Z7)
                  have HB7 : Hid (Below w.heap.size w w7) := Lib.hid ((HL.out.low.trans (HB6.out.mono HZ6.out)).trans (F7.out.below (by have := HZ6.out; have := HB6.out.size; omega) (fun x hx => (HO6.out.lt x hx).1)))
                  have HO7 : Hid (OwnI 83 w7 w.heap.size (.slice (some ⟨g', 0, none⟩) (d.len + 1) cap) (Its.app d (one 1 nn [] .nil))) := Lib.hid (OwnI.snoc HQ2.out (SlX.nil _ _ _) O7.out F7.out (by
                    rcases G7.out with h | h
                    · exact .inl h.symm
                    · exact .inr (congrArg some h)))
                  have HNX := Lib.hid (HL.out.next HQ.out HQ16.out HMORE.out (by rw [HDR.out]; exact HIT.out) HE2.out.1 HE2.out.2.1 HO7.out HB7.out)
                  go_roundw
                  case rel => exact ⟨_, kk + 1, _, by go_num, by go_num, Lib.hid HNX.out.1⟩
                  case measure => have := HNX.out.2; have := HNX.out.1.le; (simp [intOf]) <;> omega
                · have hand : bits .and .u64 (x : Int) 1 = 0 := by rw [hand0, show x % 2 = 0 by omega]; rfl
                  have hz : Ky.unfolded x = (x : Int) / 2 := by unfold Ky.unfolded; rw [if_neg h1]; omega
                  have HIT : Hid (Ky.readIt q (1 :: s.drop (a + 1)) = .ok ((1, (x : Int) / 2, [], .nil), r2)) := Lib.hid (by rw [readIt_num HCC.out, hz])
                  clear hand0 h1 hz
                  go_upto_region 26 with fail
                  clear hand hwr
                  generalize hnn : (x : Int) / 2 = nn at *
                  clear hnn
                  have HB6 : Hid (Below wr.heap.size wr (wr.alloc (.cells #[.int .u8 1, .int .i64 nn, .string ⟨#[]⟩, .slice none 0 0] 83))) := Lib.hid ((Below.refl _ _).alloc (Nat.le_refl _) _)
                  have HO6 : Hid (OwnI 83 (wr.alloc (.cells #[.int .u8 1, .int .i64 nn, .string ⟨#[]⟩, .slice none 0 0] 83)) w.heap.size (.slice Av d.len cv) d) := Lib.hid (HL.out.own.below HB6.out)
                  obtain ⟨xs, hq1, hq2⟩ := HO6.out.row
                  have HQ1 := Lib.hid hq1
                  have HQ2 := Lib.hid hq2
                  have HH6 := Lib.hid (Has.of_alloc wr 83 #[.int .u8 1, .int .i64 nn, .string ⟨#[]⟩, .slice none 0 0])
                  have HZ6 : Hid (w.heap.size ≤ wr.heap.size) := Lib.hid (HL.out.low.size)
                  clear hq1 hq2
                  go_wp2_with (refine wpList_append_row eltRI rfl (.tmp 106) (.tmp 109) rfl w.heap.size _ d.len xs rfl HQ1.out wr.heap.size [.int .u8 1, .int .i64 nn, .string ⟨#[]⟩, .slice none 0 0] rfl HH6.out rfl (fun u hu => by simp at hu; rcases hu with rfl | rfl | rfl | rfl <;> rfl) (by have := HL.out.dl; have := HL.out.le; have := HS.out; omega) (by decide) (by have := HZ6.out; have := HB6.out.size; omega) ?_; intro g' cap w7 O7 F7 G7 Z7)
                  have HB7 : Hid (Below w.heap.size w w7) := Lib.hid ((HL.out.low.trans (HB6.out.mono HZ6.out)).trans (F7.out.below (by have := HZ6.out; have := HB6.out.size; omega) (fun x hx => (HO6.out.lt x hx).1)))
                  have HO7 : Hid (OwnI 83 w7 w.heap.size (.slice (some ⟨g', 0, none⟩) (d.len + 1) cap) (Its.app d (one 1 nn [] .nil))) := Lib.hid (OwnI.snoc HQ2.out (SlX.nil _ _ _) O7.out F7.out (by
                    rcases G7.out with h | h
                    · exact .inl h.symm
                    · exact .inr (congrArg some h)))
                  have HNX := Lib.hid (HL.out.next HQ.out HQ16.out HMORE.out (by rw [HDR.out]; exact HIT.out) HE2.out.1 HE2.out.2.1 HO7.out HB7.out)
                  go_roundw
                  case rel => exact ⟨_, kk + 1, _, by go_num, by go_num, Lib.hid HNX.out.1⟩
                  case measure => have := HNX.out.2; have := HNX.out.1.le; (simp [intOf]) <;> omega
              · -- a text
                obtain ⟨m, hm⟩ : ∃ m, r2.length = m := ⟨_, rfl⟩
                have hsub : (s.length : Int) - (e2 : Int) = (m : Int) := by have := HE2.out.2.2; omega
                have hmb : (m : Int) ≤ 100000 := by have := HE2.out.2.2; have := HS.out; omega
                have HMM := Lib.hid hm
                clear hm
                by_cases hl : m < x
                · have hl' : (m : Int) < (x : Int) := by omega
                  have HP := Lib.hid (fun w' hb => HL.out.bad (w' := w') HQ.out HMORE.out (by rw [HDR.out]; exact readIt_short HCC.out (by rw [HMM.out]; exact hl)) hb)
                  clear hl
                  go_wp2_with fail
                  go_ret3
                  exact HP.out _ (Below.refl _ _)
                · have hl' : (x : Int) ≤ (m : Int) := by omega
                  have HXM : Hid (x ≤ m) := Lib.hid (by omega)
                  have hxb : (x : Int) ≤ 100000 := by omega
                  have hsl : (e2 : Int) + (x : Int) ≤ (s.length : Int) := by omega
                  have hext : (ByteArray.mk s.toArray).extract e2 (e2 + x) = ⟨(r2.take x).toArray⟩ := by
                    apply ByteArray.ext
                    rw [ByteArray.data_extract]
                    show s.toArray.extract e2 (e2 + x) = _
                    rw [List.extract_toArray, List.extract_eq_drop_take', List.drop_take, HE2.out.1, Nat.add_sub_cancel_left]
                  have HIT : Hid (Ky.readIt q (2 :: s.drop (a + 1)) = .ok ((2, 0, r2.take x, .nil), r2.drop x)) := Lib.hid (readIt_text HCC.out (by rw [HMM.out]; have := HXM.out; omega))
                  have HE3 : Hid (s.drop (e2 + x) = r2.drop x ∧ e2 + x ≤ s.length) := Lib.hid ⟨by rw [← HE2.out.1, List.drop_drop], by omega⟩
                  clear hl
                  generalize r2.take x = tx at *
                  generalize r2.drop x = r3 at *
                  have HB6 : Hid (Below wr.heap.size wr (wr.alloc (.cells #[.int .u8 2, .int .i64 0, .string ⟨tx.toArray⟩, .slice none 0 0] 83))) := Lib.hid ((Below.refl _ _).alloc (Nat.le_refl _) _)
                  have HO6 : Hid (OwnI 83 (wr.alloc (.cells #[.int .u8 2, .int .i64 0, .string ⟨tx.toArray⟩, .slice none 0 0] 83)) w.heap.size (.slice Av d.len cv) d) := Lib.hid (HL.out.own.below HB6.out)
                  obtain ⟨xs, hq1, hq2⟩ := HO6.out.row
                  have HQ1 := Lib.hid hq1
                  have HQ2 := Lib.hid hq2
                  have HH6 := Lib.hid (Has.of_alloc wr 83 #[.int .u8 2, .int .i64 0, .string ⟨tx.toArray⟩, .slice none 0 0])
                  have HZ6 : Hid (w.heap.size ≤ wr.heap.size) := Lib.hid (HL.out.low.size)
                  clear hq1 hq2
                  go_wp2_with (refine wpList_append_row eltRI rfl (.tmp 120) (.tmp 129) rfl w.heap.size _ d.len xs rfl HQ1.out wr.heap.size [.int .u8 2, .int .i64 0, .string ⟨tx.toArray⟩, .slice none 0 0] rfl HH6.out rfl (fun u hu => by simp at hu; rcases hu with rfl | rfl | rfl | rfl <;> rfl) (by have := HL.out.dl; have := HL.out.le; have := HS.out; omega) (by decide) (by have := HZ6.out; have := HB6.out.size; omega) ?_; intro g' cap w7 O7 F7 G7 Z7)
                  have HB7 : Hid (Below w.heap.size w w7) := Lib.hid ((HL.out.low.trans (HB6.out.mono HZ6.out)).trans (F7.out.below (by have := HZ6.out; have := HB6.out.size; omega) (fun x hx => (HO6.out.lt x hx).1)))
                  have HO7 : Hid (OwnI 83 w7 w.heap.size (.slice (some ⟨g', 0, none⟩) (d.len + 1) cap) (Its.app d (one 2 0 tx .nil))) := Lib.hid (OwnI.snoc HQ2.out (SlX.nil _ _ _) O7.out F7.out (by
                    rcases G7.out with h | h
                    · exact .inl h.symm
                    · exact .inr (congrArg some h)))
                  have HNX := Lib.hid (HL.out.next HQ.out HQ16.out HMORE.out (by rw [HDR.out]; exact HIT.out) HE3.out.1 HE3.out.2 HO7.out HB7.out)
                  go_roundw
                  case rel => exact ⟨_, kk + 1, _, by go_num, by go_num, Lib.hid HNX.out.1⟩
                  case measure => have := HNX.out.2; have := HNX.out.1.le; (simp [intOf]) <;> omega
              · -- a list
                by_cases hq0 : q = 0
                · subst hq0
                  have hde : ((deep : Int) == 16) = true := by have := HDQ.out; simp; omega
                  have HP := Lib.hid (fun w' hb => HL.out.bad (w' := w') HQ.out HMORE.out (by rw [HDR.out]; exact readIt_deep HCC.out) hb)
                  go_wp2_with fail
                  go_ret3
                  exact HP.out _ (Below.refl _ _)
                · have hde : ((deep : Int) == 16) = false := by have := HDQ.out; simp; omega
                  obtain ⟨q', rfl⟩ : ∃ q', q = q' + 1 := ⟨q - 1, by omega⟩
                  clear hq0
                  go_upto_if 71 with fail
                  go_cut [14] from 20 to 134 (fun n wx => n = .int .u64 ((min x (s.length + 1) : Nat) : Int) ∧ wr = wx)
                  case first =>
                    by_cases hxs : s.length < x
                    · have hxs' : (s.length : Int) < (x : Int) := by omega
                      have HMI : Hid (min x (s.length + 1) = s.length + 1) := Lib.hid (Nat.min_eq_right (by omega))
                      clear hxs
                      go_wp2_with fail
                      go_meet
                      exact ⟨by rw [HMI.out]; rfl, rfl⟩
                    · have hxs' : ¬ ((s.length : Int) < (x : Int)) := by omega
                      have HMI : Hid (min x (s.length + 1) = x) := Lib.hid (Nat.min_eq_left (by omega))
                      clear hxs
                      go_wp2_with fail
                      go_meet
                      exact ⟨by rw [HMI.out], rfl⟩
                  case rest =>
                  obtain ⟨rfl, rfl⟩ := hcut
                  have HSAME : Hid (Ky.readL (Ky.readIt q') x r2 = Ky.readL (Ky.readIt q') (min x (s.length + 1)) r2) := Lib.hid (by
                    by_cases hxs : s.length < x
                    · exact readL_many (by have := HQ16.out; omega) _ _ _ r2 (Nat.le_refl _) (by have := HE2.out.2.2; omega) (by have := HE2.out.2.2; omega)
                    · rw [Nat.min_eq_left (by omega)])
                  obtain ⟨m, hm⟩ : ∃ m, min x (s.length + 1) = m := ⟨_, rfl⟩
                  rw [hm] at HSAME ⊢
                  have hmb : (m : Int) ≤ 100001 := by have := HS.out; omega
                  clear hm
                  have HR := Lib.hid (HIH.out q' (deep + 1) (m : Int) wr s e2 (by have := HN.out; omega) (by have := HDQ.out; omega) (.inr ⟨by omega, hmb⟩) HS.out HE2.out.2.1)
                  rw [show ((deep + 1 : Nat) : Int) = (deep : Int) + 1 by omega] at HR
                  unfold RPost at HR
                  rw [show Ky.rdM (m : Int) q' 0 (s.drop e2) = Ky.readL (Ky.readIt q') m r2 by unfold Ky.rdM; rw [if_neg (by omega), HE2.out.1]; simp] at HR
                  unfold bstr at HR
                  cases hl : Ky.readL (Ky.readIt q') m r2 with
                  | error c =>
                    rw [hl] at HR
                    have HIT : Hid (Ky.readIt (q' + 1) (3 :: s.drop (a + 1)) = .error c) := Lib.hid (readIt_list_bad HCC.out (by rw [HSAME.out, hl]))
                    have hcn : (c != 0) = true := by simpa using readIt_err _ _ c HIT.out
                    have HP := Lib.hid (fun w' hb => HL.out.bad (w' := w') HQ.out HMORE.out (by rw [HDR.out]; exact HIT.out) hb)
                    have HLS : Hid (w.heap.size ≤ wr.heap.size) := Lib.hid HL.out.low.size
                    clear hl
                    go_wp2_with fail
                    refine HR.out.mono ?_
                    rintro e w3 ⟨rfl, hb3⟩
                    have HB3 := Lib.hid hb3
                    clear hb3
                    go_wp2_with fail
                    go_ret3
                    exact HP.out _ (HB3.out.mono HLS.out)
                  | ok y =>
                    obtain ⟨t, r3⟩ := y
                    rw [hl] at HR
                    have HIT : Hid (Ky.readIt (q' + 1) (3 :: s.drop (a + 1)) = .ok ((3, 0, [], t), r3)) := Lib.hid (readIt_list_ok HCC.out (by rw [HSAME.out, hl]))
                    have hbk := Ky.readL_back (Ky.readIt_back q' (by have := HQ16.out; omega)) _ _ _ _ hl
                    obtain ⟨hsu3, hrl3⟩ := drop_suffix (HE2.out.1.trans hbk.1)
                    obtain ⟨e3, he3⟩ : ∃ e3 : Nat, e3 = s.length - r3.length := ⟨_, rfl⟩
                    have HE3 : Hid (s.drop e3 = r3 ∧ e3 ≤ s.length) := Lib.hid (by rw [he3]; exact ⟨hsu3, by omega⟩)
                    have he3' : (s.length : Int) - (r3.length : Int) = (e3 : Int) := by have := HE2.out.2.2; omega
                    have HLS : Hid (w.heap.size ≤ wr.heap.size) := Lib.hid HL.out.low.size
                    simp only [he3'] at HR
                    have he3b : (e3 : Int) ≤ 100000 := by have := HE3.out.2; have := HS.out; omega
                    clear hl hbk hsu3 hrl3 he3 he3'
                    go_wp2_with fail
                    refine HR.out.mono ?_
                    rintro e w3 ⟨⟨A3, c3, rfl, hs3⟩, hb3⟩
                    have HB3 : Hid (Below w.heap.size w w3) := Lib.hid (HL.out.low.trans (hb3.mono HLS.out))
                    have HO3 : Hid (OwnI 83 w3 w.heap.size (.slice Av d.len cv) d) := Lib.hid (HL.out.own.below hb3)
                    have HS3 := Lib.hid hs3
                    clear hb3 hs3
                    go_upto_region 20 with fail
                    have HB6 : Hid (Below w3.heap.size w3 (w3.alloc (.cells #[.int .u8 3, .int .i64 0, .string ⟨#[]⟩, .slice A3 t.len c3] 83))) := Lib.hid ((Below.refl _ _).alloc (Nat.le_refl _) _)
                    have HO6 : Hid (OwnI 83 (w3.alloc (.cells #[.int .u8 3, .int .i64 0, .string ⟨#[]⟩, .slice A3 t.len c3] 83)) w.heap.size (.slice Av d.len cv) d) := Lib.hid (HO3.out.below HB6.out)
                    obtain ⟨xs, hq1, hq2⟩ := HO6.out.row
                    have HQ1 := Lib.hid hq1
                    have HQ2 := Lib.hid hq2
                    have HH6 := Lib.hid (Has.of_alloc w3 83 #[.int .u8 3, .int .i64 0, .string ⟨#[]⟩, .slice A3 t.len c3])
                    have HZ6 : Hid (w.heap.size ≤ w3.heap.size) := Lib.hid (HB3.out.size)
                    clear hq1 hq2
                    go_wp2_with (refine wpList_append_row eltRI rfl (.tmp 90) (.tmp 93) rfl w.heap.size _ d.len xs rfl HQ1.out w3.heap.size [.int .u8 3, .int .i64 0, .string ⟨#[]⟩, .slice A3 t.len c3] rfl HH6.out rfl (fun u hu => by simp at hu; rcases hu with rfl | rfl | rfl | rfl <;> rfl) (by have := HL.out.dl; have := HL.out.le; have := HS.out; omega) (by decide) (by have := HZ6.out; have := HB6.out.size; omega) ?_; intro g' cap w7 O7 F7 G7 Z7)
                    have HB7 : Hid (Below w.heap.size w w7) := Lib.hid ((HB3.out.trans (HB6.out.mono HZ6.out)).trans (F7.out.below (by have := HZ6.out; have := HB6.out.size; omega) (fun x hx => (HO6.out.lt x hx).1)))
                    have HO7 : Hid (OwnI 83 w7 w.heap.size (.slice (some ⟨g', 0, none⟩) (d.len + 1) cap) (Its.app d (one 3 0 [] t))) := Lib.hid (OwnI.snoc HQ2.out (HS3.out.keep (fun b hb => ⟨by have := hb.1; have := HLS.out; omega, by have := hb.2; have := HB6.out.size; omega, fun e => by have := (HL.out.own.lt b e).2; have := hb.1; omega⟩) (fun b hb => HB6.out.block b hb.2)) O7.out F7.out (by
                      rcases G7.out with h | h
                      · exact .inl h.symm
                      · exact .inr (congrArg some h)))
                    have HNX := Lib.hid (HL.out.next HQ.out HQ16.out HMORE.out (by rw [HDR.out]; exact HIT.out) HE3.out.1 HE3.out.2 HO7.out HB7.out)
                    go_roundw
                    case rel => exact ⟨_, kk + 1, _, by go_num, by go_num, Lib.hid HNX.out.1⟩
                    case measure => have := HNX.out.2; have := HNX.out.1.le; (simp [intOf]) <;> omega
          · have HP := Lib.hid (fun w' hb => HL.out.bad (w' := w') HQ.out HMORE.out (by rw [HDR.out]; exact readIt_kind (fun e => hkind (.inl e)) (fun e => hkind (.inr (.inl e))) (fun e => hkind (.inr (.inr e)))) hb)
            by_cases hb0 : b.toNat < 1
            · have hb1 : (b.toNat : Int) < 1 := by omega
              clear hkind hb0
              go_wp2_with fail
              go_ret3
              exact HP.out _ (Below.refl _ _)
            · have hb1 : ¬ ((b.toNat : Int) < 1) := by omega
              have hb3 : (3 : Int) < (b.toNat : Int) := by
                apply Int.not_le.1
                intro hle
                apply hkind
                have h1 : b.toNat = 1 ∨ b.toNat = 2 ∨ b.toNat = 3 := by omega
                rcases h1 with h1 | h1 | h1
                · exact .inl (UInt8.toNat_inj.1 h1)
                · exact .inr (.inl (UInt8.toNat_inj.1 h1))
                · exact .inr (.inr (UInt8.toNat_inj.1 h1))
              clear hkind hb0
              go_wp2_with fail
              go_ret3
              exact HP.out _ (Below.refl _ _)
        · have HP := Lib.hid (fun w' hb => HL.out.bad (w' := w') HQ.out HMORE.out (by rw [show s.drop a = [] from List.drop_eq_nil_of_le (by omega)]; cases q <;> rfl) hb)
          have hal' : (s.length : Int) ≤ (a : Int) := by omega
          clear hal
          go_wp2_with fail
          go_ret3
          exact HP.out _ (Below.refl _ _)
set_option maxHeartbeats 1600000 in
theorem rdecode_any (w : World) (s : List UInt8) (hs : s.length ≤ 1000000000) :
    Calls Tryd.prog 28 #[bstr s] w (DecPost w s) := by
  have hsb : (s.length : Int) ≤ 1000000000 := by omega
  by_cases hl : 100000 < s.length
  · have hl' : (100000 : Int) < (s.length : Int) := by omega
    have HP : Hid (DecPost w s (.returned (.tuple #[.slice none 0 0, .int .i64 3])) w) := Lib.hid (dec_none (by unfold Ky.decE; rw [if_pos hl]) (by unfold Ky.decT; rw [if_pos hl]) (Below.refl _ _))
    clear hl hs
    unfold bstr
    go_enter Tryd.func28, Tryd.ntmps28
    go_wp2_with fail
    go_ret2
    exact HP.out
  · have hl' : ¬ ((100000 : Int) < (s.length : Int)) := by omega
    have HR := Lib.hid (rread_any 17 16 0 (-1) w s 0 (by omega) (by omega) (.inl ⟨rfl, rfl⟩) (by omega) (by omega))
    rw [show ((0 : Nat) : Int) = 0 from rfl] at HR
    unfold RPost at HR
    rw [show Ky.rdM (-1) 16 0 (s.drop 0) = (match Ky.dec s with
      | .error e => .error e
      | .ok t => .ok (t, [])) by unfold Ky.rdM; rw [if_pos (by decide)]; rfl] at HR
    have HS : Hid (¬ 100000 < s.length) := Lib.hid hl
    clear hl hs
    unfold bstr at *
    cases hd : Ky.dec s with
    | error c =>
      rw [hd] at HR
      have HP := Lib.hid (fun w' hb => dec_none (w := w) (w' := w') (s := s) (c := c) (by unfold Ky.decE; rw [if_neg HS.out, hd]) (by unfold Ky.decT; rw [if_neg HS.out, hd]) hb)
      clear hd
      go_enter Tryd.func28, Tryd.ntmps28
      go_wp2_with fail
      refine HR.out.mono ?_
      rintro e w2 ⟨rfl, hb⟩
      have HB := Lib.hid hb
      clear hb
      go_wp2_with fail
      go_ret2
      exact HP.out _ HB.out
    | ok t =>
      rw [hd] at HR
      have HD := Lib.hid hd
      clear hd
      go_enter Tryd.func28, Tryd.ntmps28
      go_wp2_with fail
      refine HR.out.mono ?_
      rintro e w2 ⟨⟨A, c, rfl, hx⟩, hb⟩
      have HB := Lib.hid hb
      have HX := Lib.hid hx
      clear hb hx
      go_wp2_with fail
      go_ret2
      exact dec_some HS.out HD.out HX.out HB.out
end Go.Proofs.YtfbdikaaeedeoaaDoor

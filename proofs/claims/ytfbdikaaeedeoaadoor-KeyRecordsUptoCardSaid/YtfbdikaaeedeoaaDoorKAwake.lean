/-
  What every law asks first: some of the examples; does one text begin with another one?
-/
import Derived.Test.YtfbdikaaeedeoaaDoorKEnc
import Derived.Test.YtfbdikaaeedeoaaDoorKAfter
namespace Go.Proofs.YtfbdikaaeedeoaaDoor
open Go.RowKit Go.Maps
open Ky (Its)
set_option maxRecDepth 100000

theorem num_any (w : World) (n : Int) : Calls Tryd.prog 30 #[.int .i64 n] w fun e w' => e = .returned (partV ⟨false, n, []⟩) ∧ Below w.heap.size w w' := by
  unfold partV bstr
  go_enter Tryd.func30, Tryd.ntmps30
  go_wp2
  exact bodyPost_ret (v := .agg #[.bool false, .int .i64 n, .string ⟨#[]⟩]) (by simp [results, Tryd.results30, go_sem]) rfl ⟨rfl, (Below.refl _ _).alloc (Nat.le_refl _) _⟩
theorem strp_any (w : World) (s : List UInt8) : Calls Tryd.prog 31 #[bstr s] w fun e w' => e = .returned (partV ⟨true, 0, s⟩) ∧ Below w.heap.size w w' := by
  unfold partV bstr
  go_enter Tryd.func31, Tryd.ntmps31
  go_wp2
  exact bodyPost_ret (v := .agg #[.bool true, .int .i64 0, .string ⟨s.toArray⟩]) (by simp [results, Tryd.results31, go_sem]) rfl ⟨rfl, (Below.refl _ _).alloc (Nat.le_refl _) _⟩
def exParts : List Ky.Part := [⟨false, 1, []⟩, ⟨true, 0, [97]⟩]
def exIn : Its := .cons 2 0 [97] .nil (.cons 1 (-1) [] .nil .nil)
def exIts : Its := .cons 3 0 [] exIn .nil
theorem exPack : Ky.packS exParts = [1, 128, 0, 0, 0, 0, 0, 0, 1, 2, 97, 0, 0] ∧ Ky.packE exParts = 0 := by decide +kernel
theorem cnt_1 : Ky.cnt 1 = [1] := Ky.cnt_small (by decide)
theorem cnt_2 : Ky.cnt 2 = [2] := Ky.cnt_small (by decide)
theorem exEnc : Ky.encodeS exIts = [3, 2, 2, 1, 97, 1, 1] ∧ Ky.encodeE exIts = 0 := by
  have hb : Ky.encB exIts = [3, 2, 2, 1, 97, 1, 1] := by
    show 3 :: ((Ky.cnt 2 ++ (2 :: ((Ky.cnt 1 ++ [97]) ++ (1 :: (Ky.cnt 1 ++ []))))) ++ []) = _
    rw [cnt_1, cnt_2]
    rfl
  have he : Ky.encE 1 exIts = 0 := by decide +kernel
  have := Ky.encode_ok he (by rw [hb]; decide)
  rw [hb] at this
  exact this
set_option maxHeartbeats 1600000 in
theorem awake_any (w : World) (hx : Mx w.heap.size w) : Calls Tryd.prog 9 #[] w fun e w' => e = .returned (.bool true) ∧ Below w.heap.size w w' := by
  have H1 := Lib.hid (num_any w 1)
  unfold partV bstr at H1
  go_enter Tryd.func9, Tryd.ntmps9
  go_wp2_with fail
  refine H1.out.mono ?_
  rintro e w1 ⟨rfl, hb1⟩
  have H2 := Lib.hid (strp_any w1 [97])
  unfold partV bstr at H2
  go_wp2_with fail
  refine H2.out.mono ?_
  rintro e w2 ⟨rfl, hb2⟩
  have hh := Has.of_alloc w2 38 #[.bool false, .int .i64 1, .string ⟨#[]⟩, .bool true, .int .i64 0, .string ⟨#[97]⟩]
  have HB2 : Hid (Below w.heap.size w (w2.alloc (.cells #[.bool false, .int .i64 1, .string ⟨#[]⟩, .bool true, .int .i64 0, .string ⟨#[97]⟩] 38))) := Lib.hid ((hb1.trans (hb2.mono hb1.size)).alloc (by have := hb1.size; have := hb2.size; omega) _)
  have H3 := Lib.hid (pack_any _ (some ⟨w2.heap.size, 0, none⟩) 2 exParts (fun _ => ⟨w2.heap.size, 0, rfl, hh.lt, fun j p hj => by
    rw [Nat.zero_add, hh.cell, hh.cell, hh.cell]
    match j, hj with
    | 0, hj => obtain rfl := Option.some.inj hj; exact ⟨rfl, rfl, rfl⟩
    | 1, hj => obtain rfl := Option.some.inj hj; exact ⟨rfl, rfl, rfl⟩⟩) (fun p hp => by
      simp only [exParts, List.mem_cons, List.not_mem_nil, or_false] at hp
      rcases hp with rfl | rfl
      · exact ⟨⟨by decide, by decide⟩, by decide⟩
      · exact ⟨⟨by decide, by decide⟩, by decide⟩) ((hx.below HB2.out (Nat.le_refl _)).more HB2.out.size) (by decide))
  rw [show exParts.length = 2 from rfl] at H3
  clear hh hb1 hb2
  go_wp2_with fail
  refine H3.out.mono ?_
  rintro e w3 hp3
  obtain ⟨rfl, hb3⟩ := hp3
  rw [exPack.1, exPack.2]
  have HB3 : Hid (Below w.heap.size w w3) := Lib.hid (HB2.out.trans (hb3.mono HB2.out.size))
  clear hb3
  unfold bstr
  have hh1 := (Has.of_alloc w3 62 #[.int .u8 2, .int .i64 0, .string ⟨#[97]⟩, .slice none 0 0, .int .u8 1, .int .i64 (-1), .string ⟨#[]⟩, .slice none 0 0]).alloc (.cells #[.int .u8 3, .int .i64 0, .string ⟨#[]⟩, .slice (some ⟨w3.heap.size, 0, none⟩) 2 2] 62)
  have hh2 := Has.of_alloc (w3.alloc (.cells #[.int .u8 2, .int .i64 0, .string ⟨#[97]⟩, .slice none 0 0, .int .u8 1, .int .i64 (-1), .string ⟨#[]⟩, .slice none 0 0] 62)) 62 #[.int .u8 3, .int .i64 0, .string ⟨#[]⟩, .slice (some ⟨w3.heap.size, 0, none⟩) 2 2]
  rw [World.size_alloc] at hh2
  have HB4 : Hid (Below w.heap.size w ((w3.alloc (.cells #[.int .u8 2, .int .i64 0, .string ⟨#[97]⟩, .slice none 0 0, .int .u8 1, .int .i64 (-1), .string ⟨#[]⟩, .slice none 0 0] 62)).alloc (.cells #[.int .u8 3, .int .i64 0, .string ⟨#[]⟩, .slice (some ⟨w3.heap.size, 0, none⟩) 2 2] 62))) := Lib.hid ((HB3.out.alloc HB3.out.size _).alloc (by have := HB3.out.size; simp; omega) _)
  have H5 := Lib.hid (encode_any _ (some ⟨w3.heap.size + 1, 0, none⟩) 1 exIts (fun _ => ⟨w3.heap.size + 1, 0, rfl, hh2.lt, by
    refine ⟨?_, ?_, ?_, ⟨some ⟨w3.heap.size, 0, none⟩, 2, ?_, fun _ => ⟨w3.heap.size, 0, rfl, hh1.lt, ?_⟩⟩, trivial⟩
    · rw [hh2.cell]; rfl
    · rw [hh2.cell]; rfl
    · rw [hh2.cell]; rfl
    · rw [hh2.cell]; rfl
    · refine ⟨?_, ?_, ?_, ⟨none, 0, ?_, fun h => absurd rfl h⟩, ?_, ?_, ?_, ⟨none, 0, ?_, fun h => absurd rfl h⟩, trivial⟩
      all_goals (rw [hh1.cell]; rfl)⟩) ⟨by decide, ⟨by decide, trivial, by decide, trivial, trivial⟩, trivial⟩ (by decide))
  rw [show exIts.len = 1 from rfl] at H5
  clear hh1 hh2
  go_wp2_with fail
  refine H5.out.mono ?_
  rintro e w5 hp5
  obtain ⟨rfl, hb5⟩ := hp5
  rw [exEnc.1, exEnc.2]
  have HB5 : Hid (Below w.heap.size w w5) := Lib.hid (HB4.out.trans (hb5.mono HB4.out.size))
  clear hb5
  unfold bstr
  go_wp2_with fail
  go_ret
  exact ⟨rfl, HB5.out⟩
theorem isPrefix_of (s t : List UInt8) (h : t.length ≤ s.length) : (s.take t.length == t) = t.isPrefixOf s := by
  induction t generalizing s with
  | nil => simp
  | cons b t ih =>
    cases s with
    | nil => simp at h
    | cons a s =>
      rw [List.length_cons, List.take_succ_cons, List.isPrefixOf_cons_cons, ← ih s (by simpa using h)]
      rw [Bool.eq_iff_iff]
      simp only [Bool.and_eq_true, beq_iff_eq, List.cons.injEq]
      constructor
      · rintro ⟨rfl, k⟩; exact ⟨rfl, k⟩
      · rintro ⟨rfl, k⟩; exact ⟨rfl, k⟩
theorem begins_any (w : World) (s t : List UInt8) (hs : s.length ≤ 1000000000) (ht : t.length ≤ 1000000000) :
    Calls Tryd.prog 32 #[bstr s, bstr t] w fun e w' => e = .returned (.bool (t.isPrefixOf s)) ∧ w = w' := by
  unfold bstr
  have hs' : (s.length : Int) ≤ 1000000000 := by omega
  have ht' : (t.length : Int) ≤ 1000000000 := by omega
  by_cases h : t.length ≤ s.length
  · have h' : (t.length : Int) ≤ (s.length : Int) := by omega
    have HP := Lib.hid (isPrefix_of s t h)
    have htk := str_take s t.length
    go_enter Tryd.func32, Tryd.ntmps32
    go_wp2
    go_ret
    exact ⟨ret_bool HP.out, rfl⟩
  · have h' : ¬ ((t.length : Int) ≤ (s.length : Int)) := by omega
    have HP : Hid (t.isPrefixOf s = false) := Lib.hid (by
      rw [Bool.eq_false_iff]
      intro e
      exact h (List.isPrefixOf_iff_prefix.1 e).length_le)
    go_enter Tryd.func32, Tryd.ntmps32
    go_wp2
    go_ret
    exact ⟨ret_bool HP.out.symm, rfl⟩
end Go.Proofs.YtfbdikaaeedeoaaDoor

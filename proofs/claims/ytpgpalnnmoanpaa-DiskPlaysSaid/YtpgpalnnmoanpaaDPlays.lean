/-
  DiskPlays' walk: two disks, and at most eighty steps.
-/
import Derived.Test.YtpgpalnnmoanpaaDSteps
namespace Go.Proofs.Ytpgpalnnmoanpaa
open Go.RowKit Go.Maps

theorem Two.made {W w1 w2 : World} {b x : Nat} {d e : Dk.St} {S X I : Nat → Prop} (hd : DiskAt w1 S noB b d) (hb : Below W.heap.size W w1) (hs : ∀ k, S k → W.heap.size ≤ k)
    (hx : RefAt w2 X I x e) (hb2 : Below w1.heap.size w1 w2) (hxs : ∀ k, X k → w1.heap.size ≤ k) (hi : ∀ k, I k → w1.heap.size ≤ k) : Two W.heap.size w2 b x d e S noB X I := by
  have hz := hb.size
  have hz2 := hb2.size
  refine ⟨hd.keep (Fr.of_below hb2 noB) (fun _ q => q.elim), hx, fun k hk => ⟨fun q => ?_, fun q => ?_⟩, fun k hk => hk.elim, fun k hk => ?_, by omega⟩
  · have := hd.lt k hk; have := hxs k q; omega
  · have := hd.lt k hk; have := hi k q; omega
  · rcases hk with hk | hk | hk | hk
    · exact hs k hk
    · exact hk.elim
    · have := hxs k hk; omega
    · have := hi k hk; omega
theorem plays_any (W : World) (n : Int) (v : Value) (m : Nat) (hv : StepsAt W v m) :
    Calls Try.prog 3 #[.int .i64 n, v] W fun e w' => e = .returned (.bool true) ∧ Below W.heap.size W w' := by
  obtain ⟨A, c, rfl, hm, hst⟩ := hv
  by_cases h1 : n < 1
  · have HN := Lib.hid (new_bad W n (.inl h1))
    have HAw := Lib.hid (awake_any W)
    clear hst
    go_enter Try.func3, Try.ntmps3
    go_wp2_with fail
    refine HN.out.mono ?_
    rintro e w' ⟨rfl, rfl⟩
    go_wp2_with fail
    refine HAw.out.mono ?_
    rintro e w' ⟨rfl, hb⟩
    have HB := Lib.hid hb
    clear hb
    go_wp2_with fail
    go_ret
    exact ⟨rfl, HB.out⟩
  by_cases h2 : 65536 < n
  · have HN := Lib.hid (new_bad W n (.inr h2))
    have HAw := Lib.hid (awake_any W)
    have h1' : 1 ≤ n := by omega
    clear hst
    go_enter Try.func3, Try.ntmps3
    go_wp2_with fail
    refine HN.out.mono ?_
    rintro e w' ⟨rfl, rfl⟩
    go_wp2_with fail
    refine HAw.out.mono ?_
    rintro e w' ⟨rfl, hb⟩
    have HB := Lib.hid hb
    clear hb
    go_wp2_with fail
    go_ret
    exact ⟨rfl, HB.out⟩
  obtain ⟨q, rfl⟩ := Int.eq_ofNat_of_zero_le (show 0 ≤ n by omega)
  have hq1 : 1 ≤ q := by omega
  have hq2 : q ≤ 65536 := by omega
  have HN := Lib.hid (new_any W q hq1 hq2)
  have hi1 : (1 : Int) ≤ q := by omega
  have hi2 : (q : Int) ≤ 65536 := by omega
  by_cases h3 : 3000 < q
  · have hi3 : (3000 : Int) < q := by omega
    clear hst h1 h2
    go_enter Try.func3, Try.ntmps3
    go_wp2_with fail
    refine HN.out.mono ?_
    rintro e w1 ⟨b, S, rfl, hd, hb, hs⟩
    unfold ptr
    obtain ⟨A0, c0, hc0⟩ := hd.c0
    have hl : (Dk.made q).lasts.length = q := List.length_replicate
    rw [hl] at hc0
    have HLen := Lib.hid (len_any w1 b A0 q c0 hc0)
    have HAw := Lib.hid (awake_any w1)
    have HB := Lib.hid hb
    clear hd hb hs hc0
    go_wp2_with fail
    refine HLen.out.mono ?_
    rintro e w' ⟨rfl, rfl⟩
    go_wp2_with fail
    refine HAw.out.mono ?_
    rintro e w2 ⟨rfl, hb⟩
    have HB2 := Lib.hid (HB.out.trans (hb.mono HB.out.size))
    clear hb
    go_wp2_with fail
    go_ret
    exact ⟨rfl, HB2.out⟩
  · have hi3 : ¬ (3000 : Int) < q := by omega
    have HST := Lib.hid hst
    clear hst h1 h2
    go_enter Try.func3, Try.ntmps3
    go_wp2_with fail
    refine HN.out.mono ?_
    rintro e w1 ⟨b, S, rfl, hd, hb, hs⟩
    unfold ptr
    have HD := Lib.hid hd
    have HB := Lib.hid hb
    have HS := Lib.hid hs
    clear hd hb hs
    go_wp2_with fail
    refine (rnew_any w1 q hq1 hq2).mono ?_
    rintro e w2 ⟨x, X, I, rfl, hx, hb2, hxs, hi⟩
    unfold ptr
    have HT := Lib.hid (Two.made HD.out HB.out HS.out hx hb2 hxs hi)
    have HB2 := Lib.hid (HB.out.trans (hb2.mono HB.out.size))
    clear hx hb2 hxs hi
    go_wp2_with fail
    obtain ⟨fs, hfs⟩ := und_step
    go_loopw [5, 7, 9] (fun dv xv iv wr => ∃ (i b x : Nat) (d : Dk.St) (S R X I : Nat → Prop), i ≤ 80 ∧ i ≤ m ∧ iv = .int .i64 i ∧ dv = .pointer (some ⟨b, 0, none⟩) ∧ xv = .pointer (some ⟨x, 0, none⟩) ∧ Hid (Two W.heap.size wr b x d d S R X I) ∧ Hid (d.waits.length ≤ i ∧ d.done ≤ i ∧ d.left ≤ 9223372036854775807) ∧ Hid (Below W.heap.size W wr)) (fun _ _ iv _ => 80 - (intOf iv).toNat)
    case atStart => exact ⟨0, b, x, Dk.made q, S, noB, X, I, by omega, Nat.zero_le _, rfl, rfl, rfl, HT, Lib.hid ⟨by simp [Dk.made, Dk.fresh], by simp [Dk.made, Dk.fresh], by simp [Dk.made, Dk.fresh]⟩, HB2⟩
    case round =>
      rename World => wr
      obtain ⟨i, b, x, d, S, R, X, I, hi80, him, rfl, rfl, rfl, hT, hsm, hB⟩ := hrel
      by_cases hlm : i < m
      · by_cases hl80 : i < 80
        · have hmI : (i : Int) < m := by omega
          have h80I : (i : Int) < 80 := by omega
          obtain ⟨g, o, rfl, hg, hel⟩ := HST.out (by omega)
          obtain ⟨kind, at_, torn, cut, A', l, c', whole, Ak, keep, ck, hok, hcells⟩ := hel i hlm
          have HOK := Lib.hid (hok.keep_ hB.out)
          have HRG : Hid (∀ j u, [Value.int .i64 kind, .int .i64 at_, .slice A' l.length c', .bool whole, .slice Ak keep.length ck, .int .i64 torn, .int .i64 cut][j]? = some u → wr.cell? ⟨g, o + i * 7 + j, none⟩ = some u) :=
            Lib.hid (fun j u hj => (World.cell?_of_block (hB.out.block g hg)).trans (hcells j u hj))
          have HSmall : Hid (Small d) := Lib.hid ⟨by have := hsm.out.1; omega, by have := hsm.out.2.1; omega, hsm.out.2.2⟩
          have HDO := Lib.hid (do_any kind wr W.heap.size b x d S R X I hT.out HSmall.out at_ torn cut A' l c' whole Ak keep ck HOK.out)
          clear hel hok hcells
          go_wp2_with (first
            | (refine wpList_load_mid rfl 37 (.tmp 71) rfl g (o + i * 7) rfl [.int .i64 kind, .int .i64 at_, .slice A' l.length c', .bool whole, .slice Ak keep.length ck, .int .i64 torn, .int .i64 cut] _ HRG.out hfs rfl siz_step ?_)
            | fail)
          refine HDO.out.mono ?_
          rintro e w3 ⟨b3, x3, d3, S3, R3, X3, I3, rfl, t3, hb3, gr⟩
          unfold ptr
          have T3 := Lib.hid t3
          have B3 := Lib.hid (hB.out.trans hb3)
          have G3 : Hid (d3.waits.length ≤ i + 1 ∧ d3.done ≤ i + 1 ∧ d3.left ≤ 9223372036854775807) := Lib.hid ⟨by have := gr.waits; have := hsm.out.1; omega, by have := gr.done; have := hsm.out.2.1; omega, gr.left hsm.out.2.2⟩
          clear t3 hb3 gr
          go_wp2_with fail
          refine (told_any w3 S3 R3 X3 I3 b3 x3 d3 T3.out.disk T3.out.ref (by have := G3.out.1; omega)).mono ?_
          rintro e w4 ⟨rfl, hb4⟩
          have T4 := Lib.hid (T3.out.next hb4)
          have B4 := Lib.hid (B3.out.trans (hb4.mono T3.out.size))
          clear hb4
          go_wp2_with fail
          exact ⟨⟨i + 1, b3, x3, d3, S3, R3, X3, I3, by omega, by omega, rfl, rfl, rfl, T4, G3, B4⟩, by simp only [intOf]; omega⟩
        · have h80I : ¬ (i : Int) < 80 := by omega
          have hmI : (i : Int) < m := by omega
          have HAw := Lib.hid (awake_any wr)
          go_wp2_with fail
          refine HAw.out.mono ?_
          rintro e w4 ⟨rfl, hb4⟩
          have B4 := Lib.hid (hB.out.trans (hb4.mono hB.out.size))
          clear hb4
          go_wp2_with fail
          go_ret
          exact ⟨rfl, B4.out⟩
      · have hmI : ¬ (i : Int) < m := by omega
        have HAw := Lib.hid (awake_any wr)
        go_wp2_with fail
        refine HAw.out.mono ?_
        rintro e w4 ⟨rfl, hb4⟩
        have B4 := Lib.hid (hB.out.trans (hb4.mono hB.out.size))
        clear hb4
        go_wp2_with fail
        go_ret
        exact ⟨rfl, B4.out⟩
end Go.Proofs.Ytpgpalnnmoanpaa

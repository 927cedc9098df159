/-
  A step whatever its kind; the statement's loop over the steps.
-/
import Derived.Test.YtpgpalnnmoanpaaDDo0
import Derived.Test.YtpgpalnnmoanpaaDDo1
import Derived.Test.YtpgpalnnmoanpaaDDo2
import Derived.Test.YtpgpalnnmoanpaaDDo3
import Derived.Test.YtpgpalnnmoanpaaDDo4
import Derived.Test.YtpgpalnnmoanpaaDDo5
import Derived.Test.YtpgpalnnmoanpaaDDo7
import Derived.Test.YtpgpalnnmoanpaaDDoR
namespace Go.Proofs.Ytpgpalnnmoanpaa
open Go.RowKit Go.Maps

/-- a step, as it came in: its data and its list of bools lie below block B -/
structure StepOk (w : World) (B : Nat) (at_ : Int) (A : Option Addr) (l : List UInt8) (c : Nat) (Ak : Option Addr) (keep : List Bool) (ck : Nat) : Prop where
  at_ : at_ ≤ 9223372036854775807
  data : Rd w B A l
  none_ : A = none → c = 0
  cap : l.length ≤ c
  list : KeepAt w (fun k => k < B) (.slice Ak keep.length ck) keep
  kcap : keep.length ≤ ck
theorem do_any (kind : Int) (w : World) (B b x : Nat) (d : Dk.St) (S R X I : Nat → Prop) (h : Two B w b x d d S R X I) (hs : Small d) (at_ torn cut : Int) (A : Option Addr) (l : List UInt8) (c : Nat) (whole : Bool) (Ak : Option Addr) (keep : List Bool) (ck : Nat)
    (hk : StepOk w B at_ A l c Ak keep ck) :
    Calls Try.prog 11 #[.agg #[.int .i64 kind, .int .i64 at_, .slice A l.length c, .bool whole, .slice Ak keep.length ck, .int .i64 torn, .int .i64 cut], .pointer (some ⟨b, 0, none⟩), .pointer (some ⟨x, 0, none⟩)] w (DoneBy B w d) := by
  by_cases h0 : kind = 0
  · subst h0; exact do_0 w B b x d S R X I h hs at_ torn cut hk.at_ A l c whole Ak keep ck hk.data hk.none_ hk.cap hk.list hk.kcap
  by_cases h1 : kind = 1
  · subst h1; exact do_1 w B b x d S R X I h hs at_ torn cut hk.at_ A l c whole Ak keep ck hk.data hk.none_ hk.cap hk.list hk.kcap
  by_cases h2 : kind = 2
  · subst h2; exact do_2 w B b x d S R X I h hs at_ torn cut hk.at_ A l c whole Ak keep ck hk.data hk.none_ hk.cap hk.list hk.kcap
  by_cases h3 : kind = 3
  · subst h3; exact do_3 w B b x d S R X I h hs at_ torn cut hk.at_ A l c whole Ak keep ck hk.data hk.none_ hk.cap hk.list hk.kcap
  by_cases h4 : kind = 4
  · subst h4; exact do_4 w B b x d S R X I h hs at_ torn cut hk.at_ A l c whole Ak keep ck hk.data hk.none_ hk.cap hk.list hk.kcap
  by_cases h5 : kind = 5
  · subst h5; exact do_5 w B b x d S R X I h hs at_ torn cut hk.at_ A l c whole Ak keep ck hk.data hk.none_ hk.cap hk.list hk.kcap
  by_cases h7 : kind = 7
  · subst h7; exact do_7 w B b x d S R X I h hs at_ torn cut hk.at_ A l c whole Ak keep ck hk.data hk.none_ hk.cap hk.list hk.kcap
  exact do_kind kind (beq_eq_false_iff_ne.2 h0) (beq_eq_false_iff_ne.2 h1) (beq_eq_false_iff_ne.2 h2) (beq_eq_false_iff_ne.2 h3) (beq_eq_false_iff_ne.2 h4) (beq_eq_false_iff_ne.2 h5) (beq_eq_false_iff_ne.2 h7) w B b x d S R X I h hs at_ torn cut hk.at_ A l c whole Ak keep ck hk.data hk.none_ hk.cap hk.list hk.kcap

/-- the steps, as they came in: each one's cells, seven a step -/
def StepsAt (w : World) (v : Value) (n : Nat) : Prop :=
  ∃ A c, v = .slice A n c ∧ n ≤ 140737488355328 ∧ (0 < n → ∃ g o, A = some ⟨g, o, none⟩ ∧ g < w.heap.size ∧ ∀ k, k < n → ∃ kind at_ torn cut : Int, ∃ (A' : Option Addr) (l : List UInt8) (c' : Nat) (whole : Bool) (Ak : Option Addr) (keep : List Bool) (ck : Nat),
    StepOk w w.heap.size at_ A' l c' Ak keep ck ∧ ∀ j u, [Value.int .i64 kind, .int .i64 at_, .slice A' l.length c', .bool whole, .slice Ak keep.length ck, .int .i64 torn, .int .i64 cut][j]? = some u → w.cell? ⟨g, o + k * 7 + j, none⟩ = some u)
theorem StepOk.keep_ {w w' : World} {at_ : Int} {A : Option Addr} {l : List UInt8} {c : Nat} {Ak : Option Addr} {keep : List Bool} {ck : Nat} (h : StepOk w w.heap.size at_ A l c Ak keep ck) (hb : Below w.heap.size w w') : StepOk w' w.heap.size at_ A l c Ak keep ck :=
  ⟨h.at_, h.data.below hb, h.none_, h.cap, h.list.keep (S := fun k => w.heap.size ≤ k) ⟨hb.os, hb.tape, hb.output, hb.size, fun k _ hk => hb.block k (by omega)⟩ (fun k hk q => by have hk : k < w.heap.size := hk; omega), h.kcap⟩
theorem siz_step : (Try.prog.info? 37).map (·.size) = some 7 := by kernel_rfl
theorem und_step : ∃ fs, Try.prog.underlying 37 = some (.struct fs) := ⟨_, rfl⟩
theorem und_steps : Try.prog.underlying 22 = some (.slice 37) := by kernel_rfl
end Go.Proofs.Ytpgpalnnmoanpaa

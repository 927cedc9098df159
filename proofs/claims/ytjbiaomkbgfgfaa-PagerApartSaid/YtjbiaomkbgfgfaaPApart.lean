/-
  PagerApart: what is taken was free, and no two are the same; Abort undoes it all.
-/
import Derived.Test.YtjbiaomkbgfgfaaPSys
import Derived.Test.YtjbiaomkbgfgfaaPNums
import Derived.StillTailTactics
import Derived.Deep.CutRange
import Derived.Deep.CutBlock
namespace Go.Proofs.Ytjbiaomkbgfgfaa.papart
open Go.RowKit Go.Maps
set_option maxRecDepth 100000

/-- the system of the law: a pager over a disk, and the list l of one's own -/
def Ap (W w : World) (b db : Nat) (v : Value) (l : List Int) (p : Pr.Pt) (d : Dk.St) : Prop :=
  ∃ S Sd U T B D low, PSys W w S Sd noB b db U T B D low p d ∧ OwnI w W.heap.size v l ∧ ∀ k, v.ownBlock = some k → ¬ S k
theorem Ap.size {W w : World} {b db : Nat} {v : Value} {l : List Int} {p : Pr.Pt} {d : Dk.St} (h : Ap W w b db v l p d) : Below W.heap.size W w := by
  obtain ⟨S, Sd, U, T, B, D, low, h, _⟩ := h
  exact h.below
theorem Ap.next {W w w' : World} {b db : Nat} {v : Value} {l : List Int} {p : Pr.Pt} {d : Dk.St} (h : Ap W w b db v l p d) (hb : Below w.heap.size w w') : Ap W w' b db v l p d := by
  obtain ⟨S, Sd, U, T, B, D, low, h, ho, hk⟩ := h
  exact ⟨S, Sd, U, T, B, D, low, h.next hb, ho.below hb, hk⟩
theorem Ap.grow {W w w' : World} {b db : Nat} {v v' : Value} {l l' : List Int} {p : Pr.Pt} {d : Dk.St} (h : Ap W w b db v l p d) (ho : OwnI w' W.heap.size v' l') (f : Fr (fun k => v.ownBlock = some k) w w') (hv : v'.ownBlock = v.ownBlock ∨ v'.ownBlock = some w.heap.size) : Ap W w' b db v' l' p d := by
  obtain ⟨S, Sd, U, T, B, D, low, h, h2, hk⟩ := h
  refine ⟨S, Sd, U, T, B, D, low, ⟨h.over.keep f (fun k e => ⟨hk k e, fun e => e⟩), h.news, h.newr, h.below.trans (f.below h.size fun k e => (h2.lt k e).1)⟩, ho, fun k e => ?_⟩
  rcases hv with hv | hv
  · exact hk k (by rw [← hv]; exact e)
  · rw [hv] at e
    injection e with e
    intro hs
    have := h.over.lt k hs
    omega
theorem OwnI.off {w w' : World} {W0 : World} {v : Value} {l : List Int} {S : Nat → Prop} (ho : OwnI w W0.heap.size v l) (hk : ∀ k, v.ownBlock = some k → ¬ S k) (f : Fr S w w') : OwnI w' W0.heap.size v l := ho.keep f hk
theorem Ap.over {W w w' : World} {b db : Nat} {v : Value} {l : List Int} {p p' : Pr.Pt} {d : Dk.St} {S Sd : Nat → Prop} {U T B D low low' : Nat} (h : PSys W w S Sd noB b db U T B D low p d) (ho : OwnI w W.heap.size v l) (hk : ∀ k, v.ownBlock = some k → ¬ S k)
    (h' : Over w' S Sd noB b db U T B D low' p' d) (f : Fr S w w') : Ap W w' b db v l p' d := ⟨S, Sd, U, T, B, D, low', h.over' h' f, OwnI.off ho hk f, hk⟩
theorem Ap.goes {W w w' : World} {b db : Nat} {v : Value} {l : List Int} {p p' : Pr.Pt} {d d' : Dk.St} {S Sd : Nat → Prop} {U T B D low U' T' B' D' low' : Nat} (h : PSys W w S Sd noB b db U T B D low p d) (ho : OwnI w W.heap.size v l) (hk : ∀ k, v.ownBlock = some k → ¬ S k)
    (g : PGoes w S noB b db U' T' B' D' low' p' d' w') : Ap W w' b db v l p' d' := by
  obtain ⟨S', Sd', ho', hf, hs⟩ := g
  have hz := h.size
  refine ⟨S', Sd', U', T', B', D', low', ⟨ho', fun k e => ?_, h.newr, h.below.trans (hf.below hz h.news)⟩, OwnI.off ho hk hf, fun k e => ?_⟩
  · rcases hs k e with e' | e'
    · exact h.news k e'
    · omega
  · intro e'
    rcases hs k e' with e2 | e2
    · exact hk k e e2
    · have := (ho.lt k e).2; omega

/-! ### the states of the pages -/
open Pr
theorem usedL_get (N : Nat) (l : List Int) {j : Nat} (hj : j < N) : (usedL N l)[j]? = some (if memI l j then 1 else 0) := by
  unfold usedL
  rw [List.getElem?_map, List.getElem?_range hj]
  rfl
/-- the pages l are used, or dropped; none is taken -/
structure DropSt (N : Nat) (l : List Int) (s : List Nat) : Prop where
  len : s.length = N
  used : ∀ j, j < N → stp isU s j = memI l j
  all : ∀ j, j < N → s[j]? = some 0 ∨ s[j]? = some 1 ∨ s[j]? = some 4
theorem DropSt.first (N : Nat) (l : List Int) : DropSt N l (usedL N l) :=
  ⟨usedL_len _ _, fun j hj => by
    rw [state_of isU (usedL_get N l hj)]
    cases memI l j <;> rfl, fun j hj => by
    rw [usedL_get N l hj]
    cases memI l j <;> simp⟩
theorem DropSt.drop {N : Nat} {l : List Int} {s : List Nat} (h : DropSt N l s) {n : Nat} (hn : n < N) (h1 : s[n]? = some 1) : DropSt N l (s.set n 4) := by
  have hlen := h.len
  refine ⟨by rw [List.length_set]; exact hlen, fun j hj => ?_, fun j hj => ?_⟩
  · rw [stp_set (by omega)]
    split
    · rename_i e; subst e
      rw [← h.used j hj, state_of isU h1]; rfl
    · exact h.used j hj
  · by_cases e : j = n
    · subst e; rw [List.getElem?_set_self (by omega)]; simp
    · rw [List.getElem?_set_ne (fun e' => e e'.symm)]; exact h.all j hj
theorem free_of {p : Pt} (h : p.Ok) {N : Nat} {l : List Int} (hN : p.l.length = N) (hl : ∀ x ∈ l, 0 ≤ x ∧ x < (N : Int)) (hnd : l.Nodup) (hu : ∀ j, j < N → stp isU p.l j = memI l j) (ht : ∀ j, j < N → stp isT p.l j = false) : (freeN p.l : Int) = (N : Int) - 2 - l.length := by
  have hs := free_sum h
  rw [hN] at hs
  have e1 : cnt N (stp isU p.l) = cnt N (memI l) := cnt_congr hu
  have e2 : cnt N (stp isT p.l) = 0 := cnt_none ht
  obtain ⟨_, c2⟩ := cnt_mem N l hl
  rw [e1, e2, c2.2 hnd] at hs
  omega
theorem cnt_mono {N : Nat} {f g : Nat → Bool} (h : ∀ j, j < N → f j = true → g j = true) : cnt N f ≤ cnt N g :=
  List.countP_mono_left fun j hj => h j (List.mem_range.1 hj)
theorem isD_le {N : Nat} {l : List Int} {s : List Nat} (h : DropSt N l s) (hl : ∀ x ∈ l, 0 ≤ x ∧ x < (N : Int)) : cnt N (stp isD s) ≤ l.length := by
  obtain ⟨c1, _⟩ := cnt_mem N l hl
  refine Nat.le_trans (cnt_mono (g := memI l) fun j hj hd => ?_) c1
  rw [← h.used j hj]
  unfold stp at *
  cases hx : s[j]? with
  | none => rw [hx] at hd; cases hd
  | some x => rw [hx] at hd; simp [isD] at hd; simp [isU, hd]
/-- pages are taken, all behind those looked through -/
structure TakeSt (N : Nat) (l : List Int) (s : List Nat) (last : Nat) : Prop where
  len : s.length = N
  used : ∀ j, j < N → stp isU s j = memI l j
  low : ∀ j, 2 ≤ j → j ≤ last → stp isF s j = false
theorem TakeSt.take {N : Nat} {l : List Int} {s : List Nat} {last i : Nat} (h : TakeSt N l s last) (hi : i < N) (hf : stp isF s i = true) (hmin : ∀ j, 2 ≤ j → j < i → stp isF s j = false) : TakeSt N l (s.set i 2) i := by
  have hlen := h.len
  refine ⟨by rw [List.length_set]; exact hlen, fun j hj => ?_, fun j h2 hj => ?_⟩
  · rw [stp_set (by omega)]
    split
    · rename_i e; subst e
      rw [← h.used j hj]
      have := stpF.1 hf
      rw [state_of isU this]; rfl
    · exact h.used j hj
  · rw [stp_set (by omega)]
    split
    · rfl
    · exact hmin j h2 (by omega)
theorem free_pos {s : List Nat} (h : 0 < freeN s) : ∃ i, 2 ≤ i ∧ i < s.length ∧ stp isF s i = true ∧ ∀ j, 2 ≤ j → j < i → stp isF s j = false := by
  have hex : ∃ i, 2 ≤ i ∧ stp isF s i = true := by
    refine Classical.byContradiction fun hn => ?_
    have : freeN s = 0 := cnt_none fun j hj => by
      cases h2 : decide (2 ≤ j)
      · rfl
      · cases h3 : stp isF s j
        · rfl
        · exact absurd ⟨j, of_decide_eq_true h2, h3⟩ hn
    omega
  have hdec : ∃ i, (2 ≤ i ∧ stp isF s i = true) ∧ ∀ j, j < i → ¬ (2 ≤ j ∧ stp isF s j = true) := by
    obtain ⟨i, hi⟩ := hex
    induction i using Nat.strongRecOn with
    | _ i ih =>
      by_cases hc : ∃ j, j < i ∧ 2 ≤ j ∧ stp isF s j = true
      · obtain ⟨j, hj, h2⟩ := hc
        exact ih j hj h2
      · exact ⟨i, hi, fun j hj h2 => hc ⟨j, hj, h2⟩⟩
  obtain ⟨i, ⟨h2, hf⟩, hmin⟩ := hdec
  refine ⟨i, h2, stp_lt hf, hf, fun j hj hji => ?_⟩
  cases hh : stp isF s j
  · rfl
  · exact absurd ⟨hj, hh⟩ (hmin j hji)
theorem free_none {s : List Nat} (h : freeN s = 0) (j : Nat) (h2 : 2 ≤ j) (hj : j < s.length) : stp isF s j = false := by
  cases hh : stp isF s j
  · rfl
  · have := cnt_zero h j hj
    rw [decide_eq_true h2, hh] at this
    cases this
theorem free_take {p : Pt} {i : Nat} (hi2 : 2 ≤ i) (hi : i < p.l.length) (hf : stp isF p.l i = true) : freeN p.l = freeN (p.l.set i 2) + 1 := by
  unfold freeN
  rw [List.length_set]
  refine cnt_set (i := i) hi (by rw [stp_set hi, if_pos rfl]; simp [isF]) (by rw [hf]; simp [hi2]) fun j hj => ?_
  rw [stp_set hi, if_neg hj]
/-- what Abort leaves -/
theorem abort_used {N : Nat} {l : List Int} {p : Pt} (hok : p.Ok) (hN : p.l.length = N) (hu : ∀ j, j < N → stp isU p.l j = memI l j) : p.l.map abo = usedL N l := by
  refine List.ext_getElem? fun j => ?_
  by_cases hj : j < N
  · rw [usedL_get N l hj, List.getElem?_map, ← hu j hj]
    have hj' : j < p.l.length := by omega
    rw [List.getElem?_eq_getElem hj', stp_at hj']
    have h4 := hok.small _ (List.getElem_mem hj')
    generalize p.l[j] = x at *
    rcases (by omega : x = 0 ∨ x = 1 ∨ x = 2 ∨ x = 3 ∨ x = 4) with rfl | rfl | rfl | rfl | rfl <;> rfl
  · rw [List.getElem?_eq_none (by rw [List.length_map]; omega), List.getElem?_eq_none (by rw [usedL_len]; omega)]
/-- the first k of l are dropped -/
def dropL (N : Nat) (l : List Int) (k : Nat) : List Nat := (List.range N).map fun j => if memI (l.take k) j then 4 else if memI l j then 1 else 0
theorem dropL_len (N : Nat) (l : List Int) (k : Nat) : (dropL N l k).length = N := by simp [dropL]
theorem dropL_get (N : Nat) (l : List Int) (k : Nat) {j : Nat} (hj : j < N) : (dropL N l k)[j]? = some (if memI (l.take k) j then 4 else if memI l j then 1 else 0) := by
  unfold dropL
  rw [List.getElem?_map, List.getElem?_range hj]
  rfl
theorem dropL_zero (N : Nat) (l : List Int) : dropL N l 0 = usedL N l := by
  unfold dropL usedL
  refine List.map_congr_left fun j _ => ?_
  rw [List.take_zero, show memI [] j = false from rfl]
  rfl
theorem dropL_at {N : Nat} {l : List Int} (hnd : l.Nodup) {k n : Nat} (hk : k < l.length) (hn : l[k] = (n : Int)) (hN : n < N) : (dropL N l k)[n]? = some 1 := by
  have h1 : memI l n = true := decide_eq_true (by rw [← hn]; exact List.getElem_mem hk)
  have h2 : memI (l.take k) n = false := decide_eq_false fun e => by
    rw [← hn] at e
    obtain ⟨i, hi, he⟩ := List.mem_iff_getElem.1 e
    rw [List.length_take] at hi
    rw [List.getElem_take] at he
    exact List.pairwise_iff_getElem.1 hnd i k (by omega) hk (by omega) he
  rw [dropL_get N l k hN, h1, h2]
  rfl
theorem dropL_next {N : Nat} {l : List Int} {k n : Nat} (hk : k < l.length) (hn : l[k] = (n : Int)) (hN : n < N) : (dropL N l k).set n 4 = dropL N l (k + 1) := by
  refine List.ext_getElem? fun j => ?_
  by_cases hj : j < N
  · rw [dropL_get N l (k + 1) hj, List.take_succ_eq_append_getElem hk, hn]
    have hm : memI (l.take k ++ [(n : Int)]) j = (memI (l.take k) j || decide (j = n)) := by
      unfold memI
      rw [Bool.eq_iff_iff]
      have e1 : ((j : Int) = (n : Int)) ↔ j = n := by omega
      simp [e1]
    rw [hm]
    by_cases e : j = n
    · subst e; rw [List.getElem?_set_self (by rw [dropL_len]; omega), decide_eq_true rfl, Bool.or_true]; rfl
    · rw [List.getElem?_set_ne (fun e' => e e'.symm), dropL_get N l k hj, decide_eq_false e, Bool.or_false]
  · rw [List.getElem?_eq_none (by rw [List.length_set, dropL_len]; omega), List.getElem?_eq_none (by rw [dropL_len]; omega)]
theorem dropL_done {N : Nat} {l : List Int} : (dropL N l l.length).map com = List.replicate N 0 := by
  refine List.ext_getElem? fun j => ?_
  by_cases hj : j < N
  · rw [List.getElem?_map, dropL_get N l _ hj, List.take_length, List.getElem?_replicate, if_pos hj]
    cases memI l j <;> rfl
  · rw [List.getElem?_eq_none (by rw [List.length_map, dropL_len]; omega), List.getElem?_eq_none (by rw [List.length_replicate]; omega)]

/-! ### the walk -/
theorem pages_of (n : Int) : ∃ N : Nat, 3 ≤ N ∧ N ≤ 32 ∧ wrap64 (3 + wrap64 ((IntKind.u64.wrap n).tmod 30)) = (N : Int) := by
  have h0 : 0 ≤ IntKind.u64.wrap n := by rw [IntKind.wrap_u64]; exact Int.emod_nonneg _ (by omega)
  have h1 : 0 ≤ (IntKind.u64.wrap n).tmod 30 := Int.tmod_nonneg _ h0
  have h2 : (IntKind.u64.wrap n).tmod 30 < 30 := Int.tmod_lt_of_pos _ (by omega)
  generalize (IntKind.u64.wrap n).tmod 30 = r at *
  refine ⟨(3 + r).toNat, by omega, by omega, ?_⟩
  rw [IntWalk.wrap64_in r ⟨by omega, by omega⟩, IntWalk.wrap64_in _ ⟨by omega, by omega⟩]
  omega
theorem idx_of (x : Int) {N : Nat} (h : 3 ≤ N) (h32 : N ≤ 32) : ∃ m : Nat, 2 ≤ m ∧ m < N ∧ wrap64 (2 + wrap64 ((IntKind.u64.wrap x).tmod ((N : Int) - 2))) = (m : Int) := by
  have h0 : 0 ≤ IntKind.u64.wrap x := by rw [IntKind.wrap_u64]; exact Int.emod_nonneg _ (by omega)
  have h1 : 0 ≤ (IntKind.u64.wrap x).tmod ((N : Int) - 2) := Int.tmod_nonneg _ h0
  have h2 : (IntKind.u64.wrap x).tmod ((N : Int) - 2) < (N : Int) - 2 := Int.tmod_lt_of_pos _ (by omega)
  generalize (IntKind.u64.wrap x).tmod ((N : Int) - 2) = r at *
  refine ⟨(2 + r).toNat, by omega, by omega, ?_⟩
  rw [IntWalk.wrap64_in r ⟨by omega, by omega⟩, IntWalk.wrap64_in _ ⟨by omega, by omega⟩]
  omega
/-- the pages that are to be used -/
structure LOk (N k : Nat) (l : List Int) : Prop where
  few : l.length ≤ k
  in_ : ∀ x ∈ l, 2 ≤ x ∧ x < (N : Int)
  nodup : l.Nodup
structure D1 (N : Nat) (d : Dk.St) : Prop where
  live : d.Live
  len : d.lasts.length = N * 4
  few : d.Few 100
theorem d1_of {N : Nat} (h3 : 3 ≤ N) (h32 : N ≤ 32) : D1 N (Dk.made (N * 4)).format := by
  have l0 := live_made (n := N * 4) (by omega) (by omega)
  have n0 := made_len (N * 4)
  exact ⟨(live_format l0 (by rw [n0]; omega)).1, (format_len _).trans n0, (format_few (few_made _)).more (by omega)⟩
theorem Ap.lists {W w : World} {b db : Nat} {v : Value} {l : List Int} {p : Pt} {d : Dk.St} (h : Ap W w b db v l p d) (hm : l.length ≤ 40) : ∃ A c, v = .slice A l.length c ∧ Ints w A l := by
  obtain ⟨_, _, _, _, _, _, _, _, ho, _⟩ := h
  obtain ⟨A, c, e, hi⟩ := ho.form
  exact ⟨A, c, e, hi (by omega)⟩
theorem ap_free {W w : World} {b db : Nat} {v : Value} {l : List Int} {p : Pt} {d : Dk.St} (h : Ap W w b db v l p d) : Calls Try.prog 26 #[.pointer (some ⟨b, 0, none⟩)] w fun e w' => e = .returned (.int .i64 (freeN p.l : Int)) ∧ Ap W w' b db v l p d := by
  obtain ⟨S, Sd, U, T, B, D, low, y, ho, hk⟩ := id h
  refine (pfree_any w b db U T B D low p y.over.lies _ y.over.disk.ok.most y.over.len (disk_cells y.over.disk).1).mono ?_
  rintro e w' ⟨rfl, k, rfl⟩
  exact ⟨rfl, h.next (((Fr.refl noB w).drewN k).below (Nat.le_refl _) (fun _ e => e.elim))⟩
theorem ap_use {W w : World} {b db N : Nat} {A : Option Addr} {c : Nat} {l : List Int} {d : Dk.St} (h : Ap W w b db (.slice A l.length c) l ⟨List.replicate N 0, 1, 0⟩ d) (hdead : d.dead = false) (hI : Ints w A l) (hl : LOk N 40 l) :
    Calls Try.prog 21 #[.pointer (some ⟨b, 0, none⟩), .slice A l.length c] w fun e w' => e = .returned (.int .i64 0) ∧ Ap W w' b db (.slice A l.length c) l ⟨usedL N l, 1, 0⟩ d := by
  obtain ⟨S, Sd, U, T, B, D, low, y, ho, hk⟩ := id h
  have hin : ∀ x ∈ l, 2 ≤ x ∧ x < ((List.replicate N 0).length : Int) := by rw [List.length_replicate]; exact hl.in_
  refine (puse_any w S Sd noB b db U T B D low _ d y.over hdead (cnt_none fun j _ => stp_zero rfl _ _) (cnt_none fun j _ => stp_zero rfl _ _) A l c hI).mono ?_
  intro e w' hp
  rcases hp with ⟨hno, _⟩ | ⟨_, hno, _⟩ | ⟨_, _, rfl, hg⟩
  · exact absurd hin hno
  · exact absurd hl.nodup hno
  · have := Ap.goes y ho hk hg
    unfold usePt at this
    rw [List.length_replicate] at this
    exact ⟨rfl, this⟩
theorem ap_drop {W w : World} {b db N : Nat} {v : Value} {l : List Int} {s : List Nat} {d : Dk.St} (h : Ap W w b db v l ⟨s, 1, 0⟩ d) (hdead : d.dead = false) (hs : DropSt N l s) (n : Nat) (h2 : 2 ≤ n) (hN : n < N) (hm : (n : Int) ∈ l) :
    Calls Try.prog 23 #[.pointer (some ⟨b, 0, none⟩), .int .i64 (n : Int)] w fun e w' => ∃ s', Ap W w' b db v l ⟨s', 1, 0⟩ d ∧ DropSt N l s' ∧
      ((e = .returned (.int .i64 0) ∧ cnt N (stp isD s') = cnt N (stp isD s) + 1) ∨ (e = .returned (.int .i64 250) ∧ s' = s)) := by
  obtain ⟨S, Sd, U, T, B, D, low, y, ho, hk⟩ := id h
  have hlen := hs.len
  have hu : stp isU s n = true := by rw [hs.used n hN]; exact decide_eq_true hm
  rcases hs.all n hN with e | e | e
  · rw [state_of isU e] at hu; cases hu
  · refine (pdrop_used w S Sd noB b db U T B D low _ d y.over hdead n h2 (by show n < s.length; omega) e).mono ?_
    rintro e' w' ⟨rfl, hov, hf⟩
    refine ⟨_, Ap.over y ho hk hov hf, hs.drop hN e, .inl ⟨rfl, ?_⟩⟩
    refine cnt_set (i := n) hN (by rw [state_of isD e]; rfl) (by rw [stp_set (l := s) (by omega), if_pos rfl]; rfl) fun j hj => ?_
    rw [stp_set (l := s) (by omega), if_neg hj]
  · refine (pdrop_state w S Sd noB b db U T B D low _ d y.over hdead n h2 (by show n < s.length; omega) (.inr (by rw [state_of isD e]; rfl))).mono ?_
    rintro e' w' ⟨rfl, hb⟩
    exact ⟨s, h.next hb, hs, .inr ⟨rfl, rfl⟩⟩
theorem ap_alloc {W w : World} {b db N : Nat} {v : Value} {l : List Int} {s : List Nat} {d : Dk.St} {last : Nat} (h : Ap W w b db v l ⟨s, 1, 0⟩ d) (hdead : d.dead = false) (hs : TakeSt N l s last) :
    Calls Try.prog 19 #[.pointer (some ⟨b, 0, none⟩)] w fun e w' =>
      (0 < freeN s ∧ ∃ (i : Nat) (s' : List Nat), e = .returned (.tuple #[.int .i64 (i : Int), .int .i64 0]) ∧ last < i ∧ i < N ∧ 2 ≤ i ∧ memI l i = false ∧ Ap W w' b db v l ⟨s', 1, 0⟩ d ∧ TakeSt N l s' i ∧ freeN s = freeN s' + 1) ∨
      (freeN s = 0 ∧ e = .returned (.tuple #[.int .i64 0, .int .i64 3]) ∧ Ap W w' b db v l ⟨s, 1, 0⟩ d) := by
  obtain ⟨S, Sd, U, T, B, D, low, y, ho, hk⟩ := id h
  have hlen : s.length = N := hs.len
  by_cases hf : 0 < freeN s
  · obtain ⟨i, h2, hi, hfi, hmin⟩ := free_pos hf
    refine (palloc_some w S Sd noB b db U T B D low _ d y.over hdead i h2 hi hfi hmin).mono ?_
    rintro e w' ⟨rfl, hov, hfr⟩
    have hla : last < i := Nat.lt_of_not_le fun hc => by have := hs.low i h2 hc; rw [hfi] at this; cases this
    refine .inl ⟨hf, i, s.set i 2, rfl, hla, by omega, h2, ?_, Ap.over y ho hk hov hfr, hs.take (by omega) hfi hmin, free_take (p := ⟨s, 1, 0⟩) h2 hi hfi⟩
    rw [← hs.used i (by omega), state_of isU (stpF.1 hfi)]
    rfl
  · refine (palloc_none w S Sd noB b db U T B D low _ d y.over hdead (free_none (s := s) (by omega))).mono ?_
    rintro e w' ⟨rfl, hov, hfr⟩
    exact .inr ⟨by omega, rfl, Ap.over y ho hk hov hfr⟩
theorem ap_free_used {W w : World} {b db N : Nat} {v : Value} {l : List Int} {q : Nat} {r : Nat} {d : Dk.St} (h : Ap W w b db v l ⟨usedL N l, q, r⟩ d) (hl : LOk N 40 l) :
    Calls Try.prog 26 #[.pointer (some ⟨b, 0, none⟩)] w fun e w' => e = .returned (.int .i64 ((N : Int) - 2 - l.length)) ∧ Ap W w' b db v l ⟨usedL N l, q, r⟩ d := by
  have hfr := ap_free h
  obtain ⟨_, _, _, _, _, _, _, hy, _, _⟩ := id h
  rw [show (freeN (⟨usedL N l, q, r⟩ : Pt).l : Int) = (N : Int) - 2 - l.length from free_of hy.over.lies.ok (usedL_len N l) (fun x hx => by have := hl.in_ x hx; omega) hl.nodup (DropSt.first N l).used (fun j hj => by rw [state_of isT (usedL_get N l hj)]; split <;> rfl)] at hfr
  exact hfr
theorem ap_free_zero {W w : World} {b db N : Nat} {v : Value} {l : List Int} {q : Nat} {r : Nat} {d : Dk.St} (h : Ap W w b db v l ⟨List.replicate N 0, q, r⟩ d) :
    Calls Try.prog 26 #[.pointer (some ⟨b, 0, none⟩)] w fun e w' => e = .returned (.int .i64 ((N : Int) - 2)) ∧ Ap W w' b db v l ⟨List.replicate N 0, q, r⟩ d := by
  have hfr := ap_free h
  obtain ⟨_, _, _, _, _, _, _, hy, _, _⟩ := id h
  have := free_of (N := N) (l := []) hy.over.lies.ok List.length_replicate (by simp) (by simp) (fun j hj => stp_zero rfl N j) (fun j hj => stp_zero rfl N j)
  rw [this, show (N : Int) - 2 - (([] : List Int).length : Int) = (N : Int) - 2 by simp] at hfr
  exact hfr
theorem ap_abort {W w : World} {b db N : Nat} {v : Value} {l : List Int} {s : List Nat} {d : Dk.St} {last : Nat} (h : Ap W w b db v l ⟨s, 1, 0⟩ d) (hdead : d.dead = false) (hs : TakeSt N l s last) :
    Calls Try.prog 24 #[.pointer (some ⟨b, 0, none⟩)] w fun e w' => e = .returned (.int .i64 0) ∧ Ap W w' b db v l ⟨usedL N l, 1, 0⟩ d := by
  obtain ⟨S, Sd, U, T, B, D, low, y, ho, hk⟩ := id h
  refine (pabort_ok w S Sd noB b db U T B D low _ d y.over hdead).mono ?_
  rintro e w' ⟨rfl, T', B', D', low', hg⟩
  have e1 : aborted ⟨s, 1, 0⟩ = ⟨usedL N l, 1, 0⟩ := by
    show (⟨s.map abo, 1, 0⟩ : Pt) = _
    rw [show s.map abo = usedL N l from abort_used y.over.lies.ok hs.len hs.used]
  rw [e1] at hg
  exact ⟨rfl, Ap.goes y ho hk hg⟩
theorem ap_dropk {W w : World} {b db N k n : Nat} {v : Value} {l : List Int} {d : Dk.St} (h : Ap W w b db v l ⟨dropL N l k, 1, 0⟩ d) (hdead : d.dead = false) (hl : LOk N 40 l) (hk : k < l.length) (hn : l[k] = (n : Int)) :
    Calls Try.prog 23 #[.pointer (some ⟨b, 0, none⟩), .int .i64 (n : Int)] w fun e w' => e = .returned (.int .i64 0) ∧ Ap W w' b db v l ⟨dropL N l (k + 1), 1, 0⟩ d := by
  obtain ⟨S, Sd, U, T, B, D, low, y, ho, hk'⟩ := id h
  have hin := hl.in_ _ (List.getElem_mem hk)
  refine (pdrop_used w S Sd noB b db U T B D low _ d y.over hdead n (by omega) (by show n < (dropL N l k).length; rw [dropL_len]; omega) (dropL_at hl.nodup hk hn (by omega))).mono ?_
  rintro e w' ⟨rfl, hov, hf⟩
  have hov' : Over w' S Sd noB b db U T B D low ⟨(dropL N l k).set n 4, 1, 0⟩ d := hov
  rw [dropL_next hk hn (by omega)] at hov'
  exact ⟨rfl, Ap.over y ho hk' hov' hf⟩
theorem ap_commit {W w : World} {b db N : Nat} {v : Value} {l : List Int} {d : Dk.St} (h : Ap W w b db v l ⟨dropL N l l.length, 1, 0⟩ d) (hd : D1 N d) (h3 : 3 ≤ N) :
    Calls Try.prog 13 #[.pointer (some ⟨b, 0, none⟩), .int .i64 0] w fun e w' => e = .returned (.int .i64 0) ∧ ∃ d', Ap W w' b db v l ⟨List.replicate N 0, 2, 0⟩ d' := by
  obtain ⟨S, Sd, U, T, B, D, low, y, ho, hk⟩ := id h
  obtain ⟨l3, _, _⟩ := live_keep (d := d) hd.live (by rw [hd.len]; omega) 2 0
  refine (pcommit_ok w S Sd noB b db U T B D low _ d y.over hd.live.dead (hd.few.more (by omega)) (by show 1 + 1 ≤ _; omega) 0 (.inl rfl)).mono ?_
  intro e w' hp
  rcases hp with ⟨hdd, _⟩ | ⟨_, rfl, T', B', D', low', hg⟩
  · have hdd' : (d.keep 2 0).dead = true := hdd
    rw [l3.dead] at hdd'; cases hdd'
  · have e1 : committed ⟨dropL N l l.length, 1, 0⟩ 0 = ⟨List.replicate N 0, 2, 0⟩ := by
      show (⟨(dropL N l l.length).map com, 2, 0⟩ : Pt) = _
      rw [dropL_done]
    rw [e1] at hg
    exact ⟨rfl, _, Ap.goes y ho hk hg⟩
theorem ap_seq {W w : World} {b db : Nat} {v : Value} {l : List Int} {p : Pt} {d : Dk.St} (h : Ap W w b db v l p d) :
    Calls Try.prog 27 #[.pointer (some ⟨b, 0, none⟩)] w fun e w' => e = .returned (.int .i64 (p.seq : Int)) ∧ w = w' := by
  obtain ⟨S, Sd, U, T, B, D, low, y, ho, hk⟩ := id h
  exact pseq_any w b _ y.over.lies.cells.c1
set_option maxHeartbeats 6400000 in
theorem walk (W : World) (n0 : Int) (A1 : Option Addr) (l1 : List Int) (c1 : Nat) (R1 : Ints W A1 l1) (A2 : Option Addr) (l2 : List UInt8) (c2 : Nat) (R2 : Rd W W.heap.size A2 l2) (t3 : UInt8) :
    Calls Try.prog 6 #[.int .i64 n0, .slice A1 l1.length c1, .slice A2 l2.length c2, .int .u8 (t3.toNat : Int)] W fun e w' => e = .returned (.bool true) ∧ Below W.heap.size W w' := by
  obtain ⟨N, h3, h32, e1⟩ := pages_of n0
  have hd1 := d1_of h3 h32
  have hfmt := fun w Sd R db h => format_ok w Sd R db (Dk.made (N * 4)) h rfl ((few_made _).more (by omega)) (by rw [made_len]; omega)
  have hnew := fun w => new_any w (N * 4) (by omega) (by omega)
  rw [show ((N * 4 : Nat) : Int) = (N : Int) * 4 by omega] at hnew
  unfold FmtPost at hfmt
  rw [made_len, show N * 4 / 4 = N by omega] at hfmt
  generalize (Dk.made (N * 4)).format = d1 at *
  generalize Dk.made (N * 4) = d0 at *
  have HFMT := Lib.hid hfmt
  have HNEW := Lib.hid hnew
  have HD1 := Lib.hid hd1
  have HR1 := Lib.hid R1
  have HR2 := Lib.hid R2
  clear hfmt hnew hd1 R1 R2
  go_enter Try.func6, Try.ntmps6
  go_wp2_with fail
  rw [e1]
  clear e1
  refine (HNEW.out _).mono ?_
  rintro e w1 ⟨db, Sd, rfl, hd, hb, hs⟩
  have Y1 := Lib.hid (Sys.made (Below.refl _ _) hd hb hs)
  clear hd hb hs HNEW
  unfold ptr
  go_wp2_with fail
  refine (awake_any w1).mono ?_
  rintro e w2 ⟨rfl, hb2⟩
  have Y2 := Lib.hid (Y1.out.next hb2)
  clear hb2 Y1
  go_wp2_with fail
  refine (HFMT.out w2 Sd noB db Y2.out.disk).mono ?_
  intro e w3 hpost
  rcases hpost with ⟨hdd, _⟩ | ⟨_, b, S, rfl, hp, hf, hs⟩
  · rw [HD1.out.live.dead] at hdd; cases hdd
  obtain ⟨Sd3, U, T, B, D, low, y3⟩ := Y2.out.pager hp hf hs
  have Y3 := Lib.hid (show Ap W w3 b db (.slice none 0 0) [] ⟨List.replicate N 0, 1, 0⟩ d1 from ⟨_, _, _, _, _, _, _, y3, OwnI.nil _ _, fun k e => by cases e⟩)
  clear hp hf hs y3 Y2 HFMT
  go_upto_block 0 with fail
  go_cut [12, 13, 14, 15, 16] from 50 to 91 (fun v _ _ _ _ wc => ∃ l, Hid (Ap W wc b db v l ⟨List.replicate N 0, 1, 0⟩ d1) ∧ Hid (LOk N 40 l))
  case first =>
    go_wp2_with fail
    go_loopw [12, 13] (fun v i wr => ∃ k : Nat, k ≤ l1.length ∧ k ≤ 40 ∧ i = .int .i64 k ∧ ∃ l, Hid (Ap W wr b db v l ⟨List.replicate N 0, 1, 0⟩ d1) ∧ Hid (LOk N k l)) (fun _ i _ => l1.length - (intOf i).toNat)
    case atStart => exact ⟨0, by omega, by omega, rfl, [], Y3, Lib.hid ⟨by simp, by simp, by simp⟩⟩
    case round =>
      rename World => wr
      obtain ⟨k, hk, hk40, rfl, l, Y4, HL⟩ := hrel
      obtain ⟨v, c, rfl, hI⟩ : ∃ A c, u12 = .slice A l.length c ∧ Ints wr A l := by
        obtain ⟨_, _, _, _, _, _, _, _, ho, _⟩ := Y4.out
        obtain ⟨A, c, e, hi⟩ := ho.form
        exact ⟨A, c, e, hi (by have := HL.out.few; omega)⟩
      by_cases hlt : k < l1.length ∧ k < 40
      · obtain ⟨hlt, hlt40⟩ := hlt
        have hu : IntKind.u64.wrap ((N : Int) - 2) = (N : Int) - 2 := by rw [IntKind.wrap_u64]; omega
        have hz : ¬ ((N : Int) - 2 = 0) := by omega
        obtain ⟨g, o, rfl, hcell⟩ := (HR1.out.keep (Fr.of_below Y4.out.size noB) (fun _ _ _ e => e)).at_ hlt
        have hlt' : (k : Int) < (l1.length : Int) := by omega
        have h40' : (k : Int) < 40 := by omega
        obtain ⟨m, hm2, hmN, hm⟩ := idx_of l1[k] h3 h32
        generalize l1[k] = x at *
        go_wp2_with fail
        rw [hm]
        clear hm hu hz hcell
        have HI := Lib.hid hI
        clear hI
        have hln : l.length ≤ 40 := by have := HL.out.few; omega
        go_loopw [15, 16] (fun t i2 wr2 => ∃ j : Nat, j ≤ l.length ∧ i2 = .int .i64 j ∧ t = .bool (decide ((m : Int) ∈ l.take j)) ∧ wr2 = wr) (fun _ i2 _ => l.length - (intOf i2).toNat)
        case atStart => exact ⟨0, by omega, rfl, by simp, rfl⟩
        case round =>
          rename World => wi
          obtain ⟨j, hj, rfl, rfl, rfl⟩ := hrel
          by_cases hjl : j < l.length
          · obtain ⟨g2, o2, rfl, hcell⟩ := HI.out.at_ hjl
            have hjl' : (j : Int) < (l.length : Int) := by omega
            have htk : l.take (j + 1) = l.take j ++ [l[j]] := List.take_succ_eq_append_getElem hjl
            have HTK := Lib.hid htk
            clear htk
            by_cases hmem : (m : Int) ∈ l.take j
            · rw [decide_eq_true hmem]
              go_wp2_with fail
              go_roundw
              case rel => exact ⟨j + 1, by omega, rfl, by rw [HTK.out, decide_eq_true (List.mem_append_left _ hmem)], by simp⟩
              case measure => simp [intOf]; omega
            · rw [decide_eq_false hmem]
              generalize l[j] = y at *
              by_cases hy : y = (m : Int)
              · subst hy
                go_wp2_with fail
                go_roundw
                case rel => exact ⟨j + 1, by omega, rfl, by rw [HTK.out, decide_eq_true (List.mem_append_right _ (List.mem_singleton.2 rfl))], by simp⟩
                case measure => simp [intOf]; omega
              · go_wp2_with fail
                go_roundw
                case rel => exact ⟨j + 1, by omega, rfl, by rw [HTK.out, decide_eq_false (fun e => by rcases List.mem_append.1 e with e | e; exact hmem e; exact hy (List.mem_singleton.1 e).symm)]; simp [hy], by simp⟩
                case measure => simp [intOf]; omega
          · have hjl2 : j = l.length := by omega
            subst hjl2
            rw [List.take_length]
            have hjl' : ¬ ((l.length : Int) < (l.length : Int)) := by omega
            by_cases hmem : (m : Int) ∈ l
            · rw [decide_eq_true hmem]
              go_wp2_with fail
              go_roundw
              case rel => exact ⟨k + 1, by omega, by omega, rfl, l, Y4, Lib.hid ⟨by have := HL.out.few; omega, HL.out.in_, HL.out.nodup⟩⟩
              case measure => simp [intOf]; omega
            · rw [decide_eq_false hmem]
              have y5 := Y4.out.next ((Below.refl wi.heap.size wi).alloc (Nat.le_refl _) (.cells #[.int .i64 (m : Int)] 3))
              have hc5 : (wi.alloc (.cells #[.int .i64 (m : Int)] 3)).cell? ⟨wi.heap.size, 0, none⟩ = some (.int .i64 (m : Int)) := (Has.of_alloc wi _ _).cell 0
              have ho5 : OwnI (wi.alloc (.cells #[.int .i64 (m : Int)] 3)) W.heap.size (.slice v l.length c) l := by
                obtain ⟨_, _, _, _, _, _, _, _, ho, _⟩ := y5
                exact ho
              have hok5 : LOk N (k + 1) (l ++ [(m : Int)]) := ⟨by have := HL.out.few; simp; omega, fun x hx => by
                rcases List.mem_append.1 hx with e | e
                · exact HL.out.in_ x e
                · rw [List.mem_singleton] at e; subst e; omega, List.nodup_append.2 ⟨HL.out.nodup, by simp, fun x hx y hy e => by
                rw [List.mem_singleton] at hy; subst hy; subst e; exact hmem hx⟩⟩
              have hz5 := y5.size.size
              have Y5 := Lib.hid y5
              have HC5 := Lib.hid hc5
              have HO5 := Lib.hid ho5
              have HL5 := Lib.hid hok5
              clear y5 hc5 ho5 hok5
              go_wp2_with (refine wpList_append_int rfl (.tmp 88) (.tmp 90) rfl W.heap.size _ l rfl HO5.out wi.heap.size (m : Int) rfl HC5.out (by omega) hz5 ?_; intro v2 w2 O2 F2 V2)
              go_roundw
              case rel => exact ⟨k + 1, by omega, by omega, rfl, l ++ [(m : Int)], Lib.hid (Y5.out.grow O2.out F2.out V2.out), HL5⟩
              case measure => simp [intOf]; omega
      · by_cases hlt : k < l1.length
        · have hk40' : ¬ ((k : Int) < 40) := by omega
          have hlt' : (k : Int) < (l1.length : Int) := by omega
          have HLX := Lib.hid (show LOk N 40 l from ⟨by have := HL.out.few; omega, HL.out.in_, HL.out.nodup⟩)
          go_wp2_with fail
          go_meet
          exact ⟨l, Y4, HLX⟩
        · have hlt' : ¬ ((k : Int) < (l1.length : Int)) := by omega
          have HLX := Lib.hid (show LOk N 40 l from ⟨by have := HL.out.few; omega, HL.out.in_, HL.out.nodup⟩)
          go_wp2_with fail
          go_meet
          exact ⟨l, Y4, HLX⟩
  case rest =>
    obtain ⟨l, Y5, HL⟩ := hcut
    rename World => wc
    have hln := HL.out.few
    obtain ⟨A, c, rfl, hI⟩ := Y5.out.lists hln
    have HU := Lib.hid (ap_use Y5.out HD1.out.live.dead hI HL.out)
    clear hI
    go_wp2_with fail
    refine HU.out.mono ?_
    rintro e w6 ⟨rfl, y6⟩
    have hfr := ap_free y6
    have hst := DropSt.first N l
    obtain ⟨_, _, _, _, _, _, _, hy, _, _⟩ := id y6
    rw [show (freeN (⟨usedL N l, 1, 0⟩ : Pt).l : Int) = (N : Int) - 2 - l.length from free_of hy.over.lies.ok (usedL_len N l) (fun x hx => by have := HL.out.in_ x hx; omega) HL.out.nodup hst.used (fun j hj => by rw [state_of isT (usedL_get N l hj)]; split <;> rfl)] at hfr
    have HF := Lib.hid hfr
    have HST := Lib.hid hst
    clear hfr hst hy y6 HU Y5
    go_wp2_with fail
    refine HF.out.mono ?_
    rintro e w7 ⟨rfl, y7⟩
    have Y7 := Lib.hid y7
    clear y7 HF
    go_upto_block 4 with fail
    go_cut [17, 18] from 106 to 136 (fun dr _ wc => ∃ s, dr = .int .i64 (cnt N (stp isD s) : Int) ∧ Hid (Ap W wc b db (.slice A l.length c) l ⟨s, 1, 0⟩ d1) ∧ Hid (DropSt N l s))
    case first =>
      go_wp2_with fail
      go_loopw [17, 18] (fun dr i wr => ∃ k : Nat, k ≤ l2.length ∧ k ≤ 20 ∧ i = .int .i64 k ∧ ∃ s, dr = .int .i64 (cnt N (stp isD s) : Int) ∧ Hid (Ap W wr b db (.slice A l.length c) l ⟨s, 1, 0⟩ d1) ∧ Hid (DropSt N l s)) (fun _ i _ => l2.length - (intOf i).toNat)
      case atStart => exact ⟨0, by omega, by omega, rfl, _, by rw [show cnt N (stp isD (usedL N l)) = 0 from cnt_none fun j hj => by rw [state_of isD (usedL_get N l hj)]; split <;> rfl]; rfl, Y7, HST⟩
      case round =>
        rename World => wr
        obtain ⟨k, hk, hk20, rfl, s, rfl, Y8, HS⟩ := hrel
        by_cases hgo : k < l2.length ∧ k < 20 ∧ 0 < l.length
        · obtain ⟨hlt, hlt20, hl0⟩ := hgo
          obtain ⟨g2, o2, rfl, _, hc2⟩ := (HR2.out.below Y8.out.size).at_ hlt
          obtain ⟨A8, c8, hv8, hI8⟩ := Y8.out.lists hln
          injection hv8 with hv8 _ hv9
          subst hv8 hv9
          have hmod : ∀ y : UInt8, y.toNat % l.length < l.length := fun y => Nat.mod_lt _ hl0
          have hq := hmod l2[k]
          have hlt' : (k : Int) < (l2.length : Int) := by omega
          have hlt20' : (k : Int) < 20 := by omega
          have hl0' : (0 : Int) < (l.length : Int) := by omega
          have hne0 : ¬ ((l.length : Int) = 0) := by omega
          unfold byt at hc2
          have hyb := l2[k].toNat_lt
          generalize l2[k] = y at *
          have hym : ((y.toNat : Int) % (l.length : Int)) = ((y.toNat % l.length : Nat) : Int) := (Int.natCast_emod _ _).symm
          generalize y.toNat % l.length = q at *
          obtain ⟨g3, o3, rfl, hc3⟩ := hI8.at_ hq
          obtain ⟨hx2, hxN⟩ := HL.out.in_ _ (List.getElem_mem hq)
          obtain ⟨n, hn⟩ : ∃ n : Nat, l[q] = (n : Int) := ⟨l[q].toNat, by omega⟩
          have hmem : (n : Int) ∈ l := by rw [← hn]; exact List.getElem_mem hq
          rw [hn] at hc3 hx2 hxN
          have HD8 := Lib.hid (ap_drop Y8.out HD1.out.live.dead HS.out n (by omega) (by omega) hmem)
          have hcn : cnt N (stp isD s) ≤ 40 := by have := cnt_le N (stp isD s); omega
          clear hn hmem hI8 hx2 hxN hmod
          go_wp2_with fail
          refine HD8.out.mono ?_
          rintro e w9 ⟨s', y9, hs9, hr9⟩
          have Y9 := Lib.hid y9
          have HS9 := Lib.hid hs9
          clear y9 hs9 HD8 Y8
          rcases hr9 with ⟨rfl, hcs⟩ | ⟨rfl, rfl⟩
          · go_wp2_with fail
            go_roundw
            case rel => exact ⟨k + 1, by omega, by omega, rfl, s', by rw [hcs]; rfl, Y9, HS9⟩
            case measure => simp [intOf]; omega
          · go_wp2_with fail
            go_roundw
            case rel => exact ⟨k + 1, by omega, by omega, rfl, s', rfl, Y9, HS9⟩
            case measure => simp [intOf]; omega
        · by_cases hlt : k < l2.length
          · have hlt' : (k : Int) < (l2.length : Int) := by omega
            by_cases hlt20 : k < 20
            · have hlt20' : (k : Int) < 20 := by omega
              have hl0' : ¬ ((0 : Int) < (l.length : Int)) := by omega
              go_wp2_with fail
              go_meet
              exact ⟨s, rfl, Y8, HS⟩
            · have hlt20' : ¬ ((k : Int) < 20) := by omega
              go_wp2_with fail
              go_meet
              exact ⟨s, rfl, Y8, HS⟩
          · have hlt' : ¬ ((k : Int) < (l2.length : Int)) := by omega
            go_wp2_with fail
            go_meet
            exact ⟨s, rfl, Y8, HS⟩
    case rest =>
      obtain ⟨s, rfl, Y9, HS9⟩ := hcut
      rename World => w9
      have hcn : cnt N (stp isD s) ≤ l.length := isD_le HS9.out (fun x hx => by have := HL.out.in_ x hx; omega)
      generalize cnt N (stp isD s) = dc at *
      obtain ⟨t, ht, ht40⟩ : ∃ t : Nat, ((t3.toNat : Int) % 40) = (t : Int) ∧ t < 40 := ⟨t3.toNat % 40, by omega, by omega⟩
      clear HST HR1 HR2 Y7
      go_upto_block 6 with fail
      go_cut [19, 20, 21, 22, 23, 24] from 137 to 193 (fun _ _ _ _ _ _ wc => ∃ s last, Hid (Ap W wc b db (.slice A l.length c) l ⟨s, 1, 0⟩ d1) ∧ Hid (TakeSt N l s last))
      case first =>
        go_wp2_with fail
        go_loopw [19, 20] (fun la kv wr => ∃ (k last : Nat), k ≤ t ∧ kv = .int .i64 k ∧ la = .int .i64 last ∧ 1 ≤ last ∧ last < N ∧ ∃ s, Hid (Ap W wr b db (.slice A l.length c) l ⟨s, 1, 0⟩ d1) ∧ Hid (TakeSt N l s last)) (fun _ kv _ => t - (intOf kv).toNat)
        case atStart => exact ⟨0, 1, by omega, rfl, rfl, by omega, by omega, s, Y9, Lib.hid ⟨HS9.out.len, HS9.out.used, fun j _ _ => by omega⟩⟩
        case round =>
          rename World => wr
          obtain ⟨k, last, hk, rfl, rfl, hla1, hlaN, s1, Y10, HT⟩ := hrel
          by_cases hkt : k < t
          · have hkt' : (k : Int) < (t : Int) := by omega
            have HF := Lib.hid (ap_free Y10.out)
            clear Y10
            go_wp2_with fail
            refine HF.out.mono ?_
            rintro e wa ⟨rfl, ya⟩
            have HA := Lib.hid (ap_alloc ya HD1.out.live.dead HT.out)
            clear ya HF
            go_wp2_with fail
            refine HA.out.mono ?_
            intro e wb hpost
            rcases hpost with ⟨hpos, i, s2, rfl, hli, hiN, hi2, hmi, yb, hT2, hfn⟩ | ⟨h0, rfl, yb⟩
            · have HFb := Lib.hid (ap_free yb)
              have HT2 := Lib.hid hT2
              have hpos' : (0 : Int) < (freeN s1 : Int) := by omega
              have hli' : ¬ ((i : Int) ≤ (last : Int)) := by omega
              have hiN' : ¬ ((N : Int) ≤ (i : Int)) := by omega
              have hfn' : (freeN s2 : Int) = (freeN s1 : Int) - 1 := by omega
              dsimp only at HFb
              rw [hfn'] at HFb
              have hsb : freeN s1 ≤ 40 := by have h2 : freeN s2 ≤ s2.length := cnt_le _ _; have := HT2.out.len; omega
              generalize freeN s1 = fs at *
              clear yb hT2 HA hfn hfn'
              go_wp2_with fail
              refine HFb.out.mono ?_
              rintro e wd ⟨rfl, yd⟩
              obtain ⟨Ad, cd, hvd, hId⟩ := yd.lists hln
              injection hvd with hvd _ hve
              subst hvd hve
              have YD := Lib.hid yd
              have HID := Lib.hid hId
              clear yd hId HFb
              go_wp2_with fail
              go_loopw [24] (fun iv wi => ∃ j : Nat, j ≤ l.length ∧ iv = .int .i64 j ∧ wi = wd) (fun iv _ => l.length - (intOf iv).toNat)
              case atStart => exact ⟨0, by omega, rfl, rfl⟩
              case round =>
                rename World => wi
                obtain ⟨j, hj, rfl, rfl⟩ := hrel
                by_cases hjl : j < l.length
                · obtain ⟨g4, o4, rfl, hc4⟩ := HID.out.at_ hjl
                  have hjl' : (j : Int) < (l.length : Int) := by omega
                  have hne4 : ¬ (l[j] = (i : Int)) := fun e => by
                    have : memI l i = true := decide_eq_true (by rw [← e]; exact List.getElem_mem hjl)
                    rw [hmi] at this; cases this
                  generalize l[j] = x4 at *
                  go_wp2_with fail
                  go_roundw
                  case rel => exact ⟨j + 1, by omega, by simp⟩
                  case measure => simp [intOf]; omega
                · have hjl' : ¬ ((j : Int) < (l.length : Int)) := by omega
                  go_wp2_with fail
                  go_roundw
                  case rel => exact ⟨k + 1, i, by omega, rfl, rfl, by omega, hiN, s2, YD, HT2⟩
                  case measure => simp [intOf]; omega
            · have h0' : ¬ ((0 : Int) < (freeN s1 : Int)) := by omega
              have YB := Lib.hid yb
              clear yb HA
              go_wp2_with fail
              go_meet
              exact ⟨s1, last, YB, HT⟩
          · have hkt' : ¬ ((k : Int) < (t : Int)) := by omega
            go_wp2_with fail
            go_meet
            exact ⟨s1, last, Y10, HT⟩
      case rest =>
        obtain ⟨s4, last, Y11, HT4⟩ := hcut
        rename World => w11
        have HAB := Lib.hid (ap_abort Y11.out HD1.out.live.dead HT4.out)
        clear Y11 HT4 Y9 HS9
        go_wp2_with fail
        refine HAB.out.mono ?_
        rintro e w12 ⟨rfl, y12⟩
        have HF12 := Lib.hid (ap_free_used y12 HL.out)
        have hcn' : ¬ (l.length < dc) := by omega
        clear y12 HAB
        go_wp2_with fail
        refine HF12.out.mono ?_
        rintro e w13 ⟨rfl, y13⟩
        rw [← dropL_zero] at y13
        have Y13 := Lib.hid y13
        clear y13 HF12
        go_wp2_with fail
        go_loopw [25] (fun iv wr => ∃ k : Nat, k ≤ l.length ∧ iv = .int .i64 k ∧ Hid (Ap W wr b db (.slice A l.length c) l ⟨dropL N l k, 1, 0⟩ d1)) (fun iv _ => l.length - (intOf iv).toNat)
        case atStart => exact ⟨0, by omega, rfl, Y13⟩
        case round =>
          rename World => wr
          obtain ⟨k, hk, rfl, Y14⟩ := hrel
          by_cases hlt : k < l.length
          · obtain ⟨A14, c14, hv14, hI14⟩ := Y14.out.lists hln
            injection hv14 with hv14 _ hv15
            subst hv14 hv15
            obtain ⟨g4, o4, rfl, hc4⟩ := hI14.at_ hlt
            have hlt' : (k : Int) < (l.length : Int) := by omega
            have hin := HL.out.in_ _ (List.getElem_mem hlt)
            obtain ⟨n, hn⟩ : ∃ n : Nat, l[k] = (n : Int) := ⟨l[k].toNat, by omega⟩
            have HD14 := Lib.hid (ap_dropk Y14.out HD1.out.live.dead HL.out hlt hn)
            rw [hn] at hc4
            clear hn hin hI14 Y14
            go_wp2_with fail
            refine HD14.out.mono ?_
            rintro e w15 ⟨rfl, y15⟩
            have Y15 := Lib.hid y15
            clear y15 HD14
            go_wp2_with fail
            go_roundw
            case rel => exact ⟨k + 1, by omega, rfl, Y15⟩
            case measure => simp [intOf]; omega
          · have hkl : k = l.length := by omega
            subst hkl
            have hlt' : ¬ ((l.length : Int) < (l.length : Int)) := by omega
            have HC := Lib.hid (ap_commit Y14.out HD1.out h3)
            clear Y14
            go_wp2_with fail
            refine HC.out.mono ?_
            rintro e w16 ⟨rfl, d', y16⟩
            have HF16 := Lib.hid (ap_free_zero y16)
            clear y16 HC
            go_wp2_with fail
            refine HF16.out.mono ?_
            rintro e w17 ⟨rfl, y17⟩
            have HS17 := Lib.hid (ap_seq y17)
            have HB17 := Lib.hid y17.size
            clear y17 HF16
            go_wp2_with fail
            refine HS17.out.mono ?_
            rintro e w18 ⟨rfl, rfl⟩
            go_wp2_with fail
            go_ret
            exact ⟨rfl, HB17.out⟩
end Go.Proofs.Ytjbiaomkbgfgfaa.papart

/-
  Use of a pager.
-/
import Derived.Test.YthlmjnlakenmoaaPWrite
namespace Go.Proofs.Ythlmjnlakenmoaa
open Go.RowKit Go.Maps
set_option maxRecDepth 100000

theorem puse_nil (w : World) (v : Value) : Calls Try.prog 21 #[.pointer none, v] w fun e w' => e = .returned (.int .i64 2) ∧ w = w' := by
  go_enter Try.func21, Try.ntmps21
  go_wp2_with fail
  refine (prefuse_nil _).mono ?_
  rintro e w' ⟨rfl, rfl⟩
  go_wp2_with fail
  go_ret
  exact ⟨rfl, rfl⟩
theorem puse_dead (w : World) (b db : Nat) (v : Value) (hp : w.cell? ⟨b, 0, none⟩ = some (.pointer (some ⟨db, 0, none⟩))) (hd : w.cell? ⟨db, 4, none⟩ = some (.bool true)) : Calls Try.prog 21 #[.pointer (some ⟨b, 0, none⟩), v] w fun e w' => e = .returned (.int .i64 20) ∧ w = w' := by
  have hr := prefuse_any w b db true hp hd
  rw [if_pos rfl] at hr
  have HR := Lib.hid hr
  clear hr hp hd
  go_enter Try.func21, Try.ntmps21
  go_wp2_with fail
  refine HR.out.mono ?_
  rintro e w' ⟨rfl, rfl⟩
  go_wp2_with fail
  go_ret
  exact ⟨rfl, rfl⟩

/-- the slice at A reads the numbers l -/
def Ints (w : World) (A : Option Addr) (l : List Int) : Prop :=
  l.length ≤ 140737488355328 ∧ (0 < l.length → ∃ g o, A = some ⟨g, o, none⟩ ∧ g < w.heap.size ∧ ∀ j x, l[j]? = some x → w.cell? ⟨g, o + j, none⟩ = some (.int .i64 x))
theorem Ints.keep {w w' : World} {S : Nat → Prop} {A : Option Addr} {l : List Int} (h : Ints w A l) (f : Fr S w w') (hs : ∀ g o, A = some ⟨g, o, none⟩ → ¬ S g) : Ints w' A l := ⟨h.1, fun h0 => by
  obtain ⟨g, o, e, h1, h2⟩ := h.2 h0
  exact ⟨g, o, e, Nat.lt_of_lt_of_le h1 f.size, fun j x hj => (World.cell?_of_block (f.old g h1 (hs g o e))).trans (h2 j x hj)⟩⟩
theorem Ints.at_ {w : World} {A : Option Addr} {l : List Int} (h : Ints w A l) {k : Nat} (hk : k < l.length) : ∃ g o, A = some ⟨g, o, none⟩ ∧ w.cell? ⟨g, o + k, none⟩ = some (.int .i64 l[k]) := by
  obtain ⟨g, o, e, _, h2⟩ := h.2 (by omega)
  exact ⟨g, o, e, h2 k _ (List.getElem?_eq_getElem hk)⟩

namespace Pr
def memI (l : List Int) (j : Nat) : Bool := decide ((j : Int) ∈ l)
theorem cnt_mem (N : Nat) : ∀ l : List Int, (∀ x ∈ l, 0 ≤ x ∧ x < (N : Int)) → cnt N (memI l) ≤ l.length ∧ (cnt N (memI l) = l.length ↔ l.Nodup)
  | [], _ => by
    have : cnt N (memI []) = 0 := cnt_none fun j _ => rfl
    rw [this]; simp
  | x :: l, h => by
    obtain ⟨i1, i2⟩ := cnt_mem N l (fun y hy => h y (by simp [hy]))
    obtain ⟨x0, xN⟩ := h x (by simp)
    obtain ⟨k, rfl⟩ : ∃ k : Nat, x = (k : Int) := ⟨x.toNat, by omega⟩
    rw [List.length_cons, List.nodup_cons]
    by_cases hx : (k : Int) ∈ l
    · have : cnt N (memI ((k : Int) :: l)) = cnt N (memI l) := cnt_congr fun j _ => by
        unfold memI
        by_cases hj : (j : Int) ∈ l
        · simp [hj]
        · have : (j : Int) ≠ (k : Int) := fun e => hj (by rw [e]; exact hx)
          simp [hj]; omega
      rw [this]
      exact ⟨by omega, ⟨fun e => by omega, fun e => absurd hx e.1⟩⟩
    · have : cnt N (memI ((k : Int) :: l)) = cnt N (memI l) + 1 := cnt_set (i := k) (by omega) (by unfold memI; simp [hx]) (by unfold memI; simp) fun j hj => by
        unfold memI
        have : (j : Int) ≠ (k : Int) := by omega
        simp [this]
      rw [this]
      exact ⟨by omega, by rw [← i2]; constructor
                          · exact fun e => ⟨hx, by omega⟩
                          · exact fun e => by omega⟩
/-- the pages l are used, the others free -/
def usedL (N : Nat) (l : List Int) : List Nat := (List.range N).map fun j => if memI l j then 1 else 0
def usePt (p : Pt) (l : List Int) : Pt := ⟨usedL p.l.length l, p.seq, p.root⟩
theorem usedL_len (N : Nat) (l : List Int) : (usedL N l).length = N := by simp [usedL]
theorem usedL_at (q : Nat → Bool) (h0 : q 0 = false) (N : Nat) (l : List Int) (j : Nat) : stp q (usedL N l) j = (decide (j < N) && memI l j && q 1) := by
  unfold stp usedL
  rw [List.getElem?_map]
  by_cases hj : j < N
  · rw [List.getElem?_range hj, decide_eq_true hj]
    simp only [Option.map_some]
    cases memI l j <;> simp [h0]
  · rw [List.getElem?_eq_none (by simpa using hj), decide_eq_false hj]
    rfl
theorem usePt_ok {p : Pt} (h : p.Ok) {l : List Int} (hl : ∀ x ∈ l, 2 ≤ x ∧ x < (p.l.length : Int)) : (usePt p l).Ok :=
  ⟨by show 3 ≤ (usedL _ _).length; rw [usedL_len]; exact h.some_, by show (usedL _ _).length ≤ _; rw [usedL_len]; exact h.most, fun i hi => by
    show (usedL _ _)[i]? = _
    have h3 := h.some_
    rw [usedL, List.getElem?_map, List.getElem?_range (by omega)]
    have : memI l i = false := decide_eq_false fun e => by have := (hl _ e).1; omega
    simp [this], fun s hs => by
    simp only [usePt, usedL, List.mem_map] at hs
    obtain ⟨j, _, rfl⟩ := hs
    split <;> omega, h.seq, by show _ ∨ _ ∧ _ < (usedL _ _).length; rw [usedL_len]; exact h.root⟩
end Pr
set_option maxHeartbeats 1600000 in
theorem puse_state (w : World) (S Sd R : Nat → Prop) (b db U T B D low : Nat) (p : Pr.Pt) (d : Dk.St) (h : Over w S Sd R b db U T B D low p d) (hdead : d.dead = false) (v : Value) (hs : 0 < cnt p.l.length (Pr.stp Pr.isT p.l) ∨ 0 < cnt p.l.length (Pr.stp Pr.isD p.l)) :
    Calls Try.prog 21 #[.pointer (some ⟨b, 0, none⟩), v] w fun e w' => e = .returned (.int .i64 250) ∧ w = w' := by
  have HR := Lib.hid (h.refuse hdead)
  obtain ⟨nt, DT, hot, _, hdt⟩ := h.lies.taken
  obtain ⟨nd, DD, hod, _, hdd⟩ := h.lies.dropped
  have c4 := h.lies.cells.c4
  have c6 := h.lies.cells.c6
  have HOT := Lib.hid hot
  have HOD := Lib.hid hod
  rw [← hdt.size, ← hdd.size] at hs
  clear h hot hod hdt hdd
  have hlt : ∀ ty, (Builtin.len_ #[81] ty #[.map (some T)]).run Try.prog w = .ok (.int .i64 (Maps.size DT)) w := fun ty => World.ownsMap.len HOT.out und_pages ty
  have hld : ∀ ty, (Builtin.len_ #[81] ty #[.map (some D)]).run Try.prog w = .ok (.int .i64 (Maps.size DD)) w := fun ty => World.ownsMap.len HOD.out und_pages ty
  by_cases ht : 0 < Maps.size DT
  · have ht' : (0 : Int) < (Maps.size DT : Int) := by omega
    clear hs ht
    go_enter Try.func21, Try.ntmps21
    go_wp2_with fail
    refine HR.out.mono ?_
    rintro e w' ⟨rfl, rfl⟩
    go_wp2_with fail
    go_ret
    exact ⟨rfl, rfl⟩
  · have ht0 : (Maps.size DT : Int) = 0 := by omega
    have hd' : (0 : Int) < (Maps.size DD : Int) := by omega
    clear hs ht
    go_enter Try.func21, Try.ntmps21
    go_wp2_with fail
    refine HR.out.mono ?_
    rintro e w' ⟨rfl, rfl⟩
    go_wp2_with fail
    go_ret
    exact ⟨rfl, rfl⟩
/-- the loop of Use -/
structure Usd (w : World) (M N : Nat) (l : List Int) (k : Nat) (wr : World) : Prop where
  set : SetAt wr M N (Pr.memI (l.take k))
  all : ∀ x ∈ l.take k, 2 ≤ x ∧ x < (N : Int)
  fr : Fr (oneB M) w wr
/-- what Use answers, where nothing is taken or dropped -/
def UsePost (w : World) (S R : Nat → Prop) (b db T B D : Nat) (p : Pr.Pt) (d : Dk.St) (l : List Int) (e : Ending) (w' : World) : Prop :=
  (¬ (∀ x ∈ l, 2 ≤ x ∧ x < (p.l.length : Int)) ∧ e = .returned (.int .i64 1) ∧ Below w.heap.size w w') ∨
  ((∀ x ∈ l, 2 ≤ x ∧ x < (p.l.length : Int)) ∧ ¬ l.Nodup ∧ e = .returned (.int .i64 6) ∧ Below w.heap.size w w') ∨
  ((∀ x ∈ l, 2 ≤ x ∧ x < (p.l.length : Int)) ∧ l.Nodup ∧ e = .returned (.int .i64 0) ∧ PGoes w S R b db w.heap.size T B D 2 (Pr.usePt p l) d w')
set_option maxHeartbeats 1600000 in
theorem puse_any (w : World) (S Sd R : Nat → Prop) (b db U T B D low : Nat) (p : Pr.Pt) (d : Dk.St) (h : Over w S Sd R b db U T B D low p d) (hdead : d.dead = false) (hT : cnt p.l.length (Pr.stp Pr.isT p.l) = 0) (hD : cnt p.l.length (Pr.stp Pr.isD p.l) = 0)
    (A : Option Addr) (l : List Int) (c : Nat) (hl : Ints w A l) :
    Calls Try.prog 21 #[.pointer (some ⟨b, 0, none⟩), .slice A l.length c] w (UsePost w S R b db T B D p d l) := by
  have HR := Lib.hid (h.refuse hdead)
  obtain ⟨nt, DT, hot, _, hdt⟩ := h.lies.taken
  obtain ⟨nd, DD, hod, _, hdd⟩ := h.lies.dropped
  have c4 := h.lies.cells.c4
  have c6 := h.lies.cells.c6
  have hst := hdt.size
  have hsd := hdd.size
  rw [hT] at hst
  rw [hD] at hsd
  have hlt : ∀ ty, (Builtin.len_ #[81] ty #[.map (some T)]).run Try.prog w = .ok (.int .i64 0) w := fun ty => by have := World.ownsMap.len hot und_pages ty; rw [hst] at this; exact this
  have hld : ∀ ty, (Builtin.len_ #[81] ty #[.map (some D)]).run Try.prog w = .ok (.int .i64 0) w := fun ty => by have := World.ownsMap.len hod und_pages ty; rw [hsd] at this; exact this
  have hmm := run_makeMap (P := Try.prog) 81 w
  have hmost := h.lies.ok.most
  have H := Lib.hid h
  have HL := Lib.hid hl
  have HT := Lib.hid hT
  have HD := Lib.hid hD
  have hlb := hl.1
  have hm0 : SetAt (w.alloc (.map #[] 0)) w.heap.size p.l.length (fun _ => false) := SetAt.made w _
  have hu0 : Usd (w.alloc (.map #[] 0)) w.heap.size p.l.length l 0 (w.alloc (.map #[] 0)) := ⟨hm0.congr fun j => by unfold Pr.memI; simp, fun x hx => by simp at hx, Fr.refl _ _⟩
  have hbl : Below w.heap.size w (w.alloc (.map #[] 0)) := (Below.refl _ _).alloc (Nat.le_refl _) _
  have HU0 := Lib.hid hu0
  have HB := Lib.hid hbl
  clear h hl hot hod hdt hdd hst hsd hT hD hm0 hu0 hbl
  go_enter Try.func21, Try.ntmps21
  go_wp2_with fail
  refine HR.out.mono ?_
  rintro e w' ⟨rfl, rfl⟩
  go_wp2_with fail
  clear hlt hld hmm c4 c6
  generalize hW : w.alloc (.map #[] 0) = W at *
  have HWW := Lib.hid hW
  clear hW
  go_loopw [31] (fun i wr => ∃ k : Nat, k ≤ l.length ∧ i = .int .i64 k ∧ Usd W w.heap.size p.l.length l k wr) (fun i _ => l.length - (intOf i).toNat)
  case atStart => exact ⟨0, by omega, rfl, HU0.out⟩
  case round =>
    rename World => wr
    obtain ⟨k, hk, rfl, hrel⟩ := hrel
    have HR := Lib.hid hrel
    have hbw : Below w.heap.size w wr := HB.out.trans (hrel.fr.below HB.out.size (fun j e => by have e : j = w.heap.size := e; omega))
    have hov := H.out.below hbw
    have HBW := Lib.hid hbw
    have HOV := Lib.hid hov
    clear hrel hbw hov
    by_cases hlt : k < l.length
    · obtain ⟨g, o, rfl, hcell⟩ := (HL.out.keep (Fr.of_below HBW.out noB) (fun _ _ _ e => e)).at_ hlt
      have hlt' : (k : Int) < (l.length : Int) := by omega
      by_cases hin : 2 ≤ l[k] ∧ l[k] < (p.l.length : Int)
      · have HH := HOV.out.has l[k] true (decide_eq_true hin)
        obtain ⟨m, hm⟩ : ∃ m : Nat, l[k] = (m : Int) := ⟨l[k].toNat, by omega⟩
        have hadd := padd_any wr w.heap.size p.l.length _ HR.out.set m (by omega) (by omega)
        rw [hm] at HH hcell hin
        have htk : l.take (k + 1) = l.take k ++ [(m : Int)] := by rw [List.take_succ_eq_append_getElem hlt, hm]
        have HTK := Lib.hid htk
        have HHH := Lib.hid HH
        have HA := Lib.hid hadd
        clear HH hadd htk hm
        go_wp2_with fail
        refine HHH.out.mono ?_
        rintro e w' ⟨rfl, rfl⟩
        go_wp2_with fail
        refine HA.out.mono ?_
        rintro e w5 ⟨rfl, hs5, hf5⟩
        have hnx : Usd W w.heap.size p.l.length l (k + 1) w5 := by
          refine ⟨hs5.congr fun j => ?_, fun x hx => ?_, HR.out.fr.trans hf5 (fun _ _ e => e)⟩
          · rw [HTK.out]
            unfold Pr.memI
            have e1 : ((j : Int) = (m : Int)) ↔ j = m := by omega
            rw [Bool.eq_iff_iff]
            simp [e1, or_comm]
          · rw [HTK.out] at hx
            rcases List.mem_append.1 hx with e | e
            · exact HR.out.all x e
            · rw [List.mem_singleton] at e
              subst e
              exact hin
        have HNX := Lib.hid hnx
        clear hnx hs5 hf5 HA HHH hcell
        go_wp2_with fail
        go_roundw
        case rel => exact ⟨k + 1, by omega, rfl, HNX.out⟩
        case measure => simp [intOf]; omega
      · have HH := Lib.hid (HOV.out.has l[k] false (decide_eq_false hin))
        have hno : ¬ (∀ x ∈ l, 2 ≤ x ∧ x < (p.l.length : Int)) := fun e => hin (e _ (List.getElem_mem hlt))
        have HNO := Lib.hid hno
        clear hno hin
        generalize l[k] = x at *
        go_wp2_with fail
        refine HH.out.mono ?_
        rintro e w' ⟨rfl, rfl⟩
        go_wp2_with fail
        go_ret
        exact .inl ⟨HNO.out, rfl, HBW.out⟩
    · have hkl : k = l.length := by omega
      subst hkl
      have hall : ∀ x ∈ l, 2 ≤ x ∧ x < (p.l.length : Int) := fun x hx => HR.out.all x (by rwa [List.take_length])
      obtain ⟨nu, DU, hou, _, hdu⟩ := HR.out.set
      rw [List.take_length] at hdu
      obtain ⟨k1, k2⟩ := Pr.cnt_mem p.l.length l (fun x hx => by have := hall x hx; omega)
      have hsz := hdu.size
      have hlu : ∀ ty, (Builtin.len_ #[81] ty #[.map (some w.heap.size)]).run Try.prog wr = .ok (.int .i64 (Maps.size DU)) wr := fun ty => World.ownsMap.len hou und_pages ty
      have HALL := Lib.hid hall
      by_cases hnd : l.Nodup
      · have heq : (Maps.size DU : Int) = (l.length : Int) := by rw [hsz, k2.2 hnd]
        have hnl : ((Maps.size DU : Int) < (l.length : Int)) = False := by rw [heq]; simp
        have HND := Lib.hid hnd
        have hbx := HOV.out.lies.box
        have c3 : wr.cell? ⟨b, 3, none⟩ = some (.map (some U)) := hbx.cell 3
        have c7 : wr.cell? ⟨b, 7, none⟩ = some (.int .i64 (low : Int)) := hbx.cell 7
        have z3 := hbx.free 3
        have z7 := hbx.free 7
        have hset := HR.out.set
        rw [List.take_length] at hset
        have HSET := Lib.hid hset
        have HBX := Lib.hid hbx
        clear hall hou hdu k1 k2 hsz hnd hbx hset hnl
        rw [heq] at hlu
        clear heq
        go_wp2_with fail
        go_ret
        have hov := HOV.out
        obtain ⟨n1, n2, n3, n4⟩ := hov.lies.bne
        obtain ⟨m1, m2, m3⟩ := hov.lies.ne
        have hb0 := H.out.lies.lt b (.inl rfl)
        have hT0 := H.out.lies.lt T (.inr (.inr (.inl rfl)))
        have hB0 := H.out.lies.lt B (.inr (.inr (.inr (.inl rfl))))
        have hD0 := H.out.lies.lt D (.inr (.inr (.inr (.inr rfl))))
        have fb : Fr (oneB b) wr ((wr.setCell ⟨b, 3, none⟩ (.map (some w.heap.size))).setCell ⟨b, 7, none⟩ (.int .i64 2)) := ((Fr.refl _ _).put _).put _
        have hul : (Pr.usePt p l).l.length = p.l.length := Pr.usedL_len _ _
        have hq : ∀ q : Nat → Bool, q 0 = false → ∀ j, Pr.stp q (Pr.usePt p l).l j = (decide (j < p.l.length) && Pr.memI l j && q 1) := fun q h0 j => Pr.usedL_at q h0 _ _ j
        have hzT : ∀ j, Pr.stp Pr.isT p.l j = false := fun j => by
          cases hh : Pr.stp Pr.isT p.l j
          · rfl
          · have := cnt_zero HT.out j (Pr.stp_lt hh); rw [hh] at this; cases this
        have hzD : ∀ j, Pr.stp Pr.isD p.l j = false := fun j => by
          cases hh : Pr.stp Pr.isD p.l j
          · rfl
          · have := cnt_zero HD.out j (Pr.stp_lt hh); rw [hh] at this; cases this
        have hzB : ∀ j, Pr.stp Pr.isB p.l j = false := fun j => by
          have := hzT j
          unfold Pr.stp at *
          cases hx : p.l[j]? with
          | none => rfl
          | some x => rw [hx] at this; simp [Pr.isT] at this; simp [Pr.isB, this.1]
        refine .inr (.inr ⟨HALL.out, HND.out, rfl, fun k => Sd k ∨ pS b w.heap.size T B D k, Sd, ⟨⟨Pr.usePt_ok hov.lies.ok HALL.out, (HBX.out.set 3 _).set 7 _, ?_, ?_, ?_, ?_, ⟨⟨by omega, by omega, by omega⟩, m2, m3⟩, by omega, by rw [hul]; have := hov.lies.ok.some_; omega, fun i _ _ => by omega⟩, hov.disk.keep fb (fun k hk => ?_), fun _ => Iff.rfl, fun k hk => ?_, by rw [hul]; exact hov.len⟩, ?_, fun k hk => ?_⟩)
        · rw [hul]
          refine (HSET.out.keep fb (fun e => by have e : w.heap.size = b := e; omega)).congr fun j => ?_
          rw [hq _ rfl]
          cases hh : Pr.memI l j
          · simp
          · have := HALL.out _ (of_decide_eq_true hh)
            rw [decide_eq_true (by omega)]; rfl
        · rw [hul]
          exact (hov.lies.taken.keep fb (fun e => n2 (Eq.symm e))).congr fun j => by rw [hzT, hq _ rfl]; exact (Bool.and_false _).symm
        · rw [hul]
          exact (hov.lies.blank.keep fb (fun e => n3 (Eq.symm e))).congr fun j => by rw [hzB, hq _ rfl]; exact (Bool.and_false _).symm
        · rw [hul]
          exact (hov.lies.dropped.keep fb (fun e => n4 (Eq.symm e))).congr fun j => by rw [hzD, hq _ rfl]; exact (Bool.and_false _).symm
        · have hk : k = b := hk
          subst hk
          exact hov.apart k (.inl rfl)
        · rcases hk with rfl | rfl | e
          · exact hov.apart k (.inl rfl)
          · exact ⟨fun e => by have := H.out.disk.lt _ e; omega, fun e => by have := (H.out.disk.rlow _ e).1; omega⟩
          · exact hov.apart k (.inr (.inr e))
        · exact (Fr.of_below HBW.out S).trans (fb.wide (fun x _ e => by
            have e : x = b := e
            subst e
            exact (hov.own x).2 (.inr (.inl rfl)))) (fun _ _ e => e)
        · rcases hk with e | e
          · exact .inl ((hov.own k).2 (.inl e))
          · rcases e with rfl | rfl | e
            · exact .inl ((hov.own k).2 (.inr (.inl rfl)))
            · exact .inr (Nat.le_refl _)
            · exact .inl ((hov.own k).2 (.inr (.inr (.inr e))))
      · have hlt2 : (Maps.size DU : Int) < (l.length : Int) := by
          have : cnt p.l.length (Pr.memI l) ≠ l.length := fun e => hnd (k2.1 e)
          omega
        have HND := Lib.hid hnd
        clear hall hou hdu k1 k2 hsz hnd
        go_wp2_with fail
        go_ret
        exact .inr (.inl ⟨HALL.out, HND.out, rfl, HBW.out⟩)
end Go.Proofs.Ythlmjnlakenmoaa

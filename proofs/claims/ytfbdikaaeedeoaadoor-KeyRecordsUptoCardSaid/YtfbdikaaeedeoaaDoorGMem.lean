/-
  Memory as the page's proofs speak of it: a block known whole, what stays when others are written, bytes that are read, pages by value.
-/
import Derived.Test.YtfbdikaaeedeoaaDoorMem
import Derived.Test.YtfbdikaaeedeoaaDoorGMath
import Derived.WalkKit
import Derived.WalkSpells
import Derived.WalkLawsBesides
import Derived.Lib.Hide
import Derived.Deep.WholeRow
import Derived.Deep.MidRow
import Derived.Laws.CopyOwn
import Derived.Laws.MakeOwn
import Derived.Laws.BytesArg
import Derived.Laws.Bits64
import Derived.Laws.BitsAllLaws
namespace Go.Proofs.YtfbdikaaeedeoaaDoor
open Go.RowKit
set_option maxRecDepth 100000


/-! ### bytes -/
theorem und_u8 : Tryd.prog.underlying 5 = some (.int .u8) := by kernel_rfl
theorem und_str : Tryd.prog.underlying 9 = some .string := by kernel_rfl
theorem siz_u8 : (Tryd.prog.info? 5).map (·.size) = some 1 := by kernel_rfl
theorem inf_u8 : (Tryd.prog.info? 5).map (fun i => (i.zero, i.size, i.bytes)) = some (some (.int .u8 0), 1, 1) := by kernel_rfl
/-- a byte as a value, bytes as cells -/
def byt (c : UInt8) : Value := .int .u8 (c.toNat : Int)
def bytCells (l : List UInt8) : List Value := l.map byt
theorem bytCells_len (l : List UInt8) : (bytCells l).length = l.length := List.length_map _
theorem bytCells_append (a b : List UInt8) : bytCells (a ++ b) = bytCells a ++ bytCells b := List.map_append
theorem bytCells_one (l : List UInt8) : ∀ v ∈ bytCells l, v.oneCell' = true := fun v hv => by
  obtain ⟨c, _, rfl⟩ := List.mem_map.1 hv; rfl
theorem bytCells_get (l : List UInt8) (j : Nat) : (bytCells l)[j]? = l[j]?.map byt := List.getElem?_map
theorem byt_inj {a b : UInt8} (h : byt a = byt b) : a = b := by
  unfold byt at h
  injection h with _ h
  exact UInt8.toNat_inj.1 (by omega)
theorem bytCells_inj {a b : List UInt8} (h : bytCells a = bytCells b) : a = b := by
  induction a generalizing b with
  | nil => cases b with
    | nil => rfl
    | cons y b => cases h
  | cons x a ih => cases b with
    | nil => cases h
    | cons y b =>
      have h : byt x :: bytCells a = byt y :: bytCells b := h
      injection h with h1 h2
      rw [byt_inj h1, ih h2]

/-- the slice at A (of l's length) reads l, and lies below block B -/
def Rd (w : World) (B : Nat) (A : Option Addr) (l : List UInt8) : Prop :=
  l.length ≤ 140737488355328 ∧ (0 < l.length → ∃ g o, A = some ⟨g, o, none⟩ ∧ g < B ∧ ∀ j u, (bytCells l)[j]? = some u → w.cell? ⟨g, o + j, none⟩ = some u)
theorem Rd.nil (w : World) (B : Nat) (A : Option Addr) : Rd w B A [] := ⟨by simp, fun h => by simp at h⟩
theorem Rd.more {w : World} {B B' : Nat} {A : Option Addr} {l : List UInt8} (h : Rd w B A l) (hb : B ≤ B') : Rd w B' A l := ⟨h.1, fun h0 => by
  obtain ⟨g, o, e, h1, h2⟩ := h.2 h0
  exact ⟨g, o, e, by omega, h2⟩⟩
theorem Rd.keep {w w' : World} {B : Nat} {A : Option Addr} {l : List UInt8} (h : Rd w B A l) (hk : ∀ k, k < B → w'.heap[k]? = w.heap[k]?) : Rd w' B A l := ⟨h.1, fun h0 => by
  obtain ⟨g, o, e, h1, h2⟩ := h.2 h0
  exact ⟨g, o, e, h1, fun j u hj => (World.cell?_of_block (hk g h1)).trans (h2 j u hj)⟩⟩
theorem Rd.below {w w' : World} {B : Nat} {A : Option Addr} {l : List UInt8} (h : Rd w B A l) (hb : Below B w w') : Rd w' B A l := h.keep hb.block
theorem Rd.of_has {w : World} {g : Nat} {t : TypeId} {cs : Array Value} (h : Has w g t cs) {o : Nat} {l : List UInt8} (hl : (cs.toList.drop o).take l.length = bytCells l) (hm : l.length ≤ 140737488355328) : Rd w w.heap.size (some ⟨g, o, none⟩) l :=
  ⟨hm, fun _ => ⟨g, o, rfl, h.lt, fun j u hj => by rw [← hl] at hj; exact range_of_has h j u hj⟩⟩
theorem Rd.at_ {w : World} {B : Nat} {A : Option Addr} {l : List UInt8} (h : Rd w B A l) {k : Nat} (hk : k < l.length) : ∃ g o, A = some ⟨g, o, none⟩ ∧ g < B ∧ w.cell? ⟨g, o + k, none⟩ = some (byt l[k]) := by
  obtain ⟨g, o, e, h1, h2⟩ := h.2 (by omega)
  exact ⟨g, o, e, h1, h2 k _ (by rw [bytCells_get, List.getElem?_eq_getElem hk]; rfl)⟩
/-! ### pages by value -/
def zeros512 : List UInt8 := List.replicate 512 0
theorem zeros_len : zeros512.length = 512 := List.length_replicate
def zero512 : Array Value := (bytCells zeros512).toArray
theorem zero512_size : zero512.size = 512 := by rw [zero512, List.size_toArray, bytCells_len, zeros_len]
/-- bytes are laid over a list -/
def lay (L : List UInt8) (o : Nat) (x : List UInt8) : List UInt8 := L.take o ++ x ++ L.drop (o + x.length)
theorem lay_length (L : List UInt8) (o : Nat) (x : List UInt8) (h : o + x.length ≤ L.length) : (lay L o x).length = L.length := by simp [lay]; omega
/-- a string of bytes -/
def bstr (l : List UInt8) : Value := .string ⟨l.toArray⟩
end Go.Proofs.YtfbdikaaeedeoaaDoor

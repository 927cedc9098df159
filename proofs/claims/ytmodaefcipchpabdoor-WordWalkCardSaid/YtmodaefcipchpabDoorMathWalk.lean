/-
  Plain mathematics: a character that begins in a text is written as it stands there.
-/
import Derived.Test.YtmodaefcipchpabDoorMathUtf
namespace Go.Proofs.YtmodaefcipchpabDoor.Sp

theorem dec_bytes {s : ByteArray} {j : Nat} {c : Int} {n : Nat} (h : dec s j = some (c, n)) : charOk c = true ∧ charBytes c = (s.extract j (j + n)).toList := by
  rcases dec_some h with ⟨rfl, k, rfl⟩ | ⟨rfl, k, rfl⟩ | ⟨rfl, k, rfl⟩ | ⟨rfl, k, rfl⟩
  · obtain ⟨hr, h1⟩ := k
    have g0 := bt_get s j (by omega)
    have hz : sizeOf (bt s j : Int) = 1 := size_1 (by omega) (by omega)
    refine ⟨(bytes_1 hz).2, ?_⟩
    rw [(bytes_1 hz).1, ext_1 s j hr, (u8_eq (bt s j : Int) s[j] (by omega) (by omega)).2 (by omega)]
  · obtain ⟨hr, h0, h1, k1, hz⟩ := k
    have g0 := bt_get s j (by omega)
    have g1 := bt_get s (j + 1) (by omega)
    have hb := size_2_iff hz
    unfold cont at k1
    refine ⟨(bytes_2 hz).2, ?_⟩
    rw [(bytes_2 hz).1, ext_2 s j hr]
    unfold c2 at hb ⊢
    rw [(u8_eq _ s[j] (by omega) (by omega)).2 (by omega), (u8_eq _ s[j + 1] (by omega) (by omega)).2 (by omega)]
  · obtain ⟨hr, h0, h1, k1, k2, hz⟩ := k
    have g0 := bt_get s j (by omega)
    have g1 := bt_get s (j + 1) (by omega)
    have g2 := bt_get s (j + 2) (by omega)
    have hb := size_3_iff hz
    unfold cont at k1 k2
    refine ⟨(bytes_3 hz).2, ?_⟩
    rw [(bytes_3 hz).1, ext_3 s j hr]
    unfold c3 at hb ⊢
    rw [(u8_eq _ s[j] (by omega) (by omega)).2 (by omega), (u8_eq _ s[j + 1] (by omega) (by omega)).2 (by omega), (u8_eq _ s[j + 2] (by omega) (by omega)).2 (by omega)]
  · obtain ⟨hr, h0, h1, k1, k2, k3, hz⟩ := k
    have g0 := bt_get s j (by omega)
    have g1 := bt_get s (j + 1) (by omega)
    have g2 := bt_get s (j + 2) (by omega)
    have g3 := bt_get s (j + 3) (by omega)
    have hb := size_4_iff hz
    unfold cont at k1 k2 k3
    refine ⟨(bytes_4 hz).2, ?_⟩
    rw [(bytes_4 hz).1, ext_4 s j hr]
    unfold c4 at hb ⊢
    rw [(u8_eq _ s[j] (by omega) (by omega)).2 (by omega), (u8_eq _ s[j + 1] (by omega) (by omega)).2 (by omega), (u8_eq _ s[j + 2] (by omega) (by omega)).2 (by omega), (u8_eq _ s[j + 3] (by omega) (by omega)).2 (by omega)]

theorem from_zero (s : ByteArray) : utf8 s = utf8From s s.size 0 := rfl
end Go.Proofs.YtmodaefcipchpabDoor.Sp

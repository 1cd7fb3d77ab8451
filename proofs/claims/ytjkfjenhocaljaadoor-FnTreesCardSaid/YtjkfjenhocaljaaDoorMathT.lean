/-
  Plain facts on lists of bytes for Turned.
-/
import Derived.Test.YtjkfjenhocaljaaDoorMath1
namespace Go.Proofs.YtjkfjenhocaljaaDoor

theorem ret_str2 {a b : ByteArray} (h : a = b) : Ending.returned (.string a) = .returned (.string b) := by rw [h]

theorem ba_ext {a b : ByteArray} (h : a.data.toList = b.data.toList) : a = b := by
  cases a; cases b; simp_all

theorem turned_cat (s : ByteArray) (a t : Int) (h0 : 0 ≤ a) (h1 : a < s.size) (h2 : 0 ≤ t) (h3 : t ≤ 255) :
    s.extract 0 a.toNat ++ ⟨#[UInt8.ofNat t.toNat]⟩ ++ s.extract (a + 1).toNat s.size = ⟨(turnedL s.data.toList a t).toArray⟩ := by
  have hl : s.data.toList.length = s.size := by simp
  rw [turnedL_yes _ _ _ h0 (by rw [hl]; exact h1) h2 h3]
  obtain ⟨k, rfl⟩ := Int.eq_ofNat_of_zero_le h0
  apply ba_ext
  have e : ((k : Int) + 1).toNat = k + 1 := by omega
  rw [e]
  simp only [ByteArray.data_append, ByteArray.data_extract, Array.toList_append, Array.toList_extract, Int.toNat_natCast, List.extract_eq_take_drop, List.drop_zero, Nat.sub_zero]
  rw [List.set_eq_take_append_cons_drop, if_pos (by rw [hl]; omega), List.take_of_length_le (l := List.drop (k + 1) s.data.toList) (by simp)]
  simp

end Go.Proofs.YtjkfjenhocaljaaDoor

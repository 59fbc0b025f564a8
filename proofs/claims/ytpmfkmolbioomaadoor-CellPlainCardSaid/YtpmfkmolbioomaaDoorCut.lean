/- Characters of a text as places: the widths that a range over a string goes by. Plain: no program. -/
import Derived.Lib.Strings
namespace Go.Proofs.YtpmfkmolbioomaaDoor
open Go.Lib

/-! ### Parts of a text -/
theorem bytes_ext {t u : ByteArray} (h : t.data.toList = u.data.toList) : t = u := by
  apply ByteArray.ext
  exact Array.toList_inj.1 h

theorem part_part (s : ByteArray) (a b c d : Nat) (hd : a + d ≤ b) : (s.extract a b).extract c d = s.extract (a + c) (a + d) := by
  apply bytes_ext
  rw [extract_data, extract_data, extract_data, List.drop_take, List.take_take, List.drop_drop]
  congr 1
  omega

theorem part_join (s : ByteArray) (a b c : Nat) (h1 : a ≤ b) (h2 : b ≤ c) : s.extract a b ++ s.extract b c = s.extract a c := by
  apply bytes_ext
  rw [ByteArray.data_append, Array.toList_append, extract_data, extract_data, extract_data]
  have e : c - a = (b - a) + (c - b) := by omega
  rw [e, List.take_add, List.drop_drop, show a + (b - a) = b from by omega]

theorem part_none (s : ByteArray) (a b : Nat) (h : b ≤ a) : s.extract a b = ⟨#[]⟩ := by
  apply bytes_ext
  rw [extract_data, show b - a = 0 from by omega]
  simp

theorem part_all (s : ByteArray) : s.extract 0 s.size = s := by
  apply bytes_ext
  rw [extract_data, List.drop_zero, Nat.sub_zero, size_eq]
  exact List.take_length

theorem part_size (s : ByteArray) (a b : Nat) (h : b ≤ s.size) : (s.extract a b).size = b - a := by
  rw [ByteArray.size_extract]; omega

end Go.Proofs.YtpmfkmolbioomaaDoor

/- Texts as lists of bytes. -/
import Derived.Test.YtecjhkpldcmlaaaDoorGB
import Derived.Laws.Concat
import Derived.Laws.BytesString
namespace Go.Proofs.YtecjhkpldcmlaaaDoor
open Go.RowKit Go.Shelf
set_option linter.unusedVariables false
theorem bytes_len (s : ByteArray) : s.toList.length = s.size := by rw [ByteArray.toList_eq]; cases s; rfl
theorem bytes_drop (s : ByteArray) (i : Nat) (hi : i < s.size) : s.toList.drop i = s[i] :: s.toList.drop (i + 1) := by
  have h : i < s.toList.length := by rw [bytes_len]; exact hi
  rw [List.drop_eq_getElem_cons h]
  congr 1
  simp only [ByteArray.toList_eq]
  cases s
  rfl
theorem bytes_end (s : ByteArray) (i : Nat) (hi : s.size ≤ i) : s.toList.drop i = [] := List.drop_eq_nil_of_le (by rw [bytes_len]; exact hi)
/-- A list of bytes as a text. -/
def toB (l : List UInt8) : ByteArray := ⟨l.toArray⟩
theorem toB_list (l : List UInt8) : (toB l).toList = l := by rw [ByteArray.toList_eq]; rfl
theorem toB_size (l : List UInt8) : (toB l).size = l.length := by show l.toArray.size = _; simp
theorem toB_append (a b : List UInt8) : toB a ++ toB b = toB (a ++ b) := by
  apply ByteArray.ext
  rw [ByteArray.data_append]
  show a.toArray ++ b.toArray = (a ++ b).toArray
  simp
theorem toB_of (s : ByteArray) : toB s.toList = s := by
  apply ByteArray.ext
  rw [ByteArray.toList_eq]
  show s.data.toList.toArray = s.data
  simp
end Go.Proofs.YtecjhkpldcmlaaaDoor

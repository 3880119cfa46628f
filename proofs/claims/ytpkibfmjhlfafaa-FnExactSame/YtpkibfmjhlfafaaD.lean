/- NameOk and GreatOk, of the program and of the model. -/
import Derived.Test.YtpkibfmjhlfafaaC
namespace Go.Proofs.Ytpkibfmjhlfafaa
open Go.RowKit

def nameB (l : List UInt8) : Bool := shapeB 97 122 l && !isW l
def greatB (l : List UInt8) : Bool := shapeB 65 90 l

theorem lettersB_pos (s : ByteArray) (h : lettersB s.data.toList = true) : 0 < s.size := by
  unfold lettersB at h
  rw [Bool.and_eq_true, data_length] at h
  have := h.2
  unfold inB at this
  simp at this
  omega
theorem headD_byte (s : ByteArray) (h0 : 0 < s.size) : s.data.toList.headD 0 = s[0] := by
  rw [List.headD_eq_head?_getD, List.head?_eq_getElem?, List.getElem?_eq_getElem (by rw [data_length]; omega)]
  rfl

end Go.Proofs.Ytpkibfmjhlfafaa

/- The shape of a name: letters and digits, one to eight. -/
import Derived.Test.YtpkibfmjhlfafaaB
import Derived.Lib.Strings
namespace Go.Proofs.Ytpkibfmjhlfafaa
open Go.RowKit

def allLet (l : List UInt8) : Bool := l.all fun c => letB c.toNat
def lettersB (l : List UInt8) : Bool := allLet l && inB l.length 1 8
def shapeB (lo hi : Int) (l : List UInt8) : Bool := lettersB l && inB (l.headD 0).toNat lo hi

theorem take_snoc (s : ByteArray) (k : Nat) (h : k < s.size) : s.data.toList.take (k + 1) = s.data.toList.take k ++ [s[k]] := by
  rw [List.take_succ_eq_append_getElem (by simpa using h)]; rfl
theorem allLet_step (s : ByteArray) (k : Nat) (h : k < s.size) (h0 : allLet (s.data.toList.take k) = true) (h1 : letB (s[k].toNat : Int) = true) : allLet (s.data.toList.take (k + 1)) = true := by
  rw [take_snoc s k h]
  unfold allLet at *
  rw [List.all_append, h0]
  simp [h1]
theorem allLet_no (s : ByteArray) (k : Nat) (h : k < s.size) (h1 : letB (s[k].toNat : Int) = false) : allLet s.data.toList = false := by
  unfold allLet
  rw [List.all_eq_false]
  exact ⟨s[k], by rw [show s[k] = s.data.toList[k]'(by simpa using h) from rfl]; exact List.getElem_mem _, by simp [h1]⟩
theorem data_length (s : ByteArray) : s.data.toList.length = s.size := by rw [Array.length_toList]; rfl

theorem shapeB_size (lo hi : Int) (l : List UInt8) (h : inB l.length 1 8 = false) : shapeB lo hi l = false := by simp [shapeB, lettersB, h]
theorem shapeB_let (lo hi : Int) (l : List UInt8) (h : allLet l = false) : shapeB lo hi l = false := by simp [shapeB, lettersB, h]
theorem shapeB_first (lo hi : Int) (s : ByteArray) (h0 : 0 < s.size) (h : inB (s[0].toNat : Int) lo hi = false) : shapeB lo hi s.data.toList = false := by
  have e : s.data.toList.headD 0 = s[0] := by
    rw [List.headD_eq_head?_getD, List.head?_eq_getElem?, List.getElem?_eq_getElem (by rw [data_length]; omega)]
    rfl
  rw [shapeB, e, h, Bool.and_false]
theorem shapeB_yes (lo hi : Int) (s : ByteArray) (h0 : 0 < s.size) (h8 : s.size ≤ 8) (hl : allLet s.data.toList = true) (h : inB (s[0].toNat : Int) lo hi = true) : shapeB lo hi s.data.toList = true := by
  have e : s.data.toList.headD 0 = s[0] := by
    rw [List.headD_eq_head?_getD, List.head?_eq_getElem?, List.getElem?_eq_getElem (by rw [data_length]; omega)]
    rfl
  rw [shapeB, e, h, lettersB, hl, data_length, inB_tt (by omega) (by omega)]
  rfl

theorem toList_data (s : ByteArray) : s.toList = s.data.toList := ByteArray.toList_eq s

/-- The rune at a place, against the byte there. -/
theorem rune_facts (s : ByteArray) (pos : Nat) (h : pos < s.size) : ∃ r d : Nat, Utf8.decode s pos = (r, d) ∧ letB (r : Int) = letB (s[pos].toNat : Int) ∧ inB (r : Int) 97 122 = inB (s[pos].toNat : Int) 97 122 ∧ inB (r : Int) 65 90 = inB (s[pos].toNat : Int) 65 90 ∧ (letB (s[pos].toNat : Int) = true → d = 1) := by
  by_cases ha : (s[pos]'h).toNat < 128
  · exact ⟨(s[pos]'h).toNat, 1, decode_ascii s pos h ha, rfl, rfl, rfl, fun _ => rfl⟩
  · have hd := decode_high s pos h (by omega)
    refine ⟨(Utf8.decode s pos).1, (Utf8.decode s pos).2, rfl, ?_, ?_, ?_, ?_⟩
    · rw [letB, letB, inB_hi (by omega), inB_hi (by omega), inB_hi (by omega), inB_hi (by omega), inB_hi (by omega), inB_hi (by omega)]
    · rw [inB_hi (by omega), inB_hi (by omega)]
    · rw [inB_hi (by omega), inB_hi (by omega)]
    · rw [letB, inB_hi (by omega), inB_hi (by omega), inB_hi (by omega)]
      simp

theorem next_eq (wr : World) (k : Nat) (s : ByteArray) (pos r d : Nat) (ty : TypeId) (hk : wr.heap[k]? = some (.stringIter s pos)) (h : pos < s.size) (hd : Utf8.decode s pos = (r, d)) :
    (Instr.next (.pointer (some ⟨k, 0, none⟩)) true ty).run Try.prog wr = .ok (.tuple #[.bool true, .int .i64 pos, .int .i32 r]) (wr.iterAt k s (pos + d)) := by
  rw [Lib.run_next_any_at wr k s pos ty hk h, hd]

theorem iterPos_at (wr : World) (k : Nat) (s : ByteArray) (pos : Nat) (hk : wr.heap[k]? = some (.stringIter s pos)) : wr.iterPos k = pos := by
  simp [World.iterPos, hk]

end Go.Proofs.Ytpkibfmjhlfafaa

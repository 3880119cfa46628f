/- NameOk and GreatOk, of the program and of the model. -/
import Derived.Test.YtgoieaalmlajfaiC
namespace Go.Proofs.Ytgoieaalmlajfai
open Go.RowKit

def nameB (l : List UInt8) : Bool := shapeB 97 122 l && !isW l
def greatB (l : List UInt8) : Bool := shapeB 65 90 l

theorem implName_any (s : ByteArray) (w : World) (hs : s.size ≤ maxLen) :
    Calls Try.prog 102 #[.string s] w fun e w' => e = .returned (.bool (nameB s.data.toList)) ∧ Below w.heap.size w w' := by
  cases h : shapeB 97 122 s.data.toList
  · have H := hide h
    clear h
    go_enter Try.func102, Try.ntmps102
    go_wp2_with fail
    refine (shapeSmall_any _ _ hs).mono ?_
    rintro e w1 ⟨rfl, hb⟩
    rw [H.out]
    have HB := hide hb
    clear hb
    go_wp2
    go_ret
    exact ⟨ret_bool (by rw [nameB, H.out]; rfl), HB.out⟩
  · have H := hide h
    clear h
    go_enter Try.func102, Try.ntmps102
    go_wp2_with fail
    refine (shapeSmall_any _ _ hs).mono ?_
    rintro e w1 ⟨rfl, hb⟩
    rw [H.out]
    have HB := hide hb
    clear hb
    go_wp2_with fail
    refine (isWord_any _ _).mono ?_
    rintro e w2 ⟨rfl, rfl⟩
    go_wp2
    go_ret
    exact ⟨ret_bool (by rw [nameB, H.out, ← toList_data]; rfl), HB.out⟩

theorem implGreat_any (s : ByteArray) (w : World) (hs : s.size ≤ maxLen) :
    Calls Try.prog 103 #[.string s] w fun e w' => e = .returned (.bool (greatB s.data.toList)) ∧ Below w.heap.size w w' := by
  go_enter Try.func103, Try.ntmps103
  go_wp2_with fail
  refine (shapeLarge_any _ _ hs).mono ?_
  rintro e w1 ⟨rfl, hb⟩
  have HB := hide hb
  clear hb
  go_wp2
  go_ret
  exact ⟨rfl, HB.out⟩

theorem lettersB_pos (s : ByteArray) (h : lettersB s.data.toList = true) : 0 < s.size := by
  unfold lettersB at h
  rw [Bool.and_eq_true, data_length] at h
  have := h.2
  unfold inB at this
  simp at this
  omega
theorem headD_byte (s : ByteArray) (h0 : 0 < s.size) : s.data.toList.headD 0 = s[0] := by
  rw [List.headD_eq_head?_getD, List.head?_eq_getElem?, List.getElem?_eq_getElem (by rw [data_length]; omega)]
  rfl

theorem specGreat_any (s : ByteArray) (w : World) (hs : s.size ≤ maxLen) :
    Calls Try.prog 100 #[.string s] w fun e w' => e = .returned (.bool (greatB s.data.toList)) ∧ w' = w := by
  cases h : lettersB s.data.toList
  · have H := hide h
    clear h
    go_enter Try.func100, Try.ntmps100
    go_wp2_with fail
    refine (letters_any _ _ hs).mono ?_
    rintro e w1 ⟨rfl, rfl⟩
    rw [H.out]
    go_wp2
    go_ret
    exact ⟨ret_bool (by rw [greatB, shapeB, H.out]; rfl), rfl⟩
  · have h0 := lettersB_pos s h
    have H := hide h
    clear h
    go_enter Try.func100, Try.ntmps100
    go_wp2_with fail
    refine (letters_any _ _ hs).mono ?_
    rintro e w1 ⟨rfl, rfl⟩
    rw [H.out]
    go_wp2_with fail
    refine (large_any _ _).mono ?_
    rintro e w1 ⟨rfl, rfl⟩
    go_wp2
    go_ret
    exact ⟨ret_bool (by rw [greatB, shapeB, H.out, headD_byte s h0]; rfl), rfl⟩

theorem specName_any (s : ByteArray) (w : World) (hs : s.size ≤ maxLen) :
    Calls Try.prog 78 #[.string s] w fun e w' => e = .returned (.bool (nameB s.data.toList)) ∧ Below w.heap.size w w' := by
  cases h : lettersB s.data.toList
  · have H := hide h
    clear h
    go_enter Try.func78, Try.ntmps78
    go_wp2_with fail
    refine (letters_any _ _ hs).mono ?_
    rintro e w1 ⟨rfl, rfl⟩
    rw [H.out]
    go_wp2
    go_ret
    exact ⟨ret_bool (by rw [nameB, shapeB, H.out]; rfl), Below.refl _ _⟩
  · have h0 := lettersB_pos s h
    have H := hide h
    clear h
    cases h1 : inB (s[0].toNat : Int) 97 122
    · have H1 := hide h1
      clear h1
      go_enter Try.func78, Try.ntmps78
      go_wp2_with fail
      refine (letters_any _ _ hs).mono ?_
      rintro e w1 ⟨rfl, rfl⟩
      rw [H.out]
      go_wp2_with fail
      refine (small_any _ _).mono ?_
      rintro e w1 ⟨rfl, rfl⟩
      rw [H1.out]
      go_wp2
      go_ret
      exact ⟨ret_bool (by rw [nameB, shapeB, H.out, headD_byte s h0, H1.out]; rfl), Below.refl _ _⟩
    · have H1 := hide h1
      clear h1
      go_enter Try.func78, Try.ntmps78
      go_wp2_with fail
      refine (letters_any _ _ hs).mono ?_
      rintro e w1 ⟨rfl, rfl⟩
      rw [H.out]
      go_wp2_with fail
      refine (small_any _ _).mono ?_
      rintro e w1 ⟨rfl, rfl⟩
      rw [H1.out]
      go_wp2_with fail
      refine (isWord1_any _ _).mono ?_
      rintro e w1 ⟨rfl, hb⟩
      have HB := hide hb
      clear hb
      go_wp2
      go_ret
      exact ⟨ret_bool (by rw [nameB, shapeB, H.out, headD_byte s h0, H1.out, ← toList_data]; rfl), HB.out⟩
end Go.Proofs.Ytgoieaalmlajfai

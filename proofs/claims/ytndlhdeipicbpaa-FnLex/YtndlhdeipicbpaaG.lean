/- The kinds of a run of letters or digits, of the program and of the model. -/
import Derived.Test.YtndlhdeipicbpaaE
namespace Go.Proofs.Ytndlhdeipicbpaa
open Go.RowKit

theorem ret_nat {a b : Nat} (h : a = b) : Ending.returned (.int .i64 (a : Int)) = .returned (.int .i64 (b : Int)) := by rw [h]

theorem kindLetters_any (s : ByteArray) (w : World) (hs : s.size ≤ maxLen) :
    Calls Try.prog 45 #[.string s] w fun e w' => e = .returned (.int .i64 (kindL s.data.toList : Nat)) ∧ Below w.heap.size w w' := by
  cases h1 : isW s.data.toList
  · cases h2 : nameB s.data.toList
    · cases h3 : greatB s.data.toList
      · have H1 := hide h1
        have H2 := hide h2
        have H3 := hide h3
        have HK := hide (show kindL s.data.toList = 0 by simp [kindL, h1, h2, h3])
        clear h1 h2 h3
        go_enter Try.func45, Try.ntmps45
        go_wp2_with fail
        refine (isWord_any _ _).mono ?_
        rintro e w' ⟨rfl, rfl⟩
        rw [toList_data, H1.out]
        go_wp2_with fail
        refine (implName_any _ _ hs).mono ?_
        rintro e w1 ⟨rfl, hb1⟩
        rw [H2.out]
        have HB1 := hide hb1
        clear hb1
        go_wp2_with fail
        refine (implGreat_any _ _ hs).mono ?_
        rintro e w2 ⟨rfl, hb2⟩
        rw [H3.out]
        have HB2 := hide hb2
        clear hb2
        go_wp2
        go_ret
        exact ⟨ret_nat HK.out.symm, HB1.out.trans (HB2.out.mono HB1.out.size)⟩
      · have H1 := hide h1
        have H2 := hide h2
        have H3 := hide h3
        have HK := hide (show kindL s.data.toList = 2 by simp [kindL, h1, h2, h3])
        clear h1 h2 h3
        go_enter Try.func45, Try.ntmps45
        go_wp2_with fail
        refine (isWord_any _ _).mono ?_
        rintro e w' ⟨rfl, rfl⟩
        rw [toList_data, H1.out]
        go_wp2_with fail
        refine (implName_any _ _ hs).mono ?_
        rintro e w1 ⟨rfl, hb1⟩
        rw [H2.out]
        have HB1 := hide hb1
        clear hb1
        go_wp2_with fail
        refine (implGreat_any _ _ hs).mono ?_
        rintro e w2 ⟨rfl, hb2⟩
        rw [H3.out]
        have HB2 := hide hb2
        clear hb2
        go_wp2
        go_ret
        exact ⟨ret_nat HK.out.symm, HB1.out.trans (HB2.out.mono HB1.out.size)⟩
    · have H1 := hide h1
      have H2 := hide h2
      have HK := hide (show kindL s.data.toList = 1 by simp [kindL, h1, h2])
      clear h1 h2
      go_enter Try.func45, Try.ntmps45
      go_wp2_with fail
      refine (isWord_any _ _).mono ?_
      rintro e w' ⟨rfl, rfl⟩
      rw [toList_data, H1.out]
      go_wp2_with fail
      refine (implName_any _ _ hs).mono ?_
      rintro e w1 ⟨rfl, hb1⟩
      rw [H2.out]
      have HB1 := hide hb1
      clear hb1
      go_wp2
      go_ret
      exact ⟨ret_nat HK.out.symm, HB1.out⟩
  · have H1 := hide h1
    have HK := hide (show kindL s.data.toList = 4 by simp [kindL, h1])
    clear h1
    go_enter Try.func45, Try.ntmps45
    go_wp2_with fail
    refine (isWord_any _ _).mono ?_
    rintro e w' ⟨rfl, rfl⟩
    rw [toList_data, H1.out]
    go_wp2
    go_ret
    exact ⟨ret_nat HK.out.symm, Below.refl _ _⟩

theorem kind1_any (s : ByteArray) (w : World) (hs : s.size ≤ maxLen) :
    Calls Try.prog 53 #[.string s] w fun e w' => e = .returned (.int .i64 (kindL s.data.toList : Nat)) ∧ Below w.heap.size w w' := by
  cases h1 : isW s.data.toList
  · cases h2 : nameB s.data.toList
    · cases h3 : greatB s.data.toList
      · have H1 := hide h1
        have H2 := hide h2
        have H3 := hide h3
        have HK := hide (show kindL s.data.toList = 0 by simp [kindL, h1, h2, h3])
        clear h1 h2 h3
        go_enter Try.func53, Try.ntmps53
        go_wp2_with fail
        refine (isWord1_any _ _).mono ?_
        rintro e w0 ⟨rfl, hb0⟩
        rw [toList_data, H1.out]
        have HB0 := hide hb0
        clear hb0
        go_wp2_with fail
        refine (specName_any _ _ hs).mono ?_
        rintro e w1 ⟨rfl, hb1⟩
        rw [H2.out]
        have HB1 := hide (HB0.out.trans (hb1.mono HB0.out.size))
        clear hb1
        go_wp2_with fail
        refine (specGreat_any _ _ hs).mono ?_
        rintro e w2 ⟨rfl, rfl⟩
        rw [H3.out]
        go_wp2
        go_ret
        exact ⟨ret_nat HK.out.symm, HB1.out⟩
      · have H1 := hide h1
        have H2 := hide h2
        have H3 := hide h3
        have HK := hide (show kindL s.data.toList = 2 by simp [kindL, h1, h2, h3])
        clear h1 h2 h3
        go_enter Try.func53, Try.ntmps53
        go_wp2_with fail
        refine (isWord1_any _ _).mono ?_
        rintro e w0 ⟨rfl, hb0⟩
        rw [toList_data, H1.out]
        have HB0 := hide hb0
        clear hb0
        go_wp2_with fail
        refine (specName_any _ _ hs).mono ?_
        rintro e w1 ⟨rfl, hb1⟩
        rw [H2.out]
        have HB1 := hide (HB0.out.trans (hb1.mono HB0.out.size))
        clear hb1
        go_wp2_with fail
        refine (specGreat_any _ _ hs).mono ?_
        rintro e w2 ⟨rfl, rfl⟩
        rw [H3.out]
        go_wp2
        go_ret
        exact ⟨ret_nat HK.out.symm, HB1.out⟩
    · have H1 := hide h1
      have H2 := hide h2
      have HK := hide (show kindL s.data.toList = 1 by simp [kindL, h1, h2])
      clear h1 h2
      go_enter Try.func53, Try.ntmps53
      go_wp2_with fail
      refine (isWord1_any _ _).mono ?_
      rintro e w0 ⟨rfl, hb0⟩
      rw [toList_data, H1.out]
      have HB0 := hide hb0
      clear hb0
      go_wp2_with fail
      refine (specName_any _ _ hs).mono ?_
      rintro e w1 ⟨rfl, hb1⟩
      rw [H2.out]
      have HB1 := hide (HB0.out.trans (hb1.mono HB0.out.size))
      clear hb1
      go_wp2
      go_ret
      exact ⟨ret_nat HK.out.symm, HB1.out⟩
  · have H1 := hide h1
    have HK := hide (show kindL s.data.toList = 4 by simp [kindL, h1])
    clear h1
    go_enter Try.func53, Try.ntmps53
    go_wp2_with fail
    refine (isWord1_any _ _).mono ?_
    rintro e w0 ⟨rfl, hb0⟩
    rw [toList_data, H1.out]
    have HB0 := hide hb0
    clear hb0
    go_wp2
    go_ret
    exact ⟨ret_nat HK.out.symm, HB0.out⟩

theorem all_no (p : UInt8 → Bool) (s : ByteArray) (k : Nat) (h : k < s.size) (h1 : p s[k] = false) : s.data.toList.all p = false := by
  rw [List.all_eq_false]
  exact ⟨s[k], by rw [show s[k] = s.data.toList[k]'(by simpa using h) from rfl]; exact List.getElem_mem _, by simp [h1]⟩
theorem all_step (p : UInt8 → Bool) (s : ByteArray) (k : Nat) (h : k < s.size) (h0 : (s.data.toList.take k).all p = true) (h1 : p s[k] = true) : (s.data.toList.take (k + 1)).all p = true := by
  rw [take_snoc s k h, List.all_append, h0]
  simp [h1]
theorem numB_all (l : List UInt8) (h : l.all digB = false) : numB l = false := by simp [numB, h]
theorem numB_size (l : List UInt8) (h : inB l.length 1 6 = false) : numB l = false := by simp [numB, h]
theorem numB_one (l : List UInt8) (h : l.all digB = true) (h1 : l.length = 1) : numB l = true := by
  rw [numB, h, inB_tt (by omega) (by omega), h1]; rfl
theorem numB_many (s : ByteArray) (h : s.data.toList.all digB = true) (h1 : inB s.size 1 6 = true) (h2 : s.size ≠ 1) (h0 : 0 < s.size) : numB s.data.toList = (s[0] != 48) := by
  rw [numB, h, data_length, h1, headD_byte s h0]
  have : (s.size == 1) = false := by simp [h2]
  rw [this]
  rfl

theorem byte_bne (c d : UInt8) : ((c.toNat : Int) != (d.toNat : Int)) = (c != d) := by
  rw [Bool.eq_iff_iff, bne_iff_ne, bne_iff_ne]
  constructor
  · intro h e
    subst e
    exact h rfl
  · intro h e
    exact h (UInt8.toNat_inj.1 (by omega))
theorem byte_eq (c d : UInt8) (h : (c.toNat : Int) = (d.toNat : Int)) : c = d := UInt8.toNat_inj.1 (by omega)
theorem kd_noughts (s : ByteArray) (h0 : 0 < s.size) (hall : s.data.toList.all digB = true) (h : (s[0].toNat : Int) = 48) (hn : (s.toList == [48]) = false) (h6 : s.size ≤ 6) : kindD s.data.toList = 0 := by
  have h48 : s[0] = 48 := byte_eq s[0] 48 h
  have h1 : s.size ≠ 1 := by
    intro e
    rw [toList_data, beq_eq_false_iff_ne] at hn
    apply hn
    have hl : s.data.toList.length = 1 := by rw [data_length]; exact e
    obtain ⟨c, hc⟩ := List.length_eq_one_iff.1 hl
    have hh := headD_byte s h0
    rw [hc] at hh
    have : c = s[0] := hh
    rw [hc, this, h48]
  rw [kindD, numB_many s hall (inB_tt (by omega) (by omega)) h1 h0, h48]
  rfl
theorem kd_zero (s : ByteArray) (h : (s.toList == [48]) = true) : kindD s.data.toList = 3 := by
  rw [toList_data, beq_iff_eq] at h
  rw [h]
  decide
theorem kd_many (s : ByteArray) (h0 : 0 < s.size) (hall : s.data.toList.all digB = true) (h : ¬ (s[0].toNat : Int) = 48) (h6 : s.size ≤ 6) : kindD s.data.toList = 3 := by
  by_cases h1 : s.size = 1
  · rw [kindD, numB_one _ hall (by rw [data_length]; exact h1)]
    rfl
  · have h48 : (s[0] != 48) = true := by
      rw [bne_iff_ne]
      intro e
      rw [e] at h
      exact h rfl
    rw [kindD, numB_many s hall (inB_tt (by omega) (by omega)) h1 h0, h48]
    rfl
theorem kd_long (s : ByteArray) (h6 : 6 < s.size) : kindD s.data.toList = 0 := by
  rw [kindD, numB_size _ (inB_hi (by rw [data_length]; omega))]
  rfl

set_option maxHeartbeats 400000 in
theorem numOk_any (s : ByteArray) (w : World) (hs : s.size ≤ maxLen) :
    Calls Try.prog 51 #[.string s] w fun e w' => e = .returned (.bool (numB s.data.toList)) ∧ w' = w := by
  unfold maxLen at hs
  go_enter Try.func51, Try.ntmps51
  go_wp2
  go_loop [3] (fun i => ∃ k : Nat, k ≤ s.size ∧ i = .int .i64 k ∧ (s.data.toList.take k).all digB = true) (fun i => s.size - (intOf i).toNat)
  case atStart => exact ⟨0, Nat.zero_le _, rfl, rfl⟩
  case round =>
    obtain ⟨k, hk, rfl, hall⟩ := hrel
    have HN := hide hall
    clear hall
    by_cases hlt : k < s.size
    · cases hl : inB (s[k].toNat : Int) 48 57
      · have HL := hide hl
        clear hl
        go_wp2_with fail
        refine (digit_any _ _).mono ?_
        rintro e w' ⟨rfl, rfl⟩
        rw [HL.out]
        go_wp2
        go_ret
        exact ⟨ret_bool (numB_all _ (all_no digB s k hlt HL.out)).symm, rfl⟩
      · have HL := hide hl
        clear hl
        go_wp2_with fail
        refine (digit_any _ _).mono ?_
        rintro e w' ⟨rfl, rfl⟩
        rw [HL.out]
        go_wp2
        go_round
        case rel => exact ⟨k + 1, by omega, by go_num, all_step digB s k hlt HN.out HL.out⟩
        case measure => simp [intOf]; omega
    · have h := HN.out
      rw [List.take_of_length_le (by rw [data_length]; omega)] at h
      have HA := hide h
      clear h
      cases hin : inB (s.size : Int) 1 6
      · have HI := hide hin
        clear hin
        go_wp2_with fail
        refine (in_any _ _ _ _).mono ?_
        rintro e w' ⟨rfl, rfl⟩
        rw [HI.out]
        go_wp2
        go_ret
        exact ⟨ret_bool (numB_size _ (by rw [data_length]; exact HI.out)).symm, rfl⟩
      · have h0 : 0 < s.size := by
          unfold inB at hin
          simp at hin
          omega
        have HI := hide hin
        clear hin
        by_cases h1 : s.size = 1
        · have h1' : ((s.size : Int) == 1) = true := by simp; omega
          have H1 := hide h1
          clear h1
          go_wp2_with fail
          refine (in_any _ _ _ _).mono ?_
          rintro e w' ⟨rfl, rfl⟩
          rw [HI.out]
          go_wp2
          go_ret
          exact ⟨ret_bool (numB_one _ HA.out (by rw [data_length]; exact H1.out)).symm, rfl⟩
        · have h1' : ((s.size : Int) == 1) = false := by simp; omega
          go_wp2_with fail
          refine (in_any _ _ _ _).mono ?_
          rintro e w' ⟨rfl, rfl⟩
          rw [HI.out]
          go_wp2
          go_ret
          refine ⟨ret_bool ?_, rfl⟩
          rw [numB_many s HA.out HI.out h1 h0]
          exact byte_bne s[0] 48

theorem kindDigits_any (s : ByteArray) (w : World) (hs : s.size ≤ maxLen) (h0 : 0 < s.size) (hall : s.data.toList.all digB = true) :
    Calls Try.prog 47 #[.string s] w fun e w' => e = .returned (.int .i64 (kindD s.data.toList : Nat)) ∧ w' = w := by
  unfold maxLen at hs
  have HA := hide hall
  clear hall
  go_enter Try.func47, Try.ntmps47
  go_wp2
  · go_ret
    have hx : (6 : Int) < (s.size : Int) ∨ (!s.toList == [48]) = true := by assumption
    refine ⟨ret_nat (kd_noughts s h0 HA.out (by assumption) ?_ (by omega)).symm, rfl⟩
    rcases hx with hx | hx
    · omega
    · simpa using hx
  · go_ret
    have hx : (s.size : Int) ≤ 6 ∧ (!s.toList == [48]) = false := by assumption
    exact ⟨ret_nat (kd_zero s (by simpa using hx.2)).symm, rfl⟩
  · go_ret
    exact ⟨ret_nat (kd_many s h0 HA.out (by assumption) (by omega)).symm, rfl⟩
  · go_ret
    exact ⟨ret_nat (kd_long s (by omega)).symm, rfl⟩
end Go.Proofs.Ytndlhdeipicbpaa

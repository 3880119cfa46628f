/- longest: what a text begins with. -/
import Derived.Test.YtndlhdeipicbpaaH
import Derived.Test.YtndlhdeipicbpaaG
namespace Go.Proofs.Ytndlhdeipicbpaa
open Go.RowKit

theorem span_abc : Span (fun r => inB r 97 122 || inB r 65 90) abcB := by
  refine span_of _ _ (fun _ => rfl) (fun r h => ?_) (fun c h => ?_)
  · rw [show abcB 128 = false from by decide]
    show (inB r 97 122 || inB r 65 90) = false
    rw [inB_hi (by omega), inB_hi (by omega)]
    rfl
  · rw [show abcB 128 = false from by decide, abcB, inB_hi (by omega), inB_hi (by omega)]
    rfl
theorem extract_front (s : ByteArray) (n : Nat) : (s.extract 0 n).data.toList = s.data.toList.take n := by
  rw [ByteArray.data_extract, Array.toList_extract]; rfl
theorem take_takeWhile (p : UInt8 → Bool) (l : List UInt8) : l.take (l.takeWhile p).length = l.takeWhile p := by
  induction l with
  | nil => rfl
  | cons c r ih =>
    rw [List.takeWhile_cons]
    split
    · rw [List.length_cons, List.take_succ_cons, ih]
    · rfl
theorem takeWhile_le (p : UInt8 → Bool) (l : List UInt8) : (l.takeWhile p).length ≤ l.length := (List.takeWhile_sublist p).length_le
theorem takeWhile_all (p : UInt8 → Bool) (l : List UInt8) : (l.takeWhile p).all p = true := by
  induction l with
  | nil => rfl
  | cons c r ih =>
    rw [List.takeWhile_cons]
    split
    · rw [List.all_cons, ih, Bool.and_true]; assumption
    · rfl
theorem prefix_two (a b : UInt8) (l : List UInt8) : Lib.hasPrefix l [a, b] = (l.take 2 == [a, b]) := by
  unfold Lib.hasPrefix
  match l with
  | [] => rfl
  | [x] => simp [List.isPrefixOf]
  | x :: y :: r =>
    simp [List.isPrefixOf]
    rw [Bool.eq_iff_iff]
    simp
    constructor
    · rintro ⟨rfl, rfl⟩; exact ⟨rfl, rfl⟩
    · rintro ⟨rfl, rfl⟩; exact ⟨rfl, rfl⟩
theorem markR_eq (s : ByteArray) (pos r d : Nat) (h : pos < s.size) (hd : Utf8.decode s pos = (r, d)) : markR r = markB (s.data.toList.getD pos 0) := by
  rw [get_getD s pos h]
  by_cases ha : (s[pos]'h).toNat < 128
  · have e := decode_ascii s pos h ha
    rw [hd] at e
    have e1 : r = (s[pos]'h).toNat := congrArg Prod.fst e
    rw [markR, e1, decide_eq_true ha, Bool.true_and]
    congr 1
    exact UInt8.ofNat_toNat
  · have e := (decode_high s pos h (by omega)).1
    rw [hd] at e
    have e1 : ¬ r < 128 := by show ¬ (r, d).1 < 128; omega
    rw [markR, decide_eq_false e1, Bool.false_and]
    generalize s[pos] = c at *
    have hm : ∀ m ∈ marksL, m.toNat < 128 := by decide
    symm
    unfold markB
    rw [List.any_eq_false]
    intro m hmm hc
    have := hm m hmm
    rw [beq_iff_eq] at hc
    rw [hc] at this
    omega
theorem valid_of (s : ByteArray) (pos r d : Nat) (hd : Utf8.decode s pos = (r, d)) : Lib.validRune (r : Int) = true := by
  have := decode_valid s pos
  rw [hd] at this
  exact this
theorem nextK_abc (l : List UInt8) (h : abcB (l.headD 0) = true) : nextK l = kindL (l.takeWhile lodB) ∧ nextLen l = (l.takeWhile lodB).length := by
  have hd : digB (l.headD 0) = false := by
    unfold abcB inB at h
    unfold digB inB
    generalize (l.headD 0).toNat = n at *
    simp at *
    omega
  unfold nextK nextLen
  rw [hd, h]
  exact ⟨rfl, rfl⟩
theorem nextK_dig (l : List UInt8) (h : digB (l.headD 0) = true) : nextK l = kindD (l.takeWhile digB) ∧ nextLen l = (l.takeWhile digB).length := by
  unfold nextK nextLen
  rw [h]
  exact ⟨rfl, rfl⟩
theorem nextK_two (l : List UInt8) (h1 : abcB (l.headD 0) = false) (h2 : digB (l.headD 0) = false) (h : twoB l = true) : nextK l = 5 ∧ nextLen l = 2 := by
  unfold nextK nextLen
  rw [h1, h2, h]
  exact ⟨rfl, rfl⟩
theorem nextK_one (l : List UInt8) (h1 : abcB (l.headD 0) = false) (h2 : digB (l.headD 0) = false) (h : twoB l = false) (h3 : markB (l.headD 0) = true) : nextK l = 5 ∧ nextLen l = 1 := by
  unfold nextK nextLen
  rw [h1, h2, h, h3]
  exact ⟨rfl, rfl⟩
theorem nextK_none (l : List UInt8) (h1 : abcB (l.headD 0) = false) (h2 : digB (l.headD 0) = false) (h : twoB l = false) (h3 : markB (l.headD 0) = false) : nextK l = 0 := by
  unfold nextK
  rw [h1, h2, h, h3]
  rfl
theorem getD_head (l : List UInt8) : l.getD 0 0 = l.headD 0 := by cases l <;> rfl

set_option maxHeartbeats 1000000 in
theorem longest_any (s : ByteArray) (w : World) (hs : s.size ≤ maxLen) (h0 : 0 < s.size) (r d : Nat) (hdec : Utf8.decode s 0 = (r, d)) :
    Calls Try.prog 25 #[.int .i32 r, .string s] w fun e w' => ∃ n : Nat, e = .returned (.tuple #[.int .i64 (nextK s.data.toList : Nat), .int .i64 n]) ∧ (nextK s.data.toList ≠ 0 → n = nextLen s.data.toList) ∧ Below w.heap.size w w' := by
  have hs' : s.size ≤ 9223372036854775807 := hs
  obtain ⟨r1, d1, e1, habc, _⟩ := span_abc s 0 h0
  obtain ⟨r2, d2, e2, hdig, _⟩ := span_dig s 0 h0
  rw [hdec] at e1 e2
  obtain ⟨rfl, rfl⟩ := Prod.mk.inj e1
  obtain ⟨e3, _⟩ := Prod.mk.inj e2
  subst e3
  have hmk := markR_eq s 0 r d h0 hdec
  have hval := valid_of s 0 r d hdec
  rw [getD_head] at habc hdig hmk
  have HA : Hid ((inB (r : Int) 97 122 || inB (r : Int) 65 90) = abcB (s.data.toList.headD 0)) := habc
  have HD : Hid (inB (r : Int) 48 57 = digB (s.data.toList.headD 0)) := hdig
  have HM := hide hmk
  have HV := hide hval
  clear habc hdig hmk hval e1 e2 hdec
  cases ha : abcB (s.data.toList.headD 0)
  · cases hd : digB (s.data.toList.headD 0)
    · have H1 := hide ha
      have H2 := hide hd
      clear ha hd
      cases ht1 : (s.data.toList.take 2 == [45, 62])
      · cases ht2 : (s.data.toList.take 2 == [61, 61])
        · have HT := hide (show twoB s.data.toList = false by rw [twoB, ht1, ht2]; rfl)
          have HP1 := hide ht1
          have HP2 := hide ht2
          clear ht1 ht2
          go_enter Try.func25, Try.ntmps25
          go_wp2_with fail
          refine (isLetter_any _ _).mono ?_
          rintro e w' ⟨rfl, rfl⟩
          rw [HA.out, H1.out]
          go_wp2_with fail
          refine (isDigit_any _ _).mono ?_
          rintro e w' ⟨rfl, rfl⟩
          rw [HD.out, H2.out]
          go_wp2_with fail
          refine (Try.strings_HasPrefix _ _ _).mono ?_
          rintro e w' ⟨rfl, rfl⟩
          rw [show Lib.hasPrefix s.data.toList [45, 62] = false from (prefix_two _ _ _).trans HP1.out]
          go_wp2_with fail
          refine (Try.strings_HasPrefix _ _ _).mono ?_
          rintro e w' ⟨rfl, rfl⟩
          rw [show Lib.hasPrefix s.data.toList [61, 61] = false from (prefix_two _ _ _).trans HP2.out]
          go_wp2_with fail
          refine (containsMark_any _ _ HV.out).mono ?_
          rintro e w1 ⟨rfl, hb⟩
          have HB := hide hb
          clear hb
          rw [HM.out]
          cases hm : markB (s.data.toList.headD 0)
          · have H3 := hide hm
            clear hm
            go_wp2
            go_ret2
            exact ⟨0, by rw [nextK_none _ H1.out H2.out HT.out H3.out]; rfl, by rw [nextK_none _ H1.out H2.out HT.out H3.out]; simp, HB.out⟩
          · have H3 := hide hm
            clear hm
            go_wp2
            go_ret2
            have hk := nextK_one _ H1.out H2.out HT.out H3.out
            exact ⟨1, by rw [hk.1]; rfl, fun _ => hk.2.symm, HB.out⟩
        · have HT := hide (show twoB s.data.toList = true by rw [twoB, ht2]; simp)
          have HP1 := hide ht1
          have HP2 := hide ht2
          clear ht1 ht2
          go_enter Try.func25, Try.ntmps25
          go_wp2_with fail
          refine (isLetter_any _ _).mono ?_
          rintro e w' ⟨rfl, rfl⟩
          rw [HA.out, H1.out]
          go_wp2_with fail
          refine (isDigit_any _ _).mono ?_
          rintro e w' ⟨rfl, rfl⟩
          rw [HD.out, H2.out]
          go_wp2_with fail
          refine (Try.strings_HasPrefix _ _ _).mono ?_
          rintro e w' ⟨rfl, rfl⟩
          rw [show Lib.hasPrefix s.data.toList [45, 62] = false from (prefix_two _ _ _).trans HP1.out]
          go_wp2_with fail
          refine (Try.strings_HasPrefix _ _ _).mono ?_
          rintro e w' ⟨rfl, rfl⟩
          rw [show Lib.hasPrefix s.data.toList [61, 61] = true from (prefix_two _ _ _).trans HP2.out]
          go_wp2
          go_ret2
          have hk := nextK_two _ H1.out H2.out HT.out
          exact ⟨2, by rw [hk.1]; rfl, fun _ => hk.2.symm, Below.refl _ _⟩
      · have HT := hide (show twoB s.data.toList = true by rw [twoB, ht1]; rfl)
        have HP1 := hide ht1
        clear ht1
        go_enter Try.func25, Try.ntmps25
        go_wp2_with fail
        refine (isLetter_any _ _).mono ?_
        rintro e w' ⟨rfl, rfl⟩
        rw [HA.out, H1.out]
        go_wp2_with fail
        refine (isDigit_any _ _).mono ?_
        rintro e w' ⟨rfl, rfl⟩
        rw [HD.out, H2.out]
        go_wp2_with fail
        refine (Try.strings_HasPrefix _ _ _).mono ?_
        rintro e w' ⟨rfl, rfl⟩
        rw [show Lib.hasPrefix s.data.toList [45, 62] = true from (prefix_two _ _ _).trans HP1.out]
        go_wp2
        go_ret2
        have hk := nextK_two _ H1.out H2.out HT.out
        exact ⟨2, by rw [hk.1]; rfl, fun _ => hk.2.symm, Below.refl _ _⟩
    · have H1 := hide ha
      have H2 := hide hd
      have HK := hide (nextK_dig _ hd)
      have hpos := takeWhile_pos digB s.data.toList (by rw [data_length]; exact h0) hd
      clear ha hd
      go_enter Try.func25, Try.ntmps25
      go_wp2_with fail
      refine (isLetter_any _ _).mono ?_
      rintro e w' ⟨rfl, rfl⟩
      rw [HA.out, H1.out]
      go_wp2_with fail
      refine (isDigit_any _ _).mono ?_
      rintro e w' ⟨rfl, rfl⟩
      rw [HD.out, H2.out]
      go_wp2_with fail
      refine (runDig_any _ _ hs).mono ?_
      rintro e w1 ⟨rfl, hb⟩
      have HB := hide hb
      clear hb
      have hle := takeWhile_le digB s.data.toList
      rw [data_length] at hle
      generalize hn : (s.data.toList.takeWhile digB).length = n at hle hpos
      have HN := hide hn
      clear hn
      go_wp2_with fail
      have hex : (s.extract 0 n).data.toList = s.data.toList.takeWhile digB := by rw [extract_front, ← HN.out, take_takeWhile]
      have hsz : (s.extract 0 n).size = n := by rw [← data_length, hex, HN.out]
      refine (kindDigits_any _ _ (by rw [hsz]; exact Nat.le_trans hle hs) (by rw [hsz]; omega) (by rw [hex]; exact takeWhile_all _ _)).mono ?_
      rw [hex]
      clear hex hsz
      rintro e w2 ⟨rfl, rfl⟩
      rw [← HK.out.1]
      go_wp2
      go_ret2
      exact ⟨n, rfl, fun _ => HN.out.symm.trans HK.out.2.symm, HB.out⟩
  · have H1 := hide ha
    have HK := hide (nextK_abc _ ha)
    clear ha
    go_enter Try.func25, Try.ntmps25
    go_wp2_with fail
    refine (isLetter_any _ _).mono ?_
    rintro e w' ⟨rfl, rfl⟩
    rw [HA.out, H1.out]
    go_wp2_with fail
    refine (runLod_any _ _ hs).mono ?_
    rintro e w1 ⟨rfl, hb⟩
    have HB := hide hb
    clear hb
    have hle := takeWhile_le lodB s.data.toList
    rw [data_length] at hle
    generalize hn : (s.data.toList.takeWhile lodB).length = n at hle
    have HN := hide hn
    clear hn
    go_wp2_with fail
    have hex : (s.extract 0 n).data.toList = s.data.toList.takeWhile lodB := by rw [extract_front, ← HN.out, take_takeWhile]
    have hsz : (s.extract 0 n).size = n := by rw [← data_length, hex, HN.out]
    refine (kindLetters_any _ _ (by rw [hsz]; exact Nat.le_trans hle hs)).mono ?_
    rw [hex]
    clear hex hsz
    rintro e w2 ⟨rfl, hb2⟩
    have HB2 := hide hb2
    clear hb2
    rw [← HK.out.1]
    go_wp2
    go_ret2
    exact ⟨n, rfl, fun _ => HN.out.symm.trans HK.out.2.symm, HB.out.trans (HB2.out.mono HB.out.size)⟩

theorem clone_any (s : ByteArray) (w : World) (hs : s.size ≤ 1500) :
    Calls Try.prog 26 #[.string s] w fun e w' => e = .returned (.string s) ∧ Below w.heap.size w w' := by
  go_enter Try.func26, Try.ntmps26
  go_wp2_with fail
  refine (Try.stringslite_Clone _ _ (by omega)).mono ?_
  rintro e w1 ⟨rfl, hb⟩
  have HB := hide hb
  clear hb
  go_wp2
  go_ret
  exact ⟨rfl, HB.out⟩
end Go.Proofs.Ytndlhdeipicbpaa

/- The model's next. -/
import Derived.Test.YtndlhdeipicbpaaM
namespace Go.Proofs.Ytndlhdeipicbpaa
open Go.RowKit

theorem span_extract (p : UInt8 → Bool) (s : ByteArray) (a j : Nat) (h : j = a + ((s.data.toList.drop a).takeWhile p).length) : (s.extract a j).data.toList = (s.data.toList.drop a).takeWhile p := by
  rw [h, extract_mid]
  show (s.data.toList.drop a).take _ = _
  rw [take_takeWhile]
theorem span_size (s : ByteArray) (a j : Nat) (h1 : a ≤ j) (h2 : j ≤ s.size) : (s.extract a j).size = j - a := by
  rw [ByteArray.size_extract]; omega
theorem head_at (s : ByteArray) (a : Nat) (h : a < s.size) : (s.data.toList.drop a).headD 0 = s[a] := by
  rw [← getD_head, getD_drop, Nat.add_zero, get_getD s a h]
def marksB : List ByteArray := [⟨#[40]⟩, ⟨#[41]⟩, ⟨#[123]⟩, ⟨#[125]⟩, ⟨#[59]⟩, ⟨#[61]⟩, ⟨#[92]⟩, ⟨#[124]⟩, ⟨#[43]⟩, ⟨#[45]⟩, ⟨#[42]⟩, ⟨#[60]⟩, ⟨#[95]⟩]
theorem marks_lists : marksB.map ByteArray.toList = marksL.map fun m => [m] := by kernel_rfl
theorem marks_any (t : ByteArray) (c : UInt8) (h : t.toList = [c]) : (marksB.any fun m => m.toList == t.toList) = markB c := by
  have h1 : (marksB.any fun m => m.toList == t.toList) = (marksB.map ByteArray.toList).any fun m => m == [c] := by
    rw [List.any_map, h]
    rfl
  rw [h1, marks_lists, List.any_map]
  unfold markB
  congr 1
  funext m
  show ([m] == [c]) = (m == c)
  simp

set_option maxHeartbeats 4000000 in
set_option maxRecDepth 1000000 in
theorem next1_any (s : ByteArray) (a : Nat) (w : World) (ha : a < s.size) (hs : s.size ≤ 1500) :
    Calls Try.prog 28 #[.string s, .int .i64 a] w fun e w' => ∃ n : Nat, e = .returned (.tuple #[.int .i64 n, .int .i64 (nextK (s.data.toList.drop a) : Nat)]) ∧ (nextK (s.data.toList.drop a) ≠ 0 → n = nextLen (s.data.toList.drop a)) ∧ Below w.heap.size w w' := by
  have hh := head_at s a ha
  cases hdig : digB s[a]
  · have HHD : Hid (digB ((s.data.toList.drop a).headD 0) = false) := by rw [hh]; exact hide hdig
    have HD := hide hdig
    clear hdig
    cases hsm : inB (s[a].toNat : Int) 97 122
    · cases hla : inB (s[a].toNat : Int) 65 90
      · have HHA : Hid (abcB ((s.data.toList.drop a).headD 0) = false) := by rw [hh, abcB, hsm, hla]; exact hide rfl
        have HS := hide hsm
        have HL := hide hla
        have HH := hide hh
        clear hsm hla hh
        have hone := slice_one s a (by omega)
        have hol := one_list s a ha
        rw [get_getD s a ha] at hol
        have HOL := hide hol
        clear hol
        by_cases h2 : (a : Int) + 2 ≤ s.size
        · have hsl := slice_two s a (by omega)
          have htl := two_list s a
          cases ht1 : ((s.data.toList.drop a).take 2 == [45, 62])
          · cases ht2 : ((s.data.toList.drop a).take 2 == [61, 61])
            · have hT1 : ((s.extract a (a + 2)).toList == [45, 62]) = false := by rw [htl]; exact ht1
              have hT2 : ((s.extract a (a + 2)).toList == [61, 61]) = false := by rw [htl]; exact ht2
              have HT := hide (show twoB (s.data.toList.drop a) = false by rw [twoB, ht1, ht2]; rfl)
              clear ht1 ht2 htl
              go_enter Try.func28, Try.ntmps28
              go_wp2_with fail
              refine (digit_any _ _).mono ?_
              rintro e w1 ⟨rfl, rfl⟩
              rw [show inB (s[a].toNat : Int) 48 57 = false from HD.out]
              go_wp2_with fail
              refine (small_any _ _).mono ?_
              rintro e w1 ⟨rfl, rfl⟩
              rw [HS.out]
              go_wp2_with fail
              refine (large_any _ _).mono ?_
              rintro e w1 ⟨rfl, rfl⟩
              rw [HL.out]
              go_wp2_with fail
              refine (has_any marksB w1.heap.size 13 rfl (by omega) (s.extract a (a + 1)) _ ?_).mono ?_
              · intro i hi
                rw [World.cell?_alloc_new]
                match i, hi with
                | 0, _ => rfl
                | 1, _ => rfl
                | 2, _ => rfl
                | 3, _ => rfl
                | 4, _ => rfl
                | 5, _ => rfl
                | 6, _ => rfl
                | 7, _ => rfl
                | 8, _ => rfl
                | 9, _ => rfl
                | 10, _ => rfl
                | 11, _ => rfl
                | 12, _ => rfl
              rintro e w2 ⟨rfl, rfl⟩
              rw [marks_any _ _ HOL.out]
              cases hm : markB s[a]
              · have HM : Hid (markB ((s.data.toList.drop a).headD 0) = false) := by rw [HH.out]; exact hide hm
                clear hm
                go_wp2
                go_ret2
                have h0 := nextK_none _ HHA.out HHD.out HT.out HM.out
                exact ⟨0, by rw [h0]; rfl, fun h => absurd h0 h, (Below.refl _ _).alloc (Nat.le_refl _) _⟩
              · have HM : Hid (markB ((s.data.toList.drop a).headD 0) = true) := by rw [HH.out]; exact hide hm
                clear hm
                go_wp2
                go_ret2
                have hk := nextK_one _ HHA.out HHD.out HT.out HM.out
                exact ⟨1, by rw [hk.1]; rfl, fun _ => hk.2.symm, (Below.refl _ _).alloc (Nat.le_refl _) _⟩
            · have hT1 : ((s.extract a (a + 2)).toList == [45, 62]) = false := by rw [htl]; exact ht1
              have hT2 : ((s.extract a (a + 2)).toList == [61, 61]) = true := by rw [htl]; exact ht2
              have HT := hide (show twoB (s.data.toList.drop a) = true by rw [twoB, ht2]; simp)
              clear ht1 ht2 htl
              go_enter Try.func28, Try.ntmps28
              go_wp2_with fail
              refine (digit_any _ _).mono ?_
              rintro e w1 ⟨rfl, rfl⟩
              rw [show inB (s[a].toNat : Int) 48 57 = false from HD.out]
              go_wp2_with fail
              refine (small_any _ _).mono ?_
              rintro e w1 ⟨rfl, rfl⟩
              rw [HS.out]
              go_wp2_with fail
              refine (large_any _ _).mono ?_
              rintro e w1 ⟨rfl, rfl⟩
              rw [HL.out]
              go_wp2
              go_ret2
              have hk := nextK_two _ HHA.out HHD.out HT.out
              exact ⟨2, by rw [hk.1]; rfl, fun _ => hk.2.symm, Below.refl _ _⟩
          · have hT1 : ((s.extract a (a + 2)).toList == [45, 62]) = true := by rw [htl]; exact ht1
            have HT := hide (show twoB (s.data.toList.drop a) = true by rw [twoB, ht1]; rfl)
            clear ht1 htl
            go_enter Try.func28, Try.ntmps28
            go_wp2_with fail
            refine (digit_any _ _).mono ?_
            rintro e w1 ⟨rfl, rfl⟩
            rw [show inB (s[a].toNat : Int) 48 57 = false from HD.out]
            go_wp2_with fail
            refine (small_any _ _).mono ?_
            rintro e w1 ⟨rfl, rfl⟩
            rw [HS.out]
            go_wp2_with fail
            refine (large_any _ _).mono ?_
            rintro e w1 ⟨rfl, rfl⟩
            rw [HL.out]
            go_wp2
            go_ret2
            have hk := nextK_two _ HHA.out HHD.out HT.out
            exact ⟨2, by rw [hk.1]; rfl, fun _ => hk.2.symm, Below.refl _ _⟩
        · have HT := hide (dash_short s a (by omega)).2
          go_enter Try.func28, Try.ntmps28
          go_wp2_with fail
          refine (digit_any _ _).mono ?_
          rintro e w1 ⟨rfl, rfl⟩
          rw [show inB (s[a].toNat : Int) 48 57 = false from HD.out]
          go_wp2_with fail
          refine (small_any _ _).mono ?_
          rintro e w1 ⟨rfl, rfl⟩
          rw [HS.out]
          go_wp2_with fail
          refine (large_any _ _).mono ?_
          rintro e w1 ⟨rfl, rfl⟩
          rw [HL.out]
          go_wp2_with fail
          refine (has_any marksB w1.heap.size 13 rfl (by omega) (s.extract a (a + 1)) _ ?_).mono ?_
          · intro i hi
            rw [World.cell?_alloc_new]
            match i, hi with
            | 0, _ => rfl
            | 1, _ => rfl
            | 2, _ => rfl
            | 3, _ => rfl
            | 4, _ => rfl
            | 5, _ => rfl
            | 6, _ => rfl
            | 7, _ => rfl
            | 8, _ => rfl
            | 9, _ => rfl
            | 10, _ => rfl
            | 11, _ => rfl
            | 12, _ => rfl
          rintro e w2 ⟨rfl, rfl⟩
          rw [marks_any _ _ HOL.out]
          cases hm : markB s[a]
          · have HM : Hid (markB ((s.data.toList.drop a).headD 0) = false) := by rw [HH.out]; exact hide hm
            clear hm
            go_wp2
            go_ret2
            have h0 := nextK_none _ HHA.out HHD.out HT.out HM.out
            exact ⟨0, by rw [h0]; rfl, fun h => absurd h0 h, (Below.refl _ _).alloc (Nat.le_refl _) _⟩
          · have HM : Hid (markB ((s.data.toList.drop a).headD 0) = true) := by rw [HH.out]; exact hide hm
            clear hm
            go_wp2
            go_ret2
            have hk := nextK_one _ HHA.out HHD.out HT.out HM.out
            exact ⟨1, by rw [hk.1]; rfl, fun _ => hk.2.symm, (Below.refl _ _).alloc (Nat.le_refl _) _⟩
      · have HHA : Hid (abcB ((s.data.toList.drop a).headD 0) = true) := by rw [hh, abcB, hla]; exact hide (by simp)
        have HS := hide hsm
        have HL := hide hla
        clear hsm hla hh
        go_enter Try.func28, Try.ntmps28
        go_wp2_with fail
        refine (digit_any _ _).mono ?_
        rintro e w1 ⟨rfl, rfl⟩
        rw [show inB (s[a].toNat : Int) 48 57 = false from HD.out]
        go_wp2_with fail
        refine (small_any _ _).mono ?_
        rintro e w1 ⟨rfl, rfl⟩
        rw [HS.out]
        go_wp2_with fail
        refine (large_any _ _).mono ?_
        rintro e w1 ⟨rfl, rfl⟩
        rw [HL.out]
        go_wp2_with fail
        go_loop [7] (fun t => ∃ j : Nat, t = .int .i64 j ∧ a ≤ j ∧ j ≤ s.size ∧ ∀ i, a ≤ i → i < j → lodB (s.data.toList.getD i 0) = true) (fun t => s.size - (intOf t).toNat)
        case atStart => exact ⟨a, rfl, Nat.le_refl _, by omega, fun i x y => by omega⟩
        case round =>
          obtain ⟨j, rfl, haj, hjn, hall⟩ := hrel
          have HALL := hide hall
          clear hall
          by_cases hjlt : j < s.size
          · cases hc : lodB s[j]
            · have HC := hide hc
              have HC2 : Hid (lodB (s.data.toList.getD j 0) = false) := by rw [get_getD s j hjlt]; exact hide hc
              clear hc
              go_wp2_with fail
              refine (letter_any _ _).mono ?_
              rintro e w1 ⟨rfl, rfl⟩
              rw [show letB (s[j].toNat : Int) = false from HC.out]
              have hje := span_is lodB s.data.toList a j haj (by rw [data_length]; exact hjn) HALL.out (Or.inr HC2.out)
              have hsl := slice_upto s a j haj hjn
              have hex := span_extract lodB s a j hje
              have hsz := span_size s a j haj hjn
              have HK := hide (nextK_abc _ HHA.out)
              have HJE := hide hje
              clear hje
              go_wp2_with fail
              refine (kind1_any _ _ (by rw [hsz]; unfold maxLen; omega)).mono ?_
              rintro e w1 ⟨rfl, hb1⟩
              rw [hex, ← HK.out.1]
              have HB1 := hide hb1
              clear hex hsz hb1
              go_wp2
              go_ret2
              refine ⟨j - a, ?_, fun _ => ?_, HB1.out⟩
              · rw [show ((j - a : Nat) : Int) = (j : Int) - a by omega]; rfl
              · rw [HK.out.2]; have := HJE.out; omega
            · have HC := hide hc
              have HC2 : Hid (lodB (s.data.toList.getD j 0) = true) := by rw [get_getD s j hjlt]; exact hide hc
              clear hc
              go_wp2_with fail
              refine (letter_any _ _).mono ?_
              rintro e w1 ⟨rfl, rfl⟩
              rw [show letB (s[j].toNat : Int) = true from HC.out]
              go_wp2
              go_round
              case rel =>
                refine ⟨j + 1, by go_num, by omega, by omega, fun i x y => ?_⟩
                by_cases hij : i < j
                · exact HALL.out i x hij
                · have : i = j := by omega
                  subst this
                  exact HC2.out
              case measure => simp [intOf]; omega
          · skip
            have hje := span_is lodB s.data.toList a j haj (by rw [data_length]; exact hjn) HALL.out (Or.inl (by rw [data_length]; omega))
            have hsl := slice_upto s a j haj hjn
            have hex := span_extract lodB s a j hje
            have hsz := span_size s a j haj hjn
            have HK := hide (nextK_abc _ HHA.out)
            have HJE := hide hje
            clear hje
            go_wp2_with fail
            refine (kind1_any _ _ (by rw [hsz]; unfold maxLen; omega)).mono ?_
            rintro e w1 ⟨rfl, hb1⟩
            rw [hex, ← HK.out.1]
            have HB1 := hide hb1
            clear hex hsz hb1
            go_wp2
            go_ret2
            refine ⟨j - a, ?_, fun _ => ?_, HB1.out⟩
            · rw [show ((j - a : Nat) : Int) = (j : Int) - a by omega]; rfl
            · rw [HK.out.2]; have := HJE.out; omega
    · have HHA : Hid (abcB ((s.data.toList.drop a).headD 0) = true) := by rw [hh, abcB, hsm]; exact hide rfl
      have HS := hide hsm
      clear hsm hh
      go_enter Try.func28, Try.ntmps28
      go_wp2_with fail
      refine (digit_any _ _).mono ?_
      rintro e w1 ⟨rfl, rfl⟩
      rw [show inB (s[a].toNat : Int) 48 57 = false from HD.out]
      go_wp2_with fail
      refine (small_any _ _).mono ?_
      rintro e w1 ⟨rfl, rfl⟩
      rw [HS.out]
      go_wp2_with fail
      go_loop [7] (fun t => ∃ j : Nat, t = .int .i64 j ∧ a ≤ j ∧ j ≤ s.size ∧ ∀ i, a ≤ i → i < j → lodB (s.data.toList.getD i 0) = true) (fun t => s.size - (intOf t).toNat)
      case atStart => exact ⟨a, rfl, Nat.le_refl _, by omega, fun i x y => by omega⟩
      case round =>
        obtain ⟨j, rfl, haj, hjn, hall⟩ := hrel
        have HALL := hide hall
        clear hall
        by_cases hjlt : j < s.size
        · cases hc : lodB s[j]
          · have HC := hide hc
            have HC2 : Hid (lodB (s.data.toList.getD j 0) = false) := by rw [get_getD s j hjlt]; exact hide hc
            clear hc
            go_wp2_with fail
            refine (letter_any _ _).mono ?_
            rintro e w1 ⟨rfl, rfl⟩
            rw [show letB (s[j].toNat : Int) = false from HC.out]
            have hje := span_is lodB s.data.toList a j haj (by rw [data_length]; exact hjn) HALL.out (Or.inr HC2.out)
            have hsl := slice_upto s a j haj hjn
            have hex := span_extract lodB s a j hje
            have hsz := span_size s a j haj hjn
            have HK := hide (nextK_abc _ HHA.out)
            have HJE := hide hje
            clear hje
            go_wp2_with fail
            refine (kind1_any _ _ (by rw [hsz]; unfold maxLen; omega)).mono ?_
            rintro e w1 ⟨rfl, hb1⟩
            rw [hex, ← HK.out.1]
            have HB1 := hide hb1
            clear hex hsz hb1
            go_wp2
            go_ret2
            refine ⟨j - a, ?_, fun _ => ?_, HB1.out⟩
            · rw [show ((j - a : Nat) : Int) = (j : Int) - a by omega]; rfl
            · rw [HK.out.2]; have := HJE.out; omega
          · have HC := hide hc
            have HC2 : Hid (lodB (s.data.toList.getD j 0) = true) := by rw [get_getD s j hjlt]; exact hide hc
            clear hc
            go_wp2_with fail
            refine (letter_any _ _).mono ?_
            rintro e w1 ⟨rfl, rfl⟩
            rw [show letB (s[j].toNat : Int) = true from HC.out]
            go_wp2
            go_round
            case rel =>
              refine ⟨j + 1, by go_num, by omega, by omega, fun i x y => ?_⟩
              by_cases hij : i < j
              · exact HALL.out i x hij
              · have : i = j := by omega
                subst this
                exact HC2.out
            case measure => simp [intOf]; omega
        · skip
          have hje := span_is lodB s.data.toList a j haj (by rw [data_length]; exact hjn) HALL.out (Or.inl (by rw [data_length]; omega))
          have hsl := slice_upto s a j haj hjn
          have hex := span_extract lodB s a j hje
          have hsz := span_size s a j haj hjn
          have HK := hide (nextK_abc _ HHA.out)
          have HJE := hide hje
          clear hje
          go_wp2_with fail
          refine (kind1_any _ _ (by rw [hsz]; unfold maxLen; omega)).mono ?_
          rintro e w1 ⟨rfl, hb1⟩
          rw [hex, ← HK.out.1]
          have HB1 := hide hb1
          clear hex hsz hb1
          go_wp2
          go_ret2
          refine ⟨j - a, ?_, fun _ => ?_, HB1.out⟩
          · rw [show ((j - a : Nat) : Int) = (j : Int) - a by omega]; rfl
          · rw [HK.out.2]; have := HJE.out; omega
  · have HHD : Hid (digB ((s.data.toList.drop a).headD 0) = true) := by rw [hh]; exact hide hdig
    have HD := hide hdig
    clear hdig hh
    go_enter Try.func28, Try.ntmps28
    go_wp2_with fail
    refine (digit_any _ _).mono ?_
    rintro e w1 ⟨rfl, rfl⟩
    rw [show inB (s[a].toNat : Int) 48 57 = true from HD.out]
    go_wp2_with fail
    go_loop [7] (fun t => ∃ j : Nat, t = .int .i64 j ∧ a ≤ j ∧ j ≤ s.size ∧ ∀ i, a ≤ i → i < j → digB (s.data.toList.getD i 0) = true) (fun t => s.size - (intOf t).toNat)
    case atStart => exact ⟨a, rfl, Nat.le_refl _, by omega, fun i x y => by omega⟩
    case round =>
      obtain ⟨j, rfl, haj, hjn, hall⟩ := hrel
      have HALL := hide hall
      clear hall
      by_cases hjlt : j < s.size
      · cases hc : digB s[j]
        · have HC := hide hc
          have HC2 : Hid (digB (s.data.toList.getD j 0) = false) := by rw [get_getD s j hjlt]; exact hide hc
          clear hc
          go_wp2_with fail
          refine (digit_any _ _).mono ?_
          rintro e w1 ⟨rfl, rfl⟩
          rw [show inB (s[j].toNat : Int) 48 57 = false from HC.out]
          have hje := span_is digB s.data.toList a j haj (by rw [data_length]; exact hjn) HALL.out (Or.inr HC2.out)
          have hsl := slice_upto s a j haj hjn
          have hex := span_extract digB s a j hje
          have hsz := span_size s a j haj hjn
          have HK := hide (nextK_dig _ HHD.out)
          have HJE := hide hje
          clear hje
          cases hnum : numB ((s.data.toList.drop a).takeWhile digB)
          · have HNUM := hide hnum
            clear hnum
            go_wp2_with fail
            refine (numOk_any _ _ (by rw [hsz]; unfold maxLen; omega)).mono ?_
            rintro e w1 ⟨rfl, rfl⟩
            rw [hex, HNUM.out]
            clear hex hsz
            go_wp2
            go_ret2
            have h0 : nextK (s.data.toList.drop a) = 0 := by rw [HK.out.1, kindD, HNUM.out]; rfl
            exact ⟨0, by rw [h0]; rfl, fun h => absurd h0 h, Below.refl _ _⟩
          · have HNUM := hide hnum
            clear hnum
            go_wp2_with fail
            refine (numOk_any _ _ (by rw [hsz]; unfold maxLen; omega)).mono ?_
            rintro e w1 ⟨rfl, rfl⟩
            rw [hex, HNUM.out]
            clear hex hsz
            go_wp2
            go_ret2
            have h3 : nextK (s.data.toList.drop a) = 3 := by rw [HK.out.1, kindD, HNUM.out]; rfl
            refine ⟨j - a, ?_, fun _ => ?_, Below.refl _ _⟩
            · rw [h3, show ((j - a : Nat) : Int) = (j : Int) - a by omega]; rfl
            · rw [HK.out.2]; have := HJE.out; omega
        · have HC := hide hc
          have HC2 : Hid (digB (s.data.toList.getD j 0) = true) := by rw [get_getD s j hjlt]; exact hide hc
          clear hc
          go_wp2_with fail
          refine (digit_any _ _).mono ?_
          rintro e w1 ⟨rfl, rfl⟩
          rw [show inB (s[j].toNat : Int) 48 57 = true from HC.out]
          go_wp2
          go_round
          case rel =>
            refine ⟨j + 1, by go_num, by omega, by omega, fun i x y => ?_⟩
            by_cases hij : i < j
            · exact HALL.out i x hij
            · have : i = j := by omega
              subst this
              exact HC2.out
          case measure => simp [intOf]; omega
      · skip
        have hje := span_is digB s.data.toList a j haj (by rw [data_length]; exact hjn) HALL.out (Or.inl (by rw [data_length]; omega))
        have hsl := slice_upto s a j haj hjn
        have hex := span_extract digB s a j hje
        have hsz := span_size s a j haj hjn
        have HK := hide (nextK_dig _ HHD.out)
        have HJE := hide hje
        clear hje
        cases hnum : numB ((s.data.toList.drop a).takeWhile digB)
        · have HNUM := hide hnum
          clear hnum
          go_wp2_with fail
          refine (numOk_any _ _ (by rw [hsz]; unfold maxLen; omega)).mono ?_
          rintro e w1 ⟨rfl, rfl⟩
          rw [hex, HNUM.out]
          clear hex hsz
          go_wp2
          go_ret2
          have h0 : nextK (s.data.toList.drop a) = 0 := by rw [HK.out.1, kindD, HNUM.out]; rfl
          exact ⟨0, by rw [h0]; rfl, fun h => absurd h0 h, Below.refl _ _⟩
        · have HNUM := hide hnum
          clear hnum
          go_wp2_with fail
          refine (numOk_any _ _ (by rw [hsz]; unfold maxLen; omega)).mono ?_
          rintro e w1 ⟨rfl, rfl⟩
          rw [hex, HNUM.out]
          clear hex hsz
          go_wp2
          go_ret2
          have h3 : nextK (s.data.toList.drop a) = 3 := by rw [HK.out.1, kindD, HNUM.out]; rfl
          refine ⟨j - a, ?_, fun _ => ?_, Below.refl _ _⟩
          · rw [h3, show ((j - a : Nat) : Int) = (j : Int) - a by omega]; rfl
          · rw [HK.out.2]; have := HJE.out; omega
end Go.Proofs.Ytndlhdeipicbpaa

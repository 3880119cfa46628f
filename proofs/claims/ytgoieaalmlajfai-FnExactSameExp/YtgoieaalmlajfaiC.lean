/- The shape of a name: letters and digits, one to eight. -/
import Derived.Test.YtgoieaalmlajfaiB
import Derived.Lib.Strings
namespace Go.Proofs.Ytgoieaalmlajfai
open Go.RowKit

def allLet (l : List UInt8) : Bool := l.all fun c => letB c.toNat
def lettersB (l : List UInt8) : Bool := allLet l && inB l.length 1 8
def shapeB (lo hi : Int) (l : List UInt8) : Bool := lettersB l && inB (l.headD 0).toNat lo hi

theorem take_snoc (s : ByteArray) (k : Nat) (h : k < s.size) : s.data.toList.take (k + 1) = s.data.toList.take k ++ [s[k]] := by
  rw [List.take_succ_eq_append_getElem (by simpa using h)]; rfl
theorem allLet_step (s : ByteArray) (k : Nat) (h : k < s.size) (h0 : allLet (s.data.toList.take k) = true) (h1 : letB (s[k].toNat : Int) = true) : allLet (s.data.toList.take (k + 1)) = true := by
  rw [take_snoc s k h]
  unfold allLet at *
  rw [List.all_append, h0]
  simp [h1]
theorem allLet_no (s : ByteArray) (k : Nat) (h : k < s.size) (h1 : letB (s[k].toNat : Int) = false) : allLet s.data.toList = false := by
  unfold allLet
  rw [List.all_eq_false]
  exact ⟨s[k], by rw [show s[k] = s.data.toList[k]'(by simpa using h) from rfl]; exact List.getElem_mem _, by simp [h1]⟩
theorem data_length (s : ByteArray) : s.data.toList.length = s.size := by rw [Array.length_toList]; rfl

set_option maxHeartbeats 400000 in
theorem letters_any (s : ByteArray) (w : World) (hs : s.size ≤ maxLen) :
    Calls Try.prog 110 #[.string s] w fun e w' => e = .returned (.bool (lettersB s.data.toList)) ∧ w' = w := by
  unfold maxLen at hs
  go_enter Try.func110, Try.ntmps110
  go_wp2
  go_loop [3] (fun i => ∃ k : Nat, k ≤ s.size ∧ i = .int .i64 k ∧ allLet (s.data.toList.take k) = true) (fun i => s.size - (intOf i).toNat)
  case atStart => exact ⟨0, Nat.zero_le _, rfl, rfl⟩
  case round =>
    obtain ⟨k, hk, rfl, hall⟩ := hrel
    have HN := hide hall
    clear hall
    by_cases hlt : k < s.size
    · cases hl : letB (s[k].toNat : Int)
      · have HL := hide hl
        clear hl
        go_wp2_with fail
        refine (letter_any _ _).mono ?_
        rintro e w' ⟨rfl, rfl⟩
        rw [HL.out]
        go_wp2
        go_ret
        exact ⟨ret_bool (by rw [lettersB, allLet_no s k hlt HL.out]; rfl), rfl⟩
      · have HL := hide hl
        clear hl
        go_wp2_with fail
        refine (letter_any _ _).mono ?_
        rintro e w' ⟨rfl, rfl⟩
        rw [HL.out]
        go_wp2
        go_round
        case rel => exact ⟨k + 1, by omega, by go_num, allLet_step s k hlt HN.out HL.out⟩
        case measure => simp [intOf]; omega
    · go_wp2_with fail
      refine (in_any _ _ _ _).mono ?_
      rintro e w' ⟨rfl, rfl⟩
      go_wp2
      go_ret
      refine ⟨ret_bool ?_, rfl⟩
      have h := HN.out
      rw [List.take_of_length_le (by rw [data_length]; omega)] at h
      rw [lettersB, h, data_length]
      rfl

theorem shapeB_size (lo hi : Int) (l : List UInt8) (h : inB l.length 1 8 = false) : shapeB lo hi l = false := by simp [shapeB, lettersB, h]
theorem shapeB_let (lo hi : Int) (l : List UInt8) (h : allLet l = false) : shapeB lo hi l = false := by simp [shapeB, lettersB, h]
theorem shapeB_first (lo hi : Int) (s : ByteArray) (h0 : 0 < s.size) (h : inB (s[0].toNat : Int) lo hi = false) : shapeB lo hi s.data.toList = false := by
  have e : s.data.toList.headD 0 = s[0] := by
    rw [List.headD_eq_head?_getD, List.head?_eq_getElem?, List.getElem?_eq_getElem (by rw [data_length]; omega)]
    rfl
  rw [shapeB, e, h, Bool.and_false]
theorem shapeB_yes (lo hi : Int) (s : ByteArray) (h0 : 0 < s.size) (h8 : s.size ≤ 8) (hl : allLet s.data.toList = true) (h : inB (s[0].toNat : Int) lo hi = true) : shapeB lo hi s.data.toList = true := by
  have e : s.data.toList.headD 0 = s[0] := by
    rw [List.headD_eq_head?_getD, List.head?_eq_getElem?, List.getElem?_eq_getElem (by rw [data_length]; omega)]
    rfl
  rw [shapeB, e, h, lettersB, hl, data_length, inB_tt (by omega) (by omega)]
  rfl

theorem toList_data (s : ByteArray) : s.toList = s.data.toList := ByteArray.toList_eq s

/-- The rune at a place, against the byte there. -/
theorem rune_facts (s : ByteArray) (pos : Nat) (h : pos < s.size) : ∃ r d : Nat, Utf8.decode s pos = (r, d) ∧ letB (r : Int) = letB (s[pos].toNat : Int) ∧ inB (r : Int) 97 122 = inB (s[pos].toNat : Int) 97 122 ∧ inB (r : Int) 65 90 = inB (s[pos].toNat : Int) 65 90 ∧ (letB (s[pos].toNat : Int) = true → d = 1) := by
  by_cases ha : (s[pos]'h).toNat < 128
  · exact ⟨(s[pos]'h).toNat, 1, decode_ascii s pos h ha, rfl, rfl, rfl, fun _ => rfl⟩
  · have hd := decode_high s pos h (by omega)
    refine ⟨(Utf8.decode s pos).1, (Utf8.decode s pos).2, rfl, ?_, ?_, ?_, ?_⟩
    · rw [letB, letB, inB_hi (by omega), inB_hi (by omega), inB_hi (by omega), inB_hi (by omega), inB_hi (by omega), inB_hi (by omega)]
    · rw [inB_hi (by omega), inB_hi (by omega)]
    · rw [inB_hi (by omega), inB_hi (by omega)]
    · rw [letB, inB_hi (by omega), inB_hi (by omega), inB_hi (by omega)]
      simp

theorem next_eq (wr : World) (k : Nat) (s : ByteArray) (pos r d : Nat) (ty : TypeId) (hk : wr.heap[k]? = some (.stringIter s pos)) (h : pos < s.size) (hd : Utf8.decode s pos = (r, d)) :
    (Instr.next (.pointer (some ⟨k, 0, none⟩)) true ty).run Try.prog wr = .ok (.tuple #[.bool true, .int .i64 pos, .int .i32 r]) (wr.iterAt k s (pos + d)) := by
  rw [Lib.run_next_any_at wr k s pos ty hk h, hd]

theorem iterPos_at (wr : World) (k : Nat) (s : ByteArray) (pos : Nat) (hk : wr.heap[k]? = some (.stringIter s pos)) : wr.iterPos k = pos := by
  simp [World.iterPos, hk]

set_option maxHeartbeats 400000 in
theorem shapeSmall_any (s : ByteArray) (w : World) (hs : s.size ≤ maxLen) :
    Calls Try.prog 123 #[.string s, .func (.func 124) #[] #[]] w fun e w' => e = .returned (.bool (shapeB 97 122 s.data.toList)) ∧ Below w.heap.size w w' := by
  unfold maxLen at hs
  by_cases h0 : s.size = 0
  · have he : s.toList.isEmpty = true := by rw [toList_data, List.isEmpty_iff_length_eq_zero, data_length]; exact h0
    go_enter Try.func123, Try.ntmps123
    go_wp2
    go_ret
    exact ⟨ret_bool (shapeB_size _ _ _ (inB_lo (by rw [data_length]; omega))).symm, Below.refl _ _⟩
  have he : s.toList.isEmpty = false := by
    rw [Bool.eq_false_iff, Ne, toList_data, List.isEmpty_iff_length_eq_zero, data_length]; exact h0
  by_cases h8 : 8 < s.size
  · have h8' : (8 : Int) < s.size := by omega
    go_enter Try.func123, Try.ntmps123
    go_wp2
    go_ret
    exact ⟨ret_bool (shapeB_size _ _ _ (inB_hi (by rw [data_length]; omega))).symm, Below.refl _ _⟩
  have h8' : ¬ (8 : Int) < s.size := by omega
  go_enter Try.func123, Try.ntmps123
  go_wp2
  go_loopw [] (fun wr => ∃ pos : Nat, wr.heap[w.heap.size]? = some (.stringIter s pos) ∧ Below w.heap.size w wr ∧ pos ≤ s.size ∧ allLet (s.data.toList.take pos) = true ∧ (∀ h : 0 < s.size, 0 < pos → inB (s[0].toNat : Int) 97 122 = true)) (fun wr => s.size - wr.iterPos w.heap.size)
  case atStart =>
    exact ⟨0, World.iter_heap w s 0, (Below.refl _ w).alloc (Nat.le_refl _) _, by omega, rfl, by omega⟩
  case round =>
    obtain ⟨pos, hit, hbw, hpos, hall, hfst⟩ := hrel
    have HN := hide hall
    have HF := hide hfst
    clear hall hfst
    by_cases hp : pos < s.size
    · obtain ⟨r, d, hdec, hlet, hsm, hla, hone⟩ := rune_facts s pos hp
      have hnx : ∀ ty, (Instr.next (.pointer (some ⟨w.heap.size, 0, none⟩)) true ty).run Try.prog wr = _ := fun ty => next_eq wr w.heap.size s pos r d ty hit hp hdec
      have HL := hide hlet
      have HO := hide hone
      have H1 := hide hsm
      have hit2 := hide (Lib.iterAt_heap wr w.heap.size s pos (pos + d) hit)
      have hbw2 := hide (Lib.below_iterAt hbw (k := w.heap.size) (Nat.le_refl _) s (pos + d))
      clear hlet hsm hla hone hdec
      by_cases hp0 : pos = 0
      · subst hp0
        cases hf : inB (r : Int) 97 122
        · have HFF := hide hf
          clear hf
          go_wp2_with fail
          refine (isSmall_any _ _).mono ?_
          rintro e w' ⟨rfl, rfl⟩
          rw [HFF.out]
          go_wp2
          go_ret
          exact ⟨ret_bool (shapeB_first _ _ s (by omega) (H1.out.symm.trans HFF.out)).symm, by have h := hbw2.out; rwa [Nat.zero_add] at h⟩
        · have HFF := hide hf
          clear hf
          cases hl : letB (r : Int)
          · have HLL := hide hl
            clear hl
            go_wp2_with fail
            refine (isSmall_any _ _).mono ?_
            rintro e w' ⟨rfl, rfl⟩
            rw [HFF.out]
            go_wp2_with fail
            refine (isLetterOrDigit_any _ _).mono ?_
            rintro e w' ⟨rfl, rfl⟩
            rw [HLL.out]
            go_wp2
            go_ret
            exact ⟨ret_bool (shapeB_let _ _ _ (allLet_no s 0 hp (HL.out.symm.trans HLL.out))).symm, by have h := hbw2.out; rwa [Nat.zero_add] at h⟩
          · have HLL := hide hl
            clear hl
            go_wp2_with fail
            refine (isSmall_any _ _).mono ?_
            rintro e w' ⟨rfl, rfl⟩
            rw [HFF.out]
            go_wp2_with fail
            refine (isLetterOrDigit_any _ _).mono ?_
            rintro e w' ⟨rfl, rfl⟩
            rw [HLL.out]
            go_wp2
            go_roundw
            case rel =>
              have hd : d = 1 := HO.out (HL.out.symm.trans HLL.out)
              subst hd
              exact ⟨0 + 1, hit2.out, hbw2.out, by omega, allLet_step s 0 hp HN.out (HL.out.symm.trans HLL.out), fun h _ => H1.out.symm.trans HFF.out⟩
            case measure =>
              have hd : d = 1 := HO.out (HL.out.symm.trans HLL.out)
              subst hd
              rw [iterPos_at _ _ s _ hit2.out, iterPos_at _ _ s _ hit]
              omega
      · have hp0' : ((pos : Int) == 0) = false := by simp; omega
        cases hl : letB (r : Int)
        · have HLL := hide hl
          clear hl
          go_wp2_with fail
          refine (isLetterOrDigit_any _ _).mono ?_
          rintro e w' ⟨rfl, rfl⟩
          rw [HLL.out]
          go_wp2
          go_ret
          exact ⟨ret_bool (shapeB_let _ _ _ (allLet_no s pos hp (HL.out.symm.trans HLL.out))).symm, hbw2.out⟩
        · have HLL := hide hl
          clear hl
          go_wp2_with fail
          refine (isLetterOrDigit_any _ _).mono ?_
          rintro e w' ⟨rfl, rfl⟩
          rw [HLL.out]
          go_wp2
          go_roundw
          case rel =>
            have hd : d = 1 := HO.out (HL.out.symm.trans HLL.out)
            subst hd
            exact ⟨pos + 1, hit2.out, hbw2.out, by omega, allLet_step s pos hp HN.out (HL.out.symm.trans HLL.out), fun h _ => HF.out h (by omega)⟩
          case measure =>
            have hd : d = 1 := HO.out (HL.out.symm.trans HLL.out)
            subst hd
            rw [iterPos_at _ _ s _ hit2.out, iterPos_at _ _ s _ hit]
            omega
    · have hnx : ∀ ty, (Instr.next (.pointer (some ⟨w.heap.size, 0, none⟩)) true ty).run Try.prog wr = _ := fun ty => Lib.run_next_end_at wr w.heap.size s pos ty hit hp
      have hbw2 := hide hbw
      clear hbw
      go_wp2
      go_ret
      have h := HN.out
      rw [List.take_of_length_le (by rw [data_length]; omega)] at h
      exact ⟨ret_bool (shapeB_yes _ _ s (by omega) (by omega) h (HF.out (by omega) (by omega))).symm, hbw2.out⟩

set_option maxHeartbeats 400000 in
theorem shapeLarge_any (s : ByteArray) (w : World) (hs : s.size ≤ maxLen) :
    Calls Try.prog 123 #[.string s, .func (.func 125) #[] #[]] w fun e w' => e = .returned (.bool (shapeB 65 90 s.data.toList)) ∧ Below w.heap.size w w' := by
  unfold maxLen at hs
  by_cases h0 : s.size = 0
  · have he : s.toList.isEmpty = true := by rw [toList_data, List.isEmpty_iff_length_eq_zero, data_length]; exact h0
    go_enter Try.func123, Try.ntmps123
    go_wp2
    go_ret
    exact ⟨ret_bool (shapeB_size _ _ _ (inB_lo (by rw [data_length]; omega))).symm, Below.refl _ _⟩
  have he : s.toList.isEmpty = false := by
    rw [Bool.eq_false_iff, Ne, toList_data, List.isEmpty_iff_length_eq_zero, data_length]; exact h0
  by_cases h8 : 8 < s.size
  · have h8' : (8 : Int) < s.size := by omega
    go_enter Try.func123, Try.ntmps123
    go_wp2
    go_ret
    exact ⟨ret_bool (shapeB_size _ _ _ (inB_hi (by rw [data_length]; omega))).symm, Below.refl _ _⟩
  have h8' : ¬ (8 : Int) < s.size := by omega
  go_enter Try.func123, Try.ntmps123
  go_wp2
  go_loopw [] (fun wr => ∃ pos : Nat, wr.heap[w.heap.size]? = some (.stringIter s pos) ∧ Below w.heap.size w wr ∧ pos ≤ s.size ∧ allLet (s.data.toList.take pos) = true ∧ (∀ h : 0 < s.size, 0 < pos → inB (s[0].toNat : Int) 65 90 = true)) (fun wr => s.size - wr.iterPos w.heap.size)
  case atStart =>
    exact ⟨0, World.iter_heap w s 0, (Below.refl _ w).alloc (Nat.le_refl _) _, by omega, rfl, by omega⟩
  case round =>
    obtain ⟨pos, hit, hbw, hpos, hall, hfst⟩ := hrel
    have HN := hide hall
    have HF := hide hfst
    clear hall hfst
    by_cases hp : pos < s.size
    · obtain ⟨r, d, hdec, hlet, hsm, hla, hone⟩ := rune_facts s pos hp
      have hnx : ∀ ty, (Instr.next (.pointer (some ⟨w.heap.size, 0, none⟩)) true ty).run Try.prog wr = _ := fun ty => next_eq wr w.heap.size s pos r d ty hit hp hdec
      have HL := hide hlet
      have HO := hide hone
      have H1 := hide hla
      have hit2 := hide (Lib.iterAt_heap wr w.heap.size s pos (pos + d) hit)
      have hbw2 := hide (Lib.below_iterAt hbw (k := w.heap.size) (Nat.le_refl _) s (pos + d))
      clear hlet hsm hla hone hdec
      by_cases hp0 : pos = 0
      · subst hp0
        cases hf : inB (r : Int) 65 90
        · have HFF := hide hf
          clear hf
          go_wp2_with fail
          refine (isLarge_any _ _).mono ?_
          rintro e w' ⟨rfl, rfl⟩
          rw [HFF.out]
          go_wp2
          go_ret
          exact ⟨ret_bool (shapeB_first _ _ s (by omega) (H1.out.symm.trans HFF.out)).symm, by have h := hbw2.out; rwa [Nat.zero_add] at h⟩
        · have HFF := hide hf
          clear hf
          cases hl : letB (r : Int)
          · have HLL := hide hl
            clear hl
            go_wp2_with fail
            refine (isLarge_any _ _).mono ?_
            rintro e w' ⟨rfl, rfl⟩
            rw [HFF.out]
            go_wp2_with fail
            refine (isLetterOrDigit_any _ _).mono ?_
            rintro e w' ⟨rfl, rfl⟩
            rw [HLL.out]
            go_wp2
            go_ret
            exact ⟨ret_bool (shapeB_let _ _ _ (allLet_no s 0 hp (HL.out.symm.trans HLL.out))).symm, by have h := hbw2.out; rwa [Nat.zero_add] at h⟩
          · have HLL := hide hl
            clear hl
            go_wp2_with fail
            refine (isLarge_any _ _).mono ?_
            rintro e w' ⟨rfl, rfl⟩
            rw [HFF.out]
            go_wp2_with fail
            refine (isLetterOrDigit_any _ _).mono ?_
            rintro e w' ⟨rfl, rfl⟩
            rw [HLL.out]
            go_wp2
            go_roundw
            case rel =>
              have hd : d = 1 := HO.out (HL.out.symm.trans HLL.out)
              subst hd
              exact ⟨0 + 1, hit2.out, hbw2.out, by omega, allLet_step s 0 hp HN.out (HL.out.symm.trans HLL.out), fun h _ => H1.out.symm.trans HFF.out⟩
            case measure =>
              have hd : d = 1 := HO.out (HL.out.symm.trans HLL.out)
              subst hd
              rw [iterPos_at _ _ s _ hit2.out, iterPos_at _ _ s _ hit]
              omega
      · have hp0' : ((pos : Int) == 0) = false := by simp; omega
        cases hl : letB (r : Int)
        · have HLL := hide hl
          clear hl
          go_wp2_with fail
          refine (isLetterOrDigit_any _ _).mono ?_
          rintro e w' ⟨rfl, rfl⟩
          rw [HLL.out]
          go_wp2
          go_ret
          exact ⟨ret_bool (shapeB_let _ _ _ (allLet_no s pos hp (HL.out.symm.trans HLL.out))).symm, hbw2.out⟩
        · have HLL := hide hl
          clear hl
          go_wp2_with fail
          refine (isLetterOrDigit_any _ _).mono ?_
          rintro e w' ⟨rfl, rfl⟩
          rw [HLL.out]
          go_wp2
          go_roundw
          case rel =>
            have hd : d = 1 := HO.out (HL.out.symm.trans HLL.out)
            subst hd
            exact ⟨pos + 1, hit2.out, hbw2.out, by omega, allLet_step s pos hp HN.out (HL.out.symm.trans HLL.out), fun h _ => HF.out h (by omega)⟩
          case measure =>
            have hd : d = 1 := HO.out (HL.out.symm.trans HLL.out)
            subst hd
            rw [iterPos_at _ _ s _ hit2.out, iterPos_at _ _ s _ hit]
            omega
    · have hnx : ∀ ty, (Instr.next (.pointer (some ⟨w.heap.size, 0, none⟩)) true ty).run Try.prog wr = _ := fun ty => Lib.run_next_end_at wr w.heap.size s pos ty hit hp
      have hbw2 := hide hbw
      clear hbw
      go_wp2
      go_ret
      have h := HN.out
      rw [List.take_of_length_le (by rw [data_length]; omega)] at h
      exact ⟨ret_bool (shapeB_yes _ _ s (by omega) (by omega) h (HF.out (by omega) (by omega))).symm, hbw2.out⟩
end Go.Proofs.Ytgoieaalmlajfai

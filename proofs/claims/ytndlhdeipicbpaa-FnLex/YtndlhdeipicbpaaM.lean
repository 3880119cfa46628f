/- The model's skip, next and place. -/
import Derived.Test.YtndlhdeipicbpaaK
namespace Go.Proofs.Ytndlhdeipicbpaa
open Go.RowKit

theorem slice_two (s : ByteArray) (k : Nat) (h : k + 2 ≤ s.size) (W : World) : (Instr.slice 9 (.string s) (some (.int .i64 (k : Int))) (some (.int .i64 ((k : Int) + 2))) none).run Try.prog W = .ok (.string (s.extract k (k + 2))) W := slice_mid s k 2 h W
theorem slice_one (s : ByteArray) (k : Nat) (h : k + 1 ≤ s.size) (W : World) : (Instr.slice 9 (.string s) (some (.int .i64 (k : Int))) (some (.int .i64 ((k : Int) + 1))) none).run Try.prog W = .ok (.string (s.extract k (k + 1))) W := slice_mid s k 1 h W
theorem slice_upto (s : ByteArray) (a k : Nat) (h1 : a ≤ k) (h : k ≤ s.size) (W : World) : (Instr.slice 9 (.string s) (some (.int .i64 (a : Int))) (some (.int .i64 (k : Int))) none).run Try.prog W = .ok (.string (s.extract a k)) W := by
  have h2 := slice_mid s a (k - a) (by omega) W
  rw [show a + (k - a) = k by omega, show (a : Int) + ((k - a : Nat) : Int) = (k : Int) by omega] at h2
  exact h2
theorem two_list (s : ByteArray) (k : Nat) : (s.extract k (k + 2)).toList = (s.data.toList.drop k).take 2 := by
  rw [toList_data, extract_mid]
theorem one_list (s : ByteArray) (k : Nat) (h : k < s.size) : (s.extract k (k + 1)).toList = [s.data.toList.getD k 0] := by
  rw [toList_data, extract_mid]
  show (s.data.toList.drop k).take 1 = _
  rw [List.drop_eq_getElem_cons (by rw [data_length]; exact h), List.take_succ_cons, List.take_zero, get_getD s k h]
  rfl
theorem dash_short (s : ByteArray) (k : Nat) (h : ¬ k + 2 ≤ s.size) : dashB (s.data.toList.drop k) = false ∧ twoB (s.data.toList.drop k) = false := by
  have hl : (s.data.toList.drop k).length < 2 := by rw [List.length_drop, data_length]; omega
  generalize s.data.toList.drop k = l at *
  match l, hl with
  | [], _ => exact ⟨rfl, rfl⟩
  | [x], _ => exact ⟨by simp [dashB], by simp [twoB]⟩
  | _ :: _ :: _, hl => exact absurd hl (by simp only [List.length_cons]; omega)
theorem aside_is (L : List UInt8) (k j : Nat) (h1 : k ≤ j) (h2 : j ≤ L.length) (hall : ∀ i, k ≤ i → i < j → L.getD i 0 ≠ 10) (he : j = L.length ∨ L.getD j 0 = 10) : j = k + asideLen (L.drop k) := by
  have h := takeWhile_len (fun c => c != 10) (L.drop k) (j - k) (by rw [List.length_drop]; omega)
    (fun i hi => by rw [getD_drop]; simpa using hall (k + i) (by omega) (by omega))
    (by
      rcases he with he | he
      · left; rw [List.length_drop]; omega
      · right; rw [getD_drop, show k + (j - k) = j by omega, he]; rfl)
  unfold asideLen
  omega
theorem span_is (p : UInt8 → Bool) (L : List UInt8) (k j : Nat) (h1 : k ≤ j) (h2 : j ≤ L.length) (hall : ∀ i, k ≤ i → i < j → p (L.getD i 0) = true) (he : j = L.length ∨ p (L.getD j 0) = false) : j = k + ((L.drop k).takeWhile p).length := by
  have h := takeWhile_len p (L.drop k) (j - k) (by rw [List.length_drop]; omega)
    (fun i hi => by rw [getD_drop]; exact hall (k + i) (by omega) (by omega))
    (by
      rcases he with he | he
      · left; rw [List.length_drop]; omega
      · right; rw [getD_drop, show k + (j - k) = j by omega]; exact he)
  omega
theorem byte_beq (c d : UInt8) : ((c.toNat : Int) == (d.toNat : Int)) = (c == d) := by
  rw [Bool.eq_iff_iff, beq_iff_eq, beq_iff_eq]
  constructor
  · intro e; exact UInt8.toNat_inj.1 (by omega)
  · intro e; rw [e]
theorem lex_aside (L : List UInt8) (k : Nat) (hk : k < L.length) (hd : dashB (L.drop k) = true) : lexAt L k = lexAt L (k + asideLen (L.drop k)) := by
  have h45 := (dash_head L k hd).2
  rw [lexAt_eq L k hk, if_neg (not_blank hk (by rw [h45]; decide) (by rw [h45]; decide)), if_pos hd]
/-- A place where a Tok may begin, or the end. -/
def Starts (L : List UInt8) (p : Nat) : Prop := p < L.length → L.getD p 0 ≠ 10 ∧ L.getD p 0 ≠ 32 ∧ dashB (L.drop p) = false

set_option maxHeartbeats 2000000 in
set_option maxRecDepth 1000000 in
theorem skip_any (s : ByteArray) (a : Nat) (w : World) (hs : s.size ≤ 1500 ∨ s.size ≤ maxLen - 2) (ha : a ≤ s.size) :
    Calls Try.prog 27 #[.string s, .int .i64 a] w fun e w' => ∃ p : Nat, e = .returned (.int .i64 p) ∧ a ≤ p ∧ p ≤ s.size ∧ lexAt s.data.toList a = lexAt s.data.toList p ∧ Starts s.data.toList p ∧ w' = w := by
  have hs' : s.size ≤ 9223372036854775805 := by
    rcases hs with h | h
    · omega
    · exact h
  clear hs
  go_enter Try.func27, Try.ntmps27
  go_wp2
  go_loop [1] (fun t => ∃ k : Nat, t = .int .i64 k ∧ a ≤ k ∧ k ≤ s.size ∧ lexAt s.data.toList a = lexAt s.data.toList k) (fun t => s.size - (intOf t).toNat)
  case atStart => exact ⟨a, rfl, Nat.le_refl _, ha, rfl⟩
  case round =>
    obtain ⟨k, rfl, hak, hkn, hlex⟩ := hrel
    have HLEX := hide hlex
    clear hlex
    by_cases hlt : k < s.size
    · have hlen : k < s.data.toList.length := by rw [data_length]; exact hlt
      have hb10 : ((s[k].toNat : Int) != 10) = (s.data.toList.getD k 0 != 10) := by rw [get_getD s k hlt]; exact byte_bne s[k] 10
      have hb32 : ((s[k].toNat : Int) != 32) = (s.data.toList.getD k 0 != 32) := by rw [get_getD s k hlt]; exact byte_bne s[k] 32
      by_cases h2 : (k : Int) + 2 ≤ s.size
      · have hsl := slice_two s k (by omega)
        have htl := two_list s k
        cases hd : dashB (s.data.toList.drop k)
        · have hT : ((s.extract k (k + 2)).toList == [45, 45]) = false := by rw [htl]; exact hd
          have HD := hide hd
          clear hd htl
          cases hc32 : (s.data.toList.getD k 0 != 32)
          · rw [hc32] at hb32
            have HC : Hid (s.data.toList.getD k 0 = 32) := hide (by simpa using hc32)
            clear hc32 hb10
            go_wp2
            go_round
            case rel =>
              refine ⟨k + 1, by go_num, by omega, by omega, ?_⟩
              rw [HLEX.out, lexAt_eq _ k hlen, if_pos (Or.inr (by rw [get_some _ k hlen, HC.out]))]
            case measure => simp [intOf]; omega
          · rw [hc32] at hb32
            have HC : Hid (s.data.toList.getD k 0 ≠ 32) := hide (by simpa using hc32)
            clear hc32
            cases hc10 : (s.data.toList.getD k 0 != 10)
            · rw [hc10] at hb10
              have HC2 : Hid (s.data.toList.getD k 0 = 10) := hide (by simpa using hc10)
              clear hc10
              go_wp2
              go_round
              case rel =>
                refine ⟨k + 1, by go_num, by omega, by omega, ?_⟩
                rw [HLEX.out, lexAt_eq _ k hlen, if_pos (Or.inl (by rw [get_some _ k hlen, HC2.out]))]
              case measure => simp [intOf]; omega
            · rw [hc10] at hb10
              have HC2 : Hid (s.data.toList.getD k 0 ≠ 10) := hide (by simpa using hc10)
              clear hc10
              go_wp2
              go_ret
              exact ⟨k, rfl, hak, hkn, HLEX.out, fun _ => ⟨HC2.out, HC.out, HD.out⟩, rfl⟩
        · have hT : ((s.extract k (k + 2)).toList == [45, 45]) = true := by rw [htl]; exact hd
          have h45 := (dash_head _ k hd).2
          have HD := hide hd
          have H45 := hide h45
          clear hd h45 htl hb10 hb32
          go_wp2
          go_loop [1] (fun t => ∃ j : Nat, t = .int .i64 j ∧ k ≤ j ∧ j ≤ s.size ∧ ∀ i, k ≤ i → i < j → s.data.toList.getD i 0 ≠ 10) (fun t => s.size - (intOf t).toNat)
          case atStart => exact ⟨k, rfl, Nat.le_refl _, hkn, fun i a b => by omega⟩
          case round =>
            obtain ⟨j, rfl, hkj, hjn, hall⟩ := hrel
            have HALL := hide hall
            clear hall
            by_cases hjlt : j < s.size
            · have hb := byte_bne s[j] 10
              rw [show ((10 : UInt8).toNat : Int) = 10 from rfl] at hb
              cases hc : (s[j] != (10 : UInt8))
              · rw [hc] at hb
                have HC : Hid (s.data.toList.getD j 0 = 10) := by rw [get_getD s j hjlt]; exact hide (by simpa using hc)
                clear hc
                go_wp2
                have hkj2 : k < j := by
                  refine Nat.lt_of_le_of_ne hkj fun e => ?_
                  subst e
                  exact absurd (HC.out.symm.trans H45.out) (by decide)
                refine ⟨⟨j, rfl, by omega, hjn, ?_⟩, by simp [intOf]; omega⟩
                rw [HLEX.out, lex_aside _ k hlen HD.out, ← aside_is _ k j hkj (by rw [data_length]; exact hjn) HALL.out (Or.inr HC.out)]
              · rw [hc] at hb
                have HC : Hid (s.data.toList.getD j 0 ≠ 10) := by rw [get_getD s j hjlt]; exact hide (by simpa using hc)
                clear hc
                go_wp2
                go_round
                case rel =>
                  refine ⟨j + 1, by go_num, by omega, by omega, fun i a b => ?_⟩
                  by_cases hij : i < j
                  · exact HALL.out i a hij
                  · have : i = j := by omega
                    subst this
                    exact HC.out
                case measure => simp [intOf]; omega
            · go_wp2
              refine ⟨⟨j, rfl, by omega, hjn, ?_⟩, by simp [intOf]; omega⟩
              rw [HLEX.out, lex_aside _ k hlen HD.out, ← aside_is _ k j hkj (by rw [data_length]; exact hjn) HALL.out (Or.inl (by rw [data_length]; omega))]
      · have hd := (dash_short s k (by omega)).1
        have HD := hide hd
        clear hd
        cases hc32 : (s.data.toList.getD k 0 != 32)
        · rw [hc32] at hb32
          have HC : Hid (s.data.toList.getD k 0 = 32) := hide (by simpa using hc32)
          clear hc32 hb10
          go_wp2
          go_round
          case rel =>
            refine ⟨k + 1, by go_num, by omega, by omega, ?_⟩
            rw [HLEX.out, lexAt_eq _ k hlen, if_pos (Or.inr (by rw [get_some _ k hlen, HC.out]))]
          case measure => simp [intOf]; omega
        · rw [hc32] at hb32
          have HC : Hid (s.data.toList.getD k 0 ≠ 32) := hide (by simpa using hc32)
          clear hc32
          cases hc10 : (s.data.toList.getD k 0 != 10)
          · rw [hc10] at hb10
            have HC2 : Hid (s.data.toList.getD k 0 = 10) := hide (by simpa using hc10)
            clear hc10
            go_wp2
            go_round
            case rel =>
              refine ⟨k + 1, by go_num, by omega, by omega, ?_⟩
              rw [HLEX.out, lexAt_eq _ k hlen, if_pos (Or.inl (by rw [get_some _ k hlen, HC2.out]))]
            case measure => simp [intOf]; omega
          · rw [hc10] at hb10
            have HC2 : Hid (s.data.toList.getD k 0 ≠ 10) := hide (by simpa using hc10)
            clear hc10
            go_wp2
            go_ret
            exact ⟨k, rfl, hak, hkn, HLEX.out, fun _ => ⟨HC2.out, HC.out, HD.out⟩, rfl⟩
    · have hst : Starts s.data.toList k := fun h => absurd h (by rw [data_length]; exact hlt)
      have HST := hide hst
      clear hst
      go_wp2
      go_ret
      exact ⟨k, rfl, hak, hkn, HLEX.out, HST.out, rfl⟩
set_option maxHeartbeats 2000000 in
theorem place_any (s : ByteArray) (a : Nat) (w : World) (ha : a ≤ s.size) (hs : s.size ≤ 1500) :
    Calls Try.prog 29 #[.string s, .int .i64 a] w fun e w' => e = .returned (.tuple #[.int .i64 (lineAt s.data.toList a : Nat), .int .i64 ((a : Int) - (begAt s.data.toList a : Nat) + 1)]) ∧ w' = w := by
  go_enter Try.func29, Try.ntmps29
  go_wp2
  go_loop [6, 7, 8] (fun l c i => ∃ j ln bg : Nat, l = .int .i64 ln ∧ c = .int .i64 ((j : Int) - bg + 1) ∧ i = .int .i64 j ∧ j ≤ a ∧ bg ≤ j ∧ ln ≤ j + 1 ∧ ln = lineAt s.data.toList j ∧ bg = begAt s.data.toList j) (fun _ _ i => a - (intOf i).toNat)
  case atStart => exact ⟨0, 1, 0, rfl, rfl, rfl, Nat.zero_le _, Nat.le_refl _, by omega, rfl, rfl⟩
  case round =>
    obtain ⟨j, ln, bg, rfl, rfl, rfl, hja, hbj, hlj, hln, hbg⟩ := hrel
    have HLN := hide hln
    have HBG := hide hbg
    clear hln hbg
    by_cases hlt : j < a
    · have hjs : j < s.size := by omega
      have hlen : j < s.data.toList.length := by rw [data_length]; exact hjs
      have hb := byte_beq s[j] 10
      rw [show ((10 : UInt8).toNat : Int) = 10 from rfl] at hb
      cases hc : (s[j] == (10 : UInt8))
      · rw [hc] at hb
        have HC : Hid (s.data.toList.getD j 0 ≠ 10) := by rw [get_getD s j hjs]; exact hide (by simpa using hc)
        clear hc
        go_wp2
        go_round
        case rel =>
          have hl := line_one hlen HC.out
          exact ⟨j + 1, ln, bg, rfl, by go_num, by go_num, by omega, by omega, by omega, HLN.out.trans hl.1.symm, HBG.out.trans hl.2.symm⟩
        case measure => simp [intOf]; omega
      · rw [hc] at hb
        have HC : Hid (s.data.toList.getD j 0 = 10) := by rw [get_getD s j hjs]; exact hide (by simpa using hc)
        clear hc
        go_wp2
        go_round
        case rel =>
          have hl := line_nl hlen HC.out
          exact ⟨j + 1, ln + 1, j + 1, by go_num, by go_num, by go_num, by omega, by omega, by omega, by rw [hl.1, ← HLN.out], hl.2.symm⟩
        case measure => simp [intOf]; omega
    · have hje : j = a := by omega
      subst hje
      go_wp2
      go_ret2
      refine ⟨?_, rfl⟩
      rw [← HLN.out, ← HBG.out]
      rfl
end Go.Proofs.Ytndlhdeipicbpaa

/- Made of A, B, C, D, YA, YB, YF. -/
import Derived.Test.YtlaeenfeajkcfalGreatSA
import Derived.WalkKit
import Derived.ProofKit
import Derived.WalkLawsBesides
import Derived.Lib.OthersKept
import Derived.Lib.Strings
import Derived.Test.YtlaeenfeajkcfalGreatSE
namespace Go.Proofs.YtlaeenfeajkcfalGreat
open Go.RowKit

def inB (x a b : Int) : Bool := decide (a ≤ x) && decide (x ≤ b)
def letB (x : Int) : Bool := (inB x 97 122 || inB x 65 90) || inB x 48 57
theorem inB_tt {x a b : Int} (h1 : a ≤ x) (h2 : x ≤ b) : inB x a b = true := by simp [inB, h1, h2]
theorem inB_lo {x a b : Int} (h1 : x < a) : inB x a b = false := by simp [inB]; omega
theorem inB_hi {x a b : Int} (h2 : b < x) : inB x a b = false := by simp [inB]; omega


theorem in_any (x a b : Int) (w : World) : Calls Tryz.prog 54 #[.int .i64 x, .int .i64 a, .int .i64 b] w fun e w' => e = .returned (.bool (inB x a b)) ∧ w' = w := by
  by_cases h1 : a ≤ x
  · by_cases h2 : x ≤ b
    · go_enter Tryz.func54, Tryz.ntmps54
      go_wp2
      go_ret
      exact ⟨ret_bool (inB_tt (by omega) (by omega)).symm, rfl⟩
    · go_enter Tryz.func54, Tryz.ntmps54
      go_wp2
      go_ret
      exact ⟨ret_bool (inB_hi (by omega)).symm, rfl⟩
  · go_enter Tryz.func54, Tryz.ntmps54
    go_wp2
    go_ret
    exact ⟨ret_bool (inB_lo (by omega)).symm, rfl⟩

theorem isSmall_any (r : Int) (w : World) : Calls Tryz.prog 115 #[.int .i32 r] w fun e w' => e = .returned (.bool (inB r 97 122)) ∧ w' = w := by
  by_cases h1 : 97 ≤ r
  · by_cases h2 : r ≤ 122
    · go_enter Tryz.func115, Tryz.ntmps115
      go_wp2
      go_ret
      exact ⟨ret_bool (inB_tt (by omega) (by omega)).symm, rfl⟩
    · go_enter Tryz.func115, Tryz.ntmps115
      go_wp2
      go_ret
      exact ⟨ret_bool (inB_hi (by omega)).symm, rfl⟩
  · go_enter Tryz.func115, Tryz.ntmps115
    go_wp2
    go_ret
    exact ⟨ret_bool (inB_lo (by omega)).symm, rfl⟩
theorem isLarge_any (r : Int) (w : World) : Calls Tryz.prog 113 #[.int .i32 r] w fun e w' => e = .returned (.bool (inB r 65 90)) ∧ w' = w := by
  by_cases h1 : 65 ≤ r
  · by_cases h2 : r ≤ 90
    · go_enter Tryz.func113, Tryz.ntmps113
      go_wp2
      go_ret
      exact ⟨ret_bool (inB_tt (by omega) (by omega)).symm, rfl⟩
    · go_enter Tryz.func113, Tryz.ntmps113
      go_wp2
      go_ret
      exact ⟨ret_bool (inB_hi (by omega)).symm, rfl⟩
  · go_enter Tryz.func113, Tryz.ntmps113
    go_wp2
    go_ret
    exact ⟨ret_bool (inB_lo (by omega)).symm, rfl⟩
theorem isDigit_any (r : Int) (w : World) : Calls Tryz.prog 147 #[.int .i32 r] w fun e w' => e = .returned (.bool (inB r 48 57)) ∧ w' = w := by
  by_cases h1 : 48 ≤ r
  · by_cases h2 : r ≤ 57
    · go_enter Tryz.func147, Tryz.ntmps147
      go_wp2
      go_ret
      exact ⟨ret_bool (inB_tt (by omega) (by omega)).symm, rfl⟩
    · go_enter Tryz.func147, Tryz.ntmps147
      go_wp2
      go_ret
      exact ⟨ret_bool (inB_hi (by omega)).symm, rfl⟩
  · go_enter Tryz.func147, Tryz.ntmps147
    go_wp2
    go_ret
    exact ⟨ret_bool (inB_lo (by omega)).symm, rfl⟩
theorem small_any (c : UInt8) (w : World) : Calls Tryz.prog 83 #[.int .u8 c.toNat] w fun e w' => e = .returned (.bool (inB c.toNat 97 122)) ∧ w' = w := by
  have hc : c.toNat < 256 := c.toNat_lt
  go_enter Tryz.func83, Tryz.ntmps83
  go_wp2_with (go_at_call 54; refine (in_any _ _ _ _).mono ?_; rintro e w' ⟨rfl, rfl⟩)
  go_ret
  exact ⟨rfl, rfl⟩

theorem large_any (c : UInt8) (w : World) : Calls Tryz.prog 82 #[.int .u8 c.toNat] w fun e w' => e = .returned (.bool (inB c.toNat 65 90)) ∧ w' = w := by
  have hc : c.toNat < 256 := c.toNat_lt
  go_enter Tryz.func82, Tryz.ntmps82
  go_wp2_with (go_at_call 54; refine (in_any _ _ _ _).mono ?_; rintro e w' ⟨rfl, rfl⟩)
  go_ret
  exact ⟨rfl, rfl⟩

theorem digit_any (c : UInt8) (w : World) : Calls Tryz.prog 130 #[.int .u8 c.toNat] w fun e w' => e = .returned (.bool (inB c.toNat 48 57)) ∧ w' = w := by
  have hc : c.toNat < 256 := c.toNat_lt
  go_enter Tryz.func130, Tryz.ntmps130
  go_wp2_with (go_at_call 54; refine (in_any _ _ _ _).mono ?_; rintro e w' ⟨rfl, rfl⟩)
  go_ret
  exact ⟨rfl, rfl⟩

theorem isLetter_any (r : Int) (w : World) : Calls Tryz.prog 146 #[.int .i32 r] w fun e w' => e = .returned (.bool (inB r 97 122 || inB r 65 90)) ∧ w' = w := by
  cases h1 : inB r 97 122
  · have H1 := hide h1
    clear h1
    go_enter Tryz.func146, Tryz.ntmps146
    go_wp2_with fail
    refine (isSmall_any _ _).mono ?_
    rintro e w' ⟨rfl, rfl⟩
    rw [H1.out]
    go_wp2_with (go_at_call 113; refine (isLarge_any _ _).mono ?_; rintro e w' ⟨rfl, rfl⟩)
    go_ret
    exact ⟨ret_bool (by simp), rfl⟩
  · have H1 := hide h1
    clear h1
    go_enter Tryz.func146, Tryz.ntmps146
    go_wp2_with fail
    refine (isSmall_any _ _).mono ?_
    rintro e w' ⟨rfl, rfl⟩
    rw [H1.out]
    go_wp2
    go_ret
    exact ⟨ret_bool (by simp), rfl⟩
theorem isLetterOrDigit_any (r : Int) (w : World) : Calls Tryz.prog 132 #[.int .i32 r] w fun e w' => e = .returned (.bool (letB r)) ∧ w' = w := by
  cases h1 : (inB r 97 122 || inB r 65 90)
  · have H1 := hide h1
    clear h1
    go_enter Tryz.func132, Tryz.ntmps132
    go_wp2_with fail
    refine (isLetter_any _ _).mono ?_
    rintro e w' ⟨rfl, rfl⟩
    rw [H1.out]
    go_wp2_with (go_at_call 147; refine (isDigit_any _ _).mono ?_; rintro e w' ⟨rfl, rfl⟩)
    go_ret
    exact ⟨ret_bool (by rw [letB, H1.out]; simp), rfl⟩
  · have H1 := hide h1
    clear h1
    go_enter Tryz.func132, Tryz.ntmps132
    go_wp2_with fail
    refine (isLetter_any _ _).mono ?_
    rintro e w' ⟨rfl, rfl⟩
    rw [H1.out]
    go_wp2
    go_ret
    exact ⟨ret_bool (by rw [letB, H1.out]; simp), rfl⟩
theorem letter_any (c : UInt8) (w : World) : Calls Tryz.prog 107 #[.int .u8 c.toNat] w fun e w' => e = .returned (.bool (letB c.toNat)) ∧ w' = w := by
  have hc : c.toNat < 256 := c.toNat_lt
  cases h1 : inB c.toNat 97 122
  · cases h2 : inB c.toNat 65 90
    · have H1 := hide h1
      have H2 := hide h2
      clear h1 h2
      go_enter Tryz.func107, Tryz.ntmps107
      go_wp2_with fail
      refine (small_any _ _).mono ?_
      rintro e w' ⟨rfl, rfl⟩
      rw [H1.out]
      go_wp2_with fail
      refine (large_any _ _).mono ?_
      rintro e w' ⟨rfl, rfl⟩
      rw [H2.out]
      go_wp2_with fail
      refine (digit_any _ _).mono ?_
      rintro e w' ⟨rfl, rfl⟩
      go_wp2
      go_ret
      exact ⟨ret_bool (by rw [letB, H1.out, H2.out]; simp), rfl⟩
    · have H1 := hide h1
      have H2 := hide h2
      clear h1 h2
      go_enter Tryz.func107, Tryz.ntmps107
      go_wp2_with fail
      refine (small_any _ _).mono ?_
      rintro e w' ⟨rfl, rfl⟩
      rw [H1.out]
      go_wp2_with fail
      refine (large_any _ _).mono ?_
      rintro e w' ⟨rfl, rfl⟩
      rw [H2.out]
      go_wp2
      go_ret
      exact ⟨ret_bool (by rw [letB, H1.out, H2.out]; simp), rfl⟩
  · have H1 := hide h1
    clear h1
    go_enter Tryz.func107, Tryz.ntmps107
    go_wp2_with fail
    refine (small_any _ _).mono ?_
    rintro e w' ⟨rfl, rfl⟩
    rw [H1.out]
    go_wp2
    go_ret
    exact ⟨ret_bool (by rw [letB, H1.out]; simp), rfl⟩
end Go.Proofs.YtlaeenfeajkcfalGreat
namespace Go.Proofs.YtlaeenfeajkcfalGreat
open Go.RowKit

def isW (l : List UInt8) : Bool := l == [108, 101, 116] || l == [105, 110] || l == [119, 104, 101, 114, 101] || l == [99, 97, 115, 101] || l == [111, 102] || l == [105, 102] || l == [116, 104, 101, 110] || l == [101, 108, 115, 101] || l == [100, 97, 116, 97]

theorem isWord_any (s : ByteArray) (w : World) : Calls Tryz.prog 116 #[.string s] w fun e w' => e = .returned (.bool (isW s.toList)) ∧ w' = w := by
  go_enter Tryz.func116, Tryz.ntmps116
  go_wp2
  all_goals
    go_ret
    refine ⟨ret_bool ?_, rfl⟩
    simp_all [isW]
theorem any_yes (ss : List ByteArray) (s : ByteArray) (k : Nat) (h : k < ss.length) (hk : (ss[k].toList == s.toList) = true) : (ss.any fun t => t.toList == s.toList) = true := by
  rw [List.any_eq_true]
  exact ⟨ss[k], List.getElem_mem h, hk⟩
theorem any_step (ss : List ByteArray) (s : ByteArray) (k : Nat) (h : k < ss.length) (h0 : ((ss.take k).any fun t => t.toList == s.toList) = false) (hk : (ss[k].toList == s.toList) = false) :
    ((ss.take (k + 1)).any fun t => t.toList == s.toList) = false := by
  rw [List.take_succ_eq_append_getElem h, List.any_append, h0]
  simpa using hk

set_option maxHeartbeats 400000 in
theorem has_any (ss : List ByteArray) (b n : Nat) (hn : ss.length = n) (hm : n ≤ 1000) (s : ByteArray) (w : World) (hc : ∀ i, i < n → w.cell? ⟨b, i, none⟩ = some (.string (ss.getD i ByteArray.empty))) :
    Calls Tryz.prog 61 #[.slice (some ⟨b, 0, none⟩) n n, .string s] w fun e w' => e = .returned (.bool (ss.any fun t => t.toList == s.toList)) ∧ w' = w := by
  go_enter Tryz.func61, Tryz.ntmps61
  go_wp2
  go_loop [5] (fun i => ∃ k : Nat, k ≤ n ∧ i = .int .i64 k ∧ ((ss.take k).any fun t => t.toList == s.toList) = false) (fun i => n - (intOf i).toNat)
  case atStart => exact ⟨0, Nat.zero_le _, rfl, rfl⟩
  case round =>
    obtain ⟨k, hk, rfl, hnone⟩ := hrel
    have HN := hide hnone
    clear hnone
    by_cases hlt : k < n
    · have hck := hc k hlt
      go_wp2
      · go_ret
        exact ⟨ret_bool (any_yes ss s k (by omega) (by assumption)).symm, rfl⟩
      · go_round
        case rel => exact ⟨k + 1, by omega, by go_num, any_step ss s k (by omega) HN.out (by assumption)⟩
        case measure => simp [intOf]; omega
    · go_wp2
      go_ret
      refine ⟨ret_bool ?_, rfl⟩
      have h := HN.out
      rw [List.take_of_length_le (by omega)] at h
      exact h.symm

def wordsL : List ByteArray := [⟨#[108, 101, 116]⟩, ⟨#[105, 110]⟩, ⟨#[119, 104, 101, 114, 101]⟩, ⟨#[99, 97, 115, 101]⟩, ⟨#[111, 102]⟩, ⟨#[105, 102]⟩, ⟨#[116, 104, 101, 110]⟩, ⟨#[101, 108, 115, 101]⟩, ⟨#[100, 97, 116, 97]⟩]
theorem words_lists : wordsL.map ByteArray.toList = [[108, 101, 116], [105, 110], [119, 104, 101, 114, 101], [99, 97, 115, 101], [111, 102], [105, 102], [116, 104, 101, 110], [101, 108, 115, 101], [100, 97, 116, 97]] := by kernel_rfl
theorem beq_turn (a b : List UInt8) : (a == b) = (b == a) := by rw [Bool.eq_iff_iff, beq_iff_eq, beq_iff_eq]; exact eq_comm
theorem words_isW (s : ByteArray) : (wordsL.any fun t => t.toList == s.toList) = isW s.toList := by
  have h : (wordsL.any fun t => t.toList == s.toList) = (wordsL.map ByteArray.toList).any fun t => s.toList == t := by
    rw [List.any_map]
    congr 1
    funext t
    exact beq_turn _ _
  rw [h, words_lists]
  simp [isW, List.any_cons, Bool.or_assoc]

theorem isWord1_any (s : ByteArray) (w : World) : Calls Tryz.prog 84 #[.string s] w fun e w' => e = .returned (.bool (isW s.toList)) ∧ Below w.heap.size w w' := by
  go_enter Tryz.func84, Tryz.ntmps84
  go_wp2_with fail
  refine (has_any wordsL w.heap.size 9 rfl (by omega) s _ ?_).mono ?_
  · intro i hi
    rw [World.cell?_alloc_new]
    match i, hi with
    | 0, _ => rfl
    | 1, _ => rfl
    | 2, _ => rfl
    | 3, _ => rfl
    | 4, _ => rfl
    | 5, _ => rfl
    | 6, _ => rfl
    | 7, _ => rfl
    | 8, _ => rfl
  rintro e w' ⟨rfl, rfl⟩
  rw [words_isW]
  go_wp2
  go_ret
  exact ⟨rfl, (Below.refl _ _).alloc (Nat.le_refl _) _⟩
end Go.Proofs.YtlaeenfeajkcfalGreat
namespace Go.Proofs.YtlaeenfeajkcfalGreat
open Go.RowKit

def allLet (l : List UInt8) : Bool := l.all fun c => letB c.toNat
def lettersB (l : List UInt8) : Bool := allLet l && inB l.length 1 8
def shapeB (lo hi : Int) (l : List UInt8) : Bool := lettersB l && inB (l.headD 0).toNat lo hi

theorem take_snoc (s : ByteArray) (k : Nat) (h : k < s.size) : s.data.toList.take (k + 1) = s.data.toList.take k ++ [s[k]] := by
  rw [List.take_succ_eq_append_getElem (by simpa using h)]; rfl
theorem allLet_step (s : ByteArray) (k : Nat) (h : k < s.size) (h0 : allLet (s.data.toList.take k) = true) (h1 : letB (s[k].toNat : Int) = true) : allLet (s.data.toList.take (k + 1)) = true := by
  rw [take_snoc s k h]
  unfold allLet at *
  rw [List.all_append, h0]
  simp [h1]
theorem allLet_no (s : ByteArray) (k : Nat) (h : k < s.size) (h1 : letB (s[k].toNat : Int) = false) : allLet s.data.toList = false := by
  unfold allLet
  rw [List.all_eq_false]
  exact ⟨s[k], by rw [show s[k] = s.data.toList[k]'(by simpa using h) from rfl]; exact List.getElem_mem _, by simp [h1]⟩
theorem data_length (s : ByteArray) : s.data.toList.length = s.size := by rw [Array.length_toList]; rfl

set_option maxHeartbeats 400000 in
theorem letters_any (s : ByteArray) (w : World) (hs : s.size ≤ maxLen) :
    Calls Tryz.prog 81 #[.string s] w fun e w' => e = .returned (.bool (lettersB s.data.toList)) ∧ w' = w := by
  unfold maxLen at hs
  go_enter Tryz.func81, Tryz.ntmps81
  go_wp2
  go_loop [3] (fun i => ∃ k : Nat, k ≤ s.size ∧ i = .int .i64 k ∧ allLet (s.data.toList.take k) = true) (fun i => s.size - (intOf i).toNat)
  case atStart => exact ⟨0, Nat.zero_le _, rfl, rfl⟩
  case round =>
    obtain ⟨k, hk, rfl, hall⟩ := hrel
    have HN := hide hall
    clear hall
    by_cases hlt : k < s.size
    · cases hl : letB (s[k].toNat : Int)
      · have HL := hide hl
        clear hl
        go_wp2_with fail
        refine (letter_any _ _).mono ?_
        rintro e w' ⟨rfl, rfl⟩
        rw [HL.out]
        go_wp2
        go_ret
        exact ⟨ret_bool (by rw [lettersB, allLet_no s k hlt HL.out]; rfl), rfl⟩
      · have HL := hide hl
        clear hl
        go_wp2_with fail
        refine (letter_any _ _).mono ?_
        rintro e w' ⟨rfl, rfl⟩
        rw [HL.out]
        go_wp2
        go_round
        case rel => exact ⟨k + 1, by omega, by go_num, allLet_step s k hlt HN.out HL.out⟩
        case measure => simp [intOf]; omega
    · go_wp2_with fail
      refine (in_any _ _ _ _).mono ?_
      rintro e w' ⟨rfl, rfl⟩
      go_wp2
      go_ret
      refine ⟨ret_bool ?_, rfl⟩
      have h := HN.out
      rw [List.take_of_length_le (by rw [data_length]; omega)] at h
      rw [lettersB, h, data_length]
      rfl

theorem shapeB_size (lo hi : Int) (l : List UInt8) (h : inB l.length 1 8 = false) : shapeB lo hi l = false := by simp [shapeB, lettersB, h]
theorem shapeB_let (lo hi : Int) (l : List UInt8) (h : allLet l = false) : shapeB lo hi l = false := by simp [shapeB, lettersB, h]
theorem shapeB_first (lo hi : Int) (s : ByteArray) (h0 : 0 < s.size) (h : inB (s[0].toNat : Int) lo hi = false) : shapeB lo hi s.data.toList = false := by
  have e : s.data.toList.headD 0 = s[0] := by
    rw [List.headD_eq_head?_getD, List.head?_eq_getElem?, List.getElem?_eq_getElem (by rw [data_length]; omega)]
    rfl
  rw [shapeB, e, h, Bool.and_false]
theorem shapeB_yes (lo hi : Int) (s : ByteArray) (h0 : 0 < s.size) (h8 : s.size ≤ 8) (hl : allLet s.data.toList = true) (h : inB (s[0].toNat : Int) lo hi = true) : shapeB lo hi s.data.toList = true := by
  have e : s.data.toList.headD 0 = s[0] := by
    rw [List.headD_eq_head?_getD, List.head?_eq_getElem?, List.getElem?_eq_getElem (by rw [data_length]; omega)]
    rfl
  rw [shapeB, e, h, lettersB, hl, data_length, inB_tt (by omega) (by omega)]
  rfl

theorem toList_data (s : ByteArray) : s.toList = s.data.toList := ByteArray.toList_eq s

/-- The rune at a place, against the byte there. -/
theorem rune_facts (s : ByteArray) (pos : Nat) (h : pos < s.size) : ∃ r d : Nat, Utf8.decode s pos = (r, d) ∧ letB (r : Int) = letB (s[pos].toNat : Int) ∧ inB (r : Int) 97 122 = inB (s[pos].toNat : Int) 97 122 ∧ inB (r : Int) 65 90 = inB (s[pos].toNat : Int) 65 90 ∧ (letB (s[pos].toNat : Int) = true → d = 1) := by
  by_cases ha : (s[pos]'h).toNat < 128
  · exact ⟨(s[pos]'h).toNat, 1, decode_ascii s pos h ha, rfl, rfl, rfl, fun _ => rfl⟩
  · have hd := decode_high s pos h (by omega)
    refine ⟨(Utf8.decode s pos).1, (Utf8.decode s pos).2, rfl, ?_, ?_, ?_, ?_⟩
    · rw [letB, letB, inB_hi (by omega), inB_hi (by omega), inB_hi (by omega), inB_hi (by omega), inB_hi (by omega), inB_hi (by omega)]
    · rw [inB_hi (by omega), inB_hi (by omega)]
    · rw [inB_hi (by omega), inB_hi (by omega)]
    · rw [letB, inB_hi (by omega), inB_hi (by omega), inB_hi (by omega)]
      simp

theorem next_eq (wr : World) (k : Nat) (s : ByteArray) (pos r d : Nat) (ty : TypeId) (hk : wr.heap[k]? = some (.stringIter s pos)) (h : pos < s.size) (hd : Utf8.decode s pos = (r, d)) :
    (Instr.next (.pointer (some ⟨k, 0, none⟩)) true ty).run Tryz.prog wr = .ok (.tuple #[.bool true, .int .i64 pos, .int .i32 r]) (wr.iterAt k s (pos + d)) := by
  rw [Lib.run_next_any_at wr k s pos ty hk h, hd]

theorem iterPos_at (wr : World) (k : Nat) (s : ByteArray) (pos : Nat) (hk : wr.heap[k]? = some (.stringIter s pos)) : wr.iterPos k = pos := by
  simp [World.iterPos, hk]

set_option maxHeartbeats 400000 in
theorem shapeSmall_any (s : ByteArray) (w : World) (hs : s.size ≤ maxLen) :
    Calls Tryz.prog 112 #[.string s, .func (.func 115) #[] #[]] w fun e w' => e = .returned (.bool (shapeB 97 122 s.data.toList)) ∧ Below w.heap.size w w' := by
  unfold maxLen at hs
  by_cases h0 : s.size = 0
  · have he : s.toList.isEmpty = true := by rw [toList_data, List.isEmpty_iff_length_eq_zero, data_length]; exact h0
    go_enter Tryz.func112, Tryz.ntmps112
    go_wp2
    go_ret
    exact ⟨ret_bool (shapeB_size _ _ _ (inB_lo (by rw [data_length]; omega))).symm, Below.refl _ _⟩
  have he : s.toList.isEmpty = false := by
    rw [Bool.eq_false_iff, Ne, toList_data, List.isEmpty_iff_length_eq_zero, data_length]; exact h0
  by_cases h8 : 8 < s.size
  · have h8' : (8 : Int) < s.size := by omega
    go_enter Tryz.func112, Tryz.ntmps112
    go_wp2
    go_ret
    exact ⟨ret_bool (shapeB_size _ _ _ (inB_hi (by rw [data_length]; omega))).symm, Below.refl _ _⟩
  have h8' : ¬ (8 : Int) < s.size := by omega
  go_enter Tryz.func112, Tryz.ntmps112
  go_wp2
  go_loopw [] (fun wr => ∃ pos : Nat, wr.heap[w.heap.size]? = some (.stringIter s pos) ∧ Below w.heap.size w wr ∧ pos ≤ s.size ∧ allLet (s.data.toList.take pos) = true ∧ (∀ h : 0 < s.size, 0 < pos → inB (s[0].toNat : Int) 97 122 = true)) (fun wr => s.size - wr.iterPos w.heap.size)
  case atStart =>
    exact ⟨0, World.iter_heap w s 0, (Below.refl _ w).alloc (Nat.le_refl _) _, by omega, rfl, by omega⟩
  case round =>
    obtain ⟨pos, hit, hbw, hpos, hall, hfst⟩ := hrel
    have HN := hide hall
    have HF := hide hfst
    clear hall hfst
    by_cases hp : pos < s.size
    · obtain ⟨r, d, hdec, hlet, hsm, hla, hone⟩ := rune_facts s pos hp
      have hnx : ∀ ty, (Instr.next (.pointer (some ⟨w.heap.size, 0, none⟩)) true ty).run Tryz.prog wr = _ := fun ty => next_eq wr w.heap.size s pos r d ty hit hp hdec
      have HL := hide hlet
      have HO := hide hone
      have H1 := hide hsm
      have hit2 := hide (Lib.iterAt_heap wr w.heap.size s pos (pos + d) hit)
      have hbw2 := hide (Lib.below_iterAt hbw (k := w.heap.size) (Nat.le_refl _) s (pos + d))
      clear hlet hsm hla hone hdec
      by_cases hp0 : pos = 0
      · subst hp0
        cases hf : inB (r : Int) 97 122
        · have HFF := hide hf
          clear hf
          go_wp2_with fail
          refine (isSmall_any _ _).mono ?_
          rintro e w' ⟨rfl, rfl⟩
          rw [HFF.out]
          go_wp2
          go_ret
          exact ⟨ret_bool (shapeB_first _ _ s (by omega) (H1.out.symm.trans HFF.out)).symm, by have h := hbw2.out; rwa [Nat.zero_add] at h⟩
        · have HFF := hide hf
          clear hf
          cases hl : letB (r : Int)
          · have HLL := hide hl
            clear hl
            go_wp2_with fail
            refine (isSmall_any _ _).mono ?_
            rintro e w' ⟨rfl, rfl⟩
            rw [HFF.out]
            go_wp2_with fail
            refine (isLetterOrDigit_any _ _).mono ?_
            rintro e w' ⟨rfl, rfl⟩
            rw [HLL.out]
            go_wp2
            go_ret
            exact ⟨ret_bool (shapeB_let _ _ _ (allLet_no s 0 hp (HL.out.symm.trans HLL.out))).symm, by have h := hbw2.out; rwa [Nat.zero_add] at h⟩
          · have HLL := hide hl
            clear hl
            go_wp2_with fail
            refine (isSmall_any _ _).mono ?_
            rintro e w' ⟨rfl, rfl⟩
            rw [HFF.out]
            go_wp2_with fail
            refine (isLetterOrDigit_any _ _).mono ?_
            rintro e w' ⟨rfl, rfl⟩
            rw [HLL.out]
            go_wp2
            go_roundw
            case rel =>
              have hd : d = 1 := HO.out (HL.out.symm.trans HLL.out)
              subst hd
              exact ⟨0 + 1, hit2.out, hbw2.out, by omega, allLet_step s 0 hp HN.out (HL.out.symm.trans HLL.out), fun h _ => H1.out.symm.trans HFF.out⟩
            case measure =>
              have hd : d = 1 := HO.out (HL.out.symm.trans HLL.out)
              subst hd
              rw [iterPos_at _ _ s _ hit2.out, iterPos_at _ _ s _ hit]
              omega
      · have hp0' : ((pos : Int) == 0) = false := by simp; omega
        cases hl : letB (r : Int)
        · have HLL := hide hl
          clear hl
          go_wp2_with fail
          refine (isLetterOrDigit_any _ _).mono ?_
          rintro e w' ⟨rfl, rfl⟩
          rw [HLL.out]
          go_wp2
          go_ret
          exact ⟨ret_bool (shapeB_let _ _ _ (allLet_no s pos hp (HL.out.symm.trans HLL.out))).symm, hbw2.out⟩
        · have HLL := hide hl
          clear hl
          go_wp2_with fail
          refine (isLetterOrDigit_any _ _).mono ?_
          rintro e w' ⟨rfl, rfl⟩
          rw [HLL.out]
          go_wp2
          go_roundw
          case rel =>
            have hd : d = 1 := HO.out (HL.out.symm.trans HLL.out)
            subst hd
            exact ⟨pos + 1, hit2.out, hbw2.out, by omega, allLet_step s pos hp HN.out (HL.out.symm.trans HLL.out), fun h _ => HF.out h (by omega)⟩
          case measure =>
            have hd : d = 1 := HO.out (HL.out.symm.trans HLL.out)
            subst hd
            rw [iterPos_at _ _ s _ hit2.out, iterPos_at _ _ s _ hit]
            omega
    · have hnx : ∀ ty, (Instr.next (.pointer (some ⟨w.heap.size, 0, none⟩)) true ty).run Tryz.prog wr = _ := fun ty => Lib.run_next_end_at wr w.heap.size s pos ty hit hp
      have hbw2 := hide hbw
      clear hbw
      go_wp2
      go_ret
      have h := HN.out
      rw [List.take_of_length_le (by rw [data_length]; omega)] at h
      exact ⟨ret_bool (shapeB_yes _ _ s (by omega) (by omega) h (HF.out (by omega) (by omega))).symm, hbw2.out⟩
set_option maxHeartbeats 400000 in
theorem shapeLarge_any (s : ByteArray) (w : World) (hs : s.size ≤ maxLen) :
    Calls Tryz.prog 112 #[.string s, .func (.func 113) #[] #[]] w fun e w' => e = .returned (.bool (shapeB 65 90 s.data.toList)) ∧ Below w.heap.size w w' := by
  unfold maxLen at hs
  by_cases h0 : s.size = 0
  · have he : s.toList.isEmpty = true := by rw [toList_data, List.isEmpty_iff_length_eq_zero, data_length]; exact h0
    go_enter Tryz.func112, Tryz.ntmps112
    go_wp2
    go_ret
    exact ⟨ret_bool (shapeB_size _ _ _ (inB_lo (by rw [data_length]; omega))).symm, Below.refl _ _⟩
  have he : s.toList.isEmpty = false := by
    rw [Bool.eq_false_iff, Ne, toList_data, List.isEmpty_iff_length_eq_zero, data_length]; exact h0
  by_cases h8 : 8 < s.size
  · have h8' : (8 : Int) < s.size := by omega
    go_enter Tryz.func112, Tryz.ntmps112
    go_wp2
    go_ret
    exact ⟨ret_bool (shapeB_size _ _ _ (inB_hi (by rw [data_length]; omega))).symm, Below.refl _ _⟩
  have h8' : ¬ (8 : Int) < s.size := by omega
  go_enter Tryz.func112, Tryz.ntmps112
  go_wp2
  go_loopw [] (fun wr => ∃ pos : Nat, wr.heap[w.heap.size]? = some (.stringIter s pos) ∧ Below w.heap.size w wr ∧ pos ≤ s.size ∧ allLet (s.data.toList.take pos) = true ∧ (∀ h : 0 < s.size, 0 < pos → inB (s[0].toNat : Int) 65 90 = true)) (fun wr => s.size - wr.iterPos w.heap.size)
  case atStart =>
    exact ⟨0, World.iter_heap w s 0, (Below.refl _ w).alloc (Nat.le_refl _) _, by omega, rfl, by omega⟩
  case round =>
    obtain ⟨pos, hit, hbw, hpos, hall, hfst⟩ := hrel
    have HN := hide hall
    have HF := hide hfst
    clear hall hfst
    by_cases hp : pos < s.size
    · obtain ⟨r, d, hdec, hlet, hsm, hla, hone⟩ := rune_facts s pos hp
      have hnx : ∀ ty, (Instr.next (.pointer (some ⟨w.heap.size, 0, none⟩)) true ty).run Tryz.prog wr = _ := fun ty => next_eq wr w.heap.size s pos r d ty hit hp hdec
      have HL := hide hlet
      have HO := hide hone
      have H1 := hide hla
      have hit2 := hide (Lib.iterAt_heap wr w.heap.size s pos (pos + d) hit)
      have hbw2 := hide (Lib.below_iterAt hbw (k := w.heap.size) (Nat.le_refl _) s (pos + d))
      clear hlet hsm hla hone hdec
      by_cases hp0 : pos = 0
      · subst hp0
        cases hf : inB (r : Int) 65 90
        · have HFF := hide hf
          clear hf
          go_wp2_with fail
          refine (isLarge_any _ _).mono ?_
          rintro e w' ⟨rfl, rfl⟩
          rw [HFF.out]
          go_wp2
          go_ret
          exact ⟨ret_bool (shapeB_first _ _ s (by omega) (H1.out.symm.trans HFF.out)).symm, by have h := hbw2.out; rwa [Nat.zero_add] at h⟩
        · have HFF := hide hf
          clear hf
          cases hl : letB (r : Int)
          · have HLL := hide hl
            clear hl
            go_wp2_with fail
            refine (isLarge_any _ _).mono ?_
            rintro e w' ⟨rfl, rfl⟩
            rw [HFF.out]
            go_wp2_with fail
            refine (isLetterOrDigit_any _ _).mono ?_
            rintro e w' ⟨rfl, rfl⟩
            rw [HLL.out]
            go_wp2
            go_ret
            exact ⟨ret_bool (shapeB_let _ _ _ (allLet_no s 0 hp (HL.out.symm.trans HLL.out))).symm, by have h := hbw2.out; rwa [Nat.zero_add] at h⟩
          · have HLL := hide hl
            clear hl
            go_wp2_with fail
            refine (isLarge_any _ _).mono ?_
            rintro e w' ⟨rfl, rfl⟩
            rw [HFF.out]
            go_wp2_with fail
            refine (isLetterOrDigit_any _ _).mono ?_
            rintro e w' ⟨rfl, rfl⟩
            rw [HLL.out]
            go_wp2
            go_roundw
            case rel =>
              have hd : d = 1 := HO.out (HL.out.symm.trans HLL.out)
              subst hd
              exact ⟨0 + 1, hit2.out, hbw2.out, by omega, allLet_step s 0 hp HN.out (HL.out.symm.trans HLL.out), fun h _ => H1.out.symm.trans HFF.out⟩
            case measure =>
              have hd : d = 1 := HO.out (HL.out.symm.trans HLL.out)
              subst hd
              rw [iterPos_at _ _ s _ hit2.out, iterPos_at _ _ s _ hit]
              omega
      · have hp0' : ((pos : Int) == 0) = false := by simp; omega
        cases hl : letB (r : Int)
        · have HLL := hide hl
          clear hl
          go_wp2_with fail
          refine (isLetterOrDigit_any _ _).mono ?_
          rintro e w' ⟨rfl, rfl⟩
          rw [HLL.out]
          go_wp2
          go_ret
          exact ⟨ret_bool (shapeB_let _ _ _ (allLet_no s pos hp (HL.out.symm.trans HLL.out))).symm, hbw2.out⟩
        · have HLL := hide hl
          clear hl
          go_wp2_with fail
          refine (isLetterOrDigit_any _ _).mono ?_
          rintro e w' ⟨rfl, rfl⟩
          rw [HLL.out]
          go_wp2
          go_roundw
          case rel =>
            have hd : d = 1 := HO.out (HL.out.symm.trans HLL.out)
            subst hd
            exact ⟨pos + 1, hit2.out, hbw2.out, by omega, allLet_step s pos hp HN.out (HL.out.symm.trans HLL.out), fun h _ => HF.out h (by omega)⟩
          case measure =>
            have hd : d = 1 := HO.out (HL.out.symm.trans HLL.out)
            subst hd
            rw [iterPos_at _ _ s _ hit2.out, iterPos_at _ _ s _ hit]
            omega
    · have hnx : ∀ ty, (Instr.next (.pointer (some ⟨w.heap.size, 0, none⟩)) true ty).run Tryz.prog wr = _ := fun ty => Lib.run_next_end_at wr w.heap.size s pos ty hit hp
      have hbw2 := hide hbw
      clear hbw
      go_wp2
      go_ret
      have h := HN.out
      rw [List.take_of_length_le (by rw [data_length]; omega)] at h
      exact ⟨ret_bool (shapeB_yes _ _ s (by omega) (by omega) h (HF.out (by omega) (by omega))).symm, hbw2.out⟩
end Go.Proofs.YtlaeenfeajkcfalGreat
namespace Go.Proofs.YtlaeenfeajkcfalGreat
open Go.RowKit

def nameB (l : List UInt8) : Bool := shapeB 97 122 l && !isW l
def greatB (l : List UInt8) : Bool := shapeB 65 90 l

theorem implName_any (s : ByteArray) (w : World) (hs : s.size ≤ maxLen) :
    Calls Tryz.prog 94 #[.string s] w fun e w' => e = .returned (.bool (nameB s.data.toList)) ∧ Below w.heap.size w w' := by
  cases h : shapeB 97 122 s.data.toList
  · have H := hide h
    clear h
    go_enter Tryz.func94, Tryz.ntmps94
    go_wp2_with fail
    refine (shapeSmall_any _ _ hs).mono ?_
    rintro e w1 ⟨rfl, hb⟩
    rw [H.out]
    have HB := hide hb
    clear hb
    go_wp2
    go_ret
    exact ⟨ret_bool (by rw [nameB, H.out]; rfl), HB.out⟩
  · have H := hide h
    clear h
    go_enter Tryz.func94, Tryz.ntmps94
    go_wp2_with fail
    refine (shapeSmall_any _ _ hs).mono ?_
    rintro e w1 ⟨rfl, hb⟩
    rw [H.out]
    have HB := hide hb
    clear hb
    go_wp2_with fail
    refine (isWord_any _ _).mono ?_
    rintro e w2 ⟨rfl, rfl⟩
    go_wp2
    go_ret
    exact ⟨ret_bool (by rw [nameB, H.out, ← toList_data]; rfl), HB.out⟩
theorem implGreat_any (s : ByteArray) (w : World) (hs : s.size ≤ maxLen) :
    Calls Tryz.prog 90 #[.string s] w fun e w' => e = .returned (.bool (greatB s.data.toList)) ∧ Below w.heap.size w w' := by
  go_enter Tryz.func90, Tryz.ntmps90
  go_wp2_with fail
  refine (shapeLarge_any _ _ hs).mono ?_
  rintro e w1 ⟨rfl, hb⟩
  have HB := hide hb
  clear hb
  go_wp2
  go_ret
  exact ⟨rfl, HB.out⟩
theorem lettersB_pos (s : ByteArray) (h : lettersB s.data.toList = true) : 0 < s.size := by
  unfold lettersB at h
  rw [Bool.and_eq_true, data_length] at h
  have := h.2
  unfold inB at this
  simp at this
  omega
theorem headD_byte (s : ByteArray) (h0 : 0 < s.size) : s.data.toList.headD 0 = s[0] := by
  rw [List.headD_eq_head?_getD, List.head?_eq_getElem?, List.getElem?_eq_getElem (by rw [data_length]; omega)]
  rfl

theorem specGreat_any (s : ByteArray) (w : World) (hs : s.size ≤ maxLen) :
    Calls Tryz.prog 50 #[.string s] w fun e w' => e = .returned (.bool (greatB s.data.toList)) ∧ w' = w := by
  cases h : lettersB s.data.toList
  · have H := hide h
    clear h
    go_enter Tryz.func50, Tryz.ntmps50
    go_wp2_with fail
    refine (letters_any _ _ hs).mono ?_
    rintro e w1 ⟨rfl, rfl⟩
    rw [H.out]
    go_wp2
    go_ret
    exact ⟨ret_bool (by rw [greatB, shapeB, H.out]; rfl), rfl⟩
  · have h0 := lettersB_pos s h
    have H := hide h
    clear h
    go_enter Tryz.func50, Tryz.ntmps50
    go_wp2_with fail
    refine (letters_any _ _ hs).mono ?_
    rintro e w1 ⟨rfl, rfl⟩
    rw [H.out]
    go_wp2_with fail
    refine (large_any _ _).mono ?_
    rintro e w1 ⟨rfl, rfl⟩
    go_wp2
    go_ret
    exact ⟨ret_bool (by rw [greatB, shapeB, H.out, headD_byte s h0]; rfl), rfl⟩

theorem specName_any (s : ByteArray) (w : World) (hs : s.size ≤ maxLen) :
    Calls Tryz.prog 55 #[.string s] w fun e w' => e = .returned (.bool (nameB s.data.toList)) ∧ Below w.heap.size w w' := by
  cases h : lettersB s.data.toList
  · have H := hide h
    clear h
    go_enter Tryz.func55, Tryz.ntmps55
    go_wp2_with fail
    refine (letters_any _ _ hs).mono ?_
    rintro e w1 ⟨rfl, rfl⟩
    rw [H.out]
    go_wp2
    go_ret
    exact ⟨ret_bool (by rw [nameB, shapeB, H.out]; rfl), Below.refl _ _⟩
  · have h0 := lettersB_pos s h
    have H := hide h
    clear h
    cases h1 : inB (s[0].toNat : Int) 97 122
    · have H1 := hide h1
      clear h1
      go_enter Tryz.func55, Tryz.ntmps55
      go_wp2_with fail
      refine (letters_any _ _ hs).mono ?_
      rintro e w1 ⟨rfl, rfl⟩
      rw [H.out]
      go_wp2_with fail
      refine (small_any _ _).mono ?_
      rintro e w1 ⟨rfl, rfl⟩
      rw [H1.out]
      go_wp2
      go_ret
      exact ⟨ret_bool (by rw [nameB, shapeB, H.out, headD_byte s h0, H1.out]; rfl), Below.refl _ _⟩
    · have H1 := hide h1
      clear h1
      go_enter Tryz.func55, Tryz.ntmps55
      go_wp2_with fail
      refine (letters_any _ _ hs).mono ?_
      rintro e w1 ⟨rfl, rfl⟩
      rw [H.out]
      go_wp2_with fail
      refine (small_any _ _).mono ?_
      rintro e w1 ⟨rfl, rfl⟩
      rw [H1.out]
      go_wp2_with fail
      refine (isWord1_any _ _).mono ?_
      rintro e w1 ⟨rfl, hb⟩
      have HB := hide hb
      clear hb
      go_wp2
      go_ret
      exact ⟨ret_bool (by rw [nameB, shapeB, H.out, headD_byte s h0, H1.out, ← toList_data]; rfl), HB.out⟩
end Go.Proofs.YtlaeenfeajkcfalGreat
namespace Go.Proofs.YtlaeenfeajkcfalGreat

def isU (s : ByteArray) : Bool := s.toList == [95]
def emptyB (s : ByteArray) : Bool := s.toList == []
def nmB (s : ByteArray) : Bool := nameB s.data.toList
def grB (s : ByteArray) : Bool := greatB s.data.toList
def alikeB (l : List ByteArray) (x : ByteArray) : Bool := l.any fun t => t.toList == x.toList
def atZ (l : List ByteArray) (i : Nat) : ByteArray := l.getD i ByteArray.empty
def varsTo (l : List ByteArray) : Nat → Bool
  | 0 => true
  | i + 1 => varsTo l i && (isU (atZ l i) || (nmB (atZ l i) && !alikeB (l.take i) (atZ l i)))
def parTo (l : List ByteArray) : Nat → Bool
  | 0 => true
  | i + 1 => parTo l i && (isU (atZ l i) || nmB (atZ l i))
def noTwoTo (l : List ByteArray) : Nat → Bool
  | 0 => true
  | i + 1 => noTwoTo l i && (isU (atZ l i) || !alikeB (l.take i) (atZ l i))
def noDupTo (l : List ByteArray) : Nat → Bool
  | 0 => true
  | i + 1 => noDupTo l i && !alikeB (l.take i) (atZ l i)
def varsB (l : List ByteArray) : Bool := varsTo l l.length && decide ((l.length : Int) ≤ 4)
def noTwoB (l : List ByteArray) : Bool := noTwoTo l l.length
def noDupB (l : List ByteArray) : Bool := noDupTo l l.length

theorem to_vars (l : List ByteArray) (i : Nat) : varsTo l i = (parTo l i && noTwoTo l i) := by
  induction i with
  | zero => rfl
  | succ i ih =>
    show (varsTo l i && _) = ((parTo l i && _) && (noTwoTo l i && _))
    rw [ih]
    cases parTo l i <;> cases noTwoTo l i <;> cases isU (atZ l i) <;> cases nmB (atZ l i) <;> cases alikeB (l.take i) (atZ l i) <;> rfl
theorem up_false (f : Nat → Bool) (g : Nat → Bool) (hf : ∀ i, f (i + 1) = (f i && g i)) {i n : Nat} (h : f i = false) (hn : i ≤ n) : f n = false := by
  induction n with
  | zero => rw [show i = 0 by omega] at h; exact h
  | succ n ih =>
    by_cases e : i = n + 1
    · rw [← e]; exact h
    · rw [hf, ih (by omega)]; rfl
theorem varsTo_false {l : List ByteArray} {i n : Nat} (h : varsTo l i = false) (hn : i ≤ n) : varsTo l n = false := up_false (varsTo l) _ (fun _ => rfl) h hn
theorem parTo_false {l : List ByteArray} {i n : Nat} (h : parTo l i = false) (hn : i ≤ n) : parTo l n = false := up_false (parTo l) _ (fun _ => rfl) h hn
theorem noTwoTo_false {l : List ByteArray} {i n : Nat} (h : noTwoTo l i = false) (hn : i ≤ n) : noTwoTo l n = false := up_false (noTwoTo l) _ (fun _ => rfl) h hn
theorem nm_notU {s : ByteArray} (h : nmB s = true) : isU s = false := by
  cases hu : isU s with
  | false => rfl
  | true =>
    have e : s.data.toList = [95] := by rw [← toList_data]; exact eq_of_beq hu
    unfold nmB at h
    rw [e] at h
    revert h
    decide
/-- Of names that are right the two ways of looking for two alike are one. -/
theorem noDup_noTwo (l : List ByteArray) (n : Nat) (h : ∀ i, i < n → nmB (atZ l i) = true) : noDupTo l n = noTwoTo l n := by
  induction n with
  | zero => rfl
  | succ n ih =>
    show (noDupTo l n && _) = (noTwoTo l n && _)
    rw [ih fun i hi => h i (by omega), nm_notU (h n (by omega))]
    rfl

def opB (s : ByteArray) : Bool := s.toList == [43] || s.toList == [45] || s.toList == [42] || s.toList == [61, 61] || s.toList == [60]
def partsN (k : Int) : Int := if k = 1 ∨ k = 2 ∨ k = 3 then 0 else if k = 5 ∨ k = 6 ∨ k = 7 then 1 else if k = 4 ∨ k = 9 then 2 else if k = 8 then 3 else -1
/-- There is in it what its kind tells, and no more. -/
def shapeE (e : Tr) : Bool := decide (partsN e.k = e.l.length) && (decide (e.k = 6) || decide (e.ds.length = 0)) && (decide (e.k = 7) || decide (e.al.length = 0)) && (decide (e.k = 3) || decide (e.n = 0))
def kindB (e : Tr) : Bool :=
  if e.k = 1 then nmB e.s else if e.k = 2 then grB e.s else if e.k = 3 then inB e.n 0 999999 && emptyB e.s else if e.k = 5 then nmB e.s || isU e.s
  else if e.k = 9 then opB e.s else if e.k = 7 then inB e.al.length 1 6 && emptyB e.s else emptyB e.s
def hereB (e : Tr) : Bool := shapeE e && kindB e
def altB (a : Tr) : Bool := varsB a.ss && (grB a.s || (emptyB a.s && decide ((a.ss.length : Int) = 1)))

structure Okz where
  ex : Tr → Int → Bool
  de : Tr → Int → Bool
  al : Tr → Int → Bool
def allZ (f : Tr → Int → Bool) (xs : List Tr) (d : Int) : Bool := xs.all fun x => f x d
def decsB (f : Tr → Int → Bool) (ds : List Tr) (most d : Int) : Bool := inB ds.length 1 most && (allZ f ds d && noDupB (ds.map Tr.s))
def okz : Nat → Okz
  | 0 => ⟨fun _ _ => false, fun _ _ => false, fun _ _ => false⟩
  | h + 1 =>
    ⟨fun e d => decide (d ≤ 12) && (hereB e && (allZ (okz h).ex e.l (d + 1) && (allZ (fun a d => altB a && (okz h).al a d) e.al (d + 1) && (decide (e.k ≠ 6) || decsB (okz h).de e.ds 6 (d + 1))))),
     fun x d => (nmB x.s && varsB x.ss) && (allZ (okz h).ex x.l (d + 1) && (decide (x.ds.length = 0) || decsB (okz h).de x.ds 6 (d + 1))),
     fun a d => allZ (okz h).ex a.l d⟩
structure Cnt where
  ex : Tr → Nat
  de : Tr → Nat
  al : Tr → Nat
def sumZ (f : Tr → Nat) (xs : List Tr) : Nat := (xs.map f).sum
def cnt : Nat → Cnt
  | 0 => ⟨fun _ => 0, fun _ => 0, fun _ => 0⟩
  | h + 1 => ⟨fun e => 1 + sumZ (cnt h).ex e.l + sumZ (cnt h).al e.al + sumZ (cnt h).de e.ds, fun x => sumZ (cnt h).ex x.l + sumZ (cnt h).de x.ds, fun a => sumZ (cnt h).ex a.l⟩

/-- A number that tells how many there are, as long as all is right and they are at most 200. -/
def Trk (n : Int) (ok : Bool) (c : Nat) : Prop := (ok = true ∧ c ≤ 200 ∧ n = c) ∨ (200 < n ∧ ¬ (ok = true ∧ c ≤ 200))
theorem Trk.add {n r : Int} {a b : Bool} {c d : Nat} (h : Trk n a c) (hn : n ≤ 200) (k : Trk r b d) : Trk (n + r) (a && b) (c + d) := by
  unfold Trk at *
  rcases h with ⟨h1, h2, h3⟩ | ⟨h1, -⟩
  · rcases k with ⟨k1, k2, k3⟩ | ⟨k1, k2⟩
    · by_cases hc : c + d ≤ 200
      · exact Or.inl ⟨by rw [h1, k1]; rfl, hc, by omega⟩
      · exact Or.inr ⟨by omega, fun h => hc h.2⟩
    · refine Or.inr ⟨by omega, fun h => k2 ⟨?_, by omega⟩⟩
      have := h.1
      rw [Bool.and_eq_true] at this
      exact this.2
  · omega
theorem Trk.stop {n : Int} {a b : Bool} {c d : Nat} (h : Trk n a c) (hn : 200 < n) : Trk n (a && b) (c + d) := by
  unfold Trk at *
  rcases h with ⟨h1, h2, h3⟩ | ⟨h1, h2⟩
  · omega
  · refine Or.inr ⟨hn, fun h => h2 ⟨?_, by omega⟩⟩
    have := h.1
    rw [Bool.and_eq_true] at this
    exact this.1
theorem Trk.bad {n : Int} {c : Nat} (hn : 200 < n) : Trk n false c := Or.inr ⟨hn, fun h => by cases h.1⟩
theorem Trk.pass {n : Int} {a b : Bool} {c d : Nat} (h : Trk n a c) (e : a = b) (e2 : c = d) : Trk n b d := e2 ▸ e ▸ h
theorem Trk.of_le {n : Int} {a : Bool} {c : Nat} (h : Trk n a c) (hn : n ≤ 200) : a = true ∧ n = c := by
  unfold Trk at h
  rcases h with ⟨h1, h2, h3⟩ | ⟨h1, h2⟩
  · exact ⟨h1, h3⟩
  · omega
theorem allZ_take (f : Tr → Int → Bool) (xs : List Tr) (d : Int) (i : Nat) (x : Tr) (hx : xs[i]? = some x) : allZ f (xs.take (i + 1)) d = (allZ f (xs.take i) d && f x d) := by
  unfold allZ
  rw [List.take_add_one, hx, List.all_append]
  simp
theorem sumZ_take (f : Tr → Nat) (xs : List Tr) (i : Nat) (x : Tr) (hx : xs[i]? = some x) : sumZ f (xs.take (i + 1)) = sumZ f (xs.take i) + f x := by
  unfold sumZ
  rw [List.take_add_one, hx, List.map_append, List.sum_append]
  simp
theorem allZ_split (f : Tr → Int → Bool) (xs : List Tr) (d : Int) (i : Nat) : allZ f xs d = (allZ f (xs.take i) d && allZ f (xs.drop i) d) := by
  unfold allZ
  rw [← List.all_append, List.take_append_drop]
theorem sumZ_split (f : Tr → Nat) (xs : List Tr) (i : Nat) : sumZ f xs = sumZ f (xs.take i) + sumZ f (xs.drop i) := by
  unfold sumZ
  rw [← List.sum_append, ← List.map_append, List.take_append_drop]
theorem atZ_of {l : List ByteArray} {i : Nat} {x : ByteArray} (h : l[i]? = some x) : atZ l i = x := by
  unfold atZ
  rw [List.getD_eq_getElem?_getD, h]
  rfl
end Go.Proofs.YtlaeenfeajkcfalGreat
namespace Go.Proofs.YtlaeenfeajkcfalGreat
open Go.ChangeShapes Go.WideShapes Go.ChangeAt Go.RowKit

theorem RowOf.take {α : Type} {K : Nat → Prop} {w : World} {R : α → List Value → Prop} {size : Nat} {o : Option Addr} {xs : List α} (h : RowOf K w R size o xs) (i : Nat) : RowOf K w R size o (xs.take i) := by
  intro hne
  obtain ⟨b, off, e, hk, hl, hc⟩ := h (by intro e; rw [e] at hne; simp at hne)
  refine ⟨b, off, e, hk, hl, fun j x hx => hc j x ?_⟩
  rw [List.getElem?_take] at hx
  split at hx
  · exact hx
  · cases hx

set_option maxHeartbeats 400000 in
theorem hasRow_any {K : Nat → Prop} (xs : List ByteArray) (n : Nat) (hn : xs.length = n) (o : Option Addr) (cap : Nat) (s : ByteArray) (w : World) (hl : xs.length ≤ maxLen) (hm : RowOf K w strR 1 o xs) :
    Calls Tryz.prog 61 #[.slice o n cap, .string s] w fun e w' => e = .returned (.bool (alikeB xs s)) ∧ w' = w := by
  subst hn
  have HM := hide hm
  have hl2 : xs.length ≤ 9223372036854775807 := hl
  clear hm hl
  go_enter Tryz.func61, Tryz.ntmps61
  go_wp2
  go_loop [5] (fun i => ∃ k : Nat, k ≤ xs.length ∧ i = .int .i64 k ∧ alikeB (xs.take k) s = false) (fun i => xs.length - (intOf i).toNat)
  case atStart => exact ⟨0, Nat.zero_le _, rfl, rfl⟩
  case round =>
    obtain ⟨k, hk, rfl, hnone⟩ := hrel
    have HN := hide hnone
    clear hnone
    by_cases hlt : k < xs.length
    · have hne : xs ≠ [] := by intro e; rw [e] at hlt; simp at hlt
      obtain ⟨b, off, eo, -, -, hcs⟩ := HM.out hne
      subst eo
      obtain ⟨_, -, hkey, rfl, -⟩ := hcs k _ (List.getElem?_eq_getElem hlt)
      have q0 := hkey 0 _ rfl
      rw [Nat.mul_one, Nat.add_zero] at q0
      clear hcs hne hkey
      go_wp2
      · go_ret
        exact ⟨ret_bool (any_yes xs s k hlt (by assumption)).symm, rfl⟩
      · go_round
        case rel => exact ⟨k + 1, by omega, by go_num, any_step xs s k hlt HN.out (by assumption)⟩
        case measure => simp [intOf]; omega
    · go_wp2
      go_ret
      refine ⟨ret_bool ?_, rfl⟩
      have h := HN.out
      rw [List.take_of_length_le (by omega)] at h
      exact h.symm

set_option maxHeartbeats 1000000 in
set_option maxRecDepth 100000 in
theorem l3Vars_any {K : Nat → Prop} (xs : List ByteArray) (o : Option Addr) (cap : Nat) (w : World) (hl : xs.length ≤ maxLen) (hc : xs.length ≤ cap) (hm : RowOf K w strR 1 o xs) :
    Calls Tryz.prog 56 #[.slice o xs.length cap] w fun e w' => e = .returned (.bool (varsB xs)) ∧ Below w.heap.size w w' := by
  have HM := hide hm
  have hl2 : xs.length ≤ 9223372036854775807 := hl
  have HL := hide hl
  clear hm hl
  go_enter Tryz.func56, Tryz.ntmps56
  go_wp2
  go_loopw [3] (fun t wr => ∃ k : Nat, k ≤ xs.length ∧ t = .int .i64 k ∧ varsTo xs k = true ∧ Below w.heap.size w wr) (fun t _ => xs.length - (intOf t).toNat)
  case atStart => exact ⟨0, Nat.zero_le _, rfl, rfl, Below.refl _ _⟩
  case round =>
    obtain ⟨k, hk, rfl, hv, hbw⟩ := hrel
    have HV := hide hv
    have HBW := hide hbw
    clear hv hbw
    by_cases hlt : k < xs.length
    · have hne : xs ≠ [] := by intro e; rw [e] at hlt; simp at hlt
      have hmr := HM.out.later HBW.out (fun _ _ h => h)
      have HMR := hide hmr
      obtain ⟨b, off, eo, -, hbl, hcs⟩ := hmr hne
      subst eo
      obtain ⟨x, hx⟩ : ∃ x, xs[k]? = some x := ⟨xs[k], List.getElem?_eq_getElem hlt⟩
      obtain ⟨_, -, hkey, rfl, hxs⟩ := hcs k _ hx
      have q0 := hkey 0 _ rfl
      rw [Nat.mul_one, Nat.add_zero] at q0
      have HX := hide (atZ_of hx)
      have HXS := hide hxs
      clear hcs hne hkey hx hxs
      have hlt2 : (k : Int) < xs.length := by omega
      have hkc : (k : Int) ≤ cap := by omega
      have hkc2 : k ≤ cap := by omega
      cases hu : isU x
      · have hu2 : (x.toList == [95]) = false := hu
        have HU := hide hu
        clear hu
        have hcq : ∀ q : Later wr, q.w.cell? ⟨b, off + k, none⟩ = some (.string x) := fun q => (q.h.cell (p := ⟨b, off + k, none⟩) hbl).trans q0
        have HMQ : Hid (∀ q : Later wr, RowOf K q.w strR 1 (some ⟨b, off, none⟩) (xs.take k)) := fun q => (HMR.out.take k).later q.h (fun _ _ h => h)
        cases hn : nmB x
        · have HN : Hid (nameB x.data.toList = false) := hn
          have HN2 := hide hn
          clear hn
          go_wp2_with fail
          have hne0 : Nonempty (Later wr) := later_nonempty wr
          refine wp_region_class (S := fun v => Below wr.heap.size wr v) (by kernel_rfl) (by kernel_rfl) (below_drew _) ?_
          repeat (first | go_big_quiet_skip | (go_big_quiet_want; go_big_quiet_op; first | go_big_quiet_on | (apply Exists.intro; refine ⟨fun q => ?_, ?_⟩; (first | (go_at_call 55; refine (specName_any _ _ HXS.out).mono ?_; rintro e w1 ⟨rfl, hb1⟩; rw [HN.out]; exact ⟨rfl, Later.on q hb1, rfl⟩)); go_big_quiet_on)))
          refine wpQuiet_nil ?_
          intro _ hw'
          obtain ⟨q, rfl⟩ := hw'
          go_wp2
          go_ret
          refine ⟨ret_bool ?_, HBW.out.trans (q.h.mono HBW.out.size)⟩
          have hf : varsTo xs (k + 1) = false := by
            show (varsTo xs k && _) = false
            rw [HX.out, HU.out, HN2.out]
            simp
          unfold varsB
          rw [varsTo_false hf hlt]
          rfl
        · have HN : Hid (nameB x.data.toList = true) := hn
          have HN2 := hide hn
          clear hn
          cases ha : alikeB (xs.take k) x
          · have HA := hide ha
            clear ha
            go_wp2_with fail
            have hne0 : Nonempty (Later wr) := later_nonempty wr
            refine wp_region_class (S := fun v => Below wr.heap.size wr v) (by kernel_rfl) (by kernel_rfl) (below_drew _) ?_
            repeat (first | go_big_quiet_skip | (go_big_quiet_want; go_big_quiet_op; first | go_big_quiet_on | (apply Exists.intro; refine ⟨fun q => ?_, ?_⟩; (first | (go_at_call 55; refine (specName_any _ _ HXS.out).mono ?_; rintro e w1 ⟨rfl, hb1⟩; rw [HN.out]; exact ⟨rfl, Later.on q hb1, rfl⟩) | (go_at_call 61; refine (hasRow_any (xs.take k) k (by rw [List.length_take]; omega) _ cap x _ (by rw [List.length_take]; exact Nat.le_trans (Nat.min_le_right _ _) HL.out) (HMQ.out q)).mono ?_; rintro e w2 ⟨rfl, rfl⟩; rw [HA.out]; exact ⟨rfl, q, rfl⟩)); go_big_quiet_on)))
            refine wpQuiet_nil ?_
            intro _ hw'
            obtain ⟨q, rfl⟩ := hw'
            go_wp2
            go_roundw
            case rel =>
              refine ⟨k + 1, by omega, by go_num, ?_, HBW.out.trans (q.h.mono HBW.out.size)⟩
              show (varsTo xs k && _) = true
              rw [HX.out, HU.out, HN2.out, HA.out, HV.out]
              rfl
            case measure => simp [intOf]; omega
          · have HA := hide ha
            clear ha
            go_wp2_with fail
            have hne0 : Nonempty (Later wr) := later_nonempty wr
            refine wp_region_class (S := fun v => Below wr.heap.size wr v) (by kernel_rfl) (by kernel_rfl) (below_drew _) ?_
            repeat (first | go_big_quiet_skip | (go_big_quiet_want; go_big_quiet_op; first | go_big_quiet_on | (apply Exists.intro; refine ⟨fun q => ?_, ?_⟩; (first | (go_at_call 55; refine (specName_any _ _ HXS.out).mono ?_; rintro e w1 ⟨rfl, hb1⟩; rw [HN.out]; exact ⟨rfl, Later.on q hb1, rfl⟩) | (go_at_call 61; refine (hasRow_any (xs.take k) k (by rw [List.length_take]; omega) _ cap x _ (by rw [List.length_take]; exact Nat.le_trans (Nat.min_le_right _ _) HL.out) (HMQ.out q)).mono ?_; rintro e w2 ⟨rfl, rfl⟩; rw [HA.out]; exact ⟨rfl, q, rfl⟩)); go_big_quiet_on)))
            refine wpQuiet_nil ?_
            intro _ hw'
            obtain ⟨q, rfl⟩ := hw'
            go_wp2
            go_ret
            refine ⟨ret_bool ?_, HBW.out.trans (q.h.mono HBW.out.size)⟩
            have hf : varsTo xs (k + 1) = false := by
              show (varsTo xs k && _) = false
              rw [HX.out, HU.out, HA.out]
              simp
            unfold varsB
            rw [varsTo_false hf hlt]
            rfl
      · have hu2 : (x.toList == [95]) = true := hu
        have HU := hide hu
        clear hu
        go_wp2
        refine ⟨⟨k + 1, by omega, by go_num, ?_, HBW.out⟩, by simp [intOf]; omega⟩
        show (varsTo xs k && _) = true
        rw [HX.out, HU.out, HV.out]
        rfl
    · go_wp2
      go_ret
      refine ⟨ret_bool ?_, HBW.out⟩
      have hk2 : k = xs.length := by omega
      have h := HV.out
      rw [hk2] at h
      unfold varsB
      rw [h, Bool.true_and]

end Go.Proofs.YtlaeenfeajkcfalGreat
namespace Go.Proofs.YtlaeenfeajkcfalGreat
open Go.ChangeShapes Go.WideShapes Go.ChangeAt Go.RowKit

def parB (s : ByteArray) : Bool := isU s || nmB s

set_option maxHeartbeats 400000 in
theorem parOk_any (s : ByteArray) (w : World) (hs : s.size ≤ maxLen) : Calls Tryz.prog 134 #[.string s] w fun e w' => e = .returned (.bool (parB s)) ∧ Below w.heap.size w w' := by
  cases hu : isU s
  · have hu2 : (s.toList == [95]) = false := hu
    have HU := hide hu
    clear hu
    go_enter Tryz.func134, Tryz.ntmps134
    go_wp2_with fail
    refine (implName_any _ _ hs).mono ?_
    rintro e w1 ⟨rfl, hb⟩
    have HB := hide hb
    clear hb
    go_wp2
    go_ret
    exact ⟨ret_bool (by unfold parB nmB; rw [HU.out, Bool.false_or]), HB.out⟩
  · have hu2 : (s.toList == [95]) = true := hu
    have HU := hide hu
    clear hu
    go_enter Tryz.func134, Tryz.ntmps134
    go_wp2
    go_ret
    exact ⟨ret_bool (by unfold parB; rw [HU.out, Bool.true_or]), Below.refl _ _⟩

set_option maxHeartbeats 400000 in
theorem isNoPar_any (s : ByteArray) (w : World) (hs : s.size ≤ maxLen) : Calls Tryz.prog 118 #[.string s] w fun e w' => e = .returned (.bool (!parB s)) ∧ Below w.heap.size w w' := by
  go_enter Tryz.func118, Tryz.ntmps118
  go_wp2_with fail
  refine (parOk_any _ _ hs).mono ?_
  rintro e w1 ⟨rfl, hb⟩
  have HB := hide hb
  clear hb
  go_wp2
  go_ret
  exact ⟨rfl, HB.out⟩

theorem alike_turn {l : List ByteArray} {k : Nat} {z s : ByteArray} (hz : l[k]? = some z) (h0 : alikeB (l.take k) s = false) (h1 : (s.toList == z.toList) = false) : alikeB (l.take (k + 1)) s = false := by
  unfold alikeB at *
  rw [List.take_add_one, hz, List.any_append, h0]
  rw [beq_turn] at h1
  simpa using h1

set_option maxHeartbeats 400000 in
theorem index_any {K : Nat → Prop} (xs : List ByteArray) (n : Nat) (hn : xs.length = n) (o : Option Addr) (cap : Nat) (s : ByteArray) (w : World) (hl : xs.length ≤ maxLen) (hm : RowOf K w strR 1 o xs) :
    Calls Tryz.prog 70 #[.slice o n cap, .string s] w fun e w' => ∃ r : Int, e = .returned (.int .i64 r) ∧ decide (0 ≤ r) = alikeB xs s ∧ w' = w := by
  subst hn
  have HM := hide hm
  have hl2 : xs.length ≤ 9223372036854775807 := hl
  clear hm hl
  go_enter Tryz.func70, Tryz.ntmps70
  go_wp2
  go_loop [8] (fun i => ∃ k : Nat, k ≤ xs.length ∧ i = .int .i64 k ∧ alikeB (xs.take k) s = false) (fun i => xs.length - (intOf i).toNat)
  case atStart => exact ⟨0, Nat.zero_le _, rfl, rfl⟩
  case round =>
    obtain ⟨k, hk, rfl, hnone⟩ := hrel
    have HN := hide hnone
    clear hnone
    by_cases hlt : k < xs.length
    · have hne : xs ≠ [] := by intro e; rw [e] at hlt; simp at hlt
      obtain ⟨b, off, eo, -, -, hcs⟩ := HM.out hne
      subst eo
      obtain ⟨z, hz⟩ : ∃ z, xs[k]? = some z := ⟨xs[k], List.getElem?_eq_getElem hlt⟩
      obtain ⟨_, -, hkey, rfl, -⟩ := hcs k _ hz
      have q0 := hkey 0 _ rfl
      rw [Nat.mul_one, Nat.add_zero] at q0
      have HZ := hide hz
      clear hcs hne hkey hz
      cases hq : (s.toList == z.toList)
      · go_wp2
        have hq2 := hq
        exact ⟨⟨k + 1, by omega, by go_num, alike_turn HZ.out HN.out hq2⟩, by simp [intOf]; omega⟩
      · go_wp2
        go_ret
        refine ⟨k, rfl, ?_, rfl⟩
        have hy : alikeB xs s = true := by
          unfold alikeB
          rw [List.any_eq_true]
          exact ⟨z, List.mem_of_getElem? HZ.out, by rw [beq_turn]; exact hq⟩
        rw [hy]
        exact decide_eq_true (by omega)
    · go_wp2
      go_ret
      refine ⟨-1, rfl, ?_, rfl⟩
      have h := HN.out
      rw [List.take_of_length_le (by omega)] at h
      rw [h]
      rfl

set_option maxHeartbeats 400000 in
theorem contains_any {K : Nat → Prop} (xs : List ByteArray) (n : Nat) (hn : xs.length = n) (o : Option Addr) (cap : Nat) (s : ByteArray) (w : World) (hl : xs.length ≤ maxLen) (hm : RowOf K w strR 1 o xs) :
    Calls Tryz.prog 39 #[.slice o n cap, .string s] w fun e w' => e = .returned (.bool (alikeB xs s)) ∧ w' = w := by
  have HM := hide hm
  clear hm
  go_enter Tryz.func39, Tryz.ntmps39
  go_wp2_with fail
  refine (index_any xs n hn o cap s _ hl HM.out).mono ?_
  rintro e w1 ⟨r, rfl, hr, rfl⟩
  have HR := hide hr
  clear hr
  go_wp2
  go_ret
  exact ⟨ret_bool HR.out, rfl⟩

set_option maxHeartbeats 1000000 in
set_option maxRecDepth 100000 in
theorem noTwo_any {K : Nat → Prop} (xs : List ByteArray) (n : Nat) (hn : xs.length = n) (o : Option Addr) (cap : Nat) (w : World) (hl : xs.length ≤ maxLen) (hc : xs.length ≤ cap) (hm : RowOf K w strR 1 o xs) :
    Calls Tryz.prog 67 #[.slice o n cap] w fun e w' => e = .returned (.bool (noTwoB xs)) ∧ w' = w := by
  subst hn
  have HM := hide hm
  have hl2 : xs.length ≤ 9223372036854775807 := hl
  have HL := hide hl
  clear hm hl
  go_enter Tryz.func67, Tryz.ntmps67
  go_wp2
  go_loop [7] (fun t => ∃ k : Nat, k ≤ xs.length ∧ t = .int .i64 k ∧ noTwoTo xs k = true) (fun t => xs.length - (intOf t).toNat)
  case atStart => exact ⟨0, Nat.zero_le _, rfl, rfl⟩
  case round =>
    obtain ⟨k, hk, rfl, hv⟩ := hrel
    have HV := hide hv
    clear hv
    by_cases hlt : k < xs.length
    · have hne : xs ≠ [] := by intro e; rw [e] at hlt; simp at hlt
      obtain ⟨b, off, eo, -, -, hcs⟩ := HM.out hne
      subst eo
      obtain ⟨x, hx⟩ : ∃ x, xs[k]? = some x := ⟨xs[k], List.getElem?_eq_getElem hlt⟩
      obtain ⟨_, -, hkey, rfl, hxs⟩ := hcs k _ hx
      have q0 := hkey 0 _ rfl
      rw [Nat.mul_one, Nat.add_zero] at q0
      have HX := hide (atZ_of hx)
      clear hcs hne hkey hx hxs
      have hlt2 : (k : Int) < xs.length := by omega
      have hkc : (k : Int) ≤ cap := by omega
      cases hu : isU x
      · have hu2 : (x.toList != [95]) = true := by show (!(isU x)) = true; rw [hu]; rfl
        have hu3 : (x.toList == [95]) = false := hu
        have HU := hide hu
        clear hu
        cases ha : alikeB (xs.take k) x
        all_goals
          have HA := hide ha
          clear ha
          go_wp2_with fail
          refine (contains_any (xs.take k) k (by rw [List.length_take]; omega) _ cap x _ (by rw [List.length_take]; exact Nat.le_trans (Nat.min_le_right _ _) HL.out) (HM.out.take k)).mono ?_
          rintro e w1 ⟨rfl, rfl⟩
          rw [HA.out]
          go_wp2
        · refine ⟨⟨k + 1, by omega, by go_num, ?_⟩, by simp [intOf]; omega⟩
          show (noTwoTo xs k && _) = true
          rw [HX.out, HU.out, HA.out, HV.out]
          rfl
        · go_ret
          refine ⟨ret_bool ?_, rfl⟩
          have hf : noTwoTo xs (k + 1) = false := by
            show (noTwoTo xs k && _) = false
            rw [HX.out, HU.out, HA.out]
            simp
          unfold noTwoB
          rw [noTwoTo_false hf hlt]
      · have hu2 : (x.toList != [95]) = false := by show (!(isU x)) = false; rw [hu]; rfl
        have hu3 : (x.toList == [95]) = true := hu
        have HU := hide hu
        clear hu
        go_wp2
        refine ⟨⟨k + 1, by omega, by go_num, ?_⟩, by simp [intOf]; omega⟩
        show (noTwoTo xs k && _) = true
        rw [HX.out, HU.out, HV.out]
        rfl
    · go_wp2
      go_ret
      refine ⟨ret_bool ?_, rfl⟩
      have hk2 : k = xs.length := by omega
      have h := HV.out
      rw [hk2] at h
      unfold noTwoB
      rw [h]

set_option maxHeartbeats 400000 in
theorem isOp_any (s : ByteArray) (w : World) : Calls Tryz.prog 149 #[.string s] w fun e w' => e = .returned (.bool (opB s)) ∧ w' = w := by
  go_enter Tryz.func149, Tryz.ntmps149
  go_wp2
  all_goals
    go_ret
    refine ⟨ret_bool ?_, rfl⟩
    unfold opB
    simp_all

set_option maxHeartbeats 400000 in
theorem indexFunc_any {K : Nat → Prop} (xs : List ByteArray) (o : Option Addr) (cap : Nat) (w : World) (hl : xs.length ≤ maxLen) (hm : RowOf K w strR 1 o xs) :
    Calls Tryz.prog 133 #[.slice o xs.length cap, .func (.func 118) #[] #[]] w fun e w' => ∃ r : Int, e = .returned (.int .i64 r) ∧ decide (0 ≤ r) = !parTo xs xs.length ∧ Below w.heap.size w w' := by
  have HM := hide hm
  have hl2 : xs.length ≤ 9223372036854775807 := hl
  clear hm hl
  go_enter Tryz.func133, Tryz.ntmps133
  go_wp2
  go_loopw [8] (fun t wr => ∃ k : Nat, k ≤ xs.length ∧ t = .int .i64 k ∧ parTo xs k = true ∧ Below w.heap.size w wr) (fun t _ => xs.length - (intOf t).toNat)
  case atStart => exact ⟨0, Nat.zero_le _, rfl, rfl, Below.refl _ _⟩
  case round =>
    obtain ⟨k, hk, rfl, hp, hbw⟩ := hrel
    have HP := hide hp
    have HBW := hide hbw
    clear hp hbw
    by_cases hlt : k < xs.length
    · have hne : xs ≠ [] := by intro e; rw [e] at hlt; simp at hlt
      obtain ⟨b, off, eo, -, -, hcs⟩ := (HM.out.later HBW.out fun _ _ h => h) hne
      subst eo
      obtain ⟨x, hx⟩ : ∃ x, xs[k]? = some x := ⟨xs[k], List.getElem?_eq_getElem hlt⟩
      obtain ⟨_, -, hkey, rfl, hxs⟩ := hcs k _ hx
      have q0 := hkey 0 _ rfl
      rw [Nat.mul_one, Nat.add_zero] at q0
      have HX := hide (atZ_of hx)
      have HXS := hide hxs
      clear hcs hne hkey hx hxs
      have hlt2 : (k : Int) < xs.length := by omega
      cases hpb : parB x
      all_goals
        have HPB := hide hpb
        clear hpb
        go_wp2_with fail
        refine (isNoPar_any x _ HXS.out).mono ?_
        rintro e w1 ⟨rfl, hb⟩
        rw [HPB.out]
        have HB := hide (HBW.out.trans (hb.mono HBW.out.size))
        clear hb
        go_wp2
      · go_ret
        refine ⟨k, rfl, ?_, HB.out⟩
        have hf : parTo xs (k + 1) = false := by
          show (parTo xs k && parB (atZ xs k)) = false
          rw [HX.out, HPB.out]
          simp
        rw [parTo_false hf hlt]
        exact decide_eq_true (by omega)
      · refine ⟨⟨k + 1, by omega, by go_num, ?_, HB.out⟩, by simp [intOf]; omega⟩
        show (parTo xs k && parB (atZ xs k)) = true
        rw [HX.out, HPB.out, HP.out]
        rfl
    · go_wp2
      go_ret
      refine ⟨-1, rfl, ?_, HBW.out⟩
      have h := HP.out
      rw [show k = xs.length by omega] at h
      rw [h]
      rfl

set_option maxHeartbeats 400000 in
theorem containsFunc_any {K : Nat → Prop} (xs : List ByteArray) (o : Option Addr) (cap : Nat) (w : World) (hl : xs.length ≤ maxLen) (hm : RowOf K w strR 1 o xs) :
    Calls Tryz.prog 117 #[.slice o xs.length cap, .func (.func 118) #[] #[]] w fun e w' => e = .returned (.bool (!parTo xs xs.length)) ∧ Below w.heap.size w w' := by
  have HM := hide hm
  clear hm
  go_enter Tryz.func117, Tryz.ntmps117
  go_wp2_with fail
  refine (indexFunc_any xs o cap _ hl HM.out).mono ?_
  rintro e w1 ⟨r, rfl, hr, hb⟩
  have HR := hide hr
  have HB := hide hb
  clear hr hb
  go_wp2
  go_ret
  exact ⟨ret_bool HR.out, HB.out⟩

set_option maxHeartbeats 400000 in
theorem parsOk_any {K : Nat → Prop} (xs : List ByteArray) (o : Option Addr) (cap : Nat) (w : World) (hl : xs.length ≤ maxLen) (hc : xs.length ≤ cap) (hm : RowOf K w strR 1 o xs) :
    Calls Tryz.prog 95 #[.slice o xs.length cap] w fun e w' => e = .returned (.bool (varsB xs)) ∧ Below w.heap.size w w' := by
  have HM := hide hm
  have hl2 : xs.length ≤ 9223372036854775807 := hl
  have HL := hide hl
  clear hm hl
  by_cases h4 : (xs.length : Int) ≤ 4
  · cases hp : parTo xs xs.length
    all_goals
      have HP := hide hp
      clear hp
      go_enter Tryz.func95, Tryz.ntmps95
      go_wp2_with fail
      refine (containsFunc_any xs o cap _ HL.out HM.out).mono ?_
      rintro e w1 ⟨rfl, hb⟩
      rw [HP.out]
      have HB := hide hb
      clear hb
    · go_wp2
      go_ret
      refine ⟨ret_bool ?_, HB.out⟩
      unfold varsB
      rw [to_vars, HP.out]
      rfl
    · go_wp2_with fail
      refine (noTwo_any xs xs.length rfl o cap _ HL.out hc (HM.out.later HB.out fun _ _ h => h)).mono ?_
      rintro e w2 ⟨rfl, rfl⟩
      go_wp2
      go_ret
      refine ⟨ret_bool ?_, HB.out⟩
      unfold varsB noTwoB
      rw [to_vars, HP.out, decide_eq_true h4]
      simp
  · go_enter Tryz.func95, Tryz.ntmps95
    go_wp2
    go_ret
    refine ⟨ret_bool ?_, Below.refl _ _⟩
    unfold varsB
    rw [decide_eq_false (show ¬ (xs.length : Int) ≤ 4 by omega)]
    simp

set_option maxHeartbeats 800000 in
set_option maxRecDepth 100000 in
theorem patOk_any {K : Nat → Prop} {w : World} {h : Nat} {x : Tr} {cs : List Value} (hr : (reads K w h).al x cs) :
    Calls Tryz.prog 157 #[.agg cs.toArray] w fun e w' => e = .returned (.bool (altB x)) ∧ Below w.heap.size w w' := by
  cases h with
  | zero => exact hr.elim
  | succ h =>
  obtain ⟨-, -, -, -, y, o1, c1, ce, -, rfl, hs, hl, q1, hce, -⟩ := hr
  obtain ⟨a0, a1, a2, a3, a4, a5, rfl⟩ := six hce
  simp only [List.cons_append, List.nil_append]
  have Q1 := hide q1
  have HL := hide hl
  have HS := hide hs
  have hl2 : x.ss.length ≤ 9223372036854775807 := hl.1
  clear q1 hl hs hce
  have HX0 : Hid ((w.alloc (.cells #[.string x.s, .slice o1 x.ss.length c1, a0, a1, a2, a3, a4, a5] 116)).heap[w.heap.size]? = some (.cells #[.string x.s, .slice o1 x.ss.length c1, a0, a1, a2, a3, a4, a5] 116 (0, 0))) := heap_alloc_new w _
  have HB0 : Hid (Below w.heap.size w (w.alloc (.cells #[.string x.s, .slice o1 x.ss.length c1, a0, a1, a2, a3, a4, a5] 116))) := (Below.refl _ w).alloc (Nat.le_refl _) _
  cases hm : emptyB x.s
  · have hm2 : (x.s.toList == []) = false := hm
    have hm3 : (x.s.toList != []) = true := by show (!(emptyB x.s)) = true; rw [hm]; rfl
    have HM := hide hm
    clear hm
    cases hg : grB x.s
    all_goals
      have HG : Hid (greatB x.s.data.toList = _) := hg
      have HG2 := hide hg
      clear hg
      go_enter Tryz.func157, Tryz.ntmps157
      go_wp2_with fail
      refine (implGreat_any _ _ HS.out).mono ?_
      rintro e w1 ⟨rfl, hb⟩
      rw [HG.out]
      have HB1 := hide (HB0.out.trans (hb.mono HB0.out.size))
      have HX1 := hide ((hb.block w.heap.size (heap_lt HX0.out)).trans HX0.out)
      clear hb
      have b1_1 := cell_of HX1.out 1
      simp only [List.getElem?_toArray, List.getElem?_cons_succ, List.getElem?_cons_zero] at b1_1
    · go_wp2
      go_ret
      refine ⟨ret_bool ?_, HB1.out⟩
      unfold altB
      rw [HG2.out, HM.out]
      simp
    · go_wp2_with fail
      refine (parsOk_any x.ss o1 c1 _ HL.out.1 HL.out.2 (Q1.out.later HB1.out fun _ _ h => h)).mono ?_
      rintro e w2 ⟨rfl, hb⟩
      have HB2 := hide (HB1.out.trans (hb.mono HB1.out.size))
      clear hb
      go_wp2
      go_ret
      refine ⟨ret_bool ?_, HB2.out⟩
      unfold altB
      rw [HG2.out]
      simp
  · have hm2 : (x.s.toList == []) = true := hm
    have hm3 : (x.s.toList != []) = false := by show (!(emptyB x.s)) = false; rw [hm]; rfl
    have HM := hide hm
    have HGR : Hid (grB x.s = false) := by
      show greatB x.s.data.toList = false
      have e : x.s.data.toList = [] := by rw [← toList_data]; exact eq_of_beq hm
      rw [e]
      decide
    clear hm
    by_cases h1 : (x.ss.length : Int) = 1
    · have h2 : ((x.ss.length : Int) != 1) = false := by simpa using h1
      have H1 := hide h1
      clear h1
      go_enter Tryz.func157, Tryz.ntmps157
      go_wp2_with fail
      refine (parsOk_any x.ss o1 c1 _ HL.out.1 HL.out.2 (Q1.out.later HB0.out fun _ _ h => h)).mono ?_
      rintro e w2 ⟨rfl, hb⟩
      have HB2 := hide (HB0.out.trans (hb.mono HB0.out.size))
      clear hb
      go_wp2
      go_ret
      refine ⟨ret_bool ?_, HB2.out⟩
      unfold altB
      rw [HM.out, decide_eq_true H1.out]
      simp
    · have h2 : ((x.ss.length : Int) != 1) = true := by simpa using h1
      have H1 := hide h1
      clear h1
      go_enter Tryz.func157, Tryz.ntmps157
      go_wp2
      go_ret
      refine ⟨ret_bool ?_, HB0.out⟩
      unfold altB
      rw [HGR.out, decide_eq_false H1.out]
      simp
end Go.Proofs.YtlaeenfeajkcfalGreat

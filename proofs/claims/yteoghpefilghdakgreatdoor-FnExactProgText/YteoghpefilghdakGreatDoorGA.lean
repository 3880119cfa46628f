/- Made of A, B, C, D. -/
import Derived.Test.YteoghpefilghdakGreatDoorBase
import Derived.WalkKit
import Derived.ProofKit
import Derived.WalkLawsBesides
import Derived.Lib.OthersKept
import Derived.Lib.Strings
namespace Go.Proofs.YteoghpefilghdakGreatDoor
open Go.RowKit

def inB (x a b : Int) : Bool := decide (a ≤ x) && decide (x ≤ b)
def letB (x : Int) : Bool := (inB x 97 122 || inB x 65 90) || inB x 48 57
theorem inB_tt {x a b : Int} (h1 : a ≤ x) (h2 : x ≤ b) : inB x a b = true := by simp [inB, h1, h2]
theorem inB_lo {x a b : Int} (h1 : x < a) : inB x a b = false := by simp [inB]; omega
theorem inB_hi {x a b : Int} (h2 : b < x) : inB x a b = false := by simp [inB]; omega


theorem in_any (x a b : Int) (w : World) : Calls Tryz.prog 51 #[.int .i64 x, .int .i64 a, .int .i64 b] w fun e w' => e = .returned (.bool (inB x a b)) ∧ w' = w := by
  by_cases h1 : a ≤ x
  · by_cases h2 : x ≤ b
    · go_enter Tryz.func51, Tryz.ntmps51
      go_wp2
      go_ret
      exact ⟨ret_bool (inB_tt (by omega) (by omega)).symm, rfl⟩
    · go_enter Tryz.func51, Tryz.ntmps51
      go_wp2
      go_ret
      exact ⟨ret_bool (inB_hi (by omega)).symm, rfl⟩
  · go_enter Tryz.func51, Tryz.ntmps51
    go_wp2
    go_ret
    exact ⟨ret_bool (inB_lo (by omega)).symm, rfl⟩

theorem isSmall_any (r : Int) (w : World) : Calls Tryz.prog 122 #[.int .i32 r] w fun e w' => e = .returned (.bool (inB r 97 122)) ∧ w' = w := by
  by_cases h1 : 97 ≤ r
  · by_cases h2 : r ≤ 122
    · go_enter Tryz.func122, Tryz.ntmps122
      go_wp2
      go_ret
      exact ⟨ret_bool (inB_tt (by omega) (by omega)).symm, rfl⟩
    · go_enter Tryz.func122, Tryz.ntmps122
      go_wp2
      go_ret
      exact ⟨ret_bool (inB_hi (by omega)).symm, rfl⟩
  · go_enter Tryz.func122, Tryz.ntmps122
    go_wp2
    go_ret
    exact ⟨ret_bool (inB_lo (by omega)).symm, rfl⟩
theorem isLarge_any (r : Int) (w : World) : Calls Tryz.prog 119 #[.int .i32 r] w fun e w' => e = .returned (.bool (inB r 65 90)) ∧ w' = w := by
  by_cases h1 : 65 ≤ r
  · by_cases h2 : r ≤ 90
    · go_enter Tryz.func119, Tryz.ntmps119
      go_wp2
      go_ret
      exact ⟨ret_bool (inB_tt (by omega) (by omega)).symm, rfl⟩
    · go_enter Tryz.func119, Tryz.ntmps119
      go_wp2
      go_ret
      exact ⟨ret_bool (inB_hi (by omega)).symm, rfl⟩
  · go_enter Tryz.func119, Tryz.ntmps119
    go_wp2
    go_ret
    exact ⟨ret_bool (inB_lo (by omega)).symm, rfl⟩
theorem isDigit_any (r : Int) (w : World) : Calls Tryz.prog 148 #[.int .i32 r] w fun e w' => e = .returned (.bool (inB r 48 57)) ∧ w' = w := by
  by_cases h1 : 48 ≤ r
  · by_cases h2 : r ≤ 57
    · go_enter Tryz.func148, Tryz.ntmps148
      go_wp2
      go_ret
      exact ⟨ret_bool (inB_tt (by omega) (by omega)).symm, rfl⟩
    · go_enter Tryz.func148, Tryz.ntmps148
      go_wp2
      go_ret
      exact ⟨ret_bool (inB_hi (by omega)).symm, rfl⟩
  · go_enter Tryz.func148, Tryz.ntmps148
    go_wp2
    go_ret
    exact ⟨ret_bool (inB_lo (by omega)).symm, rfl⟩
theorem small_any (c : UInt8) (w : World) : Calls Tryz.prog 79 #[.int .u8 c.toNat] w fun e w' => e = .returned (.bool (inB c.toNat 97 122)) ∧ w' = w := by
  have hc : c.toNat < 256 := c.toNat_lt
  go_enter Tryz.func79, Tryz.ntmps79
  go_wp2_with (go_at_call 51; refine (in_any _ _ _ _).mono ?_; rintro e w' ⟨rfl, rfl⟩)
  go_ret
  exact ⟨rfl, rfl⟩

theorem large_any (c : UInt8) (w : World) : Calls Tryz.prog 77 #[.int .u8 c.toNat] w fun e w' => e = .returned (.bool (inB c.toNat 65 90)) ∧ w' = w := by
  have hc : c.toNat < 256 := c.toNat_lt
  go_enter Tryz.func77, Tryz.ntmps77
  go_wp2_with (go_at_call 51; refine (in_any _ _ _ _).mono ?_; rintro e w' ⟨rfl, rfl⟩)
  go_ret
  exact ⟨rfl, rfl⟩

theorem digit_any (c : UInt8) (w : World) : Calls Tryz.prog 138 #[.int .u8 c.toNat] w fun e w' => e = .returned (.bool (inB c.toNat 48 57)) ∧ w' = w := by
  have hc : c.toNat < 256 := c.toNat_lt
  go_enter Tryz.func138, Tryz.ntmps138
  go_wp2_with (go_at_call 51; refine (in_any _ _ _ _).mono ?_; rintro e w' ⟨rfl, rfl⟩)
  go_ret
  exact ⟨rfl, rfl⟩

theorem isLetter_any (r : Int) (w : World) : Calls Tryz.prog 147 #[.int .i32 r] w fun e w' => e = .returned (.bool (inB r 97 122 || inB r 65 90)) ∧ w' = w := by
  cases h1 : inB r 97 122
  · have H1 := hide h1
    clear h1
    go_enter Tryz.func147, Tryz.ntmps147
    go_wp2_with fail
    refine (isSmall_any _ _).mono ?_
    rintro e w' ⟨rfl, rfl⟩
    rw [H1.out]
    go_wp2_with (go_at_call 119; refine (isLarge_any _ _).mono ?_; rintro e w' ⟨rfl, rfl⟩)
    go_ret
    exact ⟨ret_bool (by simp), rfl⟩
  · have H1 := hide h1
    clear h1
    go_enter Tryz.func147, Tryz.ntmps147
    go_wp2_with fail
    refine (isSmall_any _ _).mono ?_
    rintro e w' ⟨rfl, rfl⟩
    rw [H1.out]
    go_wp2
    go_ret
    exact ⟨ret_bool (by simp), rfl⟩
theorem isLetterOrDigit_any (r : Int) (w : World) : Calls Tryz.prog 140 #[.int .i32 r] w fun e w' => e = .returned (.bool (letB r)) ∧ w' = w := by
  cases h1 : (inB r 97 122 || inB r 65 90)
  · have H1 := hide h1
    clear h1
    go_enter Tryz.func140, Tryz.ntmps140
    go_wp2_with fail
    refine (isLetter_any _ _).mono ?_
    rintro e w' ⟨rfl, rfl⟩
    rw [H1.out]
    go_wp2_with (go_at_call 148; refine (isDigit_any _ _).mono ?_; rintro e w' ⟨rfl, rfl⟩)
    go_ret
    exact ⟨ret_bool (by rw [letB, H1.out]; simp), rfl⟩
  · have H1 := hide h1
    clear h1
    go_enter Tryz.func140, Tryz.ntmps140
    go_wp2_with fail
    refine (isLetter_any _ _).mono ?_
    rintro e w' ⟨rfl, rfl⟩
    rw [H1.out]
    go_wp2
    go_ret
    exact ⟨ret_bool (by rw [letB, H1.out]; simp), rfl⟩
theorem letter_any (c : UInt8) (w : World) : Calls Tryz.prog 113 #[.int .u8 c.toNat] w fun e w' => e = .returned (.bool (letB c.toNat)) ∧ w' = w := by
  have hc : c.toNat < 256 := c.toNat_lt
  cases h1 : inB c.toNat 97 122
  · cases h2 : inB c.toNat 65 90
    · have H1 := hide h1
      have H2 := hide h2
      clear h1 h2
      go_enter Tryz.func113, Tryz.ntmps113
      go_wp2_with fail
      refine (small_any _ _).mono ?_
      rintro e w' ⟨rfl, rfl⟩
      rw [H1.out]
      go_wp2_with fail
      refine (large_any _ _).mono ?_
      rintro e w' ⟨rfl, rfl⟩
      rw [H2.out]
      go_wp2_with fail
      refine (digit_any _ _).mono ?_
      rintro e w' ⟨rfl, rfl⟩
      go_wp2
      go_ret
      exact ⟨ret_bool (by rw [letB, H1.out, H2.out]; simp), rfl⟩
    · have H1 := hide h1
      have H2 := hide h2
      clear h1 h2
      go_enter Tryz.func113, Tryz.ntmps113
      go_wp2_with fail
      refine (small_any _ _).mono ?_
      rintro e w' ⟨rfl, rfl⟩
      rw [H1.out]
      go_wp2_with fail
      refine (large_any _ _).mono ?_
      rintro e w' ⟨rfl, rfl⟩
      rw [H2.out]
      go_wp2
      go_ret
      exact ⟨ret_bool (by rw [letB, H1.out, H2.out]; simp), rfl⟩
  · have H1 := hide h1
    clear h1
    go_enter Tryz.func113, Tryz.ntmps113
    go_wp2_with fail
    refine (small_any _ _).mono ?_
    rintro e w' ⟨rfl, rfl⟩
    rw [H1.out]
    go_wp2
    go_ret
    exact ⟨ret_bool (by rw [letB, H1.out]; simp), rfl⟩
end Go.Proofs.YteoghpefilghdakGreatDoor
namespace Go.Proofs.YteoghpefilghdakGreatDoor
open Go.RowKit

def isW (l : List UInt8) : Bool := l == [108, 101, 116] || l == [105, 110] || l == [119, 104, 101, 114, 101] || l == [99, 97, 115, 101] || l == [111, 102] || l == [105, 102] || l == [116, 104, 101, 110] || l == [101, 108, 115, 101] || l == [100, 97, 116, 97]

theorem isWord_any (s : ByteArray) (w : World) : Calls Tryz.prog 123 #[.string s] w fun e w' => e = .returned (.bool (isW s.toList)) ∧ w' = w := by
  go_enter Tryz.func123, Tryz.ntmps123
  go_wp2
  all_goals
    go_ret
    refine ⟨ret_bool ?_, rfl⟩
    simp_all [isW]
theorem any_yes (ss : List ByteArray) (s : ByteArray) (k : Nat) (h : k < ss.length) (hk : (ss[k].toList == s.toList) = true) : (ss.any fun t => t.toList == s.toList) = true := by
  rw [List.any_eq_true]
  exact ⟨ss[k], List.getElem_mem h, hk⟩
theorem any_step (ss : List ByteArray) (s : ByteArray) (k : Nat) (h : k < ss.length) (h0 : ((ss.take k).any fun t => t.toList == s.toList) = false) (hk : (ss[k].toList == s.toList) = false) :
    ((ss.take (k + 1)).any fun t => t.toList == s.toList) = false := by
  rw [List.take_succ_eq_append_getElem h, List.any_append, h0]
  simpa using hk

set_option maxHeartbeats 400000 in
theorem has_any (ss : List ByteArray) (b n : Nat) (hn : ss.length = n) (hm : n ≤ 1000) (s : ByteArray) (w : World) (hc : ∀ i, i < n → w.cell? ⟨b, i, none⟩ = some (.string (ss.getD i ByteArray.empty))) :
    Calls Tryz.prog 78 #[.slice (some ⟨b, 0, none⟩) n n, .string s] w fun e w' => e = .returned (.bool (ss.any fun t => t.toList == s.toList)) ∧ w' = w := by
  go_enter Tryz.func78, Tryz.ntmps78
  go_wp2
  go_loop [5] (fun i => ∃ k : Nat, k ≤ n ∧ i = .int .i64 k ∧ ((ss.take k).any fun t => t.toList == s.toList) = false) (fun i => n - (intOf i).toNat)
  case atStart => exact ⟨0, Nat.zero_le _, rfl, rfl⟩
  case round =>
    obtain ⟨k, hk, rfl, hnone⟩ := hrel
    have HN := hide hnone
    clear hnone
    by_cases hlt : k < n
    · have hck := hc k hlt
      go_wp2
      · go_ret
        exact ⟨ret_bool (any_yes ss s k (by omega) (by assumption)).symm, rfl⟩
      · go_round
        case rel => exact ⟨k + 1, by omega, by go_num, any_step ss s k (by omega) HN.out (by assumption)⟩
        case measure => simp [intOf]; omega
    · go_wp2
      go_ret
      refine ⟨ret_bool ?_, rfl⟩
      have h := HN.out
      rw [List.take_of_length_le (by omega)] at h
      exact h.symm

def wordsL : List ByteArray := [⟨#[108, 101, 116]⟩, ⟨#[105, 110]⟩, ⟨#[119, 104, 101, 114, 101]⟩, ⟨#[99, 97, 115, 101]⟩, ⟨#[111, 102]⟩, ⟨#[105, 102]⟩, ⟨#[116, 104, 101, 110]⟩, ⟨#[101, 108, 115, 101]⟩, ⟨#[100, 97, 116, 97]⟩]
theorem words_lists : wordsL.map ByteArray.toList = [[108, 101, 116], [105, 110], [119, 104, 101, 114, 101], [99, 97, 115, 101], [111, 102], [105, 102], [116, 104, 101, 110], [101, 108, 115, 101], [100, 97, 116, 97]] := by kernel_rfl
theorem beq_turn (a b : List UInt8) : (a == b) = (b == a) := by rw [Bool.eq_iff_iff, beq_iff_eq, beq_iff_eq]; exact eq_comm
theorem words_isW (s : ByteArray) : (wordsL.any fun t => t.toList == s.toList) = isW s.toList := by
  have h : (wordsL.any fun t => t.toList == s.toList) = (wordsL.map ByteArray.toList).any fun t => s.toList == t := by
    rw [List.any_map]
    congr 1
    funext t
    exact beq_turn _ _
  rw [h, words_lists]
  simp [isW, List.any_cons, Bool.or_assoc]

theorem isWord1_any (s : ByteArray) (w : World) : Calls Tryz.prog 80 #[.string s] w fun e w' => e = .returned (.bool (isW s.toList)) ∧ Below w.heap.size w w' := by
  go_enter Tryz.func80, Tryz.ntmps80
  go_wp2_with fail
  refine (has_any wordsL w.heap.size 9 rfl (by omega) s _ ?_).mono ?_
  · intro i hi
    rw [World.cell?_alloc_new]
    match i, hi with
    | 0, _ => rfl
    | 1, _ => rfl
    | 2, _ => rfl
    | 3, _ => rfl
    | 4, _ => rfl
    | 5, _ => rfl
    | 6, _ => rfl
    | 7, _ => rfl
    | 8, _ => rfl
  rintro e w' ⟨rfl, rfl⟩
  rw [words_isW]
  go_wp2
  go_ret
  exact ⟨rfl, (Below.refl _ _).alloc (Nat.le_refl _) _⟩
end Go.Proofs.YteoghpefilghdakGreatDoor
namespace Go.Proofs.YteoghpefilghdakGreatDoor
open Go.RowKit

def allLet (l : List UInt8) : Bool := l.all fun c => letB c.toNat
def lettersB (l : List UInt8) : Bool := allLet l && inB l.length 1 8
def shapeB (lo hi : Int) (l : List UInt8) : Bool := lettersB l && inB (l.headD 0).toNat lo hi

theorem take_snoc (s : ByteArray) (k : Nat) (h : k < s.size) : s.data.toList.take (k + 1) = s.data.toList.take k ++ [s[k]] := by
  rw [List.take_succ_eq_append_getElem (by simpa using h)]; rfl
theorem allLet_step (s : ByteArray) (k : Nat) (h : k < s.size) (h0 : allLet (s.data.toList.take k) = true) (h1 : letB (s[k].toNat : Int) = true) : allLet (s.data.toList.take (k + 1)) = true := by
  rw [take_snoc s k h]
  unfold allLet at *
  rw [List.all_append, h0]
  simp [h1]
theorem allLet_no (s : ByteArray) (k : Nat) (h : k < s.size) (h1 : letB (s[k].toNat : Int) = false) : allLet s.data.toList = false := by
  unfold allLet
  rw [List.all_eq_false]
  exact ⟨s[k], by rw [show s[k] = s.data.toList[k]'(by simpa using h) from rfl]; exact List.getElem_mem _, by simp [h1]⟩
theorem data_length (s : ByteArray) : s.data.toList.length = s.size := by rw [Array.length_toList]; rfl

set_option maxHeartbeats 400000 in
theorem letters_any (s : ByteArray) (w : World) (hs : s.size ≤ maxLen) :
    Calls Tryz.prog 76 #[.string s] w fun e w' => e = .returned (.bool (lettersB s.data.toList)) ∧ w' = w := by
  unfold maxLen at hs
  go_enter Tryz.func76, Tryz.ntmps76
  go_wp2
  go_loop [3] (fun i => ∃ k : Nat, k ≤ s.size ∧ i = .int .i64 k ∧ allLet (s.data.toList.take k) = true) (fun i => s.size - (intOf i).toNat)
  case atStart => exact ⟨0, Nat.zero_le _, rfl, rfl⟩
  case round =>
    obtain ⟨k, hk, rfl, hall⟩ := hrel
    have HN := hide hall
    clear hall
    by_cases hlt : k < s.size
    · cases hl : letB (s[k].toNat : Int)
      · have HL := hide hl
        clear hl
        go_wp2_with fail
        refine (letter_any _ _).mono ?_
        rintro e w' ⟨rfl, rfl⟩
        rw [HL.out]
        go_wp2
        go_ret
        exact ⟨ret_bool (by rw [lettersB, allLet_no s k hlt HL.out]; rfl), rfl⟩
      · have HL := hide hl
        clear hl
        go_wp2_with fail
        refine (letter_any _ _).mono ?_
        rintro e w' ⟨rfl, rfl⟩
        rw [HL.out]
        go_wp2
        go_round
        case rel => exact ⟨k + 1, by omega, by go_num, allLet_step s k hlt HN.out HL.out⟩
        case measure => simp [intOf]; omega
    · go_wp2_with fail
      refine (in_any _ _ _ _).mono ?_
      rintro e w' ⟨rfl, rfl⟩
      go_wp2
      go_ret
      refine ⟨ret_bool ?_, rfl⟩
      have h := HN.out
      rw [List.take_of_length_le (by rw [data_length]; omega)] at h
      rw [lettersB, h, data_length]
      rfl

theorem shapeB_size (lo hi : Int) (l : List UInt8) (h : inB l.length 1 8 = false) : shapeB lo hi l = false := by simp [shapeB, lettersB, h]
theorem shapeB_let (lo hi : Int) (l : List UInt8) (h : allLet l = false) : shapeB lo hi l = false := by simp [shapeB, lettersB, h]
theorem shapeB_first (lo hi : Int) (s : ByteArray) (h0 : 0 < s.size) (h : inB (s[0].toNat : Int) lo hi = false) : shapeB lo hi s.data.toList = false := by
  have e : s.data.toList.headD 0 = s[0] := by
    rw [List.headD_eq_head?_getD, List.head?_eq_getElem?, List.getElem?_eq_getElem (by rw [data_length]; omega)]
    rfl
  rw [shapeB, e, h, Bool.and_false]
theorem shapeB_yes (lo hi : Int) (s : ByteArray) (h0 : 0 < s.size) (h8 : s.size ≤ 8) (hl : allLet s.data.toList = true) (h : inB (s[0].toNat : Int) lo hi = true) : shapeB lo hi s.data.toList = true := by
  have e : s.data.toList.headD 0 = s[0] := by
    rw [List.headD_eq_head?_getD, List.head?_eq_getElem?, List.getElem?_eq_getElem (by rw [data_length]; omega)]
    rfl
  rw [shapeB, e, h, lettersB, hl, data_length, inB_tt (by omega) (by omega)]
  rfl

theorem toList_data (s : ByteArray) : s.toList = s.data.toList := ByteArray.toList_eq s

/-- The rune at a place, against the byte there. -/
theorem rune_facts (s : ByteArray) (pos : Nat) (h : pos < s.size) : ∃ r d : Nat, Utf8.decode s pos = (r, d) ∧ letB (r : Int) = letB (s[pos].toNat : Int) ∧ inB (r : Int) 97 122 = inB (s[pos].toNat : Int) 97 122 ∧ inB (r : Int) 65 90 = inB (s[pos].toNat : Int) 65 90 ∧ (letB (s[pos].toNat : Int) = true → d = 1) := by
  by_cases ha : (s[pos]'h).toNat < 128
  · exact ⟨(s[pos]'h).toNat, 1, decode_ascii s pos h ha, rfl, rfl, rfl, fun _ => rfl⟩
  · have hd := decode_high s pos h (by omega)
    refine ⟨(Utf8.decode s pos).1, (Utf8.decode s pos).2, rfl, ?_, ?_, ?_, ?_⟩
    · rw [letB, letB, inB_hi (by omega), inB_hi (by omega), inB_hi (by omega), inB_hi (by omega), inB_hi (by omega), inB_hi (by omega)]
    · rw [inB_hi (by omega), inB_hi (by omega)]
    · rw [inB_hi (by omega), inB_hi (by omega)]
    · rw [letB, inB_hi (by omega), inB_hi (by omega), inB_hi (by omega)]
      simp

theorem next_eq (wr : World) (k : Nat) (s : ByteArray) (pos r d : Nat) (ty : TypeId) (hk : wr.heap[k]? = some (.stringIter s pos)) (h : pos < s.size) (hd : Utf8.decode s pos = (r, d)) :
    (Instr.next (.pointer (some ⟨k, 0, none⟩)) true ty).run Tryz.prog wr = .ok (.tuple #[.bool true, .int .i64 pos, .int .i32 r]) (wr.iterAt k s (pos + d)) := by
  rw [Lib.run_next_any_at wr k s pos ty hk h, hd]

theorem iterPos_at (wr : World) (k : Nat) (s : ByteArray) (pos : Nat) (hk : wr.heap[k]? = some (.stringIter s pos)) : wr.iterPos k = pos := by
  simp [World.iterPos, hk]

set_option maxHeartbeats 400000 in
theorem shapeSmall_any (s : ByteArray) (w : World) (hs : s.size ≤ maxLen) :
    Calls Tryz.prog 118 #[.string s, .func (.func 122) #[] #[]] w fun e w' => e = .returned (.bool (shapeB 97 122 s.data.toList)) ∧ Below w.heap.size w w' := by
  unfold maxLen at hs
  by_cases h0 : s.size = 0
  · have he : s.toList.isEmpty = true := by rw [toList_data, List.isEmpty_iff_length_eq_zero, data_length]; exact h0
    go_enter Tryz.func118, Tryz.ntmps118
    go_wp2
    go_ret
    exact ⟨ret_bool (shapeB_size _ _ _ (inB_lo (by rw [data_length]; omega))).symm, Below.refl _ _⟩
  have he : s.toList.isEmpty = false := by
    rw [Bool.eq_false_iff, Ne, toList_data, List.isEmpty_iff_length_eq_zero, data_length]; exact h0
  by_cases h8 : 8 < s.size
  · have h8' : (8 : Int) < s.size := by omega
    go_enter Tryz.func118, Tryz.ntmps118
    go_wp2
    go_ret
    exact ⟨ret_bool (shapeB_size _ _ _ (inB_hi (by rw [data_length]; omega))).symm, Below.refl _ _⟩
  have h8' : ¬ (8 : Int) < s.size := by omega
  go_enter Tryz.func118, Tryz.ntmps118
  go_wp2
  go_loopw [] (fun wr => ∃ pos : Nat, wr.heap[w.heap.size]? = some (.stringIter s pos) ∧ Below w.heap.size w wr ∧ pos ≤ s.size ∧ allLet (s.data.toList.take pos) = true ∧ (∀ h : 0 < s.size, 0 < pos → inB (s[0].toNat : Int) 97 122 = true)) (fun wr => s.size - wr.iterPos w.heap.size)
  case atStart =>
    exact ⟨0, World.iter_heap w s 0, (Below.refl _ w).alloc (Nat.le_refl _) _, by omega, rfl, by omega⟩
  case round =>
    obtain ⟨pos, hit, hbw, hpos, hall, hfst⟩ := hrel
    have HN := hide hall
    have HF := hide hfst
    clear hall hfst
    by_cases hp : pos < s.size
    · obtain ⟨r, d, hdec, hlet, hsm, hla, hone⟩ := rune_facts s pos hp
      have hnx : ∀ ty, (Instr.next (.pointer (some ⟨w.heap.size, 0, none⟩)) true ty).run Tryz.prog wr = _ := fun ty => next_eq wr w.heap.size s pos r d ty hit hp hdec
      have HL := hide hlet
      have HO := hide hone
      have H1 := hide hsm
      have hit2 := hide (Lib.iterAt_heap wr w.heap.size s pos (pos + d) hit)
      have hbw2 := hide (Lib.below_iterAt hbw (k := w.heap.size) (Nat.le_refl _) s (pos + d))
      clear hlet hsm hla hone hdec
      by_cases hp0 : pos = 0
      · subst hp0
        cases hf : inB (r : Int) 97 122
        · have HFF := hide hf
          clear hf
          go_wp2_with fail
          refine (isSmall_any _ _).mono ?_
          rintro e w' ⟨rfl, rfl⟩
          rw [HFF.out]
          go_wp2
          go_ret
          exact ⟨ret_bool (shapeB_first _ _ s (by omega) (H1.out.symm.trans HFF.out)).symm, by have h := hbw2.out; rwa [Nat.zero_add] at h⟩
        · have HFF := hide hf
          clear hf
          cases hl : letB (r : Int)
          · have HLL := hide hl
            clear hl
            go_wp2_with fail
            refine (isSmall_any _ _).mono ?_
            rintro e w' ⟨rfl, rfl⟩
            rw [HFF.out]
            go_wp2_with fail
            refine (isLetterOrDigit_any _ _).mono ?_
            rintro e w' ⟨rfl, rfl⟩
            rw [HLL.out]
            go_wp2
            go_ret
            exact ⟨ret_bool (shapeB_let _ _ _ (allLet_no s 0 hp (HL.out.symm.trans HLL.out))).symm, by have h := hbw2.out; rwa [Nat.zero_add] at h⟩
          · have HLL := hide hl
            clear hl
            go_wp2_with fail
            refine (isSmall_any _ _).mono ?_
            rintro e w' ⟨rfl, rfl⟩
            rw [HFF.out]
            go_wp2_with fail
            refine (isLetterOrDigit_any _ _).mono ?_
            rintro e w' ⟨rfl, rfl⟩
            rw [HLL.out]
            go_wp2
            go_roundw
            case rel =>
              have hd : d = 1 := HO.out (HL.out.symm.trans HLL.out)
              subst hd
              exact ⟨0 + 1, hit2.out, hbw2.out, by omega, allLet_step s 0 hp HN.out (HL.out.symm.trans HLL.out), fun h _ => H1.out.symm.trans HFF.out⟩
            case measure =>
              have hd : d = 1 := HO.out (HL.out.symm.trans HLL.out)
              subst hd
              rw [iterPos_at _ _ s _ hit2.out, iterPos_at _ _ s _ hit]
              omega
      · have hp0' : ((pos : Int) == 0) = false := by simp; omega
        cases hl : letB (r : Int)
        · have HLL := hide hl
          clear hl
          go_wp2_with fail
          refine (isLetterOrDigit_any _ _).mono ?_
          rintro e w' ⟨rfl, rfl⟩
          rw [HLL.out]
          go_wp2
          go_ret
          exact ⟨ret_bool (shapeB_let _ _ _ (allLet_no s pos hp (HL.out.symm.trans HLL.out))).symm, hbw2.out⟩
        · have HLL := hide hl
          clear hl
          go_wp2_with fail
          refine (isLetterOrDigit_any _ _).mono ?_
          rintro e w' ⟨rfl, rfl⟩
          rw [HLL.out]
          go_wp2
          go_roundw
          case rel =>
            have hd : d = 1 := HO.out (HL.out.symm.trans HLL.out)
            subst hd
            exact ⟨pos + 1, hit2.out, hbw2.out, by omega, allLet_step s pos hp HN.out (HL.out.symm.trans HLL.out), fun h _ => HF.out h (by omega)⟩
          case measure =>
            have hd : d = 1 := HO.out (HL.out.symm.trans HLL.out)
            subst hd
            rw [iterPos_at _ _ s _ hit2.out, iterPos_at _ _ s _ hit]
            omega
    · have hnx : ∀ ty, (Instr.next (.pointer (some ⟨w.heap.size, 0, none⟩)) true ty).run Tryz.prog wr = _ := fun ty => Lib.run_next_end_at wr w.heap.size s pos ty hit hp
      have hbw2 := hide hbw
      clear hbw
      go_wp2
      go_ret
      have h := HN.out
      rw [List.take_of_length_le (by rw [data_length]; omega)] at h
      exact ⟨ret_bool (shapeB_yes _ _ s (by omega) (by omega) h (HF.out (by omega) (by omega))).symm, hbw2.out⟩
set_option maxHeartbeats 400000 in
theorem shapeLarge_any (s : ByteArray) (w : World) (hs : s.size ≤ maxLen) :
    Calls Tryz.prog 118 #[.string s, .func (.func 119) #[] #[]] w fun e w' => e = .returned (.bool (shapeB 65 90 s.data.toList)) ∧ Below w.heap.size w w' := by
  unfold maxLen at hs
  by_cases h0 : s.size = 0
  · have he : s.toList.isEmpty = true := by rw [toList_data, List.isEmpty_iff_length_eq_zero, data_length]; exact h0
    go_enter Tryz.func118, Tryz.ntmps118
    go_wp2
    go_ret
    exact ⟨ret_bool (shapeB_size _ _ _ (inB_lo (by rw [data_length]; omega))).symm, Below.refl _ _⟩
  have he : s.toList.isEmpty = false := by
    rw [Bool.eq_false_iff, Ne, toList_data, List.isEmpty_iff_length_eq_zero, data_length]; exact h0
  by_cases h8 : 8 < s.size
  · have h8' : (8 : Int) < s.size := by omega
    go_enter Tryz.func118, Tryz.ntmps118
    go_wp2
    go_ret
    exact ⟨ret_bool (shapeB_size _ _ _ (inB_hi (by rw [data_length]; omega))).symm, Below.refl _ _⟩
  have h8' : ¬ (8 : Int) < s.size := by omega
  go_enter Tryz.func118, Tryz.ntmps118
  go_wp2
  go_loopw [] (fun wr => ∃ pos : Nat, wr.heap[w.heap.size]? = some (.stringIter s pos) ∧ Below w.heap.size w wr ∧ pos ≤ s.size ∧ allLet (s.data.toList.take pos) = true ∧ (∀ h : 0 < s.size, 0 < pos → inB (s[0].toNat : Int) 65 90 = true)) (fun wr => s.size - wr.iterPos w.heap.size)
  case atStart =>
    exact ⟨0, World.iter_heap w s 0, (Below.refl _ w).alloc (Nat.le_refl _) _, by omega, rfl, by omega⟩
  case round =>
    obtain ⟨pos, hit, hbw, hpos, hall, hfst⟩ := hrel
    have HN := hide hall
    have HF := hide hfst
    clear hall hfst
    by_cases hp : pos < s.size
    · obtain ⟨r, d, hdec, hlet, hsm, hla, hone⟩ := rune_facts s pos hp
      have hnx : ∀ ty, (Instr.next (.pointer (some ⟨w.heap.size, 0, none⟩)) true ty).run Tryz.prog wr = _ := fun ty => next_eq wr w.heap.size s pos r d ty hit hp hdec
      have HL := hide hlet
      have HO := hide hone
      have H1 := hide hla
      have hit2 := hide (Lib.iterAt_heap wr w.heap.size s pos (pos + d) hit)
      have hbw2 := hide (Lib.below_iterAt hbw (k := w.heap.size) (Nat.le_refl _) s (pos + d))
      clear hlet hsm hla hone hdec
      by_cases hp0 : pos = 0
      · subst hp0
        cases hf : inB (r : Int) 65 90
        · have HFF := hide hf
          clear hf
          go_wp2_with fail
          refine (isLarge_any _ _).mono ?_
          rintro e w' ⟨rfl, rfl⟩
          rw [HFF.out]
          go_wp2
          go_ret
          exact ⟨ret_bool (shapeB_first _ _ s (by omega) (H1.out.symm.trans HFF.out)).symm, by have h := hbw2.out; rwa [Nat.zero_add] at h⟩
        · have HFF := hide hf
          clear hf
          cases hl : letB (r : Int)
          · have HLL := hide hl
            clear hl
            go_wp2_with fail
            refine (isLarge_any _ _).mono ?_
            rintro e w' ⟨rfl, rfl⟩
            rw [HFF.out]
            go_wp2_with fail
            refine (isLetterOrDigit_any _ _).mono ?_
            rintro e w' ⟨rfl, rfl⟩
            rw [HLL.out]
            go_wp2
            go_ret
            exact ⟨ret_bool (shapeB_let _ _ _ (allLet_no s 0 hp (HL.out.symm.trans HLL.out))).symm, by have h := hbw2.out; rwa [Nat.zero_add] at h⟩
          · have HLL := hide hl
            clear hl
            go_wp2_with fail
            refine (isLarge_any _ _).mono ?_
            rintro e w' ⟨rfl, rfl⟩
            rw [HFF.out]
            go_wp2_with fail
            refine (isLetterOrDigit_any _ _).mono ?_
            rintro e w' ⟨rfl, rfl⟩
            rw [HLL.out]
            go_wp2
            go_roundw
            case rel =>
              have hd : d = 1 := HO.out (HL.out.symm.trans HLL.out)
              subst hd
              exact ⟨0 + 1, hit2.out, hbw2.out, by omega, allLet_step s 0 hp HN.out (HL.out.symm.trans HLL.out), fun h _ => H1.out.symm.trans HFF.out⟩
            case measure =>
              have hd : d = 1 := HO.out (HL.out.symm.trans HLL.out)
              subst hd
              rw [iterPos_at _ _ s _ hit2.out, iterPos_at _ _ s _ hit]
              omega
      · have hp0' : ((pos : Int) == 0) = false := by simp; omega
        cases hl : letB (r : Int)
        · have HLL := hide hl
          clear hl
          go_wp2_with fail
          refine (isLetterOrDigit_any _ _).mono ?_
          rintro e w' ⟨rfl, rfl⟩
          rw [HLL.out]
          go_wp2
          go_ret
          exact ⟨ret_bool (shapeB_let _ _ _ (allLet_no s pos hp (HL.out.symm.trans HLL.out))).symm, hbw2.out⟩
        · have HLL := hide hl
          clear hl
          go_wp2_with fail
          refine (isLetterOrDigit_any _ _).mono ?_
          rintro e w' ⟨rfl, rfl⟩
          rw [HLL.out]
          go_wp2
          go_roundw
          case rel =>
            have hd : d = 1 := HO.out (HL.out.symm.trans HLL.out)
            subst hd
            exact ⟨pos + 1, hit2.out, hbw2.out, by omega, allLet_step s pos hp HN.out (HL.out.symm.trans HLL.out), fun h _ => HF.out h (by omega)⟩
          case measure =>
            have hd : d = 1 := HO.out (HL.out.symm.trans HLL.out)
            subst hd
            rw [iterPos_at _ _ s _ hit2.out, iterPos_at _ _ s _ hit]
            omega
    · have hnx : ∀ ty, (Instr.next (.pointer (some ⟨w.heap.size, 0, none⟩)) true ty).run Tryz.prog wr = _ := fun ty => Lib.run_next_end_at wr w.heap.size s pos ty hit hp
      have hbw2 := hide hbw
      clear hbw
      go_wp2
      go_ret
      have h := HN.out
      rw [List.take_of_length_le (by rw [data_length]; omega)] at h
      exact ⟨ret_bool (shapeB_yes _ _ s (by omega) (by omega) h (HF.out (by omega) (by omega))).symm, hbw2.out⟩
end Go.Proofs.YteoghpefilghdakGreatDoor
namespace Go.Proofs.YteoghpefilghdakGreatDoor
open Go.RowKit

def nameB (l : List UInt8) : Bool := shapeB 97 122 l && !isW l
def greatB (l : List UInt8) : Bool := shapeB 65 90 l

theorem implName_any (s : ByteArray) (w : World) (hs : s.size ≤ maxLen) :
    Calls Tryz.prog 93 #[.string s] w fun e w' => e = .returned (.bool (nameB s.data.toList)) ∧ Below w.heap.size w w' := by
  cases h : shapeB 97 122 s.data.toList
  · have H := hide h
    clear h
    go_enter Tryz.func93, Tryz.ntmps93
    go_wp2_with fail
    refine (shapeSmall_any _ _ hs).mono ?_
    rintro e w1 ⟨rfl, hb⟩
    rw [H.out]
    have HB := hide hb
    clear hb
    go_wp2
    go_ret
    exact ⟨ret_bool (by rw [nameB, H.out]; rfl), HB.out⟩
  · have H := hide h
    clear h
    go_enter Tryz.func93, Tryz.ntmps93
    go_wp2_with fail
    refine (shapeSmall_any _ _ hs).mono ?_
    rintro e w1 ⟨rfl, hb⟩
    rw [H.out]
    have HB := hide hb
    clear hb
    go_wp2_with fail
    refine (isWord_any _ _).mono ?_
    rintro e w2 ⟨rfl, rfl⟩
    go_wp2
    go_ret
    exact ⟨ret_bool (by rw [nameB, H.out, ← toList_data]; rfl), HB.out⟩
theorem implGreat_any (s : ByteArray) (w : World) (hs : s.size ≤ maxLen) :
    Calls Tryz.prog 88 #[.string s] w fun e w' => e = .returned (.bool (greatB s.data.toList)) ∧ Below w.heap.size w w' := by
  go_enter Tryz.func88, Tryz.ntmps88
  go_wp2_with fail
  refine (shapeLarge_any _ _ hs).mono ?_
  rintro e w1 ⟨rfl, hb⟩
  have HB := hide hb
  clear hb
  go_wp2
  go_ret
  exact ⟨rfl, HB.out⟩
theorem lettersB_pos (s : ByteArray) (h : lettersB s.data.toList = true) : 0 < s.size := by
  unfold lettersB at h
  rw [Bool.and_eq_true, data_length] at h
  have := h.2
  unfold inB at this
  simp at this
  omega
theorem headD_byte (s : ByteArray) (h0 : 0 < s.size) : s.data.toList.headD 0 = s[0] := by
  rw [List.headD_eq_head?_getD, List.head?_eq_getElem?, List.getElem?_eq_getElem (by rw [data_length]; omega)]
  rfl

theorem specGreat_any (s : ByteArray) (w : World) (hs : s.size ≤ maxLen) :
    Calls Tryz.prog 47 #[.string s] w fun e w' => e = .returned (.bool (greatB s.data.toList)) ∧ w' = w := by
  cases h : lettersB s.data.toList
  · have H := hide h
    clear h
    go_enter Tryz.func47, Tryz.ntmps47
    go_wp2_with fail
    refine (letters_any _ _ hs).mono ?_
    rintro e w1 ⟨rfl, rfl⟩
    rw [H.out]
    go_wp2
    go_ret
    exact ⟨ret_bool (by rw [greatB, shapeB, H.out]; rfl), rfl⟩
  · have h0 := lettersB_pos s h
    have H := hide h
    clear h
    go_enter Tryz.func47, Tryz.ntmps47
    go_wp2_with fail
    refine (letters_any _ _ hs).mono ?_
    rintro e w1 ⟨rfl, rfl⟩
    rw [H.out]
    go_wp2_with fail
    refine (large_any _ _).mono ?_
    rintro e w1 ⟨rfl, rfl⟩
    go_wp2
    go_ret
    exact ⟨ret_bool (by rw [greatB, shapeB, H.out, headD_byte s h0]; rfl), rfl⟩

theorem specName_any (s : ByteArray) (w : World) (hs : s.size ≤ maxLen) :
    Calls Tryz.prog 52 #[.string s] w fun e w' => e = .returned (.bool (nameB s.data.toList)) ∧ Below w.heap.size w w' := by
  cases h : lettersB s.data.toList
  · have H := hide h
    clear h
    go_enter Tryz.func52, Tryz.ntmps52
    go_wp2_with fail
    refine (letters_any _ _ hs).mono ?_
    rintro e w1 ⟨rfl, rfl⟩
    rw [H.out]
    go_wp2
    go_ret
    exact ⟨ret_bool (by rw [nameB, shapeB, H.out]; rfl), Below.refl _ _⟩
  · have h0 := lettersB_pos s h
    have H := hide h
    clear h
    cases h1 : inB (s[0].toNat : Int) 97 122
    · have H1 := hide h1
      clear h1
      go_enter Tryz.func52, Tryz.ntmps52
      go_wp2_with fail
      refine (letters_any _ _ hs).mono ?_
      rintro e w1 ⟨rfl, rfl⟩
      rw [H.out]
      go_wp2_with fail
      refine (small_any _ _).mono ?_
      rintro e w1 ⟨rfl, rfl⟩
      rw [H1.out]
      go_wp2
      go_ret
      exact ⟨ret_bool (by rw [nameB, shapeB, H.out, headD_byte s h0, H1.out]; rfl), Below.refl _ _⟩
    · have H1 := hide h1
      clear h1
      go_enter Tryz.func52, Tryz.ntmps52
      go_wp2_with fail
      refine (letters_any _ _ hs).mono ?_
      rintro e w1 ⟨rfl, rfl⟩
      rw [H.out]
      go_wp2_with fail
      refine (small_any _ _).mono ?_
      rintro e w1 ⟨rfl, rfl⟩
      rw [H1.out]
      go_wp2_with fail
      refine (isWord1_any _ _).mono ?_
      rintro e w1 ⟨rfl, hb⟩
      have HB := hide hb
      clear hb
      go_wp2
      go_ret
      exact ⟨ret_bool (by rw [nameB, shapeB, H.out, headD_byte s h0, H1.out, ← toList_data]; rfl), HB.out⟩
end Go.Proofs.YteoghpefilghdakGreatDoor

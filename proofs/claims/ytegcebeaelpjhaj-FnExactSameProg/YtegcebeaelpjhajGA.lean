/- Made of A, B, C, D. -/
import Derived.Test.YtegcebeaelpjhajBase
import Derived.WalkKit
import Derived.ProofKit
import Derived.WalkLawsBesides
import Derived.Lib.OthersKept
import Derived.Lib.Strings
namespace Go.Proofs.Ytegcebeaelpjhaj
open Go.RowKit

def inB (x a b : Int) : Bool := decide (a ≤ x) && decide (x ≤ b)
def letB (x : Int) : Bool := (inB x 97 122 || inB x 65 90) || inB x 48 57
theorem inB_tt {x a b : Int} (h1 : a ≤ x) (h2 : x ≤ b) : inB x a b = true := by simp [inB, h1, h2]
theorem inB_lo {x a b : Int} (h1 : x < a) : inB x a b = false := by simp [inB]; omega
theorem inB_hi {x a b : Int} (h2 : b < x) : inB x a b = false := by simp [inB]; omega


theorem in_any (x a b : Int) (w : World) : Calls Try.prog 49 #[.int .i64 x, .int .i64 a, .int .i64 b] w fun e w' => e = .returned (.bool (inB x a b)) ∧ w' = w := by
  by_cases h1 : a ≤ x
  · by_cases h2 : x ≤ b
    · go_enter Try.func49, Try.ntmps49
      go_wp2
      go_ret
      exact ⟨ret_bool (inB_tt (by omega) (by omega)).symm, rfl⟩
    · go_enter Try.func49, Try.ntmps49
      go_wp2
      go_ret
      exact ⟨ret_bool (inB_hi (by omega)).symm, rfl⟩
  · go_enter Try.func49, Try.ntmps49
    go_wp2
    go_ret
    exact ⟨ret_bool (inB_lo (by omega)).symm, rfl⟩

theorem small_any (c : UInt8) (w : World) : Calls Try.prog 91 #[.int .u8 c.toNat] w fun e w' => e = .returned (.bool (inB c.toNat 97 122)) ∧ w' = w := by
  have hc : c.toNat < 256 := c.toNat_lt
  go_enter Try.func91, Try.ntmps91
  go_wp2_with (go_at_call 49; refine (in_any _ _ _ _).mono ?_; rintro e w' ⟨rfl, rfl⟩)
  go_ret
  exact ⟨rfl, rfl⟩

theorem large_any (c : UInt8) (w : World) : Calls Try.prog 112 #[.int .u8 c.toNat] w fun e w' => e = .returned (.bool (inB c.toNat 65 90)) ∧ w' = w := by
  have hc : c.toNat < 256 := c.toNat_lt
  go_enter Try.func112, Try.ntmps112
  go_wp2_with (go_at_call 49; refine (in_any _ _ _ _).mono ?_; rintro e w' ⟨rfl, rfl⟩)
  go_ret
  exact ⟨rfl, rfl⟩

theorem digit_any (c : UInt8) (w : World) : Calls Try.prog 113 #[.int .u8 c.toNat] w fun e w' => e = .returned (.bool (inB c.toNat 48 57)) ∧ w' = w := by
  have hc : c.toNat < 256 := c.toNat_lt
  go_enter Try.func113, Try.ntmps113
  go_wp2_with (go_at_call 49; refine (in_any _ _ _ _).mono ?_; rintro e w' ⟨rfl, rfl⟩)
  go_ret
  exact ⟨rfl, rfl⟩

theorem letter_any (c : UInt8) (w : World) : Calls Try.prog 103 #[.int .u8 c.toNat] w fun e w' => e = .returned (.bool (letB c.toNat)) ∧ w' = w := by
  have hc : c.toNat < 256 := c.toNat_lt
  cases h1 : inB c.toNat 97 122
  · cases h2 : inB c.toNat 65 90
    · have H1 := hide h1
      have H2 := hide h2
      clear h1 h2
      go_enter Try.func103, Try.ntmps103
      go_wp2_with fail
      refine (small_any _ _).mono ?_
      rintro e w' ⟨rfl, rfl⟩
      rw [H1.out]
      go_wp2_with fail
      refine (large_any _ _).mono ?_
      rintro e w' ⟨rfl, rfl⟩
      rw [H2.out]
      go_wp2_with fail
      refine (digit_any _ _).mono ?_
      rintro e w' ⟨rfl, rfl⟩
      go_wp2
      go_ret
      exact ⟨ret_bool (by rw [letB, H1.out, H2.out]; simp), rfl⟩
    · have H1 := hide h1
      have H2 := hide h2
      clear h1 h2
      go_enter Try.func103, Try.ntmps103
      go_wp2_with fail
      refine (small_any _ _).mono ?_
      rintro e w' ⟨rfl, rfl⟩
      rw [H1.out]
      go_wp2_with fail
      refine (large_any _ _).mono ?_
      rintro e w' ⟨rfl, rfl⟩
      rw [H2.out]
      go_wp2
      go_ret
      exact ⟨ret_bool (by rw [letB, H1.out, H2.out]; simp), rfl⟩
  · have H1 := hide h1
    clear h1
    go_enter Try.func103, Try.ntmps103
    go_wp2_with fail
    refine (small_any _ _).mono ?_
    rintro e w' ⟨rfl, rfl⟩
    rw [H1.out]
    go_wp2
    go_ret
    exact ⟨ret_bool (by rw [letB, H1.out]; simp), rfl⟩
end Go.Proofs.Ytegcebeaelpjhaj
namespace Go.Proofs.Ytegcebeaelpjhaj
open Go.RowKit

def isW (l : List UInt8) : Bool := l == [108, 101, 116] || l == [105, 110] || l == [119, 104, 101, 114, 101] || l == [99, 97, 115, 101] || l == [111, 102] || l == [105, 102] || l == [116, 104, 101, 110] || l == [101, 108, 115, 101] || l == [100, 97, 116, 97]

theorem any_yes (ss : List ByteArray) (s : ByteArray) (k : Nat) (h : k < ss.length) (hk : (ss[k].toList == s.toList) = true) : (ss.any fun t => t.toList == s.toList) = true := by
  rw [List.any_eq_true]
  exact ⟨ss[k], List.getElem_mem h, hk⟩
theorem any_step (ss : List ByteArray) (s : ByteArray) (k : Nat) (h : k < ss.length) (h0 : ((ss.take k).any fun t => t.toList == s.toList) = false) (hk : (ss[k].toList == s.toList) = false) :
    ((ss.take (k + 1)).any fun t => t.toList == s.toList) = false := by
  rw [List.take_succ_eq_append_getElem h, List.any_append, h0]
  simpa using hk

set_option maxHeartbeats 400000 in
theorem has_any (ss : List ByteArray) (b n : Nat) (hn : ss.length = n) (hm : n ≤ 1000) (s : ByteArray) (w : World) (hc : ∀ i, i < n → w.cell? ⟨b, i, none⟩ = some (.string (ss.getD i ByteArray.empty))) :
    Calls Try.prog 93 #[.slice (some ⟨b, 0, none⟩) n n, .string s] w fun e w' => e = .returned (.bool (ss.any fun t => t.toList == s.toList)) ∧ w' = w := by
  go_enter Try.func93, Try.ntmps93
  go_wp2
  go_loop [5] (fun i => ∃ k : Nat, k ≤ n ∧ i = .int .i64 k ∧ ((ss.take k).any fun t => t.toList == s.toList) = false) (fun i => n - (intOf i).toNat)
  case atStart => exact ⟨0, Nat.zero_le _, rfl, rfl⟩
  case round =>
    obtain ⟨k, hk, rfl, hnone⟩ := hrel
    have HN := hide hnone
    clear hnone
    by_cases hlt : k < n
    · have hck := hc k hlt
      go_wp2
      · go_ret
        exact ⟨ret_bool (any_yes ss s k (by omega) (by assumption)).symm, rfl⟩
      · go_round
        case rel => exact ⟨k + 1, by omega, by go_num, any_step ss s k (by omega) HN.out (by assumption)⟩
        case measure => simp [intOf]; omega
    · go_wp2
      go_ret
      refine ⟨ret_bool ?_, rfl⟩
      have h := HN.out
      rw [List.take_of_length_le (by omega)] at h
      exact h.symm

def wordsL : List ByteArray := [⟨#[108, 101, 116]⟩, ⟨#[105, 110]⟩, ⟨#[119, 104, 101, 114, 101]⟩, ⟨#[99, 97, 115, 101]⟩, ⟨#[111, 102]⟩, ⟨#[105, 102]⟩, ⟨#[116, 104, 101, 110]⟩, ⟨#[101, 108, 115, 101]⟩, ⟨#[100, 97, 116, 97]⟩]
theorem words_lists : wordsL.map ByteArray.toList = [[108, 101, 116], [105, 110], [119, 104, 101, 114, 101], [99, 97, 115, 101], [111, 102], [105, 102], [116, 104, 101, 110], [101, 108, 115, 101], [100, 97, 116, 97]] := by kernel_rfl
theorem beq_turn (a b : List UInt8) : (a == b) = (b == a) := by rw [Bool.eq_iff_iff, beq_iff_eq, beq_iff_eq]; exact eq_comm
theorem words_isW (s : ByteArray) : (wordsL.any fun t => t.toList == s.toList) = isW s.toList := by
  have h : (wordsL.any fun t => t.toList == s.toList) = (wordsL.map ByteArray.toList).any fun t => s.toList == t := by
    rw [List.any_map]
    congr 1
    funext t
    exact beq_turn _ _
  rw [h, words_lists]
  simp [isW, List.any_cons, Bool.or_assoc]

theorem isWord1_any (s : ByteArray) (w : World) : Calls Try.prog 92 #[.string s] w fun e w' => e = .returned (.bool (isW s.toList)) ∧ Below w.heap.size w w' := by
  go_enter Try.func92, Try.ntmps92
  go_wp2_with fail
  refine (has_any wordsL w.heap.size 9 rfl (by omega) s _ ?_).mono ?_
  · intro i hi
    rw [World.cell?_alloc_new]
    match i, hi with
    | 0, _ => rfl
    | 1, _ => rfl
    | 2, _ => rfl
    | 3, _ => rfl
    | 4, _ => rfl
    | 5, _ => rfl
    | 6, _ => rfl
    | 7, _ => rfl
    | 8, _ => rfl
  rintro e w' ⟨rfl, rfl⟩
  rw [words_isW]
  go_wp2
  go_ret
  exact ⟨rfl, (Below.refl _ _).alloc (Nat.le_refl _) _⟩
end Go.Proofs.Ytegcebeaelpjhaj
namespace Go.Proofs.Ytegcebeaelpjhaj
open Go.RowKit

def allLet (l : List UInt8) : Bool := l.all fun c => letB c.toNat
def lettersB (l : List UInt8) : Bool := allLet l && inB l.length 1 8
def shapeB (lo hi : Int) (l : List UInt8) : Bool := lettersB l && inB (l.headD 0).toNat lo hi

theorem take_snoc (s : ByteArray) (k : Nat) (h : k < s.size) : s.data.toList.take (k + 1) = s.data.toList.take k ++ [s[k]] := by
  rw [List.take_succ_eq_append_getElem (by simpa using h)]; rfl
theorem allLet_step (s : ByteArray) (k : Nat) (h : k < s.size) (h0 : allLet (s.data.toList.take k) = true) (h1 : letB (s[k].toNat : Int) = true) : allLet (s.data.toList.take (k + 1)) = true := by
  rw [take_snoc s k h]
  unfold allLet at *
  rw [List.all_append, h0]
  simp [h1]
theorem allLet_no (s : ByteArray) (k : Nat) (h : k < s.size) (h1 : letB (s[k].toNat : Int) = false) : allLet s.data.toList = false := by
  unfold allLet
  rw [List.all_eq_false]
  exact ⟨s[k], by rw [show s[k] = s.data.toList[k]'(by simpa using h) from rfl]; exact List.getElem_mem _, by simp [h1]⟩
theorem data_length (s : ByteArray) : s.data.toList.length = s.size := by rw [Array.length_toList]; rfl

set_option maxHeartbeats 400000 in
theorem letters_any (s : ByteArray) (w : World) (hs : s.size ≤ maxLen) :
    Calls Try.prog 90 #[.string s] w fun e w' => e = .returned (.bool (lettersB s.data.toList)) ∧ w' = w := by
  unfold maxLen at hs
  go_enter Try.func90, Try.ntmps90
  go_wp2
  go_loop [3] (fun i => ∃ k : Nat, k ≤ s.size ∧ i = .int .i64 k ∧ allLet (s.data.toList.take k) = true) (fun i => s.size - (intOf i).toNat)
  case atStart => exact ⟨0, Nat.zero_le _, rfl, rfl⟩
  case round =>
    obtain ⟨k, hk, rfl, hall⟩ := hrel
    have HN := hide hall
    clear hall
    by_cases hlt : k < s.size
    · cases hl : letB (s[k].toNat : Int)
      · have HL := hide hl
        clear hl
        go_wp2_with fail
        refine (letter_any _ _).mono ?_
        rintro e w' ⟨rfl, rfl⟩
        rw [HL.out]
        go_wp2
        go_ret
        exact ⟨ret_bool (by rw [lettersB, allLet_no s k hlt HL.out]; rfl), rfl⟩
      · have HL := hide hl
        clear hl
        go_wp2_with fail
        refine (letter_any _ _).mono ?_
        rintro e w' ⟨rfl, rfl⟩
        rw [HL.out]
        go_wp2
        go_round
        case rel => exact ⟨k + 1, by omega, by go_num, allLet_step s k hlt HN.out HL.out⟩
        case measure => simp [intOf]; omega
    · go_wp2_with fail
      refine (in_any _ _ _ _).mono ?_
      rintro e w' ⟨rfl, rfl⟩
      go_wp2
      go_ret
      refine ⟨ret_bool ?_, rfl⟩
      have h := HN.out
      rw [List.take_of_length_le (by rw [data_length]; omega)] at h
      rw [lettersB, h, data_length]
      rfl

theorem shapeB_size (lo hi : Int) (l : List UInt8) (h : inB l.length 1 8 = false) : shapeB lo hi l = false := by simp [shapeB, lettersB, h]
theorem shapeB_let (lo hi : Int) (l : List UInt8) (h : allLet l = false) : shapeB lo hi l = false := by simp [shapeB, lettersB, h]
theorem shapeB_first (lo hi : Int) (s : ByteArray) (h0 : 0 < s.size) (h : inB (s[0].toNat : Int) lo hi = false) : shapeB lo hi s.data.toList = false := by
  have e : s.data.toList.headD 0 = s[0] := by
    rw [List.headD_eq_head?_getD, List.head?_eq_getElem?, List.getElem?_eq_getElem (by rw [data_length]; omega)]
    rfl
  rw [shapeB, e, h, Bool.and_false]
theorem shapeB_yes (lo hi : Int) (s : ByteArray) (h0 : 0 < s.size) (h8 : s.size ≤ 8) (hl : allLet s.data.toList = true) (h : inB (s[0].toNat : Int) lo hi = true) : shapeB lo hi s.data.toList = true := by
  have e : s.data.toList.headD 0 = s[0] := by
    rw [List.headD_eq_head?_getD, List.head?_eq_getElem?, List.getElem?_eq_getElem (by rw [data_length]; omega)]
    rfl
  rw [shapeB, e, h, lettersB, hl, data_length, inB_tt (by omega) (by omega)]
  rfl

theorem toList_data (s : ByteArray) : s.toList = s.data.toList := ByteArray.toList_eq s

/-- The rune at a place, against the byte there. -/
theorem rune_facts (s : ByteArray) (pos : Nat) (h : pos < s.size) : ∃ r d : Nat, Utf8.decode s pos = (r, d) ∧ letB (r : Int) = letB (s[pos].toNat : Int) ∧ inB (r : Int) 97 122 = inB (s[pos].toNat : Int) 97 122 ∧ inB (r : Int) 65 90 = inB (s[pos].toNat : Int) 65 90 ∧ (letB (s[pos].toNat : Int) = true → d = 1) := by
  by_cases ha : (s[pos]'h).toNat < 128
  · exact ⟨(s[pos]'h).toNat, 1, decode_ascii s pos h ha, rfl, rfl, rfl, fun _ => rfl⟩
  · have hd := decode_high s pos h (by omega)
    refine ⟨(Utf8.decode s pos).1, (Utf8.decode s pos).2, rfl, ?_, ?_, ?_, ?_⟩
    · rw [letB, letB, inB_hi (by omega), inB_hi (by omega), inB_hi (by omega), inB_hi (by omega), inB_hi (by omega), inB_hi (by omega)]
    · rw [inB_hi (by omega), inB_hi (by omega)]
    · rw [inB_hi (by omega), inB_hi (by omega)]
    · rw [letB, inB_hi (by omega), inB_hi (by omega), inB_hi (by omega)]
      simp

theorem next_eq (wr : World) (k : Nat) (s : ByteArray) (pos r d : Nat) (ty : TypeId) (hk : wr.heap[k]? = some (.stringIter s pos)) (h : pos < s.size) (hd : Utf8.decode s pos = (r, d)) :
    (Instr.next (.pointer (some ⟨k, 0, none⟩)) true ty).run Try.prog wr = .ok (.tuple #[.bool true, .int .i64 pos, .int .i32 r]) (wr.iterAt k s (pos + d)) := by
  rw [Lib.run_next_any_at wr k s pos ty hk h, hd]

theorem iterPos_at (wr : World) (k : Nat) (s : ByteArray) (pos : Nat) (hk : wr.heap[k]? = some (.stringIter s pos)) : wr.iterPos k = pos := by
  simp [World.iterPos, hk]

end Go.Proofs.Ytegcebeaelpjhaj
namespace Go.Proofs.Ytegcebeaelpjhaj
open Go.RowKit

def nameB (l : List UInt8) : Bool := shapeB 97 122 l && !isW l
def greatB (l : List UInt8) : Bool := shapeB 65 90 l

theorem lettersB_pos (s : ByteArray) (h : lettersB s.data.toList = true) : 0 < s.size := by
  unfold lettersB at h
  rw [Bool.and_eq_true, data_length] at h
  have := h.2
  unfold inB at this
  simp at this
  omega
theorem headD_byte (s : ByteArray) (h0 : 0 < s.size) : s.data.toList.headD 0 = s[0] := by
  rw [List.headD_eq_head?_getD, List.head?_eq_getElem?, List.getElem?_eq_getElem (by rw [data_length]; omega)]
  rfl

theorem specGreat_any (s : ByteArray) (w : World) (hs : s.size ≤ maxLen) :
    Calls Try.prog 105 #[.string s] w fun e w' => e = .returned (.bool (greatB s.data.toList)) ∧ w' = w := by
  cases h : lettersB s.data.toList
  · have H := hide h
    clear h
    go_enter Try.func105, Try.ntmps105
    go_wp2_with fail
    refine (letters_any _ _ hs).mono ?_
    rintro e w1 ⟨rfl, rfl⟩
    rw [H.out]
    go_wp2
    go_ret
    exact ⟨ret_bool (by rw [greatB, shapeB, H.out]; rfl), rfl⟩
  · have h0 := lettersB_pos s h
    have H := hide h
    clear h
    go_enter Try.func105, Try.ntmps105
    go_wp2_with fail
    refine (letters_any _ _ hs).mono ?_
    rintro e w1 ⟨rfl, rfl⟩
    rw [H.out]
    go_wp2_with fail
    refine (large_any _ _).mono ?_
    rintro e w1 ⟨rfl, rfl⟩
    go_wp2
    go_ret
    exact ⟨ret_bool (by rw [greatB, shapeB, H.out, headD_byte s h0]; rfl), rfl⟩

theorem specName_any (s : ByteArray) (w : World) (hs : s.size ≤ maxLen) :
    Calls Try.prog 75 #[.string s] w fun e w' => e = .returned (.bool (nameB s.data.toList)) ∧ Below w.heap.size w w' := by
  cases h : lettersB s.data.toList
  · have H := hide h
    clear h
    go_enter Try.func75, Try.ntmps75
    go_wp2_with fail
    refine (letters_any _ _ hs).mono ?_
    rintro e w1 ⟨rfl, rfl⟩
    rw [H.out]
    go_wp2
    go_ret
    exact ⟨ret_bool (by rw [nameB, shapeB, H.out]; rfl), Below.refl _ _⟩
  · have h0 := lettersB_pos s h
    have H := hide h
    clear h
    cases h1 : inB (s[0].toNat : Int) 97 122
    · have H1 := hide h1
      clear h1
      go_enter Try.func75, Try.ntmps75
      go_wp2_with fail
      refine (letters_any _ _ hs).mono ?_
      rintro e w1 ⟨rfl, rfl⟩
      rw [H.out]
      go_wp2_with fail
      refine (small_any _ _).mono ?_
      rintro e w1 ⟨rfl, rfl⟩
      rw [H1.out]
      go_wp2
      go_ret
      exact ⟨ret_bool (by rw [nameB, shapeB, H.out, headD_byte s h0, H1.out]; rfl), Below.refl _ _⟩
    · have H1 := hide h1
      clear h1
      go_enter Try.func75, Try.ntmps75
      go_wp2_with fail
      refine (letters_any _ _ hs).mono ?_
      rintro e w1 ⟨rfl, rfl⟩
      rw [H.out]
      go_wp2_with fail
      refine (small_any _ _).mono ?_
      rintro e w1 ⟨rfl, rfl⟩
      rw [H1.out]
      go_wp2_with fail
      refine (isWord1_any _ _).mono ?_
      rintro e w1 ⟨rfl, hb⟩
      have HB := hide hb
      clear hb
      go_wp2
      go_ret
      exact ⟨ret_bool (by rw [nameB, shapeB, H.out, headD_byte s h0, H1.out, ← toList_data]; rfl), HB.out⟩
end Go.Proofs.Ytegcebeaelpjhaj

/- The small tests on signs, of the program and of the model: each is what its plain function says, and the world stands. -/
import Derived.Test.YtgoieaalmlajfaiBase
import Derived.WalkKit
import Derived.ProofKit
import Derived.WalkLawsBesides
import Derived.Lib.OthersKept
namespace Go.Proofs.Ytgoieaalmlajfai
open Go.RowKit

def inB (x a b : Int) : Bool := decide (a ≤ x) && decide (x ≤ b)
def letB (x : Int) : Bool := (inB x 97 122 || inB x 65 90) || inB x 48 57
theorem inB_tt {x a b : Int} (h1 : a ≤ x) (h2 : x ≤ b) : inB x a b = true := by simp [inB, h1, h2]
theorem inB_lo {x a b : Int} (h1 : x < a) : inB x a b = false := by simp [inB]; omega
theorem inB_hi {x a b : Int} (h2 : b < x) : inB x a b = false := by simp [inB]; omega


theorem in_any (x a b : Int) (w : World) : Calls Try.prog 77 #[.int .i64 x, .int .i64 a, .int .i64 b] w fun e w' => e = .returned (.bool (inB x a b)) ∧ w' = w := by
  by_cases h1 : a ≤ x
  · by_cases h2 : x ≤ b
    · go_enter Try.func77, Try.ntmps77
      go_wp2
      go_ret
      exact ⟨ret_bool (inB_tt (by omega) (by omega)).symm, rfl⟩
    · go_enter Try.func77, Try.ntmps77
      go_wp2
      go_ret
      exact ⟨ret_bool (inB_hi (by omega)).symm, rfl⟩
  · go_enter Try.func77, Try.ntmps77
    go_wp2
    go_ret
    exact ⟨ret_bool (inB_lo (by omega)).symm, rfl⟩

theorem isSmall_any (r : Int) (w : World) : Calls Try.prog 124 #[.int .i32 r] w fun e w' => e = .returned (.bool (inB r 97 122)) ∧ w' = w := by
  by_cases h1 : 97 ≤ r
  · by_cases h2 : r ≤ 122
    · go_enter Try.func124, Try.ntmps124
      go_wp2
      go_ret
      exact ⟨ret_bool (inB_tt (by omega) (by omega)).symm, rfl⟩
    · go_enter Try.func124, Try.ntmps124
      go_wp2
      go_ret
      exact ⟨ret_bool (inB_hi (by omega)).symm, rfl⟩
  · go_enter Try.func124, Try.ntmps124
    go_wp2
    go_ret
    exact ⟨ret_bool (inB_lo (by omega)).symm, rfl⟩

theorem isLarge_any (r : Int) (w : World) : Calls Try.prog 125 #[.int .i32 r] w fun e w' => e = .returned (.bool (inB r 65 90)) ∧ w' = w := by
  by_cases h1 : 65 ≤ r
  · by_cases h2 : r ≤ 90
    · go_enter Try.func125, Try.ntmps125
      go_wp2
      go_ret
      exact ⟨ret_bool (inB_tt (by omega) (by omega)).symm, rfl⟩
    · go_enter Try.func125, Try.ntmps125
      go_wp2
      go_ret
      exact ⟨ret_bool (inB_hi (by omega)).symm, rfl⟩
  · go_enter Try.func125, Try.ntmps125
    go_wp2
    go_ret
    exact ⟨ret_bool (inB_lo (by omega)).symm, rfl⟩

theorem isDigit_any (r : Int) (w : World) : Calls Try.prog 138 #[.int .i32 r] w fun e w' => e = .returned (.bool (inB r 48 57)) ∧ w' = w := by
  by_cases h1 : 48 ≤ r
  · by_cases h2 : r ≤ 57
    · go_enter Try.func138, Try.ntmps138
      go_wp2
      go_ret
      exact ⟨ret_bool (inB_tt (by omega) (by omega)).symm, rfl⟩
    · go_enter Try.func138, Try.ntmps138
      go_wp2
      go_ret
      exact ⟨ret_bool (inB_hi (by omega)).symm, rfl⟩
  · go_enter Try.func138, Try.ntmps138
    go_wp2
    go_ret
    exact ⟨ret_bool (inB_lo (by omega)).symm, rfl⟩

theorem small_any (c : UInt8) (w : World) : Calls Try.prog 111 #[.int .u8 c.toNat] w fun e w' => e = .returned (.bool (inB c.toNat 97 122)) ∧ w' = w := by
  have hc : c.toNat < 256 := c.toNat_lt
  go_enter Try.func111, Try.ntmps111
  go_wp2_with (go_at_call 77; refine (in_any _ _ _ _).mono ?_; rintro e w' ⟨rfl, rfl⟩)
  go_ret
  exact ⟨rfl, rfl⟩

theorem large_any (c : UInt8) (w : World) : Calls Try.prog 122 #[.int .u8 c.toNat] w fun e w' => e = .returned (.bool (inB c.toNat 65 90)) ∧ w' = w := by
  have hc : c.toNat < 256 := c.toNat_lt
  go_enter Try.func122, Try.ntmps122
  go_wp2_with (go_at_call 77; refine (in_any _ _ _ _).mono ?_; rintro e w' ⟨rfl, rfl⟩)
  go_ret
  exact ⟨rfl, rfl⟩

theorem digit_any (c : UInt8) (w : World) : Calls Try.prog 135 #[.int .u8 c.toNat] w fun e w' => e = .returned (.bool (inB c.toNat 48 57)) ∧ w' = w := by
  have hc : c.toNat < 256 := c.toNat_lt
  go_enter Try.func135, Try.ntmps135
  go_wp2_with (go_at_call 77; refine (in_any _ _ _ _).mono ?_; rintro e w' ⟨rfl, rfl⟩)
  go_ret
  exact ⟨rfl, rfl⟩

theorem isLetter_any (r : Int) (w : World) : Calls Try.prog 137 #[.int .i32 r] w fun e w' => e = .returned (.bool (inB r 97 122 || inB r 65 90)) ∧ w' = w := by
  cases h1 : inB r 97 122
  · have H1 := hide h1
    clear h1
    go_enter Try.func137, Try.ntmps137
    go_wp2_with fail
    refine (isSmall_any _ _).mono ?_
    rintro e w' ⟨rfl, rfl⟩
    rw [H1.out]
    go_wp2_with (go_at_call 125; refine (isLarge_any _ _).mono ?_; rintro e w' ⟨rfl, rfl⟩)
    go_ret
    exact ⟨ret_bool (by simp), rfl⟩
  · have H1 := hide h1
    clear h1
    go_enter Try.func137, Try.ntmps137
    go_wp2_with fail
    refine (isSmall_any _ _).mono ?_
    rintro e w' ⟨rfl, rfl⟩
    rw [H1.out]
    go_wp2
    go_ret
    exact ⟨ret_bool (by simp), rfl⟩

theorem isLetterOrDigit_any (r : Int) (w : World) : Calls Try.prog 134 #[.int .i32 r] w fun e w' => e = .returned (.bool (letB r)) ∧ w' = w := by
  cases h1 : (inB r 97 122 || inB r 65 90)
  · have H1 := hide h1
    clear h1
    go_enter Try.func134, Try.ntmps134
    go_wp2_with fail
    refine (isLetter_any _ _).mono ?_
    rintro e w' ⟨rfl, rfl⟩
    rw [H1.out]
    go_wp2_with (go_at_call 138; refine (isDigit_any _ _).mono ?_; rintro e w' ⟨rfl, rfl⟩)
    go_ret
    exact ⟨ret_bool (by rw [letB, H1.out]; simp), rfl⟩
  · have H1 := hide h1
    clear h1
    go_enter Try.func134, Try.ntmps134
    go_wp2_with fail
    refine (isLetter_any _ _).mono ?_
    rintro e w' ⟨rfl, rfl⟩
    rw [H1.out]
    go_wp2
    go_ret
    exact ⟨ret_bool (by rw [letB, H1.out]; simp), rfl⟩

theorem letter_any (c : UInt8) (w : World) : Calls Try.prog 127 #[.int .u8 c.toNat] w fun e w' => e = .returned (.bool (letB c.toNat)) ∧ w' = w := by
  have hc : c.toNat < 256 := c.toNat_lt
  cases h1 : inB c.toNat 97 122
  · cases h2 : inB c.toNat 65 90
    · have H1 := hide h1
      have H2 := hide h2
      clear h1 h2
      go_enter Try.func127, Try.ntmps127
      go_wp2_with fail
      refine (small_any _ _).mono ?_
      rintro e w' ⟨rfl, rfl⟩
      rw [H1.out]
      go_wp2_with fail
      refine (large_any _ _).mono ?_
      rintro e w' ⟨rfl, rfl⟩
      rw [H2.out]
      go_wp2_with fail
      refine (digit_any _ _).mono ?_
      rintro e w' ⟨rfl, rfl⟩
      go_wp2
      go_ret
      exact ⟨ret_bool (by rw [letB, H1.out, H2.out]; simp), rfl⟩
    · have H1 := hide h1
      have H2 := hide h2
      clear h1 h2
      go_enter Try.func127, Try.ntmps127
      go_wp2_with fail
      refine (small_any _ _).mono ?_
      rintro e w' ⟨rfl, rfl⟩
      rw [H1.out]
      go_wp2_with fail
      refine (large_any _ _).mono ?_
      rintro e w' ⟨rfl, rfl⟩
      rw [H2.out]
      go_wp2
      go_ret
      exact ⟨ret_bool (by rw [letB, H1.out, H2.out]; simp), rfl⟩
  · have H1 := hide h1
    clear h1
    go_enter Try.func127, Try.ntmps127
    go_wp2_with fail
    refine (small_any _ _).mono ?_
    rintro e w' ⟨rfl, rfl⟩
    rw [H1.out]
    go_wp2
    go_ret
    exact ⟨ret_bool (by rw [letB, H1.out]; simp), rfl⟩
end Go.Proofs.Ytgoieaalmlajfai

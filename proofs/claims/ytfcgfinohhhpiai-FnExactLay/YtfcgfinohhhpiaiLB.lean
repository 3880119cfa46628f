/- The tests on one sign, of the program and of the model. -/
import Derived.Test.YtfcgfinohhhpiaiLA
namespace Go.Proofs.Ytfcgfinohhhpiai
open Go.RowKit

def isW (l : List UInt8) : Bool := l == [108, 101, 116] || l == [105, 110] || l == [119, 104, 101, 114, 101] || l == [99, 97, 115, 101] || l == [111, 102] || l == [105, 102] || l == [116, 104, 101, 110] || l == [101, 108, 115, 101] || l == [100, 97, 116, 97]

theorem isWord_any (s : ByteArray) (w : World) : Calls Try.prog 70 #[.string s] w fun e w' => e = .returned (.bool (isW s.toList)) ∧ w' = w := by
  go_enter Try.func70, Try.ntmps70
  go_wp2
  all_goals
    go_ret
    refine ⟨ret_bool ?_, rfl⟩
    simp_all [isW]

def isB (t : TokZ) (k : Int) (s : ByteArray) : Bool := t.k == k && t.s.toList == s.toList
theorem is_any (t : TokZ) (k : Int) (s : ByteArray) (w : World) :
    Calls Try.prog 38 #[aggZ t, .int .i64 k, .string s] w fun e w' => e = .returned (.bool (isB t k s)) ∧ Below w.heap.size w w' := by
  obtain ⟨tk, ts, tl, tc⟩ := t
  unfold aggZ
  by_cases hk : tk = k
  · subst hk
    go_enter Try.func38, Try.ntmps38
    go_wp2
    all_goals
      go_ret
      refine ⟨ret_bool ?_, (Below.refl _ w).alloc (Nat.le_refl _) _⟩
      simp_all [isB]
  · have hk2 : (tk == k) = false := by simpa using hk
    go_enter Try.func38, Try.ntmps38
    go_wp2
    all_goals
      go_ret
      refine ⟨ret_bool ?_, (Below.refl _ w).alloc (Nat.le_refl _) _⟩
      simp_all [isB]

def sgn (t : TokZ) : ByteArray := if (t.k == 4 && isW t.s.toList) || (t.k == 5 && !isW t.s.toList) then t.s else ⟨#[]⟩
theorem sgn_yes {t : TokZ} (h : ((t.k == 4 && isW t.s.toList) || (t.k == 5 && !isW t.s.toList)) = true) : sgn t = t.s := by unfold sgn; rw [if_pos h]
theorem sgn_no {t : TokZ} (h : ((t.k == 4 && isW t.s.toList) || (t.k == 5 && !isW t.s.toList)) = false) : sgn t = ⟨#[]⟩ := by unfold sgn; rw [if_neg (by rw [h]; decide)]
theorem ret_string {a b : ByteArray} (h : a = b) : Ending.returned (.string a) = .returned (.string b) := by rw [h]

set_option maxHeartbeats 1000000 in
theorem signOf_any (t : TokZ) (w : World) :
    Calls Try.prog 39 #[aggZ t] w fun e w' => e = .returned (.string (sgn t)) ∧ Below w.heap.size w w' := by
  obtain ⟨tk, ts, tl, tc⟩ := t
  unfold aggZ
  have hb : Below w.heap.size w (w.alloc (.cells #[.int .i64 tk, .string ts, .int .i64 tl, .int .i64 tc] 70)) := (Below.refl _ w).alloc (Nat.le_refl _) _
  have HB := hide hb
  clear hb
  have hs : ∀ (x : Bool), isW ts.toList = x → sgn ⟨tk, ts, tl, tc⟩ = if (tk == 4 && x) || (tk == 5 && !x) then ts else ⟨#[]⟩ := by
    intro x hx; subst hx; rfl
  cases hw : isW ts.toList
  all_goals
    rw [hs _ hw]
    have HW := hide hw
    clear hw hs
    by_cases h4 : tk = 4
    · subst h4
      go_enter Try.func39, Try.ntmps39
      go_wp2_with fail
      refine (isWord_any ts _).mono ?_
      rintro e w1 ⟨rfl, rfl⟩
      rw [HW.out]
      go_wp2
      go_ret
      exact ⟨rfl, HB.out⟩
    · have h4b : (tk == 4) = false := by simpa using h4
      by_cases h5 : tk = 5
      · subst h5
        go_enter Try.func39, Try.ntmps39
        go_wp2_with fail
        refine (isWord_any ts _).mono ?_
        rintro e w1 ⟨rfl, rfl⟩
        rw [HW.out]
        go_wp2
        go_ret
        exact ⟨rfl, HB.out⟩
      · have h5b : (tk == 5) = false := by simpa using h5
        simp only [h4b, h5b, Bool.false_and, Bool.or_self, Bool.false_eq_true, if_false]
        go_enter Try.func39, Try.ntmps39
        go_wp2
        go_ret
        exact ⟨rfl, HB.out⟩
end Go.Proofs.Ytfcgfinohhhpiai

/- Words. -/
import Derived.Test.YtgoieaalmlajfaiA
namespace Go.Proofs.Ytgoieaalmlajfai
open Go.RowKit

def isW (l : List UInt8) : Bool := l == [108, 101, 116] || l == [105, 110] || l == [119, 104, 101, 114, 101] || l == [99, 97, 115, 101] || l == [111, 102] || l == [105, 102] || l == [116, 104, 101, 110] || l == [101, 108, 115, 101] || l == [100, 97, 116, 97]

theorem isWord_any (s : ByteArray) (w : World) : Calls Try.prog 68 #[.string s] w fun e w' => e = .returned (.bool (isW s.toList)) ∧ w' = w := by
  go_enter Try.func68, Try.ntmps68
  go_wp2
  all_goals
    go_ret
    refine ⟨ret_bool ?_, rfl⟩
    simp_all [isW]

theorem any_yes (ss : List ByteArray) (s : ByteArray) (k : Nat) (h : k < ss.length) (hk : (ss[k].toList == s.toList) = true) : (ss.any fun t => t.toList == s.toList) = true := by
  rw [List.any_eq_true]
  exact ⟨ss[k], List.getElem_mem h, hk⟩
theorem any_step (ss : List ByteArray) (s : ByteArray) (k : Nat) (h : k < ss.length) (h0 : ((ss.take k).any fun t => t.toList == s.toList) = false) (hk : (ss[k].toList == s.toList) = false) :
    ((ss.take (k + 1)).any fun t => t.toList == s.toList) = false := by
  rw [List.take_succ_eq_append_getElem h, List.any_append, h0]
  simpa using hk

set_option maxHeartbeats 400000 in
theorem has_any (ss : List ByteArray) (b n : Nat) (hn : ss.length = n) (hm : n ≤ 1000) (s : ByteArray) (w : World) (hc : ∀ i, i < n → w.cell? ⟨b, i, none⟩ = some (.string (ss.getD i ByteArray.empty))) :
    Calls Try.prog 113 #[.slice (some ⟨b, 0, none⟩) n n, .string s] w fun e w' => e = .returned (.bool (ss.any fun t => t.toList == s.toList)) ∧ w' = w := by
  go_enter Try.func113, Try.ntmps113
  go_wp2
  go_loop [5] (fun i => ∃ k : Nat, k ≤ n ∧ i = .int .i64 k ∧ ((ss.take k).any fun t => t.toList == s.toList) = false) (fun i => n - (intOf i).toNat)
  case atStart => exact ⟨0, Nat.zero_le _, rfl, rfl⟩
  case round =>
    obtain ⟨k, hk, rfl, hnone⟩ := hrel
    have HN := hide hnone
    clear hnone
    by_cases hlt : k < n
    · have hck := hc k hlt
      go_wp2
      · go_ret
        exact ⟨ret_bool (any_yes ss s k (by omega) (by assumption)).symm, rfl⟩
      · go_round
        case rel => exact ⟨k + 1, by omega, by go_num, any_step ss s k (by omega) HN.out (by assumption)⟩
        case measure => simp [intOf]; omega
    · go_wp2
      go_ret
      refine ⟨ret_bool ?_, rfl⟩
      have h := HN.out
      rw [List.take_of_length_le (by omega)] at h
      exact h.symm

def wordsL : List ByteArray := [⟨#[108, 101, 116]⟩, ⟨#[105, 110]⟩, ⟨#[119, 104, 101, 114, 101]⟩, ⟨#[99, 97, 115, 101]⟩, ⟨#[111, 102]⟩, ⟨#[105, 102]⟩, ⟨#[116, 104, 101, 110]⟩, ⟨#[101, 108, 115, 101]⟩, ⟨#[100, 97, 116, 97]⟩]
theorem words_lists : wordsL.map ByteArray.toList = [[108, 101, 116], [105, 110], [119, 104, 101, 114, 101], [99, 97, 115, 101], [111, 102], [105, 102], [116, 104, 101, 110], [101, 108, 115, 101], [100, 97, 116, 97]] := by kernel_rfl
theorem beq_turn (a b : List UInt8) : (a == b) = (b == a) := by rw [Bool.eq_iff_iff, beq_iff_eq, beq_iff_eq]; exact eq_comm
theorem words_isW (s : ByteArray) : (wordsL.any fun t => t.toList == s.toList) = isW s.toList := by
  have h : (wordsL.any fun t => t.toList == s.toList) = (wordsL.map ByteArray.toList).any fun t => s.toList == t := by
    rw [List.any_map]
    congr 1
    funext t
    exact beq_turn _ _
  rw [h, words_lists]
  simp [isW, List.any_cons, Bool.or_assoc]

theorem isWord1_any (s : ByteArray) (w : World) : Calls Try.prog 112 #[.string s] w fun e w' => e = .returned (.bool (isW s.toList)) ∧ Below w.heap.size w w' := by
  go_enter Try.func112, Try.ntmps112
  go_wp2_with fail
  refine (has_any wordsL w.heap.size 9 rfl (by omega) s _ ?_).mono ?_
  · intro i hi
    rw [World.cell?_alloc_new]
    match i, hi with
    | 0, _ => rfl
    | 1, _ => rfl
    | 2, _ => rfl
    | 3, _ => rfl
    | 4, _ => rfl
    | 5, _ => rfl
    | 6, _ => rfl
    | 7, _ => rfl
    | 8, _ => rfl
  rintro e w' ⟨rfl, rfl⟩
  rw [words_isW]
  go_wp2
  go_ret
  exact ⟨rfl, (Below.refl _ _).alloc (Nat.le_refl _) _⟩
end Go.Proofs.Ytgoieaalmlajfai

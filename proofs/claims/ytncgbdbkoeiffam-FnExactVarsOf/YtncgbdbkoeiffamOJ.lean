/- The model's l9Has. -/
import Derived.Test.YtncgbdbkoeiffamOE
namespace Go.Proofs.Ytncgbdbkoeiffam.Vo
open Go.ChangeShapes Go.WideShapes Go.ChangeAt Go.RowKit
set_option linter.unusedVariables false

theorem ORow.at {E : TypeId} {B : Nat} {w : World} {v : Value} {xs : List Value} (h : ORow E B w v xs) : ∃ o c, v = .slice o xs.length c ∧ xs.length ≤ c ∧ c ≤ maxLen ∧ ∀ (j : Nat) u, xs[j]? = some u → ∃ g, o = some ⟨g, 0, none⟩ ∧ w.cell? ⟨g, j, none⟩ = some u := by
  rcases h.2 with ⟨rfl, h0⟩ | ⟨g, cap, cur, rfl, hb, hg, hn, hcap, -, ht⟩
  · refine ⟨none, 0, by rw [h0], by omega, by unfold maxLen; omega, fun j u hj => ?_⟩
    have := (List.getElem?_eq_some_iff.1 hj).1
    omega
  · refine ⟨_, _, rfl, hn, hcap, fun j u hj => ⟨g, rfl, ?_⟩⟩
    rw [cell_of hg]
    have h1 := congrArg (fun l => l[j]?) ht
    have h2 := (List.getElem?_eq_some_iff.1 hj).1
    simp only [Nat.mul_one] at h1
    rw [List.getElem?_take, if_pos h2, hj] at h1
    simpa using h1
set_option maxHeartbeats 400000 in
theorem l9Has_any {B : Nat} (nums : List Int) (v : Value) (n : Int) (w : World) (hm : ORow 3 B w v (nums.map intV)) :
    Calls Try.prog 36 #[v, .int .i64 n] w fun e w' => e = .returned (.bool (decide (n ∈ nums))) ∧ w' = w := by
  obtain ⟨o, c, rfl, hc1, hc2, hcs⟩ := hm.at
  rw [List.length_map] at hc1 ⊢
  have HCS := hide hcs
  have hl2 : c ≤ 9223372036854775807 := hc2
  clear hm hcs
  go_enter Try.func36, Try.ntmps36
  go_wp2
  go_loop [5] (fun i => ∃ k : Nat, k ≤ nums.length ∧ i = .int .i64 k ∧ n ∉ nums.take k) (fun i => nums.length - (intOf i).toNat)
  case atStart => exact ⟨0, Nat.zero_le _, rfl, by simp⟩
  case round =>
    obtain ⟨k, hk, rfl, hnone⟩ := hrel
    have HN := hide hnone
    clear hnone
    by_cases hlt : k < nums.length
    · obtain ⟨x, hx⟩ : ∃ x, nums[k]? = some x := ⟨_, List.getElem?_eq_getElem hlt⟩
      obtain ⟨g, rfl, q0⟩ := HCS.out k (intV x) (by rw [List.getElem?_map, hx]; rfl)
      unfold intV at q0
      have HX := hide hx
      clear hx
      by_cases hxn : x = n
      · have hxb : (x == n) = true := by simp [hxn]
        go_wp2
        go_ret
        refine ⟨ret_bool ?_, rfl⟩
        rw [decide_eq_true (by rw [← hxn]; exact List.mem_of_getElem? HX.out)]
      · have hxb : (x == n) = false := by simp [hxn]
        have HXN := hide hxn
        clear hxn
        go_wp2
        go_round
        case rel =>
          refine ⟨k + 1, by omega, by go_num, ?_⟩
          rw [List.take_add_one, HX.out]
          simp only [Option.toList_some, List.mem_append, List.mem_singleton, not_or]
          exact ⟨HN.out, fun e => HXN.out e.symm⟩
        case measure => simp [intOf]; omega
    · go_wp2
      go_ret
      refine ⟨ret_bool ?_, rfl⟩
      have h := HN.out
      rw [List.take_of_length_le (by omega)] at h
      rw [decide_eq_false h]
end Go.Proofs.Ytncgbdbkoeiffam.Vo

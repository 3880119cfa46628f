/- The law's words on rows of numbers: held against each other, marked, and held. -/
import Derived.Test.YtncgbdbkoeiffamOJ
namespace Go.Proofs.Ytncgbdbkoeiffam.Vo
open Go.ChangeShapes Go.WideShapes Go.ChangeAt Go.RowKit
set_option linter.unusedVariables false

theorem ORow.set {E : TypeId} {B : Nat} {w : World} {g n c : Nat} {xs : List Value} (h : ORow E B w (.slice (some ⟨g, 0, none⟩) n c) xs) (hn : n = xs.length) (i : Nat) (u : Value) : ORow E B (w.setCell ⟨g, i, none⟩ u) (.slice (some ⟨g, 0, none⟩) n c) (xs.set i u) := by
  subst hn
  obtain ⟨hl, h⟩ := h
  rcases h with ⟨e, -⟩ | ⟨g', cap, cur, e, hb, hg, hc1, hc2, hsz, ht⟩
  · simp at e
  · simp only [Value.slice.injEq, Option.some.injEq, Addr.mk.injEq, and_true, true_and] at e
    obtain ⟨rfl, rfl⟩ := e
    refine ⟨by simp, .inr ⟨g, c, _, by simp, hb, heap_set_same u hg, by simpa using hc1, hc2, by simp [hsz], ?_⟩⟩
    rw [List.length_set, Nat.mul_one] at *
    rw [Array.set!_eq_setIfInBounds, Array.toList_setIfInBounds, List.take_set, ht]
theorem ORow.cell {E : TypeId} {B : Nat} {w : World} {g n c : Nat} {xs : List Value} (h : ORow E B w (.slice (some ⟨g, 0, none⟩) n c) xs) {i : Nat} {u : Value} (hu : xs[i]? = some u) : w.cell? ⟨g, i, none⟩ = some u ∧ w.frozen? ⟨g, i, none⟩ = false ∧ g < w.heap.size := by
  obtain ⟨o, c', e, -, -, hc⟩ := h.at
  obtain ⟨g', e', h1⟩ := hc i u hu
  simp only [Value.slice.injEq] at e
  rw [← e.1] at e'
  cases e'
  obtain ⟨-, cur, hg⟩ := h.own (g := g) rfl
  exact ⟨h1, frozen_of hg i, (Array.getElem?_eq_some_iff.1 hg).1⟩
set_option maxHeartbeats 400000 in
theorem eqIntS_same {B B' : Nat} (nums : List Int) (v v' : Value) (w : World) (ha : ORow 3 B w v (nums.map intV)) (hb : ORow 3 B' w v' (nums.map intV)) :
    Calls Try.prog 18 #[v, v'] w fun e w' => e = .returned (.bool true) ∧ Below w.heap.size w w' := by
  obtain ⟨o, c, rfl, hc1, hc2, hcs⟩ := ha.at
  obtain ⟨o', c', rfl, hd1, hd2, hds⟩ := hb.at
  rw [List.length_map] at hc1 hd1 ⊢
  have HCS := hide hcs
  have HDS := hide hds
  have HGA : Hid (∀ g, o = some ⟨g, 0, none⟩ → g < w.heap.size) := fun g e => (Array.getElem?_eq_some_iff.1 (ha.own (g := g) (by rw [e]; rfl)).2.choose_spec).1
  have HGB : Hid (∀ g, o' = some ⟨g, 0, none⟩ → g < w.heap.size) := fun g e => (Array.getElem?_eq_some_iff.1 (hb.own (g := g) (by rw [e]; rfl)).2.choose_spec).1
  have hl2 : c ≤ 9223372036854775807 := hc2
  have hnn : ((nums.length : Int) != nums.length) = false := by simp
  clear ha hb hcs hds
  go_enter Try.func18, Try.ntmps18
  go_wp2
  go_loopw [5] (fun i wr => ∃ k : Nat, k ≤ nums.length ∧ i = .int .i64 k ∧ Below w.heap.size w wr) (fun i _ => nums.length - (intOf i).toNat)
  case atStart => exact ⟨0, Nat.zero_le _, rfl, Below.refl _ _⟩
  case round =>
    obtain ⟨k, hk, rfl, hbw⟩ := hrel
    have HBW := hide hbw
    clear hbw
    by_cases hlt : k < nums.length
    · obtain ⟨x, hx⟩ : ∃ x, nums[k]? = some x := ⟨_, List.getElem?_eq_getElem hlt⟩
      obtain ⟨g, rfl, q0⟩ := HCS.out k (intV x) (by rw [List.getElem?_map, hx]; rfl)
      obtain ⟨g', rfl, q1⟩ := HDS.out k (intV x) (by rw [List.getElem?_map, hx]; rfl)
      unfold intV at q0 q1
      have hg := (HGA.out g rfl)
      have hg' := (HGB.out g' rfl)
      have r0 := (HBW.out.cell (p := ⟨g, k, none⟩) hg).trans q0
      have r1 := (HBW.out.cell (p := ⟨g', k, none⟩) hg').trans q1
      have hxx : (x != x) = false := by simp
      clear hx q0 q1 hg hg'
      go_wp2
      go_region
      all_goals
        go_wp2
        go_roundw
        case rel => exact ⟨k + 1, by omega, by go_num, HBW.out.drew⟩
        case measure => simp [intOf]; omega
    · go_wp2
      go_ret
      exact ⟨rfl, HBW.out⟩
/-- A row's marks: the first i of m numbers from k on. -/
def mkI (k : Int) (xs : List Value) : Nat → List Value
  | 0 => xs
  | i + 1 => (mkI k xs i).set i (.int .i64 (k + i))
theorem mkI_len (k : Int) (xs : List Value) : ∀ i, (mkI k xs i).length = xs.length
  | 0 => rfl
  | i + 1 => by
    show ((mkI k xs i).set i _).length = _
    rw [List.length_set, mkI_len k xs i]
theorem mkI_at (k : Int) (xs : List Value) : ∀ (i j : Nat), j < i → j < xs.length → (mkI k xs i)[j]? = some (.int .i64 (k + j))
  | 0, j, h, _ => by omega
  | i + 1, j, h, hj => by
    show ((mkI k xs i).set i (.int .i64 (k + i)))[j]? = _
    rw [List.getElem?_set]
    by_cases e : i = j
    · subst e
      rw [if_pos rfl, if_pos (by rw [mkI_len]; exact hj)]
    · rw [if_neg e]
      exact mkI_at k xs i j (by omega) hj
set_option maxHeartbeats 400000 in
theorem markIntS_any {B : Nat} (xs : List Value) (v : Value) (k : Int) (w : World) (h0 : 0 ≤ k) (h1 : k ≤ 10000000) (ha : ORow 3 B w v xs) (hl : xs.length ≤ 10000000) (hx : ∀ u ∈ xs, ∃ n, u = .int .i64 n) :
    Calls Try.prog 19 #[v, .int .i64 k] w fun e w' => e = .returned (.int .i64 (k + xs.length)) ∧ ORow 3 B w' v (mkI k xs xs.length) ∧ Keeps (fun j => v.ownBlock ≠ some j) w w' := by
  rcases List.eq_nil_or_concat xs with rfl | ⟨ys, y, hy⟩
  · obtain ⟨o, c, rfl, hc1, hc2⟩ := ha.form
    have HA := hide ha
    simp only [List.length_nil] at HA ⊢
    clear ha hx
    go_enter Try.func19, Try.ntmps19
    go_wp2
    go_loop [1, 5] (fun kk i => kk = .int .i64 k ∧ i = .int .i64 0) (fun _ _ => 0)
    case atStart => exact ⟨rfl, rfl⟩
    case round =>
      obtain ⟨rfl, rfl⟩ := hrel
      go_wp2
      go_ret
      exact ⟨by simp, HA.out, Keeps.refl _ _⟩
  · have hpos : 0 < xs.length := by rw [hy]; simp
    obtain ⟨o, c, rfl, hc1, hc2, hcs⟩ := ha.at
    obtain ⟨g, rfl, -⟩ := hcs 0 _ (List.getElem?_eq_getElem hpos)
    have HA := hide ha
    have hl2 : c ≤ 9223372036854775807 := hc2
    clear ha hcs hy hx
    go_enter Try.func19, Try.ntmps19
    go_wp2
    go_loopw [1, 5] (fun kk i wr => ∃ j : Nat, j ≤ xs.length ∧ kk = .int .i64 (k + j) ∧ i = .int .i64 j ∧ ORow 3 B wr (.slice (some ⟨g, 0, none⟩) xs.length c) (mkI k xs j) ∧ Keeps (fun q => q ≠ g) w wr) (fun _ i _ => xs.length - (intOf i).toNat)
    case atStart => exact ⟨0, Nat.zero_le _, by simp, rfl, HA.out, Keeps.refl _ _⟩
    case round =>
      obtain ⟨j, hj, rfl, rfl, hrow, hk⟩ := hrel
      have HROW := hide hrow
      have HK := hide hk
      by_cases hlt : j < xs.length
      · obtain ⟨u, hu⟩ : ∃ u, (mkI k xs j)[j]? = some u := ⟨_, List.getElem?_eq_getElem (by rw [mkI_len]; exact hlt)⟩
        obtain ⟨q0, q1, q2⟩ := hrow.cell hu
        have hw1 : IntKind.i64.wrap (k + j + 1) = k + j + 1 := by rw [IntKind.wrap_i64]; omega
        clear hrow hk hu
        go_wp2
        go_roundw
        case rel =>
          refine ⟨j + 1, by omega, ?_, by go_num, ?_, HK.out.trans (keeps_set _ _ _ _ fun h => h rfl)⟩
          · simp
            omega
          · exact HROW.out.set (by rw [mkI_len]) j (.int .i64 (k + j))
        case measure => simp [intOf]; omega
      · obtain rfl : j = xs.length := by omega
        clear hrow hk
        go_wp2
        go_ret
        exact ⟨rfl, HROW.out, HK.out.mono fun q hq e => hq (by rw [e]; rfl)⟩
set_option maxHeartbeats 400000 in
theorem heldIntS_any {B : Nat} (xs : List Value) (v : Value) (k : Int) (w : World) (h0 : 0 ≤ k) (h1 : k ≤ 10000000) (hl : xs.length ≤ 10000000) (ha : ORow 3 B w v (mkI k xs xs.length)) :
    Calls Try.prog 20 #[v, .int .i64 k] w fun e w' => e = .returned (.int .i64 (k + xs.length)) ∧ Below w.heap.size w w' := by
  obtain ⟨o, c, rfl, hc1, hc2, hcs⟩ := ha.at
  rw [mkI_len] at hc1 ⊢
  have HCS := hide hcs
  have HGA : Hid (∀ g, o = some ⟨g, 0, none⟩ → g < w.heap.size) := fun g e => (Array.getElem?_eq_some_iff.1 (ha.own (g := g) (by rw [e]; rfl)).2.choose_spec).1
  have hl2 : c ≤ 9223372036854775807 := hc2
  clear ha hcs
  go_enter Try.func20, Try.ntmps20
  go_wp2
  go_loopw [1, 5] (fun kk i wr => ∃ j : Nat, j ≤ xs.length ∧ kk = .int .i64 (k + j) ∧ i = .int .i64 j ∧ Below w.heap.size w wr) (fun _ i _ => xs.length - (intOf i).toNat)
  case atStart => exact ⟨0, Nat.zero_le _, by simp, rfl, Below.refl _ _⟩
  case round =>
    obtain ⟨j, hj, rfl, rfl, hbw⟩ := hrel
    have HBW := hide hbw
    clear hbw
    by_cases hlt : j < xs.length
    · obtain ⟨g, rfl, q0⟩ := HCS.out j _ (mkI_at k xs xs.length j hlt hlt)
      have r0 := (HBW.out.cell (p := ⟨g, j, none⟩) (HGA.out g rfl)).trans q0
      have hw1 : IntKind.i64.wrap (k + j + 1) = k + j + 1 := by rw [IntKind.wrap_i64]; omega
      have hxx : (k + (j : Int) != k + j) = false := by simp
      clear q0
      go_wp2
      go_roundw
      case rel =>
        refine ⟨j + 1, by omega, ?_, by go_num, HBW.out⟩
        simp
        omega
      case measure => simp [intOf]; omega
    · obtain rfl : j = xs.length := by omega
      go_wp2
      go_ret
      exact ⟨rfl, HBW.out⟩
end Go.Proofs.Ytncgbdbkoeiffam.Vo

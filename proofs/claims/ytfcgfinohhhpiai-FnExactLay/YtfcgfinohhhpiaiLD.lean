/- The model's look at the stack. -/
import Derived.Test.YtfcgfinohhhpiaiLC
namespace Go.Proofs.Ytfcgfinohhhpiai
open Go.RowKit

theorem greatL_snoc (m n : Int) (l : List Int) : greatL m (l ++ [n]) = if greatL m l < n then n else greatL m l := by
  induction l generalizing m with
  | nil => rfl
  | cons h r ih => exact ih _
theorem intRow_get (st : List Int) (i : Nat) (n : Int) (h : st.reverse[i]? = some n) : (intRow st)[i]? = some (.int .i64 n) := by
  unfold intRow
  rw [List.getElem?_map, h]
  rfl
/-- The stack's cells. -/
theorem LayMem.cells {w : World} {K : Nat → Prop} {g : Nat} {vo vs : Value} {out : List TokZ} {st : List Int} (h : LayMem w K g vo vs out st) :
    ∃ o b cap, vs = .slice o st.length cap ∧ (st ≠ [] → o = some ⟨b, 0, none⟩ ∧ b < w.heap.size) ∧ ∀ i n, st.reverse[i]? = some n → w.cell? ⟨b, i, none⟩ = some (.int .i64 n) := by
  cases st with
  | nil =>
    obtain ⟨o, cap, rfl⟩ := h.none_top
    exact ⟨o, 0, cap, rfl, fun h => absurd rfl h, fun i n hi => by simp at hi⟩
  | cons x st =>
    obtain ⟨hl, hc⟩ := h.st
    rcases hc with ⟨_, h0⟩ | ⟨b, cap, cur, hv, hb, hg, hn, hcap, hsz, htk⟩
    · cases h0
    · refine ⟨some ⟨b, 0, none⟩, b, cap, hv, fun _ => ⟨rfl, heap_lt hg⟩, fun i n hi => ?_⟩
      have hlt : i < (x :: st).length := by
        have := (List.getElem?_eq_some_iff.1 hi).1
        rwa [List.length_reverse] at this
      exact owns_cell hg htk i (by omega) _ (intRow_get _ i n hi)

set_option maxHeartbeats 2000000 in
set_option maxRecDepth 100000 in
theorem l2Margin_any {w : World} {K : Nat → Prop} {g : Nat} {out : List TokZ} {st : List Int} {wait bad : Bool} (h : SpecAt w K g out st wait bad) (hn : out.length + st.length ≤ 10000000) :
    Calls Try.prog 58 #[.pointer (some ⟨g, 0, none⟩)] w fun e w' => e = .returned (.int .i64 (greatZ st)) ∧ w' = w := by
  obtain ⟨vo, vs, hg, hm⟩ := h
  have c1 := cell_of hg 1
  simp only [List.getElem?_toArray, List.getElem?_cons_succ, List.getElem?_cons_zero] at c1
  obtain ⟨o, b, cap, rfl, ho, hcs⟩ := hm.cells
  have HO := hide ho
  have HCS := hide hcs
  have HC1 := hide c1
  clear hm hg ho hcs c1
  go_enter Try.func58, Try.ntmps58
  go_wp2
  go_loopw [3, 4] (fun t3 t4 wr => ∃ (i : Nat) (m : Int), i ≤ st.length ∧ t4 = .int .i64 i ∧ t3 = .int .i64 m ∧ m = greatL 0 (st.reverse.take i) ∧ wr = w) (fun _ t4 _ => st.length - (intOf t4).toNat)
  case atStart => exact ⟨0, 0, Nat.zero_le _, rfl, rfl, rfl, rfl⟩
  case round =>
    obtain ⟨i, m, hi, rfl, rfl, hmm, rfl⟩ := hrel
    have c1 := HC1.out
    have HMM := hide hmm
    clear hmm
    by_cases hlt : i < st.length
    · have hne : st ≠ [] := by intro e; rw [e] at hlt; simp at hlt
      obtain ⟨ho, hb⟩ := HO.out hne
      subst ho
      obtain ⟨n, hnn⟩ : ∃ n, st.reverse[i]? = some n := ⟨st.reverse[i]'(by rw [List.length_reverse]; exact hlt), List.getElem?_eq_getElem _⟩
      have ci := HCS.out i n hnn
      have hsn : st.reverse.take (i + 1) = st.reverse.take i ++ [n] := by rw [List.take_add_one, hnn]; rfl
      have HSN : Hid (greatL 0 (st.reverse.take (i + 1)) = if m < n then n else m) := by rw [hsn, greatL_snoc, ← HMM.out]; rfl
      clear hne hnn hsn
      have hlt2 : (i : Int) < st.length := by omega
      by_cases hgt : m < n
      · rw [if_pos hgt] at HSN
        go_wp2
        refine ⟨⟨i + 1, n, by omega, by go_num, rfl, HSN.out.symm, trivial⟩, by simp [intOf]; omega⟩
      · rw [if_neg hgt] at HSN
        go_wp2
        refine ⟨⟨i + 1, m, by omega, by go_num, rfl, HSN.out.symm, trivial⟩, by simp [intOf]; omega⟩
    · go_wp2
      go_ret
      have hie : i = st.length := by omega
      subst hie
      have h := HMM.out
      rw [List.take_of_length_le (by rw [List.length_reverse]; exact Nat.le_refl _)] at h
      refine ⟨?_, rfl⟩
      rw [greatZ, ← h]
      rfl
theorem l2Margin_quiet {w : World} {K : Nat → Prop} {g : Nat} {out : List TokZ} {st : List Int} {wait bad : Bool} (h : SpecAt w K g out st wait bad) (hn : out.length + st.length ≤ 10000000) (n : Nat) (x : Int) (hx : greatZ st = x) :
    Calls Try.prog 58 #[.pointer (some ⟨g, 0, none⟩)] (w.drewN n) fun e w' => e = .returned (.int .i64 x) ∧ ∃ m, w' = w.drewN m := by
  subst hx
  refine (l2Margin_any (h.drewN n) hn).mono ?_
  rintro e w' ⟨rfl, rfl⟩
  exact ⟨rfl, n, rfl⟩
end Go.Proofs.Ytfcgfinohhhpiai

/- The program's closing, and its look at the stack. -/
import Derived.Test.YtfcgfinohhhpiaiLQ
namespace Go.Proofs.Ytfcgfinohhhpiai.I
open Go.RowKit Go.Proofs.Ytfcgfinohhhpiai

theorem greatL_snoc (m n : Int) (l : List Int) : greatL m (l ++ [n]) = if greatL m l < n then n else greatL m l := by
  induction l generalizing m with
  | nil => rfl
  | cons h r ih => exact ih _
theorem intRow_get (st : List Int) (i : Nat) (n : Int) (h : st.reverse[i]? = some n) : (intRow st)[i]? = some (.int .i64 n) := by
  unfold intRow
  rw [List.getElem?_map, h]
  rfl
theorem stack_cells {w : World} {K : Nat → Prop} {g : Nat} {vo vs : Value} {out : List TokZ} {st : List Int} (h : LayMem w K g vo vs out st) :
    ∃ o b cap, vs = .slice o st.length cap ∧ (st ≠ [] → o = some ⟨b, 0, none⟩ ∧ b < w.heap.size) ∧ ∀ i n, st.reverse[i]? = some n → w.cell? ⟨b, i, none⟩ = some (.int .i64 n) := by
  cases st with
  | nil =>
    obtain ⟨o, cap, rfl⟩ := h.none_top
    exact ⟨o, 0, cap, rfl, fun h => absurd rfl h, fun i n hi => by simp at hi⟩
  | cons x st =>
    obtain ⟨hl, hc⟩ := h.st
    rcases hc with ⟨_, h0⟩ | ⟨b, cap, cur, hv, hb, hg, hn, hcap, hsz, htk⟩
    · cases h0
    · refine ⟨some ⟨b, 0, none⟩, b, cap, hv, fun _ => ⟨rfl, heap_lt hg⟩, fun i n hi => ?_⟩
      have hlt : i < (x :: st).length := by
        have := (List.getElem?_eq_some_iff.1 hi).1
        rwa [List.length_reverse] at this
      exact owns_cell hg htk i (by omega) _ (intRow_get _ i n hi)
def stackLenI (w : World) (g : Nat) : Nat := match w.cell? ⟨g, 0, none⟩ with | some (.slice _ n _) => n | _ => 0
theorem ImplAt.len {w : World} {K : Nat → Prop} {g : Nat} {out : List TokZ} {st : List Int} {wait : Bool} {line : Int} (h : ImplAt w K g out st wait line) : stackLenI w g = st.length := by
  obtain ⟨vo, vs, hg, hm⟩ := h
  have c1 := cell_of hg 0
  obtain ⟨o, cap, rfl⟩ := hm.none_top
  unfold stackLenI
  rw [c1]
  rfl
/-- The stack that is not empty, as the program looks at it. -/
theorem ImplAt.top {w : World} {K : Nat → Prop} {g : Nat} {out : List TokZ} {x : Int} {r : List Int} {wait : Bool} {line : Int} (h : ImplAt w K g out (x :: r) wait line) :
    ∃ b cap, r.length + 1 ≤ cap ∧ cap ≤ 9223372036854775807 ∧ w.cell? ⟨g, 0, none⟩ = some (.slice (some ⟨b, 0, none⟩) (r.length + 1) cap) ∧ w.frozen? ⟨g, 0, none⟩ = false ∧ w.cell? ⟨b, r.length, none⟩ = some (.int .i64 x) ∧ ImplAt (w.setCell ⟨g, 0, none⟩ (.slice (some ⟨b, 0, none⟩) r.length cap)) K g out r wait line ∧ Keeps K w (w.setCell ⟨g, 0, none⟩ (.slice (some ⟨b, 0, none⟩) r.length cap)) := by
  obtain ⟨vo, vs, hg, hm⟩ := h
  obtain ⟨b, cap, rfl, hc1, hc2, ct, -, -, hm0⟩ := hm.top
  obtain ⟨h1, h2⟩ := setStack hg hm0
  exact ⟨b, cap, hc1, hc2, cell_of hg 0, frozen_of hg 0, ct, h1, h2⟩

set_option maxHeartbeats 4000000 in
set_option maxRecDepth 100000 in
theorem closeAbove_any {w : World} {K : Nat → Prop} {g : Nat} {out : List TokZ} {st : List Int} {wait : Bool} {line : Int} (c : Int) (h : ImplAt w K g out st wait line) (hn : out.length + st.length ≤ 9000000) :
    Calls Try.prog 66 #[.pointer (some ⟨g, 0, none⟩), .int .i64 c] w fun e w' => e = .returned (.tuple #[]) ∧ ImplAt w' K g (closeA c st out).2 (closeA c st out).1 wait line ∧ Keeps K w w' := by
  have HS0 := hide h
  clear h
  go_enter Try.func66, Try.ntmps66
  go_wp2
  repeat (go_step3; go_wp2)
  go_loopw [] (fun wr => ∃ (st' : List Int) (out' : List TokZ), closeA c st out = closeA c st' out' ∧ out'.length + st'.length ≤ 9000000 ∧ ImplAt wr K g out' st' wait line ∧ Keeps K w wr) (fun wr => stackLenI wr g)
  case atStart => exact ⟨st, out, rfl, hn, HS0.out, Keeps.refl _ _⟩
  case round =>
    obtain ⟨st', out', hcl, hn', hS, hK⟩ := hrel
    have HCL := hide hcl
    have HS := hide hS
    have HK := hide hK
    have HLEN := hide (ImplAt.len hS)
    cases st' with
    | nil =>
      obtain ⟨o0, n0, o1, n1, c0, -, -, -, -, -, -⟩ := ImplAt.facts hS
      simp only [List.length_nil] at c0
      clear hcl hS hK
      go_wp2
      unfold Exit.noGoto
      go_end0
      refine ⟨rfl, ?_, HK.out⟩
      rw [HCL.out]
      exact HS.out
    | cons x r =>
      obtain ⟨b, cap, hc1, hc3, c0, f0, ct, hS2, hK2⟩ := ImplAt.top hS
      have HS2 := hide hS2
      have HK2 := hide (hK.trans hK2)
      clear hcl hS hK hS2 hK2
      rw [List.length_cons] at hn'
      have hz : ((r.length : Int) + 1 == 0) = false := by simp; omega
      have hw1 : IntKind.i64.wrap (r.length : Int) = r.length := by rw [IntKind.wrap_i64]; omega
      have hw2 : (r.length : Int) ≤ cap := by omega
      have hw3 : (0 : Int) ≤ r.length := by omega
      by_cases hgt : c < x
      · have HC2 : Hid (closeA c st out = closeA c r (out' ++ [markZ sShut])) := by
          show closeA c st out = closeA c r (out' ++ [markZ sShut])
          rw [HCL.out, closeA, if_pos hgt]
        have hle : ¬ x ≤ c := by omega
        have hled : decide (x ≤ c) = false := by simp [hle]
        go_wp2_with fail
        refine (putIn_any ⟨#[125]⟩ (by decide) HS2.out (by omega)).mono ?_
        rintro e w3 ⟨rfl, hs3, hk3⟩
        have HS3 := hide hs3
        have HK3 := hide (HK2.out.trans hk3)
        clear hs3 hk3
        go_wp2
        refine ⟨⟨r, out' ++ [markZ sShut], HC2.out, by rw [List.length_append]; simp only [List.length_cons, List.length_nil]; omega, HS3.out, HK3.out⟩, ?_⟩
        rw [ImplAt.len HS3.out, HLEN.out]
        exact Nat.lt_succ_self _
      · have hle : x ≤ c := by omega
        have hled : decide (x ≤ c) = true := by simp [hle]
        go_wp2
        go_end0
        refine ⟨rfl, ?_, HK.out⟩
        rw [HCL.out, closeA, if_neg (by omega)]
        exact HS.out
end Go.Proofs.Ytfcgfinohhhpiai.I

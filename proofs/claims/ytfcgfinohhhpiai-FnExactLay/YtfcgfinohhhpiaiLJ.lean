/- The model's Lay. -/
import Derived.Test.YtfcgfinohhhpiaiLH
namespace Go.Proofs.Ytfcgfinohhhpiai
open Go.RowKit

theorem SpecAt.facts {w : World} {K : Nat → Prop} {g : Nat} {out : List TokZ} {st : List Int} {wait bad : Bool} (h : SpecAt w K g out st wait bad) :
    ∃ o0 n0 o1 n1, w.cell? ⟨g, 0, none⟩ = some (.slice o0 out.length n0) ∧ w.cell? ⟨g, 1, none⟩ = some (.slice o1 st.length n1) ∧ w.cell? ⟨g, 3, none⟩ = some (.bool bad) ∧ w.ownsRow 0 70 4 (.slice o0 out.length n0) out.length (rowZ out) ∧ ∀ k, (Value.slice o0 out.length n0).ownBlock = some k → ¬ K k := by
  obtain ⟨vo, vs, hg, hm⟩ := h
  obtain ⟨o0, n0, rfl⟩ := owns_form hm.out
  obtain ⟨o1, n1, rfl⟩ := hm.none_top
  exact ⟨o0, n0, o1, n1, cell_of hg 0, cell_of hg 1, cell_of hg 3, hm.out, hm.ko⟩
theorem SpecAt.start (w : World) : SpecAt (w.alloc (.cells #[.slice none 0 0, .slice none 0 0, .bool true, .bool false] 68)) (· < w.heap.size) w.heap.size [] [] true false := by
  refine ⟨.slice none 0 0, .slice none 0 0, heap_alloc_new w _, ⟨World.ownsRow_nil _ _ _ _, World.ownsRow_nil _ _ _ _, ?_, ?_, Or.inl rfl, ?_, ?_, ?_, ?_, ?_⟩⟩
  · intro h; cases h
  · intro h; cases h
  · show ¬ w.heap.size < w.heap.size
    omega
  · intro k h; cases h
  · intro k h; cases h
  · intro k h
    show k < (w.alloc _).heap.size
    have h2 : k < w.heap.size := h
    simp
    omega
  · simp
theorem runZ_cons {ts : List TokZ} {i : Nat} {t : TokZ} (h : ts[i]? = some t) (st : List Int) (out : List TokZ) (wait : Bool) (line : Int) : runZ (ts.drop i) st out wait line = match stepZ st out wait t line with | none => none | some (a, b, c) => runZ (ts.drop (i + 1)) a b c t.l := by
  have e : ts.drop i = t :: ts.drop (i + 1) := by
    obtain ⟨hi, rfl⟩ := List.getElem?_eq_some_iff.1 h
    exact List.drop_eq_getElem_cons hi
  rw [e]
  rfl
theorem runZ_end {ts : List TokZ} {i : Nat} (h : ts.length ≤ i) (st : List Int) (out : List TokZ) (wait : Bool) (line : Int) : runZ (ts.drop i) st out wait line = some (st, out) := by
  rw [List.drop_eq_nil_of_le h]
  rfl
def SpecRun (w : World) (K : Nat → Prop) (g : Nat) (ts : List TokZ) (i : Nat) (line : Int) : Prop :=
  (∃ st out wait, SpecAt w K g out st wait false ∧ out.length + st.length ≤ 6 * i ∧ runZ ts [] [] true 0 = runZ (ts.drop i) st out wait line) ∨
  (∃ st out wait, SpecAt w K g out st wait true ∧ runZ ts [] [] true 0 = none)
theorem ret_pair {v : Value} {a b : Bool} (h : a = b) : Ending.returned (.tuple #[v, .bool a]) = .returned (.tuple #[v, .bool b]) := by rw [h]
theorem laid_none {ts : List TokZ} (h : layZ ts = none) : laidTs ts = [] ∧ laidOk ts = false := by
  unfold laidTs laidOk
  rw [h]
  exact ⟨rfl, rfl⟩
theorem laid_some {ts out : List TokZ} (h : layZ ts = some out) : laidTs ts = out ∧ laidOk ts = true := by
  unfold laidTs laidOk
  rw [h]
  exact ⟨rfl, rfl⟩
/-- Nothing, and false, laid in new memory. -/
theorem nothing_laid {ts : List TokZ} {w w1 : World} (h : layZ ts = none) (hb : Below w.heap.size w w1) : ∃ v, Ending.returned (.tuple #[.slice (some ⟨w1.heap.size, 0, none⟩) 0 0, .bool false]) = .returned (.tuple #[v, .bool (laidOk ts)]) ∧ (w1.alloc (.cells #[] 70)).ownsRow w.heap.size 70 4 v (laidTs ts).length (rowZ (laidTs ts)) ∧ Below w.heap.size w (w1.alloc (.cells #[] 70)) := by
  obtain ⟨h1, h2⟩ := laid_none h
  rw [h1, h2]
  refine ⟨_, rfl, owns_base (owns_empty w1 _ 4) (fun k hk => ?_), hb.alloc hb.size _⟩
  have : w1.heap.size = k := Option.some.inj hk
  have := hb.size
  omega

set_option maxHeartbeats 4000000 in
set_option maxRecDepth 100000 in
theorem specLay_any (ts : List TokZ) (hts : ts.length ≤ 1048576) (o : Option Addr) (b cap : Nat) (w : World) (hm : ToksAt w o b 0 ts) :
    Calls Try.prog 9 #[.slice o ts.length cap] w fun e w' => ∃ v, e = .returned (.tuple #[v, .bool (laidOk ts)]) ∧ w'.ownsRow w.heap.size 70 4 v (laidTs ts).length (rowZ (laidTs ts)) ∧ Below w.heap.size w w' := by
  have HM := hide hm
  have HS0 := hide (SpecAt.start w)
  clear hm
  go_enter Try.func9, Try.ntmps9
  go_wp2
  go_loopw [5, 6] (fun t5 t6 wr => ∃ (i : Nat) (line : Int), i ≤ ts.length ∧ t6 = .int .i64 i ∧ t5 = .int .i64 line ∧ SpecRun wr (· < w.heap.size) w.heap.size ts i line ∧ Below w.heap.size w wr) (fun _ t6 _ => ts.length - (intOf t6).toNat)
  case atStart => exact ⟨0, 0, Nat.zero_le _, rfl, rfl, Or.inl ⟨[], [], true, HS0.out, by simp, rfl⟩, (Below.refl _ w).alloc (Nat.le_refl _) _⟩
  case round =>
    obtain ⟨i, line, hi, rfl, rfl, hrun, hbw⟩ := hrel
    have HBW := hide hbw
    clear hbw
    rcases hrun with ⟨st, out, wait, hS, hn, hR⟩ | ⟨st, out, wait, hS, hR⟩
    · have HS := hide hS
      have HR := hide hR
      obtain ⟨o0, n0, o1, n1, c0, c1, c3, hown, hko⟩ := hS.facts
      have HOWN := hide hown
      have HKO := hide hko
      clear hS hR hown hko
      by_cases hlt : i < ts.length
      · have hne : ts ≠ [] := by intro e; rw [e] at hlt; simp at hlt
        obtain ⟨t, ht⟩ : ∃ t, ts[i]? = some t := ⟨ts[i], List.getElem?_eq_getElem hlt⟩
        obtain ⟨eo, hbl, hcs⟩ := (toksAt_later HM.out HBW.out) hne
        have hbl0 := (HM.out hne).2.1
        subst eo
        have hA := hcs i t ht
        rw [Nat.zero_add] at hA
        obtain ⟨x0, x1, x2, x3⟩ := hA
        have HRC := hide (runZ_cons ht st out wait line)
        clear hcs ht hne
        have hlt2 : (i : Int) < ts.length := by omega
        go_wp2_with fail
        rw [tok_eta2]
        refine (l2Step_any t line HS.out (by omega)).mono ?_
        rintro e w1 ⟨rfl, hres, hk⟩
        have y2 := (hk.below.cell (p := ⟨b, i * 4 + 2, none⟩) hbl0).trans x2
        have HB1 := hide (HBW.out.trans hk.below)
        have HRES := hide hres
        clear hres hk x0 x1 x2 x3 c0 c1 c3
        go_wp2
        refine ⟨⟨i + 1, t.l, by omega, by go_num, rfl, ?_, HB1.out⟩, by simp [intOf]; omega⟩
        have hres := HRES.out
        have hrc := HRC.out
        cases hz : stepZ st out wait t line with
        | none =>
          rw [hz] at hres hrc
          obtain ⟨s, o, wt, h⟩ := hres
          exact Or.inr ⟨s, o, wt, h, HR.out.trans hrc⟩
        | some x =>
          obtain ⟨a, bb, c⟩ := x
          rw [hz] at hres hrc
          have hsum := stepZ_sum hz
          exact Or.inl ⟨a, bb, c, hres, by omega, HR.out.trans hrc⟩
      · have HL : Hid (layZ ts = doneZ (some (st, out))) := by
          show layZ ts = _
          unfold layZ
          rw [HR.out, runZ_end (by omega)]
        cases st with
        | cons x r =>
          have HN : Hid (layZ ts = none) := by
            show layZ ts = none
            rw [HL.out]
            unfold doneZ
            simp only
            rw [if_neg (by rw [List.length_cons]; omega)]
          simp only [List.length_cons] at c1
          have hs : (0 : Int) < (r.length : Int) + 1 := by omega
          have hsd : decide ((0 : Int) < (r.length : Int) + 1) = true := by simp [hs]
          go_wp2
          go_ret2
          exact nothing_laid HN.out HBW.out
        | nil =>
          simp only [List.length_nil] at c1
          by_cases ho : 900 < out.length
          · have HN : Hid (layZ ts = none) := by
              show layZ ts = none
              rw [HL.out]
              unfold doneZ
              simp only
              rw [if_neg (by omega)]
            have ho1 : (900 : Int) < out.length := by omega
            have ho2 : decide ((900 : Int) < out.length) = true := by simp [ho1]
            have ho3 : decide (900 < out.length) = true := by simp [ho]
            go_wp2
            go_ret2
            exact nothing_laid HN.out HBW.out
          · have HN : Hid (layZ ts = some out) := by
              show layZ ts = some out
              rw [HL.out]
              unfold doneZ
              simp only
              rw [if_pos ⟨rfl, by omega⟩]
            have ho1 : ¬ (900 : Int) < out.length := by omega
            have ho2 : decide ((900 : Int) < out.length) = false := by simp [ho1]
            have ho3 : decide (900 < out.length) = false := by simp [ho]
            go_wp2
            go_ret2
            obtain ⟨h1, h2⟩ := laid_some HN.out
            rw [h1, h2]
            exact ⟨_, rfl, owns_base HOWN.out fun k hk => Nat.le_of_not_lt (HKO.out k hk), HBW.out⟩
    · have HN : Hid (layZ ts = none) := by
        show layZ ts = none
        unfold layZ
        rw [hR]
        rfl
      obtain ⟨o0, n0, o1, n1, c0, c1, c3, -, -⟩ := hS.facts
      clear hS hR
      by_cases hlt : (i : Int) < ts.length
      all_goals
        go_wp2
        go_ret2
        exact nothing_laid HN.out HBW.out
end Go.Proofs.Ytfcgfinohhhpiai

/- The model's SameProg. -/
import Derived.Test.YtegcebeaelpjhajPO
namespace Go.Proofs.Ytegcebeaelpjhaj
open Go.ChangeShapes Go.WideShapes Go.ChangeAt Go.RowKit

def smP (h : Nat) (a b : Tr) : Bool := decide (a.l.length = b.l.length) && (rowTo (smD h) a.l b.l a.l.length && rowB (sm h).de a.ds b.ds)

set_option maxHeartbeats 2000000 in
set_option maxRecDepth 100000 in
theorem specSameProg_any {K L : Nat → Prop} {h : Nat} (a b : Tr) (ca cb : List Value) (w : World) (hra : prR K w h a ca) (hrb : prR L w h b cb) :
    Calls Try.prog 7 #[.agg ca.toArray, .agg cb.toArray] w fun e w' => e = .returned (.bool (smP h a b)) ∧ Below w.heap.size w w' := by
  obtain ⟨-, -, -, -, -, o1, c1, o2, c2, rfl, hla, hda, q1, q2⟩ := hra
  obtain ⟨-, -, -, -, -, p1, d1, p2, d2, rfl, hlb, hdb, r1, r2⟩ := hrb
  have Q1 := hide q1
  have R1 := hide r1
  have Q2 := hide q2
  have R2 := hide r2
  have HDA := hide hda.1
  have HDB := hide hdb.1
  have ml1 : a.l.length ≤ 9223372036854775807 := hla.1
  have ml2 : b.l.length ≤ 9223372036854775807 := hlb.1
  clear q1 r1 q2 r2 hla hlb hda hdb
  have HB0 : Hid (Below w.heap.size w ((w.alloc (.cells #[.slice o1 a.l.length c1, .slice o2 a.ds.length c2] 31)).alloc (.cells #[.slice p1 b.l.length d1, .slice p2 b.ds.length d2] 31))) := ((Below.refl _ w).alloc (Nat.le_refl _) _).alloc (by simp) _
  have HX0 : Hid (((w.alloc (.cells #[.slice o1 a.l.length c1, .slice o2 a.ds.length c2] 31)).alloc (.cells #[.slice p1 b.l.length d1, .slice p2 b.ds.length d2] 31)).heap[w.heap.size]? = some (.cells #[.slice o1 a.l.length c1, .slice o2 a.ds.length c2] 31 (0, 0))) := (Below.heap_alloc _ _ _ (by simp)).trans (heap_alloc_new w _)
  have HY0 : Hid (((w.alloc (.cells #[.slice o1 a.l.length c1, .slice o2 a.ds.length c2] 31)).alloc (.cells #[.slice p1 b.l.length d1, .slice p2 b.ds.length d2] 31)).heap[w.heap.size + 1]? = some (.cells #[.slice p1 b.l.length d1, .slice p2 b.ds.length d2] 31 (0, 0))) := heap_alloc2_new w _ _
  by_cases hl : a.l.length = b.l.length
  case neg =>
    have hl1 : ((a.l.length : Int) != (b.l.length : Int)) = true := by simp; omega
    have hl2 : (a.l.length != b.l.length) = true := by simpa using hl
    have Hhl := hide hl
    clear hl
    go_enter Try.func7, Try.ntmps7
    go_wp2
    go_ret
    exact ⟨ret_bool (by unfold smP; rw [decide_eq_false Hhl.out]; rfl), HB0.out⟩
  have hl1 : ((a.l.length : Int) != (b.l.length : Int)) = false := by simp; omega
  have hl2 : (a.l.length != b.l.length) = false := by simpa using hl
  have hl3 : a.l.length ≤ b.l.length := by omega
  have HSM2 : Hid (smP h a b = (rowTo (smD h) a.l b.l a.l.length && rowB (sm h).de a.ds b.ds)) := by
    show smP h a b = _
    unfold smP
    rw [decide_eq_true hl]
    rfl
  clear hl
  go_enter Try.func7, Try.ntmps7
  go_wp2
  generalize ((w.alloc (.cells #[.slice o1 a.l.length c1, .slice o2 a.ds.length c2] 31)).alloc (.cells #[.slice p1 b.l.length d1, .slice p2 b.ds.length d2] 31)) = w1 at HB0 HX0 HY0 ⊢
  clear hl1 hl2
  go_loopw [5] (fun t wr => ∃ i : Nat, i ≤ a.l.length ∧ t = .int .i64 i ∧ rowTo (smD h) a.l b.l i = true ∧ Below w1.heap.size w1 wr) (fun t _ => a.l.length - (intOf t).toNat)
  case atStart => exact ⟨0, Nat.zero_le _, rfl, rfl, Below.refl _ _⟩
  case round =>
    obtain ⟨i, hi, rfl, hro, hbw⟩ := hrel
    have HRO := hide hro
    have HB2 := hide (HB0.out.trans (hbw.mono HB0.out.size))
    have HXR := hide ((hbw.block w.heap.size (heap_lt HX0.out)).trans HX0.out)
    have HYR := hide ((hbw.block (w.heap.size + 1) (heap_lt HY0.out)).trans HY0.out)
    have HBW := hide hbw
    clear hro hbw
    have xa0 := cell_of HXR.out 0
    have yb0 := cell_of HYR.out 0
    have xa1 := cell_of HXR.out 1
    have yb1 := cell_of HYR.out 1
    simp only [List.getElem?_toArray, List.getElem?_cons_succ, List.getElem?_cons_zero] at xa0 yb0 xa1 yb1
    by_cases hlt : i < a.l.length
    · have hne : a.l ≠ [] := by intro e; rw [e] at hlt; simp at hlt
      have hne2 : b.l ≠ [] := by intro e; rw [e] at hl3; simp at hl3; rw [hl3] at hlt; simp at hlt
      obtain ⟨x, hx⟩ : ∃ x, a.l[i]? = some x := ⟨a.l[i], List.getElem?_eq_getElem hlt⟩
      obtain ⟨y, hy⟩ : ∃ y, b.l[i]? = some y := ⟨b.l[i]'(by omega), List.getElem?_eq_getElem _⟩
      obtain ⟨ba, fa, ea, -, bla, hA⟩ := (Q1.out.later HB2.out (daR_later HB2.out h)) hne
      obtain ⟨bb, fb, eb, -, blb, hB⟩ := (R1.out.later HB2.out (daR_later HB2.out h)) hne2
      subst ea eb
      obtain ⟨va, lA, hkA, rA⟩ := hA i x hx
      obtain ⟨vb, lB, hkB, rB⟩ := hB i y hy
      obtain ⟨v0, v1, rfl⟩ := two_of lA
      obtain ⟨u0, u1, rfl⟩ := two_of lB
      have hlt2 : (i : Int) < a.l.length := by omega
      have hlt3 : (i : Int) < b.l.length := by omega
      have gx0 := later_at (heap_lt HXR.out) xa0
      have gy0 := later_at (heap_lt HYR.out) yb0
      have ga0 := later_at bla (hkA 0 v0 rfl)
      have gb0 := later_at blb (hkB 0 u0 rfl)
      have ga1 := later_at bla (hkA 1 v1 rfl)
      have gb1 := later_at blb (hkB 1 u1 rfl)
      rw [Nat.add_zero] at ga0 gb0
      have RA := hide rA
      have RB := hide rB
      have HX := hide hx
      have HY := hide hy
      clear hx hy hA hB hne hne2 hkA hkB rA rB lA lB
      have hne0 : Nonempty (Later wr) := later_nonempty wr
      cases hp : smD h x y
      all_goals
        have HP := hide hp
        clear hp
        go_wp2_with fail
        refine wp_region_class (S := fun v => Below wr.heap.size wr v) (by kernel_rfl) (by kernel_rfl) (below_drew _) ?_
        repeat (first | go_big_quiet_skip | (go_big_quiet_want; go_big_quiet_op; first | go_big_quiet_on | (apply Exists.intro; refine ⟨fun q => ?_, ?_⟩; (first | (go_at_call 23; refine (sameData_any x y [v0, v1] [u0, u1] _ (daR_later q.h h _ _ RA.out) (daR_later q.h h _ _ RB.out)).mono ?_; rintro e w9 ⟨rfl, hb9⟩; rw [HP.out]; exact ⟨rfl, Later.on q hb9, rfl⟩)); go_big_quiet_on)))
        refine wpQuiet_nil ?_
        intro _ hw'
        obtain ⟨q, rfl⟩ := hw'
        have hpa := pair_at (f := smD h) HX.out HY.out
        rw [HP.out] at hpa
        have HPA := hide hpa
        clear hpa
        go_wp2
      · go_ret
        refine ⟨ret_bool ?_, HB2.out.trans (q.h.mono HB2.out.size)⟩
        have hf : rowTo (smD h) a.l b.l (i + 1) = false := by
          show (rowTo (smD h) a.l b.l i && _) = false
          rw [HPA.out, Bool.and_false]
        rw [HSM2.out, rowTo_false hf (by omega)]
        rfl
      · go_roundw
        case rel =>
          refine ⟨i + 1, by omega, by go_num, ?_, HBW.out.trans (q.h.mono HBW.out.size)⟩
          show (rowTo (smD h) a.l b.l i && _) = true
          rw [HRO.out, HPA.out]
          rfl
        case measure => simp [intOf]; omega
    · have he : i = a.l.length := by omega
      have HSM3 : Hid (smP h a b = rowB (sm h).de a.ds b.ds) := by
        show smP h a b = _
        rw [HSM2.out, ← he, HRO.out]
        rfl
      clear he
      go_wp2_with fail
      refine ((sa_all h).2.1 K L a.ds b.ds o2 p2 c2 d2 _ (Q2.out.later HB2.out (reads_later HB2.out h).2.1) (R2.out.later HB2.out (reads_later HB2.out h).2.1) HDA.out HDB.out).mono ?_
      rintro e w3 ⟨rfl, hb⟩
      have HB3 := hide (HB2.out.trans (hb.mono HB2.out.size))
      clear hb
      go_wp2
      go_ret
      exact ⟨ret_bool HSM3.out.symm, HB3.out⟩
end Go.Proofs.Ytegcebeaelpjhaj

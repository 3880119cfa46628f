/- The model's sameness of types. -/
import Derived.Test.YtpkibfmjhlfafaaZRD
import Derived.Test.YtpkibfmjhlfafaaZC
namespace Go.Proofs.Ytpkibfmjhlfafaa
open Go.ChangeShapes Go.WideShapes Go.ChangeAt Go.RowKit

/-- Two types are the same, plainly, by height. -/
def smT : Nat → Tr → Tr → Bool
  | 0, _, _ => true
  | h + 1, a, b => decide (a.k = b.k) && (eqS a.s b.s && (decide (a.n = b.n) && (decide (a.l.length = b.l.length) && rowTo (smT h) a.l b.l a.l.length)))
def SaTy (h : Nat) : Prop := ∀ (K L : Nat → Prop) (a b : Tr) (ca cb : List Value) (w : World), tyR K w h a ca → tyR L w h b cb → Calls Try.prog 6 #[.agg ca.toArray, .agg cb.toArray] w fun e w' => e = .returned (.bool (smT h a b)) ∧ Below w.heap.size w w'

set_option maxHeartbeats 2000000 in
set_option maxRecDepth 100000 in
theorem sameTy_step {h : Nat} (i1 : SaTy h) : SaTy (h + 1) := by
  intro K L a b ca cb w hra hrb
  obtain ⟨-, -, -, o1, c1, rfl, hsa, hla, q1⟩ := hra
  obtain ⟨-, -, -, p1, d1, rfl, hsb, hlb, r1⟩ := hrb
  have I1 := hide i1
  have Q1 := hide q1
  have R1 := hide r1
  have ml1 : a.l.length ≤ 9223372036854775807 := hla.1
  have ml2 : b.l.length ≤ 9223372036854775807 := hlb.1
  clear i1 q1 r1 hsa hla hsb hlb
  have HSM : Hid (smT (h + 1) a b = (decide (a.k = b.k) && (eqS a.s b.s && (decide (a.n = b.n) && (decide (a.l.length = b.l.length) && rowTo (smT h) a.l b.l a.l.length))))) := rfl
  have HB0 : Hid (Below w.heap.size w ((w.alloc (.cells #[.int .i64 a.k, .string a.s, .int .i64 a.n, .slice o1 a.l.length c1] 29)).alloc (.cells #[.int .i64 b.k, .string b.s, .int .i64 b.n, .slice p1 b.l.length d1] 29))) := ((Below.refl _ w).alloc (Nat.le_refl _) _).alloc (by simp) _
  have HX0 : Hid (((w.alloc (.cells #[.int .i64 a.k, .string a.s, .int .i64 a.n, .slice o1 a.l.length c1] 29)).alloc (.cells #[.int .i64 b.k, .string b.s, .int .i64 b.n, .slice p1 b.l.length d1] 29)).heap[w.heap.size]? = some (.cells #[.int .i64 a.k, .string a.s, .int .i64 a.n, .slice o1 a.l.length c1] 29 (0, 0))) := (Below.heap_alloc _ _ _ (by simp)).trans (heap_alloc_new w _)
  have HY0 : Hid (((w.alloc (.cells #[.int .i64 a.k, .string a.s, .int .i64 a.n, .slice o1 a.l.length c1] 29)).alloc (.cells #[.int .i64 b.k, .string b.s, .int .i64 b.n, .slice p1 b.l.length d1] 29)).heap[w.heap.size + 1]? = some (.cells #[.int .i64 b.k, .string b.s, .int .i64 b.n, .slice p1 b.l.length d1] 29 (0, 0))) := heap_alloc2_new w _ _
  by_cases hk : a.k = b.k
  case neg =>
    have hk1 : (a.k != b.k) = true := by simpa using hk
    have Hhk := hide hk
    clear hk
    go_enter Try.func6, Try.ntmps6
    go_wp2
    go_ret
    exact ⟨ret_bool (by rw [HSM.out, decide_eq_false Hhk.out]; simp), HB0.out⟩
  have hk1 : (a.k != b.k) = false := by simpa using hk
  have Hhk := hide hk
  clear hk
  cases hs : eqS a.s b.s
  · have hs1 : (a.s.toList == b.s.toList) = false := hs
    have hs2 : (a.s.toList != b.s.toList) = true := by show (!(eqS a.s b.s)) = true; rw [hs]; rfl
    have Hhs := hide hs
    clear hs
    go_enter Try.func6, Try.ntmps6
    go_wp2
    go_ret
    exact ⟨ret_bool (by rw [HSM.out, Hhs.out]; simp), HB0.out⟩
  have hs1 : (a.s.toList == b.s.toList) = true := hs
  have hs2 : (a.s.toList != b.s.toList) = false := by show (!(eqS a.s b.s)) = false; rw [hs]; rfl
  have Hhs := hide hs
  clear hs
  by_cases hn : a.n = b.n
  case neg =>
    have hn1 : (a.n != b.n) = true := by simpa using hn
    have Hhn := hide hn
    clear hn
    go_enter Try.func6, Try.ntmps6
    go_wp2
    go_ret
    exact ⟨ret_bool (by rw [HSM.out, decide_eq_false Hhn.out]; simp), HB0.out⟩
  have hn1 : (a.n != b.n) = false := by simpa using hn
  have Hhn := hide hn
  clear hn
  by_cases hl : a.l.length = b.l.length
  case neg =>
    have hl1 : ((a.l.length : Int) != (b.l.length : Int)) = true := by simp; omega
    have hl2 : (a.l.length != b.l.length) = true := by simpa using hl
    have Hhl := hide hl
    clear hl
    go_enter Try.func6, Try.ntmps6
    go_wp2
    go_ret
    exact ⟨ret_bool (by rw [HSM.out, decide_eq_false Hhl.out]; simp), HB0.out⟩
  have hl1 : ((a.l.length : Int) != (b.l.length : Int)) = false := by simp; omega
  have hl2 : (a.l.length != b.l.length) = false := by simpa using hl
  have hl3 : a.l.length ≤ b.l.length := by omega
  have HSM2 : Hid (smT (h + 1) a b = rowTo (smT h) a.l b.l a.l.length) := by
    show smT (h + 1) a b = _
    rw [HSM.out, decide_eq_true Hhk.out, Hhs.out, decide_eq_true Hhn.out, decide_eq_true hl]
    rfl
  clear hl
  go_enter Try.func6, Try.ntmps6
  go_wp2
  generalize ((w.alloc (.cells #[.int .i64 a.k, .string a.s, .int .i64 a.n, .slice o1 a.l.length c1] 29)).alloc (.cells #[.int .i64 b.k, .string b.s, .int .i64 b.n, .slice p1 b.l.length d1] 29)) = w1 at HB0 HX0 HY0 ⊢
  clear hk1 hs1 hs2 hn1 hl1 hl2
  go_loopw [5] (fun t wr => ∃ i : Nat, i ≤ a.l.length ∧ t = .int .i64 i ∧ rowTo (smT h) a.l b.l i = true ∧ Below w1.heap.size w1 wr) (fun t _ => a.l.length - (intOf t).toNat)
  case atStart => exact ⟨0, Nat.zero_le _, rfl, rfl, Below.refl _ _⟩
  case round =>
    obtain ⟨i, hi, rfl, hro, hbw⟩ := hrel
    have HRO := hide hro
    have HB2 := hide (HB0.out.trans (hbw.mono HB0.out.size))
    have HXR := hide ((hbw.block w.heap.size (heap_lt HX0.out)).trans HX0.out)
    have HYR := hide ((hbw.block (w.heap.size + 1) (heap_lt HY0.out)).trans HY0.out)
    have HBW := hide hbw
    clear hro hbw
    have xa3 := cell_of HXR.out 3
    have yb3 := cell_of HYR.out 3
    simp only [List.getElem?_toArray, List.getElem?_cons_succ, List.getElem?_cons_zero] at xa3 yb3
    by_cases hlt : i < a.l.length
    · have hne : a.l ≠ [] := by intro e; rw [e] at hlt; simp at hlt
      have hne2 : b.l ≠ [] := by intro e; rw [e] at hl3; simp at hl3; rw [hl3] at hlt; simp at hlt
      obtain ⟨x, hx⟩ : ∃ x, a.l[i]? = some x := ⟨a.l[i], List.getElem?_eq_getElem hlt⟩
      obtain ⟨y, hy⟩ : ∃ y, b.l[i]? = some y := ⟨b.l[i]'(by omega), List.getElem?_eq_getElem _⟩
      obtain ⟨ba, fa, ea, -, bla, hA⟩ := (Q1.out.later HB2.out (tyR_later HB2.out h)) hne
      obtain ⟨bb, fb, eb, -, blb, hB⟩ := (R1.out.later HB2.out (tyR_later HB2.out h)) hne2
      subst ea eb
      obtain ⟨va, lA, hkA, rA⟩ := hA i x hx
      obtain ⟨vb, lB, hkB, rB⟩ := hB i y hy
      obtain ⟨v0, v1, v2, v3, rfl⟩ := four_of lA
      obtain ⟨u0, u1, u2, u3, rfl⟩ := four_of lB
      have hlt2 : (i : Int) < a.l.length := by omega
      have hlt3 : (i : Int) < b.l.length := by omega
      have gx3 := later_at (heap_lt HXR.out) xa3
      have gy3 := later_at (heap_lt HYR.out) yb3
      have ga0 := later_at bla (hkA 0 v0 rfl)
      have gb0 := later_at blb (hkB 0 u0 rfl)
      have ga1 := later_at bla (hkA 1 v1 rfl)
      have gb1 := later_at blb (hkB 1 u1 rfl)
      have ga2 := later_at bla (hkA 2 v2 rfl)
      have gb2 := later_at blb (hkB 2 u2 rfl)
      have ga3 := later_at bla (hkA 3 v3 rfl)
      have gb3 := later_at blb (hkB 3 u3 rfl)
      rw [Nat.add_zero] at ga0 gb0
      have RA := hide rA
      have RB := hide rB
      have HX := hide hx
      have HY := hide hy
      clear hx hy hA hB hne hne2 hkA hkB rA rB lA lB
      have hne0 : Nonempty (Later wr) := later_nonempty wr
      cases hp : smT h x y
      all_goals
        have HP := hide hp
        clear hp
        go_wp2_with fail
        refine wp_region_class (S := fun v => Below wr.heap.size wr v) (by kernel_rfl) (by kernel_rfl) (below_drew _) ?_
        repeat (first | go_big_quiet_skip | (go_big_quiet_want; go_big_quiet_op; first | go_big_quiet_on | (apply Exists.intro; refine ⟨fun q => ?_, ?_⟩; (first | (go_at_call 6; refine (I1.out K L x y [v0, v1, v2, v3] [u0, u1, u2, u3] _ (tyR_later q.h h _ _ RA.out) (tyR_later q.h h _ _ RB.out)).mono ?_; rintro e w9 ⟨rfl, hb9⟩; rw [HP.out]; exact ⟨rfl, Later.on q hb9, rfl⟩)); go_big_quiet_on)))
        refine wpQuiet_nil ?_
        intro _ hw'
        obtain ⟨q, rfl⟩ := hw'
        have hpa := pair_at (f := smT h) HX.out HY.out
        rw [HP.out] at hpa
        have HPA := hide hpa
        clear hpa
        go_wp2
      · go_ret
        refine ⟨ret_bool ?_, HB2.out.trans (q.h.mono HB2.out.size)⟩
        have hf : rowTo (smT h) a.l b.l (i + 1) = false := by
          show (rowTo (smT h) a.l b.l i && _) = false
          rw [HPA.out, Bool.and_false]
        rw [HSM2.out, rowTo_false hf (by omega)]
      · go_roundw
        case rel =>
          refine ⟨i + 1, by omega, by go_num, ?_, HBW.out.trans (q.h.mono HBW.out.size)⟩
          show (rowTo (smT h) a.l b.l i && _) = true
          rw [HRO.out, HPA.out]
          rfl
        case measure => simp [intOf]; omega
    · go_wp2
      go_ret
      refine ⟨ret_bool ?_, HB2.out⟩
      have he : i = a.l.length := by omega
      rw [HSM2.out, ← he, HRO.out]
theorem sameTy_all (h : Nat) : SaTy h := by
  induction h with
  | zero => exact fun _ _ _ _ _ _ _ hr => hr.elim
  | succ h ih => exact sameTy_step ih
end Go.Proofs.Ytpkibfmjhlfafaa

/- The model's sameness of datas. -/
import Derived.Test.YtegcebeaelpjhajPN
namespace Go.Proofs.Ytegcebeaelpjhaj
open Go.ChangeShapes Go.WideShapes Go.ChangeAt Go.RowKit

def smC (h : Nat) (a b : Tr) : Bool := eqS a.s b.s && (decide (a.l.length = b.l.length) && rowTo (smT h) a.l b.l a.l.length)
def smD (h : Nat) (a b : Tr) : Bool := eqS a.s b.s && (decide (a.l.length = b.l.length) && rowTo (smC h) a.l b.l a.l.length)

set_option maxHeartbeats 4000000 in
set_option maxRecDepth 100000 in
theorem sameData_any {K L : Nat → Prop} {h : Nat} (a b : Tr) (ca cb : List Value) (w : World) (hra : daR K w h a ca) (hrb : daR L w h b cb) :
    Calls Try.prog 23 #[.agg ca.toArray, .agg cb.toArray] w fun e w' => e = .returned (.bool (smD h a b)) ∧ Below w.heap.size w w' := by
  obtain ⟨-, -, -, -, -, o1, c1, rfl, hsa, hla, q1⟩ := hra
  obtain ⟨-, -, -, -, -, p1, d1, rfl, hsb, hlb, r1⟩ := hrb
  have Q1 := hide q1
  have R1 := hide r1
  have ml1 : a.l.length ≤ 9223372036854775807 := hla.1
  have ml2 : b.l.length ≤ 9223372036854775807 := hlb.1
  clear q1 r1 hsa hla hsb hlb
  have HSM : Hid (smD h a b = (eqS a.s b.s && (decide (a.l.length = b.l.length) && rowTo (smC h) a.l b.l a.l.length))) := rfl
  have HB0 : Hid (Below w.heap.size w ((w.alloc (.cells #[.string a.s, .slice o1 a.l.length c1] 62)).alloc (.cells #[.string b.s, .slice p1 b.l.length d1] 62))) := ((Below.refl _ w).alloc (Nat.le_refl _) _).alloc (by simp) _
  have HX0 : Hid (((w.alloc (.cells #[.string a.s, .slice o1 a.l.length c1] 62)).alloc (.cells #[.string b.s, .slice p1 b.l.length d1] 62)).heap[w.heap.size]? = some (.cells #[.string a.s, .slice o1 a.l.length c1] 62 (0, 0))) := (Below.heap_alloc _ _ _ (by simp)).trans (heap_alloc_new w _)
  have HY0 : Hid (((w.alloc (.cells #[.string a.s, .slice o1 a.l.length c1] 62)).alloc (.cells #[.string b.s, .slice p1 b.l.length d1] 62)).heap[w.heap.size + 1]? = some (.cells #[.string b.s, .slice p1 b.l.length d1] 62 (0, 0))) := heap_alloc2_new w _ _
  cases hs : eqS a.s b.s
  · have hs1 : (a.s.toList == b.s.toList) = false := hs
    have hs2 : (a.s.toList != b.s.toList) = true := by show (!(eqS a.s b.s)) = true; rw [hs]; rfl
    have Hhs := hide hs
    clear hs
    go_enter Try.func23, Try.ntmps23
    go_wp2
    go_ret
    exact ⟨ret_bool (by rw [HSM.out, Hhs.out]; simp), HB0.out⟩
  have hs1 : (a.s.toList == b.s.toList) = true := hs
  have hs2 : (a.s.toList != b.s.toList) = false := by show (!(eqS a.s b.s)) = false; rw [hs]; rfl
  have Hhs := hide hs
  clear hs
  by_cases hl : a.l.length = b.l.length
  case neg =>
    have hl1 : ((a.l.length : Int) != (b.l.length : Int)) = true := by simp; omega
    have hl2 : (a.l.length != b.l.length) = true := by simpa using hl
    have Hhl := hide hl
    clear hl
    go_enter Try.func23, Try.ntmps23
    go_wp2
    go_ret
    exact ⟨ret_bool (by rw [HSM.out, decide_eq_false Hhl.out]; simp), HB0.out⟩
  have hl1 : ((a.l.length : Int) != (b.l.length : Int)) = false := by simp; omega
  have hl2 : (a.l.length != b.l.length) = false := by simpa using hl
  have hl3 : a.l.length ≤ b.l.length := by omega
  have HSM2 : Hid (smD h a b = rowTo (smC h) a.l b.l a.l.length) := by
    show smD h a b = _
    rw [HSM.out, Hhs.out, decide_eq_true hl]
    rfl
  clear hl
  go_enter Try.func23, Try.ntmps23
  go_wp2
  generalize ((w.alloc (.cells #[.string a.s, .slice o1 a.l.length c1] 62)).alloc (.cells #[.string b.s, .slice p1 b.l.length d1] 62)) = w1 at HB0 HX0 HY0 ⊢
  clear hs1 hs2 hl1 hl2
  go_loopw [5] (fun t wr => ∃ i : Nat, i ≤ a.l.length ∧ t = .int .i64 i ∧ rowTo (smC h) a.l b.l i = true ∧ Below w1.heap.size w1 wr) (fun t _ => a.l.length - (intOf t).toNat)
  case atStart => exact ⟨0, Nat.zero_le _, rfl, rfl, Below.refl _ _⟩
  case round =>
    obtain ⟨i, hi, rfl, hro, hbw⟩ := hrel
    have HRO := hide hro
    have HB2 := hide (HB0.out.trans (hbw.mono HB0.out.size))
    have HXR := hide ((hbw.block w.heap.size (heap_lt HX0.out)).trans HX0.out)
    have HYR := hide ((hbw.block (w.heap.size + 1) (heap_lt HY0.out)).trans HY0.out)
    have HBW := hide hbw
    clear hro hbw
    have xa1 := cell_of HXR.out 1
    have yb1 := cell_of HYR.out 1
    simp only [List.getElem?_toArray, List.getElem?_cons_succ, List.getElem?_cons_zero] at xa1 yb1
    by_cases hlt : i < a.l.length
    · have hne : a.l ≠ [] := by intro e; rw [e] at hlt; simp at hlt
      have hne2 : b.l ≠ [] := by intro e; rw [e] at hl3; simp at hl3; rw [hl3] at hlt; simp at hlt
      obtain ⟨x, hx⟩ : ∃ x, a.l[i]? = some x := ⟨a.l[i], List.getElem?_eq_getElem hlt⟩
      obtain ⟨y, hy⟩ : ∃ y, b.l[i]? = some y := ⟨b.l[i]'(by omega), List.getElem?_eq_getElem _⟩
      obtain ⟨ba, fa, ea, -, bla, hA⟩ := (Q1.out.later HB2.out (coR_later HB2.out h)) hne
      obtain ⟨bb, fb, eb, -, blb, hB⟩ := (R1.out.later HB2.out (coR_later HB2.out h)) hne2
      subst ea eb
      obtain ⟨va, lA, hkA, rA⟩ := hA i x hx
      obtain ⟨vb, lB, hkB, rB⟩ := hB i y hy
      obtain ⟨-, -, -, -, -, ox, cx, rfl, -, fx, rx⟩ := rA
      obtain ⟨-, -, -, -, -, oy, cy, rfl, -, fy, ry⟩ := rB
      have hlt2 : (i : Int) < a.l.length := by omega
      have hlt3 : (i : Int) < b.l.length := by omega
      have z0 := hkA 0 _ rfl
      have z1 := hkA 1 _ rfl
      have y0 := hkB 0 _ rfl
      have y1 := hkB 1 _ rfl
      rw [Nat.add_zero] at z0 y0
      have RX := hide rx
      have RY := hide ry
      have HX := hide hx
      have HY := hide hy
      have mx : x.l.length ≤ 9223372036854775807 := fx.1
      have my : y.l.length ≤ 9223372036854775807 := fy.1
      clear hx hy hA hB hne hne2 hkA hkB lA lB rx ry fx fy
      have HNO : Hid (smC h x y = false → smD h a b = false) := by
        intro hf
        have h1 : rowTo (smC h) a.l b.l (i + 1) = false := by
          show (rowTo (smC h) a.l b.l i && _) = false
          rw [pair_at (f := smC h) HX.out HY.out, hf, Bool.and_false]
        rw [HSM2.out, rowTo_false h1 (by omega)]
      cases hcs : eqS x.s y.s
      · have e1 : (x.s.toList == y.s.toList) = false := hcs
        have e2 : (x.s.toList != y.s.toList) = true := by show (!(eqS x.s y.s)) = true; rw [hcs]; rfl
        have HF := hide (HNO.out (by unfold smC; rw [hcs]; rfl))
        clear hcs
        go_wp2
        go_quiet (fail)
        go_wp2
        go_ret
        exact ⟨ret_bool HF.out.symm, HB2.out.trans ⟨rfl, rfl, rfl, Nat.le_refl _, fun _ _ => rfl⟩⟩
      have e1 : (x.s.toList == y.s.toList) = true := hcs
      have e2 : (x.s.toList != y.s.toList) = false := by show (!(eqS x.s y.s)) = false; rw [hcs]; rfl
      have HCS := hide hcs
      clear hcs
      by_cases hl : x.l.length = y.l.length
      case neg =>
        have hl1 : ((x.l.length : Int) != (y.l.length : Int)) = true := by simp; omega
        have hl2 : (x.l.length != y.l.length) = true := by simpa using hl
        have HF := hide (HNO.out (by unfold smC; rw [decide_eq_false hl, Bool.false_and, Bool.and_false]))
        clear hl
        go_wp2
        go_quiet (fail)
        go_wp2
        go_ret
        exact ⟨ret_bool HF.out.symm, HB2.out.trans ⟨rfl, rfl, rfl, Nat.le_refl _, fun _ _ => rfl⟩⟩
      have hl1 : ((x.l.length : Int) != (y.l.length : Int)) = false := by simp; omega
      have hl2 : (x.l.length != y.l.length) = false := by simpa using hl
      have hl4 : x.l.length ≤ y.l.length := by omega
      have HSC : Hid (smC h x y = rowTo (smT h) x.l y.l x.l.length) := by
        show smC h x y = _
        unfold smC
        rw [HCS.out, decide_eq_true hl]
        rfl
      clear hl
      go_wp2
      go_quiet (fail)
      go_wp2
      clear e1 e2 hl1 hl2
      generalize hV : wr.drewN nq = V
      have hbv : Below wr.heap.size wr V := by rw [← hV]; exact ⟨rfl, rfl, rfl, Nat.le_refl _, fun _ _ => rfl⟩
      have HB3 := hide (HB2.out.trans (hbv.mono HB2.out.size))
      have HW3 := hide (HBW.out.trans (hbv.mono HBW.out.size))
      have HX3 := hide ((hbv.block w.heap.size (heap_lt HXR.out)).trans HXR.out)
      have HY3 := hide ((hbv.block (w.heap.size + 1) (heap_lt HYR.out)).trans HYR.out)
      have v0 := (hbv.cell (p := ⟨ba, fa + i * 2 + 1, none⟩) bla).trans z1
      have u0 := (hbv.cell (p := ⟨bb, fb + i * 2 + 1, none⟩) blb).trans y1
      have RX3 := hide (RX.out.later hbv (tyR_later hbv h))
      have RY3 := hide (RY.out.later hbv (tyR_later hbv h))
      have blv : ba < V.heap.size := Nat.lt_of_lt_of_le bla hbv.size
      have blu : bb < V.heap.size := Nat.lt_of_lt_of_le blb hbv.size
      have HVC := hide (And.intro v0 u0)
      clear hV hbv z0 z1 y0 y1 xa1 yb1 v0 u0
      go_loopw [6] (fun t6 wq => ∃ k : Nat, k ≤ x.l.length ∧ t6 = .int .i64 k ∧ rowTo (smT h) x.l y.l k = true ∧ Below V.heap.size V wq) (fun t6 _ => x.l.length - (intOf t6).toNat)
      case atStart => exact ⟨0, Nat.zero_le _, rfl, rfl, Below.refl _ _⟩
      case round =>
        obtain ⟨k, hk, rfl, hrk, hbq⟩ := hrel
        have HRK := hide hrk
        have HB4 := hide (HB3.out.trans (hbq.mono HB3.out.size))
        have HW4 := hide (HW3.out.trans (hbq.mono HW3.out.size))
        have HX4 := hide ((hbq.block w.heap.size (heap_lt HX3.out)).trans HX3.out)
        have HY4 := hide ((hbq.block (w.heap.size + 1) (heap_lt HY3.out)).trans HY3.out)
        have HBQ := hide hbq
        have v0 := (hbq.cell (p := ⟨ba, fa + i * 2 + 1, none⟩) blv).trans HVC.out.1
        have u0 := (hbq.cell (p := ⟨bb, fb + i * 2 + 1, none⟩) blu).trans HVC.out.2
        have blv2 : ba < wr.heap.size := Nat.lt_of_lt_of_le blv hbq.size
        have blu2 : bb < wr.heap.size := Nat.lt_of_lt_of_le blu hbq.size
        have RX4 := hide (RX3.out.later hbq (tyR_later hbq h))
        have RY4 := hide (RY3.out.later hbq (tyR_later hbq h))
        clear hrk hbq
        have xa1 := cell_of HX4.out 1
        have yb1 := cell_of HY4.out 1
        simp only [List.getElem?_toArray, List.getElem?_cons_succ, List.getElem?_cons_zero] at xa1 yb1
        by_cases hlk : k < x.l.length
        · have hne : x.l ≠ [] := by intro e; rw [e] at hlk; simp at hlk
          have hne2 : y.l ≠ [] := by intro e; rw [e] at hl4; simp at hl4; rw [hl4] at hlk; simp at hlk
          obtain ⟨t, hx⟩ : ∃ t, x.l[k]? = some t := ⟨x.l[k], List.getElem?_eq_getElem hlk⟩
          obtain ⟨u, hy⟩ : ∃ u, y.l[k]? = some u := ⟨y.l[k]'(by omega), List.getElem?_eq_getElem _⟩
          obtain ⟨bt, ft, et, -, blt, hA⟩ := RX4.out hne
          obtain ⟨bu, fu, eu, -, blu3, hB⟩ := RY4.out hne2
          subst et eu
          obtain ⟨va, lA, hkA, rA⟩ := hA k t hx
          obtain ⟨vb, lB, hkB, rB⟩ := hB k u hy
          obtain ⟨t0, t1, t2, t3, rfl⟩ := four_of lA
          obtain ⟨s0, s1, s2, s3, rfl⟩ := four_of lB
          have hlk2 : (k : Int) < x.l.length := by omega
          have hlk3 : (k : Int) < y.l.length := by omega
          have gx1 := later_at (heap_lt HX4.out) xa1
          have gy1 := later_at (heap_lt HY4.out) yb1
          have gv := later_at blv2 v0
          have gu := later_at blu2 u0
          have ga0 := later_at blt (hkA 0 t0 rfl)
          have gb0 := later_at blu3 (hkB 0 s0 rfl)
          have ga1 := later_at blt (hkA 1 t1 rfl)
          have gb1 := later_at blu3 (hkB 1 s1 rfl)
          have ga2 := later_at blt (hkA 2 t2 rfl)
          have gb2 := later_at blu3 (hkB 2 s2 rfl)
          have ga3 := later_at blt (hkA 3 t3 rfl)
          have gb3 := later_at blu3 (hkB 3 s3 rfl)
          rw [Nat.add_zero] at ga0 gb0
          have RA := hide rA
          have RB := hide rB
          have HT := hide hx
          have HU := hide hy
          clear hx hy hA hB hne hne2 hkA hkB rA rB lA lB
          have hne0 : Nonempty (Later wr) := later_nonempty wr
          cases hp : smT h t u
          all_goals
            have HP := hide hp
            clear hp
            go_wp2_with fail
            refine wp_region_class (S := fun v => Below wr.heap.size wr v) (by kernel_rfl) (by kernel_rfl) (below_drew _) ?_
            repeat (first | go_big_quiet_skip | (go_big_quiet_want; go_big_quiet_op; first | go_big_quiet_on | (apply Exists.intro; refine ⟨fun q => ?_, ?_⟩; (first | (go_at_call 54; refine (sameTy_all h K L t u [t0, t1, t2, t3] [s0, s1, s2, s3] _ (tyR_later q.h h _ _ RA.out) (tyR_later q.h h _ _ RB.out)).mono ?_; rintro e w9 ⟨rfl, hb9⟩; rw [HP.out]; exact ⟨rfl, Later.on q hb9, rfl⟩)); go_big_quiet_on)))
            refine wpQuiet_nil ?_
            intro _ hw'
            obtain ⟨q, rfl⟩ := hw'
            have hpa := pair_at (f := smT h) HT.out HU.out
            rw [HP.out] at hpa
            have HPA := hide hpa
            clear hpa
            go_wp2
          · go_ret
            refine ⟨ret_bool (HNO.out ?_).symm, HB4.out.trans (q.h.mono HB4.out.size)⟩
            have hf : rowTo (smT h) x.l y.l (k + 1) = false := by
              show (rowTo (smT h) x.l y.l k && _) = false
              rw [HPA.out, Bool.and_false]
            rw [HSC.out, rowTo_false hf (by omega)]
          · go_roundw
            case rel =>
              refine ⟨k + 1, by omega, by go_num, ?_, HBQ.out.trans (q.h.mono HBQ.out.size)⟩
              show (rowTo (smT h) x.l y.l k && _) = true
              rw [HRK.out, HPA.out]
              rfl
            case measure => simp [intOf]; omega
        · go_wp2
          go_roundw
          case rel =>
            refine ⟨i + 1, by omega, by go_num, ?_, HW4.out⟩
            show (rowTo (smC h) a.l b.l i && _) = true
            have he : k = x.l.length := by omega
            rw [HRO.out, pair_at (f := smC h) HX.out HY.out, HSC.out, ← he, HRK.out]
            rfl
          case measure => simp [intOf]; omega
    · go_wp2
      go_ret
      refine ⟨ret_bool ?_, HB2.out⟩
      have he : i = a.l.length := by omega
      rw [HSM2.out, ← he, HRO.out]
end Go.Proofs.Ytegcebeaelpjhaj

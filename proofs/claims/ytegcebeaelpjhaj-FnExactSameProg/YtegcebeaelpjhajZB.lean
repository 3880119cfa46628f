/- The model's sameness of expressions and definitions, a step. -/
import Derived.Test.YtegcebeaelpjhajZA
namespace Go.Proofs.Ytegcebeaelpjhaj
open Go.ChangeShapes Go.WideShapes Go.ChangeAt Go.RowKit

def bdA : Nat → Tr → Tr → Bool
  | 0 => fun _ _ => true
  | h + 1 => fun a b => rowB (sm h).ex a.l b.l
theorem al_eq {K : Nat → Prop} {w : World} {h : Nat} {a b : Tr} {cs : List Value} (hr : (reads K w h).al a cs) : (sm h).al a b = (eqS a.s b.s && (strsB a.ss b.ss && bdA h a b)) := by
  cases h with
  | zero => exact hr.elim
  | succ h => rfl
def SaEx (h : Nat) : Prop := ∀ (K L : Nat → Prop) (a b : Tr) (ca cb : List Value) (w : World), (reads K w h).ex a ca → (reads L w h).ex b cb → Calls Try.prog 56 #[.agg ca.toArray, .agg cb.toArray] w fun e w' => e = .returned (.bool ((sm h).ex a b)) ∧ Below w.heap.size w w'
def SaAl (h : Nat) : Prop := ∀ (K L : Nat → Prop) (a b : Tr) (v0 v1 v2 v3 v4 v5 v6 v7 u0 u1 u2 u3 u4 u5 u6 u7 : Value) (w : World), (reads K w h).al a [v0, v1, v2, v3, v4, v5, v6, v7] → (reads L w h).al b [u0, u1, u2, u3, u4, u5, u6, u7] → Calls Try.prog 56 #[.agg #[v2, v3, v4, v5, v6, v7], .agg #[u2, u3, u4, u5, u6, u7]] w fun e w' => e = .returned (.bool (bdA h a b)) ∧ Below w.heap.size w w'
def SaDs (h : Nat) : Prop := ∀ (K L : Nat → Prop) (xs ys : List Tr) (oa ob : Option Addr) (ca cb : Nat) (w : World), RowOf K w (reads K w h).de 9 oa xs → RowOf L w (reads L w h).de 9 ob ys → xs.length ≤ maxLen → ys.length ≤ maxLen → Calls Try.prog 24 #[.slice oa xs.length ca, .slice ob ys.length cb] w fun e w' => e = .returned (.bool (rowB (sm h).de xs ys)) ∧ Below w.heap.size w w'
theorem al_strs {K : Nat → Prop} {w : World} {h : Nat} {a : Tr} {cs : List Value} (hr : (reads K w h).al a cs) : ∃ (p : Option Addr) (g : Nat) (v2 v3 v4 v5 v6 v7 : Value), cs = [.string a.s, .slice p a.ss.length g, v2, v3, v4, v5, v6, v7] ∧ a.ss.length ≤ maxLen ∧ RowOf K w strR 1 p a.ss := by
  cases h with
  | zero => exact hr.elim
  | succ h =>
    obtain ⟨-, -, -, -, y, p, g, ce, -, rfl, -, hl, q1, hce, -⟩ := hr
    obtain ⟨a0, a1, a2, a3, a4, a5, rfl⟩ := six hce
    exact ⟨p, g, a0, a1, a2, a3, a4, a5, rfl, hl.1, q1⟩
theorem saAl_step {h : Nat} (i1 : SaEx h) : SaAl (h + 1) := by
  intro K L a b v0 v1 v2 v3 v4 v5 v6 v7 u0 u1 u2 u3 u4 u5 u6 u7 w ha hb
  obtain ⟨-, -, -, -, y, o1, c1, ce, hy, he, -, -, -, hce, q2⟩ := ha
  obtain ⟨a0, a1, a2, a3, a4, a5, rfl⟩ := six hce
  simp only [List.cons_append, List.nil_append, List.cons.injEq, and_true] at he
  obtain ⟨-, -, rfl, rfl, rfl, rfl, rfl, rfl⟩ := he
  obtain ⟨-, -, -, -, z, p1, d1, cf, hz, hf, -, -, -, hcf, r2⟩ := hb
  obtain ⟨b0, b1, b2, b3, b4, b5, rfl⟩ := six hcf
  simp only [List.cons_append, List.nil_append, List.cons.injEq, and_true] at hf
  obtain ⟨-, -, rfl, rfl, rfl, rfl, rfl, rfl⟩ := hf
  refine (i1 K L y z _ _ w q2 r2).mono ?_
  rintro e w' ⟨rfl, hbl⟩
  refine ⟨ret_bool ?_, hbl⟩
  show _ = rowB (sm h).ex a.l b.l
  rw [hy, hz, row_one]

set_option maxHeartbeats 2000000 in
set_option maxRecDepth 100000 in
theorem sameExp_step {h : Nat} (i1 : SaEx h) (i2 : SaDs h) (i3 : SaAl h) : SaEx (h + 1) := by
  intro K L a b ca cb w hra hrb
  obtain ⟨-, o1, c1, o2, c2, o3, c3, rfl, hsa, hla, hda, haa, q1, q2, q3⟩ := hra
  obtain ⟨-, p1, d1, p2, d2, p3, d3, rfl, hsb, hlb, hdb, hab, r1, r2, r3⟩ := hrb
  have I1 := hide i1
  have I2 := hide i2
  have I3 := hide i3
  have Q1 := hide q1
  have Q2 := hide q2
  have Q3 := hide q3
  have R1 := hide r1
  have R2 := hide r2
  have R3 := hide r3
  have HDA := hide hda.1
  have HDB := hide hdb.1
  have ml1 : a.l.length ≤ 9223372036854775807 := hla.1
  have ml2 : b.l.length ≤ 9223372036854775807 := hlb.1
  have ml3 : a.al.length ≤ 9223372036854775807 := haa.1
  have ml4 : b.al.length ≤ 9223372036854775807 := hab.1
  clear i1 i2 i3 q1 q2 q3 r1 r2 r3 hsa hla hda haa hsb hlb hdb hab
  have HSM : Hid ((sm (h + 1)).ex a b = (decide (a.k = b.k) && (eqS a.s b.s && (decide (a.n = b.n) && (decide (a.l.length = b.l.length) && (decide (a.al.length = b.al.length) && (rowB (sm h).de a.ds b.ds && (rowTo (sm h).ex a.l b.l a.l.length && rowTo (sm h).al a.al b.al a.al.length)))))))) := rfl
  have HB0 : Hid (Below w.heap.size w ((w.alloc (.cells #[.int .i64 a.k, .string a.s, .int .i64 a.n, .slice o1 a.l.length c1, .slice o2 a.ds.length c2, .slice o3 a.al.length c3] 43)).alloc (.cells #[.int .i64 b.k, .string b.s, .int .i64 b.n, .slice p1 b.l.length d1, .slice p2 b.ds.length d2, .slice p3 b.al.length d3] 43))) := ((Below.refl _ w).alloc (Nat.le_refl _) _).alloc (by simp) _
  have HX0 : Hid (((w.alloc (.cells #[.int .i64 a.k, .string a.s, .int .i64 a.n, .slice o1 a.l.length c1, .slice o2 a.ds.length c2, .slice o3 a.al.length c3] 43)).alloc (.cells #[.int .i64 b.k, .string b.s, .int .i64 b.n, .slice p1 b.l.length d1, .slice p2 b.ds.length d2, .slice p3 b.al.length d3] 43)).heap[w.heap.size]? = some (.cells #[.int .i64 a.k, .string a.s, .int .i64 a.n, .slice o1 a.l.length c1, .slice o2 a.ds.length c2, .slice o3 a.al.length c3] 43 (0, 0))) := (Below.heap_alloc _ _ _ (by simp)).trans (heap_alloc_new w _)
  have HY0 : Hid (((w.alloc (.cells #[.int .i64 a.k, .string a.s, .int .i64 a.n, .slice o1 a.l.length c1, .slice o2 a.ds.length c2, .slice o3 a.al.length c3] 43)).alloc (.cells #[.int .i64 b.k, .string b.s, .int .i64 b.n, .slice p1 b.l.length d1, .slice p2 b.ds.length d2, .slice p3 b.al.length d3] 43)).heap[w.heap.size + 1]? = some (.cells #[.int .i64 b.k, .string b.s, .int .i64 b.n, .slice p1 b.l.length d1, .slice p2 b.ds.length d2, .slice p3 b.al.length d3] 43 (0, 0))) := heap_alloc2_new w _ _
  by_cases hk : a.k = b.k
  case neg =>
    have hk1 : (a.k != b.k) = true := by simpa using hk
    have Hhk := hide hk
    clear hk
    go_enter Try.func56, Try.ntmps56
    go_wp2
    go_ret
    exact ⟨ret_bool (by rw [HSM.out, decide_eq_false Hhk.out]; simp), HB0.out⟩
  have hk1 : (a.k != b.k) = false := by simpa using hk
  have Hhk := hide hk
  clear hk
  cases hs : eqS a.s b.s
  · have hs1 : (a.s.toList == b.s.toList) = false := hs
    have hs2 : (a.s.toList != b.s.toList) = true := by show (!(eqS a.s b.s)) = true; rw [hs]; rfl
    have Hhs := hide hs
    clear hs
    go_enter Try.func56, Try.ntmps56
    go_wp2
    go_ret
    exact ⟨ret_bool (by rw [HSM.out, Hhs.out]; simp), HB0.out⟩
  have hs1 : (a.s.toList == b.s.toList) = true := hs
  have hs2 : (a.s.toList != b.s.toList) = false := by show (!(eqS a.s b.s)) = false; rw [hs]; rfl
  have Hhs := hide hs
  clear hs
  by_cases hn : a.n = b.n
  case neg =>
    have hn1 : (a.n != b.n) = true := by simpa using hn
    have Hhn := hide hn
    clear hn
    go_enter Try.func56, Try.ntmps56
    go_wp2
    go_ret
    exact ⟨ret_bool (by rw [HSM.out, decide_eq_false Hhn.out]; simp), HB0.out⟩
  have hn1 : (a.n != b.n) = false := by simpa using hn
  have Hhn := hide hn
  clear hn
  by_cases hl : a.l.length = b.l.length
  case neg =>
    have hl1 : ((a.l.length : Int) != (b.l.length : Int)) = true := by simp; omega
    have hl2 : (a.l.length != b.l.length) = true := by simpa using hl
    have Hhl := hide hl
    clear hl
    go_enter Try.func56, Try.ntmps56
    go_wp2
    go_ret
    exact ⟨ret_bool (by rw [HSM.out, decide_eq_false Hhl.out]; simp), HB0.out⟩
  have hl1 : ((a.l.length : Int) != (b.l.length : Int)) = false := by simp; omega
  have hl2 : (a.l.length != b.l.length) = false := by simpa using hl
  have hl3 : a.l.length ≤ b.l.length := by omega
  have Hhl := hide hl
  clear hl
  by_cases hal : a.al.length = b.al.length
  case neg =>
    have hal1 : ((a.al.length : Int) != (b.al.length : Int)) = true := by simp; omega
    have hal2 : (a.al.length != b.al.length) = true := by simpa using hal
    have Hhal := hide hal
    clear hal
    go_enter Try.func56, Try.ntmps56
    go_wp2
    go_ret
    exact ⟨ret_bool (by rw [HSM.out, decide_eq_false Hhal.out]; simp), HB0.out⟩
  have hal1 : ((a.al.length : Int) != (b.al.length : Int)) = false := by simp; omega
  have hal2 : (a.al.length != b.al.length) = false := by simpa using hal
  have hal3 : a.al.length ≤ b.al.length := by omega
  have Hhal := hide hal
  clear hal
  have step : ∀ v, rowB (sm h).de a.ds b.ds = v → Calls Try.prog 56 #[.agg #[.int .i64 a.k, .string a.s, .int .i64 a.n, .slice o1 a.l.length c1, .slice o2 a.ds.length c2, .slice o3 a.al.length c3], .agg #[.int .i64 b.k, .string b.s, .int .i64 b.n, .slice p1 b.l.length d1, .slice p2 b.ds.length d2, .slice p3 b.al.length d3]] w fun e w' => e = .returned (.bool ((sm (h + 1)).ex a b)) ∧ Below w.heap.size w w' := by
    intro v hv
    have HV := hide hv
    clear hv
    have HSM2 : Hid ((sm (h + 1)).ex a b = (v && (rowTo (sm h).ex a.l b.l a.l.length && rowTo (sm h).al a.al b.al a.al.length))) := by
      show (sm (h + 1)).ex a b = _
      rw [HSM.out, decide_eq_true Hhk.out, Hhs.out, decide_eq_true Hhn.out, decide_eq_true Hhl.out, decide_eq_true Hhal.out, HV.out]
      rfl
    go_enter Try.func56, Try.ntmps56
    go_wp2_with fail
    refine (I2.out K L a.ds b.ds o2 p2 c2 d2 _ (Q2.out.later HB0.out (reads_later HB0.out h).2.1) (R2.out.later HB0.out (reads_later HB0.out h).2.1) HDA.out HDB.out).mono ?_
    rintro e w1 ⟨rfl, hb⟩
    rw [HV.out]
    have HB1 := hide (HB0.out.trans (hb.mono HB0.out.size))
    have HX1 := hide ((hb.block w.heap.size (heap_lt HX0.out)).trans HX0.out)
    have HY1 := hide ((hb.block (w.heap.size + 1) (heap_lt HY0.out)).trans HY0.out)
    clear hb
    cases v
    · go_wp2
      go_ret
      exact ⟨ret_bool (by rw [HSM2.out]; rfl), HB1.out⟩
    clear hk1 hs1 hs2 hn1 hl1 hl2 hal1 hal2
    go_wp2
    go_loopw [5] (fun t wr => ∃ i : Nat, i ≤ a.l.length ∧ t = .int .i64 i ∧ rowTo (sm h).ex a.l b.l i = true ∧ Below w1.heap.size w1 wr) (fun t _ => a.l.length - (intOf t).toNat)
    case atStart => exact ⟨0, Nat.zero_le _, rfl, rfl, Below.refl _ _⟩
    case round =>
      obtain ⟨i, hi, rfl, hro, hbw⟩ := hrel
      have HRO := hide hro
      have HB2 := hide (HB1.out.trans (hbw.mono HB1.out.size))
      have HXR := hide ((hbw.block w.heap.size (heap_lt HX1.out)).trans HX1.out)
      have HYR := hide ((hbw.block (w.heap.size + 1) (heap_lt HY1.out)).trans HY1.out)
      have HBW := hide hbw
      clear hro hbw
      have xa3 := cell_of HXR.out 3
      have xa5 := cell_of HXR.out 5
      have yb3 := cell_of HYR.out 3
      have yb5 := cell_of HYR.out 5
      simp only [List.getElem?_toArray, List.getElem?_cons_succ, List.getElem?_cons_zero] at xa3 xa5 yb3 yb5
      by_cases hlt : i < a.l.length
      · have hne : a.l ≠ [] := by intro e; rw [e] at hlt; simp at hlt
        have hne2 : b.l ≠ [] := by intro e; rw [e] at hl3; simp at hl3; rw [hl3] at hlt; simp at hlt
        obtain ⟨x, hx⟩ : ∃ x, a.l[i]? = some x := ⟨a.l[i], List.getElem?_eq_getElem hlt⟩
        obtain ⟨y, hy⟩ : ∃ y, b.l[i]? = some y := ⟨b.l[i]'(by omega), List.getElem?_eq_getElem _⟩
        obtain ⟨ba, fa, ea, -, bla, hA⟩ := (Q1.out.later HB2.out (reads_later HB2.out h).1) hne
        obtain ⟨bb, fb, eb, -, blb, hB⟩ := (R1.out.later HB2.out (reads_later HB2.out h).1) hne2
        subst ea eb
        obtain ⟨va, lA, hkA, rA⟩ := hA i x hx
        obtain ⟨vb, lB, hkB, rB⟩ := hB i y hy
        obtain ⟨v0, v1, v2, v3, v4, v5, rfl⟩ := six lA
        obtain ⟨u0, u1, u2, u3, u4, u5, rfl⟩ := six lB
        have hlt2 : (i : Int) < a.l.length := by omega
        have hlt3 : (i : Int) < b.l.length := by omega
        have gx3 := later_at (heap_lt HXR.out) xa3
        have gy3 := later_at (heap_lt HYR.out) yb3
        have ga0 := later_at bla (hkA 0 v0 rfl)
        have gb0 := later_at blb (hkB 0 u0 rfl)
        have ga1 := later_at bla (hkA 1 v1 rfl)
        have gb1 := later_at blb (hkB 1 u1 rfl)
        have ga2 := later_at bla (hkA 2 v2 rfl)
        have gb2 := later_at blb (hkB 2 u2 rfl)
        have ga3 := later_at bla (hkA 3 v3 rfl)
        have gb3 := later_at blb (hkB 3 u3 rfl)
        have ga4 := later_at bla (hkA 4 v4 rfl)
        have gb4 := later_at blb (hkB 4 u4 rfl)
        have ga5 := later_at bla (hkA 5 v5 rfl)
        have gb5 := later_at blb (hkB 5 u5 rfl)
        rw [Nat.add_zero] at ga0 gb0
        have RA := hide rA
        have RB := hide rB
        have HX := hide hx
        have HY := hide hy
        clear hx hy hA hB hne hne2 hkA hkB rA rB lA lB
        have hne0 : Nonempty (Later wr) := later_nonempty wr
        cases hp : (sm h).ex x y
        all_goals
          have HP := hide hp
          clear hp
          go_wp2_with fail
          refine wp_region_class (S := fun v => Below wr.heap.size wr v) (by kernel_rfl) (by kernel_rfl) (below_drew _) ?_
          repeat (first | go_big_quiet_skip | (go_big_quiet_want; go_big_quiet_op; first | go_big_quiet_on | (apply Exists.intro; refine ⟨fun q => ?_, ?_⟩; (first | (go_at_call 56; refine (I1.out K L x y [v0, v1, v2, v3, v4, v5] [u0, u1, u2, u3, u4, u5] _ ((reads_later q.h h).1 _ _ RA.out) ((reads_later q.h h).1 _ _ RB.out)).mono ?_; rintro e w9 ⟨rfl, hb9⟩; rw [HP.out]; exact ⟨rfl, Later.on q hb9, rfl⟩)); go_big_quiet_on)))
          refine wpQuiet_nil ?_
          intro _ hw'
          obtain ⟨q, rfl⟩ := hw'
          have hpa := pair_at (f := (sm h).ex) HX.out HY.out
          rw [HP.out] at hpa
          have HPA := hide hpa
          clear hpa
        · go_wp2
          go_ret
          have hf : rowTo (sm h).ex a.l b.l (i + 1) = false := by
            show (_ && pairB (sm h).ex a.l b.l i) = false
            rw [HPA.out, Bool.and_false]
          exact ⟨ret_bool (by rw [HSM2.out, rowTo_false hf hlt]; rfl), HB2.out.trans (q.h.mono HB2.out.size)⟩
        · go_wp2
          go_roundw
          case rel =>
            refine ⟨i + 1, by omega, by go_num, ?_, HBW.out.trans (q.h.mono HBW.out.size)⟩
            show (rowTo (sm h).ex a.l b.l i && pairB (sm h).ex a.l b.l i) = true
            rw [HPA.out, HRO.out]
            rfl
          case measure => simp [intOf]; omega
      · have HROL : Hid (rowTo (sm h).ex a.l b.l a.l.length = true) := by
          have h2 := HRO.out
          rw [show i = a.l.length by omega] at h2
          exact h2
        go_wp2
        clear xa3 xa5 yb3 yb5
        go_loopw [6] (fun t wq => ∃ j : Nat, j ≤ a.al.length ∧ t = .int .i64 j ∧ rowTo (sm h).al a.al b.al j = true ∧ Below wr.heap.size wr wq) (fun t _ => a.al.length - (intOf t).toNat)
        case atStart => exact ⟨0, Nat.zero_le _, rfl, rfl, Below.refl _ _⟩
        case round =>
          obtain ⟨j, hj, rfl, hro, hbq⟩ := hrel
          have HRQ := hide hro
          have HB3 := hide (HB2.out.trans (hbq.mono HB2.out.size))
          have HXQ := hide ((hbq.block w.heap.size (heap_lt HXR.out)).trans HXR.out)
          have HYQ := hide ((hbq.block (w.heap.size + 1) (heap_lt HYR.out)).trans HYR.out)
          have HBQ := hide hbq
          clear hro hbq
          have xa5 := cell_of HXQ.out 5
          have yb5 := cell_of HYQ.out 5
          simp only [List.getElem?_toArray, List.getElem?_cons_succ, List.getElem?_cons_zero] at xa5 yb5
          by_cases hjt : j < a.al.length
          · have hne : a.al ≠ [] := by intro e; rw [e] at hjt; simp at hjt
            have hne2 : b.al ≠ [] := by intro e; rw [e] at hal3; simp at hal3; rw [hal3] at hjt; simp at hjt
            obtain ⟨x, hx⟩ : ∃ x, a.al[j]? = some x := ⟨a.al[j], List.getElem?_eq_getElem hjt⟩
            obtain ⟨y, hy⟩ : ∃ y, b.al[j]? = some y := ⟨b.al[j]'(by omega), List.getElem?_eq_getElem _⟩
            obtain ⟨ba, fa, ea, -, bla, hA⟩ := (Q3.out.later HB3.out (reads_later HB3.out h).2.2) hne
            obtain ⟨bb, fb, eb, -, blb, hB⟩ := (R3.out.later HB3.out (reads_later HB3.out h).2.2) hne2
            subst ea eb
            obtain ⟨va, -, hkA, rA⟩ := hA j x hx
            obtain ⟨vb, -, hkB, rB⟩ := hB j y hy
            obtain ⟨pa, na, v2, v3, v4, v5, v6, v7, rfl, mla, rsa⟩ := al_strs rA
            obtain ⟨pb, nb, u2, u3, u4, u5, u6, u7, rfl, mlb, rsb⟩ := al_strs rB
            have hjt2 : (j : Int) < a.al.length := by omega
            have hjt3 : (j : Int) < b.al.length := by omega
            have gx5 := later_at (heap_lt HXQ.out) xa5
            have gy5 := later_at (heap_lt HYQ.out) yb5
            have ga0 := later_at bla (hkA 0 (.string x.s) rfl)
            have gb0 := later_at blb (hkB 0 (.string y.s) rfl)
            have ga1 := later_at bla (hkA 1 (.slice pa x.ss.length na) rfl)
            have gb1 := later_at blb (hkB 1 (.slice pb y.ss.length nb) rfl)
            have ga2 := later_at bla (hkA 2 v2 rfl)
            have gb2 := later_at blb (hkB 2 u2 rfl)
            have ga3 := later_at bla (hkA 3 v3 rfl)
            have gb3 := later_at blb (hkB 3 u3 rfl)
            have ga4 := later_at bla (hkA 4 v4 rfl)
            have gb4 := later_at blb (hkB 4 u4 rfl)
            have ga5 := later_at bla (hkA 5 v5 rfl)
            have gb5 := later_at blb (hkB 5 u5 rfl)
            have ga6 := later_at bla (hkA 6 v6 rfl)
            have gb6 := later_at blb (hkB 6 u6 rfl)
            have ga7 := later_at bla (hkA 7 v7 rfl)
            have gb7 := later_at blb (hkB 7 u7 rfl)
            rw [Nat.add_zero] at ga0 gb0
            have HEQ := hide (al_eq (b := y) rA)
            have RA := hide rA
            have RB := hide rB
            have RSA := hide rsa
            have RSB := hide rsb
            have MLA := hide mla
            have MLB := hide mlb
            have HX := hide hx
            have HY := hide hy
            clear hx hy hA hB hne hne2 hkA hkB rA rB rsa rsb mla mlb
            have hne0 : Nonempty (Later wr) := later_nonempty wr
            have hpa := pair_at (f := (sm h).al) HX.out HY.out
            rw [HEQ.out] at hpa
            have HPA := hide hpa
            clear hpa
            cases he : eqS x.s y.s
            · have he1 : (x.s.toList == y.s.toList) = false := he
              have he2 : (x.s.toList != y.s.toList) = true := by show (!(eqS x.s y.s)) = true; rw [he]; rfl
              have HE := hide he
              clear he
              go_wp2_with fail
              refine wp_region_class (S := fun v => Below wr.heap.size wr v) (by kernel_rfl) (by kernel_rfl) (below_drew _) ?_
              repeat (first | go_big_quiet_skip | (go_big_quiet_want; go_big_quiet_op; first | go_big_quiet_on | (apply Exists.intro; refine ⟨fun q => ?_, ?_⟩; (first | (go_at_call 55; refine (sameTexts_any x.ss y.ss pa pb na nb _ MLA.out MLB.out (RSA.out.later q.h fun _ _ h => h) (RSB.out.later q.h fun _ _ h => h)).mono ?_; rintro e w9 ⟨rfl, hb9⟩; rw [HT.out]; exact ⟨rfl, Later.on q hb9, rfl⟩) | (go_at_call 56; refine (I3.out K L x y _ _ v2 v3 v4 v5 v6 v7 _ _ u2 u3 u4 u5 u6 u7 _ ((reads_later q.h h).2.2 _ _ RA.out) ((reads_later q.h h).2.2 _ _ RB.out)).mono ?_; rintro e w9 ⟨rfl, hb9⟩; rw [HD.out]; exact ⟨rfl, Later.on q hb9, rfl⟩)); go_big_quiet_on)))
              refine wpQuiet_nil ?_
              intro _ hw'
              obtain ⟨q, rfl⟩ := hw'
              go_wp2
              go_ret
              have hf : rowTo (sm h).al a.al b.al (j + 1) = false := by
                show (_ && pairB (sm h).al a.al b.al j) = false
                rw [HPA.out, HE.out]
                simp
              exact ⟨ret_bool (by rw [HSM2.out, rowTo_false hf hjt]; simp), HB3.out.trans (q.h.mono HB3.out.size)⟩
            have he1 : (x.s.toList == y.s.toList) = true := he
            have he2 : (x.s.toList != y.s.toList) = false := by show (!(eqS x.s y.s)) = false; rw [he]; rfl
            have HE := hide he
            clear he
            cases ht : strsB x.ss y.ss
            · have HT := hide ht
              clear ht
              go_wp2_with fail
              refine wp_region_class (S := fun v => Below wr.heap.size wr v) (by kernel_rfl) (by kernel_rfl) (below_drew _) ?_
              repeat (first | go_big_quiet_skip | (go_big_quiet_want; go_big_quiet_op; first | go_big_quiet_on | (apply Exists.intro; refine ⟨fun q => ?_, ?_⟩; (first | (go_at_call 55; refine (sameTexts_any x.ss y.ss pa pb na nb _ MLA.out MLB.out (RSA.out.later q.h fun _ _ h => h) (RSB.out.later q.h fun _ _ h => h)).mono ?_; rintro e w9 ⟨rfl, hb9⟩; rw [HT.out]; exact ⟨rfl, Later.on q hb9, rfl⟩) | (go_at_call 56; refine (I3.out K L x y _ _ v2 v3 v4 v5 v6 v7 _ _ u2 u3 u4 u5 u6 u7 _ ((reads_later q.h h).2.2 _ _ RA.out) ((reads_later q.h h).2.2 _ _ RB.out)).mono ?_; rintro e w9 ⟨rfl, hb9⟩; rw [HD.out]; exact ⟨rfl, Later.on q hb9, rfl⟩)); go_big_quiet_on)))
              refine wpQuiet_nil ?_
              intro _ hw'
              obtain ⟨q, rfl⟩ := hw'
              go_wp2
              go_ret
              have hf : rowTo (sm h).al a.al b.al (j + 1) = false := by
                show (_ && pairB (sm h).al a.al b.al j) = false
                rw [HPA.out, HT.out]
                simp
              exact ⟨ret_bool (by rw [HSM2.out, rowTo_false hf hjt]; simp), HB3.out.trans (q.h.mono HB3.out.size)⟩
            have HT := hide ht
            clear ht
            cases hd : bdA h x y
            all_goals
              have HD := hide hd
              clear hd
              go_wp2_with fail
              refine wp_region_class (S := fun v => Below wr.heap.size wr v) (by kernel_rfl) (by kernel_rfl) (below_drew _) ?_
              repeat (first | go_big_quiet_skip | (go_big_quiet_want; go_big_quiet_op; first | go_big_quiet_on | (apply Exists.intro; refine ⟨fun q => ?_, ?_⟩; (first | (go_at_call 55; refine (sameTexts_any x.ss y.ss pa pb na nb _ MLA.out MLB.out (RSA.out.later q.h fun _ _ h => h) (RSB.out.later q.h fun _ _ h => h)).mono ?_; rintro e w9 ⟨rfl, hb9⟩; rw [HT.out]; exact ⟨rfl, Later.on q hb9, rfl⟩) | (go_at_call 56; refine (I3.out K L x y _ _ v2 v3 v4 v5 v6 v7 _ _ u2 u3 u4 u5 u6 u7 _ ((reads_later q.h h).2.2 _ _ RA.out) ((reads_later q.h h).2.2 _ _ RB.out)).mono ?_; rintro e w9 ⟨rfl, hb9⟩; rw [HD.out]; exact ⟨rfl, Later.on q hb9, rfl⟩)); go_big_quiet_on)))
              refine wpQuiet_nil ?_
              intro _ hw'
              obtain ⟨q, rfl⟩ := hw'
            · go_wp2
              go_ret
              have hf : rowTo (sm h).al a.al b.al (j + 1) = false := by
                show (_ && pairB (sm h).al a.al b.al j) = false
                rw [HPA.out, HD.out]
                simp
              exact ⟨ret_bool (by rw [HSM2.out, rowTo_false hf hjt]; simp), HB3.out.trans (q.h.mono HB3.out.size)⟩
            · go_wp2
              go_roundw
              case rel =>
                refine ⟨j + 1, by omega, by go_num, ?_, HBQ.out.trans (q.h.mono HBQ.out.size)⟩
                show (rowTo (sm h).al a.al b.al j && pairB (sm h).al a.al b.al j) = true
                rw [HPA.out, HE.out, HT.out, HD.out, HRQ.out]
                rfl
              case measure => simp [intOf]; omega
          · go_wp2
            go_ret
            refine ⟨ret_bool ?_, HB3.out⟩
            have h2 := HRQ.out
            rw [show j = a.al.length by omega] at h2
            rw [HSM2.out, HROL.out, h2]
            rfl
  exact step _ rfl

end Go.Proofs.Ytegcebeaelpjhaj

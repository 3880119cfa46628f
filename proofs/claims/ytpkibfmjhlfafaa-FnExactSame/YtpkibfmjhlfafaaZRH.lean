/- The law on SameTy, walked (made by genST.py). -/
import Derived.Test.YtpkibfmjhlfafaaZRN
import Derived.Test.YtpkibfmjhlfafaaMI
import Derived.Deep.DeepCutAuto
import Derived.Deep.CutBlock
namespace Go.Proofs.Ytpkibfmjhlfafaa.fnExactSame
open Go.ChangeShapes Go.WideShapes Go.ChangeAt Go.RowKit
set_option linter.unusedVariables false

theorem smT_eq {K K' : Nat → Prop} {w w' : World} : ∀ h t u cs ds, tyR K w h t cs → tyR K' w' h u ds → (smT h t u = true ↔ t = u) := by
  intro h
  induction h with
  | zero => exact fun _ _ _ _ h => False.elim h
  | succ h ih =>
    intro t u cs ds a b
    obtain ⟨a1, a2, a3, o1, c1, -, -, -, r1⟩ := a
    obtain ⟨b1, b2, b3, p1, d1, -, -, -, q1⟩ := b
    have f1 := row_sm r1 q1 ih
    simp only [smT, Bool.and_eq_true, decide_eq_true_eq, eqS_iff]
    constructor
    · rintro ⟨k1, k2, k3, l1, e1⟩
      exact tr_ext k1 k2 k3 (a1.trans b1.symm) ((rowTo_all f1 l1).1 e1) (a2.trans b2.symm) (a3.trans b3.symm)
    · rintro rfl
      exact ⟨rfl, rfl, rfl, rfl, (rowTo_all f1 rfl).2 rfl⟩
theorem to_any {V : World} {h : Nat} {x : Tr} {v0 v1 v2 v3 : Value} (hr : tyR AllK V h x [v0, v1, v2, v3]) (hw : wty h x ≤ 1048576) (W : World) (hb : Below V.heap.size V W) :
    Calls Try.prog 7 #[.agg #[v0, v1, v2, v3]] W fun e w' => ∃ o1 c1, e = .returned (.agg #[.int .i64 x.k, .string x.s, .int .i64 x.n, .slice o1 x.l.length c1]) ∧
      tyR (FromK W.heap.size) w' h x [.int .i64 x.k, .string x.s, .int .i64 x.n, .slice o1 x.l.length c1] ∧ Below W.heap.size W w' ∧ Below V.heap.size V w' ∧ Plain W w' := by
  refine (toTy_all h x [v0, v1, v2, v3] W (tyR_later hb h _ _ hr) hw).mono ?_
  rintro e w' ⟨cs, rfl, -, hrd, hb2, hpl⟩
  obtain ⟨o1, c1, rfl⟩ := ty_form hrd
  exact ⟨o1, c1, rfl, hrd, hb2, hb.trans (hb2.mono hb.size), hpl⟩
theorem all_of {B h : Nat} {w : World} {x : Tr} {cs : List Value} (hr : tyR (FromK B) w h x cs) : tyR AllK w h x cs := tyR_frame (K' := AllK) (Stays.refl _ _) (fun _ _ => trivial) h _ _ hr

set_option maxHeartbeats 1000000 in
set_option maxRecDepth 100000 in
theorem walk {h : Nat} (x y : Tr) (v0 v1 v2 v3 u0 u1 u2 u3 : Value) (w : World) (ra : tyR AllK w h x [v0, v1, v2, v3]) (rb : tyR AllK w h y [u0, u1, u2, u3]) (him : ∀ (w : World) (B : Nat) (ca cb : List Value), B ≤ w.heap.size → (∀ b, B ≤ b → b < w.heap.size → ∃ c e, w.heap[b]? = some (.cells c e (0, 0))) → tyR (FromK B) w h x ca → tyR (FromK B) w h y cb → wty h x ≤ 1048576 → wty h y ≤ 1048576 → Calls Try.prog 8 #[.agg ca.toArray, .agg cb.toArray] w fun e w' => ∃ b, e = .returned (.bool b) ∧ (b = true ↔ x = y) ∧ Below w.heap.size w w') :
    Calls Try.prog 3 #[.agg #[v0, v1, v2, v3], .agg #[u0, u1, u2, u3]] w fun e w' => e = .returned (.bool true) ∧ Below w.heap.size w w' := by
  have HIM := hide him
  clear him
  generalize hV : ((w.alloc (.cells #[v0, v1, v2, v3] 24)).alloc (.cells #[u0, u1, u2, u3] 24)) = V
  have hbV : Below w.heap.size w V := by rw [← hV]; exact ((Below.refl _ w).alloc (Nat.le_refl _) _).alloc (by simp) _
  have hsV : V.heap.size = w.heap.size + 2 := by rw [← hV]; simp
  have ha : V.heap[w.heap.size]? = some (.cells #[v0, v1, v2, v3] 24 (0, 0)) := by rw [← hV]; exact (Below.heap_alloc _ _ _ (by simp)).trans (heap_alloc_new w _)
  have hb : V.heap[w.heap.size + 1]? = some (.cells #[u0, u1, u2, u3] 24 (0, 0)) := by rw [← hV]; exact heap_alloc2_new w _ _
  have RA := hide (tyR_later hbV h _ _ ra)
  have RB := hide (tyR_later hbV h _ _ rb)
  have HBV := hide hbV
  have HAV := hide ha
  have HBW := hide hb
  clear ra rb hbV ha hb
  have x0 := cell_of HAV.out 0
  have x1 := cell_of HAV.out 1
  have x2 := cell_of HAV.out 2
  have x3 := cell_of HAV.out 3
  simp only [List.getElem?_toArray, List.getElem?_cons_succ, List.getElem?_cons_zero] at x0 x1 x2 x3
  go_enter Try.func3, Try.ntmps3
  go_wp2_with fail
  refine (szTy_all AllK h x [v0, v1, v2, v3] _ 1048576 (by omega) (by omega) RA.out).mono ?_
  rintro e w1 ⟨r, rfl, hr1, hr2, hb⟩
  have HW := hide hr2
  have HB1 := hide hb
  have HA1 := hide ((hb.block w.heap.size (by omega)).trans HAV.out)
  have HY1 := hide ((hb.block (w.heap.size + 1) (by omega)).trans HBW.out)
  clear hr2 hb x0 x1 x2 x3
  by_cases hr0 : r < 0
  · go_wp2
    go_ret
    exact ⟨rfl, HBV.out.trans (HB1.out.mono HBV.out.size)⟩
  have y0 := cell_of HY1.out 0
  have y1 := cell_of HY1.out 1
  have y2 := cell_of HY1.out 2
  have y3 := cell_of HY1.out 3
  simp only [List.getElem?_toArray, List.getElem?_cons_succ, List.getElem?_cons_zero] at y0 y1 y2 y3
  go_wp2_with fail
  refine (szTy_all AllK h y [u0, u1, u2, u3] _ r (by omega) (by omega) (tyR_later HB1.out h _ _ RB.out)).mono ?_
  rintro e w2 ⟨s, rfl, hs1, hs2, hb⟩
  have HW2 := hide hs2
  have HB2 := hide (HB1.out.trans (hb.mono HB1.out.size))
  clear hs2 hb y0 y1 y2 y3
  by_cases hs0 : s < 0
  · go_wp2
    go_ret
    exact ⟨rfl, HBV.out.trans (HB2.out.mono HBV.out.size)⟩
  have HWT : Hid (wty h x ≤ 1048576 ∧ wty h y ≤ 1048576) := by
    have h1 := HW.out (by omega)
    have h2 := HW2.out (by omega)
    exact ⟨by omega, by omega⟩
  have HA2 := hide ((HB2.out.block w.heap.size (by omega)).trans HAV.out)
  have HY2 := hide ((HB2.out.block (w.heap.size + 1) (by omega)).trans HBW.out)
  have hsz2 : w.heap.size + 2 ≤ w2.heap.size := by have := HB2.out.size; omega
  have hlx : w.heap.size < w2.heap.size := by omega
  have hly : w.heap.size + 1 < w2.heap.size := by omega
  have HTA := hide (to_any (V := w2) (tyR_later HB2.out h _ _ RA.out) HWT.out.1)
  have HTB := hide (to_any (V := w2) (tyR_later HB2.out h _ _ RB.out) HWT.out.2)
  have x0 := cell_of HA2.out 0
  have x1 := cell_of HA2.out 1
  have x2 := cell_of HA2.out 2
  have x3 := cell_of HA2.out 3
  have y0 := cell_of HY2.out 0
  have y1 := cell_of HY2.out 1
  have y2 := cell_of HY2.out 2
  have y3 := cell_of HY2.out 3
  simp only [List.getElem?_toArray, List.getElem?_cons_succ, List.getElem?_cons_zero] at x0 x1 x2 x3 y0 y1 y2 y3

  go_upto_region 8 with fail
  go_cut [6] (fun v6 w3 => v6 = .bool (smT h x y) ∧ Below w2.heap.size w2 w3)
  case first =>
    go_region_with (first
      | (go_at_call 7; first
          | (with_reducible refine Calls.mono (HTA.out _ ?hb) ?_; (case hb => first | exact HBB.out | exact (Below.refl _ _).drew); rintro e wA ⟨q1, g1, rfl, hrd, hb1, hb2, -⟩; have CA := hide (all_of hrd); have HBB := hide hb2; (try have CB := hide (tyR_later hb1 h _ _ CB.out)); have z0 := (hb2.cell (p := ⟨w.heap.size, 0, none⟩) hlx).trans x0; have q0' := (hb2.cell (p := ⟨w.heap.size + 1, 0, none⟩) hly).trans y0; have z1 := (hb2.cell (p := ⟨w.heap.size, 1, none⟩) hlx).trans x1; have q1' := (hb2.cell (p := ⟨w.heap.size + 1, 1, none⟩) hly).trans y1; have z2 := (hb2.cell (p := ⟨w.heap.size, 2, none⟩) hlx).trans x2; have q2' := (hb2.cell (p := ⟨w.heap.size + 1, 2, none⟩) hly).trans y2; have z3 := (hb2.cell (p := ⟨w.heap.size, 3, none⟩) hlx).trans x3; have q3' := (hb2.cell (p := ⟨w.heap.size + 1, 3, none⟩) hly).trans y3; clear hrd hb1 hb2)
          | (with_reducible refine Calls.mono (HTB.out _ ?hb) ?_; (case hb => first | exact HBB.out | exact (Below.refl _ _).drew); rintro e wA ⟨q1, g1, rfl, hrd, hb1, hb2, -⟩; have CB := hide (all_of hrd); have HBB := hide hb2; (try have CA := hide (tyR_later hb1 h _ _ CA.out)); have z0 := (hb2.cell (p := ⟨w.heap.size, 0, none⟩) hlx).trans x0; have q0' := (hb2.cell (p := ⟨w.heap.size + 1, 0, none⟩) hly).trans y0; have z1 := (hb2.cell (p := ⟨w.heap.size, 1, none⟩) hlx).trans x1; have q1' := (hb2.cell (p := ⟨w.heap.size + 1, 1, none⟩) hly).trans y1; have z2 := (hb2.cell (p := ⟨w.heap.size, 2, none⟩) hlx).trans x2; have q2' := (hb2.cell (p := ⟨w.heap.size + 1, 2, none⟩) hly).trans y2; have z3 := (hb2.cell (p := ⟨w.heap.size, 3, none⟩) hlx).trans x3; have q3' := (hb2.cell (p := ⟨w.heap.size + 1, 3, none⟩) hly).trans y3; clear hrd hb1 hb2))
      | (go_at_call 6; refine (sameTy_all h AllK AllK x y _ _ _ CA.out CB.out).mono ?_; rintro e w3 ⟨rfl, hbS⟩; have HBS := hide (HBB.out.trans (hbS.mono HBB.out.size)); clear hbS))
    all_goals
      go_wp2_with fail
      go_meet
      case rel => exact ⟨rfl, HBS.out⟩
  case rest =>
    obtain ⟨rfl, hbS⟩ := hcut
    generalize wc = w3 at hbS ⊢
    have HBS := hide hbS
    clear hbS
    have HSM := hide (smT_eq h x y _ _ RA.out RB.out)
    have HB3 := hide (HB2.out.trans (HBS.out.mono HB2.out.size))
    have HA3 := hide ((HB3.out.block w.heap.size (by omega)).trans HAV.out)
    have hs3 : w.heap.size + 2 ≤ w3.heap.size := by have := HB3.out.size; omega
    clear x0 x1 x2 x3 y0 y1 y2 y3
    generalize hbo : smT h x y = bo at HSM
    clear hbo
    have a0 := cell_of HA3.out 0
    have a1 := cell_of HA3.out 1
    have a2 := cell_of HA3.out 2
    have a3 := cell_of HA3.out 3
    simp only [List.getElem?_toArray, List.getElem?_cons_succ, List.getElem?_cons_zero] at a0 a1 a2 a3
    go_wp2_with fail
    refine (HTA.out w3 HBS.out).mono ?_
    rintro e w4 ⟨o1, c1, rfl, hrd, hb1, hb2, hpl⟩
    have RX4 := hide hrd
    have HPL4 := hide (hpl.alloc #[.int .i64 x.k, .string x.s, .int .i64 x.n, .slice o1 x.l.length c1] 29)
    have HB4 := hide hb1
    have HA5 : Hid (Below w4.heap.size w4 (w4.alloc (.cells #[.int .i64 x.k, .string x.s, .int .i64 x.n, .slice o1 x.l.length c1] 29))) := (Below.refl _ w4).alloc (Nat.le_refl _) _
    have HB5 := hide (hb2.trans (HA5.out.mono hb2.size))
    have HX5 : Hid ((w4.alloc (.cells #[.int .i64 x.k, .string x.s, .int .i64 x.n, .slice o1 x.l.length c1] 29)).heap[w4.heap.size]? = some (.cells #[.int .i64 x.k, .string x.s, .int .i64 x.n, .slice o1 x.l.length c1] 29 (0, 0))) := heap_alloc_new w4 _
    have hs4 : w3.heap.size ≤ w4.heap.size := hb1.size
    have HV4 := hide (HB3.out.trans (hb1.mono HB3.out.size))
    have HY4 := hide ((HA5.out.block (w.heap.size + 1) (by omega)).trans ((HV4.out.block (w.heap.size + 1) (by omega)).trans HBW.out))
    clear hrd hb1 hb2 hpl
    clear a0 a1 a2 a3
    have b0 := cell_of HY4.out 0
    have b1 := cell_of HY4.out 1
    have b2 := cell_of HY4.out 2
    have b3 := cell_of HY4.out 3
    simp only [List.getElem?_toArray, List.getElem?_cons_succ, List.getElem?_cons_zero] at b0 b1 b2 b3
    go_wp2_with fail
    refine (HTB.out (w4.alloc (.cells #[.int .i64 x.k, .string x.s, .int .i64 x.n, .slice o1 x.l.length c1] 29)) HB5.out).mono ?_
    rintro e w6 ⟨p1, d1, rfl, hrd, hb1, hb2, hpl⟩
    have RY6 := hide hrd
    have HPL6 := hide ((HPL4.out.on hpl hb1).alloc #[.int .i64 y.k, .string y.s, .int .i64 y.n, .slice p1 y.l.length d1] 29)
    have hs6 : w4.heap.size + 1 ≤ w6.heap.size := by have := hb1.size; simp at this; omega
    have HX6 := hide ((hb1.block w4.heap.size (heap_lt HX5.out)).trans HX5.out)
    have HB6 := hide (HA5.out.trans (hb1.mono HA5.out.size))
    have HA7 : Hid (Below w6.heap.size w6 (w6.alloc (.cells #[.int .i64 y.k, .string y.s, .int .i64 y.n, .slice p1 y.l.length d1] 29))) := (Below.refl _ w6).alloc (Nat.le_refl _) _
    have HB7 := hide (hb2.trans (HA7.out.mono hb2.size))
    have HY7 : Hid ((w6.alloc (.cells #[.int .i64 y.k, .string y.s, .int .i64 y.n, .slice p1 y.l.length d1] 29)).heap[w6.heap.size]? = some (.cells #[.int .i64 y.k, .string y.s, .int .i64 y.n, .slice p1 y.l.length d1] 29 (0, 0))) := heap_alloc_new w6 _
    have HX7 := hide ((HA7.out.block w4.heap.size (by omega)).trans HX6.out)
    have RX7 := hide (tyR_later HA7.out h _ _ (tyR_later HB6.out h _ _ RX4.out))
    have RY7 := hide (tyR_later HA7.out h _ _ (tyR_frame (Stays.refl _ _) (FromK.up (m := w3.heap.size) (n := (w4.alloc (.cells #[.int .i64 x.k, .string x.s, .int .i64 x.n, .slice o1 x.l.length c1] 29)).heap.size) (by simp; omega)) h _ _ RY6.out))
    have hs7 : w3.heap.size ≤ (w6.alloc (.cells #[.int .i64 y.k, .string y.s, .int .i64 y.n, .slice p1 y.l.length d1] 29)).heap.size := by simp; omega
    clear hrd hb1 hb2 hpl
    clear b0 b1 b2 b3
    have a0 := cell_of HX7.out 0
    have a1 := cell_of HX7.out 1
    have a2 := cell_of HX7.out 2
    have a3 := cell_of HX7.out 3
    simp only [List.getElem?_toArray, List.getElem?_cons_succ, List.getElem?_cons_zero] at a0 a1 a2 a3
    go_wp2_with fail
    refine (HIM.out (w6.alloc (.cells #[.int .i64 y.k, .string y.s, .int .i64 y.n, .slice p1 y.l.length d1] 29)) w3.heap.size _ _ hs7 HPL6.out RX7.out RY7.out HWT.out.1 HWT.out.2).mono ?_
    rintro e w8 ⟨b, rfl, hiff, hb1⟩
    have hbb : b = bo := by
      have h1 := HSM.out
      cases b <;> cases bo <;> simp_all
    subst hbb
    have HX8 := hide ((hb1.block w4.heap.size (heap_lt HX7.out)).trans HX7.out)
    have HY8 := hide ((hb1.block w6.heap.size (heap_lt HY7.out)).trans HY7.out)
    have HT8 := hide (HB7.out.trans (hb1.mono HB7.out.size))
    have RX8 := hide (all_of (tyR_later hb1 h _ _ RX7.out))
    have RY8 := hide (all_of (tyR_later hb1 h _ _ RY7.out))
    have HV8 := hide (HB2.out.trans (HT8.out.mono HB2.out.size))
    have HA8 := hide ((HV8.out.block w.heap.size (by omega)).trans HAV.out)
    have HW8 := hide ((HV8.out.block (w.heap.size + 1) (by omega)).trans HBW.out)
    have hz9 : w4.heap.size < w8.heap.size := heap_lt HX8.out
    have hy8 : w6.heap.size < w8.heap.size := heap_lt HY8.out
    clear hiff hb1 HSM
    clear a0 a1 a2 a3
    have a0 := cell_of HA8.out 0
    have a1 := cell_of HA8.out 1
    have a2 := cell_of HA8.out 2
    have a3 := cell_of HA8.out 3
    simp only [List.getElem?_toArray, List.getElem?_cons_succ, List.getElem?_cons_zero] at a0 a1 a2 a3
    have e0 := cell_of HX8.out 0
    have e1 := cell_of HX8.out 1
    have e2 := cell_of HX8.out 2
    have e3 := cell_of HX8.out 3
    simp only [List.getElem?_toArray, List.getElem?_cons_succ, List.getElem?_cons_zero] at e0 e1 e2 e3
    have hbn : (b != b) = false := by simp
    go_upto_region 14 with fail
    go_cut [39] (fun v w10 => v = .bool false ∧ Below w8.heap.size w8 w10)
    case first =>
      go_region_with (first
        | (go_at_call 7; refine Calls.mono (HTA.out _ ?hb) ?_; (case hb => exact HT8.out.drew); rintro e w9 ⟨n1, m1, rfl, hrd, hb1, hb2, -⟩; have RC := hide (all_of hrd); have RX := hide (tyR_later ((Below.refl _ _).drew.trans hb1) h _ _ RX8.out); have z0 := (hb1.cell (p := ⟨w4.heap.size, 0, none⟩) hz9).trans e0; have z1 := (hb1.cell (p := ⟨w4.heap.size, 1, none⟩) hz9).trans e1; have z2 := (hb1.cell (p := ⟨w4.heap.size, 2, none⟩) hz9).trans e2; have z3 := (hb1.cell (p := ⟨w4.heap.size, 3, none⟩) hz9).trans e3; have HBK := hide ((Below.refl _ w8).drew.trans hb1); clear hrd hb1 hb2)
        | (go_at_call 9; refine (eqTy_all h x _ _ _ RX.out RC.out).mono ?_; rintro e w10 ⟨rfl, hb1⟩; have HBL := hide (HBK.out.trans (hb1.mono HBK.out.size)); clear hb1))
      all_goals
        go_wp2_with fail
        go_meet
        case rel => exact ⟨rfl, HBL.out⟩
    case rest =>
      obtain ⟨rfl, hb10⟩ := hcut
      generalize wc = w10 at hb10 ⊢
      have HT10 := hide (HT8.out.trans (hb10.mono HT8.out.size))
      have HY10 := hide ((hb10.block w6.heap.size hy8).trans HY8.out)
      have HW10 := hide ((hb10.block (w.heap.size + 1) (by omega)).trans HW8.out)
      have RY10 := hide (tyR_later hb10 h _ _ RY8.out)
      have hz11 : w6.heap.size < w10.heap.size := heap_lt HY10.out
      clear hb10 a0 a1 a2 a3 e0 e1 e2 e3
      have a0 := cell_of HW10.out 0
      have a1 := cell_of HW10.out 1
      have a2 := cell_of HW10.out 2
      have a3 := cell_of HW10.out 3
      simp only [List.getElem?_toArray, List.getElem?_cons_succ, List.getElem?_cons_zero] at a0 a1 a2 a3
      have e0 := cell_of HY10.out 0
      have e1 := cell_of HY10.out 1
      have e2 := cell_of HY10.out 2
      have e3 := cell_of HY10.out 3
      simp only [List.getElem?_toArray, List.getElem?_cons_succ, List.getElem?_cons_zero] at e0 e1 e2 e3
      go_upto_region 16 with fail
      go_cut [44] (fun v w12 => v = .bool false ∧ Below w10.heap.size w10 w12)
      case first =>
        go_region_with (first
          | (go_at_call 7; refine Calls.mono (HTB.out _ ?hb) ?_; (case hb => exact HT10.out.drew); rintro e w11 ⟨n1, m1, rfl, hrd, hb1, hb2, -⟩; have RC := hide (all_of hrd); have RX := hide (tyR_later ((Below.refl _ _).drew.trans hb1) h _ _ RY10.out); have z0 := (hb1.cell (p := ⟨w6.heap.size, 0, none⟩) hz11).trans e0; have z1 := (hb1.cell (p := ⟨w6.heap.size, 1, none⟩) hz11).trans e1; have z2 := (hb1.cell (p := ⟨w6.heap.size, 2, none⟩) hz11).trans e2; have z3 := (hb1.cell (p := ⟨w6.heap.size, 3, none⟩) hz11).trans e3; have HBK := hide ((Below.refl _ w10).drew.trans hb1); clear hrd hb1 hb2)
          | (go_at_call 9; refine (eqTy_all h y _ _ _ RX.out RC.out).mono ?_; rintro e w12 ⟨rfl, hb1⟩; have HBL := hide (HBK.out.trans (hb1.mono HBK.out.size)); clear hb1))
        all_goals
          go_wp2_with fail
          go_meet
          case rel => exact ⟨rfl, HBL.out⟩
      case rest =>
        obtain ⟨rfl, hb12⟩ := hcut
        generalize wc = w12 at hb12 ⊢
        have HB12 := hide (HT10.out.trans (hb12.mono HT10.out.size))
        clear hb12
        go_wp2
        go_ret
        have h1 := HBV.out.trans (HB2.out.mono HBV.out.size)
        exact ⟨rfl, h1.trans (HB12.out.mono h1.size)⟩
end Go.Proofs.Ytpkibfmjhlfafaa.fnExactSame

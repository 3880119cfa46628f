/- The model's IsBare, whole. -/
import Derived.Test.YtnmofagmjcengaaJA
namespace Go.Proofs.Ytnmofagmjcengaa.Br
open Go.ChangeShapes Go.WideShapes Go.ChangeAt Go.RowKit

def IbAl (h : Nat) : Prop := ∀ (K : Nat → Prop) (x : Tr) (v0 v1 v2 v3 v4 v5 v6 v7 : Value) (w : World), (reads K w h).al x [v0, v1, v2, v3, v4, v5, v6, v7] → Calls Try.prog 5 #[.agg #[v2, v3, v4, v5, v6, v7]] w fun e w' => e = .returned (.bool ((ibs h).al x)) ∧ Below w.heap.size w w'
theorem ibAl_step {h : Nat} (i1 : IbEx h) : IbAl (h + 1) := by
  intro K x v0 v1 v2 v3 v4 v5 v6 v7 w hr
  obtain ⟨-, -, -, -, y, o1, c1, ce, hy, he, hs, hl, q1, hce, q2⟩ := hr
  obtain ⟨a0, a1, a2, a3, a4, a5, rfl⟩ := six hce
  simp only [List.cons_append, List.nil_append, List.cons.injEq, and_true] at he
  obtain ⟨-, -, rfl, rfl, rfl, rfl, rfl, rfl⟩ := he
  have e1 : (ibs (h + 1)).al x = (ibs h).ex y := by show x.l.all (ibs h).ex = _; rw [hy]; simp
  rw [e1]
  exact i1 K y _ w q2

set_option maxHeartbeats 2000000 in
set_option maxRecDepth 100000 in
theorem ibEx_step {h : Nat} (i1 : IbEx h) (i2 : IbDs h) (i3 : IbAl h) : IbEx (h + 1) := by
  intro K x cs w hr
  obtain ⟨-, o1, c1, o2, c2, o3, c3, rfl, hs, hl, hd, ha, q1, q2, q3⟩ := hr
  have I1 := hide i1
  have I2 := hide i2
  have I3 := hide i3
  have Q1 := hide q1
  have Q2 := hide q2
  have Q3 := hide q3
  have HD := hide hd
  have hl2 : x.l.length ≤ 9223372036854775807 := hl.1
  have ha2 : x.al.length ≤ 9223372036854775807 := ha.1
  have HEQ : Hid ((ibs (h + 1)).ex x = (x.l.all (ibs h).ex && (x.al.all (ibs h).al && x.ds.all (ibs h).de))) := rfl
  clear i1 i2 i3 q1 q2 q3 hs hl hd ha
  have HB0 : Hid (Below w.heap.size w (w.alloc (.cells #[.int .i64 x.k, .string x.s, .int .i64 x.n, .slice o1 x.l.length c1, .slice o2 x.ds.length c2, .slice o3 x.al.length c3] 33))) := (Below.refl _ w).alloc (Nat.le_refl _) _
  have HX0 : Hid ((w.alloc (.cells #[.int .i64 x.k, .string x.s, .int .i64 x.n, .slice o1 x.l.length c1, .slice o2 x.ds.length c2, .slice o3 x.al.length c3] 33)).heap[w.heap.size]? = some (.cells #[.int .i64 x.k, .string x.s, .int .i64 x.n, .slice o1 x.l.length c1, .slice o2 x.ds.length c2, .slice o3 x.al.length c3] 33 (0, 0))) := heap_alloc_new w _
  go_enter Try.func5, Try.ntmps5
  go_wp2
  generalize w.alloc (.cells #[.int .i64 x.k, .string x.s, .int .i64 x.n, .slice o1 x.l.length c1, .slice o2 x.ds.length c2, .slice o3 x.al.length c3] 33) = w1 at HB0 HX0 ⊢
  go_loopw [3] (fun t3 wr => ∃ i : Nat, i ≤ x.l.length ∧ t3 = .int .i64 i ∧ (x.l.take i).all (ibs h).ex = true ∧ Below w1.heap.size w1 wr) (fun t3 _ => x.l.length - (intOf t3).toNat)
  case atStart => exact ⟨0, Nat.zero_le _, rfl, rfl, Below.refl _ _⟩
  case round =>
    obtain ⟨i, hi, rfl, hall, hbw⟩ := hrel
    have HAL := hide hall
    have HBW := hide hbw
    have HXR := hide ((hbw.block w.heap.size (heap_lt HX0.out)).trans HX0.out)
    clear hall hbw
    have b3 := cell_of HXR.out 3
    have b4 := cell_of HXR.out 4
    have b5 := cell_of HXR.out 5
    simp only [List.getElem?_toArray, List.getElem?_cons_succ, List.getElem?_cons_zero] at b3 b4 b5
    by_cases hlt : i < x.l.length
    · have hne : x.l ≠ [] := by intro e; rw [e] at hlt; simp at hlt
      obtain ⟨y, hy⟩ : ∃ y, x.l[i]? = some y := ⟨x.l[i], List.getElem?_eq_getElem hlt⟩
      have hb2 := HB0.out.trans (HBW.out.mono HB0.out.size)
      obtain ⟨b, off, eo, -, hbl, hcs⟩ := (Q1.out.later hb2 (reads_later hb2 h).1) hne
      subst eo
      obtain ⟨cs, hlen, hkey, hrd⟩ := hcs i y hy
      obtain ⟨v0, v1, v2, v3, v4, v5, rfl⟩ := six hlen
      have q0 := hkey 0 v0 rfl
      have q1 := hkey 1 v1 rfl
      have q2 := hkey 2 v2 rfl
      have q3 := hkey 3 v3 rfl
      have q4 := hkey 4 v4 rfl
      have q5 := hkey 5 v5 rfl
      rw [Nat.add_zero] at q0
      have HY := hide hy
      have HRD := hide hrd
      clear hcs hy hne hkey hlen hrd hb2
      have hlt2 : (i : Int) < x.l.length := by omega
      cases hx : (ibs h).ex y
      all_goals
        have HX := hide hx
        clear hx
        go_wp2_with fail
        refine (I1.out K y _ _ HRD.out).mono ?_
        rintro e w2 ⟨rfl, hb⟩
        rw [HX.out]
        have HB2 := hide (HBW.out.trans (hb.mono HBW.out.size))
        clear hb
        go_wp2
      · go_ret
        exact ⟨by rw [HEQ.out, all_no HY.out HX.out]; rfl, HB0.out.trans (HB2.out.mono HB0.out.size)⟩
      · exact ⟨⟨i + 1, by omega, by go_num, by rw [all_take _ _ _ _ HY.out, HAL.out, HX.out]; rfl, HB2.out⟩, by simp [intOf]; omega⟩
    · have hlt2 : ¬ ((i : Int) < x.l.length) := by omega
      have HA1 : Hid (x.l.all (ibs h).ex = true) := by
        have e := HAL.out
        rw [List.take_of_length_le (by omega)] at e
        exact e
      have HB1 := hide (HB0.out.trans (HBW.out.mono HB0.out.size))
      clear HAL
      go_wp2
      generalize wr = V at *
      go_loopw [4] (fun t4 wr => ∃ i : Nat, i ≤ x.al.length ∧ t4 = .int .i64 i ∧ (x.al.take i).all (ibs h).al = true ∧ Below V.heap.size V wr) (fun t4 _ => x.al.length - (intOf t4).toNat)
      case atStart => exact ⟨0, Nat.zero_le _, rfl, rfl, Below.refl _ _⟩
      case round =>
        obtain ⟨j, hj, rfl, hall, hbw⟩ := hrel
        have HAL := hide hall
        have HBV := hide hbw
        have HXS := hide ((hbw.block w.heap.size (heap_lt HXR.out)).trans HXR.out)
        clear hall hbw b3 b4 b5
        have b3 := cell_of HXS.out 3
        have b4 := cell_of HXS.out 4
        have b5 := cell_of HXS.out 5
        simp only [List.getElem?_toArray, List.getElem?_cons_succ, List.getElem?_cons_zero] at b3 b4 b5
        have HB2 := hide (HB1.out.trans (HBV.out.mono HB1.out.size))
        by_cases hlj : j < x.al.length
        · have hne : x.al ≠ [] := by intro e; rw [e] at hlj; simp at hlj
          obtain ⟨y, hy⟩ : ∃ y, x.al[j]? = some y := ⟨x.al[j], List.getElem?_eq_getElem hlj⟩
          obtain ⟨b, off, eo, -, hbl, hcs⟩ := (Q3.out.later HB2.out (reads_later HB2.out h).2.2) hne
          subst eo
          obtain ⟨cs, hlen, hkey, hrd⟩ := hcs j y hy
          obtain ⟨v0, v1, v2, v3, v4, v5, v6, v7, rfl⟩ := eight hlen
          have q2 := hkey 2 v2 rfl
          have q3 := hkey 3 v3 rfl
          have q4 := hkey 4 v4 rfl
          have q5 := hkey 5 v5 rfl
          have q6 := hkey 6 v6 rfl
          have q7 := hkey 7 v7 rfl
          have HY := hide hy
          have HRD := hide hrd
          clear hcs hy hne hkey hlen hrd
          have hlj2 : (j : Int) < x.al.length := by omega
          cases hx : (ibs h).al y
          all_goals
            have HX := hide hx
            clear hx
            go_wp2_with fail
            refine (I3.out K y v0 v1 _ _ _ _ _ _ _ HRD.out).mono ?_
            rintro e w2 ⟨rfl, hb⟩
            rw [HX.out]
            have HB3 := hide (HBV.out.trans (hb.mono HBV.out.size))
            clear hb
            go_wp2
          · go_ret
            exact ⟨by rw [HEQ.out, all_no HY.out HX.out]; simp, HB1.out.trans (HB3.out.mono HB1.out.size)⟩
          · exact ⟨⟨j + 1, by omega, by go_num, by rw [all_take _ _ _ _ HY.out, HAL.out, HX.out]; rfl, HB3.out⟩, by simp [intOf]; omega⟩
        · have hlj2 : ¬ ((j : Int) < x.al.length) := by omega
          have HA2 : Hid (x.al.all (ibs h).al = true) := by
            have e := HAL.out
            rw [List.take_of_length_le (by omega)] at e
            exact e
          clear HAL
          go_wp2_with fail
          refine (I2.out K x.ds o2 c2 _ (Q2.out.later HB2.out (reads_later HB2.out h).2.1) HD.out.1).mono ?_
          rintro e w2 ⟨rfl, hb⟩
          have HB3 := hide (HB2.out.trans (hb.mono HB2.out.size))
          clear hb
          go_wp2
          go_ret
          exact ⟨by rw [HEQ.out, HA1.out, HA2.out]; simp, HB3.out⟩
theorem ib_all : ∀ h, IbEx h ∧ IbDs h ∧ IbAl h := by
  intro h
  induction h with
  | zero => exact ⟨fun K x cs w hr => hr.elim, ibDs_zero, fun K x v0 v1 v2 v3 v4 v5 v6 v7 w hr => hr.elim⟩
  | succ h ih => exact ⟨ibEx_step ih.1 ih.2.1 ih.2.2, ibDs_step ih.1, ibAl_step ih.1⟩
end Go.Proofs.Ytnmofagmjcengaa.Br

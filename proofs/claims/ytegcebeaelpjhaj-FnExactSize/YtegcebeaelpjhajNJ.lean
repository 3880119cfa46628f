/- The model's Size. -/
import Derived.Test.YtegcebeaelpjhajYA
import Derived.Test.YtegcebeaelpjhajZA
namespace Go.Proofs.Ytegcebeaelpjhaj
open Go.ChangeShapes Go.WideShapes Go.ChangeAt Go.RowKit

def ZEx (h : Nat) : Prop := ∀ (x : Tr) (cs : List Value) (w : World), (reads AllK w h).ex x cs → (cnt h).ex x ≤ 4000000 → Calls Try.prog 12 #[.agg cs.toArray] w fun e w' => e = .returned (.int .i64 ((cnt h).ex x : Nat)) ∧ Below w.heap.size w w'
def ZAl (h : Nat) : Prop := ∀ (x : Tr) (v0 v1 v2 v3 v4 v5 v6 v7 : Value) (w : World), (reads AllK w h).al x [v0, v1, v2, v3, v4, v5, v6, v7] → (cnt h).al x ≤ 4000000 → Calls Try.prog 12 #[.agg #[v2, v3, v4, v5, v6, v7]] w fun e w' => e = .returned (.int .i64 ((cnt h).al x : Nat)) ∧ Below w.heap.size w w'
def ZDs (h : Nat) : Prop := ∀ (xs : List Tr) (o : Option Addr) (c : Nat) (w : World), RowOf AllK w (reads AllK w h).de 9 o xs → xs.length ≤ maxLen → sumZ (cnt h).de xs ≤ 4000000 → Calls Try.prog 35 #[.slice o xs.length c] w fun e w' => e = .returned (.int .i64 (sumZ (cnt h).de xs : Nat)) ∧ Below w.heap.size w w'
theorem sumZ_up (g : Tr → Nat) (xs : List Tr) (i : Nat) (x : Tr) (hx : xs[i]? = some x) : sumZ g (xs.take (i + 1)) = sumZ g (xs.take i) + g x := by
  unfold sumZ
  rw [List.take_add_one, hx, List.map_append, List.sum_append]
  simp
theorem sumZ_le (g : Tr → Nat) (xs : List Tr) (i : Nat) : sumZ g (xs.take i) ≤ sumZ g xs := by
  unfold sumZ
  conv => rhs; rw [← List.take_append_drop i xs, List.map_append, List.sum_append]
  omega
theorem zAl_step {h : Nat} (i1 : ZEx h) : ZAl (h + 1) := by
  intro x v0 v1 v2 v3 v4 v5 v6 v7 w hr hn
  obtain ⟨-, -, -, -, y, o1, c1, ce, hy, he, hs, hl, q1, hce, q2⟩ := hr
  obtain ⟨a0, a1, a2, a3, a4, a5, rfl⟩ := six hce
  simp only [List.cons_append, List.nil_append, List.cons.injEq, and_true] at he
  obtain ⟨-, -, rfl, rfl, rfl, rfl, rfl, rfl⟩ := he
  have e2 : (cnt (h + 1)).al x = (cnt h).ex y := by show sumZ (cnt h).ex x.l = _; rw [hy]; simp [sumZ]
  rw [e2] at hn ⊢
  exact i1 y _ w q2 hn

set_option maxHeartbeats 2000000 in
set_option maxRecDepth 100000 in
theorem zEx_step {h : Nat} (i1 : ZEx h) (i2 : ZDs h) (i3 : ZAl h) : ZEx (h + 1) := by
  intro x cs w hr hn
  obtain ⟨-, o1, c1, o2, c2, o3, c3, rfl, hs, hl, hd, ha, q1, q2, q3⟩ := hr
  have hcn : (cnt (h + 1)).ex x = 1 + sumZ (cnt h).ex x.l + sumZ (cnt h).al x.al + sumZ (cnt h).de x.ds := rfl
  rw [hcn] at hn ⊢
  have I1 := hide i1
  have I2 := hide i2
  have I3 := hide i3
  have Q1 := hide q1
  have Q2 := hide q2
  have Q3 := hide q3
  have HD := hide hd
  have hl2 : x.l.length ≤ 9223372036854775807 := hl.1
  have hd2 : x.ds.length ≤ 9223372036854775807 := hd.1
  have ha2 : x.al.length ≤ 9223372036854775807 := ha.1
  clear i1 i2 i3 q1 q2 q3 hs hl hd ha hcn
  have HB0 : Hid (Below w.heap.size w (w.alloc (.cells #[.int .i64 x.k, .string x.s, .int .i64 x.n, .slice o1 x.l.length c1, .slice o2 x.ds.length c2, .slice o3 x.al.length c3] 43))) := (Below.refl _ w).alloc (Nat.le_refl _) _
  have HX0 : Hid ((w.alloc (.cells #[.int .i64 x.k, .string x.s, .int .i64 x.n, .slice o1 x.l.length c1, .slice o2 x.ds.length c2, .slice o3 x.al.length c3] 43)).heap[w.heap.size]? = some (.cells #[.int .i64 x.k, .string x.s, .int .i64 x.n, .slice o1 x.l.length c1, .slice o2 x.ds.length c2, .slice o3 x.al.length c3] 43 (0, 0))) := heap_alloc_new w _
  generalize hV : w.alloc (.cells #[.int .i64 x.k, .string x.s, .int .i64 x.n, .slice o1 x.l.length c1, .slice o2 x.ds.length c2, .slice o3 x.al.length c3] 43) = V at HB0 HX0
  generalize hSA : sumZ (cnt h).ex x.l = SA at hn ⊢
  generalize hSB : sumZ (cnt h).al x.al = SB at hn ⊢
  generalize hSC : sumZ (cnt h).de x.ds = SC at hn ⊢
  have HSA := hide hSA
  have HSB := hide hSB
  have HSC := hide hSC
  clear hSA hSB hSC
  go_enter Try.func12, Try.ntmps12
  go_wp2
  go_loopw [3, 4] (fun t3 t4 wr => ∃ (i : Nat) (n : Int), i ≤ x.l.length ∧ t4 = .int .i64 i ∧ t3 = .int .i64 n ∧ n = ((1 + sumZ (cnt h).ex (x.l.take i) : Nat) : Int) ∧ Below V.heap.size V wr) (fun _ t4 _ => x.l.length - (intOf t4).toNat)
  case atStart => exact ⟨0, 1, Nat.zero_le _, rfl, rfl, by simp [sumZ], Below.refl _ _⟩
  case round =>
    obtain ⟨i, n, hi, rfl, rfl, hnn, hbw⟩ := hrel
    have HNN := hide hnn
    have HBW := hide hbw
    have HXR := hide ((hbw.block w.heap.size (heap_lt HX0.out)).trans HX0.out)
    have hle := sumZ_le (cnt h).ex x.l i
    rw [HSA.out] at hle
    have hn0 : 0 ≤ n := by omega
    have hn1 : n ≤ 4000001 := by omega
    clear hbw hle hnn
    have b3 := cell_of HXR.out 3
    have b4 := cell_of HXR.out 4
    have b5 := cell_of HXR.out 5
    simp only [List.getElem?_toArray, List.getElem?_cons_succ, List.getElem?_cons_zero] at b3 b4 b5
    by_cases hlt : i < x.l.length
    · have hne : x.l ≠ [] := by intro e; rw [e] at hlt; simp at hlt
      obtain ⟨y, hy⟩ : ∃ y, x.l[i]? = some y := ⟨x.l[i], List.getElem?_eq_getElem hlt⟩
      have hb2 := HB0.out.trans (HBW.out.mono HB0.out.size)
      obtain ⟨b, off, eo, -, hbl, hcs⟩ := (Q1.out.later hb2 (reads_later hb2 h).1) hne
      subst eo
      obtain ⟨cs, hlen, hkey, hrd⟩ := hcs i y hy
      obtain ⟨v0, v1, v2, v3, v4, v5, rfl⟩ := six hlen
      have q0 := hkey 0 v0 rfl
      have q1 := hkey 1 v1 rfl
      have q2 := hkey 2 v2 rfl
      have q3 := hkey 3 v3 rfl
      have q4 := hkey 4 v4 rfl
      have q5 := hkey 5 v5 rfl
      rw [Nat.add_zero] at q0
      have hup := sumZ_up (cnt h).ex x.l i y hy
      have hle2 := sumZ_le (cnt h).ex x.l (i + 1)
      rw [HSA.out] at hle2
      have hcy : (cnt h).ex y ≤ 4000000 := by omega
      have HCALL := hide (I1.out y [v0, v1, v2, v3, v4, v5] wr hrd hcy)
      generalize hC : (cnt h).ex y = C at hcy HCALL
      have HUP : Hid (n + (C : Int) = ((1 + sumZ (cnt h).ex (x.l.take (i + 1)) : Nat) : Int)) := by
        have e1 := HNN.out
        rw [hC] at hup
        show n + (C : Int) = ((1 + sumZ (cnt h).ex (x.l.take (i + 1)) : Nat) : Int)
        rw [e1, hup]
        simp only [Int.natCast_add]
        omega
      clear hcs hy hne hkey hlen hrd hb2 hup hle2 hC
      have hlt2 : (i : Int) < x.l.length := by omega
      go_wp2_with fail
      refine HCALL.out.mono ?_
      rintro e w2 ⟨rfl, hb⟩
      have HB2 := hide hb
      clear hb
      go_wp2
      exact ⟨⟨i + 1, n + C, by omega, by go_num, by first | rfl | go_num, HUP.out, HBW.out.trans (HB2.out.mono HBW.out.size)⟩, by simp [intOf]; omega⟩
    · have hie : i = x.l.length := by omega
      have HN2 : Hid (n = ((1 + SA : Nat) : Int)) := by
        have e1 := HNN.out
        rw [hie, List.take_length, HSA.out] at e1
        exact e1
      have HB2 := hide (HB0.out.trans (HBW.out.mono HB0.out.size))
      have he : ¬ ((i : Int) < x.l.length) := by omega
      clear HNN
      go_wp2
      clear b3 b4 b5
      go_loopw [3, 5] (fun t3 t5 wq => ∃ (j : Nat) (m : Int), j ≤ x.al.length ∧ t5 = .int .i64 j ∧ t3 = .int .i64 m ∧ m = ((1 + SA + sumZ (cnt h).al (x.al.take j) : Nat) : Int) ∧ Below wr.heap.size wr wq) (fun _ t5 _ => x.al.length - (intOf t5).toNat)
      case atStart => exact ⟨0, n, Nat.zero_le _, rfl, rfl, by rw [HN2.out]; simp [sumZ], Below.refl _ _⟩
      case round =>
        obtain ⟨j, m, hj, rfl, rfl, hnn, hbw⟩ := hrel
        have HNN := hide hnn
        have HBQ := hide hbw
        have HXQ := hide ((hbw.block w.heap.size (heap_lt HXR.out)).trans HXR.out)
        have HB3 := hide (HB2.out.trans (hbw.mono HB2.out.size))
        have hle := sumZ_le (cnt h).al x.al j
        rw [HSB.out] at hle
        have hm0 : 0 ≤ m := by omega
        have hm1 : m ≤ 4000001 := by omega
        clear hbw hle hnn
        have b4 := cell_of HXQ.out 4
        have b5 := cell_of HXQ.out 5
        simp only [List.getElem?_toArray, List.getElem?_cons_succ, List.getElem?_cons_zero] at b4 b5
        by_cases hlt : j < x.al.length
        · have hne : x.al ≠ [] := by intro e; rw [e] at hlt; simp at hlt
          obtain ⟨y, hy⟩ : ∃ y, x.al[j]? = some y := ⟨x.al[j], List.getElem?_eq_getElem hlt⟩
          obtain ⟨b, off, eo, -, hbl, hcs⟩ := (Q3.out.later HB3.out (reads_later HB3.out h).2.2) hne
          subst eo
          obtain ⟨cs, hlen, hkey, hrd⟩ := hcs j y hy
          obtain ⟨v0, v1, v2, v3, v4, v5, v6, v7, rfl⟩ := eight hlen
          have q2 := hkey 2 v2 rfl
          have q3 := hkey 3 v3 rfl
          have q4 := hkey 4 v4 rfl
          have q5 := hkey 5 v5 rfl
          have q6 := hkey 6 v6 rfl
          have q7 := hkey 7 v7 rfl
          have hup := sumZ_up (cnt h).al x.al j y hy
          have hle2 := sumZ_le (cnt h).al x.al (j + 1)
          rw [HSB.out] at hle2
          have hcy : (cnt h).al y ≤ 4000000 := by omega
          have HCALL := hide (I3.out y v0 v1 v2 v3 v4 v5 v6 v7 wr hrd hcy)
          generalize hC : (cnt h).al y = C at hcy HCALL
          have HUP : Hid (m + (C : Int) = ((1 + SA + sumZ (cnt h).al (x.al.take (j + 1)) : Nat) : Int)) := by
            have e1 := HNN.out
            rw [hC] at hup
            show m + (C : Int) = ((1 + SA + sumZ (cnt h).al (x.al.take (j + 1)) : Nat) : Int)
            rw [e1, hup]
            simp only [Int.natCast_add]
            omega
          clear hcs hy hne hkey hlen hrd hup hle2 hC
          have hlt2 : (j : Int) < x.al.length := by omega
          go_wp2_with fail
          refine HCALL.out.mono ?_
          rintro e w2 ⟨rfl, hb⟩
          have HB4 := hide hb
          clear hb
          go_wp2
          exact ⟨⟨j + 1, m + C, by omega, by go_num, by first | rfl | go_num, HUP.out, HBQ.out.trans (HB4.out.mono HBQ.out.size)⟩, by simp [intOf]; omega⟩
        · have hje : j = x.al.length := by omega
          have HN3 : Hid (m = ((1 + SA + SB : Nat) : Int)) := by
            have e1 := HNN.out
            rw [hje, List.take_length, HSB.out] at e1
            exact e1
          have hf : ¬ ((j : Int) < x.al.length) := by omega
          clear HNN
          have HCALL := hide (I2.out x.ds o2 c2 wr (Q2.out.later HB3.out (reads_later HB3.out h).2.1) HD.out.1 (by rw [HSC.out]; omega))
          rw [HSC.out] at HCALL
          go_wp2_with fail
          refine HCALL.out.mono ?_
          rintro e w3 ⟨rfl, hb⟩
          have HB5 := hide (HB3.out.trans (hb.mono HB3.out.size))
          clear hb
          go_wp2
          go_ret
          refine ⟨?_, HB5.out⟩
          have e1 := HN3.out
          rw [e1]
          simp only [Int.natCast_add]
          rfl
end Go.Proofs.Ytegcebeaelpjhaj

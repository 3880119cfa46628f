/- The model's count of what is right. -/
import Derived.Test.YteoghpefilghdakGreatDoorYC
namespace Go.Proofs.YteoghpefilghdakGreatDoor
open Go.ChangeShapes Go.WideShapes Go.ChangeAt Go.RowKit

theorem trk_end {f : Tr → Int → Bool} {g : Tr → Nat} {xs : List Tr} {i : Nat} {n d : Int} {a : Bool} {c : Nat} (h : Trk n (a && allZ f (xs.take i) d) (c + sumZ g (xs.take i))) (hi : i < xs.length → 200 < n) : Trk n (a && allZ f xs d) (c + sumZ g xs) := by
  by_cases hl : i < xs.length
  · have := h.stop (b := allZ f (xs.drop i) d) (d := sumZ g (xs.drop i)) (hi hl)
    rw [allZ_split f xs d i, sumZ_split g xs i]
    rw [Bool.and_assoc] at this
    rw [← Nat.add_assoc]
    exact this
  · rw [List.take_of_length_le (by omega)] at h
    exact h
theorem trk_next {f : Tr → Int → Bool} {g : Tr → Nat} {xs : List Tr} {i : Nat} {x : Tr} {n r d : Int} {a : Bool} {c : Nat} (h : Trk n (a && allZ f (xs.take i) d) (c + sumZ g (xs.take i))) (hx : xs[i]? = some x) (hn : n ≤ 200) (hr : Trk r (f x d) (g x)) : Trk (n + r) (a && allZ f (xs.take (i + 1)) d) (c + sumZ g (xs.take (i + 1))) := by
  have := h.add hn hr
  rw [allZ_take f xs d i x hx, sumZ_take g xs i x hx, ← Bool.and_assoc, ← Nat.add_assoc]
  exact this
theorem allZ_false {f : Tr → Int → Bool} {xs : List Tr} {i : Nat} {x : Tr} {d : Int} (hx : xs[i]? = some x) (h : f x d = false) : allZ f xs d = false := by
  unfold allZ
  rw [List.all_eq_false]
  exact ⟨x, List.mem_of_getElem? hx, by rw [h]; simp⟩

def CoEx (h : Nat) : Prop := ∀ (K : Nat → Prop) (x : Tr) (cs : List Value) (w : World) (d : Int), (reads K w h).ex x cs → -2 ≤ d → d ≤ 14 → Calls Tryz.prog 54 #[.agg cs.toArray, .int .i64 d] w fun e w' => ∃ r : Int, e = .returned (.int .i64 r) ∧ Trk r ((okz h).ex x d) ((cnt h).ex x) ∧ 0 ≤ r ∧ r ≤ 1000 + 201 * (14 - d) ∧ Below w.heap.size w w'
def CoAl (h : Nat) : Prop := ∀ (K : Nat → Prop) (x : Tr) (v0 v1 v2 v3 v4 v5 v6 v7 : Value) (w : World) (d : Int), (reads K w h).al x [v0, v1, v2, v3, v4, v5, v6, v7] → -2 ≤ d → d ≤ 14 → Calls Tryz.prog 54 #[.agg #[v2, v3, v4, v5, v6, v7], .int .i64 d] w fun e w' => ∃ r : Int, e = .returned (.int .i64 r) ∧ Trk r ((okz h).al x d) ((cnt h).al x) ∧ 0 ≤ r ∧ r ≤ 1000 + 201 * (14 - d) ∧ Below w.heap.size w w'
def CoDs (h : Nat) : Prop := ∀ (K : Nat → Prop) (xs : List Tr) (o : Option Addr) (c : Nat) (w : World) (m d : Int), RowOf K w (reads K w h).de 9 o xs → xs.length ≤ maxLen → 0 ≤ m → m ≤ 12 → -2 ≤ d → d ≤ 13 → Calls Tryz.prog 26 #[.slice o xs.length c, .int .i64 m, .int .i64 d] w fun e w' => ∃ r : Int, e = .returned (.int .i64 r) ∧ Trk r (decsB (okz h).de xs m d) (sumZ (cnt h).de xs) ∧ 0 ≤ r ∧ r ≤ 1000 + 201 * (14 - d) ∧ Below w.heap.size w w'

theorem coAl_step {h : Nat} (i1 : CoEx h) : CoAl (h + 1) := by
  intro K x v0 v1 v2 v3 v4 v5 v6 v7 w d hr h0 h1
  obtain ⟨-, -, -, -, y, o1, c1, ce, hy, he, hs, hl, q1, hce, q2⟩ := hr
  obtain ⟨a0, a1, a2, a3, a4, a5, rfl⟩ := six hce
  simp only [List.cons_append, List.nil_append, List.cons.injEq, and_true] at he
  obtain ⟨-, -, rfl, rfl, rfl, rfl, rfl, rfl⟩ := he
  refine (i1 K y _ w d q2 h0 h1).mono ?_
  rintro e w' ⟨r, he, ht, hr⟩
  refine ⟨r, he, ?_, hr⟩
  have e1 : (okz (h + 1)).al x d = (okz h).ex y d := by show allZ (okz h).ex x.l d = _; rw [hy]; simp [allZ]
  have e2 : (cnt (h + 1)).al x = (cnt h).ex y := by show sumZ (cnt h).ex x.l = _; rw [hy]; simp [sumZ]
  rw [e1, e2]
  exact ht

set_option maxHeartbeats 2000000 in
set_option maxRecDepth 100000 in
theorem l3Count_step {h : Nat} (i1 : CoEx h) (i2 : CoDs h) (i3 : CoAl h) : CoEx (h + 1) := by
  intro K x cs w d hr h0 h1
  have hr2 := hr
  have hform := ex_form hr
  obtain ⟨-, o1, c1, o2, c2, o3, c3, rfl, hs, hl, hd, ha, q1, q2, q3⟩ := hr
  have I1 := hide i1
  have I2 := hide i2
  have I3 := hide i3
  have Q1 := hide q1
  have Q2 := hide q2
  have Q3 := hide q3
  have HR := hide hr2
  have HD := hide hd
  have hl2 : x.l.length ≤ 9223372036854775807 := hl.1
  have hd2 : x.ds.length ≤ 9223372036854775807 := hd.1
  have ha2 : x.al.length ≤ 9223372036854775807 := ha.1
  clear i1 i2 i3 q1 q2 q3 hr2 hform hs hl hd ha
  have HB0 : Hid (Below w.heap.size w (w.alloc (.cells #[.int .i64 x.k, .string x.s, .int .i64 x.n, .slice o1 x.l.length c1, .slice o2 x.ds.length c2, .slice o3 x.al.length c3] 47))) := (Below.refl _ w).alloc (Nat.le_refl _) _
  have HX0 : Hid ((w.alloc (.cells #[.int .i64 x.k, .string x.s, .int .i64 x.n, .slice o1 x.l.length c1, .slice o2 x.ds.length c2, .slice o3 x.al.length c3] 47)).heap[w.heap.size]? = some (.cells #[.int .i64 x.k, .string x.s, .int .i64 x.n, .slice o1 x.l.length c1, .slice o2 x.ds.length c2, .slice o3 x.al.length c3] 47 (0, 0))) := heap_alloc_new w _
  by_cases hdeep : 12 < d
  · go_enter Tryz.func54, Tryz.ntmps54
    go_wp2
    go_ret
    refine ⟨1000, rfl, ?_, by omega, by omega, HB0.out⟩
    have : (okz (h + 1)).ex x d = false := by
      show (decide (d ≤ 12) && _) = false
      rw [decide_eq_false (by omega)]
      rfl
    rw [this]
    exact Trk.bad (by omega)
  have HOK : Hid ((okz (h + 1)).ex x d = (hereB x && (allZ (okz h).ex x.l (d + 1) && (allZ (fun a d => altB a && (okz h).al a d) x.al (d + 1) && (decide (x.k ≠ 6) || decsB (okz h).de x.ds 6 (d + 1)))))) := by
    show (decide (d ≤ 12) && _) = _
    rw [decide_eq_true (by omega), Bool.true_and]
  have HCN : Hid ((cnt (h + 1)).ex x = 1 + sumZ (cnt h).ex x.l + sumZ (cnt h).al x.al + sumZ (cnt h).de x.ds) := rfl
  cases hh : hereB x
  · have HH := hide hh
    clear hh
    go_enter Tryz.func54, Tryz.ntmps54
    go_wp2_with fail
    refine (l3Here_any ((reads_later HB0.out (h + 1)).1 _ _ HR.out)).mono ?_
    rintro e w1 ⟨rfl, hb⟩
    rw [HH.out]
    have HB1 := hide (HB0.out.trans (hb.mono HB0.out.size))
    clear hb
    go_wp2
    go_ret
    refine ⟨1000, rfl, ?_, by omega, by omega, HB1.out⟩
    rw [HOK.out, HH.out]
    exact Trk.bad (by omega)
  have HH := hide hh
  clear hh
  go_enter Tryz.func54, Tryz.ntmps54
  go_wp2_with fail
  refine (l3Here_any ((reads_later HB0.out (h + 1)).1 _ _ HR.out)).mono ?_
  rintro e w1 ⟨rfl, hb⟩
  rw [HH.out]
  have HB1 := hide (HB0.out.trans (hb.mono HB0.out.size))
  have HX1 := hide ((hb.block w.heap.size (heap_lt HX0.out)).trans HX0.out)
  clear hb
  go_wp2
  go_loopw [5, 6] (fun t5 t6 wr => ∃ (i : Nat) (n : Int), i ≤ x.l.length ∧ t6 = .int .i64 i ∧ t5 = .int .i64 n ∧ Trk n (true && allZ (okz h).ex (x.l.take i) (d + 1)) (1 + sumZ (cnt h).ex (x.l.take i)) ∧ 0 ≤ n ∧ n ≤ 1000 + 201 * (14 - d) ∧ Below w1.heap.size w1 wr) (fun _ t6 _ => x.l.length - (intOf t6).toNat)
  case atStart => exact ⟨0, 1, Nat.zero_le _, rfl, rfl, Or.inl ⟨rfl, by simp [sumZ], by simp [sumZ]⟩, by omega, by omega, Below.refl _ _⟩
  case round =>
    obtain ⟨i, n, hi, rfl, rfl, htk, hn0, hn1, hbw⟩ := hrel
    have HTK := hide htk
    have HBW := hide hbw
    have HXR := hide ((hbw.block w.heap.size (heap_lt HX1.out)).trans HX1.out)
    clear htk hbw
    have b0 := cell_of HXR.out 0
    have b3 := cell_of HXR.out 3
    have b4 := cell_of HXR.out 4
    have b5 := cell_of HXR.out 5
    simp only [List.getElem?_toArray, List.getElem?_cons_succ, List.getElem?_cons_zero] at b0 b3 b4 b5
    by_cases hgo : i < x.l.length ∧ n ≤ 200
    · obtain ⟨hlt, hn⟩ := hgo
      have hne : x.l ≠ [] := by intro e; rw [e] at hlt; simp at hlt
      obtain ⟨y, hy⟩ : ∃ y, x.l[i]? = some y := ⟨x.l[i], List.getElem?_eq_getElem hlt⟩
      have hb2 := HB1.out.trans (HBW.out.mono HB1.out.size)
      obtain ⟨b, off, eo, -, hbl, hcs⟩ := (Q1.out.later hb2 (reads_later hb2 h).1) hne
      subst eo
      obtain ⟨cs, hlen, hkey, hrd⟩ := hcs i y hy
      obtain ⟨v0, v1, v2, v3, v4, v5, rfl⟩ := six hlen
      have q0 := hkey 0 v0 rfl
      have q1 := hkey 1 v1 rfl
      have q2 := hkey 2 v2 rfl
      have q3 := hkey 3 v3 rfl
      have q4 := hkey 4 v4 rfl
      have q5 := hkey 5 v5 rfl
      rw [Nat.add_zero] at q0
      have HY := hide hy
      have HRD := hide hrd
      clear hcs hy hne hkey hlen hrd hb2
      have hlt2 : (i : Int) < x.l.length := by omega
      go_wp2_with fail
      refine (I1.out K y _ _ (d + 1) HRD.out (by omega) (by omega)).mono ?_
      rintro e w2 ⟨r, rfl, hr, hr0, hr1, hb⟩
      have HRT := hide hr
      have HB2 := hide hb
      clear hr hb
      go_wp2
      exact ⟨⟨i + 1, n + r, by omega, by go_num, by first | rfl | go_num, trk_next HTK.out HY.out hn HRT.out, by omega, by omega, HBW.out.trans (HB2.out.mono HBW.out.size)⟩, by simp [intOf]; omega⟩
    · have HT1 := hide (trk_end HTK.out (fun _ => by omega))
      have HB2 := hide (HB1.out.trans (HBW.out.mono HB1.out.size))
      clear HTK
      rcases (show ¬ ((i : Int) < x.l.length) ∨ ((i : Int) < x.l.length ∧ ¬ n ≤ 200) by omega) with he | ⟨he, he2⟩
      all_goals
        clear hgo
        go_wp2
        clear b0 b3 b4 b5
        go_loopw [5, 7] (fun t5 t7 wq => ∃ (j : Nat) (m : Int), j ≤ x.al.length ∧ t7 = .int .i64 j ∧ t5 = .int .i64 m ∧ Trk m ((true && allZ (okz h).ex x.l (d + 1)) && allZ (fun a d => altB a && (okz h).al a d) (x.al.take j) (d + 1)) (1 + sumZ (cnt h).ex x.l + sumZ (cnt h).al (x.al.take j)) ∧ 0 ≤ m ∧ m ≤ 1000 + 201 * (14 - d) ∧ Below wr.heap.size wr wq) (fun _ t7 _ => x.al.length - (intOf t7).toNat)
        case atStart => exact ⟨0, n, Nat.zero_le _, rfl, rfl, HT1.out.pass (by simp [allZ]) (by simp [sumZ]), hn0, hn1, Below.refl _ _⟩
        case round =>
          obtain ⟨j, m, hj, rfl, rfl, htk, hm0, hm1, hbw⟩ := hrel
          have HTK := hide htk
          have HBQ := hide hbw
          have HXQ := hide ((hbw.block w.heap.size (heap_lt HXR.out)).trans HXR.out)
          have HB3 := hide (HB2.out.trans (hbw.mono HB2.out.size))
          clear htk hbw
          have b0 := cell_of HXQ.out 0
          have b4 := cell_of HXQ.out 4
          have b5 := cell_of HXQ.out 5
          simp only [List.getElem?_toArray, List.getElem?_cons_succ, List.getElem?_cons_zero] at b0 b4 b5
          by_cases hgo : j < x.al.length ∧ m ≤ 200
          · obtain ⟨hlt, hm⟩ := hgo
            have hne : x.al ≠ [] := by intro e; rw [e] at hlt; simp at hlt
            obtain ⟨y, hy⟩ : ∃ y, x.al[j]? = some y := ⟨x.al[j], List.getElem?_eq_getElem hlt⟩
            obtain ⟨b, off, eo, -, hbl, hcs⟩ := (Q3.out.later HB3.out (reads_later HB3.out h).2.2) hne
            subst eo
            obtain ⟨cs, hlen, hkey, hrd⟩ := hcs j y hy
            obtain ⟨v0, v1, v2, v3, v4, v5, v6, v7, rfl⟩ := eight hlen
            have q0 := hkey 0 v0 rfl
            have q1 := hkey 1 v1 rfl
            have q2 := hkey 2 v2 rfl
            have q3 := hkey 3 v3 rfl
            have q4 := hkey 4 v4 rfl
            have q5 := hkey 5 v5 rfl
            have q6 := hkey 6 v6 rfl
            have q7 := hkey 7 v7 rfl
            rw [Nat.add_zero] at q0
            have HY := hide hy
            have HRD := hide hrd
            clear hcs hy hne hkey hlen hrd
            have hlt2 : (j : Int) < x.al.length := by omega
            cases hab : altB y
            · have HAB := hide hab
              clear hab
              go_wp2_with fail
              refine (l3Alt_any HRD.out).mono ?_
              rintro e w2 ⟨rfl, hb⟩
              rw [HAB.out]
              have HB4 := hide (HB3.out.trans (hb.mono HB3.out.size))
              clear hb
              go_wp2
              go_ret
              refine ⟨1000, rfl, ?_, by omega, by omega, HB4.out⟩
              rw [HOK.out, allZ_false (f := fun a d => altB a && (okz h).al a d) HY.out (by show (altB y && _) = false; rw [HAB.out]; rfl)]
              simp only [Bool.false_and, Bool.and_false]
              exact Trk.bad (by omega)
            · have HAB := hide hab
              clear hab
              go_wp2_with fail
              refine (l3Alt_any HRD.out).mono ?_
              rintro e w2 ⟨rfl, hb⟩
              rw [HAB.out]
              have HB4 := hide hb
              have HX4 := hide ((hb.block w.heap.size (heap_lt HXQ.out)).trans HXQ.out)
              have r2 : w2.cell? ⟨b, off + j * 8 + 2, none⟩ = some v2 := (hb.cell (p := ⟨b, off + j * 8 + 2, none⟩) hbl).trans q2
              have r3 : w2.cell? ⟨b, off + j * 8 + 3, none⟩ = some v3 := (hb.cell (p := ⟨b, off + j * 8 + 3, none⟩) hbl).trans q3
              have r4 : w2.cell? ⟨b, off + j * 8 + 4, none⟩ = some v4 := (hb.cell (p := ⟨b, off + j * 8 + 4, none⟩) hbl).trans q4
              have r5 : w2.cell? ⟨b, off + j * 8 + 5, none⟩ = some v5 := (hb.cell (p := ⟨b, off + j * 8 + 5, none⟩) hbl).trans q5
              have r6 : w2.cell? ⟨b, off + j * 8 + 6, none⟩ = some v6 := (hb.cell (p := ⟨b, off + j * 8 + 6, none⟩) hbl).trans q6
              have r7 : w2.cell? ⟨b, off + j * 8 + 7, none⟩ = some v7 := (hb.cell (p := ⟨b, off + j * 8 + 7, none⟩) hbl).trans q7
              have b5w := cell_of HX4.out 5
              simp only [List.getElem?_toArray, List.getElem?_cons_succ, List.getElem?_cons_zero] at b5w
              have HRD2 := hide ((reads_later hb h).2.2 _ _ HRD.out)
              clear hb
              go_wp2_with fail
              refine (I3.out K y v0 v1 v2 v3 v4 v5 v6 v7 _ (d + 1) HRD2.out (by omega) (by omega)).mono ?_
              rintro e w3 ⟨r, rfl, hr, hr0, hr1, hb⟩
              have HRT := hide hr
              have HB5 := hide (HB4.out.trans (hb.mono HB4.out.size))
              clear hr hb
              go_wp2
              refine ⟨⟨j + 1, m + r, by omega, by go_num, by first | rfl | go_num, trk_next HTK.out HY.out hm ?_, by omega, by omega, HBQ.out.trans (HB5.out.mono HBQ.out.size)⟩, by simp [intOf]; omega⟩
              show Trk r (altB y && (okz h).al y (d + 1)) ((cnt h).al y)
              rw [HAB.out, Bool.true_and]
              exact HRT.out
          · have HT2 := hide (trk_end HTK.out (fun _ => by omega))
            clear HTK
            rcases (show ¬ ((j : Int) < x.al.length) ∨ ((j : Int) < x.al.length ∧ ¬ m ≤ 200) by omega) with hf | ⟨hf, hf2⟩
            all_goals
              clear hgo
              by_cases hk : x.k = 6
              · have hk2 : (x.k == 6) = true := by simpa using hk
                have HK := hide hk
                clear hk
                by_cases hm : m ≤ 200
                · first
                  | (exact absurd hm hf2)
                  | (go_wp2_with fail
                     refine (I2.out K x.ds o2 c2 _ 6 (d + 1) (Q2.out.later HB3.out (reads_later HB3.out h).2.1) HD.out.1 (by omega) (by omega) (by omega) (by omega)).mono ?_
                     rintro e w3 ⟨r, rfl, hr, hr0, hr1, hb⟩
                     have HRT := hide hr
                     have HB5 := hide (HB3.out.trans (hb.mono HB3.out.size))
                     clear hr hb
                     go_wp2
                     go_ret
                     refine ⟨m + r, rfl, ?_, by omega, by omega, HB5.out⟩
                     have key := HT2.out.add hm HRT.out
                     rw [HOK.out, HH.out, HCN.out]
                     refine key.pass ?_ rfl
                     have e6 : decide (x.k ≠ 6) = false := by rw [HK.out]; rfl
                     rw [e6]
                     cases allZ (okz h).ex x.l (d + 1) <;> simp)
                · go_wp2
                  go_ret
                  refine ⟨m, rfl, ?_, by omega, by omega, HB3.out⟩
                  have key := HT2.out.stop (b := decide (x.k ≠ 6) || decsB (okz h).de x.ds 6 (d + 1)) (d := sumZ (cnt h).de x.ds) (by omega)
                  rw [HOK.out, HH.out, HCN.out]
                  refine key.pass ?_ rfl
                  cases allZ (okz h).ex x.l (d + 1) <;> simp
              · have hk2 : (x.k == 6) = false := by simpa using hk
                have HK := hide hk
                clear hk
                go_wp2
                go_ret
                refine ⟨m, rfl, ?_, by omega, by omega, HB3.out⟩
                have hds : x.ds = [] := by
                  have hh := HH.out
                  unfold hereB shapeE at hh
                  simp only [Bool.and_eq_true, Bool.or_eq_true, decide_eq_true_eq] at hh
                  rcases hh.1.1.1.2 with h6 | h6
                  · exact absurd h6 HK.out
                  · exact List.length_eq_zero_iff.1 h6
                have e6 : decide (x.k ≠ 6) = true := by simpa using HK.out
                rw [HOK.out, HH.out, HCN.out, e6, hds]
                refine HT2.out.pass ?_ ?_
                · cases allZ (okz h).ex x.l (d + 1) <;> simp
                · simp [sumZ]
end Go.Proofs.YteoghpefilghdakGreatDoor

/- Made of YD, YE, PH. -/
import Derived.Test.YtlaeenfeajkcfalGreatYC
import Derived.Deep.QuietTactic
import Derived.BigQuiet
import Derived.Test.YtlaeenfeajkcfalGreatSO
namespace Go.Proofs.YtlaeenfeajkcfalGreat
open Go.ChangeShapes Go.WideShapes Go.ChangeAt Go.RowKit

theorem trk_end {f : Tr → Int → Bool} {g : Tr → Nat} {xs : List Tr} {i : Nat} {n d : Int} {a : Bool} {c : Nat} (h : Trk n (a && allZ f (xs.take i) d) (c + sumZ g (xs.take i))) (hi : i < xs.length → 200 < n) : Trk n (a && allZ f xs d) (c + sumZ g xs) := by
  by_cases hl : i < xs.length
  · have := h.stop (b := allZ f (xs.drop i) d) (d := sumZ g (xs.drop i)) (hi hl)
    rw [allZ_split f xs d i, sumZ_split g xs i]
    rw [Bool.and_assoc] at this
    rw [← Nat.add_assoc]
    exact this
  · rw [List.take_of_length_le (by omega)] at h
    exact h
theorem trk_next {f : Tr → Int → Bool} {g : Tr → Nat} {xs : List Tr} {i : Nat} {x : Tr} {n r d : Int} {a : Bool} {c : Nat} (h : Trk n (a && allZ f (xs.take i) d) (c + sumZ g (xs.take i))) (hx : xs[i]? = some x) (hn : n ≤ 200) (hr : Trk r (f x d) (g x)) : Trk (n + r) (a && allZ f (xs.take (i + 1)) d) (c + sumZ g (xs.take (i + 1))) := by
  have := h.add hn hr
  rw [allZ_take f xs d i x hx, sumZ_take g xs i x hx, ← Bool.and_assoc, ← Nat.add_assoc]
  exact this
theorem allZ_false {f : Tr → Int → Bool} {xs : List Tr} {i : Nat} {x : Tr} {d : Int} (hx : xs[i]? = some x) (h : f x d = false) : allZ f xs d = false := by
  unfold allZ
  rw [List.all_eq_false]
  exact ⟨x, List.mem_of_getElem? hx, by rw [h]; simp⟩

def CoEx (h : Nat) : Prop := ∀ (K : Nat → Prop) (x : Tr) (cs : List Value) (w : World) (d : Int), (reads K w h).ex x cs → -2 ≤ d → d ≤ 14 → Calls Tryz.prog 57 #[.agg cs.toArray, .int .i64 d] w fun e w' => ∃ r : Int, e = .returned (.int .i64 r) ∧ Trk r ((okz h).ex x d) ((cnt h).ex x) ∧ 0 ≤ r ∧ r ≤ 1000 + 201 * (14 - d) ∧ Below w.heap.size w w'
def CoAl (h : Nat) : Prop := ∀ (K : Nat → Prop) (x : Tr) (v0 v1 v2 v3 v4 v5 v6 v7 : Value) (w : World) (d : Int), (reads K w h).al x [v0, v1, v2, v3, v4, v5, v6, v7] → -2 ≤ d → d ≤ 14 → Calls Tryz.prog 57 #[.agg #[v2, v3, v4, v5, v6, v7], .int .i64 d] w fun e w' => ∃ r : Int, e = .returned (.int .i64 r) ∧ Trk r ((okz h).al x d) ((cnt h).al x) ∧ 0 ≤ r ∧ r ≤ 1000 + 201 * (14 - d) ∧ Below w.heap.size w w'
def CoDs (h : Nat) : Prop := ∀ (K : Nat → Prop) (xs : List Tr) (o : Option Addr) (c : Nat) (w : World) (m d : Int), RowOf K w (reads K w h).de 9 o xs → xs.length ≤ maxLen → 0 ≤ m → m ≤ 12 → -2 ≤ d → d ≤ 13 → Calls Tryz.prog 27 #[.slice o xs.length c, .int .i64 m, .int .i64 d] w fun e w' => ∃ r : Int, e = .returned (.int .i64 r) ∧ Trk r (decsB (okz h).de xs m d) (sumZ (cnt h).de xs) ∧ 0 ≤ r ∧ r ≤ 1000 + 201 * (14 - d) ∧ Below w.heap.size w w'

theorem coAl_step {h : Nat} (i1 : CoEx h) : CoAl (h + 1) := by
  intro K x v0 v1 v2 v3 v4 v5 v6 v7 w d hr h0 h1
  obtain ⟨-, -, -, -, y, o1, c1, ce, hy, he, hs, hl, q1, hce, q2⟩ := hr
  obtain ⟨a0, a1, a2, a3, a4, a5, rfl⟩ := six hce
  simp only [List.cons_append, List.nil_append, List.cons.injEq, and_true] at he
  obtain ⟨-, -, rfl, rfl, rfl, rfl, rfl, rfl⟩ := he
  refine (i1 K y _ w d q2 h0 h1).mono ?_
  rintro e w' ⟨r, he, ht, hr⟩
  refine ⟨r, he, ?_, hr⟩
  have e1 : (okz (h + 1)).al x d = (okz h).ex y d := by show allZ (okz h).ex x.l d = _; rw [hy]; simp [allZ]
  have e2 : (cnt (h + 1)).al x = (cnt h).ex y := by show sumZ (cnt h).ex x.l = _; rw [hy]; simp [sumZ]
  rw [e1, e2]
  exact ht

set_option maxHeartbeats 2000000 in
set_option maxRecDepth 100000 in
theorem l3Count_step {h : Nat} (i1 : CoEx h) (i2 : CoDs h) (i3 : CoAl h) : CoEx (h + 1) := by
  intro K x cs w d hr h0 h1
  have hr2 := hr
  have hform := ex_form hr
  obtain ⟨-, o1, c1, o2, c2, o3, c3, rfl, hs, hl, hd, ha, q1, q2, q3⟩ := hr
  have I1 := hide i1
  have I2 := hide i2
  have I3 := hide i3
  have Q1 := hide q1
  have Q2 := hide q2
  have Q3 := hide q3
  have HR := hide hr2
  have HD := hide hd
  have hl2 : x.l.length ≤ 9223372036854775807 := hl.1
  have hd2 : x.ds.length ≤ 9223372036854775807 := hd.1
  have ha2 : x.al.length ≤ 9223372036854775807 := ha.1
  clear i1 i2 i3 q1 q2 q3 hr2 hform hs hl hd ha
  have HB0 : Hid (Below w.heap.size w (w.alloc (.cells #[.int .i64 x.k, .string x.s, .int .i64 x.n, .slice o1 x.l.length c1, .slice o2 x.ds.length c2, .slice o3 x.al.length c3] 75))) := (Below.refl _ w).alloc (Nat.le_refl _) _
  have HX0 : Hid ((w.alloc (.cells #[.int .i64 x.k, .string x.s, .int .i64 x.n, .slice o1 x.l.length c1, .slice o2 x.ds.length c2, .slice o3 x.al.length c3] 75)).heap[w.heap.size]? = some (.cells #[.int .i64 x.k, .string x.s, .int .i64 x.n, .slice o1 x.l.length c1, .slice o2 x.ds.length c2, .slice o3 x.al.length c3] 75 (0, 0))) := heap_alloc_new w _
  by_cases hdeep : 12 < d
  · go_enter Tryz.func57, Tryz.ntmps57
    go_wp2
    go_ret
    refine ⟨1000, rfl, ?_, by omega, by omega, HB0.out⟩
    have : (okz (h + 1)).ex x d = false := by
      show (decide (d ≤ 12) && _) = false
      rw [decide_eq_false (by omega)]
      rfl
    rw [this]
    exact Trk.bad (by omega)
  have HOK : Hid ((okz (h + 1)).ex x d = (hereB x && (allZ (okz h).ex x.l (d + 1) && (allZ (fun a d => altB a && (okz h).al a d) x.al (d + 1) && (decide (x.k ≠ 6) || decsB (okz h).de x.ds 6 (d + 1)))))) := by
    show (decide (d ≤ 12) && _) = _
    rw [decide_eq_true (by omega), Bool.true_and]
  have HCN : Hid ((cnt (h + 1)).ex x = 1 + sumZ (cnt h).ex x.l + sumZ (cnt h).al x.al + sumZ (cnt h).de x.ds) := rfl
  cases hh : hereB x
  · have HH := hide hh
    clear hh
    go_enter Tryz.func57, Tryz.ntmps57
    go_wp2_with fail
    refine (l3Here_any ((reads_later HB0.out (h + 1)).1 _ _ HR.out)).mono ?_
    rintro e w1 ⟨rfl, hb⟩
    rw [HH.out]
    have HB1 := hide (HB0.out.trans (hb.mono HB0.out.size))
    clear hb
    go_wp2
    go_ret
    refine ⟨1000, rfl, ?_, by omega, by omega, HB1.out⟩
    rw [HOK.out, HH.out]
    exact Trk.bad (by omega)
  have HH := hide hh
  clear hh
  go_enter Tryz.func57, Tryz.ntmps57
  go_wp2_with fail
  refine (l3Here_any ((reads_later HB0.out (h + 1)).1 _ _ HR.out)).mono ?_
  rintro e w1 ⟨rfl, hb⟩
  rw [HH.out]
  have HB1 := hide (HB0.out.trans (hb.mono HB0.out.size))
  have HX1 := hide ((hb.block w.heap.size (heap_lt HX0.out)).trans HX0.out)
  clear hb
  go_wp2
  go_loopw [5, 6] (fun t5 t6 wr => ∃ (i : Nat) (n : Int), i ≤ x.l.length ∧ t6 = .int .i64 i ∧ t5 = .int .i64 n ∧ Trk n (true && allZ (okz h).ex (x.l.take i) (d + 1)) (1 + sumZ (cnt h).ex (x.l.take i)) ∧ 0 ≤ n ∧ n ≤ 1000 + 201 * (14 - d) ∧ Below w1.heap.size w1 wr) (fun _ t6 _ => x.l.length - (intOf t6).toNat)
  case atStart => exact ⟨0, 1, Nat.zero_le _, rfl, rfl, Or.inl ⟨rfl, by simp [sumZ], by simp [sumZ]⟩, by omega, by omega, Below.refl _ _⟩
  case round =>
    obtain ⟨i, n, hi, rfl, rfl, htk, hn0, hn1, hbw⟩ := hrel
    have HTK := hide htk
    have HBW := hide hbw
    have HXR := hide ((hbw.block w.heap.size (heap_lt HX1.out)).trans HX1.out)
    clear htk hbw
    have b0 := cell_of HXR.out 0
    have b3 := cell_of HXR.out 3
    have b4 := cell_of HXR.out 4
    have b5 := cell_of HXR.out 5
    simp only [List.getElem?_toArray, List.getElem?_cons_succ, List.getElem?_cons_zero] at b0 b3 b4 b5
    by_cases hgo : i < x.l.length ∧ n ≤ 200
    · obtain ⟨hlt, hn⟩ := hgo
      have hne : x.l ≠ [] := by intro e; rw [e] at hlt; simp at hlt
      obtain ⟨y, hy⟩ : ∃ y, x.l[i]? = some y := ⟨x.l[i], List.getElem?_eq_getElem hlt⟩
      have hb2 := HB1.out.trans (HBW.out.mono HB1.out.size)
      obtain ⟨b, off, eo, -, hbl, hcs⟩ := (Q1.out.later hb2 (reads_later hb2 h).1) hne
      subst eo
      obtain ⟨cs, hlen, hkey, hrd⟩ := hcs i y hy
      obtain ⟨v0, v1, v2, v3, v4, v5, rfl⟩ := six hlen
      have q0 := hkey 0 v0 rfl
      have q1 := hkey 1 v1 rfl
      have q2 := hkey 2 v2 rfl
      have q3 := hkey 3 v3 rfl
      have q4 := hkey 4 v4 rfl
      have q5 := hkey 5 v5 rfl
      rw [Nat.add_zero] at q0
      have HY := hide hy
      have HRD := hide hrd
      clear hcs hy hne hkey hlen hrd hb2
      have hlt2 : (i : Int) < x.l.length := by omega
      go_wp2_with fail
      refine (I1.out K y _ _ (d + 1) HRD.out (by omega) (by omega)).mono ?_
      rintro e w2 ⟨r, rfl, hr, hr0, hr1, hb⟩
      have HRT := hide hr
      have HB2 := hide hb
      clear hr hb
      go_wp2
      exact ⟨⟨i + 1, n + r, by omega, by go_num, by first | rfl | go_num, trk_next HTK.out HY.out hn HRT.out, by omega, by omega, HBW.out.trans (HB2.out.mono HBW.out.size)⟩, by simp [intOf]; omega⟩
    · have HT1 := hide (trk_end HTK.out (fun _ => by omega))
      have HB2 := hide (HB1.out.trans (HBW.out.mono HB1.out.size))
      clear HTK
      rcases (show ¬ ((i : Int) < x.l.length) ∨ ((i : Int) < x.l.length ∧ ¬ n ≤ 200) by omega) with he | ⟨he, he2⟩
      all_goals
        clear hgo
        go_wp2
        clear b0 b3 b4 b5
        go_loopw [5, 7] (fun t5 t7 wq => ∃ (j : Nat) (m : Int), j ≤ x.al.length ∧ t7 = .int .i64 j ∧ t5 = .int .i64 m ∧ Trk m ((true && allZ (okz h).ex x.l (d + 1)) && allZ (fun a d => altB a && (okz h).al a d) (x.al.take j) (d + 1)) (1 + sumZ (cnt h).ex x.l + sumZ (cnt h).al (x.al.take j)) ∧ 0 ≤ m ∧ m ≤ 1000 + 201 * (14 - d) ∧ Below wr.heap.size wr wq) (fun _ t7 _ => x.al.length - (intOf t7).toNat)
        case atStart => exact ⟨0, n, Nat.zero_le _, rfl, rfl, HT1.out.pass (by simp [allZ]) (by simp [sumZ]), hn0, hn1, Below.refl _ _⟩
        case round =>
          obtain ⟨j, m, hj, rfl, rfl, htk, hm0, hm1, hbw⟩ := hrel
          have HTK := hide htk
          have HBQ := hide hbw
          have HXQ := hide ((hbw.block w.heap.size (heap_lt HXR.out)).trans HXR.out)
          have HB3 := hide (HB2.out.trans (hbw.mono HB2.out.size))
          clear htk hbw
          have b0 := cell_of HXQ.out 0
          have b4 := cell_of HXQ.out 4
          have b5 := cell_of HXQ.out 5
          simp only [List.getElem?_toArray, List.getElem?_cons_succ, List.getElem?_cons_zero] at b0 b4 b5
          by_cases hgo : j < x.al.length ∧ m ≤ 200
          · obtain ⟨hlt, hm⟩ := hgo
            have hne : x.al ≠ [] := by intro e; rw [e] at hlt; simp at hlt
            obtain ⟨y, hy⟩ : ∃ y, x.al[j]? = some y := ⟨x.al[j], List.getElem?_eq_getElem hlt⟩
            obtain ⟨b, off, eo, -, hbl, hcs⟩ := (Q3.out.later HB3.out (reads_later HB3.out h).2.2) hne
            subst eo
            obtain ⟨cs, hlen, hkey, hrd⟩ := hcs j y hy
            obtain ⟨v0, v1, v2, v3, v4, v5, v6, v7, rfl⟩ := eight hlen
            have q0 := hkey 0 v0 rfl
            have q1 := hkey 1 v1 rfl
            have q2 := hkey 2 v2 rfl
            have q3 := hkey 3 v3 rfl
            have q4 := hkey 4 v4 rfl
            have q5 := hkey 5 v5 rfl
            have q6 := hkey 6 v6 rfl
            have q7 := hkey 7 v7 rfl
            rw [Nat.add_zero] at q0
            have HY := hide hy
            have HRD := hide hrd
            clear hcs hy hne hkey hlen hrd
            have hlt2 : (j : Int) < x.al.length := by omega
            cases hab : altB y
            · have HAB := hide hab
              clear hab
              go_wp2_with fail
              refine (l3Alt_any HRD.out).mono ?_
              rintro e w2 ⟨rfl, hb⟩
              rw [HAB.out]
              have HB4 := hide (HB3.out.trans (hb.mono HB3.out.size))
              clear hb
              go_wp2
              go_ret
              refine ⟨1000, rfl, ?_, by omega, by omega, HB4.out⟩
              rw [HOK.out, allZ_false (f := fun a d => altB a && (okz h).al a d) HY.out (by show (altB y && _) = false; rw [HAB.out]; rfl)]
              simp only [Bool.false_and, Bool.and_false]
              exact Trk.bad (by omega)
            · have HAB := hide hab
              clear hab
              go_wp2_with fail
              refine (l3Alt_any HRD.out).mono ?_
              rintro e w2 ⟨rfl, hb⟩
              rw [HAB.out]
              have HB4 := hide hb
              have HX4 := hide ((hb.block w.heap.size (heap_lt HXQ.out)).trans HXQ.out)
              have r2 : w2.cell? ⟨b, off + j * 8 + 2, none⟩ = some v2 := (hb.cell (p := ⟨b, off + j * 8 + 2, none⟩) hbl).trans q2
              have r3 : w2.cell? ⟨b, off + j * 8 + 3, none⟩ = some v3 := (hb.cell (p := ⟨b, off + j * 8 + 3, none⟩) hbl).trans q3
              have r4 : w2.cell? ⟨b, off + j * 8 + 4, none⟩ = some v4 := (hb.cell (p := ⟨b, off + j * 8 + 4, none⟩) hbl).trans q4
              have r5 : w2.cell? ⟨b, off + j * 8 + 5, none⟩ = some v5 := (hb.cell (p := ⟨b, off + j * 8 + 5, none⟩) hbl).trans q5
              have r6 : w2.cell? ⟨b, off + j * 8 + 6, none⟩ = some v6 := (hb.cell (p := ⟨b, off + j * 8 + 6, none⟩) hbl).trans q6
              have r7 : w2.cell? ⟨b, off + j * 8 + 7, none⟩ = some v7 := (hb.cell (p := ⟨b, off + j * 8 + 7, none⟩) hbl).trans q7
              have b5w := cell_of HX4.out 5
              simp only [List.getElem?_toArray, List.getElem?_cons_succ, List.getElem?_cons_zero] at b5w
              have HRD2 := hide ((reads_later hb h).2.2 _ _ HRD.out)
              clear hb
              go_wp2_with fail
              refine (I3.out K y v0 v1 v2 v3 v4 v5 v6 v7 _ (d + 1) HRD2.out (by omega) (by omega)).mono ?_
              rintro e w3 ⟨r, rfl, hr, hr0, hr1, hb⟩
              have HRT := hide hr
              have HB5 := hide (HB4.out.trans (hb.mono HB4.out.size))
              clear hr hb
              go_wp2
              refine ⟨⟨j + 1, m + r, by omega, by go_num, by first | rfl | go_num, trk_next HTK.out HY.out hm ?_, by omega, by omega, HBQ.out.trans (HB5.out.mono HBQ.out.size)⟩, by simp [intOf]; omega⟩
              show Trk r (altB y && (okz h).al y (d + 1)) ((cnt h).al y)
              rw [HAB.out, Bool.true_and]
              exact HRT.out
          · have HT2 := hide (trk_end HTK.out (fun _ => by omega))
            clear HTK
            rcases (show ¬ ((j : Int) < x.al.length) ∨ ((j : Int) < x.al.length ∧ ¬ m ≤ 200) by omega) with hf | ⟨hf, hf2⟩
            all_goals
              clear hgo
              by_cases hk : x.k = 6
              · have hk2 : (x.k == 6) = true := by simpa using hk
                have HK := hide hk
                clear hk
                by_cases hm : m ≤ 200
                · first
                  | (exact absurd hm hf2)
                  | (go_wp2_with fail
                     refine (I2.out K x.ds o2 c2 _ 6 (d + 1) (Q2.out.later HB3.out (reads_later HB3.out h).2.1) HD.out.1 (by omega) (by omega) (by omega) (by omega)).mono ?_
                     rintro e w3 ⟨r, rfl, hr, hr0, hr1, hb⟩
                     have HRT := hide hr
                     have HB5 := hide (HB3.out.trans (hb.mono HB3.out.size))
                     clear hr hb
                     go_wp2
                     go_ret
                     refine ⟨m + r, rfl, ?_, by omega, by omega, HB5.out⟩
                     have key := HT2.out.add hm HRT.out
                     rw [HOK.out, HH.out, HCN.out]
                     refine key.pass ?_ rfl
                     have e6 : decide (x.k ≠ 6) = false := by rw [HK.out]; rfl
                     rw [e6]
                     cases allZ (okz h).ex x.l (d + 1) <;> simp)
                · go_wp2
                  go_ret
                  refine ⟨m, rfl, ?_, by omega, by omega, HB3.out⟩
                  have key := HT2.out.stop (b := decide (x.k ≠ 6) || decsB (okz h).de x.ds 6 (d + 1)) (d := sumZ (cnt h).de x.ds) (by omega)
                  rw [HOK.out, HH.out, HCN.out]
                  refine key.pass ?_ rfl
                  cases allZ (okz h).ex x.l (d + 1) <;> simp
              · have hk2 : (x.k == 6) = false := by simpa using hk
                have HK := hide hk
                clear hk
                go_wp2
                go_ret
                refine ⟨m, rfl, ?_, by omega, by omega, HB3.out⟩
                have hds : x.ds = [] := by
                  have hh := HH.out
                  unfold hereB shapeE at hh
                  simp only [Bool.and_eq_true, Bool.or_eq_true, decide_eq_true_eq] at hh
                  rcases hh.1.1.1.2 with h6 | h6
                  · exact absurd h6 HK.out
                  · exact List.length_eq_zero_iff.1 h6
                have e6 : decide (x.k ≠ 6) = true := by simpa using HK.out
                rw [HOK.out, HH.out, HCN.out, e6, hds]
                refine HT2.out.pass ?_ ?_
                · cases allZ (okz h).ex x.l (d + 1) <;> simp
                · simp [sumZ]
end Go.Proofs.YtlaeenfeajkcfalGreat
namespace Go.Proofs.YtlaeenfeajkcfalGreat
open Go.ChangeShapes Go.WideShapes Go.ChangeAt Go.RowKit

theorem name_at {xs : List Tr} {i : Nat} {y : Tr} (h : xs[i]? = some y) : atZ (xs.map Tr.s) i = y.s := atZ_of (by rw [List.getElem?_map, h]; rfl)
theorem okz_deep {h : Nat} {e : Tr} {d : Int} (hok : (okz h).ex e d = true) : d ≤ 12 := by
  cases h with
  | zero => cases hok
  | succ h =>
    have h1 : (decide (d ≤ 12) && _) = true := hok
    rw [Bool.and_eq_true] at h1
    exact of_decide_eq_true h1.1
theorem alike_step {l : List ByteArray} {k : Nat} {z s : ByteArray} (hz : l[k]? = some z) (h0 : alikeB (l.take k) s = false) (h1 : (z.toList == s.toList) = false) : alikeB (l.take (k + 1)) s = false := by
  unfold alikeB at *
  rw [List.take_add_one, hz, List.any_append, h0]
  simpa using h1
theorem alike_yes {l : List ByteArray} {k i : Nat} {z s : ByteArray} (hz : l[k]? = some z) (hk : k < i) (h1 : (z.toList == s.toList) = true) : alikeB (l.take i) s = true := by
  unfold alikeB
  rw [List.any_eq_true]
  refine ⟨z, ?_, h1⟩
  apply List.mem_of_getElem? (i := k)
  rw [List.getElem?_take, if_pos hk]
  exact hz
/-- The first i definitions are right, and no two of them of one name. -/
def decsTo (f : Tr → Int → Bool) (xs : List Tr) (d : Int) (i : Nat) : Bool := noDupTo (xs.map Tr.s) i && allZ f (xs.take i) d
theorem decsTo_next {f : Tr → Int → Bool} {xs : List Tr} {d : Int} {i : Nat} {y : Tr} (hy : xs[i]? = some y) : decsTo f xs d (i + 1) = (decsTo f xs d i && (!alikeB ((xs.map Tr.s).take i) y.s && f y d)) := by
  unfold decsTo
  rw [allZ_take f xs d i y hy]
  show ((noDupTo (xs.map Tr.s) i && !alikeB ((xs.map Tr.s).take i) (atZ (xs.map Tr.s) i)) && _) = _
  rw [name_at hy]
  cases noDupTo (xs.map Tr.s) i <;> cases alikeB ((xs.map Tr.s).take i) y.s <;> simp
theorem decsTo_false {f : Tr → Int → Bool} {xs : List Tr} {d : Int} {i n : Nat} (h : decsTo f xs d i = false) (hi : i ≤ n) (hn : n ≤ xs.length) : decsTo f xs d n = false := by
  induction n with
  | zero => rw [show i = 0 by omega] at h; exact h
  | succ n ih =>
    by_cases e : i = n + 1
    · rw [← e]; exact h
    · rw [decsTo_next (List.getElem?_eq_getElem (by omega)), ih (by omega) (by omega)]
      rfl
theorem decsB_to (f : Tr → Int → Bool) (xs : List Tr) (m d : Int) : decsB f xs m d = (inB xs.length 1 m && decsTo f xs d xs.length) := by
  unfold decsB decsTo noDupB
  rw [List.take_length, List.length_map]
  cases allZ f xs d <;> simp

set_option maxHeartbeats 400000 in
theorem l3Decs_no (n : Nat) (o : Option Addr) (c : Nat) (m d : Int) (w : World) (hl : n ≤ maxLen) (hin : inB n 1 m = false) : Calls Tryz.prog 27 #[.slice o n c, .int .i64 m, .int .i64 d] w fun e w' => e = .returned (.int .i64 1000) ∧ w' = w := by
  have HIN := hide hin
  have hl2 : n ≤ 9223372036854775807 := hl
  clear hin hl
  go_enter Tryz.func27, Tryz.ntmps27
  go_wp2_with fail
  refine (in_any n 1 m _).mono ?_
  rintro e w1 ⟨rfl, rfl⟩
  rw [HIN.out]
  go_wp2
  go_ret
  exact ⟨rfl, rfl⟩

set_option maxHeartbeats 2000000 in
set_option maxRecDepth 100000 in
theorem l3Decs_step {h : Nat} (i1 : CoEx h) (i2 : CoDs h) : CoDs (h + 1) := by
  intro K xs o c w m d hm hl hm0 hm1 h0 h1
  have I1 := hide i1
  have I2 := hide i2
  have HM := hide hm
  have hl2 : xs.length ≤ 9223372036854775807 := hl
  have HL := hide hl
  clear i1 i2 hm hl
  cases hin : inB xs.length 1 m
  · refine (l3Decs_no xs.length o c m d w HL.out hin).mono ?_
    rintro e w1 ⟨rfl, rfl⟩
    refine ⟨1000, rfl, ?_, by omega, by omega, Below.refl _ _⟩
    unfold decsB
    rw [hin]
    exact Trk.bad (by omega)
  have HIN := hide hin
  clear hin
  go_enter Tryz.func27, Tryz.ntmps27
  go_wp2_with fail
  refine (in_any xs.length 1 m _).mono ?_
  rintro e w1 ⟨rfl, hw1⟩
  rw [HIN.out, hw1]
  clear hw1 w1
  go_wp2
  go_loopw [7, 8] (fun t7 t8 wr => ∃ (i : Nat) (n : Int), i ≤ xs.length ∧ t8 = .int .i64 i ∧ t7 = .int .i64 n ∧ Trk n (decsTo (okz (h + 1)).de xs d i) (sumZ (cnt (h + 1)).de (xs.take i)) ∧ 0 ≤ n ∧ n ≤ 1000 + 201 * (14 - d) ∧ Below w.heap.size w wr) (fun _ t8 _ => xs.length - (intOf t8).toNat)
  case atStart => exact ⟨0, 0, Nat.zero_le _, rfl, rfl, Or.inl ⟨rfl, by simp [sumZ], by simp [sumZ]⟩, by omega, by omega, Below.refl _ _⟩
  case round =>
    obtain ⟨i, n, hi, rfl, rfl, htk, hn0, hn1, hbw⟩ := hrel
    have HTK := hide htk
    have HBW := hide hbw
    clear htk hbw
    by_cases hgo : i < xs.length ∧ n ≤ 200
    · obtain ⟨hlt, hn⟩ := hgo
      have hne : xs ≠ [] := by intro e; rw [e] at hlt; simp at hlt
      obtain ⟨y, hy⟩ : ∃ y, xs[i]? = some y := ⟨xs[i], List.getElem?_eq_getElem hlt⟩
      have hrow := HM.out.later HBW.out (reads_later HBW.out (h + 1)).2.1
      obtain ⟨b, off, eo, -, hbl, hcs⟩ := hrow hne
      subst eo
      have HCS := hide hcs
      obtain ⟨cs, hlen, hkey, hrd⟩ := hcs i y hy
      obtain ⟨-, -, -, e, p1, g1, ce, p2, g2, hye, rfl, hs, hf1, hf2, rs, hce, re, rd⟩ := hrd
      obtain ⟨a0, a1, a2, a3, a4, a5, rfl⟩ := six hce
      have q0 := hkey 0 (.string y.s) rfl
      have q1 := hkey 1 (.slice p1 y.ss.length g1) rfl
      have q2 := hkey 2 a0 rfl
      have q3 := hkey 3 a1 rfl
      have q4 := hkey 4 a2 rfl
      have q5 := hkey 5 a3 rfl
      have q6 := hkey 6 a4 rfl
      have q7 := hkey 7 a5 rfl
      have q8 := hkey 8 (.slice p2 y.ds.length g2) rfl
      rw [Nat.add_zero] at q0
      have HY := hide hy
      have HYE := hide hye
      have HSS := hide hs
      have HF1 := hide hf1
      have HF2 := hide hf2
      have RS := hide rs
      have RE := hide re
      have RD := hide rd
      have hd2 : y.ds.length ≤ 9223372036854775807 := hf2.1
      have hss2 : y.ss.length ≤ 9223372036854775807 := hf1.1
      clear hcs hy hne hkey hlen hye hs hf1 hf2 rs re rd hce hrow
      have hlt2 : (i : Int) < xs.length := by omega
      go_wp2
      go_loopw [9] (fun t9 wq => ∃ k : Nat, k ≤ i ∧ t9 = .int .i64 k ∧ alikeB ((xs.map Tr.s).take k) y.s = false ∧ Below wr.heap.size wr wq) (fun t9 _ => i - (intOf t9).toNat)
      case atStart => exact ⟨0, Nat.zero_le _, rfl, rfl, Below.refl _ _⟩
      case round =>
        obtain ⟨k, hk, rfl, hno, hbq⟩ := hrel
        have HNO := hide hno
        have HBQ := hide hbq
        have HB2 := hide (HBW.out.trans (hbq.mono HBW.out.size))
        have p0 : wr.cell? ⟨b, off + i * 9, none⟩ = some (.string y.s) := (hbq.cell (p := ⟨b, off + i * 9, none⟩) hbl).trans q0
        have p1w : wr.cell? ⟨b, off + i * 9 + 1, none⟩ = some (.slice p1 y.ss.length g1) := (hbq.cell (p := ⟨b, off + i * 9 + 1, none⟩) hbl).trans q1
        clear hno
        by_cases hkl : k < i
        · obtain ⟨z, hz⟩ : ∃ z, xs[k]? = some z := ⟨xs[k]'(by omega), List.getElem?_eq_getElem _⟩
          obtain ⟨csz, -, hkz, hrz⟩ := HCS.out k z hz
          obtain ⟨_, _, _, _, _, _, _, _, _, _, _, rfl⟩ := de_form hrz
          have z0 := hkz 0 (.string z.s) rfl
          rw [Nat.add_zero] at z0
          have z0w : wr.cell? ⟨b, off + k * 9, none⟩ = some (.string z.s) := (hbq.cell (p := ⟨b, off + k * 9, none⟩) hbl).trans z0
          have HZ : Hid ((xs.map Tr.s)[k]? = some z.s) := by show (xs.map Tr.s)[k]? = some z.s; rw [List.getElem?_map, hz]; rfl
          clear hrz hkz hz hbq z0 q0 q1 q2 q3 q4 q5 q6 q7 q8
          have hkl2 : (k : Int) < i := by omega
          have hkx : (k : Int) < xs.length := by omega
          cases hzz : (z.s.toList == y.s.toList)
          · go_wp2_with fail
            go_quiet (fail)
            go_wp2
            have hzz2 := hzz
            exact ⟨⟨k + 1, by omega, by go_num, alike_step HZ.out HNO.out hzz2, below_drewN HBQ.out _⟩, by simp [intOf]; omega⟩
          · go_wp2_with fail
            go_quiet (fail)
            go_wp2
            go_ret
            refine ⟨1000, rfl, ?_, by omega, by omega, below_drewN HB2.out _⟩
            have hf : decsTo (okz (h + 1)).de xs d (i + 1) = false := by
              rw [decsTo_next HY.out, alike_yes HZ.out hkl hzz]
              simp
            rw [decsB_to, decsTo_false hf hlt (Nat.le_refl _), Bool.and_false]
            exact Trk.bad (by omega)
        · have hki : k = i := by omega
          have HNI : Hid (alikeB ((xs.map Tr.s).take i) y.s = false) := by
            have h2 := HNO.out
            rw [hki] at h2
            exact h2
          have p2w : wr.cell? ⟨b, off + i * 9 + 2, none⟩ = some a0 := (hbq.cell (p := ⟨b, off + i * 9 + 2, none⟩) hbl).trans q2
          have hkl2 : ¬ (k : Int) < i := by omega
          clear hki p2w
          cases hnm : nmB y.s
          · have HNM : Hid (nameB y.s.data.toList = false) := hnm
            have HNM2 := hide hnm
            clear hnm
            clear q0 q1 q2 q3 q4 q5 q6 q7 q8 hbq
            go_wp2_with fail
            refine (specName_any _ _ HSS.out).mono ?_
            rintro e w2 ⟨rfl, hb⟩
            rw [HNM.out]
            have HB3 := hide (HB2.out.trans (hb.mono HB2.out.size))
            clear hb
            go_wp2
            go_ret
            refine ⟨1000, rfl, ?_, by omega, by omega, HB3.out⟩
            have hf : decsTo (okz (h + 1)).de xs d (i + 1) = false := by
              rw [decsTo_next HY.out]
              have : (okz (h + 1)).de y d = false := by
                show ((nmB y.s && _) && _) = false
                rw [HNM2.out]
                rfl
              rw [this]
              simp
            rw [decsB_to, decsTo_false hf hlt (Nat.le_refl _), Bool.and_false]
            exact Trk.bad (by omega)
          have HNM : Hid (nameB y.s.data.toList = true) := hnm
          have HNM2 := hide hnm
          clear hnm
          cases hva : varsB y.ss
          all_goals
            have HVA := hide hva
            clear hva
            go_wp2_with fail
            refine (specName_any _ _ HSS.out).mono ?_
            rintro e w2 ⟨rfl, hb⟩
            rw [HNM.out]
            have hb3 := hbq.trans (hb.mono hbq.size)
            have r1 : w2.cell? ⟨b, off + i * 9 + 1, none⟩ = some (.slice p1 y.ss.length g1) := (hb3.cell (p := ⟨b, off + i * 9 + 1, none⟩) hbl).trans q1
            have HB3 := hide hb3
            clear hb hb3
            go_wp2_with fail
            refine (l3Vars_any y.ss p1 g1 _ HF1.out.1 HF1.out.2 (RS.out.later HB3.out fun _ _ h => h)).mono ?_
            rintro e w3 ⟨rfl, hb⟩
            rw [HVA.out]
            have hb4 := HB3.out.trans (hb.mono HB3.out.size)
            have HB4 := hide hb4
            have HB4W := hide (HBW.out.trans (hb4.mono HBW.out.size))
            clear hb
          · go_wp2
            go_ret
            refine ⟨1000, rfl, ?_, by omega, by omega, HB4W.out⟩
            have hf : decsTo (okz (h + 1)).de xs d (i + 1) = false := by
              rw [decsTo_next HY.out]
              have : (okz (h + 1)).de y d = false := by
                show ((nmB y.s && varsB y.ss) && _) = false
                rw [HVA.out]
                simp
              rw [this]
              simp
            rw [decsB_to, decsTo_false hf hlt (Nat.le_refl _), Bool.and_false]
            exact Trk.bad (by omega)
          · have s2 : w3.cell? ⟨b, off + i * 9 + 2, none⟩ = some a0 := (hb4.cell (p := ⟨b, off + i * 9 + 2, none⟩) hbl).trans q2
            have s3 : w3.cell? ⟨b, off + i * 9 + 3, none⟩ = some a1 := (hb4.cell (p := ⟨b, off + i * 9 + 3, none⟩) hbl).trans q3
            have s4 : w3.cell? ⟨b, off + i * 9 + 4, none⟩ = some a2 := (hb4.cell (p := ⟨b, off + i * 9 + 4, none⟩) hbl).trans q4
            have s5 : w3.cell? ⟨b, off + i * 9 + 5, none⟩ = some a3 := (hb4.cell (p := ⟨b, off + i * 9 + 5, none⟩) hbl).trans q5
            have s6 : w3.cell? ⟨b, off + i * 9 + 6, none⟩ = some a4 := (hb4.cell (p := ⟨b, off + i * 9 + 6, none⟩) hbl).trans q6
            have s7 : w3.cell? ⟨b, off + i * 9 + 7, none⟩ = some a5 := (hb4.cell (p := ⟨b, off + i * 9 + 7, none⟩) hbl).trans q7
            clear hb4
            go_wp2_with fail
            refine (I1.out K e _ _ (d + 1) ((reads_later HB4.out h).1 _ _ RE.out) (by omega) (by omega)).mono ?_
            rintro _ w4 ⟨r, rfl, hr, hr0, hr1, hb⟩
            have hb5 := HB4.out.trans (hb.mono HB4.out.size)
            have t8 : w4.cell? ⟨b, off + i * 9 + 8, none⟩ = some (.slice p2 y.ds.length g2) := (hb5.cell (p := ⟨b, off + i * 9 + 8, none⟩) hbl).trans q8
            have HRT := hide hr
            have HB5 := hide hb5
            have HB5W := hide (HBW.out.trans (hb5.mono HBW.out.size))
            have HOKY : Hid ((okz (h + 1)).de y d = ((okz h).ex e (d + 1) && (decide (y.ds.length = 0) || decsB (okz h).de y.ds 6 (d + 1)))) := by
              show ((nmB y.s && varsB y.ss) && (allZ (okz h).ex y.l (d + 1) && _)) = _
              rw [HNM2.out, HVA.out, HYE.out]
              simp [allZ]
            have HCNY : Hid ((cnt (h + 1)).de y = (cnt h).ex e + sumZ (cnt h).de y.ds) := by
              show sumZ (cnt h).ex y.l + _ = _
              rw [HYE.out]
              simp [sumZ]
            clear hr hb hb5 q0 q1 q2 q3 q4 q5 q6 q7 q8 s2 s3 s4 s5 s6 s7 r1 hbq p0 p1w
            by_cases hds : y.ds.length = 0
            · have hds2 : decide (0 < y.ds.length) = false := decide_eq_false (by omega)
              have HDS := hide hds
              clear hds
              go_wp2
              refine ⟨⟨i + 1, n + r, by omega, by go_num, by first | rfl | go_num, ?_, by omega, by omega, HB5W.out⟩, by simp [intOf]; omega⟩
              have key := HTK.out.add hn HRT.out
              rw [decsTo_next HY.out, sumZ_take _ _ _ _ HY.out, HNI.out, HOKY.out, HCNY.out, HDS.out]
              refine key.pass (by simp) ?_
              rw [List.length_eq_zero_iff.1 HDS.out]
              simp [sumZ]
            · have hds2 : decide (0 < y.ds.length) = true := decide_eq_true (by omega)
              have HDS := hide hds
              clear hds
              by_cases hn2 : n + r ≤ 200
              · have key := HTK.out.add hn HRT.out
                have hok := (key.of_le hn2).1
                rw [Bool.and_eq_true] at hok
                have hdeep := okz_deep hok.2
                have KEY := hide key
                clear key hok
                go_wp2_with fail
                refine (I2.out K y.ds p2 g2 _ 6 (d + 1) (RD.out.later HB5.out (reads_later HB5.out h).2.1) HF2.out.1 (by omega) (by omega) (by omega) (by omega)).mono ?_
                rintro _ w5 ⟨r2, rfl, hr2, hr20, hr21, hb⟩
                have HRT2 := hide hr2
                have HB6W := hide (HB5W.out.trans (hb.mono HB5W.out.size))
                clear hr2 hb
                go_wp2
                refine ⟨⟨i + 1, n + r + r2, by omega, by go_num, by first | rfl | go_num, ?_, by omega, by omega, HB6W.out⟩, by simp [intOf]; omega⟩
                have key := KEY.out.add hn2 HRT2.out
                rw [decsTo_next HY.out, sumZ_take _ _ _ _ HY.out, HNI.out, HOKY.out, HCNY.out, decide_eq_false HDS.out]
                refine key.pass ?_ (by omega)
                cases decsTo (okz (h + 1)).de xs d i <;> simp
              · go_wp2
                refine ⟨⟨i + 1, n + r, by omega, by go_num, by first | rfl | go_num, ?_, by omega, by omega, HB5W.out⟩, by simp [intOf]; omega⟩
                have key := (HTK.out.add hn HRT.out).stop (b := decsB (okz h).de y.ds 6 (d + 1)) (d := sumZ (cnt h).de y.ds) (by omega)
                rw [decsTo_next HY.out, sumZ_take _ _ _ _ HY.out, HNI.out, HOKY.out, HCNY.out, decide_eq_false HDS.out]
                refine key.pass ?_ (by omega)
                cases decsTo (okz (h + 1)).de xs d i <;> simp
    · have HT : Hid (Trk n (decsB (okz (h + 1)).de xs m d) (sumZ (cnt (h + 1)).de xs)) := by
        show Trk n (decsB (okz (h + 1)).de xs m d) (sumZ (cnt (h + 1)).de xs)
        rw [decsB_to, HIN.out, Bool.true_and]
        by_cases hl : i < xs.length
        · have h200 : 200 < n := by omega
          refine Or.inr ⟨h200, fun hc => ?_⟩
          have ht := HTK.out
          rcases ht with ⟨e1, e2, e3⟩ | ⟨e1, e2⟩
          · omega
          · apply e2
            refine ⟨?_, ?_⟩
            · cases hd : decsTo (okz (h + 1)).de xs d i with
              | true => rfl
              | false => rw [decsTo_false hd (by omega) (Nat.le_refl _)] at hc; cases hc.1
            · have := sumZ_split (cnt (h + 1)).de xs i
              omega
        · have hii : i = xs.length := by omega
          have ht := HTK.out
          rw [hii, List.take_length] at ht
          exact ht
      rcases (show ¬ ((i : Int) < xs.length) ∨ ((i : Int) < xs.length ∧ ¬ n ≤ 200) by omega) with he | ⟨he, he2⟩
      all_goals
        clear hgo
        go_wp2
        go_ret
        exact ⟨n, rfl, HT.out, hn0, hn1, HBW.out⟩

theorem co_all (h : Nat) : CoEx h ∧ CoDs h ∧ CoAl h := by
  induction h with
  | zero =>
    refine ⟨fun _ _ _ _ _ hr => hr.elim, ?_, fun _ _ _ _ _ _ _ _ _ _ _ _ hr => hr.elim⟩
    intro K xs o c w m d hm hl hm0 hm1 h0 h1
    have hnil : xs = [] := by
      cases xs with
      | nil => rfl
      | cons x r =>
        obtain ⟨_, _, _, _, _, hc⟩ := hm (by simp)
        obtain ⟨_, _, _, hf⟩ := hc 0 x rfl
        exact hf.elim
    subst hnil
    have hin : inB (([] : List Tr).length : Int) 1 m = false := inB_lo (by decide)
    refine (l3Decs_no 0 o c m d w (Nat.zero_le _) hin).mono ?_
    rintro e w1 ⟨rfl, rfl⟩
    refine ⟨1000, rfl, ?_, by omega, by omega, Below.refl _ _⟩
    unfold decsB
    rw [hin]
    exact Trk.bad (by omega)
  | succ h ih => exact ⟨l3Count_step ih.1 ih.2.1 ih.2.2, l3Decs_step ih.1 ih.2.1, coAl_step ih.1⟩

end Go.Proofs.YtlaeenfeajkcfalGreat
namespace Go.Proofs.YtlaeenfeajkcfalGreat
open Go.ChangeShapes Go.WideShapes Go.ChangeAt Go.RowKit

def argB (h : Nat) (t : Tr) : Bool := decide (wrZ h t 1 ≤ 10)
/-- A maker is right, as the model has it: among all of them it is defined once. -/
def conB (h : Nat) (ds : List Tr) (c : Tr) : Bool := ownB c.s && (decide (c.l.length ≤ 4) && (decide (cntS (consL ds) c.s = 1) && c.l.all (argB h)))
def dataB (h : Nat) (ds : List Tr) (i : Nat) (d : Tr) : Bool := !alikeB ((ds.take i).map Tr.s) d.s && (d.l.all (conB h ds) && (ownB d.s && inB d.l.length 1 5))
theorem all_next {f : Tr → Bool} {l : List Tr} {k : Nat} {c : Tr} (h : l[k]? = some c) (ht : (l.take k).all f = true) : (l.take (k + 1)).all f = f c := by
  rw [List.take_add_one, h, List.all_append, ht]
  simp
theorem all_false {f : Tr → Bool} {l : List Tr} {k : Nat} (h : (l.take k).all f = false) : l.all f = false := by
  have e : l = l.take k ++ l.drop k := (List.take_append_drop _ _).symm
  rw [e, List.all_append, h]
  rfl
theorem alike_next {l : List Tr} {k : Nat} {c : Tr} {s : ByteArray} (h : l[k]? = some c) (ht : alikeB ((l.take k).map Tr.s) s = false) : alikeB ((l.take (k + 1)).map Tr.s) s = (c.s.toList == s.toList) := by
  rw [names_take h]
  unfold alikeB at *
  rw [List.any_append, ht]
  simp
theorem alike_more {l : List Tr} {k i : Nat} {s : ByteArray} (h : alikeB ((l.take k).map Tr.s) s = true) (hk : k ≤ i) : alikeB ((l.take i).map Tr.s) s = true := by
  unfold alikeB at *
  rw [List.any_eq_true] at *
  obtain ⟨t, ht, he⟩ := h
  refine ⟨t, ?_, he⟩
  obtain ⟨u, hu, rfl⟩ := List.mem_map.1 ht
  refine List.mem_map.2 ⟨u, ?_, rfl⟩
  have e : l.take k = (l.take i).take k := by rw [List.take_take, Nat.min_eq_left hk]
  rw [e] at hu
  exact List.mem_of_mem_take hu

set_option maxHeartbeats 2000000 in
set_option maxRecDepth 100000 in
theorem data_any {K : Nat → Prop} {w : World} {h : Nat} {x : Tr} {cs : List Value} (i : Nat) (d : Tr) (hid : x.l[i]? = some d) (hr : prR K w h x cs) (hN : (consL x.l).length ≤ 1048576) :
    Calls Tryz.prog 26 #[.agg cs.toArray, .int .i64 i] w fun e w' => e = .returned (.bool (dataB h x.l i d)) ∧ Below w.heap.size w w' := by
  have HR := hide hr
  obtain ⟨-, -, -, -, -, o1, c1, o2, c2, rfl, hl, hd, q1, q2⟩ := hr
  have hilt : i < x.l.length := (List.getElem?_eq_some_iff.1 hid).1
  have hne : x.l ≠ [] := by intro e; rw [e] at hilt; simp at hilt
  obtain ⟨b, off, eo, -, hbl, hcs⟩ := q1 hne
  subst eo
  obtain ⟨cs, hlen, hkey, hrd⟩ := hcs i d hid
  obtain ⟨-, -, -, -, -, od, cd, rfl, hds, hfd, hrd⟩ := hrd
  have HQ := hide hcs
  have z0 := hkey 0 _ rfl
  have z1 := hkey 1 _ rfl
  rw [Nat.add_zero] at z0
  have HRD := hide hrd
  have HDS := hide hds
  have HID := hide hid
  have HN := hide hN
  have hl2 : x.l.length ≤ 9223372036854775807 := hl.1
  have hd2 : d.l.length ≤ 9223372036854775807 := hfd.1
  have hilt2 : (i : Int) < x.l.length := by omega
  have HB0 : Hid (Below w.heap.size w ((w.alloc (.cells #[.slice (some ⟨b, off, none⟩) x.l.length c1, .slice o2 x.ds.length c2] 31)).alloc (.cells #[.string d.s, .slice od d.l.length cd] 42))) := ((Below.refl _ w).alloc (Nat.le_refl _) _).alloc (by simp) _
  have HP0 : Hid (((w.alloc (.cells #[.slice (some ⟨b, off, none⟩) x.l.length c1, .slice o2 x.ds.length c2] 31)).alloc (.cells #[.string d.s, .slice od d.l.length cd] 42)).heap[w.heap.size]? = some (.cells #[.slice (some ⟨b, off, none⟩) x.l.length c1, .slice o2 x.ds.length c2] 31 (0, 0))) := (Below.heap_alloc _ _ _ (by simp)).trans (heap_alloc_new w _)
  have HD0 : Hid (((w.alloc (.cells #[.slice (some ⟨b, off, none⟩) x.l.length c1, .slice o2 x.ds.length c2] 31)).alloc (.cells #[.string d.s, .slice od d.l.length cd] 42)).heap[w.heap.size + 1]? = some (.cells #[.string d.s, .slice od d.l.length cd] 42 (0, 0))) := heap_alloc2_new w _ _
  clear hl hd q1 q2 hN hcs hkey hrd hds hfd hlen hne hid
  go_enter Tryz.func26, Tryz.ntmps26
  go_wp2
  clear z0 z1
  generalize ((w.alloc (.cells #[.slice (some ⟨b, off, none⟩) x.l.length c1, .slice o2 x.ds.length c2] 31)).alloc (.cells #[.string d.s, .slice od d.l.length cd] 42)) = W at HB0 HP0 HD0 ⊢
  go_loopw [6] (fun t6 wr => ∃ k : Nat, k ≤ i ∧ t6 = .int .i64 k ∧ alikeB ((x.l.take k).map Tr.s) d.s = false ∧ Below W.heap.size W wr) (fun t6 _ => i - (intOf t6).toNat)
  case atStart => exact ⟨0, Nat.zero_le _, rfl, rfl, Below.refl _ _⟩
  case round =>
    obtain ⟨k, hk, rfl, hal, hbw⟩ := hrel
    have HAL := hide hal
    have HBW := hide hbw
    have HP1 := hide ((hbw.block w.heap.size (heap_lt HP0.out)).trans HP0.out)
    have HD1 := hide ((hbw.block (w.heap.size + 1) (heap_lt HD0.out)).trans HD0.out)
    have HBT := hide (HB0.out.trans (hbw.mono HB0.out.size))
    clear hal hbw
    have p0 := cell_of HP1.out 0
    have d0 := cell_of HD1.out 0
    have d1 := cell_of HD1.out 1
    simp only [List.getElem?_toArray, List.getElem?_cons_succ, List.getElem?_cons_zero] at p0 d0 d1
    by_cases hlt : k < i
    · obtain ⟨dk, hx⟩ : ∃ dk, x.l[k]? = some dk := ⟨x.l[k], List.getElem?_eq_getElem (by omega)⟩
      obtain ⟨cs, hlen, hkey, hrd⟩ := HQ.out k dk hx
      obtain ⟨-, -, -, -, -, ok, ck, rfl, -, -, -⟩ := hrd
      have y0 := (HBT.out.cell (p := ⟨b, off + k * 2 + 0, none⟩) hbl).trans (hkey 0 _ rfl)
      rw [Nat.add_zero] at y0
      have HX := hide hx
      clear hkey hx hlen
      have hlt2 : (k : Int) < i := by omega
      have hkl : (k : Int) < x.l.length := by omega
      cases heq : (dk.s.toList == d.s.toList)
      all_goals
        have HEQ := hide heq
        go_wp2
        go_region
        go_wp2
      · go_roundw
        case rel => exact ⟨k + 1, by omega, by go_num, by rw [alike_next HX.out HAL.out]; exact HEQ.out, HBW.out.trans ((Below.refl _ _).drew.mono HBW.out.size)⟩
        case measure => simp [intOf]; omega
      · go_ret
        refine ⟨ret_bool ?_, HBT.out.trans ((Below.refl _ _).drew.mono HBT.out.size)⟩
        unfold dataB
        rw [alike_more (k := k + 1) (by rw [alike_next HX.out HAL.out]; exact HEQ.out) (by omega)]
        rfl
    · have hki : k = i := by omega
      subst hki
      have HRW := hide (HRD.out.later HBT.out (coR_later HBT.out h))
      have hlt2 : ¬ (k : Int) < k := by omega
      clear p0 d0 d1
      go_wp2
      generalize hwr : wr = V at HBT HP1 HD1 HRW ⊢
      clear hwr
      go_loopw [7] (fun t7 wr => ∃ j : Nat, j ≤ d.l.length ∧ t7 = .int .i64 j ∧ (d.l.take j).all (conB h x.l) = true ∧ Below V.heap.size V wr) (fun t7 _ => d.l.length - (intOf t7).toNat)
      case atStart => exact ⟨0, Nat.zero_le _, rfl, rfl, Below.refl _ _⟩
      case round =>
        obtain ⟨j, hj, rfl, hall, hbw⟩ := hrel
        have HALL := hide hall
        have HBV := hide hbw
        have HP2 := hide ((hbw.block w.heap.size (heap_lt HP1.out)).trans HP1.out)
        have HD2 := hide ((hbw.block (w.heap.size + 1) (heap_lt HD1.out)).trans HD1.out)
        have HB2 := hide (HBT.out.trans (hbw.mono HBT.out.size))
        have HRW2 := hide (HRW.out.later hbw (coR_later hbw h))
        clear hall hbw
        have d0 := cell_of HD2.out 0
        have d1 := cell_of HD2.out 1
        simp only [List.getElem?_toArray, List.getElem?_cons_succ, List.getElem?_cons_zero] at d0 d1
        by_cases hlj : j < d.l.length
        · have hne : d.l ≠ [] := by intro e; rw [e] at hlj; simp at hlj
          obtain ⟨c, hx⟩ : ∃ c, d.l[j]? = some c := ⟨d.l[j], List.getElem?_eq_getElem hlj⟩
          obtain ⟨b2, off2, eo, -, hbl2, hcs⟩ := HRW2.out hne
          subst eo
          obtain ⟨cs, hlen, hkey, hrd⟩ := hcs j c hx
          obtain ⟨-, -, -, -, -, oc, cc, rfl, hsc, hfc, hrc⟩ := hrd
          have y0 := hkey 0 _ rfl
          have y1 := hkey 1 _ rfl
          rw [Nat.add_zero] at y0
          have HX := hide hx
          have HSC := hide hsc
          have hc2 : c.l.length ≤ 9223372036854775807 := hfc.1
          have HA3 : Hid (Below wr.heap.size wr (wr.alloc (.cells #[.string c.s, .slice oc c.l.length cc] 45))) := (Below.refl _ wr).alloc (Nat.le_refl _) _
          have HC3 : Hid ((wr.alloc (.cells #[.string c.s, .slice oc c.l.length cc] 45)).heap[wr.heap.size]? = some (.cells #[.string c.s, .slice oc c.l.length cc] 45 (0, 0))) := heap_alloc_new wr _
          have HB3 := hide (HB2.out.trans (HA3.out.mono HB2.out.size))
          have HP3 := hide ((HA3.out.block w.heap.size (heap_lt HP2.out)).trans HP2.out)
          have HV3 := hide (HBV.out.trans (HA3.out.mono HBV.out.size))
          have HRC := hide (hrc.later HA3.out (tyR_later HA3.out h))
          have HFA : Hid (conB h x.l c = false → dataB h x.l k d = false) := by
            intro hf
            unfold dataB
            rw [all_false (k := j + 1) (by rw [all_next HX.out HALL.out]; exact hf)]
            simp
          clear hcs hx hne hkey hlen hsc hfc hrc
          have hlj2 : (j : Int) < d.l.length := by omega
          cases hg : grB c.s
          · have HG : Hid (greatB c.s.data.toList = false) := hg
            have HG2 := hide hg
            clear hg
            go_wp2_with fail
            refine (specGreat_any _ _ HSC.out).mono ?_
            rintro e w1 ⟨rfl, rfl⟩
            rw [HG.out]
            go_wp2
            go_ret
            exact ⟨ret_bool (HFA.out (by unfold conB ownB; rw [HG2.out]; rfl)).symm, HB3.out⟩
          have HG : Hid (greatB c.s.data.toList = true) := hg
          have HG2 := hide hg
          clear hg
          cases hgv : (givenT c.s || givenC c.s)
          case true =>
            have HGV := hide hgv
            clear hgv
            go_wp2_with fail
            refine (specGreat_any _ _ HSC.out).mono ?_
            rintro e w1 ⟨rfl, rfl⟩
            rw [HG.out]
            go_wp2_with fail
            refine (l3Own_any _ _).mono ?_
            rintro e w1 ⟨rfl, hb⟩
            rw [HGV.out]
            have HB4 := hide (HB3.out.trans (hb.mono HB3.out.size))
            clear hb
            go_wp2
            go_ret
            exact ⟨ret_bool (HFA.out (by unfold conB ownB; rw [HGV.out, Bool.not_true, Bool.and_false]; rfl)).symm, HB4.out⟩
          have HGV := hide hgv
          clear hgv
          by_cases h4 : c.l.length ≤ 4
          case neg =>
            have hgt : 4 < (c.l.length : Int) := by omega
            have HH4 := hide h4
            clear h4
            go_wp2_with fail
            refine (specGreat_any _ _ HSC.out).mono ?_
            rintro e w1 ⟨rfl, rfl⟩
            rw [HG.out]
            go_wp2_with fail
            refine (l3Own_any _ _).mono ?_
            rintro e w1 ⟨rfl, hb⟩
            rw [HGV.out]
            have HB4 := hide (HB3.out.trans (hb.mono HB3.out.size))
            have HC4 := hide ((hb.block wr.heap.size (heap_lt HC3.out)).trans HC3.out)
            clear hb
            have e1 := cell_of HC4.out 1
            simp only [List.getElem?_toArray, List.getElem?_cons_succ, List.getElem?_cons_zero] at e1
            go_wp2
            go_ret
            exact ⟨ret_bool (HFA.out (by unfold conB; rw [decide_eq_false HH4.out, Bool.false_and, Bool.and_false])).symm, HB4.out⟩
          have hgt : ¬ 4 < (c.l.length : Int) := by omega
          have HH4 := hide h4
          clear h4
          have hcb : cntS (consL x.l) c.s ≤ 1048576 := Nat.le_trans (cntS_le _ _) HN.out
          generalize hcn : cntS (consL x.l) c.s = cn at hcb
          have HCN := hide hcn
          clear hcn
          by_cases h1 : cn = 1
          case neg =>
            have hne1 : ((cn : Int) != 1) = true := by simp; omega
            have hne2 : (cn != 1) = true := by simpa using h1
            have HH1 := hide h1
            clear h1
            go_wp2_with fail
            refine (specGreat_any _ _ HSC.out).mono ?_
            rintro e w1 ⟨rfl, rfl⟩
            rw [HG.out]
            go_wp2_with fail
            refine (l3Own_any _ _).mono ?_
            rintro e w1 ⟨rfl, hb⟩
            rw [HGV.out]
            have HB4 := hide (HB3.out.trans (hb.mono HB3.out.size))
            have HC4 := hide ((hb.block wr.heap.size (heap_lt HC3.out)).trans HC3.out)
            have HP4 := hide ((hb.block w.heap.size (heap_lt HP3.out)).trans HP3.out)
            clear hb
            have e0 := cell_of HC4.out 0
            have e1 := cell_of HC4.out 1
            have p0 := cell_of HP4.out 0
            have p1 := cell_of HP4.out 1
            simp only [List.getElem?_toArray, List.getElem?_cons_succ, List.getElem?_cons_zero] at e0 e1 p0 p1
            go_wp2_with fail
            refine (times_any c.s (prR_later HB4.out h _ _ HR.out) HN.out).mono ?_
            rintro e w2 ⟨rfl, hb⟩
            rw [HCN.out]
            have HB5 := hide (HB4.out.trans (hb.mono HB4.out.size))
            clear hb
            go_wp2
            go_ret
            exact ⟨ret_bool (HFA.out (by unfold conB; rw [HCN.out, decide_eq_false HH1.out, Bool.false_and, Bool.and_false, Bool.and_false])).symm, HB5.out⟩
          have hne1 : ((cn : Int) != 1) = false := by simp; omega
          have hne2 : (cn != 1) = false := by simpa using h1
          have HH1 := hide h1
          have HCB : Hid (conB h x.l c = c.l.all (argB h)) := by
            show conB h x.l c = c.l.all (argB h)
            unfold conB ownB
            rw [HG2.out, HGV.out, decide_eq_true HH4.out, HCN.out, decide_eq_true HH1.out]
            rfl
          clear h1
          go_wp2_with fail
          refine (specGreat_any _ _ HSC.out).mono ?_
          rintro e w1 ⟨rfl, rfl⟩
          rw [HG.out]
          go_wp2_with fail
          refine (l3Own_any _ _).mono ?_
          rintro e w1 ⟨rfl, hb⟩
          rw [HGV.out]
          have HB4 := hide (HB3.out.trans (hb.mono HB3.out.size))
          have HV4 := hide (HV3.out.trans (hb.mono HV3.out.size))
          have HC4 := hide ((hb.block wr.heap.size (heap_lt HC3.out)).trans HC3.out)
          have HP4 := hide ((hb.block w.heap.size (heap_lt HP3.out)).trans HP3.out)
          have HRC4 := hide (HRC.out.later hb (tyR_later hb h))
          clear hb
          have e0 := cell_of HC4.out 0
          have e1 := cell_of HC4.out 1
          have p0 := cell_of HP4.out 0
          have p1 := cell_of HP4.out 1
          simp only [List.getElem?_toArray, List.getElem?_cons_succ, List.getElem?_cons_zero] at e0 e1 p0 p1
          go_wp2_with fail
          refine (times_any c.s (prR_later HB4.out h _ _ HR.out) HN.out).mono ?_
          rintro e w2 ⟨rfl, hb⟩
          rw [HCN.out]
          have HB5 := hide (HB4.out.trans (hb.mono HB4.out.size))
          have HV5 := hide (HV4.out.trans (hb.mono HV4.out.size))
          have HC5 := hide ((hb.block wr.heap.size (heap_lt HC4.out)).trans HC4.out)
          have HRC5 := hide (HRC4.out.later hb (tyR_later hb h))
          clear hb e0 e1 p0 p1 d0 d1 y0 y1
          go_wp2
          generalize hgb : wr.heap.size = gb at HC5 ⊢
          clear hgb
          go_loopw [9] (fun t9 wq => ∃ m : Nat, m ≤ c.l.length ∧ t9 = .int .i64 m ∧ (c.l.take m).all (argB h) = true ∧ Below w2.heap.size w2 wq) (fun t9 _ => c.l.length - (intOf t9).toNat)
          case atStart => exact ⟨0, Nat.zero_le _, rfl, rfl, Below.refl _ _⟩
          case round =>
            obtain ⟨m, hm, rfl, hal3, hb3⟩ := hrel
            have HAL3 := hide hal3
            have HB6 := hide (HB5.out.trans (hb3.mono HB5.out.size))
            have HV6 := hide (HV5.out.trans (hb3.mono HV5.out.size))
            have HC6 := hide ((hb3.block gb (heap_lt HC5.out)).trans HC5.out)
            have HRC6 := hide (HRC5.out.later hb3 (tyR_later hb3 h))
            have HBB := hide hb3
            clear hal3 hb3
            have e1 := cell_of HC6.out 1
            simp only [List.getElem?_toArray, List.getElem?_cons_succ, List.getElem?_cons_zero] at e1
            by_cases hlm : m < c.l.length
            · have hne : c.l ≠ [] := by intro e; rw [e] at hlm; simp at hlm
              obtain ⟨t, hx⟩ : ∃ t, c.l[m]? = some t := ⟨c.l[m], List.getElem?_eq_getElem hlm⟩
              obtain ⟨b3, off3, eo, -, hbl3, hcs⟩ := HRC6.out hne
              subst eo
              obtain ⟨cs, hlen, hkey, hrd⟩ := hcs m t hx
              obtain ⟨ot, ct, rfl⟩ := ty_form hrd
              have y0 := hkey 0 _ rfl
              have y1 := hkey 1 _ rfl
              have y2 := hkey 2 _ rfl
              have y3 := hkey 3 _ rfl
              rw [Nat.add_zero] at y0
              have HT := hide hx
              have HRT := hide hrd
              clear hcs hx hne hkey hlen hrd
              have hlm2 : (m : Int) < c.l.length := by omega
              generalize hwz : wrZ h t 1 = z
              have HWZ := hide hwz
              clear hwz
              by_cases hz : 10 < z
              all_goals
                go_wp2_with fail
                refine (written_all h K t _ _ 1 (by omega) (by omega) HRT.out).mono ?_
                rintro e w3 ⟨rfl, hb⟩
                rw [HWZ.out]
                have HB7 := hide (HB6.out.trans (hb.mono HB6.out.size))
                have HBB7 := hide (HBB.out.trans (hb.mono HBB.out.size))
                clear hb
                go_wp2
              · go_ret
                refine ⟨ret_bool (HFA.out ?_).symm, HB7.out⟩
                rw [HCB.out]
                refine all_false (k := m + 1) ?_
                rw [all_next HT.out HAL3.out]
                unfold argB
                rw [HWZ.out]
                exact decide_eq_false (by omega)
              · go_roundw
                case rel =>
                  refine ⟨m + 1, by omega, by go_num, ?_, HBB7.out⟩
                  rw [all_next HT.out HAL3.out]
                  unfold argB
                  rw [HWZ.out]
                  exact decide_eq_true (by omega)
                case measure => simp [intOf]; omega
            · go_wp2
              go_roundw
              case rel =>
                refine ⟨j + 1, by omega, by go_num, ?_, HV6.out⟩
                rw [all_next HX.out HALL.out, HCB.out]
                have h9 := HAL3.out
                rw [List.take_of_length_le (by omega)] at h9
                exact h9
              case measure => simp [intOf]; omega
        · have hall : d.l.all (conB h x.l) = true := by
            have h9 := HALL.out
            rw [List.take_of_length_le (by omega)] at h9
            exact h9
          have HDB : Hid (dataB h x.l k d = (ownB d.s && inB d.l.length 1 5)) := by
            show dataB h x.l k d = _
            unfold dataB
            rw [HAL.out, hall]
            rfl
          clear hall
          cases hg : grB d.s
          · have HG : Hid (greatB d.s.data.toList = false) := hg
            have HG2 := hide hg
            clear hg
            go_wp2_with fail
            refine (specGreat_any _ _ HDS.out).mono ?_
            rintro e w1 ⟨rfl, rfl⟩
            rw [HG.out]
            go_wp2
            go_ret
            exact ⟨ret_bool (by rw [HDB.out, ownB, HG2.out]; rfl), HB2.out⟩
          have HG : Hid (greatB d.s.data.toList = true) := hg
          have HG2 := hide hg
          clear hg
          cases hgv : (givenT d.s || givenC d.s)
          all_goals
            have HGV := hide hgv
            clear hgv
            go_wp2_with fail
            refine (specGreat_any _ _ HDS.out).mono ?_
            rintro e w1 ⟨rfl, rfl⟩
            rw [HG.out]
            go_wp2_with fail
            refine (l3Own_any _ _).mono ?_
            rintro e w1 ⟨rfl, hb⟩
            rw [HGV.out]
            have HB4 := hide (HB2.out.trans (hb.mono HB2.out.size))
            have HD4 := hide ((hb.block (w.heap.size + 1) (heap_lt HD2.out)).trans HD2.out)
            clear hb
            have f1 := cell_of HD4.out 1
            simp only [List.getElem?_toArray, List.getElem?_cons_succ, List.getElem?_cons_zero] at f1
          · go_wp2_with fail
            refine (in_any _ _ _ _).mono ?_
            rintro e w2 ⟨rfl, rfl⟩
            go_wp2
            go_ret
            exact ⟨ret_bool (by rw [HDB.out, ownB, HG2.out, HGV.out]; simp), HB4.out⟩
          · go_wp2
            go_ret
            exact ⟨ret_bool (by rw [HDB.out, ownB, HG2.out, HGV.out]; rfl), HB4.out⟩
end Go.Proofs.YtlaeenfeajkcfalGreat

/- The program's small tests of names. -/
import Derived.Test.YteoghpefilghdakGreatDoorYB
namespace Go.Proofs.YteoghpefilghdakGreatDoor
open Go.ChangeShapes Go.WideShapes Go.ChangeAt Go.RowKit

def parB (s : ByteArray) : Bool := isU s || nmB s

set_option maxHeartbeats 400000 in
theorem parOk_any (s : ByteArray) (w : World) (hs : s.size ≤ maxLen) : Calls Tryz.prog 142 #[.string s] w fun e w' => e = .returned (.bool (parB s)) ∧ Below w.heap.size w w' := by
  cases hu : isU s
  · have hu2 : (s.toList == [95]) = false := hu
    have HU := hide hu
    clear hu
    go_enter Tryz.func142, Tryz.ntmps142
    go_wp2_with fail
    refine (implName_any _ _ hs).mono ?_
    rintro e w1 ⟨rfl, hb⟩
    have HB := hide hb
    clear hb
    go_wp2
    go_ret
    exact ⟨ret_bool (by unfold parB nmB; rw [HU.out, Bool.false_or]), HB.out⟩
  · have hu2 : (s.toList == [95]) = true := hu
    have HU := hide hu
    clear hu
    go_enter Tryz.func142, Tryz.ntmps142
    go_wp2
    go_ret
    exact ⟨ret_bool (by unfold parB; rw [HU.out, Bool.true_or]), Below.refl _ _⟩

set_option maxHeartbeats 400000 in
theorem isNoPar_any (s : ByteArray) (w : World) (hs : s.size ≤ maxLen) : Calls Tryz.prog 125 #[.string s] w fun e w' => e = .returned (.bool (!parB s)) ∧ Below w.heap.size w w' := by
  go_enter Tryz.func125, Tryz.ntmps125
  go_wp2_with fail
  refine (parOk_any _ _ hs).mono ?_
  rintro e w1 ⟨rfl, hb⟩
  have HB := hide hb
  clear hb
  go_wp2
  go_ret
  exact ⟨rfl, HB.out⟩

theorem alike_turn {l : List ByteArray} {k : Nat} {z s : ByteArray} (hz : l[k]? = some z) (h0 : alikeB (l.take k) s = false) (h1 : (s.toList == z.toList) = false) : alikeB (l.take (k + 1)) s = false := by
  unfold alikeB at *
  rw [List.take_add_one, hz, List.any_append, h0]
  rw [beq_turn] at h1
  simpa using h1

set_option maxHeartbeats 400000 in
theorem index_any {K : Nat → Prop} (xs : List ByteArray) (n : Nat) (hn : xs.length = n) (o : Option Addr) (cap : Nat) (s : ByteArray) (w : World) (hl : xs.length ≤ maxLen) (hm : RowOf K w strR 1 o xs) :
    Calls Tryz.prog 121 #[.slice o n cap, .string s] w fun e w' => ∃ r : Int, e = .returned (.int .i64 r) ∧ decide (0 ≤ r) = alikeB xs s ∧ w' = w := by
  subst hn
  have HM := hide hm
  have hl2 : xs.length ≤ 9223372036854775807 := hl
  clear hm hl
  go_enter Tryz.func121, Tryz.ntmps121
  go_wp2
  go_loop [8] (fun i => ∃ k : Nat, k ≤ xs.length ∧ i = .int .i64 k ∧ alikeB (xs.take k) s = false) (fun i => xs.length - (intOf i).toNat)
  case atStart => exact ⟨0, Nat.zero_le _, rfl, rfl⟩
  case round =>
    obtain ⟨k, hk, rfl, hnone⟩ := hrel
    have HN := hide hnone
    clear hnone
    by_cases hlt : k < xs.length
    · have hne : xs ≠ [] := by intro e; rw [e] at hlt; simp at hlt
      obtain ⟨b, off, eo, -, -, hcs⟩ := HM.out hne
      subst eo
      obtain ⟨z, hz⟩ : ∃ z, xs[k]? = some z := ⟨xs[k], List.getElem?_eq_getElem hlt⟩
      obtain ⟨_, -, hkey, rfl, -⟩ := hcs k _ hz
      have q0 := hkey 0 _ rfl
      rw [Nat.mul_one, Nat.add_zero] at q0
      have HZ := hide hz
      clear hcs hne hkey hz
      cases hq : (s.toList == z.toList)
      · go_wp2
        have hq2 := hq
        exact ⟨⟨k + 1, by omega, by go_num, alike_turn HZ.out HN.out hq2⟩, by simp [intOf]; omega⟩
      · go_wp2
        go_ret
        refine ⟨k, rfl, ?_, rfl⟩
        have hy : alikeB xs s = true := by
          unfold alikeB
          rw [List.any_eq_true]
          exact ⟨z, List.mem_of_getElem? HZ.out, by rw [beq_turn]; exact hq⟩
        rw [hy]
        exact decide_eq_true (by omega)
    · go_wp2
      go_ret
      refine ⟨-1, rfl, ?_, rfl⟩
      have h := HN.out
      rw [List.take_of_length_le (by omega)] at h
      rw [h]
      rfl

set_option maxHeartbeats 400000 in
theorem contains_any {K : Nat → Prop} (xs : List ByteArray) (n : Nat) (hn : xs.length = n) (o : Option Addr) (cap : Nat) (s : ByteArray) (w : World) (hl : xs.length ≤ maxLen) (hm : RowOf K w strR 1 o xs) :
    Calls Tryz.prog 92 #[.slice o n cap, .string s] w fun e w' => e = .returned (.bool (alikeB xs s)) ∧ w' = w := by
  have HM := hide hm
  clear hm
  go_enter Tryz.func92, Tryz.ntmps92
  go_wp2_with fail
  refine (index_any xs n hn o cap s _ hl HM.out).mono ?_
  rintro e w1 ⟨r, rfl, hr, rfl⟩
  have HR := hide hr
  clear hr
  go_wp2
  go_ret
  exact ⟨ret_bool HR.out, rfl⟩

set_option maxHeartbeats 1000000 in
set_option maxRecDepth 100000 in
theorem noTwo_any {K : Nat → Prop} (xs : List ByteArray) (n : Nat) (hn : xs.length = n) (o : Option Addr) (cap : Nat) (w : World) (hl : xs.length ≤ maxLen) (hc : xs.length ≤ cap) (hm : RowOf K w strR 1 o xs) :
    Calls Tryz.prog 63 #[.slice o n cap] w fun e w' => e = .returned (.bool (noTwoB xs)) ∧ w' = w := by
  subst hn
  have HM := hide hm
  have hl2 : xs.length ≤ 9223372036854775807 := hl
  have HL := hide hl
  clear hm hl
  go_enter Tryz.func63, Tryz.ntmps63
  go_wp2
  go_loop [7] (fun t => ∃ k : Nat, k ≤ xs.length ∧ t = .int .i64 k ∧ noTwoTo xs k = true) (fun t => xs.length - (intOf t).toNat)
  case atStart => exact ⟨0, Nat.zero_le _, rfl, rfl⟩
  case round =>
    obtain ⟨k, hk, rfl, hv⟩ := hrel
    have HV := hide hv
    clear hv
    by_cases hlt : k < xs.length
    · have hne : xs ≠ [] := by intro e; rw [e] at hlt; simp at hlt
      obtain ⟨b, off, eo, -, -, hcs⟩ := HM.out hne
      subst eo
      obtain ⟨x, hx⟩ : ∃ x, xs[k]? = some x := ⟨xs[k], List.getElem?_eq_getElem hlt⟩
      obtain ⟨_, -, hkey, rfl, hxs⟩ := hcs k _ hx
      have q0 := hkey 0 _ rfl
      rw [Nat.mul_one, Nat.add_zero] at q0
      have HX := hide (atZ_of hx)
      clear hcs hne hkey hx hxs
      have hlt2 : (k : Int) < xs.length := by omega
      have hkc : (k : Int) ≤ cap := by omega
      cases hu : isU x
      · have hu2 : (x.toList != [95]) = true := by show (!(isU x)) = true; rw [hu]; rfl
        have hu3 : (x.toList == [95]) = false := hu
        have HU := hide hu
        clear hu
        cases ha : alikeB (xs.take k) x
        all_goals
          have HA := hide ha
          clear ha
          go_wp2_with fail
          refine (contains_any (xs.take k) k (by rw [List.length_take]; omega) _ cap x _ (by rw [List.length_take]; exact Nat.le_trans (Nat.min_le_right _ _) HL.out) (HM.out.take k)).mono ?_
          rintro e w1 ⟨rfl, rfl⟩
          rw [HA.out]
          go_wp2
        · refine ⟨⟨k + 1, by omega, by go_num, ?_⟩, by simp [intOf]; omega⟩
          show (noTwoTo xs k && _) = true
          rw [HX.out, HU.out, HA.out, HV.out]
          rfl
        · go_ret
          refine ⟨ret_bool ?_, rfl⟩
          have hf : noTwoTo xs (k + 1) = false := by
            show (noTwoTo xs k && _) = false
            rw [HX.out, HU.out, HA.out]
            simp
          unfold noTwoB
          rw [noTwoTo_false hf hlt]
      · have hu2 : (x.toList != [95]) = false := by show (!(isU x)) = false; rw [hu]; rfl
        have hu3 : (x.toList == [95]) = true := hu
        have HU := hide hu
        clear hu
        go_wp2
        refine ⟨⟨k + 1, by omega, by go_num, ?_⟩, by simp [intOf]; omega⟩
        show (noTwoTo xs k && _) = true
        rw [HX.out, HU.out, HV.out]
        rfl
    · go_wp2
      go_ret
      refine ⟨ret_bool ?_, rfl⟩
      have hk2 : k = xs.length := by omega
      have h := HV.out
      rw [hk2] at h
      unfold noTwoB
      rw [h]

set_option maxHeartbeats 400000 in
theorem isOp_any (s : ByteArray) (w : World) : Calls Tryz.prog 150 #[.string s] w fun e w' => e = .returned (.bool (opB s)) ∧ w' = w := by
  go_enter Tryz.func150, Tryz.ntmps150
  go_wp2
  all_goals
    go_ret
    refine ⟨ret_bool ?_, rfl⟩
    unfold opB
    simp_all

set_option maxHeartbeats 400000 in
theorem indexFunc_any {K : Nat → Prop} (xs : List ByteArray) (o : Option Addr) (cap : Nat) (w : World) (hl : xs.length ≤ maxLen) (hm : RowOf K w strR 1 o xs) :
    Calls Tryz.prog 141 #[.slice o xs.length cap, .func (.func 125) #[] #[]] w fun e w' => ∃ r : Int, e = .returned (.int .i64 r) ∧ decide (0 ≤ r) = !parTo xs xs.length ∧ Below w.heap.size w w' := by
  have HM := hide hm
  have hl2 : xs.length ≤ 9223372036854775807 := hl
  clear hm hl
  go_enter Tryz.func141, Tryz.ntmps141
  go_wp2
  go_loopw [8] (fun t wr => ∃ k : Nat, k ≤ xs.length ∧ t = .int .i64 k ∧ parTo xs k = true ∧ Below w.heap.size w wr) (fun t _ => xs.length - (intOf t).toNat)
  case atStart => exact ⟨0, Nat.zero_le _, rfl, rfl, Below.refl _ _⟩
  case round =>
    obtain ⟨k, hk, rfl, hp, hbw⟩ := hrel
    have HP := hide hp
    have HBW := hide hbw
    clear hp hbw
    by_cases hlt : k < xs.length
    · have hne : xs ≠ [] := by intro e; rw [e] at hlt; simp at hlt
      obtain ⟨b, off, eo, -, -, hcs⟩ := (HM.out.later HBW.out fun _ _ h => h) hne
      subst eo
      obtain ⟨x, hx⟩ : ∃ x, xs[k]? = some x := ⟨xs[k], List.getElem?_eq_getElem hlt⟩
      obtain ⟨_, -, hkey, rfl, hxs⟩ := hcs k _ hx
      have q0 := hkey 0 _ rfl
      rw [Nat.mul_one, Nat.add_zero] at q0
      have HX := hide (atZ_of hx)
      have HXS := hide hxs
      clear hcs hne hkey hx hxs
      have hlt2 : (k : Int) < xs.length := by omega
      cases hpb : parB x
      all_goals
        have HPB := hide hpb
        clear hpb
        go_wp2_with fail
        refine (isNoPar_any x _ HXS.out).mono ?_
        rintro e w1 ⟨rfl, hb⟩
        rw [HPB.out]
        have HB := hide (HBW.out.trans (hb.mono HBW.out.size))
        clear hb
        go_wp2
      · go_ret
        refine ⟨k, rfl, ?_, HB.out⟩
        have hf : parTo xs (k + 1) = false := by
          show (parTo xs k && parB (atZ xs k)) = false
          rw [HX.out, HPB.out]
          simp
        rw [parTo_false hf hlt]
        exact decide_eq_true (by omega)
      · refine ⟨⟨k + 1, by omega, by go_num, ?_, HB.out⟩, by simp [intOf]; omega⟩
        show (parTo xs k && parB (atZ xs k)) = true
        rw [HX.out, HPB.out, HP.out]
        rfl
    · go_wp2
      go_ret
      refine ⟨-1, rfl, ?_, HBW.out⟩
      have h := HP.out
      rw [show k = xs.length by omega] at h
      rw [h]
      rfl

set_option maxHeartbeats 400000 in
theorem containsFunc_any {K : Nat → Prop} (xs : List ByteArray) (o : Option Addr) (cap : Nat) (w : World) (hl : xs.length ≤ maxLen) (hm : RowOf K w strR 1 o xs) :
    Calls Tryz.prog 124 #[.slice o xs.length cap, .func (.func 125) #[] #[]] w fun e w' => e = .returned (.bool (!parTo xs xs.length)) ∧ Below w.heap.size w w' := by
  have HM := hide hm
  clear hm
  go_enter Tryz.func124, Tryz.ntmps124
  go_wp2_with fail
  refine (indexFunc_any xs o cap _ hl HM.out).mono ?_
  rintro e w1 ⟨r, rfl, hr, hb⟩
  have HR := hide hr
  have HB := hide hb
  clear hr hb
  go_wp2
  go_ret
  exact ⟨ret_bool HR.out, HB.out⟩

set_option maxHeartbeats 400000 in
theorem parsOk_any {K : Nat → Prop} (xs : List ByteArray) (o : Option Addr) (cap : Nat) (w : World) (hl : xs.length ≤ maxLen) (hc : xs.length ≤ cap) (hm : RowOf K w strR 1 o xs) :
    Calls Tryz.prog 94 #[.slice o xs.length cap] w fun e w' => e = .returned (.bool (varsB xs)) ∧ Below w.heap.size w w' := by
  have HM := hide hm
  have hl2 : xs.length ≤ 9223372036854775807 := hl
  have HL := hide hl
  clear hm hl
  by_cases h4 : (xs.length : Int) ≤ 4
  · cases hp : parTo xs xs.length
    all_goals
      have HP := hide hp
      clear hp
      go_enter Tryz.func94, Tryz.ntmps94
      go_wp2_with fail
      refine (containsFunc_any xs o cap _ HL.out HM.out).mono ?_
      rintro e w1 ⟨rfl, hb⟩
      rw [HP.out]
      have HB := hide hb
      clear hb
    · go_wp2
      go_ret
      refine ⟨ret_bool ?_, HB.out⟩
      unfold varsB
      rw [to_vars, HP.out]
      rfl
    · go_wp2_with fail
      refine (noTwo_any xs xs.length rfl o cap _ HL.out hc (HM.out.later HB.out fun _ _ h => h)).mono ?_
      rintro e w2 ⟨rfl, rfl⟩
      go_wp2
      go_ret
      refine ⟨ret_bool ?_, HB.out⟩
      unfold varsB noTwoB
      rw [to_vars, HP.out, decide_eq_true h4]
      simp
  · go_enter Tryz.func94, Tryz.ntmps94
    go_wp2
    go_ret
    refine ⟨ret_bool ?_, Below.refl _ _⟩
    unfold varsB
    rw [decide_eq_false (show ¬ (xs.length : Int) ≤ 4 by omega)]
    simp

set_option maxHeartbeats 800000 in
set_option maxRecDepth 100000 in
theorem patOk_any {K : Nat → Prop} {w : World} {h : Nat} {x : Tr} {cs : List Value} (hr : (reads K w h).al x cs) :
    Calls Tryz.prog 155 #[.agg cs.toArray] w fun e w' => e = .returned (.bool (altB x)) ∧ Below w.heap.size w w' := by
  cases h with
  | zero => exact hr.elim
  | succ h =>
  obtain ⟨-, -, -, -, y, o1, c1, ce, -, rfl, hs, hl, q1, hce, -⟩ := hr
  obtain ⟨a0, a1, a2, a3, a4, a5, rfl⟩ := six hce
  simp only [List.cons_append, List.nil_append]
  have Q1 := hide q1
  have HL := hide hl
  have HS := hide hs
  have hl2 : x.ss.length ≤ 9223372036854775807 := hl.1
  clear q1 hl hs hce
  have HX0 : Hid ((w.alloc (.cells #[.string x.s, .slice o1 x.ss.length c1, a0, a1, a2, a3, a4, a5] 144)).heap[w.heap.size]? = some (.cells #[.string x.s, .slice o1 x.ss.length c1, a0, a1, a2, a3, a4, a5] 144 (0, 0))) := heap_alloc_new w _
  have HB0 : Hid (Below w.heap.size w (w.alloc (.cells #[.string x.s, .slice o1 x.ss.length c1, a0, a1, a2, a3, a4, a5] 144))) := (Below.refl _ w).alloc (Nat.le_refl _) _
  cases hm : emptyB x.s
  · have hm2 : (x.s.toList == []) = false := hm
    have hm3 : (x.s.toList != []) = true := by show (!(emptyB x.s)) = true; rw [hm]; rfl
    have HM := hide hm
    clear hm
    cases hg : grB x.s
    all_goals
      have HG : Hid (greatB x.s.data.toList = _) := hg
      have HG2 := hide hg
      clear hg
      go_enter Tryz.func155, Tryz.ntmps155
      go_wp2_with fail
      refine (implGreat_any _ _ HS.out).mono ?_
      rintro e w1 ⟨rfl, hb⟩
      rw [HG.out]
      have HB1 := hide (HB0.out.trans (hb.mono HB0.out.size))
      have HX1 := hide ((hb.block w.heap.size (heap_lt HX0.out)).trans HX0.out)
      clear hb
      have b1_1 := cell_of HX1.out 1
      simp only [List.getElem?_toArray, List.getElem?_cons_succ, List.getElem?_cons_zero] at b1_1
    · go_wp2
      go_ret
      refine ⟨ret_bool ?_, HB1.out⟩
      unfold altB
      rw [HG2.out, HM.out]
      simp
    · go_wp2_with fail
      refine (parsOk_any x.ss o1 c1 _ HL.out.1 HL.out.2 (Q1.out.later HB1.out fun _ _ h => h)).mono ?_
      rintro e w2 ⟨rfl, hb⟩
      have HB2 := hide (HB1.out.trans (hb.mono HB1.out.size))
      clear hb
      go_wp2
      go_ret
      refine ⟨ret_bool ?_, HB2.out⟩
      unfold altB
      rw [HG2.out]
      simp
  · have hm2 : (x.s.toList == []) = true := hm
    have hm3 : (x.s.toList != []) = false := by show (!(emptyB x.s)) = false; rw [hm]; rfl
    have HM := hide hm
    have HGR : Hid (grB x.s = false) := by
      show greatB x.s.data.toList = false
      have e : x.s.data.toList = [] := by rw [← toList_data]; exact eq_of_beq hm
      rw [e]
      decide
    clear hm
    by_cases h1 : (x.ss.length : Int) = 1
    · have h2 : ((x.ss.length : Int) != 1) = false := by simpa using h1
      have H1 := hide h1
      clear h1
      go_enter Tryz.func155, Tryz.ntmps155
      go_wp2_with fail
      refine (parsOk_any x.ss o1 c1 _ HL.out.1 HL.out.2 (Q1.out.later HB0.out fun _ _ h => h)).mono ?_
      rintro e w2 ⟨rfl, hb⟩
      have HB2 := hide (HB0.out.trans (hb.mono HB0.out.size))
      clear hb
      go_wp2
      go_ret
      refine ⟨ret_bool ?_, HB2.out⟩
      unfold altB
      rw [HM.out, decide_eq_true H1.out]
      simp
    · have h2 : ((x.ss.length : Int) != 1) = true := by simpa using h1
      have H1 := hide h1
      clear h1
      go_enter Tryz.func155, Tryz.ntmps155
      go_wp2
      go_ret
      refine ⟨ret_bool ?_, HB0.out⟩
      unfold altB
      rw [HGR.out, decide_eq_false H1.out]
      simp
end Go.Proofs.YteoghpefilghdakGreatDoor

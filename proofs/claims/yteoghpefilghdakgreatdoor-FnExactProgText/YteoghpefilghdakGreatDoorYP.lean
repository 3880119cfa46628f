/- The program's check of expressions, whole; its ExpOk. -/
import Derived.Test.YteoghpefilghdakGreatDoorYN
import Derived.Test.YteoghpefilghdakGreatDoorYO
namespace Go.Proofs.YteoghpefilghdakGreatDoor
open Go.ChangeShapes Go.WideShapes Go.ChangeAt Go.RowKit

theorem fin_a (T L : Bool) (n s : Nat) : (T && (L && decide (n + 1 + s ≤ 200))) = ((T && (L && (true && true))) && decide (n + (1 + s + 0 + 0) ≤ 200)) := by
  rw [show n + 1 + s = n + (1 + s + 0 + 0) by omega]
  cases T <;> cases L <;> simp
theorem fin_6 (D L : Bool) (n sD sY : Nat) : ((D && decide (n + 1 + sD ≤ 200)) && (L && decide (n + 1 + sD + sY ≤ 200))) = ((true && (L && (true && D))) && decide (n + (1 + sY + 0 + sD) ≤ 200)) := by
  rw [show n + 1 + sD + sY = n + (1 + sY + 0 + sD) by omega]
  by_cases h : n + (1 + sY + 0 + sD) ≤ 200
  · rw [decide_eq_true h, decide_eq_true (show n + 1 + sD ≤ 200 by omega)]
    cases D <;> cases L <;> rfl
  · rw [decide_eq_false h]
    cases D <;> cases L <;> simp
theorem fin_7 (I L A : Bool) (n sY sA : Nat) : ((L && decide (n + 1 + sY ≤ 200)) && (I && (A && decide (n + 1 + sY + sA ≤ 200)))) = ((I && (L && (A && true))) && decide (n + (1 + sY + sA + 0) ≤ 200)) := by
  rw [show n + 1 + sY + sA = n + (1 + sY + sA + 0) by omega]
  by_cases h : n + (1 + sY + sA + 0) ≤ 200
  · rw [decide_eq_true h, decide_eq_true (show n + 1 + sY ≤ 200 by omega)]
    cases I <;> cases L <;> cases A <;> rfl
  · rw [decide_eq_false h]
    cases I <;> cases L <;> cases A <;> simp
theorem len1 {l : List Tr} (h : l.length = 1) : ∃ y, l = [y] := by
  match l, h with
  | [y], _ => exact ⟨y, rfl⟩
theorem len2 {l : List Tr} (h : l.length = 2) : ∃ y z, l = [y, z] := by
  match l, h with
  | [y, z], _ => exact ⟨y, z, rfl⟩
theorem len3 {l : List Tr} (h : l.length = 3) : ∃ y z q, l = [y, z, q] := by
  match l, h with
  | [y, z, q], _ => exact ⟨y, z, q, rfl⟩
theorem outl_true {s t : ByteArray} {n m : Int} {u1 v1 u2 v2 u3 v3 : Nat} (h : outl s t n m u1 v1 u2 v2 u3 v3 = true) : u1 = v1 ∧ u2 = v2 ∧ u3 = v3 := by
  unfold outl at h
  simp only [Bool.and_eq_true, decide_eq_true_eq] at h
  exact ⟨h.2.2.1, h.2.2.2.1, h.2.2.2.2⟩
theorem okx {h : Nat} {x : Tr} {d : Int} (hd : d ≤ 12) : (okz (h + 1)).ex x d = (hereB x && (allZ (okz h).ex x.l (d + 1) && (allZ (fun a d => altB a && (okz h).al a d) x.al (d + 1) && (decide (x.k ≠ 6) || decsB (okz h).de x.ds 6 (d + 1))))) := by
  show (decide (d ≤ 12) && _) = _
  rw [decide_eq_true hd, Bool.true_and]
theorem kp_cell {B cb : Nat} {w W : World} (hk : Kp B cb w W) {b j : Nat} {v : Value} (hb : b < B) (hn : b ≠ cb) (h : w.cell? ⟨b, j, none⟩ = some v) : W.cell? ⟨b, j, none⟩ = some v :=
  (World.cell?_of_block (a := ⟨b, j, none⟩) (hk.block b hb hn)).trans h

set_option maxHeartbeats 2000000 in
theorem expOk_step {h : Nat} (iP : ChPs h) (iD : ChDs h) (iA : ChAs h) : ChEx (h + 1) := by
  intro x cs w cb n d hr hc hn h0 h1
  obtain ⟨-, o1, c1, o2, c2, o3, c3, rfl, hs, hl, hd, ha, q1, q2, q3⟩ := hr
  have cnx : (cnt (h + 1)).ex x = 1 + sumZ (cnt h).ex x.l + sumZ (cnt h).al x.al + sumZ (cnt h).de x.ds := rfl
  by_cases hdeep : 12 < d ∨ n = 200
  · refine calls_to (expOk_deep x.k x.s x.n o1 o2 o3 x.l.length c1 x.ds.length c2 x.al.length c3 cb n d w hc hn hdeep) ?_ fun hx => ?_
    · rcases hdeep with hd1 | hd1
      · have : (okz (h + 1)).ex x d = false := by
          show (decide (d ≤ 12) && _) = false
          rw [decide_eq_false (by omega)]
          rfl
        rw [this]
        rfl
      · rw [cnx, decide_eq_false (show ¬ n + (1 + sumZ (cnt h).ex x.l + sumZ (cnt h).al x.al + sumZ (cnt h).de x.ds) ≤ 200 by omega), Bool.and_false]
    · exfalso
      rcases hdeep with hd1 | hd1
      · have h2 : (okz (h + 1)).ex x d = false := by
          show (decide (d ≤ 12) && _) = false
          rw [decide_eq_false (by omega)]
          rfl
        rw [h2] at hx
        cases hx
      · rw [cnx, decide_eq_false (show ¬ n + (1 + sumZ (cnt h).ex x.l + sumZ (cnt h).al x.al + sumZ (cnt h).de x.ds) ≤ 200 by omega), Bool.and_false] at hx
        cases hx
  have hd1 : d ≤ 12 := by omega
  have hn1 : n < 200 := by omega
  have no : (∀ W, Kp w.heap.size cb w W → Calls Tryz.prog 69 #[.agg #[.int .i64 x.k, .string x.s, .int .i64 x.n, .slice o1 x.l.length c1, .slice o2 x.ds.length c2, .slice o3 x.al.length c3]] W fun e w' => e = .returned .nilIface ∧ Below W.heap.size W w') → hereB x = false → Calls Tryz.prog 126 #[.pointer (some ⟨cb, 0, none⟩), .agg #[.int .i64 x.k, .string x.s, .int .i64 x.n, .slice o1 x.l.length c1, .slice o2 x.ds.length c2, .slice o3 x.al.length c3], .int .i64 d] w (Cres cb n w ((okz (h + 1)).ex x d && decide (n + (cnt (h + 1)).ex x ≤ 200)) ((cnt (h + 1)).ex x)) := by
    intro hf hh
    have hz : ((okz (h + 1)).ex x d && decide (n + (cnt (h + 1)).ex x ≤ 200)) = false := by rw [okx hd1, hh]; rfl
    refine calls_to (expOk_gen x.k x.s x.n o1 o2 o3 x.l.length c1 x.ds.length c2 x.al.length c3 cb n d w .nilIface false 0 hc hn1 hd1 hf fun W hk hct => ?_) hz.symm (fun hx => by rw [hz] at hx; cases hx)
    refine (formOk_nil cb d W).mono ?_
    rintro e w' ⟨rfl, rfl⟩
    exact ⟨n + 1, rfl, hct, (fun hx => by cases hx), Kp.refl _ _ _⟩
  by_cases hk9 : 1 ≤ x.k ∧ x.k ≤ 9
  case neg => exact no (fun W _ => formOf_nil x.k x.s x.n o1 _ c1 o2 _ c2 o3 _ c3 W fun w' => kind_none x.k x.s x.n o1 _ c1 o2 _ c2 o3 _ c3 hk9 hl.1 w') (here_none hk9)
  have hks : x.k = 1 ∨ x.k = 2 ∨ x.k = 3 ∨ x.k = 4 ∨ x.k = 5 ∨ x.k = 6 ∨ x.k = 7 ∨ x.k = 8 ∨ x.k = 9 := by omega
  rcases hks with hk | hk | hk | hk | hk | hk | hk | hk | hk
  · have hh := here_1 hk 
    cases ho : outl x.s x.s 0 x.n 0 x.l.length 0 x.ds.length 0 x.al.length
    · rw [ho, Bool.false_and] at hh
      refine no (fun W hk2 => ?_) hh
      rw [hk]
      exact form1_no x.s x.n o1 x.l.length c1 o2 x.ds.length c2 o3 x.al.length c3  W  ho
    · rw [ho, Bool.true_and] at hh
      obtain ⟨e1, e2, e3⟩ := outl_true ho
      have hal : x.al = [] := List.length_eq_zero_iff.1 e3.symm
      have hds : x.ds = [] := List.length_eq_zero_iff.1 e2.symm
      have hxl : x.l = [] := List.length_eq_zero_iff.1 e1.symm
      have heq : (nmB x.s) = ((okz (h + 1)).ex x d && decide (n + (cnt (h + 1)).ex x ≤ 200)) := by
        rw [okx hd1, cnx, hh, hk, hxl, hal, hds]
        have hone : decide (n + (1 + sumZ (cnt h).ex [] + sumZ (cnt h).al [] + sumZ (cnt h).de []) ≤ 200) = true := decide_eq_true (by simp [sumZ]; omega)
        rw [hone]
        simp [allZ]
      have hcq : 1 + (0) = (cnt (h + 1)).ex x := by
        rw [cnx, hxl, hal, hds]
        simp [sumZ]
      have key := expOk_gen 1 x.s x.n o1 o2 o3 x.l.length c1 x.ds.length c2 x.al.length c3 cb n d w (.iface 157 (.agg #[.string x.s])) (nmB x.s) (0) hc hn1 hd1 (fun W hk2 => form1_yes x.s x.n o1 x.l.length c1 o2 x.ds.length c2 o3 x.al.length c3  W  ho) (fun W hk2 hct => by
        refine (formOk_1 cb x.s hs d W).mono ?_
        rintro e w' ⟨rfl, hb⟩
        exact ⟨n + 1, rfl, hct.later hb, fun _ => rfl, Kp.of hb⟩)
      have key2 := calls_to key heq (fun _ => hcq)
      rw [hk]
      exact key2
  · have hh := here_2 hk 
    cases ho : outl x.s x.s 0 x.n 0 x.l.length 0 x.ds.length 0 x.al.length
    · rw [ho, Bool.false_and] at hh
      refine no (fun W hk2 => ?_) hh
      rw [hk]
      exact form2_no x.s x.n o1 x.l.length c1 o2 x.ds.length c2 o3 x.al.length c3  W  ho
    · rw [ho, Bool.true_and] at hh
      obtain ⟨e1, e2, e3⟩ := outl_true ho
      have hal : x.al = [] := List.length_eq_zero_iff.1 e3.symm
      have hds : x.ds = [] := List.length_eq_zero_iff.1 e2.symm
      have hxl : x.l = [] := List.length_eq_zero_iff.1 e1.symm
      have heq : (grB x.s) = ((okz (h + 1)).ex x d && decide (n + (cnt (h + 1)).ex x ≤ 200)) := by
        rw [okx hd1, cnx, hh, hk, hxl, hal, hds]
        have hone : decide (n + (1 + sumZ (cnt h).ex [] + sumZ (cnt h).al [] + sumZ (cnt h).de []) ≤ 200) = true := decide_eq_true (by simp [sumZ]; omega)
        rw [hone]
        simp [allZ]
      have hcq : 1 + (0) = (cnt (h + 1)).ex x := by
        rw [cnx, hxl, hal, hds]
        simp [sumZ]
      have key := expOk_gen 2 x.s x.n o1 o2 o3 x.l.length c1 x.ds.length c2 x.al.length c3 cb n d w (.iface 158 (.agg #[.string x.s])) (grB x.s) (0) hc hn1 hd1 (fun W hk2 => form2_yes x.s x.n o1 x.l.length c1 o2 x.ds.length c2 o3 x.al.length c3  W  ho) (fun W hk2 hct => by
        refine (formOk_2 cb x.s hs d W).mono ?_
        rintro e w' ⟨rfl, hb⟩
        exact ⟨n + 1, rfl, hct.later hb, fun _ => rfl, Kp.of hb⟩)
      have key2 := calls_to key heq (fun _ => hcq)
      rw [hk]
      exact key2
  · have hh := here_3 hk 
    cases ho : outl ⟨#[]⟩ x.s x.n x.n 0 x.l.length 0 x.ds.length 0 x.al.length
    · rw [ho, Bool.false_and] at hh
      refine no (fun W hk2 => ?_) hh
      rw [hk]
      exact form3_no x.s x.n o1 x.l.length c1 o2 x.ds.length c2 o3 x.al.length c3  W  ho
    · rw [ho, Bool.true_and] at hh
      obtain ⟨e1, e2, e3⟩ := outl_true ho
      have hal : x.al = [] := List.length_eq_zero_iff.1 e3.symm
      have hds : x.ds = [] := List.length_eq_zero_iff.1 e2.symm
      have hxl : x.l = [] := List.length_eq_zero_iff.1 e1.symm
      have heq : (inB x.n 0 999999) = ((okz (h + 1)).ex x d && decide (n + (cnt (h + 1)).ex x ≤ 200)) := by
        rw [okx hd1, cnx, hh, hk, hxl, hal, hds]
        have hone : decide (n + (1 + sumZ (cnt h).ex [] + sumZ (cnt h).al [] + sumZ (cnt h).de []) ≤ 200) = true := decide_eq_true (by simp [sumZ]; omega)
        rw [hone]
        simp [allZ]
      have hcq : 1 + (0) = (cnt (h + 1)).ex x := by
        rw [cnx, hxl, hal, hds]
        simp [sumZ]
      have key := expOk_gen 3 x.s x.n o1 o2 o3 x.l.length c1 x.ds.length c2 x.al.length c3 cb n d w (.iface 160 (.agg #[.int .i64 x.n])) (inB x.n 0 999999) (0) hc hn1 hd1 (fun W hk2 => form3_yes x.s x.n o1 x.l.length c1 o2 x.ds.length c2 o3 x.al.length c3  W  ho) (fun W hk2 hct => by
        refine (formOk_3 cb x.n d W).mono ?_
        rintro e w' ⟨rfl, hb⟩
        exact ⟨n + 1, rfl, hct.later hb, fun _ => rfl, Kp.of hb⟩)
      have key2 := calls_to key heq (fun _ => hcq)
      rw [hk]
      exact key2
  · by_cases hl1 : x.l.length = 2
    case neg => exact no (fun W _ => formOf_nil x.k x.s x.n o1 _ c1 o2 _ c2 o3 _ c3 W fun w' => by rw [hk]; exact kind4_no x.s x.n o1 _ c1 o2 _ c2 o3 _ c3 hl1 hl.1 w') (here_len (n := 2) (by rw [hk]; decide) hl1)
    obtain ⟨y, z, hxl⟩ := len2 hl1
    obtain ⟨b, off, eo, hbn, hbl, hcs⟩ := q1 (by rw [hxl]; simp)
    subst eo
    obtain ⟨cs0, -, hky0, re0⟩ := hcs 0 y (by rw [hxl]; rfl)
    obtain ⟨p01, g01, p02, g02, p03, g03, rfl⟩ := ex_form re0
    obtain ⟨cs1, -, hky1, re1⟩ := hcs 1 z (by rw [hxl]; rfl)
    obtain ⟨p11, g11, p12, g12, p13, g13, rfl⟩ := ex_form re1
    have hh := here_4 hk hl1
    cases ho : outl ⟨#[]⟩ x.s 0 x.n 2 2 0 x.ds.length 0 x.al.length
    · rw [ho, Bool.false_and] at hh
      refine no (fun W hk2 => ?_) hh
      rw [hk, hl1]
      exact form4_no x.s x.n b off c1 o2 x.ds.length c2 o3 x.al.length c3 _ _ _ _ _ _ _ _ _ _ _ _ W (kp_cell hk2 hbl hbn (hky0 0 _ rfl)) (kp_cell hk2 hbl hbn (hky0 1 _ rfl)) (kp_cell hk2 hbl hbn (hky0 2 _ rfl)) (kp_cell hk2 hbl hbn (hky0 3 _ rfl)) (kp_cell hk2 hbl hbn (hky0 4 _ rfl)) (kp_cell hk2 hbl hbn (hky0 5 _ rfl)) (kp_cell hk2 hbl hbn (hky1 0 _ rfl)) (kp_cell hk2 hbl hbn (hky1 1 _ rfl)) (kp_cell hk2 hbl hbn (hky1 2 _ rfl)) (kp_cell hk2 hbl hbn (hky1 3 _ rfl)) (kp_cell hk2 hbl hbn (hky1 4 _ rfl)) (kp_cell hk2 hbl hbn (hky1 5 _ rfl)) ho
    · rw [ho, Bool.true_and] at hh
      obtain ⟨e1, e2, e3⟩ := outl_true ho
      have hal : x.al = [] := List.length_eq_zero_iff.1 e3.symm
      have hds : x.ds = [] := List.length_eq_zero_iff.1 e2.symm
      have heq : (goodB (okz h).ex (cnt h).ex [y, z] (d + 1) (n + 1)) = ((okz (h + 1)).ex x d && decide (n + (cnt (h + 1)).ex x ≤ 200)) := by
        rw [okx hd1, cnx, hh, hk, hxl, hal, hds]
        exact fin_a true _ n _
      have hcq : 1 + (sumZ (cnt h).ex [y, z]) = (cnt (h + 1)).ex x := by
        rw [cnx, hxl, hal, hds]
        simp only [sumZ, List.map_nil, List.sum_nil]
        omega
      have key := expOk_gen 4 x.s x.n (some ⟨b, off, none⟩) o2 o3 2 c1 x.ds.length c2 x.al.length c3 cb n d w (.iface 162 (.agg #[.int .i64 y.k, .string y.s, .int .i64 y.n, .slice p01 y.l.length g01, .slice p02 y.ds.length g02, .slice p03 y.al.length g03, .int .i64 z.k, .string z.s, .int .i64 z.n, .slice p11 z.l.length g11, .slice p12 z.ds.length g12, .slice p13 z.al.length g13])) (goodB (okz h).ex (cnt h).ex [y, z] (d + 1) (n + 1)) (sumZ (cnt h).ex [y, z]) hc hn1 hd1 (fun W hk2 => form4_yes x.s x.n b off c1 o2 x.ds.length c2 o3 x.al.length c3 _ _ _ _ _ _ _ _ _ _ _ _ W (kp_cell hk2 hbl hbn (hky0 0 _ rfl)) (kp_cell hk2 hbl hbn (hky0 1 _ rfl)) (kp_cell hk2 hbl hbn (hky0 2 _ rfl)) (kp_cell hk2 hbl hbn (hky0 3 _ rfl)) (kp_cell hk2 hbl hbn (hky0 4 _ rfl)) (kp_cell hk2 hbl hbn (hky0 5 _ rfl)) (kp_cell hk2 hbl hbn (hky1 0 _ rfl)) (kp_cell hk2 hbl hbn (hky1 1 _ rfl)) (kp_cell hk2 hbl hbn (hky1 2 _ rfl)) (kp_cell hk2 hbl hbn (hky1 3 _ rfl)) (kp_cell hk2 hbl hbn (hky1 4 _ rfl)) (kp_cell hk2 hbl hbn (hky1 5 _ rfl)) ho) (fun W hk2 hct => by
        exact formOk_4 iP y z _ _ _ _ _ _ _ _ _ _ _ _ cb (n + 1) d W ((reads_frame hk2.stays (fun _ h => h) h).1 _ _ re0) ((reads_frame hk2.stays (fun _ h => h) h).1 _ _ re1) hct (by omega) h0 hd1)
      have key2 := calls_to key heq (fun _ => hcq)
      rw [hk, hl1]
      exact key2
  · by_cases hl1 : x.l.length = 1
    case neg => exact no (fun W _ => formOf_nil x.k x.s x.n o1 _ c1 o2 _ c2 o3 _ c3 W fun w' => by rw [hk]; exact kind5_no x.s x.n o1 _ c1 o2 _ c2 o3 _ c3 hl1 hl.1 w') (here_len (n := 1) (by rw [hk]; decide) hl1)
    obtain ⟨y, hxl⟩ := len1 hl1
    obtain ⟨b, off, eo, hbn, hbl, hcs⟩ := q1 (by rw [hxl]; simp)
    subst eo
    obtain ⟨cs0, -, hky0, re0⟩ := hcs 0 y (by rw [hxl]; rfl)
    obtain ⟨p01, g01, p02, g02, p03, g03, rfl⟩ := ex_form re0
    have hh := here_5 hk hl1
    cases ho : outl x.s x.s 0 x.n 1 1 0 x.ds.length 0 x.al.length
    · rw [ho, Bool.false_and] at hh
      refine no (fun W hk2 => ?_) hh
      rw [hk, hl1]
      exact form5_no x.s x.n b off c1 o2 x.ds.length c2 o3 x.al.length c3 _ _ _ _ _ _ W (kp_cell hk2 hbl hbn (hky0 0 _ rfl)) (kp_cell hk2 hbl hbn (hky0 1 _ rfl)) (kp_cell hk2 hbl hbn (hky0 2 _ rfl)) (kp_cell hk2 hbl hbn (hky0 3 _ rfl)) (kp_cell hk2 hbl hbn (hky0 4 _ rfl)) (kp_cell hk2 hbl hbn (hky0 5 _ rfl)) ho
    · rw [ho, Bool.true_and] at hh
      obtain ⟨e1, e2, e3⟩ := outl_true ho
      have hal : x.al = [] := List.length_eq_zero_iff.1 e3.symm
      have hds : x.ds = [] := List.length_eq_zero_iff.1 e2.symm
      have heq : (parB x.s && goodB (okz h).ex (cnt h).ex [y] (d + 1) (n + 1)) = ((okz (h + 1)).ex x d && decide (n + (cnt (h + 1)).ex x ≤ 200)) := by
        rw [okx hd1, cnx, hh, hk, hxl, hal, hds]
        rw [show (nmB x.s || isU x.s) = parB x.s by unfold parB; rw [Bool.or_comm]]
        exact fin_a _ _ n _
      have hcq : 1 + (sumZ (cnt h).ex [y]) = (cnt (h + 1)).ex x := by
        rw [cnx, hxl, hal, hds]
        simp only [sumZ, List.map_nil, List.sum_nil]
        omega
      have key := expOk_gen 5 x.s x.n (some ⟨b, off, none⟩) o2 o3 1 c1 x.ds.length c2 x.al.length c3 cb n d w (.iface 165 (.agg #[.string x.s, .int .i64 y.k, .string y.s, .int .i64 y.n, .slice p01 y.l.length g01, .slice p02 y.ds.length g02, .slice p03 y.al.length g03])) (parB x.s && goodB (okz h).ex (cnt h).ex [y] (d + 1) (n + 1)) (sumZ (cnt h).ex [y]) hc hn1 hd1 (fun W hk2 => form5_yes x.s x.n b off c1 o2 x.ds.length c2 o3 x.al.length c3 _ _ _ _ _ _ W (kp_cell hk2 hbl hbn (hky0 0 _ rfl)) (kp_cell hk2 hbl hbn (hky0 1 _ rfl)) (kp_cell hk2 hbl hbn (hky0 2 _ rfl)) (kp_cell hk2 hbl hbn (hky0 3 _ rfl)) (kp_cell hk2 hbl hbn (hky0 4 _ rfl)) (kp_cell hk2 hbl hbn (hky0 5 _ rfl)) ho) (fun W hk2 hct => by
        exact formOk_5 iP x.s hs y _ _ _ _ _ _ cb (n + 1) d W ((reads_frame hk2.stays (fun _ h => h) h).1 _ _ re0) hct (by omega) h0 hd1)
      have key2 := calls_to key heq (fun _ => hcq)
      rw [hk, hl1]
      exact key2
  · by_cases hl1 : x.l.length = 1
    case neg => exact no (fun W _ => formOf_nil x.k x.s x.n o1 _ c1 o2 _ c2 o3 _ c3 W fun w' => by rw [hk]; exact kind6_no x.s x.n o1 _ c1 o2 _ c2 o3 _ c3 hl1 hl.1 w') (here_len (n := 1) (by rw [hk]; decide) hl1)
    obtain ⟨y, hxl⟩ := len1 hl1
    obtain ⟨b, off, eo, hbn, hbl, hcs⟩ := q1 (by rw [hxl]; simp)
    subst eo
    obtain ⟨cs0, -, hky0, re0⟩ := hcs 0 y (by rw [hxl]; rfl)
    obtain ⟨p01, g01, p02, g02, p03, g03, rfl⟩ := ex_form re0
    have hh := here_6 hk hl1
    cases ho : outl ⟨#[]⟩ x.s 0 x.n 1 1 x.ds.length x.ds.length 0 x.al.length
    · rw [ho, Bool.false_and] at hh
      refine no (fun W hk2 => ?_) hh
      rw [hk, hl1]
      exact form6_no x.s x.n b off c1 o2 x.ds.length c2 o3 x.al.length c3 _ _ _ _ _ _ W (kp_cell hk2 hbl hbn (hky0 0 _ rfl)) (kp_cell hk2 hbl hbn (hky0 1 _ rfl)) (kp_cell hk2 hbl hbn (hky0 2 _ rfl)) (kp_cell hk2 hbl hbn (hky0 3 _ rfl)) (kp_cell hk2 hbl hbn (hky0 4 _ rfl)) (kp_cell hk2 hbl hbn (hky0 5 _ rfl)) ho
    · rw [ho, Bool.true_and] at hh
      obtain ⟨e1, e2, e3⟩ := outl_true ho
      have hal : x.al = [] := List.length_eq_zero_iff.1 e3.symm
      have heq : ((decsB (okz h).de x.ds 6 (d + 1) && decide (n + 1 + sumZ (cnt h).de x.ds ≤ 200)) && goodB (okz h).ex (cnt h).ex [y] (d + 1) (n + 1 + sumZ (cnt h).de x.ds)) = ((okz (h + 1)).ex x d && decide (n + (cnt (h + 1)).ex x ≤ 200)) := by
        rw [okx hd1, cnx, hh, hk, hxl, hal]
        exact fin_6 _ _ n _ _
      have hcq : 1 + (sumZ (cnt h).de x.ds + sumZ (cnt h).ex [y]) = (cnt (h + 1)).ex x := by
        rw [cnx, hxl, hal]
        simp only [sumZ, List.map_nil, List.sum_nil]
        omega
      have key := expOk_gen 6 x.s x.n (some ⟨b, off, none⟩) o2 o3 1 c1 x.ds.length c2 x.al.length c3 cb n d w (.iface 167 (.agg #[.slice o2 x.ds.length c2, .int .i64 y.k, .string y.s, .int .i64 y.n, .slice p01 y.l.length g01, .slice p02 y.ds.length g02, .slice p03 y.al.length g03])) ((decsB (okz h).de x.ds 6 (d + 1) && decide (n + 1 + sumZ (cnt h).de x.ds ≤ 200)) && goodB (okz h).ex (cnt h).ex [y] (d + 1) (n + 1 + sumZ (cnt h).de x.ds)) (sumZ (cnt h).de x.ds + sumZ (cnt h).ex [y]) hc hn1 hd1 (fun W hk2 => form6_yes x.s x.n b off c1 o2 x.ds.length c2 o3 x.al.length c3 _ _ _ _ _ _ W (kp_cell hk2 hbl hbn (hky0 0 _ rfl)) (kp_cell hk2 hbl hbn (hky0 1 _ rfl)) (kp_cell hk2 hbl hbn (hky0 2 _ rfl)) (kp_cell hk2 hbl hbn (hky0 3 _ rfl)) (kp_cell hk2 hbl hbn (hky0 4 _ rfl)) (kp_cell hk2 hbl hbn (hky0 5 _ rfl)) ho) (fun W hk2 hct => by
        exact formOk_6 iP iD x.ds o2 c2 hd.1 y _ _ _ _ _ _ cb (n + 1) d W ((reads_frame hk2.stays (fun _ h => h) h).1 _ _ re0) (q2.frame hk2.stays (fun _ h => h) (reads_frame hk2.stays (fun _ h => h) h).2.1) hct (by omega) h0 hd1)
      have key2 := calls_to key heq (fun _ => hcq)
      rw [hk, hl1]
      exact key2
  · by_cases hl1 : x.l.length = 1
    case neg => exact no (fun W _ => formOf_nil x.k x.s x.n o1 _ c1 o2 _ c2 o3 _ c3 W fun w' => by rw [hk]; exact kind7_no x.s x.n o1 _ c1 o2 _ c2 o3 _ c3 hl1 hl.1 w') (here_len (n := 1) (by rw [hk]; decide) hl1)
    obtain ⟨y, hxl⟩ := len1 hl1
    obtain ⟨b, off, eo, hbn, hbl, hcs⟩ := q1 (by rw [hxl]; simp)
    subst eo
    obtain ⟨cs0, -, hky0, re0⟩ := hcs 0 y (by rw [hxl]; rfl)
    obtain ⟨p01, g01, p02, g02, p03, g03, rfl⟩ := ex_form re0
    have hh := here_7 hk hl1
    cases ho : outl ⟨#[]⟩ x.s 0 x.n 1 1 0 x.ds.length x.al.length x.al.length
    · rw [ho, Bool.false_and] at hh
      refine no (fun W hk2 => ?_) hh
      rw [hk, hl1]
      exact form7_no x.s x.n b off c1 o2 x.ds.length c2 o3 x.al.length c3 _ _ _ _ _ _ W (kp_cell hk2 hbl hbn (hky0 0 _ rfl)) (kp_cell hk2 hbl hbn (hky0 1 _ rfl)) (kp_cell hk2 hbl hbn (hky0 2 _ rfl)) (kp_cell hk2 hbl hbn (hky0 3 _ rfl)) (kp_cell hk2 hbl hbn (hky0 4 _ rfl)) (kp_cell hk2 hbl hbn (hky0 5 _ rfl)) ho
    · rw [ho, Bool.true_and] at hh
      obtain ⟨e1, e2, e3⟩ := outl_true ho
      have hds : x.ds = [] := List.length_eq_zero_iff.1 e2.symm
      have heq : (goodB (okz h).ex (cnt h).ex [y] (d + 1) (n + 1) && (inB x.al.length 1 6 && goodB (fun a d => altB a && (okz h).al a d) (cnt h).al x.al (d + 1) (n + 1 + sumZ (cnt h).ex [y]))) = ((okz (h + 1)).ex x d && decide (n + (cnt (h + 1)).ex x ≤ 200)) := by
        rw [okx hd1, cnx, hh, hk, hxl, hds]
        exact fin_7 _ _ _ n _ _
      have hcq : 1 + (sumZ (cnt h).ex [y] + sumZ (cnt h).al x.al) = (cnt (h + 1)).ex x := by
        rw [cnx, hxl, hds]
        simp only [sumZ, List.map_nil, List.sum_nil]
        omega
      have key := expOk_gen 7 x.s x.n (some ⟨b, off, none⟩) o2 o3 1 c1 x.ds.length c2 x.al.length c3 cb n d w (.iface 169 (.agg #[.int .i64 y.k, .string y.s, .int .i64 y.n, .slice p01 y.l.length g01, .slice p02 y.ds.length g02, .slice p03 y.al.length g03, .slice o3 x.al.length c3])) (goodB (okz h).ex (cnt h).ex [y] (d + 1) (n + 1) && (inB x.al.length 1 6 && goodB (fun a d => altB a && (okz h).al a d) (cnt h).al x.al (d + 1) (n + 1 + sumZ (cnt h).ex [y]))) (sumZ (cnt h).ex [y] + sumZ (cnt h).al x.al) hc hn1 hd1 (fun W hk2 => form7_yes x.s x.n b off c1 o2 x.ds.length c2 o3 x.al.length c3 _ _ _ _ _ _ W (kp_cell hk2 hbl hbn (hky0 0 _ rfl)) (kp_cell hk2 hbl hbn (hky0 1 _ rfl)) (kp_cell hk2 hbl hbn (hky0 2 _ rfl)) (kp_cell hk2 hbl hbn (hky0 3 _ rfl)) (kp_cell hk2 hbl hbn (hky0 4 _ rfl)) (kp_cell hk2 hbl hbn (hky0 5 _ rfl)) ho) (fun W hk2 hct => by
        exact formOk_7 iP iA x.al o3 c3 ha.1 y _ _ _ _ _ _ cb (n + 1) d W ((reads_frame hk2.stays (fun _ h => h) h).1 _ _ re0) (q3.frame hk2.stays (fun _ h => h) (reads_frame hk2.stays (fun _ h => h) h).2.2) hct (by omega) h0 hd1)
      have key2 := calls_to key heq (fun _ => hcq)
      rw [hk, hl1]
      exact key2
  · by_cases hl1 : x.l.length = 3
    case neg => exact no (fun W _ => formOf_nil x.k x.s x.n o1 _ c1 o2 _ c2 o3 _ c3 W fun w' => by rw [hk]; exact kind8_no x.s x.n o1 _ c1 o2 _ c2 o3 _ c3 hl1 hl.1 w') (here_len (n := 3) (by rw [hk]; decide) hl1)
    obtain ⟨y, z, q, hxl⟩ := len3 hl1
    obtain ⟨b, off, eo, hbn, hbl, hcs⟩ := q1 (by rw [hxl]; simp)
    subst eo
    obtain ⟨cs0, -, hky0, re0⟩ := hcs 0 y (by rw [hxl]; rfl)
    obtain ⟨p01, g01, p02, g02, p03, g03, rfl⟩ := ex_form re0
    obtain ⟨cs1, -, hky1, re1⟩ := hcs 1 z (by rw [hxl]; rfl)
    obtain ⟨p11, g11, p12, g12, p13, g13, rfl⟩ := ex_form re1
    obtain ⟨cs2, -, hky2, re2⟩ := hcs 2 q (by rw [hxl]; rfl)
    obtain ⟨p21, g21, p22, g22, p23, g23, rfl⟩ := ex_form re2
    have hh := here_8 hk hl1
    cases ho : outl ⟨#[]⟩ x.s 0 x.n 3 3 0 x.ds.length 0 x.al.length
    · rw [ho, Bool.false_and] at hh
      refine no (fun W hk2 => ?_) hh
      rw [hk, hl1]
      exact form8_no x.s x.n b off c1 o2 x.ds.length c2 o3 x.al.length c3 _ _ _ _ _ _ _ _ _ _ _ _ _ _ _ _ _ _ W (kp_cell hk2 hbl hbn (hky0 0 _ rfl)) (kp_cell hk2 hbl hbn (hky0 1 _ rfl)) (kp_cell hk2 hbl hbn (hky0 2 _ rfl)) (kp_cell hk2 hbl hbn (hky0 3 _ rfl)) (kp_cell hk2 hbl hbn (hky0 4 _ rfl)) (kp_cell hk2 hbl hbn (hky0 5 _ rfl)) (kp_cell hk2 hbl hbn (hky1 0 _ rfl)) (kp_cell hk2 hbl hbn (hky1 1 _ rfl)) (kp_cell hk2 hbl hbn (hky1 2 _ rfl)) (kp_cell hk2 hbl hbn (hky1 3 _ rfl)) (kp_cell hk2 hbl hbn (hky1 4 _ rfl)) (kp_cell hk2 hbl hbn (hky1 5 _ rfl)) (kp_cell hk2 hbl hbn (hky2 0 _ rfl)) (kp_cell hk2 hbl hbn (hky2 1 _ rfl)) (kp_cell hk2 hbl hbn (hky2 2 _ rfl)) (kp_cell hk2 hbl hbn (hky2 3 _ rfl)) (kp_cell hk2 hbl hbn (hky2 4 _ rfl)) (kp_cell hk2 hbl hbn (hky2 5 _ rfl)) ho
    · rw [ho, Bool.true_and] at hh
      obtain ⟨e1, e2, e3⟩ := outl_true ho
      have hal : x.al = [] := List.length_eq_zero_iff.1 e3.symm
      have hds : x.ds = [] := List.length_eq_zero_iff.1 e2.symm
      have heq : (goodB (okz h).ex (cnt h).ex [y, z, q] (d + 1) (n + 1)) = ((okz (h + 1)).ex x d && decide (n + (cnt (h + 1)).ex x ≤ 200)) := by
        rw [okx hd1, cnx, hh, hk, hxl, hal, hds]
        exact fin_a true _ n _
      have hcq : 1 + (sumZ (cnt h).ex [y, z, q]) = (cnt (h + 1)).ex x := by
        rw [cnx, hxl, hal, hds]
        simp only [sumZ, List.map_nil, List.sum_nil]
        omega
      have key := expOk_gen 8 x.s x.n (some ⟨b, off, none⟩) o2 o3 3 c1 x.ds.length c2 x.al.length c3 cb n d w (.iface 172 (.agg #[.int .i64 y.k, .string y.s, .int .i64 y.n, .slice p01 y.l.length g01, .slice p02 y.ds.length g02, .slice p03 y.al.length g03, .int .i64 z.k, .string z.s, .int .i64 z.n, .slice p11 z.l.length g11, .slice p12 z.ds.length g12, .slice p13 z.al.length g13, .int .i64 q.k, .string q.s, .int .i64 q.n, .slice p21 q.l.length g21, .slice p22 q.ds.length g22, .slice p23 q.al.length g23])) (goodB (okz h).ex (cnt h).ex [y, z, q] (d + 1) (n + 1)) (sumZ (cnt h).ex [y, z, q]) hc hn1 hd1 (fun W hk2 => form8_yes x.s x.n b off c1 o2 x.ds.length c2 o3 x.al.length c3 _ _ _ _ _ _ _ _ _ _ _ _ _ _ _ _ _ _ W (kp_cell hk2 hbl hbn (hky0 0 _ rfl)) (kp_cell hk2 hbl hbn (hky0 1 _ rfl)) (kp_cell hk2 hbl hbn (hky0 2 _ rfl)) (kp_cell hk2 hbl hbn (hky0 3 _ rfl)) (kp_cell hk2 hbl hbn (hky0 4 _ rfl)) (kp_cell hk2 hbl hbn (hky0 5 _ rfl)) (kp_cell hk2 hbl hbn (hky1 0 _ rfl)) (kp_cell hk2 hbl hbn (hky1 1 _ rfl)) (kp_cell hk2 hbl hbn (hky1 2 _ rfl)) (kp_cell hk2 hbl hbn (hky1 3 _ rfl)) (kp_cell hk2 hbl hbn (hky1 4 _ rfl)) (kp_cell hk2 hbl hbn (hky1 5 _ rfl)) (kp_cell hk2 hbl hbn (hky2 0 _ rfl)) (kp_cell hk2 hbl hbn (hky2 1 _ rfl)) (kp_cell hk2 hbl hbn (hky2 2 _ rfl)) (kp_cell hk2 hbl hbn (hky2 3 _ rfl)) (kp_cell hk2 hbl hbn (hky2 4 _ rfl)) (kp_cell hk2 hbl hbn (hky2 5 _ rfl)) ho) (fun W hk2 hct => by
        exact formOk_8 iP y z q _ _ _ _ _ _ _ _ _ _ _ _ _ _ _ _ _ _ cb (n + 1) d W ((reads_frame hk2.stays (fun _ h => h) h).1 _ _ re0) ((reads_frame hk2.stays (fun _ h => h) h).1 _ _ re1) ((reads_frame hk2.stays (fun _ h => h) h).1 _ _ re2) hct (by omega) h0 hd1)
      have key2 := calls_to key heq (fun _ => hcq)
      rw [hk, hl1]
      exact key2
  · by_cases hl1 : x.l.length = 2
    case neg => exact no (fun W _ => formOf_nil x.k x.s x.n o1 _ c1 o2 _ c2 o3 _ c3 W fun w' => by rw [hk]; exact kind9_no x.s x.n o1 _ c1 o2 _ c2 o3 _ c3 hl1 hl.1 w') (here_len (n := 2) (by rw [hk]; decide) hl1)
    obtain ⟨y, z, hxl⟩ := len2 hl1
    obtain ⟨b, off, eo, hbn, hbl, hcs⟩ := q1 (by rw [hxl]; simp)
    subst eo
    obtain ⟨cs0, -, hky0, re0⟩ := hcs 0 y (by rw [hxl]; rfl)
    obtain ⟨p01, g01, p02, g02, p03, g03, rfl⟩ := ex_form re0
    obtain ⟨cs1, -, hky1, re1⟩ := hcs 1 z (by rw [hxl]; rfl)
    obtain ⟨p11, g11, p12, g12, p13, g13, rfl⟩ := ex_form re1
    have hh := here_9 hk hl1
    cases ho : outl x.s x.s 0 x.n 2 2 0 x.ds.length 0 x.al.length
    · rw [ho, Bool.false_and] at hh
      refine no (fun W hk2 => ?_) hh
      rw [hk, hl1]
      exact form9_no x.s x.n b off c1 o2 x.ds.length c2 o3 x.al.length c3 _ _ _ _ _ _ _ _ _ _ _ _ W (kp_cell hk2 hbl hbn (hky0 0 _ rfl)) (kp_cell hk2 hbl hbn (hky0 1 _ rfl)) (kp_cell hk2 hbl hbn (hky0 2 _ rfl)) (kp_cell hk2 hbl hbn (hky0 3 _ rfl)) (kp_cell hk2 hbl hbn (hky0 4 _ rfl)) (kp_cell hk2 hbl hbn (hky0 5 _ rfl)) (kp_cell hk2 hbl hbn (hky1 0 _ rfl)) (kp_cell hk2 hbl hbn (hky1 1 _ rfl)) (kp_cell hk2 hbl hbn (hky1 2 _ rfl)) (kp_cell hk2 hbl hbn (hky1 3 _ rfl)) (kp_cell hk2 hbl hbn (hky1 4 _ rfl)) (kp_cell hk2 hbl hbn (hky1 5 _ rfl)) ho
    · rw [ho, Bool.true_and] at hh
      obtain ⟨e1, e2, e3⟩ := outl_true ho
      have hal : x.al = [] := List.length_eq_zero_iff.1 e3.symm
      have hds : x.ds = [] := List.length_eq_zero_iff.1 e2.symm
      have heq : (opB x.s && goodB (okz h).ex (cnt h).ex [y, z] (d + 1) (n + 1)) = ((okz (h + 1)).ex x d && decide (n + (cnt (h + 1)).ex x ≤ 200)) := by
        rw [okx hd1, cnx, hh, hk, hxl, hal, hds]
        exact fin_a _ _ n _
      have hcq : 1 + (sumZ (cnt h).ex [y, z]) = (cnt (h + 1)).ex x := by
        rw [cnx, hxl, hal, hds]
        simp only [sumZ, List.map_nil, List.sum_nil]
        omega
      have key := expOk_gen 9 x.s x.n (some ⟨b, off, none⟩) o2 o3 2 c1 x.ds.length c2 x.al.length c3 cb n d w (.iface 174 (.agg #[.string x.s, .int .i64 y.k, .string y.s, .int .i64 y.n, .slice p01 y.l.length g01, .slice p02 y.ds.length g02, .slice p03 y.al.length g03, .int .i64 z.k, .string z.s, .int .i64 z.n, .slice p11 z.l.length g11, .slice p12 z.ds.length g12, .slice p13 z.al.length g13])) (opB x.s && goodB (okz h).ex (cnt h).ex [y, z] (d + 1) (n + 1)) (sumZ (cnt h).ex [y, z]) hc hn1 hd1 (fun W hk2 => form9_yes x.s x.n b off c1 o2 x.ds.length c2 o3 x.al.length c3 _ _ _ _ _ _ _ _ _ _ _ _ W (kp_cell hk2 hbl hbn (hky0 0 _ rfl)) (kp_cell hk2 hbl hbn (hky0 1 _ rfl)) (kp_cell hk2 hbl hbn (hky0 2 _ rfl)) (kp_cell hk2 hbl hbn (hky0 3 _ rfl)) (kp_cell hk2 hbl hbn (hky0 4 _ rfl)) (kp_cell hk2 hbl hbn (hky0 5 _ rfl)) (kp_cell hk2 hbl hbn (hky1 0 _ rfl)) (kp_cell hk2 hbl hbn (hky1 1 _ rfl)) (kp_cell hk2 hbl hbn (hky1 2 _ rfl)) (kp_cell hk2 hbl hbn (hky1 3 _ rfl)) (kp_cell hk2 hbl hbn (hky1 4 _ rfl)) (kp_cell hk2 hbl hbn (hky1 5 _ rfl)) ho) (fun W hk2 hct => by
        exact formOk_9 iP x.s y z _ _ _ _ _ _ _ _ _ _ _ _ cb (n + 1) d W ((reads_frame hk2.stays (fun _ h => h) h).1 _ _ re0) ((reads_frame hk2.stays (fun _ h => h) h).1 _ _ re1) hct (by omega) h0 hd1)
      have key2 := calls_to key heq (fun _ => hcq)
      rw [hk, hl1]
      exact key2

set_option maxHeartbeats 400000 in
theorem altsOk_nil {h : Nat} (o : Option Addr) (c : Nat) (w : World) (cb n : Nat) (d : Int) (hc : Ctr w cb n) : Calls Tryz.prog 149 #[.pointer (some ⟨cb, 0, none⟩), .slice o ([] : List Tr).length c, .int .i64 d] w (Cres cb n w (inB (([] : List Tr).length : Int) 1 6 && goodB (fun a d => altB a && (okz h).al a d) (cnt h).al [] (d + 1) n) (sumZ (cnt h).al [])) := by
  have HC := hide hc
  clear hc
  have hin : inB (([] : List Tr).length : Int) 1 6 = false := by decide
  rw [hin, Bool.false_and]
  go_enter Tryz.func149, Tryz.ntmps149
  go_wp2
  go_ret
  exact ⟨n, rfl, HC.out, (fun hx => by cases hx), Kp.refl _ _ _⟩
/-- What can be read lies in blocks that are there. -/
theorem reads_old {w : World} {g : Nat} (hg : w.heap.size ≤ g) : ∀ h, (∀ e cs, (reads AllK w h).ex e cs → (reads (NeK g) w h).ex e cs) ∧ (∀ d cs, (reads AllK w h).de d cs → (reads (NeK g) w h).de d cs) ∧ (∀ a cs, (reads AllK w h).al a cs → (reads (NeK g) w h).al a cs) := by
  have row : ∀ {α : Type} {R R' : α → List Value → Prop} {size : Nat} {o : Option Addr} {xs : List α}, RowOf AllK w R size o xs → (∀ x cs, R x cs → R' x cs) → RowOf (NeK g) w R' size o xs := by
    intro α R R' size o xs hm hR hne
    obtain ⟨b, off, e, -, hl, hc⟩ := hm hne
    refine ⟨b, off, e, (by show b ≠ g; omega), hl, fun i x hx => ?_⟩
    obtain ⟨cs, h1, h2, h3⟩ := hc i x hx
    exact ⟨cs, h1, h2, hR x cs h3⟩
  intro h
  induction h with
  | zero => exact ⟨fun _ _ h => h, fun _ _ h => h, fun _ _ h => h⟩
  | succ h ih =>
    obtain ⟨ih1, ih2, ih3⟩ := ih
    refine ⟨fun e cs he => ?_, fun d cs hd => ?_, fun a cs ha => ?_⟩
    · obtain ⟨e0, o1, c1, o2, c2, o3, c3, e1, e2, e3, e4, e5, r1, r2, r3⟩ := he
      exact ⟨e0, o1, c1, o2, c2, o3, c3, e1, e2, e3, e4, e5, row r1 ih1, row r2 ih2, row r3 ih3⟩
    · obtain ⟨d0, d1, d2, e, o1, c1, ce, o2, c2, e0, e1, e2, e3, e4, r1, e5, r2, r3⟩ := hd
      exact ⟨d0, d1, d2, e, o1, c1, ce, o2, c2, e0, e1, e2, e3, e4, row r1 (fun _ _ h => h), e5, ih1 _ _ r2, row r3 ih2⟩
    · obtain ⟨a0, a1, a2, a3, e, o1, c1, ce, e0, e1, e2, e3, r1, e4, r2⟩ := ha
      exact ⟨a0, a1, a2, a3, e, o1, c1, ce, e0, e1, e2, e3, row r1 (fun _ _ h => h), e4, ih1 _ _ r2⟩

theorem ch_all (h : Nat) : ChEx h ∧ ChPs h ∧ ChDe h ∧ ChDs h ∧ ChAs h := by
  have nil_of : ∀ {K : Nat → Prop} {w : World} {size : Nat} {o : Option Addr} {xs : List Tr}, RowOf K w (fun _ _ => False) size o xs → xs = [] := by
    intro K w size o xs hm
    cases xs with
    | nil => rfl
    | cons x r =>
      obtain ⟨_, _, _, _, _, hc⟩ := hm (by simp)
      obtain ⟨_, _, _, hf⟩ := hc 0 x rfl
      exact hf.elim
  induction h with
  | zero =>
    have e0 : ChEx 0 := fun _ _ _ _ _ _ hr => hr.elim
    have d0 : ChDe 0 := fun _ _ _ _ _ _ hr => hr.elim
    refine ⟨e0, partsOk_of e0, d0, decsOk_of d0, ?_⟩
    intro xs o c w cb n d hm hl hc hn h0 h1
    have hnil : xs = [] := nil_of hm
    subst hnil
    exact altsOk_nil o c w cb n d hc
  | succ h ih =>
    obtain ⟨i1, i2, i3, i4, i5⟩ := ih
    have e1 := expOk_step i2 i4 i5
    have d1 := decOk_of i2 i4
    exact ⟨e1, partsOk_of e1, d1, decsOk_of d1, altsOk_of i2⟩

end Go.Proofs.YteoghpefilghdakGreatDoor

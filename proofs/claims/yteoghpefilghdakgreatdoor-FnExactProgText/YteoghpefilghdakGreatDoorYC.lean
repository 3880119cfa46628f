/- The model's tests of an alternative, and of an expression but for its parts. -/
import Derived.Test.YteoghpefilghdakGreatDoorYB
namespace Go.Proofs.YteoghpefilghdakGreatDoor
open Go.ChangeShapes Go.WideShapes Go.ChangeAt Go.RowKit

def opsL : List ByteArray := [⟨#[43]⟩, ⟨#[45]⟩, ⟨#[42]⟩, ⟨#[61, 61]⟩, ⟨#[60]⟩]
theorem ops_lists : opsL.map ByteArray.toList = [[43], [45], [42], [61, 61], [60]] := by kernel_rfl
theorem ops_opB (s : ByteArray) : (opsL.any fun t => t.toList == s.toList) = opB s := by
  have h : (opsL.any fun t => t.toList == s.toList) = ((opsL.map ByteArray.toList).any fun t => t == s.toList) := by rw [List.any_map]; rfl
  rw [h, ops_lists]
  simp only [List.any_cons, List.any_nil, Bool.or_false, opB]
  rw [beq_turn [43], beq_turn [45], beq_turn [42], beq_turn [61, 61], beq_turn [60]]
  cases (s.toList == [43]) <;> cases (s.toList == [45]) <;> cases (s.toList == [42]) <;> cases (s.toList == [61, 61]) <;> rfl

set_option maxHeartbeats 400000 in
theorem l3Op_any (s : ByteArray) (w : World) : Calls Tryz.prog 115 #[.string s] w fun e w' => e = .returned (.bool (opB s)) ∧ Below w.heap.size w w' := by
  go_enter Tryz.func115, Tryz.ntmps115
  go_wp2_with fail
  refine (has_any opsL _ 5 rfl (by decide) s _ ?_).mono ?_
  · intro i hi
    match i, hi with
    | 0, _ | 1, _ | 2, _ | 3, _ | 4, _ => simp [opsL]
  rintro e w1 ⟨rfl, rfl⟩
  rw [ops_opB]
  go_wp2
  go_ret
  exact ⟨rfl, (Below.refl _ w).alloc (Nat.le_refl _) _⟩

set_option maxHeartbeats 400000 in
theorem l3Parts_any (k : Int) (w : World) : Calls Tryz.prog 114 #[.int .i64 k] w fun e w' => e = .returned (.int .i64 (partsN k)) ∧ w' = w := by
  by_cases hk : k = 1 ∨ k = 2 ∨ k = 3 ∨ k = 4 ∨ k = 5 ∨ k = 6 ∨ k = 7 ∨ k = 8 ∨ k = 9
  · rcases hk with rfl | rfl | rfl | rfl | rfl | rfl | rfl | rfl | rfl
    all_goals
      go_enter Tryz.func114, Tryz.ntmps114
      go_wp2
      go_ret
      exact ⟨rfl, rfl⟩
  · have h1 : ¬ k = 1 := by omega
    have h2 : ¬ k = 2 := by omega
    have h3 : ¬ k = 3 := by omega
    have h4 : ¬ k = 4 := by omega
    have h5 : ¬ k = 5 := by omega
    have h6 : ¬ k = 6 := by omega
    have h7 : ¬ k = 7 := by omega
    have h8 : ¬ k = 8 := by omega
    have h9 : ¬ k = 9 := by omega
    have HP : Hid (partsN k = -1) := by simp [Hid, partsN, h1, h2, h3, h4, h5, h6, h7, h8, h9]
    clear hk
    go_enter Tryz.func114, Tryz.ntmps114
    go_wp2
    go_ret
    exact ⟨by rw [HP.out]; rfl, rfl⟩

set_option maxHeartbeats 800000 in
set_option maxRecDepth 100000 in
theorem l3Alt_any {K : Nat → Prop} {w : World} {h : Nat} {x : Tr} {cs : List Value} (hr : (reads K w h).al x cs) :
    Calls Tryz.prog 82 #[.agg cs.toArray] w fun e w' => e = .returned (.bool (altB x)) ∧ Below w.heap.size w w' := by
  cases h with
  | zero => exact hr.elim
  | succ h =>
  obtain ⟨-, -, -, -, y, o1, c1, ce, -, rfl, hs, hl, q1, hce, -⟩ := hr
  obtain ⟨a0, a1, a2, a3, a4, a5, rfl⟩ := six hce
  simp only [List.cons_append, List.nil_append]
  have Q1 := hide q1
  have HL := hide hl
  have HS := hide hs
  have hl2 : x.ss.length ≤ 9223372036854775807 := hl.1
  clear q1 hl hs hce
  have HX0 : Hid ((w.alloc (.cells #[.string x.s, .slice o1 x.ss.length c1, a0, a1, a2, a3, a4, a5] 144)).heap[w.heap.size]? = some (.cells #[.string x.s, .slice o1 x.ss.length c1, a0, a1, a2, a3, a4, a5] 144 (0, 0))) := heap_alloc_new w _
  have HB0 : Hid (Below w.heap.size w (w.alloc (.cells #[.string x.s, .slice o1 x.ss.length c1, a0, a1, a2, a3, a4, a5] 144))) := (Below.refl _ w).alloc (Nat.le_refl _) _
  have step : ∀ v, varsB x.ss = v → ∀ g, grB x.s = g → ∀ m, emptyB x.s = m → Calls Tryz.prog 82 #[.agg #[.string x.s, .slice o1 x.ss.length c1, a0, a1, a2, a3, a4, a5]] w fun e w' => e = .returned (.bool (altB x)) ∧ Below w.heap.size w w' := by
    intro v hv g hg m hm
    have HV := hide hv
    have HG : Hid (greatB x.s.data.toList = g) := hg
    have hm2 : (x.s.toList == []) = m := hm
    have HM := hide hm
    have HA : Hid (altB x = (v && (g || (m && decide ((x.ss.length : Int) = 1))))) := by
      show altB x = _
      unfold altB
      rw [hv, hg, hm]
    clear hv hg hm
    cases v <;> cases g <;> cases m
    all_goals
      go_enter Tryz.func82, Tryz.ntmps82
      go_wp2_with fail
      refine (l3Vars_any x.ss o1 c1 _ HL.out.1 HL.out.2 (Q1.out.later HB0.out fun _ _ h => h)).mono ?_
      rintro e w1 ⟨rfl, hb⟩
      have HB1 := hide (HB0.out.trans (hb.mono HB0.out.size))
      have HX1 := hide ((hb.block w.heap.size (heap_lt HX0.out)).trans HX0.out)
      rw [HV.out]
      clear hb
      have b0_1 := cell_of HX1.out 0
      have b1_1 := cell_of HX1.out 1
      simp only [List.getElem?_toArray, List.getElem?_cons_succ, List.getElem?_cons_zero] at b0_1 b1_1
      first
        | (go_wp2; go_ret; exact ⟨ret_bool (by rw [HA.out]; rfl), HB1.out⟩)
        | (go_wp2_with fail
           refine (specGreat_any _ _ HS.out).mono ?_
           rintro e w2 ⟨rfl, rfl⟩
           rw [HG.out]
           go_wp2
           go_ret
           exact ⟨ret_bool (by rw [HA.out]; first | rfl | simp), HB1.out⟩)
  exact step _ rfl _ rfl _ rfl

theorem later_cell {W : World} {g : Nat} {cur : Array Value} {e : TypeId} {j : Nat} {v : Value} (hx : W.heap[g]? = some (.cells cur e (0, 0))) (hv : cur[j]? = some v) : ∀ q : Later W, q.w.cell? ⟨g, j, none⟩ = some v := fun q =>
  (q.h.cell (p := ⟨g, j, none⟩) (heap_lt hx)).trans ((cell_of hx j).trans hv)
set_option maxHeartbeats 1600000 in
set_option maxRecDepth 100000 in
theorem l3Here_any {K : Nat → Prop} {w : World} {h : Nat} {x : Tr} {cs : List Value} (hr : (reads K w h).ex x cs) :
    Calls Tryz.prog 81 #[.agg cs.toArray] w fun e w' => e = .returned (.bool (hereB x)) ∧ Below w.heap.size w w' := by
  cases h with
  | zero => exact hr.elim
  | succ h =>
  obtain ⟨-, o1, c1, o2, c2, o3, c3, rfl, hs, hl, hd, ha, -⟩ := hr
  have HS := hide hs
  have hl2 : x.l.length ≤ 9223372036854775807 := hl.1
  have hd2 : x.ds.length ≤ 9223372036854775807 := hd.1
  have ha2 : x.al.length ≤ 9223372036854775807 := ha.1
  clear hs hl hd ha
  have HB0 : Hid (Below w.heap.size w (w.alloc (.cells #[.int .i64 x.k, .string x.s, .int .i64 x.n, .slice o1 x.l.length c1, .slice o2 x.ds.length c2, .slice o3 x.al.length c3] 47))) := (Below.refl _ w).alloc (Nat.le_refl _) _
  have HX0 : Hid ((w.alloc (.cells #[.int .i64 x.k, .string x.s, .int .i64 x.n, .slice o1 x.l.length c1, .slice o2 x.ds.length c2, .slice o3 x.al.length c3] 47)).heap[w.heap.size]? = some (.cells #[.int .i64 x.k, .string x.s, .int .i64 x.n, .slice o1 x.l.length c1, .slice o2 x.ds.length c2, .slice o3 x.al.length c3] 47 (0, 0))) := heap_alloc_new w _
  by_cases hA : partsN x.k = x.l.length
  case neg =>
    have hA2 : (partsN x.k != (x.l.length : Int)) = true := by simpa using hA
    have HA := hide hA
    clear hA
    have HF : Hid (hereB x = false) := by
      show hereB x = false
      simp [hereB, shapeE, HA.out]
    go_enter Tryz.func81, Tryz.ntmps81
    go_wp2_with fail
    generalize (w.alloc (.cells #[.int .i64 x.k, .string x.s, .int .i64 x.n, .slice o1 x.l.length c1, .slice o2 x.ds.length c2, .slice o3 x.al.length c3] 47)) = W at HX0 HB0 ⊢
    have hq0 := later_cell (j := 0) HX0.out rfl
    have hq1 := later_cell (j := 1) HX0.out rfl
    have hq2 := later_cell (j := 2) HX0.out rfl
    have hq3 := later_cell (j := 3) HX0.out rfl
    have hq4 := later_cell (j := 4) HX0.out rfl
    have hq5 := later_cell (j := 5) HX0.out rfl
    have hne0 : Nonempty (Later W) := later_nonempty W
    refine wp_region_class (S := fun v => Below W.heap.size W v) (by kernel_rfl) (by kernel_rfl) (below_drew _) ?_
    repeat (first | go_big_quiet_skip | (go_big_quiet_want; go_big_quiet_op; first | go_big_quiet_on | (apply Exists.intro; refine ⟨fun q => ?_, ?_⟩; (go_at_call 114; refine (l3Parts_any _ _).mono ?_; rintro e w1 ⟨rfl, rfl⟩; exact ⟨rfl, q, rfl⟩); go_big_quiet_on)))
    refine wpQuiet_nil ?_
    intro _ hw'
    obtain ⟨q, rfl⟩ := hw'
    go_wp2
    go_ret
    exact ⟨ret_bool HF.out.symm, HB0.out.trans (q.h.mono HB0.out.size)⟩
  have hA2 : (partsN x.k != (x.l.length : Int)) = false := by simpa using hA
  have HAD : Hid (decide (partsN x.k = x.l.length) = true) := decide_eq_true hA
  have HA := hide hA
  clear hA
  by_cases hk : x.k = 6
  · have hk2 : (x.k == 6) = true := by simpa using hk
    have hk2n : (x.k != 6) = false := by simpa using hk
    have ho1 : (x.k == 1) = false := by rw [hk]; rfl
    have ho1n : (x.k != 1) = true := by rw [hk]; rfl
    have ho2 : (x.k == 2) = false := by rw [hk]; rfl
    have ho2n : (x.k != 2) = true := by rw [hk]; rfl
    have ho3 : (x.k == 3) = false := by rw [hk]; rfl
    have ho3n : (x.k != 3) = true := by rw [hk]; rfl
    have ho5 : (x.k == 5) = false := by rw [hk]; rfl
    have ho5n : (x.k != 5) = true := by rw [hk]; rfl
    have ho7 : (x.k == 7) = false := by rw [hk]; rfl
    have ho7n : (x.k != 7) = true := by rw [hk]; rfl
    have ho9 : (x.k == 9) = false := by rw [hk]; rfl
    have ho9n : (x.k != 9) = true := by rw [hk]; rfl
    have HK := hide hk
    clear hk
    by_cases hE : x.al.length = 0
    case neg =>
      have hE2 : decide (0 < x.al.length) = true := decide_eq_true (by omega)
      have HhE := hide hE
      clear hE
      have HF : Hid (hereB x = false) := by
        show hereB x = false
        simp [hereB, shapeE, HhE.out, HK.out]
      go_enter Tryz.func81, Tryz.ntmps81
      go_wp2_with fail
      generalize (w.alloc (.cells #[.int .i64 x.k, .string x.s, .int .i64 x.n, .slice o1 x.l.length c1, .slice o2 x.ds.length c2, .slice o3 x.al.length c3] 47)) = W at HX0 HB0 ⊢
      have hq0 := later_cell (j := 0) HX0.out rfl
      have hq1 := later_cell (j := 1) HX0.out rfl
      have hq2 := later_cell (j := 2) HX0.out rfl
      have hq3 := later_cell (j := 3) HX0.out rfl
      have hq4 := later_cell (j := 4) HX0.out rfl
      have hq5 := later_cell (j := 5) HX0.out rfl
      have hne0 : Nonempty (Later W) := later_nonempty W
      refine wp_region_class (S := fun v => Below W.heap.size W v) (by kernel_rfl) (by kernel_rfl) (below_drew _) ?_
      repeat (first | go_big_quiet_skip | (go_big_quiet_want; go_big_quiet_op; first | go_big_quiet_on | (apply Exists.intro; refine ⟨fun q => ?_, ?_⟩; (go_at_call 114; refine (l3Parts_any _ _).mono ?_; rintro e w1 ⟨rfl, rfl⟩; exact ⟨rfl, q, rfl⟩); go_big_quiet_on)))
      refine wpQuiet_nil ?_
      intro _ hw'
      obtain ⟨q, rfl⟩ := hw'
      go_wp2
      go_ret
      exact ⟨ret_bool HF.out.symm, HB0.out.trans (q.h.mono HB0.out.size)⟩
    have hE2 : decide (0 < x.al.length) = false := decide_eq_false (by omega)
    have HhE := hide hE
    clear hE
    by_cases hN : x.n = 0
    case neg =>
      have hN2 : (x.n != 0) = true := by simpa using hN
      have HhN := hide hN
      clear hN
      have HF : Hid (hereB x = false) := by
        show hereB x = false
        simp [hereB, shapeE, HhE.out, HhN.out, HK.out]
      go_enter Tryz.func81, Tryz.ntmps81
      go_wp2_with fail
      generalize (w.alloc (.cells #[.int .i64 x.k, .string x.s, .int .i64 x.n, .slice o1 x.l.length c1, .slice o2 x.ds.length c2, .slice o3 x.al.length c3] 47)) = W at HX0 HB0 ⊢
      have hq0 := later_cell (j := 0) HX0.out rfl
      have hq1 := later_cell (j := 1) HX0.out rfl
      have hq2 := later_cell (j := 2) HX0.out rfl
      have hq3 := later_cell (j := 3) HX0.out rfl
      have hq4 := later_cell (j := 4) HX0.out rfl
      have hq5 := later_cell (j := 5) HX0.out rfl
      have hne0 : Nonempty (Later W) := later_nonempty W
      refine wp_region_class (S := fun v => Below W.heap.size W v) (by kernel_rfl) (by kernel_rfl) (below_drew _) ?_
      repeat (first | go_big_quiet_skip | (go_big_quiet_want; go_big_quiet_op; first | go_big_quiet_on | (apply Exists.intro; refine ⟨fun q => ?_, ?_⟩; (go_at_call 114; refine (l3Parts_any _ _).mono ?_; rintro e w1 ⟨rfl, rfl⟩; exact ⟨rfl, q, rfl⟩); go_big_quiet_on)))
      refine wpQuiet_nil ?_
      intro _ hw'
      obtain ⟨q, rfl⟩ := hw'
      go_wp2
      go_ret
      exact ⟨ret_bool HF.out.symm, HB0.out.trans (q.h.mono HB0.out.size)⟩
    have hN2 : (x.n != 0) = false := by simpa using hN
    have HhN := hide hN
    clear hN
    have HH : Hid (hereB x = kindB x) := by
      show hereB x = kindB x
      have : shapeE x = true := by
        unfold shapeE
        rw [HAD.out]
        simp [HhE.out, HhN.out, HK.out]
      simp [hereB, this]
    go_enter Tryz.func81, Tryz.ntmps81
    go_wp2_with fail
    generalize (w.alloc (.cells #[.int .i64 x.k, .string x.s, .int .i64 x.n, .slice o1 x.l.length c1, .slice o2 x.ds.length c2, .slice o3 x.al.length c3] 47)) = W at HX0 HB0 ⊢
    have hq0 := later_cell (j := 0) HX0.out rfl
    have hq1 := later_cell (j := 1) HX0.out rfl
    have hq2 := later_cell (j := 2) HX0.out rfl
    have hq3 := later_cell (j := 3) HX0.out rfl
    have hq4 := later_cell (j := 4) HX0.out rfl
    have hq5 := later_cell (j := 5) HX0.out rfl
    have hne0 : Nonempty (Later W) := later_nonempty W
    refine wp_region_class (S := fun v => Below W.heap.size W v) (by kernel_rfl) (by kernel_rfl) (below_drew _) ?_
    repeat (first | go_big_quiet_skip | (go_big_quiet_want; go_big_quiet_op; first | go_big_quiet_on | (apply Exists.intro; refine ⟨fun q => ?_, ?_⟩; (go_at_call 114; refine (l3Parts_any _ _).mono ?_; rintro e w1 ⟨rfl, rfl⟩; exact ⟨rfl, q, rfl⟩); go_big_quiet_on)))
    refine wpQuiet_nil ?_
    intro _ hw'
    obtain ⟨q, rfl⟩ := hw'
    go_wp2
    go_ret
    exact ⟨ret_bool (by rw [HH.out]; simp [kindB, HK.out, emptyB]), HB0.out.trans (q.h.mono HB0.out.size)⟩
  have hk6b : (x.k == 6) = false := by simpa using hk
  have hk6n : (x.k != 6) = true := by simpa using hk
  have HK6 := hide hk
  clear hk
  by_cases hk : x.k = 7
  · have hk2 : (x.k == 7) = true := by simpa using hk
    have hk2n : (x.k != 7) = false := by simpa using hk
    have ho1 : (x.k == 1) = false := by rw [hk]; rfl
    have ho1n : (x.k != 1) = true := by rw [hk]; rfl
    have ho2 : (x.k == 2) = false := by rw [hk]; rfl
    have ho2n : (x.k != 2) = true := by rw [hk]; rfl
    have ho3 : (x.k == 3) = false := by rw [hk]; rfl
    have ho3n : (x.k != 3) = true := by rw [hk]; rfl
    have ho5 : (x.k == 5) = false := by rw [hk]; rfl
    have ho5n : (x.k != 5) = true := by rw [hk]; rfl
    have ho6 : (x.k == 6) = false := by rw [hk]; rfl
    have ho6n : (x.k != 6) = true := by rw [hk]; rfl
    have ho9 : (x.k == 9) = false := by rw [hk]; rfl
    have ho9n : (x.k != 9) = true := by rw [hk]; rfl
    have HK := hide hk
    clear hk
    by_cases hD : x.ds.length = 0
    case neg =>
      have hD2 : decide (0 < x.ds.length) = true := decide_eq_true (by omega)
      have HhD := hide hD
      clear hD
      have HF : Hid (hereB x = false) := by
        show hereB x = false
        simp [hereB, shapeE, HhD.out, HK.out]
      go_enter Tryz.func81, Tryz.ntmps81
      go_wp2_with fail
      generalize (w.alloc (.cells #[.int .i64 x.k, .string x.s, .int .i64 x.n, .slice o1 x.l.length c1, .slice o2 x.ds.length c2, .slice o3 x.al.length c3] 47)) = W at HX0 HB0 ⊢
      have hq0 := later_cell (j := 0) HX0.out rfl
      have hq1 := later_cell (j := 1) HX0.out rfl
      have hq2 := later_cell (j := 2) HX0.out rfl
      have hq3 := later_cell (j := 3) HX0.out rfl
      have hq4 := later_cell (j := 4) HX0.out rfl
      have hq5 := later_cell (j := 5) HX0.out rfl
      have hne0 : Nonempty (Later W) := later_nonempty W
      refine wp_region_class (S := fun v => Below W.heap.size W v) (by kernel_rfl) (by kernel_rfl) (below_drew _) ?_
      repeat (first | go_big_quiet_skip | (go_big_quiet_want; go_big_quiet_op; first | go_big_quiet_on | (apply Exists.intro; refine ⟨fun q => ?_, ?_⟩; (go_at_call 114; refine (l3Parts_any _ _).mono ?_; rintro e w1 ⟨rfl, rfl⟩; exact ⟨rfl, q, rfl⟩); go_big_quiet_on)))
      refine wpQuiet_nil ?_
      intro _ hw'
      obtain ⟨q, rfl⟩ := hw'
      go_wp2
      go_ret
      exact ⟨ret_bool HF.out.symm, HB0.out.trans (q.h.mono HB0.out.size)⟩
    have hD2 : decide (0 < x.ds.length) = false := decide_eq_false (by omega)
    have HhD := hide hD
    clear hD
    by_cases hN : x.n = 0
    case neg =>
      have hN2 : (x.n != 0) = true := by simpa using hN
      have HhN := hide hN
      clear hN
      have HF : Hid (hereB x = false) := by
        show hereB x = false
        simp [hereB, shapeE, HhD.out, HhN.out, HK.out]
      go_enter Tryz.func81, Tryz.ntmps81
      go_wp2_with fail
      generalize (w.alloc (.cells #[.int .i64 x.k, .string x.s, .int .i64 x.n, .slice o1 x.l.length c1, .slice o2 x.ds.length c2, .slice o3 x.al.length c3] 47)) = W at HX0 HB0 ⊢
      have hq0 := later_cell (j := 0) HX0.out rfl
      have hq1 := later_cell (j := 1) HX0.out rfl
      have hq2 := later_cell (j := 2) HX0.out rfl
      have hq3 := later_cell (j := 3) HX0.out rfl
      have hq4 := later_cell (j := 4) HX0.out rfl
      have hq5 := later_cell (j := 5) HX0.out rfl
      have hne0 : Nonempty (Later W) := later_nonempty W
      refine wp_region_class (S := fun v => Below W.heap.size W v) (by kernel_rfl) (by kernel_rfl) (below_drew _) ?_
      repeat (first | go_big_quiet_skip | (go_big_quiet_want; go_big_quiet_op; first | go_big_quiet_on | (apply Exists.intro; refine ⟨fun q => ?_, ?_⟩; (go_at_call 114; refine (l3Parts_any _ _).mono ?_; rintro e w1 ⟨rfl, rfl⟩; exact ⟨rfl, q, rfl⟩); go_big_quiet_on)))
      refine wpQuiet_nil ?_
      intro _ hw'
      obtain ⟨q, rfl⟩ := hw'
      go_wp2
      go_ret
      exact ⟨ret_bool HF.out.symm, HB0.out.trans (q.h.mono HB0.out.size)⟩
    have hN2 : (x.n != 0) = false := by simpa using hN
    have HhN := hide hN
    clear hN
    have HH : Hid (hereB x = kindB x) := by
      show hereB x = kindB x
      have : shapeE x = true := by
        unfold shapeE
        rw [HAD.out]
        simp [HhD.out, HhN.out, HK.out]
      simp [hereB, this]
    go_enter Tryz.func81, Tryz.ntmps81
    go_wp2_with fail
    generalize (w.alloc (.cells #[.int .i64 x.k, .string x.s, .int .i64 x.n, .slice o1 x.l.length c1, .slice o2 x.ds.length c2, .slice o3 x.al.length c3] 47)) = W at HX0 HB0 ⊢
    have hq0 := later_cell (j := 0) HX0.out rfl
    have hq1 := later_cell (j := 1) HX0.out rfl
    have hq2 := later_cell (j := 2) HX0.out rfl
    have hq3 := later_cell (j := 3) HX0.out rfl
    have hq4 := later_cell (j := 4) HX0.out rfl
    have hq5 := later_cell (j := 5) HX0.out rfl
    have hne0 : Nonempty (Later W) := later_nonempty W
    refine wp_region_class (S := fun v => Below W.heap.size W v) (by kernel_rfl) (by kernel_rfl) (below_drew _) ?_
    repeat (first | go_big_quiet_skip | (go_big_quiet_want; go_big_quiet_op; first | go_big_quiet_on | (apply Exists.intro; refine ⟨fun q => ?_, ?_⟩; (go_at_call 114; refine (l3Parts_any _ _).mono ?_; rintro e w1 ⟨rfl, rfl⟩; exact ⟨rfl, q, rfl⟩); go_big_quiet_on)))
    refine wpQuiet_nil ?_
    intro _ hw'
    obtain ⟨q, rfl⟩ := hw'
    have HQ := hide (HB0.out.trans (q.h.mono HB0.out.size))
    cases hi : inB x.al.length 1 6
    · have HI := hide hi
      clear hi
      go_wp2_with fail
      refine (in_any x.al.length 1 6 _).mono ?_
      rintro e w1 ⟨rfl, rfl⟩
      rw [HI.out]
      go_wp2
      go_ret
      exact ⟨ret_bool (by rw [HH.out]; simp [kindB, HK.out, HI.out]), HQ.out⟩
    · have HI := hide hi
      clear hi
      go_wp2_with fail
      refine (in_any x.al.length 1 6 _).mono ?_
      rintro e w1 ⟨rfl, rfl⟩
      rw [HI.out]
      go_wp2
      go_ret
      exact ⟨ret_bool (by rw [HH.out]; simp [kindB, HK.out, HI.out, emptyB]), HQ.out⟩
  have hk7b : (x.k == 7) = false := by simpa using hk
  have hk7n : (x.k != 7) = true := by simpa using hk
  have HK7 := hide hk
  clear hk
  by_cases hk : x.k = 3
  · have hk2 : (x.k == 3) = true := by simpa using hk
    have hk2n : (x.k != 3) = false := by simpa using hk
    have ho1 : (x.k == 1) = false := by rw [hk]; rfl
    have ho1n : (x.k != 1) = true := by rw [hk]; rfl
    have ho2 : (x.k == 2) = false := by rw [hk]; rfl
    have ho2n : (x.k != 2) = true := by rw [hk]; rfl
    have ho5 : (x.k == 5) = false := by rw [hk]; rfl
    have ho5n : (x.k != 5) = true := by rw [hk]; rfl
    have ho6 : (x.k == 6) = false := by rw [hk]; rfl
    have ho6n : (x.k != 6) = true := by rw [hk]; rfl
    have ho7 : (x.k == 7) = false := by rw [hk]; rfl
    have ho7n : (x.k != 7) = true := by rw [hk]; rfl
    have ho9 : (x.k == 9) = false := by rw [hk]; rfl
    have ho9n : (x.k != 9) = true := by rw [hk]; rfl
    have HK := hide hk
    clear hk
    by_cases hD : x.ds.length = 0
    case neg =>
      have hD2 : decide (0 < x.ds.length) = true := decide_eq_true (by omega)
      have HhD := hide hD
      clear hD
      have HF : Hid (hereB x = false) := by
        show hereB x = false
        simp [hereB, shapeE, HhD.out, HK.out]
      go_enter Tryz.func81, Tryz.ntmps81
      go_wp2_with fail
      generalize (w.alloc (.cells #[.int .i64 x.k, .string x.s, .int .i64 x.n, .slice o1 x.l.length c1, .slice o2 x.ds.length c2, .slice o3 x.al.length c3] 47)) = W at HX0 HB0 ⊢
      have hq0 := later_cell (j := 0) HX0.out rfl
      have hq1 := later_cell (j := 1) HX0.out rfl
      have hq2 := later_cell (j := 2) HX0.out rfl
      have hq3 := later_cell (j := 3) HX0.out rfl
      have hq4 := later_cell (j := 4) HX0.out rfl
      have hq5 := later_cell (j := 5) HX0.out rfl
      have hne0 : Nonempty (Later W) := later_nonempty W
      refine wp_region_class (S := fun v => Below W.heap.size W v) (by kernel_rfl) (by kernel_rfl) (below_drew _) ?_
      repeat (first | go_big_quiet_skip | (go_big_quiet_want; go_big_quiet_op; first | go_big_quiet_on | (apply Exists.intro; refine ⟨fun q => ?_, ?_⟩; (go_at_call 114; refine (l3Parts_any _ _).mono ?_; rintro e w1 ⟨rfl, rfl⟩; exact ⟨rfl, q, rfl⟩); go_big_quiet_on)))
      refine wpQuiet_nil ?_
      intro _ hw'
      obtain ⟨q, rfl⟩ := hw'
      go_wp2
      go_ret
      exact ⟨ret_bool HF.out.symm, HB0.out.trans (q.h.mono HB0.out.size)⟩
    have hD2 : decide (0 < x.ds.length) = false := decide_eq_false (by omega)
    have HhD := hide hD
    clear hD
    by_cases hE : x.al.length = 0
    case neg =>
      have hE2 : decide (0 < x.al.length) = true := decide_eq_true (by omega)
      have HhE := hide hE
      clear hE
      have HF : Hid (hereB x = false) := by
        show hereB x = false
        simp [hereB, shapeE, HhD.out, HhE.out, HK.out]
      go_enter Tryz.func81, Tryz.ntmps81
      go_wp2_with fail
      generalize (w.alloc (.cells #[.int .i64 x.k, .string x.s, .int .i64 x.n, .slice o1 x.l.length c1, .slice o2 x.ds.length c2, .slice o3 x.al.length c3] 47)) = W at HX0 HB0 ⊢
      have hq0 := later_cell (j := 0) HX0.out rfl
      have hq1 := later_cell (j := 1) HX0.out rfl
      have hq2 := later_cell (j := 2) HX0.out rfl
      have hq3 := later_cell (j := 3) HX0.out rfl
      have hq4 := later_cell (j := 4) HX0.out rfl
      have hq5 := later_cell (j := 5) HX0.out rfl
      have hne0 : Nonempty (Later W) := later_nonempty W
      refine wp_region_class (S := fun v => Below W.heap.size W v) (by kernel_rfl) (by kernel_rfl) (below_drew _) ?_
      repeat (first | go_big_quiet_skip | (go_big_quiet_want; go_big_quiet_op; first | go_big_quiet_on | (apply Exists.intro; refine ⟨fun q => ?_, ?_⟩; (go_at_call 114; refine (l3Parts_any _ _).mono ?_; rintro e w1 ⟨rfl, rfl⟩; exact ⟨rfl, q, rfl⟩); go_big_quiet_on)))
      refine wpQuiet_nil ?_
      intro _ hw'
      obtain ⟨q, rfl⟩ := hw'
      go_wp2
      go_ret
      exact ⟨ret_bool HF.out.symm, HB0.out.trans (q.h.mono HB0.out.size)⟩
    have hE2 : decide (0 < x.al.length) = false := decide_eq_false (by omega)
    have HhE := hide hE
    clear hE
    have HH : Hid (hereB x = kindB x) := by
      show hereB x = kindB x
      have : shapeE x = true := by
        unfold shapeE
        rw [HAD.out]
        simp [HhD.out, HhE.out, HK.out]
      simp [hereB, this]
    go_enter Tryz.func81, Tryz.ntmps81
    go_wp2_with fail
    generalize (w.alloc (.cells #[.int .i64 x.k, .string x.s, .int .i64 x.n, .slice o1 x.l.length c1, .slice o2 x.ds.length c2, .slice o3 x.al.length c3] 47)) = W at HX0 HB0 ⊢
    have hq0 := later_cell (j := 0) HX0.out rfl
    have hq1 := later_cell (j := 1) HX0.out rfl
    have hq2 := later_cell (j := 2) HX0.out rfl
    have hq3 := later_cell (j := 3) HX0.out rfl
    have hq4 := later_cell (j := 4) HX0.out rfl
    have hq5 := later_cell (j := 5) HX0.out rfl
    have hne0 : Nonempty (Later W) := later_nonempty W
    refine wp_region_class (S := fun v => Below W.heap.size W v) (by kernel_rfl) (by kernel_rfl) (below_drew _) ?_
    repeat (first | go_big_quiet_skip | (go_big_quiet_want; go_big_quiet_op; first | go_big_quiet_on | (apply Exists.intro; refine ⟨fun q => ?_, ?_⟩; (go_at_call 114; refine (l3Parts_any _ _).mono ?_; rintro e w1 ⟨rfl, rfl⟩; exact ⟨rfl, q, rfl⟩); go_big_quiet_on)))
    refine wpQuiet_nil ?_
    intro _ hw'
    obtain ⟨q, rfl⟩ := hw'
    have HQ := hide (HB0.out.trans (q.h.mono HB0.out.size))
    cases hi : inB x.n 0 999999
    · have HI := hide hi
      clear hi
      go_wp2_with fail
      refine (in_any x.n 0 999999 _).mono ?_
      rintro e w1 ⟨rfl, rfl⟩
      rw [HI.out]
      go_wp2
      go_ret
      exact ⟨ret_bool (by rw [HH.out]; simp [kindB, HK.out, HI.out]), HQ.out⟩
    · have HI := hide hi
      clear hi
      go_wp2_with fail
      refine (in_any x.n 0 999999 _).mono ?_
      rintro e w1 ⟨rfl, rfl⟩
      rw [HI.out]
      go_wp2
      go_ret
      exact ⟨ret_bool (by rw [HH.out]; simp [kindB, HK.out, HI.out, emptyB]), HQ.out⟩
  have hk3b : (x.k == 3) = false := by simpa using hk
  have hk3n : (x.k != 3) = true := by simpa using hk
  have HK3 := hide hk
  clear hk
  by_cases hD : x.ds.length = 0
  case neg =>
    have hD2 : decide (0 < x.ds.length) = true := decide_eq_true (by omega)
    have HhD := hide hD
    clear hD
    have HF : Hid (hereB x = false) := by
      show hereB x = false
      simp [hereB, shapeE, HhD.out, HK6.out, HK7.out, HK3.out]
    go_enter Tryz.func81, Tryz.ntmps81
    go_wp2_with fail
    generalize (w.alloc (.cells #[.int .i64 x.k, .string x.s, .int .i64 x.n, .slice o1 x.l.length c1, .slice o2 x.ds.length c2, .slice o3 x.al.length c3] 47)) = W at HX0 HB0 ⊢
    have hq0 := later_cell (j := 0) HX0.out rfl
    have hq1 := later_cell (j := 1) HX0.out rfl
    have hq2 := later_cell (j := 2) HX0.out rfl
    have hq3 := later_cell (j := 3) HX0.out rfl
    have hq4 := later_cell (j := 4) HX0.out rfl
    have hq5 := later_cell (j := 5) HX0.out rfl
    have hne0 : Nonempty (Later W) := later_nonempty W
    refine wp_region_class (S := fun v => Below W.heap.size W v) (by kernel_rfl) (by kernel_rfl) (below_drew _) ?_
    repeat (first | go_big_quiet_skip | (go_big_quiet_want; go_big_quiet_op; first | go_big_quiet_on | (apply Exists.intro; refine ⟨fun q => ?_, ?_⟩; (go_at_call 114; refine (l3Parts_any _ _).mono ?_; rintro e w1 ⟨rfl, rfl⟩; exact ⟨rfl, q, rfl⟩); go_big_quiet_on)))
    refine wpQuiet_nil ?_
    intro _ hw'
    obtain ⟨q, rfl⟩ := hw'
    go_wp2
    go_ret
    exact ⟨ret_bool HF.out.symm, HB0.out.trans (q.h.mono HB0.out.size)⟩
  have hD2 : decide (0 < x.ds.length) = false := decide_eq_false (by omega)
  have HhD := hide hD
  clear hD
  by_cases hE : x.al.length = 0
  case neg =>
    have hE2 : decide (0 < x.al.length) = true := decide_eq_true (by omega)
    have HhE := hide hE
    clear hE
    have HF : Hid (hereB x = false) := by
      show hereB x = false
      simp [hereB, shapeE, HhD.out, HhE.out, HK6.out, HK7.out, HK3.out]
    go_enter Tryz.func81, Tryz.ntmps81
    go_wp2_with fail
    generalize (w.alloc (.cells #[.int .i64 x.k, .string x.s, .int .i64 x.n, .slice o1 x.l.length c1, .slice o2 x.ds.length c2, .slice o3 x.al.length c3] 47)) = W at HX0 HB0 ⊢
    have hq0 := later_cell (j := 0) HX0.out rfl
    have hq1 := later_cell (j := 1) HX0.out rfl
    have hq2 := later_cell (j := 2) HX0.out rfl
    have hq3 := later_cell (j := 3) HX0.out rfl
    have hq4 := later_cell (j := 4) HX0.out rfl
    have hq5 := later_cell (j := 5) HX0.out rfl
    have hne0 : Nonempty (Later W) := later_nonempty W
    refine wp_region_class (S := fun v => Below W.heap.size W v) (by kernel_rfl) (by kernel_rfl) (below_drew _) ?_
    repeat (first | go_big_quiet_skip | (go_big_quiet_want; go_big_quiet_op; first | go_big_quiet_on | (apply Exists.intro; refine ⟨fun q => ?_, ?_⟩; (go_at_call 114; refine (l3Parts_any _ _).mono ?_; rintro e w1 ⟨rfl, rfl⟩; exact ⟨rfl, q, rfl⟩); go_big_quiet_on)))
    refine wpQuiet_nil ?_
    intro _ hw'
    obtain ⟨q, rfl⟩ := hw'
    go_wp2
    go_ret
    exact ⟨ret_bool HF.out.symm, HB0.out.trans (q.h.mono HB0.out.size)⟩
  have hE2 : decide (0 < x.al.length) = false := decide_eq_false (by omega)
  have HhE := hide hE
  clear hE
  by_cases hN : x.n = 0
  case neg =>
    have hN2 : (x.n != 0) = true := by simpa using hN
    have HhN := hide hN
    clear hN
    have HF : Hid (hereB x = false) := by
      show hereB x = false
      simp [hereB, shapeE, HhD.out, HhE.out, HhN.out, HK6.out, HK7.out, HK3.out]
    go_enter Tryz.func81, Tryz.ntmps81
    go_wp2_with fail
    generalize (w.alloc (.cells #[.int .i64 x.k, .string x.s, .int .i64 x.n, .slice o1 x.l.length c1, .slice o2 x.ds.length c2, .slice o3 x.al.length c3] 47)) = W at HX0 HB0 ⊢
    have hq0 := later_cell (j := 0) HX0.out rfl
    have hq1 := later_cell (j := 1) HX0.out rfl
    have hq2 := later_cell (j := 2) HX0.out rfl
    have hq3 := later_cell (j := 3) HX0.out rfl
    have hq4 := later_cell (j := 4) HX0.out rfl
    have hq5 := later_cell (j := 5) HX0.out rfl
    have hne0 : Nonempty (Later W) := later_nonempty W
    refine wp_region_class (S := fun v => Below W.heap.size W v) (by kernel_rfl) (by kernel_rfl) (below_drew _) ?_
    repeat (first | go_big_quiet_skip | (go_big_quiet_want; go_big_quiet_op; first | go_big_quiet_on | (apply Exists.intro; refine ⟨fun q => ?_, ?_⟩; (go_at_call 114; refine (l3Parts_any _ _).mono ?_; rintro e w1 ⟨rfl, rfl⟩; exact ⟨rfl, q, rfl⟩); go_big_quiet_on)))
    refine wpQuiet_nil ?_
    intro _ hw'
    obtain ⟨q, rfl⟩ := hw'
    go_wp2
    go_ret
    exact ⟨ret_bool HF.out.symm, HB0.out.trans (q.h.mono HB0.out.size)⟩
  have hN2 : (x.n != 0) = false := by simpa using hN
  have HhN := hide hN
  clear hN
  by_cases hk : x.k = 1
  · have hk2 : (x.k == 1) = true := by simpa using hk
    have hk2n : (x.k != 1) = false := by simpa using hk
    have ho2 : (x.k == 2) = false := by rw [hk]; rfl
    have ho2n : (x.k != 2) = true := by rw [hk]; rfl
    have ho3 : (x.k == 3) = false := by rw [hk]; rfl
    have ho3n : (x.k != 3) = true := by rw [hk]; rfl
    have ho5 : (x.k == 5) = false := by rw [hk]; rfl
    have ho5n : (x.k != 5) = true := by rw [hk]; rfl
    have ho6 : (x.k == 6) = false := by rw [hk]; rfl
    have ho6n : (x.k != 6) = true := by rw [hk]; rfl
    have ho7 : (x.k == 7) = false := by rw [hk]; rfl
    have ho7n : (x.k != 7) = true := by rw [hk]; rfl
    have ho9 : (x.k == 9) = false := by rw [hk]; rfl
    have ho9n : (x.k != 9) = true := by rw [hk]; rfl
    have HK := hide hk
    clear hk
    have HH : Hid (hereB x = kindB x) := by
      show hereB x = kindB x
      have : shapeE x = true := by
        unfold shapeE
        rw [HAD.out]
        simp [HhD.out, HhE.out, HhN.out, HK6.out, HK7.out, HK3.out]
      simp [hereB, this]
    go_enter Tryz.func81, Tryz.ntmps81
    go_wp2_with fail
    generalize (w.alloc (.cells #[.int .i64 x.k, .string x.s, .int .i64 x.n, .slice o1 x.l.length c1, .slice o2 x.ds.length c2, .slice o3 x.al.length c3] 47)) = W at HX0 HB0 ⊢
    have hq0 := later_cell (j := 0) HX0.out rfl
    have hq1 := later_cell (j := 1) HX0.out rfl
    have hq2 := later_cell (j := 2) HX0.out rfl
    have hq3 := later_cell (j := 3) HX0.out rfl
    have hq4 := later_cell (j := 4) HX0.out rfl
    have hq5 := later_cell (j := 5) HX0.out rfl
    have hne0 : Nonempty (Later W) := later_nonempty W
    refine wp_region_class (S := fun v => Below W.heap.size W v) (by kernel_rfl) (by kernel_rfl) (below_drew _) ?_
    repeat (first | go_big_quiet_skip | (go_big_quiet_want; go_big_quiet_op; first | go_big_quiet_on | (apply Exists.intro; refine ⟨fun q => ?_, ?_⟩; (go_at_call 114; refine (l3Parts_any _ _).mono ?_; rintro e w1 ⟨rfl, rfl⟩; exact ⟨rfl, q, rfl⟩); go_big_quiet_on)))
    refine wpQuiet_nil ?_
    intro _ hw'
    obtain ⟨q, rfl⟩ := hw'
    have HQ := hide (HB0.out.trans (q.h.mono HB0.out.size))
    go_wp2_with fail
    refine (specName_any _ _ HS.out).mono ?_
    rintro e w1 ⟨rfl, hb⟩
    have HB1 := hide (HQ.out.trans (hb.mono HQ.out.size))
    clear hb
    go_wp2
    go_ret
    exact ⟨ret_bool (by rw [HH.out]; simp [kindB, HK.out, nmB]), HB1.out⟩
  have hk1b : (x.k == 1) = false := by simpa using hk
  have hk1n : (x.k != 1) = true := by simpa using hk
  have HK1 := hide hk
  clear hk
  by_cases hk : x.k = 2
  · have hk2 : (x.k == 2) = true := by simpa using hk
    have hk2n : (x.k != 2) = false := by simpa using hk
    have ho1 : (x.k == 1) = false := by rw [hk]; rfl
    have ho1n : (x.k != 1) = true := by rw [hk]; rfl
    have ho3 : (x.k == 3) = false := by rw [hk]; rfl
    have ho3n : (x.k != 3) = true := by rw [hk]; rfl
    have ho5 : (x.k == 5) = false := by rw [hk]; rfl
    have ho5n : (x.k != 5) = true := by rw [hk]; rfl
    have ho6 : (x.k == 6) = false := by rw [hk]; rfl
    have ho6n : (x.k != 6) = true := by rw [hk]; rfl
    have ho7 : (x.k == 7) = false := by rw [hk]; rfl
    have ho7n : (x.k != 7) = true := by rw [hk]; rfl
    have ho9 : (x.k == 9) = false := by rw [hk]; rfl
    have ho9n : (x.k != 9) = true := by rw [hk]; rfl
    have HK := hide hk
    clear hk
    have HH : Hid (hereB x = kindB x) := by
      show hereB x = kindB x
      have : shapeE x = true := by
        unfold shapeE
        rw [HAD.out]
        simp [HhD.out, HhE.out, HhN.out, HK6.out, HK7.out, HK3.out]
      simp [hereB, this]
    go_enter Tryz.func81, Tryz.ntmps81
    go_wp2_with fail
    generalize (w.alloc (.cells #[.int .i64 x.k, .string x.s, .int .i64 x.n, .slice o1 x.l.length c1, .slice o2 x.ds.length c2, .slice o3 x.al.length c3] 47)) = W at HX0 HB0 ⊢
    have hq0 := later_cell (j := 0) HX0.out rfl
    have hq1 := later_cell (j := 1) HX0.out rfl
    have hq2 := later_cell (j := 2) HX0.out rfl
    have hq3 := later_cell (j := 3) HX0.out rfl
    have hq4 := later_cell (j := 4) HX0.out rfl
    have hq5 := later_cell (j := 5) HX0.out rfl
    have hne0 : Nonempty (Later W) := later_nonempty W
    refine wp_region_class (S := fun v => Below W.heap.size W v) (by kernel_rfl) (by kernel_rfl) (below_drew _) ?_
    repeat (first | go_big_quiet_skip | (go_big_quiet_want; go_big_quiet_op; first | go_big_quiet_on | (apply Exists.intro; refine ⟨fun q => ?_, ?_⟩; (go_at_call 114; refine (l3Parts_any _ _).mono ?_; rintro e w1 ⟨rfl, rfl⟩; exact ⟨rfl, q, rfl⟩); go_big_quiet_on)))
    refine wpQuiet_nil ?_
    intro _ hw'
    obtain ⟨q, rfl⟩ := hw'
    have HQ := hide (HB0.out.trans (q.h.mono HB0.out.size))
    go_wp2_with fail
    refine (specGreat_any _ _ HS.out).mono ?_
    rintro e w1 ⟨rfl, rfl⟩
    go_wp2
    go_ret
    exact ⟨ret_bool (by rw [HH.out]; simp [kindB, HK.out, grB]), HQ.out⟩
  have hk2b : (x.k == 2) = false := by simpa using hk
  have hk2n : (x.k != 2) = true := by simpa using hk
  have HK2 := hide hk
  clear hk
  by_cases hk : x.k = 5
  · have hk2 : (x.k == 5) = true := by simpa using hk
    have hk2n : (x.k != 5) = false := by simpa using hk
    have ho1 : (x.k == 1) = false := by rw [hk]; rfl
    have ho1n : (x.k != 1) = true := by rw [hk]; rfl
    have ho2 : (x.k == 2) = false := by rw [hk]; rfl
    have ho2n : (x.k != 2) = true := by rw [hk]; rfl
    have ho3 : (x.k == 3) = false := by rw [hk]; rfl
    have ho3n : (x.k != 3) = true := by rw [hk]; rfl
    have ho6 : (x.k == 6) = false := by rw [hk]; rfl
    have ho6n : (x.k != 6) = true := by rw [hk]; rfl
    have ho7 : (x.k == 7) = false := by rw [hk]; rfl
    have ho7n : (x.k != 7) = true := by rw [hk]; rfl
    have ho9 : (x.k == 9) = false := by rw [hk]; rfl
    have ho9n : (x.k != 9) = true := by rw [hk]; rfl
    have HK := hide hk
    clear hk
    have HH : Hid (hereB x = kindB x) := by
      show hereB x = kindB x
      have : shapeE x = true := by
        unfold shapeE
        rw [HAD.out]
        simp [HhD.out, HhE.out, HhN.out, HK6.out, HK7.out, HK3.out]
      simp [hereB, this]
    go_enter Tryz.func81, Tryz.ntmps81
    go_wp2_with fail
    generalize (w.alloc (.cells #[.int .i64 x.k, .string x.s, .int .i64 x.n, .slice o1 x.l.length c1, .slice o2 x.ds.length c2, .slice o3 x.al.length c3] 47)) = W at HX0 HB0 ⊢
    have hq0 := later_cell (j := 0) HX0.out rfl
    have hq1 := later_cell (j := 1) HX0.out rfl
    have hq2 := later_cell (j := 2) HX0.out rfl
    have hq3 := later_cell (j := 3) HX0.out rfl
    have hq4 := later_cell (j := 4) HX0.out rfl
    have hq5 := later_cell (j := 5) HX0.out rfl
    have hne0 : Nonempty (Later W) := later_nonempty W
    refine wp_region_class (S := fun v => Below W.heap.size W v) (by kernel_rfl) (by kernel_rfl) (below_drew _) ?_
    repeat (first | go_big_quiet_skip | (go_big_quiet_want; go_big_quiet_op; first | go_big_quiet_on | (apply Exists.intro; refine ⟨fun q => ?_, ?_⟩; (go_at_call 114; refine (l3Parts_any _ _).mono ?_; rintro e w1 ⟨rfl, rfl⟩; exact ⟨rfl, q, rfl⟩); go_big_quiet_on)))
    refine wpQuiet_nil ?_
    intro _ hw'
    obtain ⟨q, rfl⟩ := hw'
    have HQ := hide (HB0.out.trans (q.h.mono HB0.out.size))
    have hm := q.h.mono (Nat.zero_le _)
    clear hm
    cases hn : nameB x.s.data.toList
    all_goals
      have HN := hide hn
      clear hn
      go_wp2_with fail
      refine (specName_any _ _ HS.out).mono ?_
      rintro e w1 ⟨rfl, hb⟩
      rw [HN.out]
      have HB1 := hide (HQ.out.trans (hb.mono HQ.out.size))
      have b1 : w1.cell? ⟨w.heap.size, 1, none⟩ = some (.string x.s) := (hb.cell (p := ⟨w.heap.size, 1, none⟩) (Nat.lt_of_lt_of_le (heap_lt HX0.out) q.h.size)).trans (hq1 q)
      clear hb
      go_wp2
      go_ret
      exact ⟨ret_bool (by rw [HH.out]; simp [kindB, HK.out, nmB, HN.out, isU]), HB1.out⟩
  have hk5b : (x.k == 5) = false := by simpa using hk
  have hk5n : (x.k != 5) = true := by simpa using hk
  have HK5 := hide hk
  clear hk
  by_cases hk : x.k = 9
  · have hk2 : (x.k == 9) = true := by simpa using hk
    have hk2n : (x.k != 9) = false := by simpa using hk
    have ho1 : (x.k == 1) = false := by rw [hk]; rfl
    have ho1n : (x.k != 1) = true := by rw [hk]; rfl
    have ho2 : (x.k == 2) = false := by rw [hk]; rfl
    have ho2n : (x.k != 2) = true := by rw [hk]; rfl
    have ho3 : (x.k == 3) = false := by rw [hk]; rfl
    have ho3n : (x.k != 3) = true := by rw [hk]; rfl
    have ho5 : (x.k == 5) = false := by rw [hk]; rfl
    have ho5n : (x.k != 5) = true := by rw [hk]; rfl
    have ho6 : (x.k == 6) = false := by rw [hk]; rfl
    have ho6n : (x.k != 6) = true := by rw [hk]; rfl
    have ho7 : (x.k == 7) = false := by rw [hk]; rfl
    have ho7n : (x.k != 7) = true := by rw [hk]; rfl
    have HK := hide hk
    clear hk
    have HH : Hid (hereB x = kindB x) := by
      show hereB x = kindB x
      have : shapeE x = true := by
        unfold shapeE
        rw [HAD.out]
        simp [HhD.out, HhE.out, HhN.out, HK6.out, HK7.out, HK3.out]
      simp [hereB, this]
    go_enter Tryz.func81, Tryz.ntmps81
    go_wp2_with fail
    generalize (w.alloc (.cells #[.int .i64 x.k, .string x.s, .int .i64 x.n, .slice o1 x.l.length c1, .slice o2 x.ds.length c2, .slice o3 x.al.length c3] 47)) = W at HX0 HB0 ⊢
    have hq0 := later_cell (j := 0) HX0.out rfl
    have hq1 := later_cell (j := 1) HX0.out rfl
    have hq2 := later_cell (j := 2) HX0.out rfl
    have hq3 := later_cell (j := 3) HX0.out rfl
    have hq4 := later_cell (j := 4) HX0.out rfl
    have hq5 := later_cell (j := 5) HX0.out rfl
    have hne0 : Nonempty (Later W) := later_nonempty W
    refine wp_region_class (S := fun v => Below W.heap.size W v) (by kernel_rfl) (by kernel_rfl) (below_drew _) ?_
    repeat (first | go_big_quiet_skip | (go_big_quiet_want; go_big_quiet_op; first | go_big_quiet_on | (apply Exists.intro; refine ⟨fun q => ?_, ?_⟩; (go_at_call 114; refine (l3Parts_any _ _).mono ?_; rintro e w1 ⟨rfl, rfl⟩; exact ⟨rfl, q, rfl⟩); go_big_quiet_on)))
    refine wpQuiet_nil ?_
    intro _ hw'
    obtain ⟨q, rfl⟩ := hw'
    have HQ := hide (HB0.out.trans (q.h.mono HB0.out.size))
    go_wp2_with fail
    refine (l3Op_any _ _).mono ?_
    rintro e w1 ⟨rfl, hb⟩
    have HB1 := hide (HQ.out.trans (hb.mono HQ.out.size))
    clear hb
    go_wp2
    go_ret
    exact ⟨ret_bool (by rw [HH.out]; simp [kindB, HK.out]), HB1.out⟩
  have hk9b : (x.k == 9) = false := by simpa using hk
  have hk9n : (x.k != 9) = true := by simpa using hk
  have HK9 := hide hk
  clear hk
  have HH : Hid (hereB x = kindB x) := by
    show hereB x = kindB x
    have : shapeE x = true := by
      unfold shapeE
      rw [HAD.out]
      simp [HhD.out, HhE.out, HhN.out, HK6.out, HK7.out, HK3.out]
    simp [hereB, this]
  go_enter Tryz.func81, Tryz.ntmps81
  go_wp2_with fail
  generalize (w.alloc (.cells #[.int .i64 x.k, .string x.s, .int .i64 x.n, .slice o1 x.l.length c1, .slice o2 x.ds.length c2, .slice o3 x.al.length c3] 47)) = W at HX0 HB0 ⊢
  have hq0 := later_cell (j := 0) HX0.out rfl
  have hq1 := later_cell (j := 1) HX0.out rfl
  have hq2 := later_cell (j := 2) HX0.out rfl
  have hq3 := later_cell (j := 3) HX0.out rfl
  have hq4 := later_cell (j := 4) HX0.out rfl
  have hq5 := later_cell (j := 5) HX0.out rfl
  have hne0 : Nonempty (Later W) := later_nonempty W
  refine wp_region_class (S := fun v => Below W.heap.size W v) (by kernel_rfl) (by kernel_rfl) (below_drew _) ?_
  repeat (first | go_big_quiet_skip | (go_big_quiet_want; go_big_quiet_op; first | go_big_quiet_on | (apply Exists.intro; refine ⟨fun q => ?_, ?_⟩; (go_at_call 114; refine (l3Parts_any _ _).mono ?_; rintro e w1 ⟨rfl, rfl⟩; exact ⟨rfl, q, rfl⟩); go_big_quiet_on)))
  refine wpQuiet_nil ?_
  intro _ hw'
  obtain ⟨q, rfl⟩ := hw'
  go_wp2
  go_ret
  exact ⟨ret_bool (by rw [HH.out]; simp [kindB, HK1.out, HK2.out, HK3.out, HK5.out, HK9.out, HK7.out, emptyB]), HB0.out.trans (q.h.mono HB0.out.size)⟩
end Go.Proofs.YteoghpefilghdakGreatDoor

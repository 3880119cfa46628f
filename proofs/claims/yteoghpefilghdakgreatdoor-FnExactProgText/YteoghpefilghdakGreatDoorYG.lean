/- The forms of the program, each told back as an expression; two outlines held against each other. -/
import Derived.Test.YteoghpefilghdakGreatDoorYF
namespace Go.Proofs.YteoghpefilghdakGreatDoor
open Go.ChangeShapes Go.WideShapes Go.ChangeAt Go.RowKit

set_option maxHeartbeats 400000 in
theorem nameForm_exp (s : ByteArray) (w : World) :
    Calls Tryz.prog 179 #[.agg #[.string s]] w fun e w' => ∃ o c, e = .returned (.agg #[.int .i64 1, .string s, .int .i64 0, .slice o 0 c, .slice none 0 0, .slice none 0 0]) ∧ Below w.heap.size w w' := by
  go_enter Tryz.func179, Tryz.ntmps179
  go_wp2
  refine bodyPost_ret (v := .agg #[.int .i64 1, .string s, .int .i64 0, .slice none 0 0, .slice none 0 0, .slice none 0 0]) ?_ rfl ?_
  · refine results_cell_row rfl _ _ (w.heap.size + 1) 47 _ (0, 0) _ rfl ?_ Tryz.underlying47 rfl (by kernel_rfl)
    first | exact heap_alloc2_new w _ _ | (rw [Below.heap_alloc _ _ _ (by simp)]; exact heap_alloc2_new w _ _)
  · refine ⟨_, _, rfl, ?_⟩
    first | exact ((Below.refl _ w).alloc (Nat.le_refl _) _).alloc (by simp) _ | exact (((Below.refl _ w).alloc (Nat.le_refl _) _).alloc (by simp) _).alloc (by simp; omega) _

set_option maxHeartbeats 400000 in
theorem greatForm_exp (s : ByteArray) (w : World) :
    Calls Tryz.prog 180 #[.agg #[.string s]] w fun e w' => ∃ o c, e = .returned (.agg #[.int .i64 2, .string s, .int .i64 0, .slice o 0 c, .slice none 0 0, .slice none 0 0]) ∧ Below w.heap.size w w' := by
  go_enter Tryz.func180, Tryz.ntmps180
  go_wp2
  refine bodyPost_ret (v := .agg #[.int .i64 2, .string s, .int .i64 0, .slice none 0 0, .slice none 0 0, .slice none 0 0]) ?_ rfl ?_
  · refine results_cell_row rfl _ _ (w.heap.size + 1) 47 _ (0, 0) _ rfl ?_ Tryz.underlying47 rfl (by kernel_rfl)
    first | exact heap_alloc2_new w _ _ | (rw [Below.heap_alloc _ _ _ (by simp)]; exact heap_alloc2_new w _ _)
  · refine ⟨_, _, rfl, ?_⟩
    first | exact ((Below.refl _ w).alloc (Nat.le_refl _) _).alloc (by simp) _ | exact (((Below.refl _ w).alloc (Nat.le_refl _) _).alloc (by simp) _).alloc (by simp; omega) _

set_option maxHeartbeats 400000 in
theorem numForm_exp (n : Int) (w : World) :
    Calls Tryz.prog 181 #[.agg #[.int .i64 n]] w fun e w' => ∃ o c, e = .returned (.agg #[.int .i64 3, .string ⟨#[]⟩, .int .i64 n, .slice o 0 c, .slice none 0 0, .slice none 0 0]) ∧ Below w.heap.size w w' := by
  go_enter Tryz.func181, Tryz.ntmps181
  go_wp2
  refine bodyPost_ret (v := .agg #[.int .i64 3, .string ⟨#[]⟩, .int .i64 n, .slice none 0 0, .slice none 0 0, .slice none 0 0]) ?_ rfl ?_
  · refine results_cell_row rfl _ _ (w.heap.size + 1) 47 _ (0, 0) _ rfl ?_ Tryz.underlying47 rfl (by kernel_rfl)
    first | exact heap_alloc2_new w _ _ | (rw [Below.heap_alloc _ _ _ (by simp)]; exact heap_alloc2_new w _ _)
  · refine ⟨_, _, rfl, ?_⟩
    first | exact ((Below.refl _ w).alloc (Nat.le_refl _) _).alloc (by simp) _ | exact (((Below.refl _ w).alloc (Nat.le_refl _) _).alloc (by simp) _).alloc (by simp; omega) _

set_option maxHeartbeats 400000 in
theorem callForm_exp (a0 a1 a2 a3 a4 a5 : Value) (b0 b1 b2 b3 b4 b5 : Value) (w : World) :
    Calls Tryz.prog 182 #[.agg #[a0, a1, a2, a3, a4, a5, b0, b1, b2, b3, b4, b5]] w fun e w' => ∃ o c, e = .returned (.agg #[.int .i64 4, .string ⟨#[]⟩, .int .i64 0, .slice o 2 c, .slice none 0 0, .slice none 0 0]) ∧ Below w.heap.size w w' := by
  go_enter Tryz.func182, Tryz.ntmps182
  go_wp2
  refine bodyPost_ret (v := .agg #[.int .i64 4, .string ⟨#[]⟩, .int .i64 0, .slice (some ⟨w.heap.size + 2, 0, none⟩) 2 2, .slice none 0 0, .slice none 0 0]) ?_ rfl ?_
  · refine results_cell_row rfl _ _ (w.heap.size + 1) 47 _ (0, 0) _ rfl ?_ Tryz.underlying47 rfl (by kernel_rfl)
    first | exact heap_alloc2_new w _ _ | (rw [Below.heap_alloc _ _ _ (by simp)]; exact heap_alloc2_new w _ _)
  · refine ⟨_, _, rfl, ?_⟩
    first | exact ((Below.refl _ w).alloc (Nat.le_refl _) _).alloc (by simp) _ | exact (((Below.refl _ w).alloc (Nat.le_refl _) _).alloc (by simp) _).alloc (by simp; omega) _

set_option maxHeartbeats 400000 in
theorem lamForm_exp (s : ByteArray) (a0 a1 a2 a3 a4 a5 : Value) (w : World) :
    Calls Tryz.prog 183 #[.agg #[.string s, a0, a1, a2, a3, a4, a5]] w fun e w' => ∃ o c, e = .returned (.agg #[.int .i64 5, .string s, .int .i64 0, .slice o 1 c, .slice none 0 0, .slice none 0 0]) ∧ Below w.heap.size w w' := by
  go_enter Tryz.func183, Tryz.ntmps183
  go_wp2
  refine bodyPost_ret (v := .agg #[.int .i64 5, .string s, .int .i64 0, .slice (some ⟨w.heap.size + 2, 0, none⟩) 1 1, .slice none 0 0, .slice none 0 0]) ?_ rfl ?_
  · refine results_cell_row rfl _ _ (w.heap.size + 1) 47 _ (0, 0) _ rfl ?_ Tryz.underlying47 rfl (by kernel_rfl)
    first | exact heap_alloc2_new w _ _ | (rw [Below.heap_alloc _ _ _ (by simp)]; exact heap_alloc2_new w _ _)
  · refine ⟨_, _, rfl, ?_⟩
    first | exact ((Below.refl _ w).alloc (Nat.le_refl _) _).alloc (by simp) _ | exact (((Below.refl _ w).alloc (Nat.le_refl _) _).alloc (by simp) _).alloc (by simp; omega) _

set_option maxHeartbeats 400000 in
theorem letForm_exp (o2 : Option Addr) (l2 c2 : Nat) (a0 a1 a2 a3 a4 a5 : Value) (w : World) :
    Calls Tryz.prog 184 #[.agg #[.slice o2 l2 c2, a0, a1, a2, a3, a4, a5]] w fun e w' => ∃ o c, e = .returned (.agg #[.int .i64 6, .string ⟨#[]⟩, .int .i64 0, .slice o 1 c, .slice o2 l2 c2, .slice none 0 0]) ∧ Below w.heap.size w w' := by
  go_enter Tryz.func184, Tryz.ntmps184
  go_wp2
  refine bodyPost_ret (v := .agg #[.int .i64 6, .string ⟨#[]⟩, .int .i64 0, .slice (some ⟨w.heap.size + 2, 0, none⟩) 1 1, .slice o2 l2 c2, .slice none 0 0]) ?_ rfl ?_
  · refine results_cell_row rfl _ _ (w.heap.size + 1) 47 _ (0, 0) _ rfl ?_ Tryz.underlying47 rfl (by kernel_rfl)
    first | exact heap_alloc2_new w _ _ | (rw [Below.heap_alloc _ _ _ (by simp)]; exact heap_alloc2_new w _ _)
  · refine ⟨_, _, rfl, ?_⟩
    first | exact ((Below.refl _ w).alloc (Nat.le_refl _) _).alloc (by simp) _ | exact (((Below.refl _ w).alloc (Nat.le_refl _) _).alloc (by simp) _).alloc (by simp; omega) _

set_option maxHeartbeats 400000 in
theorem caseForm_exp (a0 a1 a2 a3 a4 a5 : Value) (o3 : Option Addr) (l3 c3 : Nat) (w : World) :
    Calls Tryz.prog 185 #[.agg #[a0, a1, a2, a3, a4, a5, .slice o3 l3 c3]] w fun e w' => ∃ o c, e = .returned (.agg #[.int .i64 7, .string ⟨#[]⟩, .int .i64 0, .slice o 1 c, .slice none 0 0, .slice o3 l3 c3]) ∧ Below w.heap.size w w' := by
  go_enter Tryz.func185, Tryz.ntmps185
  go_wp2
  refine bodyPost_ret (v := .agg #[.int .i64 7, .string ⟨#[]⟩, .int .i64 0, .slice (some ⟨w.heap.size + 2, 0, none⟩) 1 1, .slice none 0 0, .slice o3 l3 c3]) ?_ rfl ?_
  · refine results_cell_row rfl _ _ (w.heap.size + 1) 47 _ (0, 0) _ rfl ?_ Tryz.underlying47 rfl (by kernel_rfl)
    first | exact heap_alloc2_new w _ _ | (rw [Below.heap_alloc _ _ _ (by simp)]; exact heap_alloc2_new w _ _)
  · refine ⟨_, _, rfl, ?_⟩
    first | exact ((Below.refl _ w).alloc (Nat.le_refl _) _).alloc (by simp) _ | exact (((Below.refl _ w).alloc (Nat.le_refl _) _).alloc (by simp) _).alloc (by simp; omega) _

set_option maxHeartbeats 400000 in
theorem ifForm_exp (a0 a1 a2 a3 a4 a5 : Value) (b0 b1 b2 b3 b4 b5 : Value) (d0 d1 d2 d3 d4 d5 : Value) (w : World) :
    Calls Tryz.prog 186 #[.agg #[a0, a1, a2, a3, a4, a5, b0, b1, b2, b3, b4, b5, d0, d1, d2, d3, d4, d5]] w fun e w' => ∃ o c, e = .returned (.agg #[.int .i64 8, .string ⟨#[]⟩, .int .i64 0, .slice o 3 c, .slice none 0 0, .slice none 0 0]) ∧ Below w.heap.size w w' := by
  go_enter Tryz.func186, Tryz.ntmps186
  go_wp2
  refine bodyPost_ret (v := .agg #[.int .i64 8, .string ⟨#[]⟩, .int .i64 0, .slice (some ⟨w.heap.size + 2, 0, none⟩) 3 3, .slice none 0 0, .slice none 0 0]) ?_ rfl ?_
  · refine results_cell_row rfl _ _ (w.heap.size + 1) 47 _ (0, 0) _ rfl ?_ Tryz.underlying47 rfl (by kernel_rfl)
    first | exact heap_alloc2_new w _ _ | (rw [Below.heap_alloc _ _ _ (by simp)]; exact heap_alloc2_new w _ _)
  · refine ⟨_, _, rfl, ?_⟩
    first | exact ((Below.refl _ w).alloc (Nat.le_refl _) _).alloc (by simp) _ | exact (((Below.refl _ w).alloc (Nat.le_refl _) _).alloc (by simp) _).alloc (by simp; omega) _

set_option maxHeartbeats 400000 in
theorem opForm_exp (s : ByteArray) (a0 a1 a2 a3 a4 a5 : Value) (b0 b1 b2 b3 b4 b5 : Value) (w : World) :
    Calls Tryz.prog 187 #[.agg #[.string s, a0, a1, a2, a3, a4, a5, b0, b1, b2, b3, b4, b5]] w fun e w' => ∃ o c, e = .returned (.agg #[.int .i64 9, .string s, .int .i64 0, .slice o 2 c, .slice none 0 0, .slice none 0 0]) ∧ Below w.heap.size w w' := by
  go_enter Tryz.func187, Tryz.ntmps187
  go_wp2
  refine bodyPost_ret (v := .agg #[.int .i64 9, .string s, .int .i64 0, .slice (some ⟨w.heap.size + 2, 0, none⟩) 2 2, .slice none 0 0, .slice none 0 0]) ?_ rfl ?_
  · refine results_cell_row rfl _ _ (w.heap.size + 1) 47 _ (0, 0) _ rfl ?_ Tryz.underlying47 rfl (by kernel_rfl)
    first | exact heap_alloc2_new w _ _ | (rw [Below.heap_alloc _ _ _ (by simp)]; exact heap_alloc2_new w _ _)
  · refine ⟨_, _, rfl, ?_⟩
    first | exact ((Below.refl _ w).alloc (Nat.le_refl _) _).alloc (by simp) _ | exact (((Below.refl _ w).alloc (Nat.le_refl _) _).alloc (by simp) _).alloc (by simp; omega) _

def outl (s t : ByteArray) (n m : Int) (u1 v1 u2 v2 u3 v3 : Nat) : Bool := (s.toList == t.toList) && (decide (n = m) && (decide (u1 = v1) && (decide (u2 = v2) && decide (u3 = v3))))
set_option maxHeartbeats 1000000 in
set_option maxRecDepth 100000 in
theorem sameOutline_any (k : Int) (s t : ByteArray) (n m : Int) (u1 v1 u2 v2 u3 v3 : Nat) (p1 p2 p3 r1 r2 r3 : Option Addr) (g1 g2 g3 f1 f2 f3 : Nat) (w : World) :
    Calls Tryz.prog 107 #[.agg #[.int .i64 k, .string s, .int .i64 n, .slice p1 u1 g1, .slice p2 u2 g2, .slice p3 u3 g3], .agg #[.int .i64 k, .string t, .int .i64 m, .slice r1 v1 f1, .slice r2 v2 f2, .slice r3 v3 f3]] w fun e w' => e = .returned (.bool (outl s t n m u1 v1 u2 v2 u3 v3)) ∧ Below w.heap.size w w' := by
  have HB : Hid (Below w.heap.size w ((w.alloc (.cells #[.int .i64 k, .string s, .int .i64 n, .slice p1 u1 g1, .slice p2 u2 g2, .slice p3 u3 g3] 47)).alloc (.cells #[.int .i64 k, .string t, .int .i64 m, .slice r1 v1 f1, .slice r2 v2 f2, .slice r3 v3 f3] 47))) := ((Below.refl _ w).alloc (Nat.le_refl _) _).alloc (by simp) _
  cases h1 : (s.toList == t.toList)
  · go_enter Tryz.func107, Tryz.ntmps107
    go_wp2
    go_ret
    exact ⟨ret_bool (by unfold outl; rw [h1]; rfl), HB.out⟩
  by_cases h2 : n = m
  case neg =>
    have h2b : (n == m) = false := by simpa using h2
    have H2 := hide h2
    clear h2
    go_enter Tryz.func107, Tryz.ntmps107
    go_wp2
    go_ret
    exact ⟨ret_bool (by unfold outl; rw [decide_eq_false H2.out]; simp), HB.out⟩
  have h2b : (n == m) = true := by simpa using h2
  have H2 := hide h2
  clear h2
  by_cases h3 : u1 = v1
  case neg =>
    have h3b : ((u1 : Int) == (v1 : Int)) = false := by simp; omega
    have h3c : (u1 == v1) = false := by simpa using h3
    have H3 := hide h3
    clear h3
    go_enter Tryz.func107, Tryz.ntmps107
    go_wp2
    go_ret
    exact ⟨ret_bool (by unfold outl; rw [decide_eq_false H3.out]; simp), HB.out⟩
  have h3b : ((u1 : Int) == (v1 : Int)) = true := by simp; omega
  have h3c : (u1 == v1) = true := by simpa using h3
  have H3 := hide h3
  clear h3
  by_cases h4 : u2 = v2
  case neg =>
    have h4b : ((u2 : Int) == (v2 : Int)) = false := by simp; omega
    have h4c : (u2 == v2) = false := by simpa using h4
    have H4 := hide h4
    clear h4
    go_enter Tryz.func107, Tryz.ntmps107
    go_wp2
    go_ret
    exact ⟨ret_bool (by unfold outl; rw [decide_eq_false H4.out]; simp), HB.out⟩
  have h4b : ((u2 : Int) == (v2 : Int)) = true := by simp; omega
  have h4c : (u2 == v2) = true := by simpa using h4
  have H4 := hide h4
  clear h4
  by_cases h5 : u3 = v3
  · have h5b : ((u3 : Int) == (v3 : Int)) = true := by simp; omega
    have h5c : (u3 == v3) = true := by simpa using h5
    have H5 := hide h5
    clear h5
    go_enter Tryz.func107, Tryz.ntmps107
    go_wp2
    go_ret
    exact ⟨ret_bool (by unfold outl; rw [h1, decide_eq_true H2.out, decide_eq_true H3.out, decide_eq_true H4.out, decide_eq_true H5.out]; rfl), HB.out⟩
  · have h5b : ((u3 : Int) == (v3 : Int)) = false := by simp; omega
    have h5c : (u3 == v3) = false := by simpa using h5
    have H5 := hide h5
    clear h5
    go_enter Tryz.func107, Tryz.ntmps107
    go_wp2
    go_ret
    exact ⟨ret_bool (by unfold outl; rw [decide_eq_false H5.out]; simp), HB.out⟩
end Go.Proofs.YteoghpefilghdakGreatDoor

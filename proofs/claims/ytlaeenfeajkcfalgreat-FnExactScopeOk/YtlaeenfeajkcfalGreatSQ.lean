/- Made of YG, YH. -/
import Derived.Test.YtlaeenfeajkcfalGreatSJ
namespace Go.Proofs.YtlaeenfeajkcfalGreat
open Go.ChangeShapes Go.WideShapes Go.ChangeAt Go.RowKit

set_option maxHeartbeats 400000 in
theorem nameForm_exp (s : ByteArray) (w : World) :
    Calls Tryz.prog 189 #[.agg #[.string s]] w fun e w' => ∃ o c, e = .returned (.agg #[.int .i64 1, .string s, .int .i64 0, .slice o 0 c, .slice none 0 0, .slice none 0 0]) ∧ Below w.heap.size w w' := by
  go_enter Tryz.func189, Tryz.ntmps189
  go_wp2
  refine bodyPost_ret (v := .agg #[.int .i64 1, .string s, .int .i64 0, .slice none 0 0, .slice none 0 0, .slice none 0 0]) ?_ rfl ?_
  · refine results_cell_row rfl _ _ (w.heap.size + 1) 75 _ (0, 0) _ rfl ?_ Tryz.underlying75 rfl (by kernel_rfl)
    first | exact heap_alloc2_new w _ _ | (rw [Below.heap_alloc _ _ _ (by simp)]; exact heap_alloc2_new w _ _)
  · refine ⟨_, _, rfl, ?_⟩
    first | exact ((Below.refl _ w).alloc (Nat.le_refl _) _).alloc (by simp) _ | exact (((Below.refl _ w).alloc (Nat.le_refl _) _).alloc (by simp) _).alloc (by simp; omega) _

set_option maxHeartbeats 400000 in
theorem greatForm_exp (s : ByteArray) (w : World) :
    Calls Tryz.prog 190 #[.agg #[.string s]] w fun e w' => ∃ o c, e = .returned (.agg #[.int .i64 2, .string s, .int .i64 0, .slice o 0 c, .slice none 0 0, .slice none 0 0]) ∧ Below w.heap.size w w' := by
  go_enter Tryz.func190, Tryz.ntmps190
  go_wp2
  refine bodyPost_ret (v := .agg #[.int .i64 2, .string s, .int .i64 0, .slice none 0 0, .slice none 0 0, .slice none 0 0]) ?_ rfl ?_
  · refine results_cell_row rfl _ _ (w.heap.size + 1) 75 _ (0, 0) _ rfl ?_ Tryz.underlying75 rfl (by kernel_rfl)
    first | exact heap_alloc2_new w _ _ | (rw [Below.heap_alloc _ _ _ (by simp)]; exact heap_alloc2_new w _ _)
  · refine ⟨_, _, rfl, ?_⟩
    first | exact ((Below.refl _ w).alloc (Nat.le_refl _) _).alloc (by simp) _ | exact (((Below.refl _ w).alloc (Nat.le_refl _) _).alloc (by simp) _).alloc (by simp; omega) _

set_option maxHeartbeats 400000 in
theorem numForm_exp (n : Int) (w : World) :
    Calls Tryz.prog 191 #[.agg #[.int .i64 n]] w fun e w' => ∃ o c, e = .returned (.agg #[.int .i64 3, .string ⟨#[]⟩, .int .i64 n, .slice o 0 c, .slice none 0 0, .slice none 0 0]) ∧ Below w.heap.size w w' := by
  go_enter Tryz.func191, Tryz.ntmps191
  go_wp2
  refine bodyPost_ret (v := .agg #[.int .i64 3, .string ⟨#[]⟩, .int .i64 n, .slice none 0 0, .slice none 0 0, .slice none 0 0]) ?_ rfl ?_
  · refine results_cell_row rfl _ _ (w.heap.size + 1) 75 _ (0, 0) _ rfl ?_ Tryz.underlying75 rfl (by kernel_rfl)
    first | exact heap_alloc2_new w _ _ | (rw [Below.heap_alloc _ _ _ (by simp)]; exact heap_alloc2_new w _ _)
  · refine ⟨_, _, rfl, ?_⟩
    first | exact ((Below.refl _ w).alloc (Nat.le_refl _) _).alloc (by simp) _ | exact (((Below.refl _ w).alloc (Nat.le_refl _) _).alloc (by simp) _).alloc (by simp; omega) _

set_option maxHeartbeats 400000 in
theorem callForm_exp (a0 a1 a2 a3 a4 a5 : Value) (b0 b1 b2 b3 b4 b5 : Value) (w : World) :
    Calls Tryz.prog 192 #[.agg #[a0, a1, a2, a3, a4, a5, b0, b1, b2, b3, b4, b5]] w fun e w' => ∃ o c, e = .returned (.agg #[.int .i64 4, .string ⟨#[]⟩, .int .i64 0, .slice o 2 c, .slice none 0 0, .slice none 0 0]) ∧ Below w.heap.size w w' := by
  go_enter Tryz.func192, Tryz.ntmps192
  go_wp2
  refine bodyPost_ret (v := .agg #[.int .i64 4, .string ⟨#[]⟩, .int .i64 0, .slice (some ⟨w.heap.size + 2, 0, none⟩) 2 2, .slice none 0 0, .slice none 0 0]) ?_ rfl ?_
  · refine results_cell_row rfl _ _ (w.heap.size + 1) 75 _ (0, 0) _ rfl ?_ Tryz.underlying75 rfl (by kernel_rfl)
    first | exact heap_alloc2_new w _ _ | (rw [Below.heap_alloc _ _ _ (by simp)]; exact heap_alloc2_new w _ _)
  · refine ⟨_, _, rfl, ?_⟩
    first | exact ((Below.refl _ w).alloc (Nat.le_refl _) _).alloc (by simp) _ | exact (((Below.refl _ w).alloc (Nat.le_refl _) _).alloc (by simp) _).alloc (by simp; omega) _

set_option maxHeartbeats 400000 in
theorem lamForm_exp (s : ByteArray) (a0 a1 a2 a3 a4 a5 : Value) (w : World) :
    Calls Tryz.prog 193 #[.agg #[.string s, a0, a1, a2, a3, a4, a5]] w fun e w' => ∃ o c, e = .returned (.agg #[.int .i64 5, .string s, .int .i64 0, .slice o 1 c, .slice none 0 0, .slice none 0 0]) ∧ Below w.heap.size w w' := by
  go_enter Tryz.func193, Tryz.ntmps193
  go_wp2
  refine bodyPost_ret (v := .agg #[.int .i64 5, .string s, .int .i64 0, .slice (some ⟨w.heap.size + 2, 0, none⟩) 1 1, .slice none 0 0, .slice none 0 0]) ?_ rfl ?_
  · refine results_cell_row rfl _ _ (w.heap.size + 1) 75 _ (0, 0) _ rfl ?_ Tryz.underlying75 rfl (by kernel_rfl)
    first | exact heap_alloc2_new w _ _ | (rw [Below.heap_alloc _ _ _ (by simp)]; exact heap_alloc2_new w _ _)
  · refine ⟨_, _, rfl, ?_⟩
    first | exact ((Below.refl _ w).alloc (Nat.le_refl _) _).alloc (by simp) _ | exact (((Below.refl _ w).alloc (Nat.le_refl _) _).alloc (by simp) _).alloc (by simp; omega) _

set_option maxHeartbeats 400000 in
theorem letForm_exp (o2 : Option Addr) (l2 c2 : Nat) (a0 a1 a2 a3 a4 a5 : Value) (w : World) :
    Calls Tryz.prog 194 #[.agg #[.slice o2 l2 c2, a0, a1, a2, a3, a4, a5]] w fun e w' => ∃ o c, e = .returned (.agg #[.int .i64 6, .string ⟨#[]⟩, .int .i64 0, .slice o 1 c, .slice o2 l2 c2, .slice none 0 0]) ∧ Below w.heap.size w w' := by
  go_enter Tryz.func194, Tryz.ntmps194
  go_wp2
  refine bodyPost_ret (v := .agg #[.int .i64 6, .string ⟨#[]⟩, .int .i64 0, .slice (some ⟨w.heap.size + 2, 0, none⟩) 1 1, .slice o2 l2 c2, .slice none 0 0]) ?_ rfl ?_
  · refine results_cell_row rfl _ _ (w.heap.size + 1) 75 _ (0, 0) _ rfl ?_ Tryz.underlying75 rfl (by kernel_rfl)
    first | exact heap_alloc2_new w _ _ | (rw [Below.heap_alloc _ _ _ (by simp)]; exact heap_alloc2_new w _ _)
  · refine ⟨_, _, rfl, ?_⟩
    first | exact ((Below.refl _ w).alloc (Nat.le_refl _) _).alloc (by simp) _ | exact (((Below.refl _ w).alloc (Nat.le_refl _) _).alloc (by simp) _).alloc (by simp; omega) _

set_option maxHeartbeats 400000 in
theorem caseForm_exp (a0 a1 a2 a3 a4 a5 : Value) (o3 : Option Addr) (l3 c3 : Nat) (w : World) :
    Calls Tryz.prog 195 #[.agg #[a0, a1, a2, a3, a4, a5, .slice o3 l3 c3]] w fun e w' => ∃ o c, e = .returned (.agg #[.int .i64 7, .string ⟨#[]⟩, .int .i64 0, .slice o 1 c, .slice none 0 0, .slice o3 l3 c3]) ∧ Below w.heap.size w w' := by
  go_enter Tryz.func195, Tryz.ntmps195
  go_wp2
  refine bodyPost_ret (v := .agg #[.int .i64 7, .string ⟨#[]⟩, .int .i64 0, .slice (some ⟨w.heap.size + 2, 0, none⟩) 1 1, .slice none 0 0, .slice o3 l3 c3]) ?_ rfl ?_
  · refine results_cell_row rfl _ _ (w.heap.size + 1) 75 _ (0, 0) _ rfl ?_ Tryz.underlying75 rfl (by kernel_rfl)
    first | exact heap_alloc2_new w _ _ | (rw [Below.heap_alloc _ _ _ (by simp)]; exact heap_alloc2_new w _ _)
  · refine ⟨_, _, rfl, ?_⟩
    first | exact ((Below.refl _ w).alloc (Nat.le_refl _) _).alloc (by simp) _ | exact (((Below.refl _ w).alloc (Nat.le_refl _) _).alloc (by simp) _).alloc (by simp; omega) _

set_option maxHeartbeats 400000 in
theorem ifForm_exp (a0 a1 a2 a3 a4 a5 : Value) (b0 b1 b2 b3 b4 b5 : Value) (d0 d1 d2 d3 d4 d5 : Value) (w : World) :
    Calls Tryz.prog 196 #[.agg #[a0, a1, a2, a3, a4, a5, b0, b1, b2, b3, b4, b5, d0, d1, d2, d3, d4, d5]] w fun e w' => ∃ o c, e = .returned (.agg #[.int .i64 8, .string ⟨#[]⟩, .int .i64 0, .slice o 3 c, .slice none 0 0, .slice none 0 0]) ∧ Below w.heap.size w w' := by
  go_enter Tryz.func196, Tryz.ntmps196
  go_wp2
  refine bodyPost_ret (v := .agg #[.int .i64 8, .string ⟨#[]⟩, .int .i64 0, .slice (some ⟨w.heap.size + 2, 0, none⟩) 3 3, .slice none 0 0, .slice none 0 0]) ?_ rfl ?_
  · refine results_cell_row rfl _ _ (w.heap.size + 1) 75 _ (0, 0) _ rfl ?_ Tryz.underlying75 rfl (by kernel_rfl)
    first | exact heap_alloc2_new w _ _ | (rw [Below.heap_alloc _ _ _ (by simp)]; exact heap_alloc2_new w _ _)
  · refine ⟨_, _, rfl, ?_⟩
    first | exact ((Below.refl _ w).alloc (Nat.le_refl _) _).alloc (by simp) _ | exact (((Below.refl _ w).alloc (Nat.le_refl _) _).alloc (by simp) _).alloc (by simp; omega) _

set_option maxHeartbeats 400000 in
theorem opForm_exp (s : ByteArray) (a0 a1 a2 a3 a4 a5 : Value) (b0 b1 b2 b3 b4 b5 : Value) (w : World) :
    Calls Tryz.prog 197 #[.agg #[.string s, a0, a1, a2, a3, a4, a5, b0, b1, b2, b3, b4, b5]] w fun e w' => ∃ o c, e = .returned (.agg #[.int .i64 9, .string s, .int .i64 0, .slice o 2 c, .slice none 0 0, .slice none 0 0]) ∧ Below w.heap.size w w' := by
  go_enter Tryz.func197, Tryz.ntmps197
  go_wp2
  refine bodyPost_ret (v := .agg #[.int .i64 9, .string s, .int .i64 0, .slice (some ⟨w.heap.size + 2, 0, none⟩) 2 2, .slice none 0 0, .slice none 0 0]) ?_ rfl ?_
  · refine results_cell_row rfl _ _ (w.heap.size + 1) 75 _ (0, 0) _ rfl ?_ Tryz.underlying75 rfl (by kernel_rfl)
    first | exact heap_alloc2_new w _ _ | (rw [Below.heap_alloc _ _ _ (by simp)]; exact heap_alloc2_new w _ _)
  · refine ⟨_, _, rfl, ?_⟩
    first | exact ((Below.refl _ w).alloc (Nat.le_refl _) _).alloc (by simp) _ | exact (((Below.refl _ w).alloc (Nat.le_refl _) _).alloc (by simp) _).alloc (by simp; omega) _

def outl (s t : ByteArray) (n m : Int) (u1 v1 u2 v2 u3 v3 : Nat) : Bool := (s.toList == t.toList) && (decide (n = m) && (decide (u1 = v1) && (decide (u2 = v2) && decide (u3 = v3))))
set_option maxHeartbeats 1000000 in
set_option maxRecDepth 100000 in
theorem sameOutline_any (k : Int) (s t : ByteArray) (n m : Int) (u1 v1 u2 v2 u3 v3 : Nat) (p1 p2 p3 r1 r2 r3 : Option Addr) (g1 g2 g3 f1 f2 f3 : Nat) (w : World) :
    Calls Tryz.prog 151 #[.agg #[.int .i64 k, .string s, .int .i64 n, .slice p1 u1 g1, .slice p2 u2 g2, .slice p3 u3 g3], .agg #[.int .i64 k, .string t, .int .i64 m, .slice r1 v1 f1, .slice r2 v2 f2, .slice r3 v3 f3]] w fun e w' => e = .returned (.bool (outl s t n m u1 v1 u2 v2 u3 v3)) ∧ Below w.heap.size w w' := by
  have HB : Hid (Below w.heap.size w ((w.alloc (.cells #[.int .i64 k, .string s, .int .i64 n, .slice p1 u1 g1, .slice p2 u2 g2, .slice p3 u3 g3] 75)).alloc (.cells #[.int .i64 k, .string t, .int .i64 m, .slice r1 v1 f1, .slice r2 v2 f2, .slice r3 v3 f3] 75))) := ((Below.refl _ w).alloc (Nat.le_refl _) _).alloc (by simp) _
  cases h1 : (s.toList == t.toList)
  · go_enter Tryz.func151, Tryz.ntmps151
    go_wp2
    go_ret
    exact ⟨ret_bool (by unfold outl; rw [h1]; rfl), HB.out⟩
  by_cases h2 : n = m
  case neg =>
    have h2b : (n == m) = false := by simpa using h2
    have H2 := hide h2
    clear h2
    go_enter Tryz.func151, Tryz.ntmps151
    go_wp2
    go_ret
    exact ⟨ret_bool (by unfold outl; rw [decide_eq_false H2.out]; simp), HB.out⟩
  have h2b : (n == m) = true := by simpa using h2
  have H2 := hide h2
  clear h2
  by_cases h3 : u1 = v1
  case neg =>
    have h3b : ((u1 : Int) == (v1 : Int)) = false := by simp; omega
    have h3c : (u1 == v1) = false := by simpa using h3
    have H3 := hide h3
    clear h3
    go_enter Tryz.func151, Tryz.ntmps151
    go_wp2
    go_ret
    exact ⟨ret_bool (by unfold outl; rw [decide_eq_false H3.out]; simp), HB.out⟩
  have h3b : ((u1 : Int) == (v1 : Int)) = true := by simp; omega
  have h3c : (u1 == v1) = true := by simpa using h3
  have H3 := hide h3
  clear h3
  by_cases h4 : u2 = v2
  case neg =>
    have h4b : ((u2 : Int) == (v2 : Int)) = false := by simp; omega
    have h4c : (u2 == v2) = false := by simpa using h4
    have H4 := hide h4
    clear h4
    go_enter Tryz.func151, Tryz.ntmps151
    go_wp2
    go_ret
    exact ⟨ret_bool (by unfold outl; rw [decide_eq_false H4.out]; simp), HB.out⟩
  have h4b : ((u2 : Int) == (v2 : Int)) = true := by simp; omega
  have h4c : (u2 == v2) = true := by simpa using h4
  have H4 := hide h4
  clear h4
  by_cases h5 : u3 = v3
  · have h5b : ((u3 : Int) == (v3 : Int)) = true := by simp; omega
    have h5c : (u3 == v3) = true := by simpa using h5
    have H5 := hide h5
    clear h5
    go_enter Tryz.func151, Tryz.ntmps151
    go_wp2
    go_ret
    exact ⟨ret_bool (by unfold outl; rw [h1, decide_eq_true H2.out, decide_eq_true H3.out, decide_eq_true H4.out, decide_eq_true H5.out]; rfl), HB.out⟩
  · have h5b : ((u3 : Int) == (v3 : Int)) = false := by simp; omega
    have h5c : (u3 == v3) = false := by simpa using h5
    have H5 := hide h5
    clear h5
    go_enter Tryz.func151, Tryz.ntmps151
    go_wp2
    go_ret
    exact ⟨ret_bool (by unfold outl; rw [decide_eq_false H5.out]; simp), HB.out⟩
end Go.Proofs.YtlaeenfeajkcfalGreat
namespace Go.Proofs.YtlaeenfeajkcfalGreat
open Go.ChangeShapes Go.WideShapes Go.ChangeAt Go.RowKit

set_option maxHeartbeats 1000000 in
set_option maxRecDepth 100000 in
theorem kind1_yes (s : ByteArray) (n : Int) (o1 : Option Addr) (l1 c1 : Nat) (o2 : Option Addr) (l2 c2 : Nat) (o3 : Option Addr) (l3 c3 : Nat) (w : World) :
    Calls Tryz.prog 150 #[.agg #[.int .i64 1, .string s, .int .i64 n, .slice o1 l1 c1, .slice o2 l2 c2, .slice o3 l3 c3]] w fun e w' => e = .returned (.iface 207 (.agg #[.string s])) ∧ Below w.heap.size w w' := by
  have HB : Hid (Below w.heap.size w (w.alloc (.cells #[.int .i64 1, .string s, .int .i64 n, .slice o1 l1 c1, .slice o2 l2 c2, .slice o3 l3 c3] 75))) := (Below.refl _ w).alloc (Nat.le_refl _) _
  go_enter Tryz.func150, Tryz.ntmps150
  go_wp2
  go_ret
  exact ⟨rfl, HB.out⟩

set_option maxHeartbeats 1000000 in
set_option maxRecDepth 100000 in
theorem kind2_yes (s : ByteArray) (n : Int) (o1 : Option Addr) (l1 c1 : Nat) (o2 : Option Addr) (l2 c2 : Nat) (o3 : Option Addr) (l3 c3 : Nat) (w : World) :
    Calls Tryz.prog 150 #[.agg #[.int .i64 2, .string s, .int .i64 n, .slice o1 l1 c1, .slice o2 l2 c2, .slice o3 l3 c3]] w fun e w' => e = .returned (.iface 208 (.agg #[.string s])) ∧ Below w.heap.size w w' := by
  have HB : Hid (Below w.heap.size w (w.alloc (.cells #[.int .i64 2, .string s, .int .i64 n, .slice o1 l1 c1, .slice o2 l2 c2, .slice o3 l3 c3] 75))) := (Below.refl _ w).alloc (Nat.le_refl _) _
  go_enter Tryz.func150, Tryz.ntmps150
  go_wp2
  go_ret
  exact ⟨rfl, HB.out⟩

set_option maxHeartbeats 1000000 in
set_option maxRecDepth 100000 in
theorem kind3_yes (s : ByteArray) (n : Int) (o1 : Option Addr) (l1 c1 : Nat) (o2 : Option Addr) (l2 c2 : Nat) (o3 : Option Addr) (l3 c3 : Nat) (w : World) :
    Calls Tryz.prog 150 #[.agg #[.int .i64 3, .string s, .int .i64 n, .slice o1 l1 c1, .slice o2 l2 c2, .slice o3 l3 c3]] w fun e w' => e = .returned (.iface 210 (.agg #[.int .i64 n])) ∧ Below w.heap.size w w' := by
  have HB : Hid (Below w.heap.size w (w.alloc (.cells #[.int .i64 3, .string s, .int .i64 n, .slice o1 l1 c1, .slice o2 l2 c2, .slice o3 l3 c3] 75))) := (Below.refl _ w).alloc (Nat.le_refl _) _
  go_enter Tryz.func150, Tryz.ntmps150
  go_wp2
  go_ret
  exact ⟨rfl, HB.out⟩

set_option maxHeartbeats 1000000 in
set_option maxRecDepth 100000 in
theorem kind4_yes (s : ByteArray) (n : Int) (b off c1 : Nat) (o2 : Option Addr) (l2 c2 : Nat) (o3 : Option Addr) (l3 c3 : Nat) (a0 a1 a2 a3 a4 a5 : Value) (b0 b1 b2 b3 b4 b5 : Value) (w : World) (m00 : w.cell? ⟨b, off, none⟩ = some a0) (m01 : w.cell? ⟨b, off + 1, none⟩ = some a1) (m02 : w.cell? ⟨b, off + 2, none⟩ = some a2) (m03 : w.cell? ⟨b, off + 3, none⟩ = some a3) (m04 : w.cell? ⟨b, off + 4, none⟩ = some a4) (m05 : w.cell? ⟨b, off + 5, none⟩ = some a5) (m10 : w.cell? ⟨b, off + 6, none⟩ = some b0) (m11 : w.cell? ⟨b, off + 6 + 1, none⟩ = some b1) (m12 : w.cell? ⟨b, off + 6 + 2, none⟩ = some b2) (m13 : w.cell? ⟨b, off + 6 + 3, none⟩ = some b3) (m14 : w.cell? ⟨b, off + 6 + 4, none⟩ = some b4) (m15 : w.cell? ⟨b, off + 6 + 5, none⟩ = some b5) :
    Calls Tryz.prog 150 #[.agg #[.int .i64 4, .string s, .int .i64 n, .slice (some ⟨b, off, none⟩) 2 c1, .slice o2 l2 c2, .slice o3 l3 c3]] w fun e w' => e = .returned (.iface 212 (.agg #[a0, a1, a2, a3, a4, a5, b0, b1, b2, b3, b4, b5])) ∧ Below w.heap.size w w' := by
  have HB : Hid (Below w.heap.size w (w.alloc (.cells #[.int .i64 4, .string s, .int .i64 n, .slice (some ⟨b, off, none⟩) 2 c1, .slice o2 l2 c2, .slice o3 l3 c3] 75))) := (Below.refl _ w).alloc (Nat.le_refl _) _
  have hb00 : b < w.heap.size := World.block_lt_of_cell? w _ m00
  go_enter Tryz.func150, Tryz.ntmps150
  go_wp2_with fail
  go_quiet (fail)
  go_wp2
  go_ret
  exact ⟨rfl, below_drewN HB.out _⟩

set_option maxHeartbeats 1000000 in
set_option maxRecDepth 100000 in
theorem kind5_yes (s : ByteArray) (n : Int) (b off c1 : Nat) (o2 : Option Addr) (l2 c2 : Nat) (o3 : Option Addr) (l3 c3 : Nat) (a0 a1 a2 a3 a4 a5 : Value) (w : World) (m00 : w.cell? ⟨b, off, none⟩ = some a0) (m01 : w.cell? ⟨b, off + 1, none⟩ = some a1) (m02 : w.cell? ⟨b, off + 2, none⟩ = some a2) (m03 : w.cell? ⟨b, off + 3, none⟩ = some a3) (m04 : w.cell? ⟨b, off + 4, none⟩ = some a4) (m05 : w.cell? ⟨b, off + 5, none⟩ = some a5) :
    Calls Tryz.prog 150 #[.agg #[.int .i64 5, .string s, .int .i64 n, .slice (some ⟨b, off, none⟩) 1 c1, .slice o2 l2 c2, .slice o3 l3 c3]] w fun e w' => e = .returned (.iface 214 (.agg #[.string s, a0, a1, a2, a3, a4, a5])) ∧ Below w.heap.size w w' := by
  have HB : Hid (Below w.heap.size w (w.alloc (.cells #[.int .i64 5, .string s, .int .i64 n, .slice (some ⟨b, off, none⟩) 1 c1, .slice o2 l2 c2, .slice o3 l3 c3] 75))) := (Below.refl _ w).alloc (Nat.le_refl _) _
  have hb00 : b < w.heap.size := World.block_lt_of_cell? w _ m00
  go_enter Tryz.func150, Tryz.ntmps150
  go_wp2_with fail
  go_quiet (fail)
  go_wp2
  go_ret
  exact ⟨rfl, below_drewN HB.out _⟩

set_option maxHeartbeats 1000000 in
set_option maxRecDepth 100000 in
theorem kind6_yes (s : ByteArray) (n : Int) (b off c1 : Nat) (o2 : Option Addr) (l2 c2 : Nat) (o3 : Option Addr) (l3 c3 : Nat) (a0 a1 a2 a3 a4 a5 : Value) (w : World) (m00 : w.cell? ⟨b, off, none⟩ = some a0) (m01 : w.cell? ⟨b, off + 1, none⟩ = some a1) (m02 : w.cell? ⟨b, off + 2, none⟩ = some a2) (m03 : w.cell? ⟨b, off + 3, none⟩ = some a3) (m04 : w.cell? ⟨b, off + 4, none⟩ = some a4) (m05 : w.cell? ⟨b, off + 5, none⟩ = some a5) :
    Calls Tryz.prog 150 #[.agg #[.int .i64 6, .string s, .int .i64 n, .slice (some ⟨b, off, none⟩) 1 c1, .slice o2 l2 c2, .slice o3 l3 c3]] w fun e w' => e = .returned (.iface 216 (.agg #[.slice o2 l2 c2, a0, a1, a2, a3, a4, a5])) ∧ Below w.heap.size w w' := by
  have HB : Hid (Below w.heap.size w (w.alloc (.cells #[.int .i64 6, .string s, .int .i64 n, .slice (some ⟨b, off, none⟩) 1 c1, .slice o2 l2 c2, .slice o3 l3 c3] 75))) := (Below.refl _ w).alloc (Nat.le_refl _) _
  have hb00 : b < w.heap.size := World.block_lt_of_cell? w _ m00
  go_enter Tryz.func150, Tryz.ntmps150
  go_wp2_with fail
  go_quiet (fail)
  go_wp2
  go_ret
  exact ⟨rfl, below_drewN HB.out _⟩

set_option maxHeartbeats 1000000 in
set_option maxRecDepth 100000 in
theorem kind7_yes (s : ByteArray) (n : Int) (b off c1 : Nat) (o2 : Option Addr) (l2 c2 : Nat) (o3 : Option Addr) (l3 c3 : Nat) (a0 a1 a2 a3 a4 a5 : Value) (w : World) (m00 : w.cell? ⟨b, off, none⟩ = some a0) (m01 : w.cell? ⟨b, off + 1, none⟩ = some a1) (m02 : w.cell? ⟨b, off + 2, none⟩ = some a2) (m03 : w.cell? ⟨b, off + 3, none⟩ = some a3) (m04 : w.cell? ⟨b, off + 4, none⟩ = some a4) (m05 : w.cell? ⟨b, off + 5, none⟩ = some a5) :
    Calls Tryz.prog 150 #[.agg #[.int .i64 7, .string s, .int .i64 n, .slice (some ⟨b, off, none⟩) 1 c1, .slice o2 l2 c2, .slice o3 l3 c3]] w fun e w' => e = .returned (.iface 218 (.agg #[a0, a1, a2, a3, a4, a5, .slice o3 l3 c3])) ∧ Below w.heap.size w w' := by
  have HB : Hid (Below w.heap.size w (w.alloc (.cells #[.int .i64 7, .string s, .int .i64 n, .slice (some ⟨b, off, none⟩) 1 c1, .slice o2 l2 c2, .slice o3 l3 c3] 75))) := (Below.refl _ w).alloc (Nat.le_refl _) _
  have hb00 : b < w.heap.size := World.block_lt_of_cell? w _ m00
  go_enter Tryz.func150, Tryz.ntmps150
  go_wp2_with fail
  go_quiet (fail)
  go_wp2
  go_ret
  exact ⟨rfl, below_drewN HB.out _⟩

set_option maxHeartbeats 1000000 in
set_option maxRecDepth 100000 in
theorem kind8_yes (s : ByteArray) (n : Int) (b off c1 : Nat) (o2 : Option Addr) (l2 c2 : Nat) (o3 : Option Addr) (l3 c3 : Nat) (a0 a1 a2 a3 a4 a5 : Value) (b0 b1 b2 b3 b4 b5 : Value) (d0 d1 d2 d3 d4 d5 : Value) (w : World) (m00 : w.cell? ⟨b, off, none⟩ = some a0) (m01 : w.cell? ⟨b, off + 1, none⟩ = some a1) (m02 : w.cell? ⟨b, off + 2, none⟩ = some a2) (m03 : w.cell? ⟨b, off + 3, none⟩ = some a3) (m04 : w.cell? ⟨b, off + 4, none⟩ = some a4) (m05 : w.cell? ⟨b, off + 5, none⟩ = some a5) (m10 : w.cell? ⟨b, off + 6, none⟩ = some b0) (m11 : w.cell? ⟨b, off + 6 + 1, none⟩ = some b1) (m12 : w.cell? ⟨b, off + 6 + 2, none⟩ = some b2) (m13 : w.cell? ⟨b, off + 6 + 3, none⟩ = some b3) (m14 : w.cell? ⟨b, off + 6 + 4, none⟩ = some b4) (m15 : w.cell? ⟨b, off + 6 + 5, none⟩ = some b5) (m20 : w.cell? ⟨b, off + 12, none⟩ = some d0) (m21 : w.cell? ⟨b, off + 12 + 1, none⟩ = some d1) (m22 : w.cell? ⟨b, off + 12 + 2, none⟩ = some d2) (m23 : w.cell? ⟨b, off + 12 + 3, none⟩ = some d3) (m24 : w.cell? ⟨b, off + 12 + 4, none⟩ = some d4) (m25 : w.cell? ⟨b, off + 12 + 5, none⟩ = some d5) :
    Calls Tryz.prog 150 #[.agg #[.int .i64 8, .string s, .int .i64 n, .slice (some ⟨b, off, none⟩) 3 c1, .slice o2 l2 c2, .slice o3 l3 c3]] w fun e w' => e = .returned (.iface 221 (.agg #[a0, a1, a2, a3, a4, a5, b0, b1, b2, b3, b4, b5, d0, d1, d2, d3, d4, d5])) ∧ Below w.heap.size w w' := by
  have HB : Hid (Below w.heap.size w (w.alloc (.cells #[.int .i64 8, .string s, .int .i64 n, .slice (some ⟨b, off, none⟩) 3 c1, .slice o2 l2 c2, .slice o3 l3 c3] 75))) := (Below.refl _ w).alloc (Nat.le_refl _) _
  have hb00 : b < w.heap.size := World.block_lt_of_cell? w _ m00
  go_enter Tryz.func150, Tryz.ntmps150
  go_wp2_with fail
  go_quiet (fail)
  go_wp2
  go_ret
  exact ⟨rfl, below_drewN HB.out _⟩

set_option maxHeartbeats 1000000 in
set_option maxRecDepth 100000 in
theorem kind9_yes (s : ByteArray) (n : Int) (b off c1 : Nat) (o2 : Option Addr) (l2 c2 : Nat) (o3 : Option Addr) (l3 c3 : Nat) (a0 a1 a2 a3 a4 a5 : Value) (b0 b1 b2 b3 b4 b5 : Value) (w : World) (m00 : w.cell? ⟨b, off, none⟩ = some a0) (m01 : w.cell? ⟨b, off + 1, none⟩ = some a1) (m02 : w.cell? ⟨b, off + 2, none⟩ = some a2) (m03 : w.cell? ⟨b, off + 3, none⟩ = some a3) (m04 : w.cell? ⟨b, off + 4, none⟩ = some a4) (m05 : w.cell? ⟨b, off + 5, none⟩ = some a5) (m10 : w.cell? ⟨b, off + 6, none⟩ = some b0) (m11 : w.cell? ⟨b, off + 6 + 1, none⟩ = some b1) (m12 : w.cell? ⟨b, off + 6 + 2, none⟩ = some b2) (m13 : w.cell? ⟨b, off + 6 + 3, none⟩ = some b3) (m14 : w.cell? ⟨b, off + 6 + 4, none⟩ = some b4) (m15 : w.cell? ⟨b, off + 6 + 5, none⟩ = some b5) :
    Calls Tryz.prog 150 #[.agg #[.int .i64 9, .string s, .int .i64 n, .slice (some ⟨b, off, none⟩) 2 c1, .slice o2 l2 c2, .slice o3 l3 c3]] w fun e w' => e = .returned (.iface 223 (.agg #[.string s, a0, a1, a2, a3, a4, a5, b0, b1, b2, b3, b4, b5])) ∧ Below w.heap.size w w' := by
  have HB : Hid (Below w.heap.size w (w.alloc (.cells #[.int .i64 9, .string s, .int .i64 n, .slice (some ⟨b, off, none⟩) 2 c1, .slice o2 l2 c2, .slice o3 l3 c3] 75))) := (Below.refl _ w).alloc (Nat.le_refl _) _
  have hb00 : b < w.heap.size := World.block_lt_of_cell? w _ m00
  go_enter Tryz.func150, Tryz.ntmps150
  go_wp2_with fail
  go_quiet (fail)
  go_wp2
  go_ret
  exact ⟨rfl, below_drewN HB.out _⟩

set_option maxHeartbeats 1000000 in
set_option maxRecDepth 100000 in
theorem kind4_no (s : ByteArray) (n : Int) (o1 : Option Addr) (l1 c1 : Nat) (o2 : Option Addr) (l2 c2 : Nat) (o3 : Option Addr) (l3 c3 : Nat) (hl : l1 ≠ 2) (hm : l1 ≤ maxLen) (w : World) :
    Calls Tryz.prog 150 #[.agg #[.int .i64 4, .string s, .int .i64 n, .slice o1 l1 c1, .slice o2 l2 c2, .slice o3 l3 c3]] w fun e w' => e = .returned .nilIface ∧ Below w.heap.size w w' := by
  have HB : Hid (Below w.heap.size w (w.alloc (.cells #[.int .i64 4, .string s, .int .i64 n, .slice o1 l1 c1, .slice o2 l2 c2, .slice o3 l3 c3] 75))) := (Below.refl _ w).alloc (Nat.le_refl _) _
  have hm2 : l1 ≤ 9223372036854775807 := hm
  have h2 : ((l1 : Int) == 2) = false := by simp; omega
  have h3 : (l1 == 2) = false := by simpa using hl
  clear hl hm
  go_enter Tryz.func150, Tryz.ntmps150
  go_wp2
  go_ret
  exact ⟨rfl, HB.out⟩

set_option maxHeartbeats 1000000 in
set_option maxRecDepth 100000 in
theorem kind5_no (s : ByteArray) (n : Int) (o1 : Option Addr) (l1 c1 : Nat) (o2 : Option Addr) (l2 c2 : Nat) (o3 : Option Addr) (l3 c3 : Nat) (hl : l1 ≠ 1) (hm : l1 ≤ maxLen) (w : World) :
    Calls Tryz.prog 150 #[.agg #[.int .i64 5, .string s, .int .i64 n, .slice o1 l1 c1, .slice o2 l2 c2, .slice o3 l3 c3]] w fun e w' => e = .returned .nilIface ∧ Below w.heap.size w w' := by
  have HB : Hid (Below w.heap.size w (w.alloc (.cells #[.int .i64 5, .string s, .int .i64 n, .slice o1 l1 c1, .slice o2 l2 c2, .slice o3 l3 c3] 75))) := (Below.refl _ w).alloc (Nat.le_refl _) _
  have hm2 : l1 ≤ 9223372036854775807 := hm
  have h2 : ((l1 : Int) == 1) = false := by simp; omega
  have h3 : (l1 == 1) = false := by simpa using hl
  clear hl hm
  go_enter Tryz.func150, Tryz.ntmps150
  go_wp2
  go_ret
  exact ⟨rfl, HB.out⟩

set_option maxHeartbeats 1000000 in
set_option maxRecDepth 100000 in
theorem kind6_no (s : ByteArray) (n : Int) (o1 : Option Addr) (l1 c1 : Nat) (o2 : Option Addr) (l2 c2 : Nat) (o3 : Option Addr) (l3 c3 : Nat) (hl : l1 ≠ 1) (hm : l1 ≤ maxLen) (w : World) :
    Calls Tryz.prog 150 #[.agg #[.int .i64 6, .string s, .int .i64 n, .slice o1 l1 c1, .slice o2 l2 c2, .slice o3 l3 c3]] w fun e w' => e = .returned .nilIface ∧ Below w.heap.size w w' := by
  have HB : Hid (Below w.heap.size w (w.alloc (.cells #[.int .i64 6, .string s, .int .i64 n, .slice o1 l1 c1, .slice o2 l2 c2, .slice o3 l3 c3] 75))) := (Below.refl _ w).alloc (Nat.le_refl _) _
  have hm2 : l1 ≤ 9223372036854775807 := hm
  have h2 : ((l1 : Int) == 1) = false := by simp; omega
  have h3 : (l1 == 1) = false := by simpa using hl
  clear hl hm
  go_enter Tryz.func150, Tryz.ntmps150
  go_wp2
  go_ret
  exact ⟨rfl, HB.out⟩

set_option maxHeartbeats 1000000 in
set_option maxRecDepth 100000 in
theorem kind7_no (s : ByteArray) (n : Int) (o1 : Option Addr) (l1 c1 : Nat) (o2 : Option Addr) (l2 c2 : Nat) (o3 : Option Addr) (l3 c3 : Nat) (hl : l1 ≠ 1) (hm : l1 ≤ maxLen) (w : World) :
    Calls Tryz.prog 150 #[.agg #[.int .i64 7, .string s, .int .i64 n, .slice o1 l1 c1, .slice o2 l2 c2, .slice o3 l3 c3]] w fun e w' => e = .returned .nilIface ∧ Below w.heap.size w w' := by
  have HB : Hid (Below w.heap.size w (w.alloc (.cells #[.int .i64 7, .string s, .int .i64 n, .slice o1 l1 c1, .slice o2 l2 c2, .slice o3 l3 c3] 75))) := (Below.refl _ w).alloc (Nat.le_refl _) _
  have hm2 : l1 ≤ 9223372036854775807 := hm
  have h2 : ((l1 : Int) == 1) = false := by simp; omega
  have h3 : (l1 == 1) = false := by simpa using hl
  clear hl hm
  go_enter Tryz.func150, Tryz.ntmps150
  go_wp2
  go_ret
  exact ⟨rfl, HB.out⟩

set_option maxHeartbeats 1000000 in
set_option maxRecDepth 100000 in
theorem kind8_no (s : ByteArray) (n : Int) (o1 : Option Addr) (l1 c1 : Nat) (o2 : Option Addr) (l2 c2 : Nat) (o3 : Option Addr) (l3 c3 : Nat) (hl : l1 ≠ 3) (hm : l1 ≤ maxLen) (w : World) :
    Calls Tryz.prog 150 #[.agg #[.int .i64 8, .string s, .int .i64 n, .slice o1 l1 c1, .slice o2 l2 c2, .slice o3 l3 c3]] w fun e w' => e = .returned .nilIface ∧ Below w.heap.size w w' := by
  have HB : Hid (Below w.heap.size w (w.alloc (.cells #[.int .i64 8, .string s, .int .i64 n, .slice o1 l1 c1, .slice o2 l2 c2, .slice o3 l3 c3] 75))) := (Below.refl _ w).alloc (Nat.le_refl _) _
  have hm2 : l1 ≤ 9223372036854775807 := hm
  have h2 : ((l1 : Int) == 3) = false := by simp; omega
  have h3 : (l1 == 3) = false := by simpa using hl
  clear hl hm
  go_enter Tryz.func150, Tryz.ntmps150
  go_wp2
  go_ret
  exact ⟨rfl, HB.out⟩

set_option maxHeartbeats 1000000 in
set_option maxRecDepth 100000 in
theorem kind9_no (s : ByteArray) (n : Int) (o1 : Option Addr) (l1 c1 : Nat) (o2 : Option Addr) (l2 c2 : Nat) (o3 : Option Addr) (l3 c3 : Nat) (hl : l1 ≠ 2) (hm : l1 ≤ maxLen) (w : World) :
    Calls Tryz.prog 150 #[.agg #[.int .i64 9, .string s, .int .i64 n, .slice o1 l1 c1, .slice o2 l2 c2, .slice o3 l3 c3]] w fun e w' => e = .returned .nilIface ∧ Below w.heap.size w w' := by
  have HB : Hid (Below w.heap.size w (w.alloc (.cells #[.int .i64 9, .string s, .int .i64 n, .slice o1 l1 c1, .slice o2 l2 c2, .slice o3 l3 c3] 75))) := (Below.refl _ w).alloc (Nat.le_refl _) _
  have hm2 : l1 ≤ 9223372036854775807 := hm
  have h2 : ((l1 : Int) == 2) = false := by simp; omega
  have h3 : (l1 == 2) = false := by simpa using hl
  clear hl hm
  go_enter Tryz.func150, Tryz.ntmps150
  go_wp2
  go_ret
  exact ⟨rfl, HB.out⟩

set_option maxHeartbeats 1000000 in
set_option maxRecDepth 100000 in
theorem kind_none (k : Int) (s : ByteArray) (n : Int) (o1 : Option Addr) (l1 c1 : Nat) (o2 : Option Addr) (l2 c2 : Nat) (o3 : Option Addr) (l3 c3 : Nat) (hk : ¬ (1 ≤ k ∧ k ≤ 9)) (hm : l1 ≤ maxLen) (w : World) :
    Calls Tryz.prog 150 #[.agg #[.int .i64 k, .string s, .int .i64 n, .slice o1 l1 c1, .slice o2 l2 c2, .slice o3 l3 c3]] w fun e w' => e = .returned .nilIface ∧ Below w.heap.size w w' := by
  have HB : Hid (Below w.heap.size w (w.alloc (.cells #[.int .i64 k, .string s, .int .i64 n, .slice o1 l1 c1, .slice o2 l2 c2, .slice o3 l3 c3] 75))) := (Below.refl _ w).alloc (Nat.le_refl _) _
  have hm2 : l1 ≤ 9223372036854775807 := hm
  have h1 : (k == 1) = false := by simp; omega
  have h2 : (k == 2) = false := by simp; omega
  have h3 : (k == 3) = false := by simp; omega
  have h4 : (k == 4) = false := by simp; omega
  have h5 : (k == 5) = false := by simp; omega
  have h6 : (k == 6) = false := by simp; omega
  have h7 : (k == 7) = false := by simp; omega
  have h8 : (k == 8) = false := by simp; omega
  have h9 : (k == 9) = false := by simp; omega
  clear hk hm
  go_enter Tryz.func150, Tryz.ntmps150
  go_wp2
  go_ret
  exact ⟨rfl, HB.out⟩

set_option maxHeartbeats 1000000 in
set_option maxRecDepth 100000 in
theorem formOf_nil (k : Int) (s : ByteArray) (n : Int) (o1 : Option Addr) (l1 c1 : Nat) (o2 : Option Addr) (l2 c2 : Nat) (o3 : Option Addr) (l3 c3 : Nat) (w : World) (hc : ∀ w, Calls Tryz.prog 150 #[.agg #[.int .i64 k, .string s, .int .i64 n, .slice o1 l1 c1, .slice o2 l2 c2, .slice o3 l3 c3]] w fun e w' => e = .returned .nilIface ∧ Below w.heap.size w w') :
    Calls Tryz.prog 136 #[.agg #[.int .i64 k, .string s, .int .i64 n, .slice o1 l1 c1, .slice o2 l2 c2, .slice o3 l3 c3]] w fun e w' => e = .returned .nilIface ∧ Below w.heap.size w w' := by
  have HC := hide hc
  clear hc
  have HB0 : Hid (Below w.heap.size w (w.alloc (.cells #[.int .i64 k, .string s, .int .i64 n, .slice o1 l1 c1, .slice o2 l2 c2, .slice o3 l3 c3] 75))) := (Below.refl _ w).alloc (Nat.le_refl _) _
  go_enter Tryz.func136, Tryz.ntmps136
  go_wp2_with fail
  refine (HC.out _).mono ?_
  rintro e w1 ⟨rfl, hb⟩
  have HB1 := hide (HB0.out.trans (hb.mono HB0.out.size))
  clear hb
  go_wp2_with fail
  go_quiet (fail)
  go_wp2
  go_ret
  exact ⟨rfl, below_drewN HB1.out _⟩

end Go.Proofs.YtlaeenfeajkcfalGreat

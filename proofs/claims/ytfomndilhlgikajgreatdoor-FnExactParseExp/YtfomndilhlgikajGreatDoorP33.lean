import Derived.Test.YtfomndilhlgikajGreatDoorP32
set_option maxHeartbeats 8000000
set_option maxRecDepth 100000
namespace Go.Proofs.YtfomndilhlgikajGreatDoor.Rd
open Go.ChangeShapes Go.WideShapes Go.ChangeAt Go.RowKit
def JO (ce : List Value) (w : World) (e : Ending) (w' : World) : Prop := ∃ g, w.heap.size <= g /\ g < w'.heap.size /\ e = .returned (.agg #[.int .i64 8, .string ⟨#[]⟩, .int .i64 0, .slice (some ⟨g, 0, none⟩) 3 3, .slice none 0 0, .slice none 0 0]) /\ w'.heap[g]? = some (.cells ce.toArray 34 (0, 0)) /\ Below w.heap.size w w'
theorem vZ {ca cb cc : List Value} (ha : Fx ca) (hb : Fx cb) (hc : Fx cc) (w : World) : Calls Tryz.prog 214 #[.agg (ca ++ (cb ++ cc)).toArray] w (JO (ca ++ (cb ++ cc)) w) := by
 obtain ⟨a0, a1, a2, p1, q1, z1, p2, q2, z2, p3, q3, z3, rfl⟩ := ha
 obtain ⟨b0, b1, b2, r1, s1, y1, r2, s2, y2, r3, s3, y3, rfl⟩ := hb
 obtain ⟨c0, c1, c2, t1, u1, x1, t2, u2, x2, t3, u3, x3, rfl⟩ := hc
 have E0 : ([Value.int .i64 a0, .string a1, .int .i64 a2, .slice p1 q1 z1, .slice p2 q2 z2, .slice p3 q3 z3] ++ ([Value.int .i64 b0, .string b1, .int .i64 b2, .slice r1 s1 y1, .slice r2 s2 y2, .slice r3 s3 y3] ++ [Value.int .i64 c0, .string c1, .int .i64 c2, .slice t1 u1 x1, .slice t2 u2 x2, .slice t3 u3 x3])).toArray = #[Value.int .i64 a0, .string a1, .int .i64 a2, .slice p1 q1 z1, .slice p2 q2 z2, .slice p3 q3 z3, .int .i64 b0, .string b1, .int .i64 b2, .slice r1 s1 y1, .slice r2 s2 y2, .slice r3 s3 y3, .int .i64 c0, .string c1, .int .i64 c2, .slice t1 u1 x1, .slice t2 u2 x2, .slice t3 u3 x3] := rfl
 unfold JO
 rw [E0]
 go_enter Tryz.func214, Tryz.ntmps214
 go_wp2
 refine bodyPost_ret (v := .agg #[.int .i64 8, .string ⟨#[]⟩, .int .i64 0, .slice (some ⟨w.heap.size + 1 + 1, 0, none⟩) 3 3, .slice none 0 0, .slice none 0 0]) ?_ rfl ?_
 ·refine results_cell_row rfl _ _ (w.heap.size + 1) 34 _ (0, 0) _ rfl (cT ?_) Tryz.underlying34 rfl (by kernel_rfl)
  have h9 := heap_alloc_new (w.alloc (.cells #[Value.int .i64 a0, .string a1, .int .i64 a2, .slice p1 q1 z1, .slice p2 q2 z2, .slice p3 q3 z3, .int .i64 b0, .string b1, .int .i64 b2, .slice r1 s1 y1, .slice r2 s2 y2, .slice r3 s3 y3, .int .i64 c0, .string c1, .int .i64 c2, .slice t1 u1 x1, .slice t2 u2 x2, .slice t3 u3 x3] 208)) (.cells #[.int .i64 8, .string ⟨#[]⟩, .int .i64 0, .slice (some ⟨w.heap.size + 1 + 1, 0, none⟩) 3 3, .slice none 0 0, .slice none 0 0] 34)
  simpa using h9
 ·refine ⟨w.heap.size + 1 + 1, by omega, by simp, rfl, ?_, (((U4 w).alloc U0 _).alloc (by simp) _).alloc (by simp; omega) _⟩
  have h9 := heap_alloc_new ((w.alloc (.cells #[Value.int .i64 a0, .string a1, .int .i64 a2, .slice p1 q1 z1, .slice p2 q2 z2, .slice p3 q3 z3, .int .i64 b0, .string b1, .int .i64 b2, .slice r1 s1 y1, .slice r2 s2 y2, .slice r3 s3 y3, .int .i64 c0, .string c1, .int .i64 c2, .slice t1 u1 x1, .slice t2 u2 x2, .slice t3 u3 x3] 208)).alloc (.cells #[.int .i64 8, .string ⟨#[]⟩, .int .i64 0, .slice (some ⟨w.heap.size + 1 + 1, 0, none⟩) 3 3, .slice none 0 0, .slice none 0 0] 34)) (.cells #[Value.int .i64 a0, .string a1, .int .i64 a2, .slice p1 q1 z1, .slice p2 q2 z2, .slice p3 q3 z3, .int .i64 b0, .string b1, .int .i64 b2, .slice r1 s1 y1, .slice r2 s2 y2, .slice r3 s3 y3, .int .i64 c0, .string c1, .int .i64 c2, .slice t1 u1 x1, .slice t2 u2 x2, .slice t3 u3 x3] 34)
  simpa using h9
end Go.Proofs.YtfomndilhlgikajGreatDoor.Rd

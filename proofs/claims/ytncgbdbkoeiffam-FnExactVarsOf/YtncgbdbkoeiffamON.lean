/- The model's VarsOf. -/
import Derived.Test.YtncgbdbkoeiffamOM
namespace Go.Proofs.Ytncgbdbkoeiffam.Vo
open Go.ChangeShapes Go.WideShapes Go.ChangeAt Go.RowKit

set_option maxHeartbeats 1000000 in
set_option maxRecDepth 100000 in
theorem specVars_any {h : Nat} (x : Tr) (cs : List Value) (w : World) (hr : tyR AllK w h x cs) (hn : nz h x ≤ 1048577) :
    Calls Try.prog 16 #[.agg cs.toArray] w fun e w' => ∃ v, e = .returned v ∧ ORow 3 w.heap.size w' v ((vz h [] x).map intV) ∧ Below w.heap.size w w' := by
  obtain ⟨o1, c1, rfl⟩ := ty_form hr
  have hA0 : Below w.heap.size w (w.alloc (.cells #[.int .i64 x.k, .string x.s, .int .i64 x.n, .slice o1 x.l.length c1] 29)) := (Below.refl _ w).alloc (Nat.le_refl _) _
  have hB0 : Below w.heap.size w ((w.alloc (.cells #[.int .i64 x.k, .string x.s, .int .i64 x.n, .slice o1 x.l.length c1] 29)).alloc (.cells #[] 3)) := hA0.alloc (by simp) _
  have hnew : ((w.alloc (.cells #[.int .i64 x.k, .string x.s, .int .i64 x.n, .slice o1 x.l.length c1] 29)).alloc (.cells #[] 3)).heap[w.heap.size + 1]? = some (.cells #[] 3 (0, 0)) := by
    have h9 := heap_alloc_new (w.alloc (.cells #[.int .i64 x.k, .string x.s, .int .i64 x.n, .slice o1 x.l.length c1] 29)) (.cells #[] 3)
    simpa using h9
  have hrow : ORow 3 w.heap.size ((w.alloc (.cells #[.int .i64 x.k, .string x.s, .int .i64 x.n, .slice o1 x.l.length c1] 29)).alloc (.cells #[] 3)) (.slice (some ⟨w.heap.size + 1, 0, none⟩) 0 0) (([] : List Int).map intV) := ⟨rfl, .inr ⟨_, _, _, rfl, by omega, hnew, Nat.le_refl _, by unfold maxLen; omega, rfl, rfl⟩⟩
  have HC := hide (va_all h w.heap.size x _ _ _ [] (tyR_later hB0 h _ _ hr) hrow (by simp; omega) (by simpa using hn))
  have HB0 := hide hB0
  generalize vz h [] x = R at HC ⊢
  clear hB0 hrow hr hn hA0 hnew
  go_enter Try.func16, Try.ntmps16
  go_wp2_with fail
  refine HC.out.mono ?_
  rintro e w2 ⟨v, rfl, hr2, hb2⟩
  have HR2 := hide hr2
  have HB2 := hide (HB0.out.trans (hb2.mono HB0.out.size))
  clear hr2 hb2
  obtain ⟨o2, c2, rfl, -, -⟩ := HR2.out.form
  rw [List.length_map] at HR2
  go_wp2
  go_ret
  exact ⟨_, rfl, HR2.out, HB2.out⟩
end Go.Proofs.Ytncgbdbkoeiffam.Vo

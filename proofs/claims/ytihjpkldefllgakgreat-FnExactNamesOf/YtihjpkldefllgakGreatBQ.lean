/- The program's boundAt. -/
import Derived.Test.YtihjpkldefllgakGreatBO
import Derived.Test.YtihjpkldefllgakGreatBP
namespace Go.Proofs.YtihjpkldefllgakGreat.Nm
open Go.ChangeShapes Go.WideShapes Go.ChangeAt Go.RowKit

def BatP (kb : Bool) (t : Tr) (w : World) (e : Ending) (w' : World) : Prop := ∃ v l, e = .returned v ∧ NRow w.heap.size w' v l ∧ (∀ y, y ∈ l ↔ ownK kb t y) ∧ l.length ≤ 10000002 ∧ Below w.heap.size w w'
set_option maxHeartbeats 2000000 in
set_option maxRecDepth 100000 in
theorem boundAt_dec {K : Nat → Prop} {w : World} {a : Addr} {h : Nat} {t : Tr} (hat : AtP w K (false, a) h t) (hss : t.ss.length ≤ 5000000) (ov : Option Addr) (nv cv : Nat) :
    Calls Tryz.prog 39 #[.agg #[.pointer none, .pointer (some a), .slice ov nv cv, .int .i64 0]] w (BatP false t w) := by
  obtain ⟨ab, ao, asp⟩ := a
  obtain ⟨hsp, -, cs, hca, hcl, hr⟩ := hat
  simp only at hsp
  subst hsp
  cases h with
  | zero => exact hr.elim
  | succ h =>
    obtain ⟨-, -, -, e, o1, c1, ce, o2, c2, -, e1, e2, e3, -, r1, e5, -, -⟩ := hr
    obtain ⟨a0, a1, a2, a3, a4, a5, rfl⟩ := six e5
    subst e1
    have q0 : w.cell? ⟨ab, ao, none⟩ = some (.string t.s) := hca 0 _ rfl
    have q1 : w.cell? ⟨ab, ao + 1, none⟩ = some (.slice o1 t.ss.length c1) := hca 1 _ rfl
    have hal : ab < w.heap.size := World.block_lt_of_cell? w _ q0
    obtain ⟨V, hV⟩ : ∃ V, w.alloc (.cells #[.pointer none, .pointer (some ⟨ab, ao, none⟩), .slice ov nv cv, .int .i64 0] 94) = V := ⟨_, rfl⟩
    have hb0 : Below w.heap.size w V := by rw [← hV]; exact (Below.refl _ w).alloc (Nat.le_refl _) _
    have hbox : V.heap[w.heap.size]? = some (.cells #[.pointer none, .pointer (some ⟨ab, ao, none⟩), .slice ov nv cv, .int .i64 0] 94 (0, 0)) := by rw [← hV]; exact heap_alloc_new w _
    have hsV : V.heap.size = w.heap.size + 1 := by rw [← hV]; simp
    have b1 := cell_of hbox 1
    simp only [List.getElem?_toArray, List.getElem?_cons_succ, List.getElem?_cons_zero] at b1
    have p0 := (hb0.cell (p := ⟨ab, ao, none⟩) hal).trans q0
    have p1 := (hb0.cell (p := ⟨ab, ao + 1, none⟩) hal).trans q1
    have hb1 : Below V.heap.size V (V.alloc (.cells #[.string t.s] 9)).drew := ((Below.refl _ V).alloc (Nat.le_refl _) _).drew
    have s1 := (hb1.cell (p := ⟨w.heap.size, 1, none⟩) (by show w.heap.size < V.heap.size; omega)).trans b1
    have s2 := (hb1.cell (p := ⟨ab, ao, none⟩) (by show ab < V.heap.size; omega)).trans p0
    have s3 := (hb1.cell (p := ⟨ab, ao + 1, none⟩) (by show ab < V.heap.size; omega)).trans p1
    have hn : NRow V.heap.size (V.alloc (.cells #[.string t.s] 9)).drew (.slice (some ⟨V.heap.size, 0, none⟩) 1 1) [t.s] := ⟨World.ownsRow_lit V #[.string t.s] 1 (Nat.le_refl _) (by unfold maxLen; omega) rfl, fun s hs => (by rw [List.mem_singleton] at hs; rw [hs]; exact e2), by unfold maxLen; simp⟩
    obtain ⟨v2, w2, hr2, hn2, hg2, -⟩ := hn.app hb1.size c1 ((r1.frame (Stays.of hb0) (fun _ h => h) (fun _ _ h => h)).frame (Stays.of hb1) (fun _ h => h) (fun _ _ h => h)) (by simp only [List.length_singleton]; omega) 27
    have HR2 := hide hr2
    have HF : Hid (BatP false t w (.returned v2) w2) := by
      refine ⟨v2, _, rfl, hn2.base hb0.size, fun y => ?_, by simp; omega, hb0.trans ((hb1.mono hb0.size).trans (below_grown hg2 (Nat.le_trans hb0.size hb1.size) fun k hk => Nat.le_trans hb0.size (hn.lt k hk).2))⟩
      show y ∈ [t.s] ++ t.ss ↔ (y = t.s ∨ y ∈ t.ss)
      simp
    obtain ⟨o4, c4, hv2, -, -⟩ := hn2.rowOf
    subst hv2
    have hnn : ((some (⟨ab, ao, none⟩ : Addr)) = none) = False := by simp
    clear hca hcl e2 e3 r1 e5 q0 q1 hb0 hbox hb1 hn hr2 hn2 hg2
    go_enter Tryz.func39, Tryz.ntmps39
    go_upto_region 2 with fail
    go_region_law (refine step_append_run rfl (.tmp 14) (.tmp 19) 27 rfl (.slice (some ⟨V.heap.size, 0, none⟩) 1 1) (.slice o1 t.ss.length c1) (.slice o4 ([t.s] ++ t.ss).length c4) w2 (by simp [Act.eval]) (by simp [Act.eval]) HR2.out ?_)
    all_goals
      go_wp2
      go_ret
      exact HF.out
end Go.Proofs.YtihjpkldefllgakGreat.Nm

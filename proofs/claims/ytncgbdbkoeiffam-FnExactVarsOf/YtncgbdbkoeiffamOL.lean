/- The model's l9Vars: a number put behind those that came. -/
import Derived.Test.YtncgbdbkoeiffamOJ
import Derived.Test.YtncgbdbkoeiffamOH
import Derived.Test.YtncgbdbkoeiffamPD
import Derived.Deep.DeepCutAuto
import Derived.Deep.CutBlock
import Derived.Deep.RegionLaw
namespace Go.Proofs.Ytncgbdbkoeiffam.Vo
open Go.ChangeShapes Go.WideShapes Go.ChangeAt Go.RowKit
set_option linter.unusedVariables false

/-- All of a row put behind an empty one. -/
theorem all_run {B : Nat} {W X : World} {v : Value} {nums : List Int} (hv : ORow 3 B W v (nums.map intV)) (hl : nums.length ≤ 10000000) (hX : Below W.heap.size W X) {ge : Nat} (hge : W.heap.size ≤ ge) (he : X.heap[ge]? = some (.cells #[] 3 (0, 0))) :
    ∃ o c X1, (Builtin.append_ #[38, 38] 38 #[.slice (some ⟨ge, 0, none⟩) 0 0, v]).run Try.prog X = .ok (.slice o nums.length c) X1 ∧ ORow 3 W.heap.size X1 (.slice o nums.length c) (nums.map intV) ∧ Keeps (fun k => k < X.heap.size ∧ k ≠ ge) X X1 ∧ ∀ g', (Value.slice o nums.length c).ownBlock = some g' → g' = ge ∨ X.heap.size ≤ g' := by
  obtain ⟨i0, hi, hz0, hz1, hz2⟩ := info_parts int_info
  obtain ⟨ov, cv, rfl, -, -, hcs⟩ := hv.at
  have hgx : ge < X.heap.size := (Array.getElem?_eq_some_iff.1 he).1
  have h0 : X.ownsRow W.heap.size 3 1 (.slice (some ⟨ge, 0, none⟩) 0 0) 0 [] := ⟨rfl, .inr ⟨ge, 0, #[], rfl, hge, he, Nat.le_refl _, by unfold maxLen; omega, rfl, rfl⟩⟩
  obtain ⟨v', X1, hr, hown, hgr, hob⟩ := Nm.app_run (P := Try.prog) Try.underlying38 hi hz0 hz1 hz2 rfl (by omega) (by omega) h0 (by omega) ov (nums.map intV).length cv (nums.map intV) (by simp) (fun hne => by
    have hpos : 0 < (nums.map intV).length := by omega
    obtain ⟨g, rfl, -⟩ := hcs 0 _ (List.getElem?_eq_getElem hpos)
    refine ⟨g, 0, rfl, fun j u hj => ?_⟩
    obtain ⟨g', e, hc⟩ := hcs j u hj
    cases e
    rw [Nat.zero_add]
    obtain ⟨-, cur, hg⟩ := hv.own (g := g) rfl
    exact (hX.cell (p := ⟨g, j, none⟩) (Array.getElem?_eq_some_iff.1 hg).1).trans hc) (fun u hu => by
    obtain ⟨x, -, rfl⟩ := List.mem_map.1 hu
    rfl) (by rw [List.length_map]; omega) 38
  have hown' : ORow 3 W.heap.size X1 v' (nums.map intV) := by
    unfold ORow
    simpa using hown
  obtain ⟨o, c, rfl, -, -⟩ := hown'.form
  rw [List.length_map] at hr hown'
  refine ⟨o, c, X1, by simpa using hr, hown', ⟨hgr.os, hgr.tape, hgr.output, hgr.size, fun k hk => hgr.block k hk.1 fun e => hk.2 (Option.some.inj e)⟩, fun g' hg' => ?_⟩
  rw [List.length_map] at hob
  rcases hob with h | h
  · have h2 : some ge = some g' := h.symm.trans hg'
    exact .inl (Option.some.inj h2).symm
  · have h2 : some X.heap.size = some g' := h.symm.trans hg'
    exact .inr (Nat.le_of_eq (Option.some.inj h2))
/-- One number put behind a row. -/
theorem one_run {B : Nat} {X1 : World} {v : Value} {xs : List Value} (hv : ORow 3 B X1 v xs) (hB : B ≤ X1.heap.size) (hl : xs.length ≤ 10000000) {gn : Nat} {n : Int} (hn : X1.heap[gn]? = some (.cells #[.int .i64 n] 3 (0, 0))) :
    ∃ o c X2, (Builtin.append_ #[38, 38] 38 #[v, .slice (some ⟨gn, 0, none⟩) 1 1]).run Try.prog X1 = .ok (.slice o (xs.length + 1) c) X2 ∧ ORow 3 B X2 (.slice o (xs.length + 1) c) (xs ++ [.int .i64 n]) ∧ X1.grownBy X2 v.ownBlock := by
  obtain ⟨i0, hi, hz0, hz1, hz2⟩ := info_parts int_info
  obtain ⟨v', X2, hr, hown, hgr, -⟩ := ORow.app (T := 38) (E := 3) Try.underlying38 hi hz0 hz1 hz2 rfl (by decide) hv hB (g := gn) (c := 1) (u := .int .i64 n) (by rw [cell_of hn]; rfl) rfl (by omega) 38
  obtain ⟨o, c, rfl, -, -⟩ := hown.form
  rw [List.length_append] at hr hown
  exact ⟨o, c, X2, hr, hown, hgr⟩
theorem step_app {P : Program} {ops : Array Oper} {o : Oper} {a : Act} {w : World} {K : Act → World → Prop} {Q : Exit → Act → World → Prop} {E : Prop}
    (hg : o.guard = none) (s x : Operand) (t : TypeId) (hop : o.op = Op.call { callee := Callee.builtin Builtin.append, args := #[s, x], argTypes := #[t, t] })
    (v1 v2 v' : Value) (w' : World) (hs : a.eval s = v1) (hx : a.eval x = v2) (hr : (Builtin.append_ #[t, t] o.type #[v1, v2]).run P w = .ok v' w')
    (hK : K (a.put o.dst v') w') : if Region.wanted o (yielded ops a.tmps) = true then Oper.wp P o a w K Q else E := by
  have hw : Region.wanted o (yielded ops a.tmps) = true := by simp [Region.wanted, hg]
  rw [if_pos hw]
  unfold Oper.wp
  simp [execOp, hop, resolve, invoke, builtin, hs, hx, hr, Result.andThen]
  exact hK
end Go.Proofs.Ytncgbdbkoeiffam.Vo

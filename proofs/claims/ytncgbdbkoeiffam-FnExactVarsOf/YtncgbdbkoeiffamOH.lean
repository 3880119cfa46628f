/- The memory of the loop of VarsOf, step by step. -/
import Derived.Test.YtncgbdbkoeiffamOFa
import Derived.OwnWalkIn
import Derived.TacticsInMore
namespace Go.Proofs.Ytncgbdbkoeiffam.Vo
open Go.RowKit Go.Shelf
set_option linter.unusedVariables false

structure MemL (w1 : World) (b6 m4 m5 : Nat) (v3 : Value) (W : World) (ps : List Value) (nums : List Int) (ks : List Addr) (vl : Value) : Prop where
  below : Below w1.heap.size w1 W
  box : W.heap[b6]? = some (.cells #[vl] 54 (0, 0))
  left : ORow 53 w1.heap.size W vl ps
  row : ORow 3 w1.heap.size W v3 (nums.map intV)
  told : SetAt W m4 intV nums
  seen : SetAt W m5 ptrV ks
theorem int_ne : (3 : Nat) ≠ 54 := by decide
theorem int_ne2 : (3 : Nat) ≠ 53 := by decide
theorem ptr_ne : (53 : Nat) ≠ 54 := by decide
/-- A change of one block that is none of the others. -/
theorem MemL.set5 {w1 : World} {b6 m4 m5 : Nat} {v3 : Value} {W W' : World} {ps : List Value} {nums : List Int} {ks ks' : List Addr} {vl : Value} (h : MemL w1 b6 m4 m5 v3 W ps nums ks vl) (ho : Oth m5 W W') (hm : m4 ≠ m5) (h5 : w1.heap.size ≤ m5) (hs : SetAt W' m5 ptrV ks') : MemL w1 b6 m4 m5 v3 W' ps nums ks' vl := by
  obtain ⟨es, c, hm5, -⟩ := h.seen
  have hk : ∀ k, k < W.heap.size → k ≠ m5 → W'.heap[k]? = W.heap[k]? := fun k h1 h2 => ho.block k ⟨h1, h2⟩
  refine ⟨h.below.trans ⟨ho.os, ho.tape, ho.output, ho.size, fun k hk' => hk k (Nat.lt_of_lt_of_le hk' h.below.size) (by omega)⟩, ?_, h.left.keep fun g hg => ?_, h.row.keep fun g hg => ?_, h.told.keep (hk _ h.told.lt hm), hs⟩
  · rw [hk b6 (Array.getElem?_eq_some_iff.1 h.box).1 (fun e => by have := h.box; rw [e, hm5] at this; cases this)]
    exact h.box
  · obtain ⟨-, cur, hc⟩ := h.left.own hg
    exact hk g (Array.getElem?_eq_some_iff.1 hc).1 fun e => by rw [e, hm5] at hc; cases hc
  · obtain ⟨-, cur, hc⟩ := h.row.own hg
    exact hk g (Array.getElem?_eq_some_iff.1 hc).1 fun e => by rw [e, hm5] at hc; cases hc
theorem MemL.set4 {w1 : World} {b6 m4 m5 : Nat} {v3 : Value} {W W' : World} {ps : List Value} {nums nums' : List Int} {ks : List Addr} {vl v3' : Value} (h : MemL w1 b6 m4 m5 v3 W ps nums ks vl) (ho : Oth m4 W W') (hm : m4 ≠ m5) (h4 : w1.heap.size ≤ m4) : Below w1.heap.size w1 W' ∧ W'.heap[b6]? = some (.cells #[vl] 54 (0, 0)) ∧ ORow 53 w1.heap.size W' vl ps ∧ ORow 3 w1.heap.size W' v3 (nums.map intV) ∧ SetAt W' m5 ptrV ks := by
  obtain ⟨es, c, hm4, -⟩ := h.told
  have hk : ∀ k, k < W.heap.size → k ≠ m4 → W'.heap[k]? = W.heap[k]? := fun k h1 h2 => ho.block k ⟨h1, h2⟩
  refine ⟨h.below.trans ⟨ho.os, ho.tape, ho.output, ho.size, fun k hk' => hk k (Nat.lt_of_lt_of_le hk' h.below.size) (by omega)⟩, ?_, h.left.keep fun g hg => ?_, h.row.keep fun g hg => ?_, h.seen.keep (hk _ h.seen.lt (Ne.symm hm))⟩
  · rw [hk b6 (Array.getElem?_eq_some_iff.1 h.box).1 (fun e => by have := h.box; rw [e, hm4] at this; cases this)]
    exact h.box
  · obtain ⟨-, cur, hc⟩ := h.left.own hg
    exact hk g (Array.getElem?_eq_some_iff.1 hc).1 fun e => by rw [e, hm4] at hc; cases hc
  · obtain ⟨-, cur, hc⟩ := h.row.own hg
    exact hk g (Array.getElem?_eq_some_iff.1 hc).1 fun e => by rw [e, hm4] at hc; cases hc
/-- The box of the list written anew, and a box laid. -/
theorem MemL.pop {w1 : World} {b6 m4 m5 : Nat} {v3 : Value} {W : World} {ps ps' : List Value} {nums : List Int} {ks : List Addr} {vl vl' : Value} (h : MemL w1 b6 m4 m5 v3 W ps nums ks vl) (h6 : w1.heap.size ≤ b6) (o : Obj) (hl : ORow 53 w1.heap.size W vl' ps') : MemL w1 b6 m4 m5 v3 ((W.setCell ⟨b6, 0, none⟩ vl').alloc o) ps' nums ks vl' := by
  have hb := h.box
  have hlt := (Array.getElem?_eq_some_iff.1 hb).1
  have hz : (W.setCell ⟨b6, 0, none⟩ vl').heap.size = W.heap.size := by simp
  have hk2 := keeps_set (K := fun k => k ≠ b6) W b6 0 vl' (fun h => h rfl)
  have hk : ∀ k, k < W.heap.size → k ≠ b6 → ((W.setCell ⟨b6, 0, none⟩ vl').alloc o).heap[k]? = W.heap[k]? := fun k h1 h2 => by
    rw [heap_alloc_old _ _ (by rw [hz]; exact h1)]
    exact hk2.block k h2
  refine ⟨h.below.trans ⟨hk2.os, hk2.tape, hk2.output, by simp, fun k hk' => hk k (Nat.lt_of_lt_of_le hk' h.below.size) (by omega)⟩, ?_, hl.keep fun g hg => ?_, h.row.keep fun g hg => ?_, h.told.keep (hk _ h.told.lt fun e => ?_), h.seen.keep (hk _ h.seen.lt fun e => ?_)⟩
  · rw [heap_alloc_old _ _ (by rw [hz]; exact hlt), heap_set_same vl' hb]
    rfl
  · obtain ⟨-, cur, hc⟩ := hl.own hg
    refine hk g (Array.getElem?_eq_some_iff.1 hc).1 fun e => ?_
    rw [e, hb] at hc
    simp only [Option.some.injEq, Obj.cells.injEq] at hc
    exact ptr_ne hc.2.1.symm
  · obtain ⟨-, cur, hc⟩ := h.row.own hg
    refine hk g (Array.getElem?_eq_some_iff.1 hc).1 fun e => ?_
    rw [e, hb] at hc
    simp only [Option.some.injEq, Obj.cells.injEq] at hc
    exact int_ne hc.2.1.symm
  · obtain ⟨es, c, h9, -⟩ := h.told
    rw [e, hb] at h9
    cases h9
  · obtain ⟨es, c, h9, -⟩ := h.seen
    rw [e, hb] at h9
    cases h9
theorem mks_pop {B b6 : Nat} {W : World} {vl vl' : Value} {ds : List Deferred} (h : Mks B W ds) (hb : W.heap[b6]? = some (.cells #[vl] 54 (0, 0))) (o : Obj) : Mks B ((W.setCell ⟨b6, 0, none⟩ vl').alloc o) ds := by
  refine h.keep fun D _ hD _ => ?_
  have hk2 := keeps_set (K := fun k => k ≠ b6) W b6 0 vl' (fun h => h rfl)
  rw [heap_alloc_old _ _ (by simp; exact (Array.getElem?_eq_some_iff.1 hD).1)]
  exact hk2.block D fun e => by rw [e, hb] at hD; cases hD
theorem mks_oth {B m : Nat} {W W' : World} {ds : List Deferred} {es : Array MapEntry} {c : Nat} (h : Mks B W ds) (ho : Oth m W W') (hm : W.heap[m]? = some (.map es c)) : Mks B W' ds :=
  h.keep fun D _ hD _ => ho.block D ⟨(Array.getElem?_eq_some_iff.1 hD).1, fun e => by rw [e, hm] at hD; cases hD⟩
/-- An append whose run is known, in a fence. -/
theorem app_known {F : Fence} {n : Nat} {P : Program} (w : World) {ops : Array Oper} {rest : List Oper} {o : Oper} {a : Act} {Q : Exit → Act → World → Prop}
    (hg : o.guard = none) (s x : Operand) (t : TypeId) (hop : o.op = Op.call { callee := Callee.builtin Builtin.append, args := #[s, x], argTypes := #[t, t] })
    (v v2 v' : Value) (w' : World) (hs : a.eval s = v) (hx : a.eval x = v2) (hrun : (Builtin.append_ #[t, t] o.type #[v, v2]).run P w = .ok v' w')
    (hK : wpListIn F n P ops Q rest (a.put o.dst v') w') : wpListIn F n P ops Q (o :: rest) a w := by
  refine wpListIn_plain hg fun K hK' => ?_
  unfold Oper.wpIn
  refine ⟨?_, ?_⟩
  · simp [Oper.about, hop, resolve, Target.leads, Sem.run_pure]
  · rw [Oper.semAt_plain F _ _ (by rw [hop]; intro c hc'; cases hc')]
    simp [execOp, hop, resolve, invoke, builtin, hs, hx, hrun, Result.andThen]
    exact hK' _ _ hK
theorem int_info : (Try.prog.info? 3).map (fun i => (i.zero, i.size, i.bytes)) = some (some (.int .i64 0), 1, 8) := by kernel_rfl
theorem ptr_info : (Try.prog.info? 53).map (fun i => (i.zero, i.size, i.bytes)) = some (some (.pointer none), 1, 8) := by kernel_rfl
/-- All is kept but an owned row's block. -/
def OthR (row : Option Nat) (w w' : World) : Prop := Keeps (fun k => k < w.heap.size ∧ row ≠ some k) w w'
/-- A number put behind those that are told. -/
theorem num_run {w1 : World} {b6 m4 m5 : Nat} {v3 : Value} {W : World} {ps : List Value} {nums : List Int} {ks : List Addr} {vl : Value} (q1 : Below w1.heap.size w1 W) (q2 : W.heap[b6]? = some (.cells #[vl] 54 (0, 0))) (q3 : ORow 53 w1.heap.size W vl ps) (q4 : ORow 3 w1.heap.size W v3 (nums.map intV)) (q5 : SetAt W m5 ptrV ks) (n : Int) (hs4 : SetAt W m4 intV (nums ++ [n])) (hl : nums.length ≤ 1048577) :
    ∃ o c V, (Builtin.append_ #[38, 38] 38 #[v3, .slice (some ⟨W.heap.size, 0, none⟩) 1 1]).run Try.prog (W.alloc (.cells #[.int .i64 n] 3)) = .ok (.slice o (nums.length + 1) c) V ∧ MemL w1 b6 m4 m5 (.slice o (nums.length + 1) c) V ps (nums ++ [n]) ks vl ∧ OthR v3.ownBlock W V := by
  obtain ⟨X, hX⟩ : ∃ X, W.alloc (.cells #[.int .i64 n] 3) = X := ⟨_, rfl⟩
  have hA : Below W.heap.size W X := by rw [← hX]; exact (Below.refl _ W).alloc (Nat.le_refl _) _
  have hzX : X.heap.size = W.heap.size + 1 := by rw [← hX]; simp
  have hnew : X.heap[W.heap.size]? = some (.cells #[.int .i64 n] 3 (0, 0)) := by rw [← hX]; exact heap_alloc_new W _
  have hq := q1.size
  obtain ⟨i0, hi, hz0, hz1, hz2⟩ := info_parts int_info
  obtain ⟨v', V, hr, hown, hgr, hob⟩ := ORow.app (T := 38) (E := 3) Try.underlying38 hi hz0 hz1 hz2 rfl (by decide) (q4.keep fun g hg => hA.block g (Array.getElem?_eq_some_iff.1 (q4.own hg).2.choose_spec).1) (by omega) (g := W.heap.size) (c := 1) (u := .int .i64 n) (by rw [cell_of hnew]; rfl) rfl (by rw [List.length_map]; omega) 38
  obtain ⟨o, c, rfl, -, -⟩ := hown.form
  rw [List.length_append, List.length_map] at hr hown
  have hk : ∀ k, k < W.heap.size → v3.ownBlock ≠ some k → V.heap[k]? = W.heap[k]? := fun k h1 h2 => (hgr.block k (by omega) (fun e => h2 e.symm)).trans (hA.block k h1)
  have hsz : W.heap.size ≤ V.heap.size := by have := hgr.size; omega
  have ho : OthR v3.ownBlock W V := ⟨hgr.os.trans hA.os, hgr.tape.trans hA.tape, hgr.output.trans hA.output, hsz, fun k h9 => hk k h9.1 h9.2⟩
  have hty : ∀ {k : Nat} {cur : Array Value} {e : TypeId}, W.heap[k]? = some (.cells cur e (0, 0)) → e ≠ 3 → v3.ownBlock ≠ some k := fun hc he e => by
    obtain ⟨-, cur', hc'⟩ := q4.own e
    rw [hc] at hc'
    simp only [Option.some.injEq, Obj.cells.injEq] at hc'
    exact he hc'.2.1
  have hmp : ∀ {k : Nat} {es : Array MapEntry} {c : Nat}, W.heap[k]? = some (.map es c) → v3.ownBlock ≠ some k := fun hc e => by
    obtain ⟨-, cur', hc'⟩ := q4.own e
    rw [hc] at hc'
    cases hc'
  refine ⟨o, c, V, by rw [hX]; exact hr, ⟨q1.trans ⟨ho.os, ho.tape, ho.output, hsz, fun k h9 => hk k (by omega) fun e => ?_⟩, ?_, q3.keep fun g hg => ?_, ?_, ?_, ?_⟩, ho⟩
  · have := (q4.own e).1
    omega
  · rw [hk b6 (Array.getElem?_eq_some_iff.1 q2).1 (hty q2 (Ne.symm int_ne))]
    exact q2
  · obtain ⟨-, cur, hc⟩ := q3.own hg
    exact hk g (Array.getElem?_eq_some_iff.1 hc).1 (hty hc (Ne.symm int_ne2))
  · rw [List.map_append]
    show V.ownsRow _ _ _ _ _ _
    unfold ORow at hown
    simpa [intV] using hown
  · obtain ⟨es, cc, h9, -⟩ := id hs4
    exact hs4.keep (hk _ hs4.lt (hmp h9))
  · obtain ⟨es, cc, h9, -⟩ := id q5
    exact q5.keep (hk _ q5.lt (hmp h9))
theorem mks_row {B : Nat} {E : TypeId} {v : Value} {xs : List Value} {W W' : World} {ds : List Deferred} (h : Mks B W ds) (ho : OthR v.ownBlock W W') (hr : ORow E B W v xs) : Mks B W' ds :=
  h.keep fun D _ hD _ => ho.block D ⟨(Array.getElem?_eq_some_iff.1 hD).1, fun e => by
    obtain ⟨-, cur, hc⟩ := hr.own e
    rw [hD] at hc
    cases hc⟩
end Go.Proofs.Ytncgbdbkoeiffam.Vo

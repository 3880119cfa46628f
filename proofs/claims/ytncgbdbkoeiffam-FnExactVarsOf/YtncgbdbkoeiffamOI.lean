/- The inner loop of VarsOf: the parts of a place are put behind what is left. -/
import Derived.Test.YtncgbdbkoeiffamOH
namespace Go.Proofs.Ytncgbdbkoeiffam.Vo
open Go.RowKit Go.Shelf
set_option linter.unusedVariables false

theorem MemL.later {w1 : World} {b6 m4 m5 : Nat} {v3 : Value} {W W' : World} {ps : List Value} {nums : List Int} {ks : List Addr} {vl : Value} (h : MemL w1 b6 m4 m5 v3 W ps nums ks vl) (hb : Below W.heap.size W W') : MemL w1 b6 m4 m5 v3 W' ps nums ks vl := by
  refine ⟨h.below.trans (hb.mono h.below.size), (hb.block _ (Array.getElem?_eq_some_iff.1 h.box).1).trans h.box, h.left.keep fun g hg => ?_, h.row.keep fun g hg => ?_, h.told.keep (hb.block _ h.told.lt), h.seen.keep (hb.block _ h.seen.lt)⟩
  · obtain ⟨-, cur, hc⟩ := h.left.own hg
    exact hb.block g (Array.getElem?_eq_some_iff.1 hc).1
  · obtain ⟨-, cur, hc⟩ := h.row.own hg
    exact hb.block g (Array.getElem?_eq_some_iff.1 hc).1
theorem Mks.later {B : Nat} {W W' : World} {ds : List Deferred} (h : Mks B W ds) (hb : Below W.heap.size W W') : Mks B W' ds := h.keep fun D _ hD _ => hb.block D (Array.getElem?_eq_some_iff.1 hD).1
theorem row4_of {K KY : Nat → Prop} {w1 Y : World} {es : List Ent} {o : Option Addr} {len : Nat} (hB : Below w1.heap.size w1 Y) (hKY : ∀ b, b < w1.heap.size → KY b) (hTe : ∀ d ∈ es, T K w1 d) (hes : es.length = len) (hrow : len = 0 ∨ ∃ b off, o = some ⟨b, off, none⟩ ∧ K b ∧ b < w1.heap.size ∧ ∀ (j : Nat) d, es[j]? = some d → d.a = ⟨b, off + j * 4, none⟩) :
    ∃ b off cc, Row4 Y KY o len cc ∧ (∀ (j : Nat) d, es[j]? = some d → d.a = ⟨b, off + j * 4, none⟩) ∧ (0 < len → o = some ⟨b, off, none⟩) := by
  rcases hrow with h0 | ⟨b, off, rfl, hKb, hb, hj⟩
  · refine ⟨0, 0, fun _ _ => undef, .inl h0, fun j d hd => ?_, fun h9 => by omega⟩
    have := (List.getElem?_eq_some_iff.1 hd).1
    omega
  · refine ⟨b, off, fun j i => (Y.cell? ⟨b, off + j * 4 + i, none⟩).getD undef, .inr ⟨b, off, rfl, hKY b hb, fun j h1 i h2 => ?_⟩, hj, fun _ => rfl⟩
    have hd : es[j]? = some es[j] := List.getElem?_eq_getElem (by omega)
    obtain ⟨-, -, -, h, x, cs, l4, hc, -⟩ := hTe _ (List.mem_of_getElem? hd)
    rw [hj j _ hd] at hc
    have h9 := hc i (cs[i]'(by omega)) (List.getElem?_eq_getElem (by omega))
    have h8 : Y.cell? ⟨b, off + j * 4 + i, none⟩ = some (cs[i]'(by omega)) := (hB.cell (p := ⟨b, off + j * 4 + i, none⟩) hb).trans h9
    show _ = some ((Y.cell? ⟨b, off + j * 4 + i, none⟩).getD undef)
    rw [h8]
    rfl
/-- What the inner loop holds when pre has come. -/
def RI (w1 Y : World) (KY : Nat → Prop) (b6 g b off : Nat) (ps0 : List Value) (len : Nat) (pre : List (RdL len)) (W : World) : Prop :=
  ∃ vl, W.heap[b6]? = some (.cells #[vl] 54 (0, 0)) ∧ ORow 53 w1.heap.size W vl (ps0 ++ pre.map fun x => ptrV ⟨b, off + x.1.1 * 4, none⟩) ∧ Keeps KY Y W ∧ ∀ g', vl.ownBlock = some g' → g' = g ∨ Y.heap.size ≤ g'
theorem RI.own (w1 Y : World) (KY : Nat → Prop) (hKY : ∀ k, KY k → k < Y.heap.size) (b6 g b off : Nat) (ps0 : List Value) (len : Nat) : OwnFrom Y.heap.size (RI w1 Y KY b6 g b off ps0 len) := by
  rintro pre W W' row ⟨vl, h1, h2, h3, h4⟩ hg hr
  have hk : ∀ (k : Nat) (cur : Array Value) (e : TypeId) (f : Nat × Nat), W.heap[k]? = some (.cells cur e f) → W'.heap[k]? = W.heap[k]? := fun k cur e f hc => hg.block k (Array.getElem?_eq_some_iff.1 hc).1 fun er => by
    obtain ⟨-, ob, ho, hcl⟩ := hr k er.symm
    rw [hc] at ho
    cases ho
    cases hcl
  refine ⟨vl, (hk _ _ _ _ h1).trans h1, h2.keep fun g hg' => ?_, ⟨hg.os.trans h3.os, hg.tape.trans h3.tape, hg.output.trans h3.output, Nat.le_trans h3.size hg.size, fun k h9 => ?_⟩, h4⟩
  · obtain ⟨-, cur, hc⟩ := h2.own hg'
    exact hk _ _ _ _ hc
  · refine (hg.block k (Nat.lt_of_lt_of_le (hKY k h9) h3.size) fun er => ?_).trans (h3.block k h9)
    have := (hr k er.symm).1
    have := hKY k h9
    omega
theorem up_rows (c : Nat → Nat → Value) {b off len : Nat} {es : List Ent} (hes : es.length = len) (hj : ∀ (j : Nat) d, es[j]? = some d → d.a = ⟨b, off + j * 4, none⟩) : ∀ (k : Nat) (h : k ≤ len), ((uptoB c len k h).map fun x => ptrV ⟨b, off + x.1.1 * 4, none⟩) = (es.reverse.take k).map fun e => ptrV e.a
  | 0, _ => rfl
  | k + 1, h => by
    show ((uptoB c len k (Nat.le_of_succ_le h) ++ [atB c len k h]).map fun x => ptrV ⟨b, off + x.1.1 * 4, none⟩) = _
    rw [List.map_append, up_rows c hes hj k (Nat.le_of_succ_le h), List.take_add_one, List.map_append]
    congr 1
    obtain ⟨d, hd⟩ : ∃ d, es[len - 1 - k]? = some d := ⟨_, List.getElem?_eq_getElem (by omega)⟩
    have h1 : es.reverse[k]? = some d := by
      rw [List.getElem?_reverse (by omega), show es.length - 1 - k = len - 1 - k from by omega]
      exact hd
    rw [h1]
    show [ptrV ⟨b, off + (len - 1 - k) * 4, none⟩] = [ptrV d.a]
    rw [hj (len - 1 - k) d hd]
/-- A place put behind those that are left. -/
theorem put_run {B : Nat} {W X : World} {vl : Value} {ps : List Value} (hrow : ORow 53 B W vl ps) (hB : B ≤ W.heap.size) (a : Addr) (hl : ps.length ≤ 10000000) (hX : Below W.heap.size W X) (hn : X.heap[W.heap.size]? = some (.cells #[.pointer (some a)] 53 (0, 0))) :
    ∃ o c V, (Builtin.append_ #[54, 54] 54 #[vl, .slice (some ⟨W.heap.size, 0, none⟩) 1 1]).run Try.prog X = .ok (.slice o (ps.length + 1) c) V ∧ ORow 53 B V (.slice o (ps.length + 1) c) (ps ++ [ptrV a]) ∧ OthR vl.ownBlock W V ∧ ∀ g', (Value.slice o (ps.length + 1) c).ownBlock = some g' → vl.ownBlock = some g' ∨ W.heap.size ≤ g' := by
  have hzX : W.heap.size < X.heap.size := (Array.getElem?_eq_some_iff.1 hn).1
  obtain ⟨i0, hi, hz0, hz1, hz2⟩ := info_parts ptr_info
  obtain ⟨v', V, hr, hown, hgr, hob⟩ := ORow.app (T := 54) (E := 53) Try.underlying54 hi hz0 hz1 hz2 rfl (by decide) (hrow.keep fun g hg => hX.block g (Array.getElem?_eq_some_iff.1 (hrow.own hg).2.choose_spec).1) (by omega) (g := W.heap.size) (c := 1) (u := .pointer (some a)) (by rw [cell_of hn]; rfl) rfl (by omega) 54
  obtain ⟨o, c, rfl, -, -⟩ := hown.form
  rw [List.length_append] at hr hown hob
  refine ⟨o, c, V, hr, ?_, ⟨hgr.os.trans hX.os, hgr.tape.trans hX.tape, hgr.output.trans hX.output, by have := hgr.size; omega, fun k h9 => (hgr.block k (by omega) (fun e => h9.2 e.symm)).trans (hX.block k h9.1)⟩, fun g' hg' => ?_⟩
  · exact hown
  · rcases hob with h | h
    · exact .inl (h.symm.trans hg')
    · have h2 : some X.heap.size = some g' := h.symm.trans hg'
      simp only [Option.some.injEq] at h2
      exact .inr (by omega)
/-- Behind the question whether a number is new. -/
def Mid (w1 : World) (b6 m4 m5 : Nat) (v3 vl : Value) (ps : List Value) (nums : List Int) (ks : List Addr) (k n : Int) (ds : List Deferred) (b7 : Nat) (o7 : Obj) (q : Bool) (W : World) : Prop :=
  Below w1.heap.size w1 W ∧ W.heap[b6]? = some (.cells #[vl] 54 (0, 0)) ∧ ORow 53 w1.heap.size W vl ps ∧ ORow 3 w1.heap.size W v3 (nums.map intV) ∧ SetAt W m5 ptrV ks ∧ Mks w1.heap.size W ds ∧ W.heap[b7]? = some o7 ∧
  (q = true → SetAt W m4 intV (nums ++ [n]) ∧ ifNew k n nums = nums ++ [n]) ∧ (q = false → SetAt W m4 intV nums ∧ ifNew k n nums = nums)
/-- Ahead of the inner loop. -/
def Pre (w1 : World) (b6 m4 m5 : Nat) (vl : Value) (ps : List Value) (nums : List Int) (ks : List Addr) (k n : Int) (ds : List Deferred) (b7 : Nat) (o7 : Obj) (v3 : Value) (W : World) : Prop :=
  MemL w1 b6 m4 m5 v3 W ps (ifNew k n nums) ks vl ∧ Mks w1.heap.size W ds ∧ W.heap[b7]? = some o7
theorem step_app_in {F : Fence} {m : Nat} {P : Program} {ops : Array Oper} {o : Oper} {a : Act} {w : World} {K : Act → World → Prop} {Q : Exit → Act → World → Prop} {E : Prop}
    (hg : o.guard = none) (s x : Operand) (t : TypeId) (hop : o.op = Op.call { callee := Callee.builtin Builtin.append, args := #[s, x], argTypes := #[t, t] })
    (v1 v2 v' : Value) (w' : World) (hs : a.eval s = v1) (hx : a.eval x = v2) (hr : (Builtin.append_ #[t, t] o.type #[v1, v2]).run P w = .ok v' w')
    (hK : K (a.put o.dst v') w') : if Region.wanted o (yielded ops a.tmps) = true then Oper.wpIn F m P o a w K Q else E := by
  have hw : Region.wanted o (yielded ops a.tmps) = true := by simp [Region.wanted, hg]
  rw [if_pos hw]
  unfold Oper.wpIn
  refine ⟨?_, ?_⟩
  · simp [Oper.about, hop, resolve, Target.leads, Sem.run_pure]
  · rw [Oper.semAt_plain F _ _ (by rw [hop]; intro c hc'; cases hc')]
    simp [execOp, hop, resolve, invoke, builtin, hs, hx, hr, Result.andThen]
    exact hK
end Go.Proofs.Ytncgbdbkoeiffam.Vo

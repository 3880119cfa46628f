/- The model's small steps. -/
import Derived.Test.YtfcgfinohhhpiaiLM
import Derived.Deep.RegionLaw
import Derived.Deep.QuietTactic
import Derived.BigQuiet
import Derived.WalkSmall
namespace Go.Proofs.Ytfcgfinohhhpiai
open Go.RowKit

theorem tok_info2 : (Try.prog.info? 70).map (fun i => (i.zero, i.size, i.bytes)) = some (some (.agg #[.int .i64 0, .string ⟨#[]⟩, .int .i64 0, .int .i64 0]), 4, 40) := by kernel_rfl
theorem int_info : (Try.prog.info? 3).map (fun i => (i.zero, i.size, i.bytes)) = some (some (.int .i64 0), 1, 8) := by kernel_rfl
theorem cells1_at (W : World) (a : Value) (t : TypeId) : ∀ (j : Nat) (u : Value), [a][j]? = some u → (W.alloc (.cells #[a] t)).cell? ((⟨W.heap.size, 0, none⟩ : Addr).add j) = some u := by
  intro j u hj
  match j, hj with
  | 0, hj => simp at hj; subst hj; simp [Addr.add]
  | j + 1, hj => simp at hj
theorem cells1_one (n : Int) : ∀ u ∈ [Value.int .i64 n], u.oneCell' = true := by
  intro u hu
  simp only [List.mem_cons, List.not_mem_nil, or_false] at hu
  subst hu
  rfl
theorem cells4_at (W : World) (a b c d : Value) (t : TypeId) : ∀ (j : Nat) (u : Value), [a, b, c, d][j]? = some u → (W.alloc (.cells #[a, b, c, d] t)).cell? ((⟨W.heap.size, 0, none⟩ : Addr).add j) = some u := by
  intro j u hj
  match j, hj with
  | 0, hj => simp at hj; subst hj; simp [Addr.add]
  | 1, hj => simp at hj; subst hj; simp [Addr.add]
  | 2, hj => simp at hj; subst hj; simp [Addr.add]
  | 3, hj => simp at hj; subst hj; simp [Addr.add]
  | j + 4, hj => simp at hj
theorem cells4_one (k : Int) (t : ByteArray) (l c : Int) : ∀ u ∈ [Value.int .i64 k, .string t, .int .i64 l, .int .i64 c], u.oneCell' = true := by
  intro u hu
  simp only [List.mem_cons, List.not_mem_nil, or_false] at hu
  rcases hu with rfl | rfl | rfl | rfl <;> rfl

theorem l2Top_any {w : World} {K : Nat → Prop} {g : Nat} {out : List TokZ} {st : List Int} {wait bad : Bool} (h : SpecAt w K g out st wait bad) (hn : out.length + st.length ≤ 10000000) :
    Calls Try.prog 89 #[.pointer (some ⟨g, 0, none⟩)] w fun e w' => e = .returned (.int .i64 (st.head?.getD (-9))) ∧ ∃ m, w' = w.drewN m := by
  obtain ⟨vo, vs, hg, hm⟩ := h
  have c1 := cell_of hg 1
  simp only [List.getElem?_toArray, List.getElem?_cons_succ, List.getElem?_cons_zero] at c1
  have HM := hide hm
  clear hm hg
  cases st with
  | nil =>
    obtain ⟨o, cap, rfl⟩ := HM.out.none_top
    go_enter Try.func89, Try.ntmps89
    go_wp2
    go_ret
    exact ⟨rfl, 0, rfl⟩
  | cons n st =>
    obtain ⟨b, cap, rfl, hc1, hc2, hc, hb, -, -⟩ := HM.out.top
    have hc3 : cap ≤ 9223372036854775807 := hc2
    rw [List.length_cons] at hn
    go_enter Try.func89, Try.ntmps89
    go_wp2
    go_quiet (fail)
    go_wp2
    go_ret
    exact ⟨rfl, _, rfl⟩

theorem SpecAt.later {w w' : World} {K : Nat → Prop} {g : Nat} {out : List TokZ} {st : List Int} {wait bad : Bool} (h : SpecAt w K g out st wait bad) (hb : Below w.heap.size w w') : SpecAt w' K g out st wait bad := by
  obtain ⟨vo, vs, hg, hm⟩ := h
  exact ⟨vo, vs, (hb.block g hm.gw).trans hg, hm.later hb⟩

theorem drewN_drewN (w : World) (n m : Nat) : (w.drewN n).drewN m = w.drewN (n + m) := by
  unfold World.drewN
  simp [Nat.add_assoc]
theorem SpecAt.drewN {w : World} {K : Nat → Prop} {g : Nat} {out : List TokZ} {st : List Int} {wait bad : Bool} (h : SpecAt w K g out st wait bad) (n : Nat) : SpecAt (w.drewN n) K g out st wait bad :=
  h.later (below_drewN (Below.refl _ _) n)
/-- The top, in a region that only reads. -/
theorem l2Top_quiet {w : World} {K : Nat → Prop} {g : Nat} {out : List TokZ} {st : List Int} {wait bad : Bool} (h : SpecAt w K g out st wait bad) (hn : out.length + st.length ≤ 10000000) (n : Nat) (x : Int) (hx : st.head?.getD (-9) = x) :
    Calls Try.prog 89 #[.pointer (some ⟨g, 0, none⟩)] (w.drewN n) fun e w' => e = .returned (.int .i64 x) ∧ ∃ m, w' = w.drewN m := by
  subst hx
  refine (l2Top_any (h.drewN n) hn).mono ?_
  rintro e w' ⟨rfl, m, rfl⟩
  exact ⟨rfl, n + m, drewN_drewN w n m⟩

theorem l2Push_any {w : World} {K : Nat → Prop} {g : Nat} {out : List TokZ} {st : List Int} {wait bad : Bool} (n : Int) (h : SpecAt w K g out st wait bad) (hn : out.length + st.length ≤ 10000000) :
    Calls Try.prog 56 #[.pointer (some ⟨g, 0, none⟩), .int .i64 n] w fun e w' => e = .returned (.tuple #[]) ∧ SpecAt w' K g out (n :: st) wait bad ∧ Keeps K w w' := by
  obtain ⟨vo, vs, hg, hm⟩ := h
  have c1 := cell_of hg 1
  simp only [List.getElem?_toArray, List.getElem?_cons_succ, List.getElem?_cons_zero] at c1
  have HM := hide hm
  have HG := hide hg
  clear hm hg
  obtain ⟨i0, hi, hz0, hz1, hz2⟩ := info_parts int_info
  go_enter Try.func56, Try.ntmps56
  go_wp2_with (at_builtin; refine wpList_append_own_at _ rfl (.tmp 8) (.tmp 10) 66 rfl 0 3 i0 _ 1 8 Try.underlying66 hi hz0 hz1 hz2 rfl (by decide) _ st.length (intRow st) rfl (HM.out.alloc _).st ⟨w.heap.size, 0, none⟩ 1 1 [.int .i64 n] rfl rfl (cells1_at w _ _) (cells1_one n) (by unfold maxLen; omega) (by omega) (Nat.zero_le _) ?_)
  intro v' w' hown hgrow _ hb
  obtain ⟨o', cap', rfl⟩ := owns_form hown
  obtain ⟨hm2, hk2, hg2⟩ := (HM.out.alloc _).push hown hgrow (by simpa using hb)
  rw [Below.heap_alloc w _ g HM.out.gw, HG.out] at hg2
  have d1 := cell_of hg2 1
  simp only [List.getElem?_toArray, List.getElem?_cons_succ, List.getElem?_cons_zero] at d1
  have f1 := frozen_of hg2 1
  have HM2 := hide hm2
  have HK2 := hide hk2
  have HG2 := hide hg2
  clear hm2 hk2 hg2 hown hgrow hb c1
  go_wp2
  go_end0
  exact ⟨rfl, ⟨vo, _, heap_set_same _ HG2.out, HM2.out.set _ _⟩, (keeps_alloc w _ HM.out.kw).trans (HK2.out.trans (keeps_set _ _ _ _ HM.out.kg))⟩

theorem l2Put_any {w : World} {K : Nat → Prop} {g : Nat} {out : List TokZ} {st : List Int} {wait bad : Bool} (s : ByteArray) (h : SpecAt w K g out st wait bad) (hn : out.length + st.length ≤ 10000000) :
    Calls Try.prog 57 #[.pointer (some ⟨g, 0, none⟩), .string s] w fun e w' => e = .returned (.tuple #[]) ∧ SpecAt w' K g (out ++ [markZ s]) st wait bad ∧ Keeps K w w' := by
  obtain ⟨vo, vs, hg, hm⟩ := h
  have c0 := cell_of hg 0
  simp only [List.getElem?_toArray, List.getElem?_cons_zero] at c0
  have HM := hide hm
  have HG := hide hg
  clear hm hg
  obtain ⟨i0, hi, hz0, hz1, hz2⟩ := info_parts tok_info2
  go_enter Try.func57, Try.ntmps57
  go_wp2_with (at_builtin; refine wpList_append_own_at _ rfl (.tmp 8) (.tmp 11) 24 rfl 0 70 i0 _ 4 40 Try.underlying24 hi hz0 hz1 hz2 rfl (by decide) _ out.length (rowZ out) rfl (HM.out.alloc _).out ⟨w.heap.size, 0, none⟩ 1 1 (cellsZ (markZ s)) rfl rfl (cells4_at w _ _ _ _ _) (cells4_one _ _ _ _) (by unfold maxLen; omega) (by omega) (Nat.zero_le _) ?_)
  intro v' w' hown hgrow _ hb
  obtain ⟨o', cap', rfl⟩ := owns_form hown
  obtain ⟨hm2, hk2, hg2⟩ := (HM.out.alloc _).put hown hgrow (by simpa using hb)
  rw [Below.heap_alloc w _ g HM.out.gw, HG.out] at hg2
  have d1 := cell_of hg2 0
  simp only [List.getElem?_toArray, List.getElem?_cons_zero] at d1
  have f1 := frozen_of hg2 0
  have HM2 := hide hm2
  have HK2 := hide hk2
  have HG2 := hide hg2
  clear hm2 hk2 hg2 hown hgrow hb c0
  go_wp2
  go_end0
  exact ⟨rfl, ⟨_, vs, heap_set_same _ HG2.out, HM2.out.set _ _⟩, (keeps_alloc w _ HM.out.kw).trans (HK2.out.trans (keeps_set _ _ _ _ HM.out.kg))⟩

/-- An append whose run is known, as one step of a region that draws. -/
theorem step_append_run {P : Program} {ops : Array Oper} {o : Oper} {a : Act} {w : World} {K : Act → World → Prop} {Q : Exit → Act → World → Prop} {E : Prop}
    (hg : o.guard = none) (s x : Operand) (t : TypeId) (hop : o.op = Op.call { callee := Callee.builtin Builtin.append, args := #[s, x], argTypes := #[t, t] })
    (v1 v2 v' : Value) (w' : World) (hs : a.eval s = v1) (hx : a.eval x = v2) (hr : (Builtin.append_ #[t, t] o.type #[v1, v2]).run P w = .ok v' w')
    (hK : K (a.put o.dst v') w') : if Region.wanted o (yielded ops a.tmps) = true then Oper.wp P o a w K Q else E := by
  have hw : Region.wanted o (yielded ops a.tmps) = true := by simp [Region.wanted, hg]
  rw [if_pos hw]
  unfold Oper.wp
  simp [execOp, hop, resolve, invoke, builtin, hs, hx, hr, Result.andThen]
  exact hK
theorem add_flat (b j : Nat) : (⟨b, 0, none⟩ : Addr).add j = ⟨b, j, none⟩ := by
  cases j <;> simp [Addr.add]
theorem intRow_one (st : List Int) : ∀ u ∈ intRow st, u.oneCell' = true := by
  intro u hu
  unfold intRow at hu
  obtain ⟨x, -, rfl⟩ := List.mem_map.1 hu
  rfl
/-- What is left of the stack, appended to nothing. -/
theorem pop_run (w : World) (b cap : Nat) (st : List Int) (hl : st.length ≤ 10000000) (hb : b < w.heap.size) (hc : ∀ j u, (intRow st)[j]? = some u → w.cell? ⟨b, j, none⟩ = some u) :
    ∃ o' n' cap' w', (Builtin.append_ #[66, 66] 66 #[.slice (some ⟨w.heap.size, 0, none⟩) 0 0, .slice (some ⟨b, 0, none⟩) st.length cap]).run Try.prog (w.alloc (.cells #[] 3)).drew = .ok (.slice o' n' cap') w' ∧ w'.ownsRow w.heap.size 3 1 (.slice o' n' cap') st.length (intRow st) ∧ Below w.heap.size w w' := by
  obtain ⟨i0, hi, hz0, hz1, hz2⟩ := info_parts int_info
  obtain ⟨v', w', hr, hown, hgr, -, -⟩ := run_append_own_at (P := Try.prog) (w.alloc (.cells #[] 3)).drew w.heap.size 66 66 3 i0 _ 1 8 Try.underlying66 hi hz0 hz1 hz2 rfl (by decide) (.slice (some ⟨w.heap.size, 0, none⟩) 0 0) 0 [] (owns_empty w 3 1) ⟨b, 0, none⟩ st.length cap (intRow st) (by rw [intRow_length, Nat.mul_one])
    (fun j u hj => by
      rw [add_flat]
      have h1 := (keeps_alloc (K := (· < w.heap.size)) w (.cells #[] 3) fun k h => h).below.cell (p := ⟨b, j, none⟩) hb
      exact h1.trans (hc j u hj)) (intRow_one st) (by unfold maxLen; omega) (by omega) (by show w.heap.size ≤ (w.alloc _).heap.size; simp)
  rw [Nat.zero_add, List.nil_append] at hown
  obtain ⟨o', cap', rfl⟩ := owns_form hown
  refine ⟨o', _, cap', w', hr, hown, ?_⟩
  have h1 := (keeps_alloc (K := (· < w.heap.size)) w (.cells #[] 3) fun k h => h).below.drew
  have h2 := keeps_grown (K := (· < w.heap.size)) hgr (fun k hk => by show k < (w.alloc _).heap.size; simp; omega) (fun k hk => by have : w.heap.size = k := Option.some.inj hk; show ¬ k < w.heap.size; omega)
  exact h1.trans h2.below

set_option maxHeartbeats 2000000 in
set_option maxRecDepth 100000 in
theorem l2Pop_any {w : World} {K : Nat → Prop} {g : Nat} {out : List TokZ} {st : List Int} {n : Int} {wait bad : Bool} (h : SpecAt w K g out (n :: st) wait bad) (hn : out.length + (n :: st).length ≤ 10000000) :
    Calls Try.prog 90 #[.pointer (some ⟨g, 0, none⟩)] w fun e w' => e = .returned (.tuple #[]) ∧ SpecAt w' K g out st wait bad ∧ Keeps K w w' := by
  obtain ⟨vo, vs, hg, hm⟩ := h
  obtain ⟨b, cap, rfl, hc1, hc2, -, hb, hcells, hm0⟩ := hm.top
  have c1 := cell_of hg 1
  simp only [List.getElem?_toArray, List.getElem?_cons_succ, List.getElem?_cons_zero] at c1
  have HM := hide hm
  have HM0 := hide hm0
  have HG := hide hg
  have HC := hide hcells
  clear hm hg hcells hm0
  have hgw : g < w.heap.size := HM.out.gw
  have hc3 : cap ≤ 9223372036854775807 := hc2
  rw [List.length_cons] at hn
  obtain ⟨o', n', cap', w', hr, hown, hbel⟩ := pop_run w b cap st (by omega) hb HC.out
  obtain ⟨hm2, hk2, hg2⟩ := HM.out.anew hown hbel
  rw [HG.out] at hg2
  have d1 := cell_of hg2 1
  simp only [List.getElem?_toArray, List.getElem?_cons_succ, List.getElem?_cons_zero] at d1
  have f1 := frozen_of hg2 1
  have HM2 := hide hm2
  have HK2 := hide hk2
  have HG2 := hide hg2
  have HR := hide hr
  clear hm2 hk2 hg2 hown hbel hr
  have hw1 : IntKind.i64.wrap (st.length : Int) = st.length := by rw [IntKind.wrap_i64]; omega
  have hw2 : (st.length : Int) ≤ cap := by omega
  have hw3 : (0 : Int) ≤ st.length := by omega
  go_enter Try.func90, Try.ntmps90
  go_wp2
  go_region_law (refine step_append_run rfl (.tmp 3) (.tmp 14) 66 rfl (.slice (some ⟨w.heap.size, 0, none⟩) 0 0) (.slice (some ⟨b, 0, none⟩) st.length cap) (.slice o' n' cap') w' (by simp [Act.eval, Act.put]) (by simp [Act.eval, Act.put]) HR.out ?_)
  all_goals
    go_end0
    exact ⟨rfl, ⟨vo, _, heap_set_same _ HG2.out, HM2.out.set _ _⟩, HK2.out.trans (keeps_set _ _ _ _ HM.out.kg)⟩
end Go.Proofs.Ytfcgfinohhhpiai

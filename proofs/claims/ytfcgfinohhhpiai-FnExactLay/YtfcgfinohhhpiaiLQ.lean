/- The program's small steps. -/
import Derived.Test.YtfcgfinohhhpiaiLM
import Derived.Test.YtfcgfinohhhpiaiShelf
import Derived.Deep.RegionLaw
import Derived.Deep.QuietTactic
import Derived.BigQuiet
import Derived.WalkSmall
import Derived.Deep.DeepCutAuto
import Derived.Deep.CutBlock
namespace Go.Proofs.Ytfcgfinohhhpiai.I
open Go.RowKit Go.Proofs.Ytfcgfinohhhpiai

theorem tok_info2 : (Try.prog.info? 70).map (fun i => (i.zero, i.size, i.bytes)) = some (some (.agg #[.int .i64 0, .string ⟨#[]⟩, .int .i64 0, .int .i64 0]), 4, 40) := by kernel_rfl
theorem int_info : (Try.prog.info? 3).map (fun i => (i.zero, i.size, i.bytes)) = some (some (.int .i64 0), 1, 8) := by kernel_rfl
theorem cells1_at (W : World) (a : Value) (t : TypeId) : ∀ (j : Nat) (u : Value), [a][j]? = some u → (W.alloc (.cells #[a] t)).cell? ((⟨W.heap.size, 0, none⟩ : Addr).add j) = some u := by
  intro j u hj
  match j, hj with
  | 0, hj => simp at hj; subst hj; simp [Addr.add]
  | j + 1, hj => simp at hj
theorem cells1_one (n : Int) : ∀ u ∈ [Value.int .i64 n], u.oneCell' = true := by
  intro u hu
  simp only [List.mem_cons, List.not_mem_nil, or_false] at hu
  subst hu
  rfl
theorem cells4_at (W : World) (a b c d : Value) (t : TypeId) : ∀ (j : Nat) (u : Value), [a, b, c, d][j]? = some u → (W.alloc (.cells #[a, b, c, d] t)).cell? ((⟨W.heap.size, 0, none⟩ : Addr).add j) = some u := by
  intro j u hj
  match j, hj with
  | 0, hj => simp at hj; subst hj; simp [Addr.add]
  | 1, hj => simp at hj; subst hj; simp [Addr.add]
  | 2, hj => simp at hj; subst hj; simp [Addr.add]
  | 3, hj => simp at hj; subst hj; simp [Addr.add]
  | j + 4, hj => simp at hj
theorem cells4_one (k : Int) (t : ByteArray) (l c : Int) : ∀ u ∈ [Value.int .i64 k, .string t, .int .i64 l, .int .i64 c], u.oneCell' = true := by
  intro u hu
  simp only [List.mem_cons, List.not_mem_nil, or_false] at hu
  rcases hu with rfl | rfl | rfl | rfl <;> rfl
theorem step_append_run {P : Program} {ops : Array Oper} {o : Oper} {a : Act} {w : World} {K : Act → World → Prop} {Q : Exit → Act → World → Prop} {E : Prop}
    (hg : o.guard = none) (s x : Operand) (t : TypeId) (hop : o.op = Op.call { callee := Callee.builtin Builtin.append, args := #[s, x], argTypes := #[t, t] })
    (v1 v2 v' : Value) (w' : World) (hs : a.eval s = v1) (hx : a.eval x = v2) (hr : (Builtin.append_ #[t, t] o.type #[v1, v2]).run P w = .ok v' w')
    (hK : K (a.put o.dst v') w') : if Region.wanted o (yielded ops a.tmps) = true then Oper.wp P o a w K Q else E := by
  have hw : Region.wanted o (yielded ops a.tmps) = true := by simp [Region.wanted, hg]
  rw [if_pos hw]
  unfold Oper.wp
  simp [execOp, hop, resolve, invoke, builtin, hs, hx, hr, Result.andThen]
  exact hK
theorem drewN_drewN (w : World) (n m : Nat) : (w.drewN n).drewN m = w.drewN (n + m) := by
  unfold World.drewN
  simp [Nat.add_assoc]
theorem keeps_drewN (K : Nat → Prop) (w : World) (n : Nat) : Keeps K w (w.drewN n) := ⟨rfl, rfl, rfl, Nat.le_refl _, fun _ _ => rfl⟩
theorem Keeps.drewN {K : Nat → Prop} {w w' : World} (h : Keeps K w w') (n : Nat) : Keeps K w (w'.drewN n) := h.trans (keeps_drewN K w' n)
def tokObj (t : TokZ) : Obj := .cells #[.int .i64 t.k, .string t.s, .int .i64 t.l, .int .i64 t.c] 70 (0, 0)
theorem tokObj_cells {w : World} {b : Nat} {t : TokZ} (h : w.heap[b]? = some (tokObj t)) : TokAt w b 0 t := ⟨cell_of h 0, cell_of h 1, cell_of h 2, cell_of h 3⟩

theorem ImplAt.later {w w' : World} {K : Nat → Prop} {g : Nat} {out : List TokZ} {st : List Int} {wait : Bool} {line : Int} (h : ImplAt w K g out st wait line) (hb : Below w.heap.size w w') : ImplAt w' K g out st wait line := by
  obtain ⟨vo, vs, hg, hm⟩ := h
  exact ⟨vo, vs, (hb.block g hm.gw).trans hg, hm.later hb⟩
theorem ImplAt.drewN {w : World} {K : Nat → Prop} {g : Nat} {out : List TokZ} {st : List Int} {wait : Bool} {line : Int} (h : ImplAt w K g out st wait line) (n : Nat) : ImplAt (w.drewN n) K g out st wait line :=
  ImplAt.later h (below_drewN (Below.refl _ _) n)
theorem ImplAt.kw {w : World} {K : Nat → Prop} {g : Nat} {out : List TokZ} {st : List Int} {wait : Bool} {line : Int} (h : ImplAt w K g out st wait line) : ∀ k, K k → k < w.heap.size := by
  obtain ⟨vo, vs, hg, hm⟩ := h
  exact hm.kw
theorem ImplAt.gw {w : World} {K : Nat → Prop} {g : Nat} {out : List TokZ} {st : List Int} {wait : Bool} {line : Int} (h : ImplAt w K g out st wait line) : g < w.heap.size := by
  obtain ⟨vo, vs, hg, hm⟩ := h
  exact hm.gw
theorem ImplAt.kg {w : World} {K : Nat → Prop} {g : Nat} {out : List TokZ} {st : List Int} {wait : Bool} {line : Int} (h : ImplAt w K g out st wait line) : ¬ K g := by
  obtain ⟨vo, vs, hg, hm⟩ := h
  exact hm.kg
theorem ImplAt.box {w : World} {K : Nat → Prop} {g : Nat} {out : List TokZ} {st : List Int} {wait : Bool} {line : Int} (h : ImplAt w K g out st wait line) (o : Obj) : ImplAt (w.alloc o) (fun k => K k ∨ k = w.heap.size) g out st wait line := by
  obtain ⟨vo, vs, hg, hm⟩ := h
  have h2 := hm.alloc o
  have hgw := hm.gw
  refine ⟨vo, vs, (Below.heap_alloc w o g hm.gw).trans hg, h2.more (fun k hk => ?_) (fun hk => ?_) (fun k hk hK => ?_) (fun k hk hK => ?_)⟩
  · rcases hk with hk | rfl
    · exact h2.kw k hk
    · simp
  · rcases hk with hk | e
    · exact hm.kg hk
    · omega
  · rcases hK with hK | e
    · exact hm.ko k hk hK
    · have := (owns_lt hm.out k hk).1
      omega
  · rcases hK with hK | e
    · exact hm.ks k hk hK
    · have := (owns_lt hm.st k hk).1
      omega
theorem ImplAt.less {w : World} {K K' : Nat → Prop} {g : Nat} {out : List TokZ} {st : List Int} {wait : Bool} {line : Int} (h : ImplAt w K' g out st wait line) (hk : ∀ k, K k → K' k) : ImplAt w K g out st wait line := by
  obtain ⟨vo, vs, hg, hm⟩ := h
  exact ⟨vo, vs, hg, hm.more (fun k h => hm.kw k (hk k h)) (fun h => hm.kg (hk _ h)) (fun k h1 h2 => hm.ko k h1 (hk k h2)) (fun k h1 h2 => hm.ks k h1 (hk k h2))⟩
/-- A kept block may be written: the margin stands. -/
theorem ImplAt.setKept {w : World} {K : Nat → Prop} {g : Nat} {out : List TokZ} {st : List Int} {wait : Bool} {line : Int} (h : ImplAt w K g out st wait line) {b : Nat} (hb : K b) (j : Nat) (u : Value) : ImplAt (w.setCell ⟨b, j, none⟩ u) K g out st wait line := by
  obtain ⟨vo, vs, hg, hm⟩ := h
  have hne : g ≠ b := fun e => hm.kg (e ▸ hb)
  refine ⟨vo, vs, (heap_set_other u hne).trans hg, ⟨?_, ?_, hm.og, hm.sg, hm.os, hm.kg, hm.ko, hm.ks, ?_, ?_⟩⟩
  · exact owns_block hm.out fun k hk => heap_set_other u fun e => hm.ko k hk (e ▸ hb)
  · exact owns_block hm.st fun k hk => heap_set_other u fun e => hm.ks k hk (e ▸ hb)
  · intro k hk
    have := hm.kw k hk
    simpa using this
  · simpa using hm.gw
/-- The margin's own cells. -/
theorem ImplAt.facts {w : World} {K : Nat → Prop} {g : Nat} {out : List TokZ} {st : List Int} {wait : Bool} {line : Int} (h : ImplAt w K g out st wait line) :
    ∃ o0 n0 o1 n1, w.cell? ⟨g, 0, none⟩ = some (.slice o1 st.length n1) ∧ w.cell? ⟨g, 1, none⟩ = some (.bool wait) ∧ w.cell? ⟨g, 2, none⟩ = some (.int .i64 line) ∧ w.cell? ⟨g, 3, none⟩ = some (.slice o0 out.length n0) ∧ w.ownsRow 0 70 4 (.slice o0 out.length n0) out.length (rowZ out) ∧ (∀ k, (Value.slice o0 out.length n0).ownBlock = some k → ¬ K k) ∧ (∀ j, w.frozen? ⟨g, j, none⟩ = false) := by
  obtain ⟨vo, vs, hg, hm⟩ := h
  obtain ⟨o0, n0, rfl⟩ := owns_form hm.out
  obtain ⟨o1, n1, rfl⟩ := hm.none_top
  exact ⟨o0, n0, o1, n1, cell_of hg 0, cell_of hg 1, cell_of hg 2, cell_of hg 3, hm.out, hm.ko, fun j => frozen_of hg j⟩
theorem ImplAt.setWait {w : World} {K : Nat → Prop} {g : Nat} {out : List TokZ} {st : List Int} {wait : Bool} {line : Int} (h : ImplAt w K g out st wait line) (x : Bool) : ImplAt (w.setCell ⟨g, 1, none⟩ (.bool x)) K g out st x line ∧ Keeps K w (w.setCell ⟨g, 1, none⟩ (.bool x)) := by
  obtain ⟨vo, vs, hg, hm⟩ := h
  exact ⟨⟨vo, vs, heap_set_same _ hg, hm.set _ _⟩, keeps_set _ _ _ _ hm.kg⟩
theorem ImplAt.setLine {w : World} {K : Nat → Prop} {g : Nat} {out : List TokZ} {st : List Int} {wait : Bool} {line : Int} (h : ImplAt w K g out st wait line) (x : Int) : ImplAt (w.setCell ⟨g, 2, none⟩ (.int .i64 x)) K g out st wait x ∧ Keeps K w (w.setCell ⟨g, 2, none⟩ (.int .i64 x)) := by
  obtain ⟨vo, vs, hg, hm⟩ := h
  exact ⟨⟨vo, vs, heap_set_same _ hg, hm.set _ _⟩, keeps_set _ _ _ _ hm.kg⟩
theorem put_run {w : World} {K : Nat → Prop} {g : Nat} {vo vs : Value} {out : List TokZ} {st : List Int} (h : LayMem w K g vo vs out st) (t : TokZ) (hn : out.length ≤ 10000000) :
    ∃ o' n' cap' w', (Builtin.append_ #[24, 24] 24 #[vo, .slice (some ⟨w.heap.size, 0, none⟩) 1 1]).run Try.prog (w.alloc (tokObj t)).drew = .ok (.slice o' n' cap') w' ∧ LayMem w' K g (.slice o' n' cap') vs (out ++ [t]) st ∧ Keeps K w w' ∧ w'.heap[g]? = w.heap[g]? := by
  obtain ⟨i0, hi, hz0, hz1, hz2⟩ := info_parts tok_info2
  have h1 := h.alloc (tokObj t)
  have h2 : LayMem (w.alloc (tokObj t)).drew K g vo vs out st := h1.same (Nat.le_refl _) fun _ _ _ => rfl
  obtain ⟨v', w', hr, hown, hgr, -, hb⟩ := run_append_own_at (P := Try.prog) (w.alloc (tokObj t)).drew 0 24 24 70 i0 _ 4 40 Try.underlying24 hi hz0 hz1 hz2 rfl (by decide) vo out.length (rowZ out) h2.out ⟨w.heap.size, 0, none⟩ 1 1 (cellsZ t) rfl
    (cells4_at w _ _ _ _ _) (cells4_one _ _ _ _) (by unfold maxLen; omega) (by omega) (Nat.zero_le _)
  obtain ⟨o', cap', rfl⟩ := owns_form hown
  obtain ⟨hm2, hk2, hg2⟩ := h2.put hown hgr hb
  refine ⟨o', _, cap', w', hr, hm2, ?_, ?_⟩
  · have h3 : Keeps K w (w.alloc (tokObj t)).drew := (keeps_alloc w (tokObj t) h.kw).trans ⟨rfl, rfl, rfl, Nat.le_refl _, fun _ _ => rfl⟩
    exact h3.trans hk2
  · rw [hg2]
    exact Below.heap_alloc w (tokObj t) g h.gw

theorem clone_any (s : ByteArray) (w : World) (hs : s.size ≤ 1048576) :
    Calls Try.prog 92 #[.string s] w fun e w' => e = .returned (.string s) ∧ Below w.heap.size w w' := by
  go_enter Try.func92, Try.ntmps92
  go_wp2_with fail
  refine (Try.stringslite_Clone _ _ (by omega)).mono ?_
  rintro e w1 ⟨rfl, hb⟩
  have HB := hide hb
  clear hb
  go_wp2
  go_ret
  exact ⟨rfl, HB.out⟩

theorem push_any {w : World} {K : Nat → Prop} {g : Nat} {out : List TokZ} {st : List Int} {wait : Bool} {line : Int} (n : Int) (h : ImplAt w K g out st wait line) (hn : out.length + st.length ≤ 10000000) :
    Calls Try.prog 61 #[.pointer (some ⟨g, 0, none⟩), .int .i64 n] w fun e w' => e = .returned (.tuple #[]) ∧ ImplAt w' K g out (n :: st) wait line ∧ Keeps K w w' := by
  obtain ⟨vo, vs, hg, hm⟩ := h
  have c1 := cell_of hg 0
  simp only [List.getElem?_toArray, List.getElem?_cons_zero] at c1
  have HM := hide hm
  have HG := hide hg
  clear hm hg
  obtain ⟨i0, hi, hz0, hz1, hz2⟩ := info_parts int_info
  go_enter Try.func61, Try.ntmps61
  go_wp2_with (at_builtin; refine wpList_append_own_at _ rfl (.tmp 8) (.tmp 10) 66 rfl 0 3 i0 _ 1 8 Try.underlying66 hi hz0 hz1 hz2 rfl (by decide) _ st.length (intRow st) rfl (HM.out.alloc _).st ⟨w.heap.size, 0, none⟩ 1 1 [.int .i64 n] rfl rfl (cells1_at w _ _) (cells1_one n) (by unfold maxLen; omega) (by omega) (Nat.zero_le _) ?_)
  intro v' w' hown hgrow _ hb
  obtain ⟨o', cap', rfl⟩ := owns_form hown
  obtain ⟨hm2, hk2, hg2⟩ := (HM.out.alloc _).push hown hgrow (by simpa using hb)
  rw [Below.heap_alloc w _ g HM.out.gw, HG.out] at hg2
  have d1 := cell_of hg2 0
  simp only [List.getElem?_toArray, List.getElem?_cons_zero] at d1
  have f1 := frozen_of hg2 0
  have HM2 := hide hm2
  have HK2 := hide hk2
  have HG2 := hide hg2
  clear hm2 hk2 hg2 hown hgrow hb c1
  go_wp2
  go_end0
  exact ⟨rfl, ⟨vo, _, heap_set_same _ HG2.out, HM2.out.set _ _⟩, (keeps_alloc w _ HM.out.kw).trans (HK2.out.trans (keeps_set _ _ _ _ HM.out.kg))⟩

set_option maxHeartbeats 2000000 in
set_option maxRecDepth 100000 in
theorem put_any {w : World} {K : Nat → Prop} {g : Nat} {out : List TokZ} {st : List Int} {wait : Bool} {line : Int} (t : TokZ) (hs : t.s.size ≤ 1048576) (h : ImplAt w K g out st wait line) (hn : out.length + st.length ≤ 10000000) :
    Calls Try.prog 62 #[.pointer (some ⟨g, 0, none⟩), aggZ t] w fun e w' => e = .returned (.tuple #[]) ∧ ImplAt w' K g (out ++ [t]) st wait line ∧ Keeps K w w' := by
  have HK0 := hide (keeps_alloc w (tokObj t) (ImplAt.kw h))
  have HS0 := hide (ImplAt.box h (tokObj t))
  have HX0 := hide (heap_alloc_new w (tokObj t))
  have HNK : Hid (¬ K w.heap.size) := fun hk => Nat.lt_irrefl _ (ImplAt.kw h _ hk)
  clear h
  unfold aggZ
  go_enter Try.func62, Try.ntmps62
  go_wp2_with fail
  refine (clone_any t.s _ hs).mono ?_
  rintro e w1 ⟨rfl, hb⟩
  have hx1 := (hb.block w.heap.size (heap_lt HX0.out)).trans HX0.out
  have b1 := (tokObj_cells hx1).2.1
  have bf := frozen_of hx1 1
  have HS1 := hide (ImplAt.setKept (ImplAt.later HS0.out hb) (Or.inr rfl) 1 (.string t.s))
  have HX1 : Hid ((w1.setCell ⟨w.heap.size, 1, none⟩ (.string t.s)).heap[w.heap.size]? = some (tokObj t)) := heap_set_same (j := 1) (.string t.s) hx1
  have HK1 := hide (HK0.out.trans ((keeps_of (K := K) hb fun k hk => ImplAt.kw HS0.out k (Or.inl hk)).trans (keeps_set w1 w.heap.size 1 (.string t.s) HNK.out)))
  clear hb hx1
  go_upto_region 2 with fail
  generalize w1.setCell ⟨w.heap.size, 1, none⟩ (.string t.s) = wB at HS1 HX1 HK1 ⊢
  clear b1 bf
  obtain ⟨x0, x1, x2, x3⟩ := tokObj_cells HX1.out
  obtain ⟨vo, vs, hg, hm⟩ := HS1.out
  obtain ⟨o', n', cap', w4, hr, hm4, hk4, hg4⟩ := put_run hm t (by omega)
  rw [hg] at hg4
  have c0 := cell_of hg 3
  have d0 := cell_of hg4 3
  simp only [List.getElem?_toArray, List.getElem?_cons_succ, List.getElem?_cons_zero] at c0 d0
  have f0 := frozen_of hg4 3
  have hgw3 : g < wB.heap.size := hm.gw
  have hbw3 : w.heap.size < wB.heap.size := hm.kw _ (Or.inr rfl)
  have HR := hide hr
  have HM4 := hide hm4
  have HK4 := hide (HK1.out.trans (hk4.mono fun k hk => Or.inl hk))
  have HG4 := hide hg4
  clear hg hm hr hm4 hk4 hg4
  go_region_law (refine step_append_run rfl (.tmp 12) (.tmp 14) 24 rfl vo (.slice (some ⟨wB.heap.size, 0, none⟩) 1 1) (.slice o' n' cap') w4 (by simp [Act.eval]) (by simp [Act.eval]) HR.out ?_)
  all_goals
    go_end0
    refine ⟨rfl, ?_, HK4.out.trans (keeps_set _ _ _ _ fun h => HM4.out.kg (Or.inl h))⟩
    have hs : ImplAt (w4.setCell ⟨g, 3, none⟩ (.slice o' n' cap')) (fun k => K k ∨ k = w.heap.size) g (out ++ [t]) st wait line := ⟨_, vs, heap_set_same _ HG4.out, HM4.out.set _ _⟩
    exact ImplAt.less hs fun k hk => Or.inl hk

theorem putIn_any {w : World} {K : Nat → Prop} {g : Nat} {out : List TokZ} {st : List Int} {wait : Bool} {line : Int} (s : ByteArray) (hs : s.size ≤ 1048576) (h : ImplAt w K g out st wait line) (hn : out.length + st.length ≤ 10000000) :
    Calls Try.prog 93 #[.pointer (some ⟨g, 0, none⟩), .string s] w fun e w' => e = .returned (.tuple #[]) ∧ ImplAt w' K g (out ++ [markZ s]) st wait line ∧ Keeps K w w' := by
  have HS := hide h
  clear h
  go_enter Try.func93, Try.ntmps93
  go_wp2_with fail
  refine (put_any (markZ s) hs HS.out hn).mono ?_
  rintro e w1 ⟨rfl, hs1, hk1⟩
  have HS1 := hide hs1
  have HK1 := hide hk1
  clear hs1 hk1
  go_wp2
  go_end0
  exact ⟨rfl, HS1.out, HK1.out⟩

theorem setStack {w : World} {K : Nat → Prop} {g : Nat} {vo vs vs' : Value} {out : List TokZ} {st' : List Int} {wait : Bool} {line : Int} (hg : w.heap[g]? = some (.cells #[vs, .bool wait, .int .i64 line, vo] 73 (0, 0))) (hm : LayMem w K g vo vs' out st') : ImplAt (w.setCell ⟨g, 0, none⟩ vs') K g out st' wait line ∧ Keeps K w (w.setCell ⟨g, 0, none⟩ vs') :=
  ⟨⟨vo, vs', heap_set_same _ hg, hm.set _ _⟩, keeps_set _ _ _ _ hm.kg⟩

set_option maxHeartbeats 2000000 in
set_option maxRecDepth 100000 in
theorem pop_any {w : World} {K : Nat → Prop} {g : Nat} {out : List TokZ} {st : List Int} {wait : Bool} {line : Int} (n : Int) (h : ImplAt w K g out st wait line) (hn : out.length + st.length ≤ 10000000) :
    Calls Try.prog 68 #[.pointer (some ⟨g, 0, none⟩), .int .i64 n] w fun e w' => (∃ r, st = n :: r ∧ e = .returned (.bool true) ∧ ImplAt w' K g out r wait line ∧ Keeps K w w') ∨ (st.head? ≠ some n ∧ e = .returned (.bool false) ∧ ImplAt w' K g out st wait line ∧ Keeps K w w') := by
  have HS := hide h
  obtain ⟨vo, vs, hg, hm⟩ := h
  have c0 := cell_of hg 0
  have f0 := frozen_of hg 0
  simp only [List.getElem?_toArray, List.getElem?_cons_zero] at c0
  cases st with
  | nil =>
    obtain ⟨o, cap, rfl⟩ := hm.none_top
    simp only [List.length_nil] at c0
    clear hg hm
    go_enter Try.func68, Try.ntmps68
    go_wp2
    go_ret
    exact Or.inr ⟨by simp, rfl, HS.out, Keeps.refl _ _⟩
  | cons x r =>
    obtain ⟨b, cap, rfl, hc1, hc2, ct, hb, -, hm0⟩ := hm.top
    have HG := hide hg
    have HM0 := hide hm0
    clear hg hm hm0
    have hc3 : cap ≤ 9223372036854775807 := hc2
    rw [List.length_cons] at hn
    have hz : ((r.length : Int) + 1 == 0) = false := by simp; omega
    have hw1 : IntKind.i64.wrap (r.length : Int) = r.length := by rw [IntKind.wrap_i64]; omega
    have hw2 : (r.length : Int) ≤ cap := by omega
    have hw3 : (0 : Int) ≤ r.length := by omega
    by_cases hx : x = n
    · have hxb : (x == n) = true := by simp [hx]
      have hxn : (x != n) = false := by simp [hx]
      have HXN := hide hx
      clear hx
      go_enter Try.func68, Try.ntmps68
      go_wp2
      go_ret
      obtain ⟨h1, h2⟩ := setStack HG.out HM0.out
      exact Or.inl ⟨r, by rw [HXN.out], rfl, h1, h2⟩
    · have hxb : (x == n) = false := by simp [hx]
      have hxn : (x != n) = true := by simp [hx]
      have HXN := hide hx
      clear hx
      go_enter Try.func68, Try.ntmps68
      go_wp2
      go_ret
      exact Or.inr ⟨by simpa using HXN.out, rfl, HS.out, Keeps.refl _ _⟩
end Go.Proofs.Ytfcgfinohhhpiai.I

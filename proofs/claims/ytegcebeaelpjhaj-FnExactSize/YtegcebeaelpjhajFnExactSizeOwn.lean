/- For every expression, of whatever parts, the law on Size returns true: the program's Size answers as the model's, and the argument reads as it did. No condition. -/
import Derived.Test.YtegcebeaelpjhajNI
import Derived.Test.YtegcebeaelpjhajNK
namespace Go.Proofs.Ytegcebeaelpjhaj.fnExactSize
open Go.ChangeShapes Go.WideShapes Go.ChangeAt Go.RowKit
set_option linter.unusedVariables false

theorem own : ownKnob Try.prog.godebug = none := by kernel_rfl
theorem laidOut : laidOutB Try.prog = true := by kernel_rfl
theorem cnt_row {K : Nat → Prop} {w : World} {R : Tr → List Value → Prop} {sz : Nat} {o : Option Addr} {xs : List Tr} {f g : Tr → Nat} (hm : RowOf K w R sz o xs) (hf : ∀ x cs, R x cs → f x ≤ 1 + g x) : sumZ f xs ≤ lw g xs := by
  have key : ∀ l : List Tr, (∀ x ∈ l, f x ≤ 1 + g x) → (l.map f).sum ≤ lw g l := by
    intro l hl
    unfold lw
    induction l with
    | nil => exact Nat.zero_le _
    | cons x r ih =>
      have h1 := hl x (List.mem_cons_self ..)
      have h2 := ih fun y hy => hl y (List.mem_cons_of_mem _ hy)
      simp only [List.map_cons, List.sum_cons, List.length_cons]
      omega
  refine key xs fun x hx => ?_
  obtain ⟨i, hi⟩ := List.mem_iff_getElem?.1 hx
  obtain ⟨_, _, _, _, _, hc⟩ := hm (fun e => by rw [e] at hx; cases hx)
  obtain ⟨cs, _, _, hr⟩ := hc i x hi
  exact hf x cs hr
theorem cnt_wts {K : Nat → Prop} {w : World} : ∀ h, (∀ t cs, (reads K w h).ex t cs → (cnt h).ex t ≤ 1 + (wts h).ex t) ∧ (∀ t cs, (reads K w h).de t cs → (cnt h).de t ≤ 1 + (wts h).de t) ∧ (∀ t cs, (reads K w h).al t cs → (cnt h).al t ≤ 1 + (wts h).al t) := by
  intro h
  induction h with
  | zero => exact ⟨fun _ _ h => h.elim, fun _ _ h => h.elim, fun _ _ h => h.elim⟩
  | succ h ih =>
    obtain ⟨i1, i2, i3⟩ := ih
    refine ⟨fun t cs a => ?_, fun t cs a => ?_, fun t cs a => ?_⟩
    · obtain ⟨-, o1, c1, o2, c2, o3, c3, -, -, -, -, -, r1, r2, r3⟩ := a
      have h1 := cnt_row r1 i1
      have h2 := cnt_row r2 i2
      have h3 := cnt_row r3 i3
      show 1 + sumZ (cnt h).ex t.l + sumZ (cnt h).al t.al + sumZ (cnt h).de t.ds ≤ 1 + (t.s.size + lw (wts h).ex t.l + lw (wts h).de t.ds + lw (wts h).al t.al)
      omega
    · obtain ⟨-, -, -, e, o1, c1, ce, o2, c2, te, -, -, -, -, -, -, re, r2⟩ := a
      have h1 := i1 e ce re
      have h2 := cnt_row r2 i2
      show sumZ (cnt h).ex t.l + sumZ (cnt h).de t.ds ≤ 1 + (t.s.size + sw t.ss + (t.l.map (wts h).ex).sum + lw (wts h).de t.ds)
      rw [te]
      simp only [sumZ, List.map_cons, List.map_nil, List.sum_cons, List.sum_nil] at h2 ⊢
      omega
    · obtain ⟨-, -, -, -, e, o1, c1, ce, te, -, -, -, -, -, re⟩ := a
      have h1 := i1 e ce re
      show sumZ (cnt h).ex t.l ≤ 1 + (t.s.size + sw t.ss + (t.l.map (wts h).ex).sum)
      rw [te]
      simp only [sumZ, List.map_cons, List.map_nil, List.sum_cons, List.sum_nil]
      omega

set_option maxHeartbeats 1000000 in
set_option maxRecDepth 100000 in
theorem walk {h : Nat} (x : Tr) (cs : List Value) (w : World) (hr : (reads AllK w h).ex x cs) :
    Calls Try.prog 4 #[.agg cs.toArray] w fun e w' => e = .returned (.bool true) ∧ Below w.heap.size w w' := by
  obtain ⟨o1, c1, o2, c2, o3, c3, rfl⟩ := ex_form hr
  have HR := hide hr
  clear hr
  have HB0 : Hid (Below w.heap.size w (w.alloc (.cells #[.int .i64 x.k, .string x.s, .int .i64 x.n, .slice o1 x.l.length c1, .slice o2 x.ds.length c2, .slice o3 x.al.length c3] 37))) := (Below.refl _ w).alloc (Nat.le_refl _) _
  have HX0 : Hid ((w.alloc (.cells #[.int .i64 x.k, .string x.s, .int .i64 x.n, .slice o1 x.l.length c1, .slice o2 x.ds.length c2, .slice o3 x.al.length c3] 37)).heap[w.heap.size]? = some (.cells #[.int .i64 x.k, .string x.s, .int .i64 x.n, .slice o1 x.l.length c1, .slice o2 x.ds.length c2, .slice o3 x.al.length c3] 37 (0, 0))) := heap_alloc_new w _
  go_enter Try.func4, Try.ntmps4
  go_wp2_with fail
  refine ((sz_all AllK h).1 x _ _ 1048576 (by omega) (by omega) ((reads_later HB0.out h).1 _ _ HR.out)).mono ?_
  rintro e w1 ⟨r, rfl, hr1, hr2, hb⟩
  have HW := hide hr2
  have HB1 := hide (HB0.out.trans (hb.mono HB0.out.size))
  have HX1 := hide ((hb.block w.heap.size (heap_lt HX0.out)).trans HX0.out)
  clear hr2 hb
  by_cases hr0 : r < 0
  · go_wp2
    go_ret
    exact ⟨rfl, HB1.out⟩
  have HWT : Hid ((wts h).ex x ≤ 1048576) := by
    have h2 := HW.out (by omega)
    exact (by omega : (wts h).ex x ≤ 1048576)
  have x0 := cell_of HX1.out 0
  have x1 := cell_of HX1.out 1
  have x2 := cell_of HX1.out 2
  have x3 := cell_of HX1.out 3
  have x4 := cell_of HX1.out 4
  have x5 := cell_of HX1.out 5
  simp only [List.getElem?_toArray, List.getElem?_cons_succ, List.getElem?_cons_zero] at x0 x1 x2 x3 x4 x5
  go_wp2_with fail
  refine ((to_all h).1 x _ _ ((reads_later HB1.out h).1 _ _ HR.out) HWT.out).mono ?_
  rintro e w2 ⟨cs2, rfl, hl2, hrd2, hb, -⟩
  obtain ⟨p1, g1, p2, g2, p3, g3, rfl⟩ := ex_form hrd2
  have HRD2 := hide hrd2
  have HB2 := hide (HB1.out.trans (hb.mono HB1.out.size))
  have HX2 := hide ((hb.block w.heap.size (heap_lt HX1.out)).trans HX1.out)
  clear hl2 hrd2 hb x0 x1 x2 x3 x4 x5
  go_wp2_with fail
  have hcw := (cnt_wts h).1 _ _ HRD2.out
  have HCN : Hid ((cnt h).ex x ≤ 3000000) := by
    have e2 := HWT.out
    exact (by omega : (cnt h).ex x ≤ 3000000)
  clear hcw
  refine ((z_all h).1 x _ _ ((reads_frame (K' := AllK) (Stays.refl _ _) (fun _ _ => trivial) h).1 _ _ HRD2.out) (by have e3 := HCN.out; omega)).mono ?_
  rintro e w3 ⟨rfl, hb⟩
  have HB3 := hide (HB2.out.trans (hb.mono HB2.out.size))
  have HX3 := hide ((hb.block w.heap.size (heap_lt HX2.out)).trans HX2.out)
  clear hb
  generalize hbo : (((cnt h).ex x : Nat) : Int) = bo
  have HBO := hide hbo
  clear hbo
  have x0 := cell_of HX3.out 0
  have x1 := cell_of HX3.out 1
  have x2 := cell_of HX3.out 2
  have x3 := cell_of HX3.out 3
  have x4 := cell_of HX3.out 4
  have x5 := cell_of HX3.out 5
  simp only [List.getElem?_toArray, List.getElem?_cons_succ, List.getElem?_cons_zero] at x0 x1 x2 x3 x4 x5
  go_wp2_with fail
  refine ((to_all h).1 x _ _ ((reads_later HB3.out h).1 _ _ HR.out) HWT.out).mono ?_
  rintro e w4 ⟨cs4, rfl, hl4, hrd4, hb, hpl4⟩
  obtain ⟨s1, t1, s2, t2, s3, t3, rfl⟩ := ex_form hrd4
  have HRD4 := hide ((reads_frame (K' := AllK) (Stays.refl _ _) (fun _ _ => trivial) h).1 _ _ hrd4)
  have HB4 := hide (HB3.out.trans (hb.mono HB3.out.size))
  have HX4 := hide ((hb.block w.heap.size (heap_lt HX3.out)).trans HX3.out)
  have HPL4 := hide (hpl4.alloc #[.int .i64 x.k, .string x.s, .int .i64 x.n, .slice s1 x.l.length t1, .slice s2 x.ds.length t2, .slice s3 x.al.length t3] 43)
  have HRF4 := hide hrd4
  have hz34 := hb.size
  clear hl4 hrd4 hb hpl4 x0 x1 x2 x3 x4 x5
  have HA4 : Hid (Below w4.heap.size w4 (w4.alloc (.cells #[.int .i64 x.k, .string x.s, .int .i64 x.n, .slice s1 x.l.length t1, .slice s2 x.ds.length t2, .slice s3 x.al.length t3] 43))) := (Below.refl _ w4).alloc (Nat.le_refl _) _
  have HY4 : Hid ((w4.alloc (.cells #[.int .i64 x.k, .string x.s, .int .i64 x.n, .slice s1 x.l.length t1, .slice s2 x.ds.length t2, .slice s3 x.al.length t3] 43)).heap[w4.heap.size]? = some (.cells #[.int .i64 x.k, .string x.s, .int .i64 x.n, .slice s1 x.l.length t1, .slice s2 x.ds.length t2, .slice s3 x.al.length t3] 43 (0, 0))) := heap_alloc_new w4 _
  have HRD5 := hide ((reads_later HA4.out h).1 _ _ HRD4.out)
  go_wp2_with fail
  have hcall := implSize_any (B := w3.heap.size) (by simp; omega) HPL4.out ((reads_later HA4.out h).1 _ _ HRF4.out) HCN.out
  rw [HBO.out] at hcall
  refine hcall.mono ?_
  clear hcall
  rintro e w6 ⟨rfl, hb⟩
  have HB5 := hide (HB4.out.trans (HA4.out.mono HB4.out.size))
  have HB6 := hide (HB5.out.trans (hb.mono HB5.out.size))
  have HX6 := hide ((hb.block w.heap.size (Nat.lt_of_lt_of_le (heap_lt HX4.out) HA4.out.size)).trans ((HA4.out.block w.heap.size (heap_lt HX4.out)).trans HX4.out))
  have HY6 := hide ((hb.block w4.heap.size (heap_lt HY4.out)).trans HY4.out)
  have HRD6 := hide ((reads_later hb h).1 _ _ HRD5.out)
  have HRA6 := hide ((reads_later HB6.out h).1 _ _ HR.out)
  clear hb
  have x0 := cell_of HX6.out 0
  have x1 := cell_of HX6.out 1
  have x2 := cell_of HX6.out 2
  have x3 := cell_of HX6.out 3
  have x4 := cell_of HX6.out 4
  have x5 := cell_of HX6.out 5
  have y0 := cell_of HY6.out 0
  have y1 := cell_of HY6.out 1
  have y2 := cell_of HY6.out 2
  have y3 := cell_of HY6.out 3
  have y4 := cell_of HY6.out 4
  have y5 := cell_of HY6.out 5
  simp only [List.getElem?_toArray, List.getElem?_cons_succ, List.getElem?_cons_zero] at x0 x1 x2 x3 x4 x5 y0 y1 y2 y3 y4 y5
  have hy6 : w4.heap.size < w6.heap.size := heap_lt HY6.out
  have hbn : (bo != bo) = false := by simp
  iterate 1
    go_wp2_with fail
    go_region_with (first
      | (go_at_call 13; refine ((to_all h).1 x [.int .i64 x.k, .string x.s, .int .i64 x.n, .slice o1 x.l.length c1, .slice o2 x.ds.length c2, .slice o3 x.al.length c3] _ ((reads_later (Below.refl _ _).drew h).1 _ _ HRA6.out) HWT.out).mono ?_; rintro e w8 ⟨cs8, rfl, hl8, hrd8, hb8, -⟩; obtain ⟨d1, f1, d2, f2, d3, f3, rfl⟩ := ex_form hrd8; have HRD8 := hide ((reads_frame (K' := AllK) (Stays.refl _ _) (fun _ _ => trivial) h).1 _ _ hrd8); have HRX8 := hide ((reads_later ((Below.refl _ _).drew.trans hb8) h).1 _ _ HRD6.out); have HB8 := hide hb8; have z0 := (hb8.cell (p := ⟨w4.heap.size, 0, none⟩) hy6).trans y0; have z1 := (hb8.cell (p := ⟨w4.heap.size, 1, none⟩) hy6).trans y1; have z2 := (hb8.cell (p := ⟨w4.heap.size, 2, none⟩) hy6).trans y2; have z3 := (hb8.cell (p := ⟨w4.heap.size, 3, none⟩) hy6).trans y3; have z4 := (hb8.cell (p := ⟨w4.heap.size, 4, none⟩) hy6).trans y4; have z5 := (hb8.cell (p := ⟨w4.heap.size, 5, none⟩) hy6).trans y5; clear hl8 hrd8 hb8)
      | (go_at_call 15; refine ((eq_all h).1 x _ _ _ HRX8.out HRD8.out).mono ?_; rintro e w9 ⟨rfl, hb9⟩; have HB9 := hide hb9; clear hb9))
    all_goals
      go_wp2
      go_ret
      exact ⟨rfl, HB6.out.trans ((((Below.refl _ _).drew.trans HB8.out).trans (HB9.out.mono (((Below.refl _ _).drew.trans HB8.out).size))).mono HB6.out.size)⟩

set_option maxRecDepth 100000 in
theorem lifted (os : Os) (started : os.Started) (H : Type) (enc : TypeId × Value → H) :
    ReturnsInHanded {} Try.checked os 4 .any (Rows.fnExactSizeSpec.pre6 enc Try.prog Try.f4 Rows.fnExactSizeRow.domain false) (Rows.fnExactSizeSpec.post enc Try.prog Try.f4 false true false false) := by
  refine returnsInHanded_of_change (C := Try.checked) own started (by kernel_rfl) Try.func4
    (ChangeSpec.witness6 (enc := enc) (C := Try.checked) false ⟨#[], #[.agg #[.int .i64 0, .string ⟨#[]⟩, .int .i64 0, .slice none 0 0, .slice none 0 0, .slice none 0 0]], []⟩ 8 (by kernel_rfl) (by kernel_rfl) (by kernel_rfl) (by kernel_rfl)) ?_
  intro W base args ds gs before hval0 hW hcnd _
  have hW' := hW
  obtain ⟨p, q, hA0, hV, rfl, hfz, hnd⟩ := hW
  have hA : DataW.TrodAll enc Try.prog W 0 (fun _ => true) true Try.f4.params.toList args.toList ds p := hA0
  rw [Try.params4] at hA
  obtain ⟨v0, vs0, d0, ds0, p0, q0, hargs, rfl, rfl, h0, r0⟩ := trodAll_cons hA
  obtain ⟨rfl, rfl, rfl⟩ := trodAll_nil r0
  obtain rfl : args = #[v0] := by cases args; simp_all
  obtain ⟨rfl, rfl⟩ := trodVars_none hV
  have k0 := h0
  have lt0 : ∀ x ∈ p0, x.block < W.heap.size := by obtain ⟨m, hm⟩ := k0; exact DataW.trod_lt m _ _ _ hm
  have hval : ∀ (j : Nat) t v, Try.f4.params[j]? = some t → #[v0][j]? = some v → Value.okWide Try.prog W .any base t v := hval0
  rw [Try.params4] at hval
  obtain ⟨cs, rfl, -⟩ := okWide_struct Try.underlying37 (hval 0 37 v0 rfl rfl)
  obtain ⟨fuel, hf⟩ := h0
  have hf2 : DataW.trod enc Try.prog W 0 (fun _ => true) true fuel 37 cs.toList = some (d0, p0) := by simpa [Value.cells] using hf
  obtain ⟨x, hx⟩ := (open_tree fuel).1 fuel (Nat.le_refl _) _ _ hf2
  have hwalk := walk x cs.toList W hx
  rw [Array.toArray_toList] at hwalk
  clear hA0 hval0
  refine hwalk.mono fun e W' ⟨he, bel⟩ => ?_
  subst he
  exact ⟨_, rfl, _, _, _, [], _, [], hW', trodAll_mk1 (shut_bool Try.underlying4 _), (trodAll_cons_mk (Below.trod laidOut (by kernel_rfl) (of_decide_eq_true (by kernel_rfl)) k0 bel lt0) trodAll_mk0), rfl, bel.frame _, fun h => by cases h⟩

theorem over : Rows.fnExactSizeRow.holds Try.pinned (OpenSpec.ofChange Rows.fnExactSizeSpec) :=
  OpenClaim.holds_of_wide 4 Try.f4 rfl rfl rfl rfl rfl rfl rfl ⟨rfl, rfl, rfl, rfl, rfl⟩ rfl rfl rfl rfl rfl (by kernel_rfl) Try.func4 (by kernel_rfl)
    (of_decide_eq_true (by kernel_rfl)) (by unfold Func.isWrapper; first | (rw [if_pos (by decide +kernel)]; kernel_rfl) | (rw [if_neg (by decide +kernel)]; exact ⟨rfl, rfl⟩))
    (fun os started H enc _ => lifted os started H enc)
end Go.Proofs.Ytegcebeaelpjhaj.fnExactSize
namespace Go.Proofs.Ytegcebeaelpjhaj
theorem fnExactSize_proved : Rows.FnExactSizeSaid := fnExactSize.over
end Go.Proofs.Ytegcebeaelpjhaj

/- For every program, of whatever parts, the law on ScopeOk returns true: the program's ScopeOk answers as the model's, and the argument reads as it did. No condition. -/
import Derived.Test.YtlaeenfeajkcfalGreatSU
namespace Go.Proofs.YtlaeenfeajkcfalGreat.fnExactScopeOk
open Go.ChangeShapes Go.WideShapes Go.ChangeAt Go.RowKit Go.Proofs.YtlaeenfeajkcfalGreat.Nm Go.Proofs.YtlaeenfeajkcfalGreat.Fr
set_option linter.unusedVariables false

theorem own : ownKnob Tryz.prog.godebug = none := by kernel_rfl
theorem laidOut : laidOutB Tryz.prog = true := by kernel_rfl

set_option maxHeartbeats 1000000 in
set_option maxRecDepth 100000 in
theorem walk {h : Nat} (x : Tr) (cs : List Value) (w : World) (hr : prR AllK w h x cs) :
    Calls Tryz.prog 3 #[.agg cs.toArray] w fun e w' => e = .returned (.bool true) ∧ Below w.heap.size w w' := by
  obtain ⟨o1, c1, o2, c2, rfl⟩ := pr_form hr
  have HR := hide hr
  clear hr
  have HB0 : Hid (Below w.heap.size w (w.alloc (.cells #[.slice o1 x.l.length c1, .slice o2 x.ds.length c2] 25))) := (Below.refl _ w).alloc (Nat.le_refl _) _
  have HX0 : Hid ((w.alloc (.cells #[.slice o1 x.l.length c1, .slice o2 x.ds.length c2] 25)).heap[w.heap.size]? = some (.cells #[.slice o1 x.l.length c1, .slice o2 x.ds.length c2] 25 (0, 0))) := heap_alloc_new w _
  go_enter Tryz.func3, Tryz.ntmps3
  go_wp2_with fail
  refine (szProg_all AllK h x _ _ 1048576 (by omega) (by omega) (prR_later HB0.out h _ _ HR.out)).mono ?_
  rintro e w1 ⟨r, rfl, hr1, hr2, hb⟩
  have HW := hide hr2
  have HB1 := hide (HB0.out.trans (hb.mono HB0.out.size))
  have HX1 := hide ((hb.block w.heap.size (heap_lt HX0.out)).trans HX0.out)
  clear hr2 hb
  by_cases hr0 : r < 0
  · go_wp2
    go_ret
    exact ⟨rfl, HB1.out⟩
  have HWT : Hid (wpr h x ≤ 1048576) := by
    have h2 := HW.out (by omega)
    exact (by omega : wpr h x ≤ 1048576)
  have HN : Hid ((consL x.l).length ≤ 1048576) := by
    have h1 := cons_wt h x.l
    have h2 := HWT.out
    unfold wpr lw at h2
    exact (by omega : (consL x.l).length ≤ 1048576)
  obtain ⟨hnm, hwg, hdl⟩ := pr_sizes HR.out HWT.out
  have hxl : x.l.length ≤ 10000000 := by
    have h2 := HWT.out
    unfold wpr lw at h2
    omega
  have HXL := hide hxl
  have HNM := hide hnm
  have HWG := hide hwg
  have HDL := hide hdl
  clear hnm hwg hdl hxl
  obtain ⟨bo, hbo⟩ := scope_is h x
  have HSB := hide hbo
  clear hbo
  have x0 := cell_of HX1.out 0
  have x1 := cell_of HX1.out 1
  simp only [List.getElem?_toArray, List.getElem?_cons_succ, List.getElem?_cons_zero] at x0 x1
  go_wp2_with fail
  refine (toProg_all h x _ _ (prR_later HB1.out h _ _ HR.out) HWT.out).mono ?_
  rintro e w2 ⟨cs2, rfl, hl2, hrd2, hb, -⟩
  obtain ⟨p1, g1, p2, g2, rfl⟩ := pr_form hrd2
  have HRD2 := hide hrd2
  have HB2 := hide (HB1.out.trans (hb.mono HB1.out.size))
  have HX2 := hide ((hb.block w.heap.size (heap_lt HX1.out)).trans HX1.out)
  clear hl2 hrd2 hb x0 x1
  go_wp2_with fail
  refine (specScope_pr HSB.out HRD2.out HN.out HNM.out HDL.out).mono ?_
  rintro e w3 ⟨rfl, hb⟩
  have HB3 := hide (HB2.out.trans (hb.mono HB2.out.size))
  have HX3 := hide ((hb.block w.heap.size (heap_lt HX2.out)).trans HX2.out)
  clear hb
  have x0 := cell_of HX3.out 0
  have x1 := cell_of HX3.out 1
  simp only [List.getElem?_toArray, List.getElem?_cons_succ, List.getElem?_cons_zero] at x0 x1
  go_wp2_with fail
  refine (toProg_all h x _ _ (prR_later HB3.out h _ _ HR.out) HWT.out).mono ?_
  rintro e w4 ⟨cs4, rfl, hl4, hrd4, hb, hpl4⟩
  obtain ⟨s1, t1, s2, t2, rfl⟩ := pr_form hrd4
  have HRI4 := hide (Fr.prR_in w4 h _ _ hrd4)
  have HPL4 := hide hpl4
  clear hpl4
  have HRD4 := hide (prR_frame (K' := AllK) (Stays.refl _ _) (fun _ _ => trivial) h _ _ hrd4)
  have HB4 := hide (HB3.out.trans (hb.mono HB3.out.size))
  have HX4 := hide ((hb.block w.heap.size (heap_lt HX3.out)).trans HX3.out)
  clear hl4 hrd4 hb x0 x1
  have HA4 : Hid (Below w4.heap.size w4 (w4.alloc (.cells #[.slice s1 x.l.length t1, .slice s2 x.ds.length t2] 31))) := (Below.refl _ w4).alloc (Nat.le_refl _) _
  have HY4 : Hid ((w4.alloc (.cells #[.slice s1 x.l.length t1, .slice s2 x.ds.length t2] 31)).heap[w4.heap.size]? = some (.cells #[.slice s1 x.l.length t1, .slice s2 x.ds.length t2] 31 (0, 0))) := heap_alloc_new w4 _
  have HRD5 := hide (prR_later HA4.out h _ _ HRD4.out)
  go_wp2_with fail
  have hcall := implScope_pr HSB.out (prR_later HA4.out h _ _ HRI4.out) (fun b hb => by
    obtain ⟨c, e, h9⟩ := HPL4.out b hb.1 hb.2
    exact ⟨Nat.lt_of_lt_of_le hb.2 HA4.out.size, c, e, (HA4.out.block b hb.2).trans h9⟩) HN.out HWG.out HDL.out HXL.out
  refine hcall.mono ?_
  clear hcall
  rintro e w6 ⟨rfl, hb⟩
  have HB5 := hide (HB4.out.trans (HA4.out.mono HB4.out.size))
  have HB6 := hide (HB5.out.trans (hb.mono HB5.out.size))
  have HX6 := hide ((hb.block w.heap.size (Nat.lt_of_lt_of_le (heap_lt HX4.out) HA4.out.size)).trans ((HA4.out.block w.heap.size (heap_lt HX4.out)).trans HX4.out))
  have HY6 := hide ((hb.block w4.heap.size (heap_lt HY4.out)).trans HY4.out)
  have HRD6 := hide (prR_later hb h _ _ HRD5.out)
  have HRA6 := hide (prR_later HB6.out h _ _ HR.out)
  clear hb
  have x0 := cell_of HX6.out 0
  have x1 := cell_of HX6.out 1
  have y0 := cell_of HY6.out 0
  have y1 := cell_of HY6.out 1
  simp only [List.getElem?_toArray, List.getElem?_cons_succ, List.getElem?_cons_zero] at x0 x1 y0 y1
  have hy6 : w4.heap.size < w6.heap.size := heap_lt HY6.out
  cases bo
  all_goals
    go_wp2_with fail
    go_region_with (first
      | (go_at_call 6; refine (toProg_all h x [.slice o1 x.l.length c1, .slice o2 x.ds.length c2] _ (prR_later (Below.refl _ _).drew h _ _ HRA6.out) HWT.out).mono ?_; rintro e w8 ⟨cs8, rfl, hl8, hrd8, hb8, -⟩; obtain ⟨d1, f1, d2, f2, rfl⟩ := pr_form hrd8; have HRD8 := hide (prR_frame (K' := AllK) (Stays.refl _ _) (fun _ _ => trivial) h _ _ hrd8); have HRX8 := hide (prR_later ((Below.refl _ _).drew.trans hb8) h _ _ HRD6.out); have HB8 := hide hb8; have z0 := (hb8.cell (p := ⟨w4.heap.size, 0, none⟩) hy6).trans y0; have z1 := (hb8.cell (p := ⟨w4.heap.size, 1, none⟩) hy6).trans y1; clear hl8 hrd8 hb8)
      | (go_at_call 8; refine (eqProg_all h x _ _ _ HRX8.out HRD8.out).mono ?_; rintro e w9 ⟨rfl, hb9⟩; have HB9 := hide hb9; clear hb9))
    all_goals
      go_wp2
      go_ret
      exact ⟨rfl, HB6.out.trans ((((Below.refl _ _).drew.trans HB8.out).trans (HB9.out.mono (((Below.refl _ _).drew.trans HB8.out).size))).mono HB6.out.size)⟩

set_option maxRecDepth 100000 in
theorem lifted (os : Os) (started : os.Started) (H : Type) (enc : TypeId × Value → H) :
    ReturnsInHanded {} Tryz.checked os 3 .any (Rows.fnExactScopeOkSpec.pre6 enc Tryz.prog Tryz.f3 Rows.fnExactScopeOkRow.domain false) (Rows.fnExactScopeOkSpec.post enc Tryz.prog Tryz.f3 false true false false) := by
  refine returnsInHanded_of_change (C := Tryz.checked) own started (by kernel_rfl) Tryz.func3
    (ChangeSpec.witness6 (enc := enc) (C := Tryz.checked) false ⟨#[], #[.agg #[.slice none 0 0, .slice none 0 0]], []⟩ 8 (by kernel_rfl) (by kernel_rfl) (by kernel_rfl) (by kernel_rfl)) ?_
  intro W base args ds gs before hval0 hW hcnd _
  have hW' := hW
  obtain ⟨p, q, hA0, hV, rfl, hfz, hnd⟩ := hW
  have hA : DataW.TrodAll enc Tryz.prog W 0 (fun _ => true) true Tryz.f3.params.toList args.toList ds p := hA0
  rw [Tryz.params3] at hA
  obtain ⟨v0, vs0, d0, ds0, p0, q0, hargs, rfl, rfl, h0, r0⟩ := trodAll_cons hA
  obtain ⟨rfl, rfl, rfl⟩ := trodAll_nil r0
  obtain rfl : args = #[v0] := by cases args; simp_all
  obtain ⟨rfl, rfl⟩ := trodVars_none hV
  have k0 := h0
  have lt0 : ∀ x ∈ p0, x.block < W.heap.size := by obtain ⟨m, hm⟩ := k0; exact DataW.trod_lt m _ _ _ hm
  have hval : ∀ (j : Nat) t v, Tryz.f3.params[j]? = some t → #[v0][j]? = some v → Value.okWide Tryz.prog W .any base t v := hval0
  rw [Tryz.params3] at hval
  obtain ⟨cs, rfl, -⟩ := okWide_struct Tryz.underlying25 (hval 0 25 v0 rfl rfl)
  obtain ⟨fuel, hf⟩ := h0
  have hf2 : DataW.trod enc Tryz.prog W 0 (fun _ => true) true fuel 25 cs.toList = some (d0, p0) := by simpa [Value.cells] using hf
  obtain ⟨x, hx⟩ := open_pr fuel fuel (Nat.le_refl _) _ _ hf2
  have hwalk := walk x cs.toList W hx
  rw [Array.toArray_toList] at hwalk
  clear hA0 hval0
  refine hwalk.mono fun e W' ⟨he, bel⟩ => ?_
  subst he
  exact ⟨_, rfl, _, _, _, [], _, [], hW', trodAll_mk1 (shut_bool Tryz.underlying4 _), (trodAll_cons_mk (Below.trod laidOut (by kernel_rfl) (of_decide_eq_true (by kernel_rfl)) k0 bel lt0) trodAll_mk0), rfl, bel.frame _, fun h => by cases h⟩

theorem over : Rows.fnExactScopeOkRow.holds Tryz.pinned (OpenSpec.ofChange Rows.fnExactScopeOkSpec) :=
  OpenClaim.holds_of_wide 3 Tryz.f3 rfl rfl rfl rfl rfl rfl rfl ⟨rfl, rfl, rfl, rfl, rfl⟩ rfl rfl rfl rfl rfl (by kernel_rfl) Tryz.func3 (by kernel_rfl)
    (of_decide_eq_true (by kernel_rfl)) (by unfold Func.isWrapper; first | (rw [if_pos (by decide +kernel)]; kernel_rfl) | (rw [if_neg (by decide +kernel)]; exact ⟨rfl, rfl⟩))
    (fun os started H enc _ => lifted os started H enc)
end Go.Proofs.YtlaeenfeajkcfalGreat.fnExactScopeOk
namespace Go.Proofs.YtlaeenfeajkcfalGreat
theorem fnExactScopeOk_proved : Rows.FnExactScopeOkSaid := fnExactScopeOk.over
end Go.Proofs.YtlaeenfeajkcfalGreat

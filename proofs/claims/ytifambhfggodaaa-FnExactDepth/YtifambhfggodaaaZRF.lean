/- The law on Depth, walked. -/
import Derived.Test.YtifambhfggodaaaZRE
import Derived.Test.YtifambhfggodaaaMA
import Derived.Deep.DeepCutAuto
import Derived.Deep.CutBlock
namespace Go.Proofs.Ytifambhfggodaaa.Rs
open Go.ChangeShapes Go.WideShapes Go.ChangeAt Go.RowKit
set_option linter.unusedVariables false

set_option maxHeartbeats 4000000 in
set_option maxRecDepth 100000 in
theorem walk_FnExactDepth {h : Nat} (x : Tr) (z : Int) (cs : List Value) (w : World) (hr : tyR AllK w h x cs)
    (hsp : wty h x ≤ 1048576 → ∀ cs w, tyR AllK w h x cs → Calls Try.prog 5 #[.agg cs.toArray] w fun e w' => e = .returned (.int .i64 z) ∧ Below w.heap.size w w')
    (him : wty h x ≤ 1048576 → ∀ (K : Nat → Prop) cs w, tyR K w h x cs → (∀ b, K b → b < w.heap.size ∧ PlainAt w ⟨b, 0, none⟩) → Calls Try.prog 7 #[.agg cs.toArray] w fun e w' => e = .returned (.int .i64 z) ∧ Below w.heap.size w w') :
    Calls Try.prog 3 #[.agg cs.toArray] w fun e w' => e = .returned (.bool true) ∧ Below w.heap.size w w' := by
  obtain ⟨ao1, ac1, rfl⟩ := ty_form hr
  have HR := hide hr
  have HSP0 := hide hsp
  have HIM0 := hide him
  clear hr hsp him
  have HB0 : Hid (Below w.heap.size w (w.alloc (.cells #[.int .i64 x.k, .string x.s, .int .i64 x.n, .slice ao1 x.l.length ac1] 24))) := (Below.refl _ w).alloc (Nat.le_refl _) _
  have HX0 : Hid ((w.alloc (.cells #[.int .i64 x.k, .string x.s, .int .i64 x.n, .slice ao1 x.l.length ac1] 24)).heap[w.heap.size]? = some (.cells #[.int .i64 x.k, .string x.s, .int .i64 x.n, .slice ao1 x.l.length ac1] 24 (0, 0))) := heap_alloc_new w _
  go_enter Try.func3, Try.ntmps3
  go_wp2_with fail
  refine (szTy_all AllK h x _ _ 1048576 (by omega) (by omega) (tyR_later HB0.out h _ _ HR.out)).mono ?_
  rintro e w1 ⟨r, rfl, hr1, hr2, hb⟩
  have HWZ := hide hr2
  have HB1 := hide (HB0.out.trans (hb.mono HB0.out.size))
  have HX1 := hide ((hb.block w.heap.size (heap_lt HX0.out)).trans HX0.out)
  clear hr2 hb
  by_cases hr0 : r < 0
  · go_wp2
    go_ret
    exact ⟨rfl, HB1.out⟩
  have HWT : Hid (wty h x ≤ 1048576) := by
    have h2 := HWZ.out (by omega)
    exact (by omega : wty h x ≤ 1048576)
  have HSP := hide (HSP0.out HWT.out)
  have HIM := hide (HIM0.out HWT.out)
  clear HSP0 HIM0 HWZ
  obtain ⟨x0, x1, x2, x3⟩ := bx4 HX1.out
  go_wp2_with fail
  refine (toTy_all h x _ _ (tyR_later HB1.out h _ _ HR.out) HWT.out).mono ?_
  rintro e w2 ⟨cs2, rfl, hl2, hrd2, hb, -⟩
  have HRD2 := hide (tyR_frame (K' := AllK) (Stays.refl _ _) (fun _ _ => trivial) h _ _ hrd2)
  obtain ⟨bbo1, bbc1, rfl⟩ := ty_form hrd2
  have HB2 := hide (HB1.out.trans (hb.mono HB1.out.size))
  have HX2 := hide ((hb.block w.heap.size (heap_lt HX1.out)).trans HX1.out)
  clear hl2 hrd2 hb x0 x1 x2 x3
  go_wp2_with fail
  refine (HSP.out _ _ HRD2.out).mono ?_
  rintro e w3 ⟨rfl, hb⟩
  have HX3 := hide ((hb.block w.heap.size (heap_lt HX2.out)).trans HX2.out)
  have HB3 := hide (HB2.out.trans (hb.mono HB2.out.size))
  clear hb HRD2 HSP
  obtain ⟨x0, x1, x2, x3⟩ := bx4 HX3.out
  go_wp2_with fail
  refine (toTy_all h x _ _ (tyR_later HB3.out h _ _ HR.out) HWT.out).mono ?_
  rintro e w4 ⟨cs4, rfl, hl4, hrd4, hb, hpl4⟩
  have HRD4 := hide (tyR_in w4 h _ _ hrd4)
  obtain ⟨xo1, xc1, rfl⟩ := ty_form hrd4
  have HPL4 := hide hpl4
  have HB4 := hide (HB3.out.trans (hb.mono HB3.out.size))
  have HX4 := hide ((hb.block w.heap.size (heap_lt HX3.out)).trans HX3.out)
  clear hl4 hrd4 hb hpl4 x0 x1 x2 x3
  obtain ⟨V, hV⟩ : ∃ V, w4.alloc (.cells #[.int .i64 x.k, .string x.s, .int .i64 x.n, .slice xo1 x.l.length xc1] 29) = V := ⟨_, rfl⟩
  have hb5 : Below w4.heap.size w4 V := by rw [← hV]; exact (Below.refl _ w4).alloc (Nat.le_refl _) _
  have HY5 : Hid (V.heap[w4.heap.size]? = some (.cells #[.int .i64 x.k, .string x.s, .int .i64 x.n, .slice xo1 x.l.length xc1] 29 (0, 0))) := by rw [← hV]; exact heap_alloc_new w4 _
  have hsV : w4.heap.size < V.heap.size := heap_lt HY5.out
  have HRD5 := hide (tyR_later hb5 h _ _ HRD4.out)
  have HPV : Hid (∀ b, (FromK w3.heap.size b ∧ b < w4.heap.size) → b < V.heap.size ∧ PlainAt V ⟨b, 0, none⟩) := fun b hb => by
    obtain ⟨c, e, h9⟩ := HPL4.out b hb.1 hb.2
    exact ⟨by have := hb.2; omega, c, e, (hb5.block b hb.2).trans h9⟩
  have HB5 := hide (HB4.out.trans (hb5.mono HB4.out.size))
  have HX5 := hide ((hb5.block w.heap.size (heap_lt HX4.out)).trans HX4.out)
  clear hb5 HRD4 HPL4
  obtain ⟨y0, y1, y2, y3⟩ := bx4 HY5.out
  go_wp2_with fail
  refine (HIM.out _ _ _ HRD5.out HPV.out).mono ?_
  rintro e w7 ⟨rfl, hb⟩
  have HX7 := hide ((hb.block w.heap.size (heap_lt HX5.out)).trans HX5.out)
  have HY7 := hide ((hb.block w4.heap.size hsV).trans HY5.out)
  have HRD7a : Hid (tyR AllK w7 h x [.int .i64 x.k, .string x.s, .int .i64 x.n, .slice xo1 x.l.length xc1]) := tyR_frame (K' := AllK) (Stays.refl _ _) (fun _ _ => trivial) h _ _ (tyR_later hb h _ _ HRD5.out)
  have HB7 := hide (HB5.out.trans (hb.mono HB5.out.size))
  clear hV hb y0 y1 y2 y3 HPV HRD5 HIM
  have hzz : (z != z) = false := by simp
  obtain ⟨x0, x1, x2, x3⟩ := bx4 HX7.out
  obtain ⟨y0, y1, y2, y3⟩ := bx4 HY7.out
  have hy7 : w4.heap.size < w7.heap.size := heap_lt HY7.out
  have HRA7 := hide (tyR_later (HB7.out.trans ((Below.refl _ w7).drew.mono HB7.out.size)) h _ _ HR.out)
  have HTO := hide (toTy_all h x [.int .i64 x.k, .string x.s, .int .i64 x.n, .slice ao1 x.l.length ac1] w7.drew HRA7.out HWT.out)
  go_upto_region 10 with fail
  go_cut [26] (fun v W => v = .bool false ∧ Below w7.heap.size w7 W)
  case first =>
    go_region_with (first
      | (go_at_call 6; (with_reducible refine Calls.mono HTO.out ?_); rintro e w8 ⟨cs8, rfl, hl8, hrd8, hb8, -⟩; obtain ⟨ddo1, ddc1, rfl⟩ := ty_form hrd8; have HB8 : Hid (Below w7.heap.size w7 w8) := (Below.refl _ w7).drew.trans hb8; have HRD8 := hide (tyR_frame (K' := AllK) (Stays.refl _ _) (fun _ _ => trivial) h _ _ hrd8); have HRX8 := hide (tyR_later HB8.out h _ _ HRD7a.out); have z0 := (HB8.out.cell (p := ⟨w4.heap.size, 0, none⟩) hy7).trans y0; have z1 := (HB8.out.cell (p := ⟨w4.heap.size, 1, none⟩) hy7).trans y1; have z2 := (HB8.out.cell (p := ⟨w4.heap.size, 2, none⟩) hy7).trans y2; have z3 := (HB8.out.cell (p := ⟨w4.heap.size, 3, none⟩) hy7).trans y3; clear hl8 hrd8 hb8)
      | (go_at_call 8; refine (eqTy_all h x _ _ _ HRX8.out HRD8.out).mono ?_; rintro e w9 ⟨rfl, hb9⟩; have HB9 : Hid (Below w7.heap.size w7 w9) := HB8.out.trans (hb9.mono HB8.out.size); clear hb9))
    all_goals
      go_wp2_with fail
      go_meet
      case rel => exact ⟨rfl, HB9.out⟩
  case rest =>
    obtain ⟨rfl, hb⟩ := hcut
    generalize wc = w8 at hb ⊢
    have HB8 := hide (HB7.out.trans (hb.mono HB7.out.size))
    clear hb x0 x1 x2 x3 y0 y1 y2 y3 HTO HRA7 HRD7a
    go_wp2
    go_ret
    exact ⟨rfl, HB8.out⟩
end Go.Proofs.Ytifambhfggodaaa.Rs

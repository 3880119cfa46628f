/- The law on Bare, walked. -/
import Derived.Test.YtgeckgdmkjddpaaQ10
import Derived.Test.YtgeckgdmkjddpaaRF
import Derived.Deep.DeepCutAuto
import Derived.Deep.CutBlock
namespace Go.Proofs.Ytgeckgdmkjddpaa.Br
open Go.ChangeShapes Go.WideShapes Go.ChangeAt Go.RowKit Go.Proofs.Ytgeckgdmkjddpaa.Rd
set_option linter.unusedVariables false

set_option maxHeartbeats 4000000 in
set_option maxRecDepth 100000 in
theorem walk_FnExactBare {h : Nat} (x : Tr) (T : Tr) (cs : List Value) (w : World) (hr : (reads AllK w h).ex x cs)
    (hsp : (wts h).ex x ≤ 1048576 → ∀ cs w, (reads AllK w h).ex x cs → Calls Try.prog 6 #[.agg cs.toArray] w (ResB T w))
    (him : (wts h).ex x ≤ 1048576 → ∀ (K : Nat → Prop) cs w, (reads K w h).ex x cs → (∀ b, K b → b < w.heap.size ∧ PlainAt w ⟨b, 0, none⟩) → Calls Try.prog 8 #[.agg cs.toArray] w (ResB T w))
    (hmk : (wts h).ex x ≤ 1048576 → MarksB T) :
    Calls Try.prog 3 #[.agg cs.toArray] w fun e w' => e = .returned (.bool true) ∧ Below w.heap.size w w' := by
  obtain ⟨ao1, ac1, ao2, ac2, ao3, ac3, rfl⟩ := ex_form hr
  have HR := hide hr
  have HSP0 := hide hsp
  have HIM0 := hide him
  have HMK0 := hide hmk
  clear hr hsp him hmk
  have HB0 : Hid (Below w.heap.size w (w.alloc (.cells #[.int .i64 x.k, .string x.s, .int .i64 x.n, .slice ao1 x.l.length ac1, .slice ao2 x.ds.length ac2, .slice ao3 x.al.length ac3] 26))) := (Below.refl _ w).alloc (Nat.le_refl _) _
  have HX0 : Hid ((w.alloc (.cells #[.int .i64 x.k, .string x.s, .int .i64 x.n, .slice ao1 x.l.length ac1, .slice ao2 x.ds.length ac2, .slice ao3 x.al.length ac3] 26)).heap[w.heap.size]? = some (.cells #[.int .i64 x.k, .string x.s, .int .i64 x.n, .slice ao1 x.l.length ac1, .slice ao2 x.ds.length ac2, .slice ao3 x.al.length ac3] 26 (0, 0))) := heap_alloc_new w _
  go_enter Try.func3, Try.ntmps3
  go_wp2_with fail
  refine ((sz_all AllK h).1 x _ _ 1048576 (by omega) (by omega) ((reads_later HB0.out h).1 _ _ HR.out)).mono ?_
  rintro e w1 ⟨r, rfl, hr1, hr2, hb⟩
  have HWZ := hide hr2
  have HB1 := hide (HB0.out.trans (hb.mono HB0.out.size))
  have HX1 := hide ((hb.block w.heap.size (heap_lt HX0.out)).trans HX0.out)
  clear hr2 hb
  by_cases hr0 : r < 0
  · go_wp2
    go_ret
    exact ⟨rfl, HB1.out⟩
  have HWT : Hid ((wts h).ex x ≤ 1048576) := by
    have h2 := HWZ.out (by omega)
    exact (by omega : (wts h).ex x ≤ 1048576)
  have HSP := hide (HSP0.out HWT.out)
  have HIM := hide (HIM0.out HWT.out)
  have HMK := hide (HMK0.out HWT.out)
  clear HSP0 HIM0 HMK0 HWZ
  obtain ⟨x0, x1, x2, x3, x4, x5⟩ := (box6 HX1.out).1
  go_wp2_with fail
  refine ((to_all h).1 x _ _ ((reads_later HB1.out h).1 _ _ HR.out) HWT.out).mono ?_
  rintro e w2 ⟨cs2, rfl, hl2, hrd2, hb, -⟩
  have HRD2 := hide ((reads_frame (K' := AllK) (Stays.refl _ _) (fun _ _ => trivial) h).1 _ _ hrd2)
  obtain ⟨bbo1, bbc1, bbo2, bbc2, bbo3, bbc3, rfl⟩ := ex_form hrd2
  have HB2 := hide (HB1.out.trans (hb.mono HB1.out.size))
  have HX2 := hide ((hb.block w.heap.size (heap_lt HX1.out)).trans HX1.out)
  clear hl2 hrd2 hb x0 x1 x2 x3 x4 x5
  go_wp2_with fail
  refine (HSP.out _ _ HRD2.out).mono ?_
  rintro e w3 ⟨cs3, H3, rfl, ht3, hb⟩
  obtain ⟨co1, cc1, co2, cc2, co3, cc3, rfl⟩ := ht3.exp
  obtain ⟨V3, hV3⟩ : ∃ V, w3.alloc (.cells #[.int .i64 T.k, .string T.s, .int .i64 T.n, .slice co1 T.l.length cc1, .slice co2 T.ds.length cc2, .slice co3 T.al.length cc3] 32) = V := ⟨_, rfl⟩
  have hbV : Below w3.heap.size w3 V3 := by rw [← hV3]; exact (Below.refl _ w3).alloc (Nat.le_refl _) _
  have hb3 := hb.trans (hbV.mono hb.size)
  have HX3 := hide ((hb3.block w.heap.size (heap_lt HX2.out)).trans HX2.out)
  have HB3 := hide (HB2.out.trans (hb3.mono HB2.out.size))
  have HW3 : Hid (V3.heap[w3.heap.size]? = some (.cells #[.int .i64 T.k, .string T.s, .int .i64 T.n, .slice co1 T.l.length cc1, .slice co2 T.ds.length cc2, .slice co3 T.al.length cc3] 32 (0, 0))) := by rw [← hV3]; exact heap_alloc_new w3 _
  have HT3 := hide (ht3.keep (w' := V3) fun b _ h2 => hbV.block b h2)
  have hz2w : w.heap.size < w2.heap.size := heap_lt HX2.out
  have hz3 := hb.size
  have hzV3 : w3.heap.size < V3.heap.size := heap_lt HW3.out
  clear ht3 hb hbV hb3 HRD2 HSP
  obtain ⟨x0, x1, x2, x3, x4, x5⟩ := (box6 HX3.out).1
  go_wp2_with fail
  refine ((to_all h).1 x _ _ ((reads_later HB3.out h).1 _ _ HR.out) HWT.out).mono ?_
  rintro e w4 ⟨cs4, rfl, hl4, hrd4, hb, hpl4⟩
  have HRD4 := hide ((Nm.reads_in w4 h).1 _ _ hrd4)
  obtain ⟨xo1, xc1, xo2, xc2, xo3, xc3, rfl⟩ := ex_form hrd4
  have HPL4 := hide hpl4
  have HB4 := hide (HB3.out.trans (hb.mono HB3.out.size))
  have HX4 := hide ((hb.block w.heap.size (heap_lt HX3.out)).trans HX3.out)
  have HW4 := hide ((hb.block _ hzV3).trans HW3.out)
  have HT4 := hide (HT3.out.keep fun b _ h2 => hb.block b (by omega))
  have hz4 := hb.size
  clear hV3 hl4 hrd4 hb hpl4 x0 x1 x2 x3 x4 x5
  obtain ⟨V, hV⟩ : ∃ V, w4.alloc (.cells #[.int .i64 x.k, .string x.s, .int .i64 x.n, .slice xo1 x.l.length xc1, .slice xo2 x.ds.length xc2, .slice xo3 x.al.length xc3] 32) = V := ⟨_, rfl⟩
  have hb5 : Below w4.heap.size w4 V := by rw [← hV]; exact (Below.refl _ w4).alloc (Nat.le_refl _) _
  have HY5 : Hid (V.heap[w4.heap.size]? = some (.cells #[.int .i64 x.k, .string x.s, .int .i64 x.n, .slice xo1 x.l.length xc1, .slice xo2 x.ds.length xc2, .slice xo3 x.al.length xc3] 32 (0, 0))) := by rw [← hV]; exact heap_alloc_new w4 _
  have hsV : w4.heap.size < V.heap.size := heap_lt HY5.out
  have HRD5 := hide ((reads_later hb5 h).1 _ _ HRD4.out)
  have HPV : Hid (∀ b, (FromK V3.heap.size b ∧ b < w4.heap.size) → b < V.heap.size ∧ PlainAt V ⟨b, 0, none⟩) := fun b hb => by
    obtain ⟨c, e, h9⟩ := HPL4.out b hb.1 hb.2
    exact ⟨by have := hb.2; omega, c, e, (hb5.block b hb.2).trans h9⟩
  have HB5 := hide (HB4.out.trans (hb5.mono HB4.out.size))
  have HX5 := hide ((hb5.block w.heap.size (heap_lt HX4.out)).trans HX4.out)
  have HW5 := hide ((hb5.block w3.heap.size (by omega)).trans HW4.out)
  have HT5 := hide (HT4.out.keep fun b _ h2 => hb5.block b (by omega))
  clear hb5 HRD4 HPL4
  obtain ⟨y0, y1, y2, y3, y4, y5⟩ := (box6 HY5.out).1
  go_wp2_with fail
  refine (HIM.out _ _ _ HRD5.out HPV.out).mono ?_
  rintro e w6 ⟨cs6, H6, rfl, ht6, hb⟩
  clear hV
  obtain ⟨go1, gc1, go2, gc2, go3, gc3, rfl⟩ := ht6.exp
  obtain ⟨V6, hV6⟩ : ∃ V, w6.alloc (.cells #[.int .i64 T.k, .string T.s, .int .i64 T.n, .slice go1 T.l.length gc1, .slice go2 T.ds.length gc2, .slice go3 T.al.length gc3] 32) = V := ⟨_, rfl⟩
  have hbV : Below w6.heap.size w6 V6 := by rw [← hV6]; exact (Below.refl _ w6).alloc (Nat.le_refl _) _
  have hb6 := hb.trans (hbV.mono hb.size)
  have hz6 := hb.size
  have HG6 : Hid (V6.heap[w6.heap.size]? = some (.cells #[.int .i64 T.k, .string T.s, .int .i64 T.n, .slice go1 T.l.length gc1, .slice go2 T.ds.length gc2, .slice go3 T.al.length gc3] 32 (0, 0))) := by rw [← hV6]; exact heap_alloc_new w6 _
  have hzV6 : w6.heap.size < V6.heap.size := heap_lt HG6.out
  have HU6 := hide (ht6.keep (w' := V6) fun b _ h2 => hbV.block b h2)
  have HX6 := hide ((hb6.block w.heap.size (heap_lt HX5.out)).trans HX5.out)
  have HW6 := hide ((hb6.block w3.heap.size (by omega)).trans HW5.out)
  have HT6 := hide (HT5.out.keep fun b _ h2 => hb6.block b (by omega))
  have HY6 := hide ((hb6.block w4.heap.size hsV).trans HY5.out)
  have HRD6 := hide ((reads_later hb6 h).1 _ _ HRD5.out)
  have HB6 := hide (HB5.out.trans (hb6.mono HB5.out.size))
  have HP6 : Hid (∀ b, (FromK V3.heap.size b ∧ b < w4.heap.size) → b < V6.heap.size ∧ PlainAt V6 ⟨b, 0, none⟩) := fun b hb2 => by
    obtain ⟨h1, c, e, h2⟩ := HPV.out b hb2
    exact ⟨Nat.lt_of_lt_of_le h1 hb6.size, c, e, (hb6.block b h1).trans h2⟩
  clear ht6 hb hbV hb6 y0 y1 y2 y3 y4 y5 HPV HRD5
  obtain ⟨g0, g1, g2, g3, g4, g5⟩ := (box6 HG6.out).1
  obtain ⟨k0, k1, k2, k3, k4, k5⟩ := (box6 HW6.out).1
  have HQ6 := hide ((eq_all (H3 + H6)).1 T [.int .i64 T.k, .string T.s, .int .i64 T.n, .slice go1 T.l.length gc1, .slice go2 T.ds.length gc2, .slice go3 T.al.length gc3] [.int .i64 T.k, .string T.s, .int .i64 T.n, .slice co1 T.l.length cc1, .slice co2 T.ds.length cc2, .slice co3 T.al.length cc3] V6 ((HU6.out.up (Nat.le_refl _) (Nat.le_refl _) (Nat.le_add_left H6 H3)).reads fun _ _ _ => trivial) ((HT6.out.up (Nat.le_refl _) (Nat.le_refl _) (Nat.le_add_right H3 H6)).reads fun _ _ _ => trivial))
  go_wp2_with fail
  refine Calls.mono HQ6.out ?_
  rintro e w7 ⟨rfl, hb⟩
  clear hV6 HQ6 g0 g1 g2 g3 g4 g5 k0 k1 k2 k3 k4 k5
  have HX7 := hide ((hb.block w.heap.size (heap_lt HX6.out)).trans HX6.out)
  have HW7 := hide ((hb.block w3.heap.size (heap_lt HW6.out)).trans HW6.out)
  have HT7 := hide (HT6.out.keep fun b _ h2 => hb.block b (Nat.lt_trans h2 (heap_lt HW6.out)))
  have HG7 := hide ((hb.block w6.heap.size (heap_lt HG6.out)).trans HG6.out)
  have HU7 := hide (HU6.out.keep fun b _ h2 => hb.block b (Nat.lt_trans h2 (heap_lt HG6.out)))
  have HB7 := hide (HB6.out.trans (hb.mono HB6.out.size))
  have HY7 := hide ((hb.block w4.heap.size (heap_lt HY6.out)).trans HY6.out)
  have HRD7 := hide ((reads_later hb h).1 _ _ HRD6.out)
  have HP7 : Hid (∀ b, (FromK V3.heap.size b ∧ b < w4.heap.size) → b < w7.heap.size ∧ PlainAt w7 ⟨b, 0, none⟩) := fun b hb2 => by
    obtain ⟨h1, c, e, h2⟩ := HP6.out b hb2
    exact ⟨Nat.lt_of_lt_of_le h1 hb.size, c, e, (hb.block b h1).trans h2⟩
  have hz7 := hb.size
  clear hb
  obtain ⟨x0, x1, x2, x3, x4, x5⟩ := (box6 HX7.out).1
  obtain ⟨y0, y1, y2, y3, y4, y5⟩ := (box6 HY7.out).1
  have hy7 : w4.heap.size < w7.heap.size := heap_lt HY7.out
  have HRA7 := hide ((reads_later (HB7.out.trans ((Below.refl _ w7).drew.mono HB7.out.size)) h).1 _ _ HR.out)
  have HTO := hide ((to_all h).1 x [.int .i64 x.k, .string x.s, .int .i64 x.n, .slice ao1 x.l.length ac1, .slice ao2 x.ds.length ac2, .slice ao3 x.al.length ac3] w7.drew HRA7.out HWT.out)
  have HRD7a : Hid ((reads AllK w7 h).ex x [.int .i64 x.k, .string x.s, .int .i64 x.n, .slice xo1 x.l.length xc1, .slice xo2 x.ds.length xc2, .slice xo3 x.al.length xc3]) := (reads_frame (K' := AllK) (Stays.refl _ _) (fun _ _ => trivial) h).1 _ _ HRD7.out
  go_upto_region 10 with fail
  go_cut [31] (fun v W => v = .bool false ∧ Below w7.heap.size w7 W)
  case first =>
    go_region_with (first
      | (go_at_call 7; (with_reducible refine Calls.mono HTO.out ?_); rintro e w8 ⟨cs8, rfl, hl8, hrd8, hb8, -⟩; obtain ⟨ddo1, ddc1, ddo2, ddc2, ddo3, ddc3, rfl⟩ := ex_form hrd8; have HB8 : Hid (Below w7.heap.size w7 w8) := (Below.refl _ w7).drew.trans hb8; have HRD8 := hide ((reads_frame (K' := AllK) (Stays.refl _ _) (fun _ _ => trivial) h).1 _ _ hrd8); have HRX8 := hide ((reads_later HB8.out h).1 _ _ HRD7a.out); have z0 := (HB8.out.cell (p := ⟨w4.heap.size, 0, none⟩) hy7).trans y0; have z1 := (HB8.out.cell (p := ⟨w4.heap.size, 1, none⟩) hy7).trans y1; have z2 := (HB8.out.cell (p := ⟨w4.heap.size, 2, none⟩) hy7).trans y2; have z3 := (HB8.out.cell (p := ⟨w4.heap.size, 3, none⟩) hy7).trans y3; have z4 := (HB8.out.cell (p := ⟨w4.heap.size, 4, none⟩) hy7).trans y4; have z5 := (HB8.out.cell (p := ⟨w4.heap.size, 5, none⟩) hy7).trans y5; clear hl8 hrd8 hb8)
      | (go_at_call 9; refine ((eq_all h).1 x _ _ _ HRX8.out HRD8.out).mono ?_; rintro e w9 ⟨rfl, hb9⟩; have HB9 : Hid (Below w7.heap.size w7 w9) := HB8.out.trans (hb9.mono HB8.out.size); clear hb9))
    all_goals
      go_wp2_with fail
      go_meet
      case rel => exact ⟨rfl, HB9.out⟩
  case rest =>
    obtain ⟨rfl, hb⟩ := hcut
    generalize wc = w8 at hb ⊢
    have HX8 := hide ((hb.block w.heap.size (heap_lt HX7.out)).trans HX7.out)
    have HW8 := hide ((hb.block w3.heap.size (heap_lt HW7.out)).trans HW7.out)
    have HT8 := hide (HT7.out.keep fun b _ h2 => hb.block b (Nat.lt_trans h2 (heap_lt HW7.out)))
    have HG8 := hide ((hb.block w6.heap.size (heap_lt HG7.out)).trans HG7.out)
    have HU8 := hide (HU7.out.keep fun b _ h2 => hb.block b (Nat.lt_trans h2 (heap_lt HG7.out)))
    have HB8 := hide (HB7.out.trans (hb.mono HB7.out.size))
    have HY8 := hide ((hb.block w4.heap.size (heap_lt HY7.out)).trans HY7.out)
    have HRD8 := hide ((reads_later hb h).1 _ _ HRD7.out)
    have HP8 : Hid (∀ b, (FromK V3.heap.size b ∧ b < w4.heap.size) → b < w8.heap.size ∧ PlainAt w8 ⟨b, 0, none⟩) := fun b hb2 => by
      obtain ⟨h1, c, e, h2⟩ := HP7.out b hb2
      exact ⟨Nat.lt_of_lt_of_le h1 hb.size, c, e, (hb.block b h1).trans h2⟩
    have hz8 := hb.size
    clear hb x0 x1 x2 x3 x4 x5 y0 y1 y2 y3 y4 y5 HTO HRA7 HRD7a
    obtain ⟨y0, y1, y2, y3, y4, y5⟩ := (box6 HY8.out).1
    have HMKE := hide (Nm.markExp_any x _ w8 HRD8.out HP8.out HWT.out)
    go_wp2_with fail
    refine Calls.mono HMKE.out ?_
    rintro e w9 ⟨r9, rfl, hr9, hmk⟩
    have hk9 : ∀ b, b < w8.heap.size → (b < V3.heap.size ∨ w4.heap.size ≤ b) → w9.heap[b]? = w8.heap[b]? := fun b h1 h2 => hmk.keep.block b ⟨fun e => by have h9 : V3.heap.size ≤ b := e.1; have := e.2; omega, h1⟩
    have hz9 := hmk.keep.size
    have HB9 : Hid (Below w.heap.size w w9) := HB8.out.trans ⟨hmk.keep.os, hmk.keep.tape, hmk.keep.output, hmk.keep.size, fun b hb => hk9 b (by have := HB8.out.size; omega) (.inl (by omega))⟩
    have HX9 := hide ((hk9 w.heap.size (heap_lt HX8.out) (.inl (by omega))).trans HX8.out)
    have HW9 := hide ((hk9 w3.heap.size (heap_lt HW8.out) (.inl hzV3)).trans HW8.out)
    have HT9 := hide (HT8.out.keep fun b _ h2 => hk9 b (Nat.lt_trans h2 (heap_lt HW8.out)) (.inl (by omega)))
    have HG9 := hide ((hk9 w6.heap.size (heap_lt HG8.out) (.inr (by omega))).trans HG8.out)
    have HU9 := hide (HU8.out.keep fun b h1 h2 => hk9 b (Nat.lt_trans h2 (heap_lt HG8.out)) (.inr (by omega)))
    have hr9n : ¬ ((r9 : Int) + 1 < 0) := by omega
    clear hmk hk9 y0 y1 y2 y3 y4 y5 HMKE
    obtain ⟨g0, g1, g2, g3, g4, g5⟩ := (box6 HG9.out).1
    obtain ⟨k0, k1, k2, k3, k4, k5⟩ := (box6 HW9.out).1
    have HQ9 := hide ((eq_all (H3 + H6)).1 T [.int .i64 T.k, .string T.s, .int .i64 T.n, .slice go1 T.l.length gc1, .slice go2 T.ds.length gc2, .slice go3 T.al.length gc3] [.int .i64 T.k, .string T.s, .int .i64 T.n, .slice co1 T.l.length cc1, .slice co2 T.ds.length cc2, .slice co3 T.al.length cc3] w9 ((HU9.out.up (Nat.le_refl _) (Nat.le_refl _) (Nat.le_add_left H6 H3)).reads fun _ _ _ => trivial) ((HT9.out.up (Nat.le_refl _) (Nat.le_refl _) (Nat.le_add_right H3 H6)).reads fun _ _ _ => trivial))
    go_wp2_with fail
    refine Calls.mono HQ9.out ?_
    rintro e wA ⟨rfl, hb⟩
    clear HQ9 g0 g1 g2 g3 g4 g5 k0 k1 k2 k3 k4 k5
    have HXA := hide ((hb.block w.heap.size (heap_lt HX9.out)).trans HX9.out)
    have HWA := hide ((hb.block w3.heap.size (heap_lt HW9.out)).trans HW9.out)
    have HTA := hide (HT9.out.keep fun b _ h2 => hb.block b (Nat.lt_trans h2 (heap_lt HW9.out)))
    have HGA := hide ((hb.block w6.heap.size (heap_lt HG9.out)).trans HG9.out)
    have HUA := hide (HU9.out.keep fun b _ h2 => hb.block b (Nat.lt_trans h2 (heap_lt HG9.out)))
    have HBA := hide (HB9.out.trans (hb.mono HB9.out.size))
    have hzA := hb.size
    clear hb
    obtain ⟨g0, g1, g2, g3, g4, g5⟩ := (box6 HGA.out).1
    obtain ⟨S, Hold, hS, hm, hh, hsame⟩ := HMK.out wA _ _ _ _ HUA.out (Nat.le_of_lt (heap_lt HGA.out))
    have HS := hide hS
    have HM := hide hm
    have HH := hide hh
    have HSA := hide hsame
    clear hS hm hh hsame
    go_wp2_with fail
    refine Calls.mono HM.out ?_
    rintro e wB ⟨m, rfl, hm, hold, hk⟩
    have HOB := hide hold
    have hkB : ∀ b, b < wA.heap.size → (b < V.heap.size ∨ w6.heap.size ≤ b) → wB.heap[b]? = wA.heap[b]? := fun b h1 h2 => hk.block b ⟨h1, fun hs => by have := HS.out b hs; omega⟩
    have hzB := hk.size
    have HBB : Hid (Below w.heap.size w wB) := HBA.out.trans ⟨hk.os, hk.tape, hk.output, hk.size, fun b hb => hkB b (by have := HBA.out.size; omega) (.inl (by omega))⟩
    have HXB := hide ((hkB w.heap.size (heap_lt HXA.out) (.inl (by omega))).trans HXA.out)
    have HWB := hide ((hkB w3.heap.size (heap_lt HWA.out) (.inl (by omega))).trans HWA.out)
    have HTB := hide (HTA.out.keep fun b _ h2 => hkB b (Nat.lt_trans h2 (heap_lt HWA.out)) (.inl (by omega)))
    have HGB := hide ((hkB w6.heap.size (heap_lt HGA.out) (.inr (Nat.le_refl _))).trans HGA.out)
    clear hold hk hkB HM g0 g1 g2 g3 g4 g5
    obtain ⟨g0, g1, g2, g3, g4, g5⟩ := (box6 HGB.out).1
    have HCB := hide (HH.out m wB HOB.out (fun z hz => Nat.lt_trans (HS.out z hz).2 (heap_lt HGB.out)) hm)
    have hm0 : ¬ ((m : Int) + 1 < 0) := by omega
    have hmm : ((m : Int) + 1 != (m : Int) + 1) = false := by simp
    go_wp2_with fail
    refine Calls.mono HCB.out ?_
    rintro e wC ⟨rfl, hb⟩
    have HOC := hide (HSA.out m wB wC HOB.out fun z hz => hb.block z (Nat.lt_trans (HS.out z hz).2 (heap_lt HGB.out)))
    have HXC := hide ((hb.block w.heap.size (heap_lt HXB.out)).trans HXB.out)
    have HWC := hide ((hb.block w3.heap.size (heap_lt HWB.out)).trans HWB.out)
    have HTC := hide (HTB.out.keep fun b _ h2 => hb.block b (Nat.lt_trans h2 (heap_lt HWB.out)))
    have HGC := hide ((hb.block w6.heap.size (heap_lt HGB.out)).trans HGB.out)
    have HBC := hide (HBB.out.trans (hb.mono HBB.out.size))
    clear hb HCB g0 g1 g2 g3 g4 g5
    obtain ⟨x0, x1, x2, x3, x4, x5⟩ := (box6 HXC.out).1
    go_wp2_with fail
    refine ((to_all h).1 x _ _ ((reads_later HBC.out h).1 _ _ HR.out) HWT.out).mono ?_
    rintro e wD ⟨csD, rfl, hlD, hrdD, hb, hplD⟩
    have HRDD := hide ((Nm.reads_in wD h).1 _ _ hrdD)
    obtain ⟨eo1, ec1, eo2, ec2, eo3, ec3, rfl⟩ := ex_form hrdD
    have HPD : Hid (∀ b, (FromK wC.heap.size b ∧ b < wD.heap.size) → b < wD.heap.size ∧ PlainAt wD ⟨b, 0, none⟩) := fun b hb => by
      obtain ⟨c, e, h9⟩ := hplD b hb.1 hb.2
      exact ⟨hb.2, c, e, h9⟩
    have HOD := hide (HSA.out m wC wD HOC.out fun z hz => hb.block z (Nat.lt_trans (HS.out z hz).2 (heap_lt HGC.out)))
    have HWD := hide ((hb.block w3.heap.size (heap_lt HWC.out)).trans HWC.out)
    have HTD := hide (HTC.out.keep fun b _ h2 => hb.block b (Nat.lt_trans h2 (heap_lt HWC.out)))
    have HGD := hide ((hb.block w6.heap.size (heap_lt HGC.out)).trans HGC.out)
    have HBD := hide (HBC.out.trans (hb.mono HBC.out.size))
    clear hlD hrdD hb hplD x0 x1 x2 x3 x4 x5
    go_wp2_with fail
    refine (HIM.out _ _ _ HRDD.out HPD.out).mono ?_
    rintro e wE ⟨csE, HE, rfl, htE, hb⟩
    obtain ⟨ho1, hc1, ho2, hc2, ho3, hc3, rfl⟩ := htE.exp
    obtain ⟨VE, hVE⟩ : ∃ V, wE.alloc (.cells #[.int .i64 T.k, .string T.s, .int .i64 T.n, .slice ho1 T.l.length hc1, .slice ho2 T.ds.length hc2, .slice ho3 T.al.length hc3] 32) = V := ⟨_, rfl⟩
    have hbV : Below wE.heap.size wE VE := by rw [← hVE]; exact (Below.refl _ wE).alloc (Nat.le_refl _) _
    have hbE := hb.trans (hbV.mono hb.size)
    have HHE : Hid (VE.heap[wE.heap.size]? = some (.cells #[.int .i64 T.k, .string T.s, .int .i64 T.n, .slice ho1 T.l.length hc1, .slice ho2 T.ds.length hc2, .slice ho3 T.al.length hc3] 32 (0, 0))) := by rw [← hVE]; exact heap_alloc_new wE _
    have HUE := hide (htE.keep (w' := VE) fun b _ h2 => hbV.block b h2)
    have HOE := hide (HSA.out m wD VE HOD.out fun z hz => hbE.block z (Nat.lt_trans (HS.out z hz).2 (heap_lt HGD.out)))
    have HWE := hide ((hbE.block w3.heap.size (heap_lt HWD.out)).trans HWD.out)
    have HTE := hide (HTD.out.keep fun b _ h2 => hbE.block b (Nat.lt_trans h2 (heap_lt HWD.out)))
    have HGE := hide ((hbE.block w6.heap.size (heap_lt HGD.out)).trans HGD.out)
    have HBE := hide (HBD.out.trans (hbE.mono HBD.out.size))
    clear htE hb hbV hbE
    obtain ⟨g0, g1, g2, g3, g4, g5⟩ := (box6 HHE.out).1
    obtain ⟨k0, k1, k2, k3, k4, k5⟩ := (box6 HWE.out).1
    have HQE := hide ((eq_all (H3 + HE)).1 T [.int .i64 T.k, .string T.s, .int .i64 T.n, .slice ho1 T.l.length hc1, .slice ho2 T.ds.length hc2, .slice ho3 T.al.length hc3] [.int .i64 T.k, .string T.s, .int .i64 T.n, .slice co1 T.l.length cc1, .slice co2 T.ds.length cc2, .slice co3 T.al.length cc3] VE ((HUE.out.up (Nat.le_refl _) (Nat.le_refl _) (Nat.le_add_left HE H3)).reads fun _ _ _ => trivial) ((HTE.out.up (Nat.le_refl _) (Nat.le_refl _) (Nat.le_add_right H3 HE)).reads fun _ _ _ => trivial))
    go_wp2_with fail
    refine Calls.mono HQE.out ?_
    rintro e wF ⟨rfl, hb⟩
    have HOF := hide (HSA.out m VE wF HOE.out fun z hz => hb.block z (Nat.lt_trans (HS.out z hz).2 (heap_lt HGE.out)))
    have HGF := hide ((hb.block w6.heap.size (heap_lt HGE.out)).trans HGE.out)
    have HBF := hide (HBE.out.trans (hb.mono HBE.out.size))
    clear hVE hb HQE g0 g1 g2 g3 g4 g5 k0 k1 k2 k3 k4 k5
    obtain ⟨g0, g1, g2, g3, g4, g5⟩ := (box6 HGF.out).1
    have HCF := hide (HH.out m wF HOF.out (fun z hz => Nat.lt_trans (HS.out z hz).2 (heap_lt HGF.out)) hm)
    go_wp2_with fail
    refine Calls.mono HCF.out ?_
    rintro e wG ⟨rfl, hb⟩
    have HBG := hide (HBF.out.trans (hb.mono HBF.out.size))
    clear hb HCF g0 g1 g2 g3 g4 g5
    go_wp2
    go_ret
    exact ⟨rfl, HBG.out⟩
end Go.Proofs.Ytgeckgdmkjddpaa.Br

/- For every program, of whatever parts, the law on NamesOf returns true: the program's NamesOf answers as the model's, writes into no argument, and its answer owns its memory; the argument reads as it did. No condition. -/
import Derived.Test.YtihjpkldefllgakGreatCT
namespace Go.Proofs.YtihjpkldefllgakGreat.fnExactNamesOf
open Go.ChangeShapes Go.WideShapes Go.ChangeAt Go.RowKit Go.Proofs.YtihjpkldefllgakGreat.Nm
set_option linter.unusedVariables false

theorem own : ownKnob Tryz.prog.godebug = none := by kernel_rfl
theorem laidOut : laidOutB Tryz.prog = true := by kernel_rfl

set_option maxHeartbeats 4000000 in
set_option maxRecDepth 100000 in
theorem walk {h : Nat} (x : Tr) (cs : List Value) (w : World) (hr : prR AllK w h x cs) :
    Calls Tryz.prog 3 #[.agg cs.toArray] w fun e w' => e = .returned (.bool true) ∧ Below w.heap.size w w' := by
  obtain ⟨o1, c1, o2, c2, rfl⟩ := pr_form hr
  have HR := hide hr
  clear hr
  have HB0 : Hid (Below w.heap.size w (w.alloc (.cells #[.slice o1 x.l.length c1, .slice o2 x.ds.length c2] 25))) := (Below.refl _ w).alloc (Nat.le_refl _) _
  have HX0 : Hid ((w.alloc (.cells #[.slice o1 x.l.length c1, .slice o2 x.ds.length c2] 25)).heap[w.heap.size]? = some (.cells #[.slice o1 x.l.length c1, .slice o2 x.ds.length c2] 25 (0, 0))) := heap_alloc_new w _
  go_enter Tryz.func3, Tryz.ntmps3
  go_wp2_with fail
  refine (szProg_all AllK h x _ _ 1048576 (by omega) (by omega) (prR_later HB0.out h _ _ HR.out)).mono ?_
  rintro e w1 ⟨r, rfl, hr1, hr2, hb⟩
  have HW := hide hr2
  have HB1 := hide (HB0.out.trans (hb.mono HB0.out.size))
  have HX1 := hide ((hb.block w.heap.size (heap_lt HX0.out)).trans HX0.out)
  clear hr2 hb
  by_cases hr0 : r < 0
  · go_wp2
    go_ret
    exact ⟨rfl, HB1.out⟩
  have HWT : Hid (wpr h x ≤ 1048576) := by
    have h2 := HW.out (by omega)
    exact (by omega : wpr h x ≤ 1048576)
  obtain ⟨hnm, hwg, hdl⟩ := pr_sizes HR.out HWT.out
  obtain ⟨x0, x1⟩ := box_cells2 HX1.out
  go_wp2_with fail
  refine (toProg_all h x _ _ (prR_later HB1.out h _ _ HR.out) HWT.out).mono ?_
  rintro e w2 ⟨cs2, rfl, hl2, hrd2, hb, -⟩
  obtain ⟨p1, g1, p2, g2, rfl⟩ := pr_form hrd2
  have HRD2 := hide hrd2
  have HB2 := hide (HB1.out.trans (hb.mono HB1.out.size))
  have HX2 := hide ((hb.block w.heap.size (heap_lt HX1.out)).trans HX1.out)
  clear hl2 hrd2 hb x0 x1
  go_wp2_with fail
  refine (specNames_pr HRD2.out hnm).mono ?_
  rintro e w3 ⟨v3, l, rfl, hn3, hasc3, hmem3, hlen3, hb⟩
  obtain ⟨q1, k1, rfl, hf3, hrow3⟩ := hn3.rowOf
  have HN3 := hide hn3
  have HASC := hide hasc3
  have HMEM := hide hmem3
  have hll : l.length ≤ 4400000 := by omega
  have HLE := hide hll
  have HB3 := hide (HB2.out.trans (hb.mono HB2.out.size))
  have HX3 := hide ((hb.block w.heap.size (heap_lt HX2.out)).trans HX2.out)
  have HW0 : Hid (RowOf (fun b => b < w3.heap.size) w3 strR 1 q1 l) := fun hne => by
    obtain ⟨b, off, e1, -, e3, e4⟩ := hrow3 hne
    exact ⟨b, off, e1, e3, e3, e4⟩
  clear hn3 hasc3 hmem3 hb hf3 hrow3
  obtain ⟨x0, x1⟩ := box_cells2 HX3.out
  go_wp2_with fail
  refine (toProg_all h x _ _ (prR_later HB3.out h _ _ HR.out) HWT.out).mono ?_
  rintro e w4 ⟨cs4, rfl, hl4, hrd4, hb, hpl4⟩
  obtain ⟨s1, t1, s2, t2, rfl⟩ := pr_form hrd4
  have HRD4 := hide (prR_in w4 h _ _ hrd4)
  have HPL4 := hide hpl4
  have HB4 := hide (HB3.out.trans (hb.mono HB3.out.size))
  have HB34 := hide hb
  have HX4 := hide ((hb.block w.heap.size (heap_lt HX3.out)).trans HX3.out)
  clear hl4 hrd4 hb hpl4 x0 x1
  obtain ⟨V, hV⟩ : ∃ V, w4.alloc (.cells #[.slice s1 x.l.length t1, .slice s2 x.ds.length t2] 32) = V := ⟨_, rfl⟩
  have hb5 : Below w4.heap.size w4 V := by rw [← hV]; exact (Below.refl _ w4).alloc (Nat.le_refl _) _
  have hsV : V.heap.size = w4.heap.size + 1 := by rw [← hV]; simp
  have HY5 : Hid (V.heap[w4.heap.size]? = some (.cells #[.slice s1 x.l.length t1, .slice s2 x.ds.length t2] 32 (0, 0))) := by rw [← hV]; exact heap_alloc_new w4 _
  have HRD5 := hide (prR_later hb5 h _ _ HRD4.out)
  have HPV : Hid (∀ b, (FromK w3.heap.size b ∧ b < w4.heap.size) → b < V.heap.size ∧ PlainAt V ⟨b, 0, none⟩) := fun b hb => by
    obtain ⟨c, e, h9⟩ := HPL4.out b hb.1 hb.2
    exact ⟨by have := hb.2; omega, c, e, (hb5.block b hb.2).trans h9⟩
  have HB5 := hide (HB4.out.trans (hb5.mono HB4.out.size))
  have HX5 := hide ((hb5.block w.heap.size (heap_lt HX4.out)).trans HX4.out)
  have HW5 := hide ((HW0.out.frame (Stays.of HB34.out) (fun _ h => h) (fun _ _ h => h)).frame (Stays.of hb5) (fun _ h => h) (fun _ _ h => h))
  have hz34 := HB34.out.size
  clear hb5
  obtain ⟨y0, y1⟩ := box_cells2 HY5.out
  go_wp2_with fail
  refine (implNames_pr HRD5.out HPV.out hwg hdl l (fun y hy => (HMEM.out y).2 hy) (by omega) HN3.out.2.1).mono ?_
  rintro e w6 ⟨v6, l6, rfl, hn6, hasc6, hmem6, hb⟩
  have el : l6 = l := asc_ext hasc6 HASC.out fun y => by rw [hmem6, HMEM.out]
  subst el
  obtain ⟨q6, k6, rfl, hf6, hrow6⟩ := hn6.rowOf
  have HN6 := hide hn6
  have HB6 := hide (HB5.out.trans (hb.mono HB5.out.size))
  have HX6 := hide ((hb.block w.heap.size (heap_lt HX5.out)).trans HX5.out)
  have HY6 := hide ((hb.block w4.heap.size (heap_lt HY5.out)).trans HY5.out)
  have HRD6 := hide (prR_later hb h _ _ HRD5.out)
  have HG6 := hide hrow6
  have HF6 := hide hf6
  have HW6 := hide (HW5.out.frame (Stays.of hb) (fun _ h => h) (fun _ _ h => h))
  have HP6 : Hid (∀ b, (FromK w3.heap.size b ∧ b < w4.heap.size) → b < w6.heap.size ∧ PlainAt w6 ⟨b, 0, none⟩) := fun b hb2 => by
    obtain ⟨h1, c, e, h2⟩ := HPV.out b hb2
    exact ⟨Nat.lt_of_lt_of_le h1 hb.size, c, e, (hb.block b h1).trans h2⟩
  have hz6 := hb.size
  clear hn6 hasc6 hmem6 hb hf6 hrow6 y0 y1
  go_wp2_with fail
  refine (eqStringS_same l6 (by unfold maxLen; omega) q6 q1 k6 k1 w6 HG6.out HW6.out).mono ?_
  rintro e w7 ⟨rfl, hb⟩
  have HB7 := hide (HB6.out.trans (hb.mono HB6.out.size))
  have HX7 := hide ((hb.block w.heap.size (heap_lt HX6.out)).trans HX6.out)
  have HY7 := hide ((hb.block w4.heap.size (heap_lt HY6.out)).trans HY6.out)
  have HRD7 := hide (prR_later hb h _ _ HRD6.out)
  have HN7 := hide (HN6.out.later hb)
  have HW7 := hide (HW6.out.frame (Stays.of hb) (fun _ h => h) (fun _ _ h => h))
  have HP7 : Hid (∀ b, (FromK w3.heap.size b ∧ b < w4.heap.size) → b < w7.heap.size ∧ PlainAt w7 ⟨b, 0, none⟩) := fun b hb2 => by
    obtain ⟨h1, c, e, h2⟩ := HP6.out b hb2
    exact ⟨Nat.lt_of_lt_of_le h1 hb.size, c, e, (hb.block b h1).trans h2⟩
  have hz7 := hb.size
  clear hb
  obtain ⟨x0, x1⟩ := box_cells2 HX7.out
  obtain ⟨y0, y1⟩ := box_cells2 HY7.out
  have hy7 : w4.heap.size < w7.heap.size := heap_lt HY7.out
  have HRA7 := hide (prR_later (HB7.out.trans ((Below.refl _ w7).drew.mono HB7.out.size)) h _ _ HR.out)
  have HTO := hide (toProg_all h x [.slice o1 x.l.length c1, .slice o2 x.ds.length c2] w7.drew HRA7.out HWT.out)
  have HRD7a : Hid (prR AllK w7 h x [.slice s1 x.l.length t1, .slice s2 x.ds.length t2]) := prR_frame (K' := AllK) (Stays.refl _ _) (fun _ _ => trivial) h _ _ HRD7.out
  go_upto_region 10 with fail
  go_cut [31] (fun v W => v = .bool false ∧ Below w7.heap.size w7 W)
  case first =>
    go_region_with (first
      | (go_at_call 6; (with_reducible refine Calls.mono HTO.out ?_); rintro e w8 ⟨cs8, rfl, hl8, hrd8, hb8, -⟩; obtain ⟨d1, f1, d2, f2, rfl⟩ := pr_form hrd8; have HB8 : Hid (Below w7.heap.size w7 w8) := (Below.refl _ w7).drew.trans hb8; have HRD8 := hide (prR_frame (K' := AllK) (Stays.refl _ _) (fun _ _ => trivial) h _ _ hrd8); have HRX8 := hide (prR_later HB8.out h _ _ HRD7a.out); have z0 := (HB8.out.cell (p := ⟨w4.heap.size, 0, none⟩) hy7).trans y0; have z1 := (HB8.out.cell (p := ⟨w4.heap.size, 1, none⟩) hy7).trans y1; clear hl8 hrd8 hb8)
      | (go_at_call 9; refine (eqProg_all h x _ _ _ HRX8.out HRD8.out).mono ?_; rintro e w9 ⟨rfl, hb9⟩; have HB9 : Hid (Below w7.heap.size w7 w9) := HB8.out.trans (hb9.mono HB8.out.size); clear hb9))
    all_goals
      go_wp2_with fail
      go_meet
      case rel => exact ⟨rfl, HB9.out⟩
  case rest =>
    obtain ⟨rfl, hb⟩ := hcut
    generalize wc = w8 at hb ⊢
    have HB8 := hide (HB7.out.trans (hb.mono HB7.out.size))
    have HX8 := hide ((hb.block w.heap.size (heap_lt HX7.out)).trans HX7.out)
    have HY8 := hide ((hb.block w4.heap.size (heap_lt HY7.out)).trans HY7.out)
    have HRD8 := hide (prR_later hb h _ _ HRD7.out)
    have HN8 := hide (HN7.out.later hb)
    have HW8 := hide (HW7.out.frame (Stays.of hb) (fun _ h => h) (fun _ _ h => h))
    have HP8 : Hid (∀ b, (FromK w3.heap.size b ∧ b < w4.heap.size) → b < w8.heap.size ∧ PlainAt w8 ⟨b, 0, none⟩) := fun b hb2 => by
      obtain ⟨h1, c, e, h2⟩ := HP7.out b hb2
      exact ⟨Nat.lt_of_lt_of_le h1 hb.size, c, e, (hb.block b h1).trans h2⟩
    have hz8 := hb.size
    clear hb x0 x1 y0 y1 HTO HRA7 HRD7a
    obtain ⟨y0, y1⟩ := box_cells2 HY8.out
    have HMKE := hide (markProg_any x _ w8 HRD8.out HP8.out HWT.out)
    go_wp2_with fail
    refine Calls.mono HMKE.out ?_
    rintro e w9 ⟨r9, rfl, hr9, hmk⟩
    have hzs : w.heap.size ≤ w3.heap.size := HB3.out.size
    have HB89 : Hid (Below w.heap.size w w9) := HB8.out.trans ⟨hmk.keep.os, hmk.keep.tape, hmk.keep.output, hmk.keep.size, fun b hb => hmk.keep.block b ⟨fun e => by have h9 : w3.heap.size ≤ b := e.1; omega, by omega⟩⟩
    have HX9 := hide ((hmk.keep.block w.heap.size ⟨fun e => by have h9 : w3.heap.size ≤ w.heap.size := e.1; have := heap_lt HX3.out; omega, heap_lt HX8.out⟩).trans HX8.out)
    have HN9 := hide (HN8.out.block fun g hg => hmk.keep.block g ⟨fun e => by have := (HN6.out.lt g hg).2; have h9 : g < w4.heap.size := e.2; omega, (HN8.out.lt g hg).1⟩)
    have HW9 : Hid (RowOf (fun b => b < w3.heap.size) w9 strR 1 q1 l6) := HW8.out.frame (w' := w9) ⟨hmk.keep.size, fun b hb hl => hmk.keep.block b ⟨fun e => by have h9 : w3.heap.size ≤ b := e.1; omega, hl⟩⟩ (fun _ h => h) (fun _ _ h => h)
    have hz9 := hmk.keep.size
    obtain ⟨q9, k9, hv9, hf9, hrow9⟩ := HN9.out.rowOf
    simp only [Value.slice.injEq] at hv9
    obtain ⟨rfl, -, rfl⟩ := hv9
    have HG9 := hide hrow9
    have hr9n : ¬ ((r9 : Int) + 1 < 0) := by omega
    clear hmk hf9 hrow9 y0 y1
    go_wp2_with fail
    refine (eqStringS_same l6 (by unfold maxLen; omega) q6 q1 k6 k1 w9 HG9.out HW9.out).mono ?_
    rintro e wA ⟨rfl, hb⟩
    have HBA := hide (HB89.out.trans (hb.mono HB89.out.size))
    have HXA := hide ((hb.block w.heap.size (heap_lt HX9.out)).trans HX9.out)
    have HNA := hide (HN9.out.later hb)
    have HWA := hide (HW9.out.frame (Stays.of hb) (fun _ h => h) (fun _ _ h => h))
    have hzA := hb.size
    clear hb
    have HMKS := hide (markStrS_any (K := fun b => (Value.slice q6 l6.length k6).ownBlock = some b) l6 q6 k6 0 wA (by
      obtain ⟨o', c', hv, -, hrow⟩ := HNA.out.rowOf
      simp only [Value.slice.injEq] at hv
      obtain ⟨rfl, -, rfl⟩ := hv
      exact fun hne => by
        obtain ⟨b, off, e1, e2, e3, e4⟩ := hrow hne
        exact ⟨b, off, e1, e2.2, e3, fun i x hx => by obtain ⟨cs, h1, h2, h3⟩ := e4 i x hx; exact ⟨cs, h1, h2, str_q h3⟩⟩) (fun b hb => by
      obtain ⟨⟨-, hc⟩, -⟩ := HNA.out
      rcases hc with ⟨hv, -⟩ | ⟨g, cap, cur, hv, -, hg, -⟩
      · rw [hv] at hb; cases hb
      · rw [hv] at hb
        cases hb
        exact ⟨cur, _, hg⟩) (by omega))
    simp only [Nat.zero_add, Int.natCast_zero, Int.zero_add] at HMKS
    go_wp2_with fail
    refine Calls.mono HMKS.out ?_
    rintro e wB ⟨rfl, hmk, hmd⟩
    have hown : ∀ g, (Value.slice q6 l6.length k6).ownBlock = some g → V.heap.size ≤ g := fun g hg => (HN6.out.lt g hg).2
    have HBB : Hid (Below w.heap.size w wB) := HBA.out.trans ⟨hmk.keep.os, hmk.keep.tape, hmk.keep.output, hmk.keep.size, fun b hb => hmk.keep.block b ⟨fun e => by have := hown b e; have := HB4.out.size; omega, by have := HBA.out.size; omega⟩⟩
    have HXB := hide ((hmk.keep.block w.heap.size ⟨fun e => by have := hown _ e; have := heap_lt HX4.out; omega, heap_lt HXA.out⟩).trans HXA.out)
    have HWB : Hid (RowOf (fun b => b < w3.heap.size) wB strR 1 q1 l6) := HWA.out.frame (w' := wB) ⟨hmk.keep.size, fun b hb hl => hmk.keep.block b ⟨fun e => by have := hown b e; omega, hl⟩⟩ (fun _ h => h) (fun _ _ h => h)
    have HD : Hid (0 < l6.length → ∃ b off, q6 = some ⟨b, off, none⟩ ∧ ∀ j, j < l6.length → wB.cell? ⟨b, off + j, none⟩ = some (.string (markS (0 + j)))) := fun hl => by
      obtain ⟨b, off, e1, -, -, -⟩ := HG9.out (List.ne_nil_of_length_pos hl)
      refine ⟨b, off, e1, fun j hj => ?_⟩
      rw [Nat.zero_add]
      exact hmd b off e1 j hj
    have hzB := hmk.keep.size
    have hcap := HF6.out.2
    clear hmk hmd hown
    go_wp2_with fail
    refine (heldStrS_any l6.length q6 k6 wB HD.out (by omega) hcap).mono ?_
    rintro e wC ⟨rfl, hb⟩
    have HBC := hide (HBB.out.trans (hb.mono HBB.out.size))
    have HXC := hide ((hb.block w.heap.size (heap_lt HXB.out)).trans HXB.out)
    have HWC := hide (HWB.out.frame (Stays.of hb) (fun _ h => h) (fun _ _ h => h))
    have HDC : Hid (0 < l6.length → ∃ b off, q6 = some ⟨b, off, none⟩ ∧ ∀ j, j < l6.length → wC.cell? ⟨b, off + j, none⟩ = some (.string (markS (0 + j)))) := fun hl => by
      obtain ⟨b, off, e1, e2⟩ := HD.out hl
      exact ⟨b, off, e1, fun j hj => (hb.cell (p := ⟨b, _, none⟩) (World.block_lt_of_cell? wB _ (e2 j hj))).trans (e2 j hj)⟩
    have hzC := hb.size
    clear hb
    have hnn1 : ¬ ((l6.length : Int) + 1 < 0) := by omega
    have hnn2 : (((l6.length : Int) + 1) != ((l6.length : Int) + 1)) = false := by simp
    obtain ⟨x0, x1⟩ := box_cells2 HXC.out
    go_wp2_with fail
    refine (toProg_all h x _ _ (prR_later HBC.out h _ _ HR.out) HWT.out).mono ?_
    rintro e wD ⟨csD, rfl, hlD, hrdD, hb, hplD⟩
    obtain ⟨u1, v1, u2, v2, rfl⟩ := pr_form hrdD
    have HRDD := hide (prR_in wD h _ _ hrdD)
    have HPD : Hid (∀ b, (FromK wC.heap.size b ∧ b < wD.heap.size) → b < wD.heap.size ∧ PlainAt wD ⟨b, 0, none⟩) := fun b hb2 => by
      obtain ⟨c, e, h9⟩ := hplD b hb2.1 hb2.2
      exact ⟨hb2.2, c, e, h9⟩
    have HBD := hide (HBC.out.trans (hb.mono HBC.out.size))
    have HWD := hide (HWC.out.frame (Stays.of hb) (fun _ h => h) (fun _ _ h => h))
    have HDD : Hid (0 < l6.length → ∃ b off, q6 = some ⟨b, off, none⟩ ∧ ∀ j, j < l6.length → wD.cell? ⟨b, off + j, none⟩ = some (.string (markS (0 + j)))) := fun hl => by
      obtain ⟨b, off, e1, e2⟩ := HDC.out hl
      exact ⟨b, off, e1, fun j hj => (hb.cell (p := ⟨b, _, none⟩) (World.block_lt_of_cell? wC _ (e2 j hj))).trans (e2 j hj)⟩
    clear hlD hrdD hb hplD x0 x1
    go_wp2_with fail
    refine (implNames_pr HRDD.out HPD.out hwg hdl l6 (fun y hy => (HMEM.out y).2 hy) (by omega) HN3.out.2.1).mono ?_
    rintro e wE ⟨vE, lE, rfl, hnE, hascE, hmemE, hb⟩
    have elE : lE = l6 := asc_ext hascE HASC.out fun y => by rw [hmemE, HMEM.out]
    subst elE
    obtain ⟨qE, kE, rfl, -, hrowE⟩ := hnE.rowOf
    have HGE := hide hrowE
    have HBE := hide (HBD.out.trans (hb.mono HBD.out.size))
    have HWE := hide (HWD.out.frame (Stays.of hb) (fun _ h => h) (fun _ _ h => h))
    have HDE : Hid (0 < lE.length → ∃ b off, q6 = some ⟨b, off, none⟩ ∧ ∀ j, j < lE.length → wE.cell? ⟨b, off + j, none⟩ = some (.string (markS (0 + j)))) := fun hl => by
      obtain ⟨b, off, e1, e2⟩ := HDD.out hl
      exact ⟨b, off, e1, fun j hj => (hb.cell (p := ⟨b, _, none⟩) (World.block_lt_of_cell? wD _ (e2 j hj))).trans (e2 j hj)⟩
    clear hnE hascE hmemE hb hrowE
    go_wp2_with fail
    refine (eqStringS_same lE (by unfold maxLen; omega) qE q1 kE k1 wE HGE.out HWE.out).mono ?_
    rintro e wF ⟨rfl, hb⟩
    have HBF := hide (HBE.out.trans (hb.mono HBE.out.size))
    have HDF : Hid (0 < lE.length → ∃ b off, q6 = some ⟨b, off, none⟩ ∧ ∀ j, j < lE.length → wF.cell? ⟨b, off + j, none⟩ = some (.string (markS (0 + j)))) := fun hl => by
      obtain ⟨b, off, e1, e2⟩ := HDE.out hl
      exact ⟨b, off, e1, fun j hj => (hb.cell (p := ⟨b, _, none⟩) (World.block_lt_of_cell? wE _ (e2 j hj))).trans (e2 j hj)⟩
    clear hb
    go_wp2_with fail
    refine (heldStrS_any lE.length q6 k6 wF HDF.out (by omega) hcap).mono ?_
    rintro e wG ⟨rfl, hb⟩
    have HBG := hide (HBF.out.trans (hb.mono HBF.out.size))
    clear hb
    go_wp2
    go_ret
    exact ⟨rfl, HBG.out⟩

set_option maxRecDepth 100000 in
theorem lifted (os : Os) (started : os.Started) (H : Type) (enc : TypeId × Value → H) :
    ReturnsInHanded {} Tryz.checked os 3 .any (Rows.fnExactNamesOfSpec.pre6 enc Tryz.prog Tryz.f3 Rows.fnExactNamesOfRow.domain false) (Rows.fnExactNamesOfSpec.post enc Tryz.prog Tryz.f3 false true false false) := by
  refine returnsInHanded_of_change (C := Tryz.checked) own started (by kernel_rfl) Tryz.func3
    (ChangeSpec.witness6 (enc := enc) (C := Tryz.checked) false ⟨#[], #[.agg #[.slice none 0 0, .slice none 0 0]], []⟩ 8 (by kernel_rfl) (by kernel_rfl) (by kernel_rfl) (by kernel_rfl)) ?_
  intro W base args ds gs before hval0 hW hcnd _
  have hW' := hW
  obtain ⟨p, q, hA0, hV, rfl, hfz, hnd⟩ := hW
  have hA : DataW.TrodAll enc Tryz.prog W 0 (fun _ => true) true Tryz.f3.params.toList args.toList ds p := hA0
  rw [Tryz.params3] at hA
  obtain ⟨v0, vs0, d0, ds0, p0, q0, hargs, rfl, rfl, h0, r0⟩ := trodAll_cons hA
  obtain ⟨rfl, rfl, rfl⟩ := trodAll_nil r0
  obtain rfl : args = #[v0] := by cases args; simp_all
  obtain ⟨rfl, rfl⟩ := trodVars_none hV
  have k0 := h0
  have lt0 : ∀ x ∈ p0, x.block < W.heap.size := by obtain ⟨m, hm⟩ := k0; exact DataW.trod_lt m _ _ _ hm
  have hval : ∀ (j : Nat) t v, Tryz.f3.params[j]? = some t → #[v0][j]? = some v → Value.okWide Tryz.prog W .any base t v := hval0
  rw [Tryz.params3] at hval
  obtain ⟨cs, rfl, -⟩ := okWide_struct Tryz.underlying25 (hval 0 25 v0 rfl rfl)
  obtain ⟨fuel, hf⟩ := h0
  have hf2 : DataW.trod enc Tryz.prog W 0 (fun _ => true) true fuel 25 cs.toList = some (d0, p0) := by simpa [Value.cells] using hf
  obtain ⟨x, hx⟩ := open_pr fuel fuel (Nat.le_refl _) _ _ hf2
  have hwalk := walk x cs.toList W hx
  rw [Array.toArray_toList] at hwalk
  clear hA0 hval0
  refine hwalk.mono fun e W' ⟨he, bel⟩ => ?_
  subst he
  exact ⟨_, rfl, _, _, _, [], _, [], hW', trodAll_mk1 (shut_bool Tryz.underlying4 _), (trodAll_cons_mk (Below.trod laidOut (by kernel_rfl) (of_decide_eq_true (by kernel_rfl)) k0 bel lt0) trodAll_mk0), rfl, bel.frame _, fun h => by cases h⟩

theorem over : Rows.fnExactNamesOfRow.holds Tryz.pinned (OpenSpec.ofChange Rows.fnExactNamesOfSpec) :=
  OpenClaim.holds_of_wide 3 Tryz.f3 rfl rfl rfl rfl rfl rfl rfl ⟨rfl, rfl, rfl, rfl, rfl⟩ rfl rfl rfl rfl rfl (by kernel_rfl) Tryz.func3 (by kernel_rfl)
    (of_decide_eq_true (by kernel_rfl)) (by unfold Func.isWrapper; first | (rw [if_pos (by decide +kernel)]; kernel_rfl) | (rw [if_neg (by decide +kernel)]; exact ⟨rfl, rfl⟩))
    (fun os started H enc _ => lifted os started H enc)
end Go.Proofs.YtihjpkldefllgakGreat.fnExactNamesOf
namespace Go.Proofs.YtihjpkldefllgakGreat
theorem fnExactNamesOf_proved : Rows.FnExactNamesOfSaid := fnExactNamesOf.over
end Go.Proofs.YtihjpkldefllgakGreat

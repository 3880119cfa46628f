import Derived.Test.YtfomndilhlgikajGreatDoorP28
set_option maxHeartbeats 8000000
set_option maxRecDepth 100000
namespace Go.Proofs.YtfomndilhlgikajGreatDoor.Rd
open Go.ChangeShapes Go.WideShapes Go.ChangeAt Go.RowKit
section
variable {b g d : Nat} {w : World} {ts : List TokZ}
theorem ns {W W2 : World} {N gb g2 v h1 : Nat} {e0 y : Tr} {c0 c1 : List TokZ} {cs cx : List Value} {t : ByteArray} (au : b < w.heap.size) (h : Li b g d w N gb W e0 c0 cs) (hmv : Mv b W W2) (hc : c1.length < c0.length) (hh : h1 + c1.length <= c0.length) (hT : TreeT W2 W.heap.size v h1 0 y cx) (dj : W2.heap[g2]? = some (.cells (cs ++ cx).toArray 34 (0, 0))) (hv : W.heap.size <= v) (h2 : v <= g2) (ht : t.size <= 1500) : ∃ hh, hh + c1.length <= N /\ TreeT W2 (w.heap.size + 1) W2.heap.size hh 0 (qA t e0 y) [.int .i64 9, .string t, .int .i64 0, .slice (some ⟨g2, 0, none⟩) 2 2, .slice none 0 0, .slice none 0 0] := by
 have oI := h.gw
 have Ky := ad h.box
 obtain ⟨n0, b1, b2⟩ := h.tree
 have EE : 1 <= n0 := by
  cases n0 with
  | zero => obtain ⟨bs, hf, -⟩ := b2; exact hf.elim
  | succ n => omega
 have b3 : TreeT W2 (w.heap.size + 1) W.heap.size n0 0 e0 cs := b2.tree.keep (bv hmv (by omega) U0)
 exact ⟨max n0 h1 + 1, by omega, um 9 t (by unfold maxLen; omega) (b3.up U0 U0 (Nat.le_max_left n0 h1)) (hT.up U0 U0 (Nat.le_max_right n0 h1)) dj (by omega) hv h2⟩
theorem Aq {ex : bF} {n : Nat} (hN : tQ) (h : Ir b g w d ts) (hn : ts.length <= n + 1) (hE : CI b g d n ex) (hD : bC ex) : Calls Tryz.prog 215 #[.pointer (some ⟨b, 0, none⟩)] w (ResI b g d w ts (fD ex)) := by
 have au := h.lt
 have ec := h.glt
 have HE := aa hE
 have jK := aa hN
 have HD := aa hD
 have aq : Hid (Below w.heap.size w (w.alloc (.cells zE 34))) := (U4 w).alloc U0 _
 have H0 := aa (h.below aq.out)
 have HX : Hid ((w.alloc (.cells zE 34)).heap[w.heap.size]? = some (.cells zE 34 (0, 0))) := heap_alloc_new w _
 clear h hE hN hD
 go_enter Tryz.func215, Tryz.ntmps215
 go_wp2_with fail
 refine (mt jK.out H0.out hn HE.out HD.out).mono ?_
 rintro e w1 ⟨m1, ⟨e1, c1, cs, hh, ho, rfl, hFx, h1, hh1, hT⟩ | ⟨ho, rfl⟩⟩
 ·have HL : Hid (Li b g d w ts.length w1.heap.size (w1.alloc (.cells cs.toArray 34)) e1 c1 cs) := Li.start (af HX.out m1 (by omega)) hFx h1 ((Mv.of aq.out).trans m1) hh1 (by simpa using hT)
  have zh := aa ho
  obtain ⟨a0, a1, a2, p1, q1, z1, p2, q2, z2, p3, q3, z3, rfl⟩ := hFx
  clear m1 ho h1 hT
  obtain ⟨V, hV⟩ : ∃ V, w1.alloc (.cells #[.int .i64 a0, .string a1, .int .i64 a2, .slice p1 q1 z1, .slice p2 q2 z2, .slice p3 q3 z3] 34) = V := ⟨_, rfl⟩
  have Px : Hid (Li b g d w ts.length w1.heap.size V e1 c1 [.int .i64 a0, .string a1, .int .i64 a2, .slice p1 q1 z1, .slice p2 q2 z2, .slice p3 q3 z3]) := by rw [<- hV]; exact HL.out
  have FC : V.heap.size = w1.heap.size + 1 := by rw [<- hV]; simp
  obtain ⟨V1, hV1⟩ : ∃ V1, V.alloc (.cells #[.string iu, .string qh] 9) = V1 := ⟨_, rfl⟩
  have bS : Below V.heap.size V V1 := by rw [<- hV1]; exact (U4 V).alloc U0 _
  have bV := aa (Px.out.move (Mv.of bS) au (Px.out.ir.below bS))
  have HR : Hid (RowOf (fun k => k = w1.heap.size + 1) V1 fy 1 (some ⟨w1.heap.size + 1, 0, none⟩) [iu, qh]) := by
   have h9 := uk V iu qh (by decide) (by decide)
   rw [FC, hV1] at h9
   exact h9
  have OA : V.alloc (.cells #[.string ⟨#[61, 61]⟩, .string ⟨#[60]⟩] 9) = V1 := hV1
  clear bS HL
  go_wp2_with fail
  refine (gS [iu, qh] _ 2 2 rfl (by simp) HR.out bV.out.ir).mono ?_
  rintro e w2 ⟨rfl, Fo⟩
  obtain rfl : V1 = w2 := Fo.symm
  have dG := bV.out.box
  have iQ := bV.out.res
  have Kd := ad dG
  have lI := ad iQ
  have oI := bV.out.gw
  have jV := aa dG
  have qK := aa bV.out.fx
  have aC : Ends c1 := bV.out.ir.ends
  obtain ⟨⟨y0, y1, y2, y3, y4, y5⟩, -⟩ := aG dG
  cases lH : [iu, qh].any (cg c1) with
  | false =>
   have ed : Hid (fD ex ts = some (e1, c1)) := by
    have h9 : cg c1 iu = false /\ cg c1 qh = false := by simpa using lH
    exact AJ zh.out h9.1 h9.2
   obtain ⟨⟨u0, u1, u2, u3, u4, u5⟩, f0, f1, f2, f3, f4, f5⟩ := aG iQ
   clear lH dG iQ aC
   go_wp2
   exact bodyPost_ret (v := .agg #[.int .i64 a0, .string a1, .int .i64 a2, .slice p1 q1 z1, .slice p2 q2 z2, .slice p3 q3 z3]) (results_cell_row rfl _ _ w.heap.size 34 _ (0, 0) _ rfl (aZ bV.out.res _ _ _ _ _ _) Tryz.underlying34 rfl (by kernel_rfl)) rfl (bV.out.fin au ec ed.out)
  | true =>
   obtain ⟨s9, CK, hi9⟩ := List.any_eq_true.1 lH
   have NK := aa (xn zh.out CK hi9)
   obtain ⟨t, q0, rfl, -⟩ := fl hi9
   have Ju : Hid (fD ex ts = (gi ex q0).map fun q => (qA t.s e1 q.1, q.2)) := NK.out
   have Cw : s9 ≠ ⟨#[]⟩ := by
    simp only [List.mem_cons, List.not_mem_nil, or_false] at CK
    rcases CK with rfl | rfl <;> decide
   have vn := aa (bG hi9 aC Cw).1
   have cI : t.s.size <= 1500 := aC.gd.size
   have wL : q0.length + 1 <= n + 1 := by
    obtain ⟨hh, h9, -⟩ := bV.out.tree
    simp only [List.length_cons] at h9
    omega
   have nY : Hid (Calls Tryz.prog 136 #[.pointer (some ⟨b, 0, none⟩)] V1.drew fun e w' => e = .returned (.string t.s) /\ Ir b g w' d q0 /\ Mv b V1.drew w') := eN (bV.out.ir.below (U4 V1).drew) vn.out
   have cA : ¬ w1.heap.size = b := by omega
   clear lH dG iQ aC hi9 CK Cw
   go_upto_region 3 with fail
   refine wp_region_any (by kernel_rfl) ?_
   try (change wpAny _ _ _ _ _ _ _ (World.drew _))
   refine wpAny_take (i := 0) (v := .pointer (some ⟨b, 0, none⟩)) rfl (by kernel_rfl) (by kernel_rfl) (by kernel_rfl) (fun _ _ _ h => h) (Or.inl ⟨by rfl, fun w => by go_simp⟩) ?_
   refine wpAny_take (i := 3) (v := .pointer (some ⟨b, 0, none⟩)) rfl (by kernel_rfl) (by kernel_rfl) (by kernel_rfl) (fun _ _ _ h => h) (Or.inl ⟨by rfl, fun w => by go_simp⟩) ?_
   refine wpAny_ready (rs := [1, 2]) (by kernel_rfl) (by simp) ?_
   refine AllReady.cons rfl (fun K hK => ?_) (AllReady.cons rfl (fun K hK => ?_) AllReady.nil)
   ·go_simp
    (with_reducible refine Calls.mono nY.out ?_)
    rintro e w3 ⟨rfl, h3, m3⟩
    refine hK _ _ ?_
    clear hK K
    have H3 := aa h3
    have iG := (Mv.drew b V1).trans m3
    have iU := aa iG
    have gy : V1.heap.size <= w3.heap.size := m3.size
    have dE := af jV.out iG cA
    have u9 := ad dE
    obtain ⟨⟨v0, v1, v2, v3, v4, v5⟩, -⟩ := aG dE
    clear h3 m3 iG dE
    refine wpAny_ready (rs := [2, 4]) (by kernel_rfl) (by simp) ?_
    refine AllReady.cons rfl (fun K hK => ?_) (AllReady.cons rfl (fun K hK => ?_) AllReady.nil)
    ·go_simp
     refine hK _ _ ?_
     clear hK K
     refine wpAny_ready (rs := [4]) (by kernel_rfl) (by simp) ?_
     refine AllReady.cons rfl (fun K hK => ?_) AllReady.nil
     go_simp
     (with_reducible refine Calls.mono (mt jK.out H3.out (by omega) HE.out HD.out) ?_)
     rintro e w4 ⟨m4, ⟨t4, qq4, cx, hh, ho, rfl, hFx, h4, hh4, hT⟩ | ⟨ho, rfl⟩⟩
     ·refine hK _ _ ?_
      clear hK K
      have gB := aa hFx
      have H4 := aa h4
      have HT := aa hT
      have oJ := aa m4
      have HO : Hid (fD ex ts = some (qA t.s e1 t4, qq4)) := by
       rw [Ju.out, ho]
       exact rfl
      have tu := (gX HD.out _ _ _ vn.out ho).2
      have qc := m4.size
      have cR := af jV.out (iU.out.trans m4) cA
      have qb := ad cR
      obtain ⟨i0, i1, i2, j1, k1, l1, j2, k2, l2, j3, k3, l3, rfl⟩ := hFx
      obtain ⟨⟨x0, x1, x2, x3, x4, x5⟩, -⟩ := aG cR
      clear h4 m4 ho hT cR
      refine wpAny_ready (rs := [5]) (by kernel_rfl) (by simp) ?_
      refine AllReady.cons rfl (fun K hK => ?_) AllReady.nil
      go_simp
      refine hK _ _ ?_
      clear hK K
      refine wpAny_ready (rs := [6]) (by kernel_rfl) (by simp) ?_
      refine AllReady.cons rfl (fun K hK => ?_) AllReady.nil
      go_simp
      refine (dz (cf := [.int .i64 a0, .string a1, .int .i64 a2, .slice p1 q1 z1, .slice p2 q2 z2, .slice p3 q3 z3]) t.s qK.out gB.out _).mono ?_
      rintro e w5 ⟨g2, hg1, dj, rfl, gK, b5⟩
      refine hK _ _ ?_
      clear hK K
      have mb := aa ((iU.out.trans oJ.out).trans (Mv.of b5))
      have fW : Hid (∃ hh, hh + qq4.length <= ts.length /\ TreeT w5 (w.heap.size + 1) w5.heap.size hh 0 (qA t.s e1 t4) [.int .i64 9, .string t.s, .int .i64 0, .slice (some ⟨g2, 0, none⟩) 2 2, .slice none 0 0, .slice none 0 0]) := ns (d := d) au bV.out mb.out (by simp only [List.length_cons]; omega) (by simp only [List.length_cons]; omega) ((HT.out.keep (aw b5 U0)).up gy U0 U0) gK (by omega) hg1 cI
      have H5 := aa (H4.out.below b5)
      have mV := af bV.out.res mb.out (by omega)
      have BW := aa mV
      have KE := ad mV
      obtain ⟨⟨c0', c1', c2', c3', c4', c5'⟩, d0, d1, d2, d3, d4, d5⟩ := aG mV
      clear b5 gK mV
      refine wpAny_ready (rs := [7]) (by kernel_rfl) (by simp) ?_
      refine AllReady.cons rfl (fun K hK => ?_) AllReady.nil
      go_simp
      refine hK _ _ ?_
      clear hK K
      refine wpAny_done (by kernel_rfl) ?_ _
      go_wp2
      obtain ⟨hhN, hN1, Dc⟩ := fW.out
      exact bodyPost_ret (v := .agg #[.int .i64 9, .string t.s, .int .i64 0, .slice (some ⟨g2, 0, none⟩) 2 2, .slice none 0 0, .slice none 0 0]) (results_cell_row rfl _ _ w.heap.size 34 _ (0, 0) _ rfl (aZ BW.out _ _ _ _ _ _) Tryz.underlying34 rfl (by kernel_rfl)) rfl (gG au ec HO.out (bV.out.mv.trans mb.out) H5.out hN1 Dc ⟨_, _, _, _, _, _, _, _, _, _, _, _, rfl⟩)
     ·have ed : Hid (fD ex ts = none) := by
       rw [Ju.out, ho]
       exact rfl
      exact ⟨rfl, (bV.out.mv.trans iU.out).trans m4, .inr ⟨ed.out, rfl⟩⟩
    ·go_simp
     (with_reducible refine Calls.mono (mt jK.out H3.out (by omega) HE.out HD.out) ?_)
     rintro e w4 ⟨m4, ⟨t4, qq4, cx, hh, ho, rfl, hFx, h4, hh4, hT⟩ | ⟨ho, rfl⟩⟩
     ·refine hK _ _ ?_
      clear hK K
      have gB := aa hFx
      have H4 := aa h4
      have HT := aa hT
      have oJ := aa m4
      have HO : Hid (fD ex ts = some (qA t.s e1 t4, qq4)) := by
       rw [Ju.out, ho]
       exact rfl
      have tu := (gX HD.out _ _ _ vn.out ho).2
      have qc := m4.size
      have cR := af jV.out (iU.out.trans m4) cA
      have qb := ad cR
      obtain ⟨i0, i1, i2, j1, k1, l1, j2, k2, l2, j3, k3, l3, rfl⟩ := hFx
      obtain ⟨⟨x0, x1, x2, x3, x4, x5⟩, -⟩ := aG cR
      clear h4 m4 ho hT cR
      refine wpAny_ready (rs := [2]) (by kernel_rfl) (by simp) ?_
      refine AllReady.cons rfl (fun K hK => ?_) AllReady.nil
      go_simp
      refine hK _ _ ?_
      clear hK K
      refine wpAny_ready (rs := [5]) (by kernel_rfl) (by simp) ?_
      refine AllReady.cons rfl (fun K hK => ?_) AllReady.nil
      go_simp
      refine hK _ _ ?_
      clear hK K
      refine wpAny_ready (rs := [6]) (by kernel_rfl) (by simp) ?_
      refine AllReady.cons rfl (fun K hK => ?_) AllReady.nil
      go_simp
      refine (dz (cf := [.int .i64 a0, .string a1, .int .i64 a2, .slice p1 q1 z1, .slice p2 q2 z2, .slice p3 q3 z3]) t.s qK.out gB.out _).mono ?_
      rintro e w5 ⟨g2, hg1, dj, rfl, gK, b5⟩
      refine hK _ _ ?_
      clear hK K
      have mb := aa ((iU.out.trans oJ.out).trans (Mv.of b5))
      have fW : Hid (∃ hh, hh + qq4.length <= ts.length /\ TreeT w5 (w.heap.size + 1) w5.heap.size hh 0 (qA t.s e1 t4) [.int .i64 9, .string t.s, .int .i64 0, .slice (some ⟨g2, 0, none⟩) 2 2, .slice none 0 0, .slice none 0 0]) := ns (d := d) au bV.out mb.out (by simp only [List.length_cons]; omega) (by simp only [List.length_cons]; omega) ((HT.out.keep (aw b5 U0)).up gy U0 U0) gK (by omega) hg1 cI
      have H5 := aa (H4.out.below b5)
      have mV := af bV.out.res mb.out (by omega)
      have BW := aa mV
      have KE := ad mV
      obtain ⟨⟨c0', c1', c2', c3', c4', c5'⟩, d0, d1, d2, d3, d4, d5⟩ := aG mV
      clear b5 gK mV
      refine wpAny_ready (rs := [7]) (by kernel_rfl) (by simp) ?_
      refine AllReady.cons rfl (fun K hK => ?_) AllReady.nil
      go_simp
      refine hK _ _ ?_
      clear hK K
      refine wpAny_done (by kernel_rfl) ?_ _
      go_wp2
      obtain ⟨hhN, hN1, Dc⟩ := fW.out
      exact bodyPost_ret (v := .agg #[.int .i64 9, .string t.s, .int .i64 0, .slice (some ⟨g2, 0, none⟩) 2 2, .slice none 0 0, .slice none 0 0]) (results_cell_row rfl _ _ w.heap.size 34 _ (0, 0) _ rfl (aZ BW.out _ _ _ _ _ _) Tryz.underlying34 rfl (by kernel_rfl)) rfl (gG au ec HO.out (bV.out.mv.trans mb.out) H5.out hN1 Dc ⟨_, _, _, _, _, _, _, _, _, _, _, _, rfl⟩)
     ·have ed : Hid (fD ex ts = none) := by
       rw [Ju.out, ho]
       exact rfl
      exact ⟨rfl, (bV.out.mv.trans iU.out).trans m4, .inr ⟨ed.out, rfl⟩⟩
   ·go_simp
    refine hK _ _ ?_
    clear hK K
    refine wpAny_ready (rs := [1]) (by kernel_rfl) (by simp) ?_
    refine AllReady.cons rfl (fun K hK => ?_) AllReady.nil
    go_simp
    (with_reducible refine Calls.mono nY.out ?_)
    rintro e w3 ⟨rfl, h3, m3⟩
    refine hK _ _ ?_
    clear hK K
    have H3 := aa h3
    have iG := (Mv.drew b V1).trans m3
    have iU := aa iG
    have gy : V1.heap.size <= w3.heap.size := m3.size
    have dE := af jV.out iG cA
    have u9 := ad dE
    obtain ⟨⟨v0, v1, v2, v3, v4, v5⟩, -⟩ := aG dE
    clear h3 m3 iG dE
    refine wpAny_ready (rs := [4]) (by kernel_rfl) (by simp) ?_
    refine AllReady.cons rfl (fun K hK => ?_) AllReady.nil
    go_simp
    (with_reducible refine Calls.mono (mt jK.out H3.out (by omega) HE.out HD.out) ?_)
    rintro e w4 ⟨m4, ⟨t4, qq4, cx, hh, ho, rfl, hFx, h4, hh4, hT⟩ | ⟨ho, rfl⟩⟩
    ·refine hK _ _ ?_
     clear hK K
     have gB := aa hFx
     have H4 := aa h4
     have HT := aa hT
     have oJ := aa m4
     have HO : Hid (fD ex ts = some (qA t.s e1 t4, qq4)) := by
      rw [Ju.out, ho]
      exact rfl
     have tu := (gX HD.out _ _ _ vn.out ho).2
     have qc := m4.size
     have cR := af jV.out (iU.out.trans m4) cA
     have qb := ad cR
     obtain ⟨i0, i1, i2, j1, k1, l1, j2, k2, l2, j3, k3, l3, rfl⟩ := hFx
     obtain ⟨⟨x0, x1, x2, x3, x4, x5⟩, -⟩ := aG cR
     clear h4 m4 ho hT cR
     refine wpAny_ready (rs := [5]) (by kernel_rfl) (by simp) ?_
     refine AllReady.cons rfl (fun K hK => ?_) AllReady.nil
     go_simp
     refine hK _ _ ?_
     clear hK K
     refine wpAny_ready (rs := [6]) (by kernel_rfl) (by simp) ?_
     refine AllReady.cons rfl (fun K hK => ?_) AllReady.nil
     go_simp
     refine (dz (cf := [.int .i64 a0, .string a1, .int .i64 a2, .slice p1 q1 z1, .slice p2 q2 z2, .slice p3 q3 z3]) t.s qK.out gB.out _).mono ?_
     rintro e w5 ⟨g2, hg1, dj, rfl, gK, b5⟩
     refine hK _ _ ?_
     clear hK K
     have mb := aa ((iU.out.trans oJ.out).trans (Mv.of b5))
     have fW : Hid (∃ hh, hh + qq4.length <= ts.length /\ TreeT w5 (w.heap.size + 1) w5.heap.size hh 0 (qA t.s e1 t4) [.int .i64 9, .string t.s, .int .i64 0, .slice (some ⟨g2, 0, none⟩) 2 2, .slice none 0 0, .slice none 0 0]) := ns (d := d) au bV.out mb.out (by simp only [List.length_cons]; omega) (by simp only [List.length_cons]; omega) ((HT.out.keep (aw b5 U0)).up gy U0 U0) gK (by omega) hg1 cI
     have H5 := aa (H4.out.below b5)
     have mV := af bV.out.res mb.out (by omega)
     have BW := aa mV
     have KE := ad mV
     obtain ⟨⟨c0', c1', c2', c3', c4', c5'⟩, d0, d1, d2, d3, d4, d5⟩ := aG mV
     clear b5 gK mV
     refine wpAny_ready (rs := [7]) (by kernel_rfl) (by simp) ?_
     refine AllReady.cons rfl (fun K hK => ?_) AllReady.nil
     go_simp
     refine hK _ _ ?_
     clear hK K
     refine wpAny_done (by kernel_rfl) ?_ _
     go_wp2
     obtain ⟨hhN, hN1, Dc⟩ := fW.out
     exact bodyPost_ret (v := .agg #[.int .i64 9, .string t.s, .int .i64 0, .slice (some ⟨g2, 0, none⟩) 2 2, .slice none 0 0, .slice none 0 0]) (results_cell_row rfl _ _ w.heap.size 34 _ (0, 0) _ rfl (aZ BW.out _ _ _ _ _ _) Tryz.underlying34 rfl (by kernel_rfl)) rfl (gG au ec HO.out (bV.out.mv.trans mb.out) H5.out hN1 Dc ⟨_, _, _, _, _, _, _, _, _, _, _, _, rfl⟩)
    ·have ed : Hid (fD ex ts = none) := by
      rw [Ju.out, ho]
      exact rfl
     exact ⟨rfl, (bV.out.mv.trans iU.out).trans m4, .inr ⟨ed.out, rfl⟩⟩
 ·have M1 := aa ((Mv.of aq.out).trans m1)
  have HO : Hid (fD ex ts = none) := by
   unfold fD
   rw [ho]
   exact rfl
  clear m1 ho
  unfold ey
  go_wp2
  exact ⟨rfl, M1.out, .inr ⟨HO.out, rfl⟩⟩
end
theorem wi {one : bF} (h1 : bC one) {sep : ByteArray} (hs : sep ≠ ⟨#[]⟩) : ∀ m n ts, Ends ts -> ts.length <= m -> ts.length <= n -> aO one sep m ts = aO one sep n ts := by
 intro m
 induction m with
 | zero => intro n ts he hm _; obtain ⟨t, q, rfl⟩ := he.form; simp at hm
 | succ m ih =>
  intro n ts he hm hn
  cases n with
  | zero => obtain ⟨t, q, rfl⟩ := he.form; simp at hn
  | succ n =>
   unfold aO
   cases h : one ts with
   | none => rfl
   | some p =>
    obtain ⟨a1, a2⟩ := h1 ts p.1 p.2 he h
    show (if cg p.2 sep then _ else _) = (if cg p.2 sep then _ else _)
    split
    ·rename_i e
     obtain ⟨b1, b2⟩ := bG e a1 hs
     rw [ih n _ b1 (by omega) (by omega)]
    ·rfl
theorem fe {one : bF} (h1 : bC one) {sep : ByteArray} (hs : sep ≠ ⟨#[]⟩) {ts : List TokZ} (he : Ends ts) : aO one sep ts.length ts = (one ts).bind fun p => if cg p.2 sep then (aO one sep p.2.tail.length p.2.tail).map (fun q => (p.1 :: q.1, q.2)) else some ([p.1], p.2) := by
 obtain ⟨t, q, rfl⟩ := he.form
 rw [List.length_cons, aO]
 cases h : one (t :: q) with
 | none => rfl
 | some p =>
  obtain ⟨a1, a2⟩ := h1 _ p.1 p.2 he h
  show (if cg p.2 sep then _ else _) = (if cg p.2 sep then _ else _)
  split
  ·rename_i e
   obtain ⟨b1, b2⟩ := bG e a1 hs
   rw [wi h1 hs _ _ _ b1 (by simp only [List.length_cons] at a2; omega) U0]
   cases aO one sep p.2.tail.length p.2.tail with
   | none => rfl
   | some q => rfl
  ·rfl
def Fd (cs : List Value) : Prop := ∃ s o1 n1 c1 k t n o2 n2 c2 o3 n3 c3 o4 n4 c4 o5 n5 c5, cs = [.string s, .slice o1 n1 c1, .int .i64 k, .string t, .int .i64 n, .slice o2 n2 c2, .slice o3 n3 c3, .slice o4 n4 c4, .slice o5 n5 c5]
def Fa (cs : List Value) : Prop := ∃ s o1 n1 c1 k t n o2 n2 c2 o3 n3 c3 o4 n4 c4, cs = [.string s, .slice o1 n1 c1, .int .i64 k, .string t, .int .i64 n, .slice o2 n2 c2, .slice o3 n3 c3, .slice o4 n4 c4]
theorem Fd.one {cs : List Value} (h : Fd cs) : cs.length = 9 /\ ∀ u ∈ cs, u.oneCell' = true := by
 obtain ⟨s, o1, n1, c1, k, t, n, o2, n2, c2, o3, n3, c3, o4, n4, c4, o5, n5, c5, rfl⟩ := h
 refine ⟨rfl, fun u hu => ?_⟩
 simp only [List.mem_cons, List.not_mem_nil, or_false] at hu
 rcases hu with rfl | rfl | rfl | rfl | rfl | rfl | rfl | rfl | rfl <;> rfl
theorem Fa.one {cs : List Value} (h : Fa cs) : cs.length = 8 /\ ∀ u ∈ cs, u.oneCell' = true := by
 obtain ⟨s, o1, n1, c1, k, t, n, o2, n2, c2, o3, n3, c3, o4, n4, c4, rfl⟩ := h
 refine ⟨rfl, fun u hu => ?_⟩
 simp only [List.mem_cons, List.not_mem_nil, or_false] at hu
 rcases hu with rfl | rfl | rfl | rfl | rfl | rfl | rfl | rfl <;> rfl
def ResK (F : List Value -> Prop) (i : Nat) (A : Arr) (b d : Nat) (w : World) (r : Option (List TokZ)) (one : bF) (e : Ending) (w' : World) : Prop := ∃ cs, e = .returned (.agg cs.toArray) /\ F cs /\ St A b w' d (nxt r one) /\ Mv b w w' /\ Got w' w.heap.size w'.heap.size i r one cs
abbrev Jy := List TokZ -> Option (List Tr × List TokZ)
def oi (r : Option (List TokZ)) (bl : Jy) : Option (List TokZ) := r.bind fun ts => (bl ts).map (·.2)
def GotL (w : World) (s u i : Nat) (r : Option (List TokZ)) (bl : Jy) (v : Value) : Prop := ∀ ts l rest, r = some ts -> bl ts = some (l, rest) -> ∃ h, h + rest.length <= ts.length /\ RowT w s u h i v l
theorem GotL.keep {w w' : World} {s u s' u' i : Nat} {r : Option (List TokZ)} {bl : Jy} {v : Value} (h : GotL w s u i r bl v) (hk : ∀ b, s <= b -> b < u -> w'.heap[b]? = w.heap[b]?) (hs : s' <= s) (hu : u <= u') : GotL w' s' u' i r bl v := fun ts t rest e1 e2 => by
 obtain ⟨n, h1, h2⟩ := h ts t rest e1 e2
 exact ⟨n, h1, (h2.keep hk).up hs hu U0⟩
def AE (i : Nat) (A : Arr) (b d : Nat) (w : World) (r : Option (List TokZ)) (bl : Jy) (e : Ending) (w' : World) : Prop := ∃ o n c, e = .returned (.slice o n c) /\ St A b w' d (oi r bl) /\ Mv b w w' /\ GotL w' w.heap.size w'.heap.size i r bl (.slice o n c)
def CD (A : Arr) (b d n : Nat) (de : bF) : Prop := ∀ (w : World) (r : Option (List TokZ)), St A b w d r -> (∀ ts, r = some ts -> ts.length <= n) -> Calls Tryz.prog 29 #[.pointer (some ⟨b, 0, none⟩)] w (ResK Fd 1 A b d w r de)
def CA (A : Arr) (b d n : Nat) (al : bF) : Prop := ∀ (w : World) (r : Option (List TokZ)), St A b w d r -> (∀ ts, r = some ts -> ts.length <= n) -> Calls Tryz.prog 202 #[.pointer (some ⟨b, 0, none⟩)] w (ResK Fa 2 A b d w r al)
theorem pN : (Tryz.prog.info? 54).map (fun i => (i.zero.map (·.cells.size), i.size, i.bytes)) = some (some 9, 9, 168) := by kernel_rfl
theorem oQ : (Tryz.prog.info? 142).map (fun i => (i.zero.map (·.cells.size), i.size, i.bytes)) = some (some 8, 8, 144) := by kernel_rfl
theorem oE {T : TypeId} {i bytes : Nat} (hI : (Tryz.prog.info? (ls i)).map (fun i => (i.zero.map (·.cells.size), i.size, i.bytes)) = some (some (ij i), ij i, bytes)) (hT : Tryz.prog.underlying T = some (.slice (ls i))) (h0 : 0 < ij i) (hb : bytes <= 1000)
 {w : World} {s u u2 h : Nat} {v : Value} {xs : List Tr} {x : Tr} {c : List Value} (k : RowT w s u h i v xs) (kx : TreeT w u u2 h i x c) (hu : s <= u) (rV : u <= u2) (hw : u2 <= w.heap.size) (hn : xs.length + 1 <= 1000000) :
 ∃ o n cp o' c' w', v = .slice o n cp /\ (Builtin.append_ #[T, T] T #[.slice o n cp, .slice (some ⟨w.heap.size, 0, none⟩) 1 1]).run Tryz.prog (w.alloc (.cells c.toArray (ls i))) = .ok (.slice o' (xs.length + 1) c') w' /\ RowT w' s w'.heap.size h i (.slice o' (xs.length + 1) c') (xs ++ [x]) /\ Keeps (fun b => b < w.heap.size /\ (b < s \/ u <= b)) w w' := by
 obtain ⟨i0, hi, he⟩ := Option.map_eq_some_iff.1 hI
 simp only [Prod.mk.injEq] at he
 obtain ⟨z, hz, hzs⟩ := Option.map_eq_some_iff.1 he.1
 exact k.put hT hi hz he.2.1 he.2.2 hzs h0 hb kx hu rV hw hn
theorem uv {T : TypeId} {i bytes : Nat} (hI : (Tryz.prog.info? (ls i)).map (fun i => (i.zero.map (·.cells.size), i.size, i.bytes)) = some (some (ij i), ij i, bytes)) (hT : Tryz.prog.underlying T = some (.slice (ls i))) (h0 : 0 < ij i) (hb : bytes <= 1000)
 {w : World} {s u h : Nat} {v : Value} {xs : List Tr} {c : List Value} (k : RowT w s u h i v xs) (hc : c.length = ij i /\ ∀ u ∈ c, u.oneCell' = true) (hw : u <= w.heap.size) :
 ∃ o n cp o' n' c' w', v = .slice o n cp /\ (Builtin.append_ #[T, T] T #[.slice o n cp, .slice (some ⟨w.heap.size, 0, none⟩) 1 1]).run Tryz.prog (w.alloc (.cells c.toArray (ls i))) = .ok (.slice o' n' c') w' /\ Keeps (fun b => b < w.heap.size /\ (b < s \/ u <= b)) w w' := by
 obtain ⟨i0, hi, he⟩ := Option.map_eq_some_iff.1 hI
 simp only [Prod.mk.injEq] at he
 obtain ⟨z, hz, hzs⟩ := Option.map_eq_some_iff.1 he.1
 obtain ⟨bs, ⟨tp, css, bss, r1, r2, rfl⟩, k2⟩ := k
 obtain ⟨o, cp, e0, -⟩ := r1.form
 subst e0
 have ay : Below w.heap.size w (w.alloc (.cells c.toArray (ls i))) := (U4 w).alloc U0 _
 have cF : ∀ b ∈ ei (.slice o css.length cp) ++ bss.flatten, b < w.heap.size := fun b hb => by have := (k2.2 b hb).2; omega
 have r3 : Row (w.alloc (.cells c.toArray (ls i))) (ls i) (ij i) (.slice o css.length cp) css := r1.frame fun g hg => ay.block g (cF g (List.mem_append_left _ hg))
 obtain ⟨o', n', c', w', hr, hrow', lI, hbk⟩ := r3.append hT hi hz he.2.1 he.2.2 hzs h0 hb (by rw [r2.len.1]; omega) (a := w.heap.size) (c := c) hc.1 (fun j u hu => by
  have h9 := Go.Proofs.YtfomndilhlgikajGreatDoor.cell_of (heap_alloc_new w (.cells c.toArray (ls i))) j
  rw [h9, List.getElem?_toArray]
  exact hu) hc.2 T
 refine ⟨o, _, cp, o', n', c', w', rfl, hr, ⟨lI.os.trans ay.os, lI.tape.trans ay.tape, lI.output.trans ay.output, Nat.le_trans ay.size lI.size, fun b hb => (lI.block b (by simp; omega) fun e => ?_).trans (ay.block b hb.1)⟩⟩
 have gA : b ∈ ei (.slice o css.length cp) := by unfold ei; rw [<- e]; exact List.mem_singleton.2 rfl
 have h6 := k2.2 b (List.mem_append_left _ gA)
 omega
end Go.Proofs.YtfomndilhlgikajGreatDoor.Rd

import Derived.Test.YtfomndilhlgikajGreatDoorP24
set_option maxHeartbeats 8000000
set_option maxRecDepth 100000
namespace Go.Proofs.YtfomndilhlgikajGreatDoor.Rd
open Go.ChangeShapes Go.WideShapes Go.ChangeAt Go.RowKit
def du (one : bF) (ops : List ByteArray) : bF := fun ts => (one ts).bind fun p => cZ one ops p.2.length p.1 p.2
section
variable {b g d : Nat} {w : World} {ts : List TokZ}
theorem ui {one : bF} {n go m c : Nat} {o : Option Addr} {ops : List ByteArray} (h : Ir b g w d ts) (hn : ts.length <= n + 1) (hP : ∀ (w : World) (ts : List TokZ), Ir b g w d ts -> ts.length <= n + 1 -> Calls Tryz.prog 298 #[.pointer (some ⟨b, 0, none⟩)] w (ResI b g d w ts one)) (hD : bC one) (bU : ∀ s ∈ ops, s ≠ ⟨#[]⟩) (hm : ops.length = m) (hl : ops.length <= 100) (cF : RowOf (fun k => k = go) w fy 1 o ops) (uU : go ≠ b) : Calls Tryz.prog 284 #[.pointer (some ⟨b, 0, none⟩), .func (.func 298) #[.pointer (some ⟨b, 0, none⟩)] #[], .slice o m c] w (ResI b g d w ts (du one ops)) := by
 have au := h.lt
 have ec := h.glt
 have HP := aa hP
 have HD := aa hD
 have ti := aa bU
 have dh : Hid (∀ W, Mv b w W -> RowOf (fun k => k = go) W fy 1 o ops) := fun W hW => cF.frame ⟨hW.size, fun k hk hl => hW.block k ⟨hl, by rw [hk]; exact uU⟩⟩ (fun _ h => h) (fun _ _ h => h)
 have aq : Hid (Below w.heap.size w (w.alloc (.cells zE 34))) := (U4 w).alloc U0 _
 have H0 := aa (h.below aq.out)
 have HX : Hid ((w.alloc (.cells zE 34)).heap[w.heap.size]? = some (.cells zE 34 (0, 0))) := heap_alloc_new w _
 clear h hP hD cF bU
 go_enter Tryz.func284, Tryz.ntmps284
 go_wp2_with fail
 refine (HP.out _ _ H0.out hn).mono ?_
 rintro e w1 ⟨m1, ⟨e1, c1, cs, hh, ho, rfl, hFx, h1, hh1, hT⟩ | ⟨ho, rfl⟩⟩
 ·have HL : Hid (Li b g d w ts.length w1.heap.size _ e1 c1 cs) := Li.start (af HX.out m1 (by omega)) hFx h1 ((Mv.of aq.out).trans m1) hh1 (by simpa using hT)
  have HO : Hid (du one ops ts = cZ one ops c1.length e1 c1) := by
   unfold du
   rw [ho]
   exact rfl
  obtain ⟨a0, a1, a2, p1, q1, z1, p2, q2, z2, p3, q3, z3, rfl⟩ := hFx
  clear m1 ho h1 hT
  go_wp2
  go_loopw [] (fun wr => ∃ e0 c0 cs, Li b g d w ts.length w1.heap.size wr e0 c0 cs /\ du one ops ts = cZ one ops c0.length e0 c0) (fun wr => mi b wr)
  case atStart => exact ⟨_, _, _, HL.out, HO.out⟩
  case round =>
   obtain ⟨e0, c0, cs, hL, hq⟩ := hrel
   have bV := aa hL
   have HQ := aa hq
   have wP : Hid (mi b wr = c0.length) := hL.ir.mi
   have aC : Ends c0 := hL.ir.ends
   have cG := gQ HD.out ti.out e0 aC
   have dr := aa aC
   clear hL hq
   go_wp2_with fail
   refine (gS ops o m c hm hl (dh.out wr bV.out.mv) bV.out.ir).mono ?_
   rintro e w2 ⟨rfl, rfl⟩
   have dG := bV.out.box
   have iQ := bV.out.res
   have Kd := ad dG
   have lI := ad iQ
   have oI := bV.out.gw
   have jV := aa dG
   have qK := aa bV.out.fx
   obtain ⟨a0, a1, a2, p1, q1, z1, p2, q2, z2, p3, q3, z3, rfl⟩ := bV.out.fx
   obtain ⟨⟨y0, y1, y2, y3, y4, y5⟩, -⟩ := aG dG
   cases lH : ops.any (cg c0) with
   | false =>
    rw [lH, if_neg (by decide)] at cG
    have ed : Hid (du one ops ts = some (e0, c0)) := HQ.out.trans cG
    obtain ⟨⟨u0, u1, u2, u3, u4, u5⟩, f0, f1, f2, f3, f4, f5⟩ := aG iQ
    clear cG lH dG iQ aC
    go_wp2
    exact bodyPost_ret (v := .agg #[.int .i64 a0, .string a1, .int .i64 a2, .slice p1 q1 z1, .slice p2 q2 z2, .slice p3 q3 z3]) (results_cell_row rfl _ _ w.heap.size 34 _ (0, 0) _ rfl (aZ bV.out.res _ _ _ _ _ _) Tryz.underlying34 rfl (by kernel_rfl)) rfl (bV.out.fin au ec ed.out)
   | true =>
    rw [lH, if_pos rfl] at cG
    obtain ⟨s9, CK, hi9⟩ := List.any_eq_true.1 lH
    obtain ⟨t, q0, rfl, -⟩ := fl hi9
    have vn := aa (bG hi9 aC (ti.out s9 CK)).1
    have cI : t.s.size <= 1500 := aC.gd.size
    have dv := aa cG
    have wL : q0.length + 1 <= n + 1 := by
     obtain ⟨hh, h9, -⟩ := bV.out.tree
     simp only [List.length_cons] at h9
     omega
    have nY : Hid (Calls Tryz.prog 136 #[.pointer (some ⟨b, 0, none⟩)] w2.drew fun e w' => e = .returned (.string t.s) /\ Ir b g w' d q0 /\ Mv b w2.drew w') := eN (bV.out.ir.below (U4 w2).drew) vn.out
    have cA : ¬ w1.heap.size = b := by omega
    clear cG lH dG iQ aC hi9 CK
    go_upto_region 3 with fail
    refine wp_region_any (by kernel_rfl) ?_
    try (change wpAny _ _ _ _ _ _ _ (World.drew _))
    refine wpAny_take (i := 0) (v := .pointer (some ⟨b, 0, none⟩)) rfl (by kernel_rfl) (by kernel_rfl) (by kernel_rfl) (fun _ _ _ h => h) (Or.inl ⟨by rfl, fun w => by go_simp⟩) ?_
    refine wpAny_take (i := 3) (v := .func (.func 298) #[.pointer (some ⟨b, 0, none⟩)] #[]) rfl (by kernel_rfl) (by kernel_rfl) (by kernel_rfl) (fun _ _ _ h => h) (Or.inl ⟨by rfl, fun w => by go_simp⟩) ?_
    refine wpAny_ready (rs := [1, 2]) (by kernel_rfl) (by simp) ?_
    refine AllReady.cons rfl (fun K hK => ?_) (AllReady.cons rfl (fun K hK => ?_) AllReady.nil)
    ·go_simp
     (with_reducible refine Calls.mono nY.out ?_)
     rintro e w3 ⟨rfl, h3, m3⟩
     refine hK _ _ ?_
     clear hK K
     have H3 := aa h3
     have iG := (Mv.drew b w2).trans m3
     have iU := aa iG
     have gy : w2.heap.size <= w3.heap.size := m3.size
     have dE := af jV.out iG cA
     have u9 := ad dE
     obtain ⟨⟨v0, v1, v2, v3, v4, v5⟩, -⟩ := aG dE
     clear h3 m3 iG dE
     refine wpAny_ready (rs := [2, 4]) (by kernel_rfl) (by simp) ?_
     refine AllReady.cons rfl (fun K hK => ?_) (AllReady.cons rfl (fun K hK => ?_) AllReady.nil)
     ·go_simp
      refine hK _ _ ?_
      clear hK K
      refine wpAny_ready (rs := [4]) (by kernel_rfl) (by simp) ?_
      refine AllReady.cons rfl (fun K hK => ?_) AllReady.nil
      go_simp
      (with_reducible refine Calls.mono (HP.out w3 q0 H3.out (by omega)) ?_)
      rintro e w4 ⟨m4, ⟨t4, qq4, cx, hh, ho, rfl, hFx, h4, hh4, hT⟩ | ⟨ho, rfl⟩⟩
      ·refine hK _ _ ?_
       clear hK K
       have gB := aa hFx
       have H4 := aa h4
       have HT := aa hT
       have oJ := aa m4
       have HO : Hid (du one ops ts = cZ one ops qq4.length (qA t.s e0 t4) qq4) := by
        rw [HQ.out, dv.out]
        show (one q0).bind _ = _
        rw [ho]
        exact rfl
       have tu := (HD.out _ _ _ vn.out ho).2
       have qc := m4.size
       have cR := af jV.out (iU.out.trans m4) cA
       have qb := ad cR
       obtain ⟨i0, i1, i2, j1, k1, l1, j2, k2, l2, j3, k3, l3, rfl⟩ := hFx
       obtain ⟨⟨x0, x1, x2, x3, x4, x5⟩, -⟩ := aG cR
       clear h4 m4 ho hT cR
       refine wpAny_ready (rs := [5]) (by kernel_rfl) (by simp) ?_
       refine AllReady.cons rfl (fun K hK => ?_) AllReady.nil
       go_simp
       refine hK _ _ ?_
       clear hK K
       refine wpAny_ready (rs := [6]) (by kernel_rfl) (by simp) ?_
       refine AllReady.cons rfl (fun K hK => ?_) AllReady.nil
       go_simp
       refine (dz (cf := [.int .i64 a0, .string a1, .int .i64 a2, .slice p1 q1 z1, .slice p2 q2 z2, .slice p3 q3 z3]) t.s qK.out gB.out _).mono ?_
       rintro e w5 ⟨g2, hg1, dj, rfl, gK, b5⟩
       refine hK _ _ ?_
       clear hK K
       have mb := aa ((iU.out.trans oJ.out).trans (Mv.of b5))
       have fW : Hid _ := bV.out.next (y := t4) 9 t.s cI au ec mb.out (H4.out.below b5) (by simp only [List.length_cons]; omega) (by simp only [List.length_cons]; omega) ((HT.out.keep (aw b5 U0)).up gy U0 U0) gK (by omega) hg1
       have im := af jV.out mb.out cA
       have CF := ad im
       obtain ⟨⟨c0', c1', c2', c3', c4', c5'⟩, d0, d1, d2, d3, d4, d5⟩ := aG im
       clear b5 gK im
       refine wpAny_ready (rs := [7]) (by kernel_rfl) (by simp) ?_
       refine AllReady.cons rfl (fun K hK => ?_) AllReady.nil
       go_simp
       refine hK _ _ ?_
       clear hK K
       refine wpAny_done (by kernel_rfl) ?_ _
       go_wp2
       go_roundw
       case rel => exact ⟨_, _, _, fW.out, HO.out⟩
       case measure => exact Nat.lt_of_le_of_lt (Nat.le_of_eq fW.out.ir.mi) (by rw [wP.out]; simp only [List.length_cons]; omega)
      ·have ed : Hid (du one ops ts = none) := by
        rw [HQ.out, dv.out]
        show (one q0).bind _ = none
        rw [ho]
        exact rfl
       exact ⟨rfl, (bV.out.mv.trans iU.out).trans m4, .inr ⟨ed.out, rfl⟩⟩
     ·go_simp
      (with_reducible refine Calls.mono (HP.out w3 q0 H3.out (by omega)) ?_)
      rintro e w4 ⟨m4, ⟨t4, qq4, cx, hh, ho, rfl, hFx, h4, hh4, hT⟩ | ⟨ho, rfl⟩⟩
      ·refine hK _ _ ?_
       clear hK K
       have gB := aa hFx
       have H4 := aa h4
       have HT := aa hT
       have oJ := aa m4
       have HO : Hid (du one ops ts = cZ one ops qq4.length (qA t.s e0 t4) qq4) := by
        rw [HQ.out, dv.out]
        show (one q0).bind _ = _
        rw [ho]
        exact rfl
       have tu := (HD.out _ _ _ vn.out ho).2
       have qc := m4.size
       have cR := af jV.out (iU.out.trans m4) cA
       have qb := ad cR
       obtain ⟨i0, i1, i2, j1, k1, l1, j2, k2, l2, j3, k3, l3, rfl⟩ := hFx
       obtain ⟨⟨x0, x1, x2, x3, x4, x5⟩, -⟩ := aG cR
       clear h4 m4 ho hT cR
       refine wpAny_ready (rs := [2]) (by kernel_rfl) (by simp) ?_
       refine AllReady.cons rfl (fun K hK => ?_) AllReady.nil
       go_simp
       refine hK _ _ ?_
       clear hK K
       refine wpAny_ready (rs := [5]) (by kernel_rfl) (by simp) ?_
       refine AllReady.cons rfl (fun K hK => ?_) AllReady.nil
       go_simp
       refine hK _ _ ?_
       clear hK K
       refine wpAny_ready (rs := [6]) (by kernel_rfl) (by simp) ?_
       refine AllReady.cons rfl (fun K hK => ?_) AllReady.nil
       go_simp
       refine (dz (cf := [.int .i64 a0, .string a1, .int .i64 a2, .slice p1 q1 z1, .slice p2 q2 z2, .slice p3 q3 z3]) t.s qK.out gB.out _).mono ?_
       rintro e w5 ⟨g2, hg1, dj, rfl, gK, b5⟩
       refine hK _ _ ?_
       clear hK K
       have mb := aa ((iU.out.trans oJ.out).trans (Mv.of b5))
       have fW : Hid _ := bV.out.next (y := t4) 9 t.s cI au ec mb.out (H4.out.below b5) (by simp only [List.length_cons]; omega) (by simp only [List.length_cons]; omega) ((HT.out.keep (aw b5 U0)).up gy U0 U0) gK (by omega) hg1
       have im := af jV.out mb.out cA
       have CF := ad im
       obtain ⟨⟨c0', c1', c2', c3', c4', c5'⟩, d0, d1, d2, d3, d4, d5⟩ := aG im
       clear b5 gK im
       refine wpAny_ready (rs := [7]) (by kernel_rfl) (by simp) ?_
       refine AllReady.cons rfl (fun K hK => ?_) AllReady.nil
       go_simp
       refine hK _ _ ?_
       clear hK K
       refine wpAny_done (by kernel_rfl) ?_ _
       go_wp2
       go_roundw
       case rel => exact ⟨_, _, _, fW.out, HO.out⟩
       case measure => exact Nat.lt_of_le_of_lt (Nat.le_of_eq fW.out.ir.mi) (by rw [wP.out]; simp only [List.length_cons]; omega)
      ·have ed : Hid (du one ops ts = none) := by
        rw [HQ.out, dv.out]
        show (one q0).bind _ = none
        rw [ho]
        exact rfl
       exact ⟨rfl, (bV.out.mv.trans iU.out).trans m4, .inr ⟨ed.out, rfl⟩⟩
    ·go_simp
     refine hK _ _ ?_
     clear hK K
     refine wpAny_ready (rs := [1]) (by kernel_rfl) (by simp) ?_
     refine AllReady.cons rfl (fun K hK => ?_) AllReady.nil
     go_simp
     (with_reducible refine Calls.mono nY.out ?_)
     rintro e w3 ⟨rfl, h3, m3⟩
     refine hK _ _ ?_
     clear hK K
     have H3 := aa h3
     have iG := (Mv.drew b w2).trans m3
     have iU := aa iG
     have gy : w2.heap.size <= w3.heap.size := m3.size
     have dE := af jV.out iG cA
     have u9 := ad dE
     obtain ⟨⟨v0, v1, v2, v3, v4, v5⟩, -⟩ := aG dE
     clear h3 m3 iG dE
     refine wpAny_ready (rs := [4]) (by kernel_rfl) (by simp) ?_
     refine AllReady.cons rfl (fun K hK => ?_) AllReady.nil
     go_simp
     (with_reducible refine Calls.mono (HP.out w3 q0 H3.out (by omega)) ?_)
     rintro e w4 ⟨m4, ⟨t4, qq4, cx, hh, ho, rfl, hFx, h4, hh4, hT⟩ | ⟨ho, rfl⟩⟩
     ·refine hK _ _ ?_
      clear hK K
      have gB := aa hFx
      have H4 := aa h4
      have HT := aa hT
      have oJ := aa m4
      have HO : Hid (du one ops ts = cZ one ops qq4.length (qA t.s e0 t4) qq4) := by
       rw [HQ.out, dv.out]
       show (one q0).bind _ = _
       rw [ho]
       exact rfl
      have tu := (HD.out _ _ _ vn.out ho).2
      have qc := m4.size
      have cR := af jV.out (iU.out.trans m4) cA
      have qb := ad cR
      obtain ⟨i0, i1, i2, j1, k1, l1, j2, k2, l2, j3, k3, l3, rfl⟩ := hFx
      obtain ⟨⟨x0, x1, x2, x3, x4, x5⟩, -⟩ := aG cR
      clear h4 m4 ho hT cR
      refine wpAny_ready (rs := [5]) (by kernel_rfl) (by simp) ?_
      refine AllReady.cons rfl (fun K hK => ?_) AllReady.nil
      go_simp
      refine hK _ _ ?_
      clear hK K
      refine wpAny_ready (rs := [6]) (by kernel_rfl) (by simp) ?_
      refine AllReady.cons rfl (fun K hK => ?_) AllReady.nil
      go_simp
      refine (dz (cf := [.int .i64 a0, .string a1, .int .i64 a2, .slice p1 q1 z1, .slice p2 q2 z2, .slice p3 q3 z3]) t.s qK.out gB.out _).mono ?_
      rintro e w5 ⟨g2, hg1, dj, rfl, gK, b5⟩
      refine hK _ _ ?_
      clear hK K
      have mb := aa ((iU.out.trans oJ.out).trans (Mv.of b5))
      have fW : Hid _ := bV.out.next (y := t4) 9 t.s cI au ec mb.out (H4.out.below b5) (by simp only [List.length_cons]; omega) (by simp only [List.length_cons]; omega) ((HT.out.keep (aw b5 U0)).up gy U0 U0) gK (by omega) hg1
      have im := af jV.out mb.out cA
      have CF := ad im
      obtain ⟨⟨c0', c1', c2', c3', c4', c5'⟩, d0, d1, d2, d3, d4, d5⟩ := aG im
      clear b5 gK im
      refine wpAny_ready (rs := [7]) (by kernel_rfl) (by simp) ?_
      refine AllReady.cons rfl (fun K hK => ?_) AllReady.nil
      go_simp
      refine hK _ _ ?_
      clear hK K
      refine wpAny_done (by kernel_rfl) ?_ _
      go_wp2
      go_roundw
      case rel => exact ⟨_, _, _, fW.out, HO.out⟩
      case measure => exact Nat.lt_of_le_of_lt (Nat.le_of_eq fW.out.ir.mi) (by rw [wP.out]; simp only [List.length_cons]; omega)
     ·have ed : Hid (du one ops ts = none) := by
       rw [HQ.out, dv.out]
       show (one q0).bind _ = none
       rw [ho]
       exact rfl
      exact ⟨rfl, (bV.out.mv.trans iU.out).trans m4, .inr ⟨ed.out, rfl⟩⟩
 ·have M1 := aa ((Mv.of aq.out).trans m1)
  have HO : Hid (du one ops ts = none) := by
   unfold du
   rw [ho]
   exact rfl
  clear m1 ho
  unfold ey
  go_wp2
  exact ⟨rfl, M1.out, .inr ⟨HO.out, rfl⟩⟩
end
section
variable {b g d : Nat} {w : World} {ts : List TokZ}
theorem uD {one : bF} {n go m c : Nat} {o : Option Addr} {ops : List ByteArray} (h : Ir b g w d ts) (hn : ts.length <= n + 1) (hP : ∀ (w : World) (ts : List TokZ), Ir b g w d ts -> ts.length <= n + 1 -> Calls Tryz.prog 285 #[.pointer (some ⟨b, 0, none⟩)] w (ResI b g d w ts one)) (hD : bC one) (bU : ∀ s ∈ ops, s ≠ ⟨#[]⟩) (hm : ops.length = m) (hl : ops.length <= 100) (cF : RowOf (fun k => k = go) w fy 1 o ops) (uU : go ≠ b) : Calls Tryz.prog 284 #[.pointer (some ⟨b, 0, none⟩), .func (.func 285) #[.pointer (some ⟨b, 0, none⟩)] #[], .slice o m c] w (ResI b g d w ts (du one ops)) := by
 have au := h.lt
 have ec := h.glt
 have HP := aa hP
 have HD := aa hD
 have ti := aa bU
 have dh : Hid (∀ W, Mv b w W -> RowOf (fun k => k = go) W fy 1 o ops) := fun W hW => cF.frame ⟨hW.size, fun k hk hl => hW.block k ⟨hl, by rw [hk]; exact uU⟩⟩ (fun _ h => h) (fun _ _ h => h)
 have aq : Hid (Below w.heap.size w (w.alloc (.cells zE 34))) := (U4 w).alloc U0 _
 have H0 := aa (h.below aq.out)
 have HX : Hid ((w.alloc (.cells zE 34)).heap[w.heap.size]? = some (.cells zE 34 (0, 0))) := heap_alloc_new w _
 clear h hP hD cF bU
 go_enter Tryz.func284, Tryz.ntmps284
 go_wp2_with fail
 refine (HP.out _ _ H0.out hn).mono ?_
 rintro e w1 ⟨m1, ⟨e1, c1, cs, hh, ho, rfl, hFx, h1, hh1, hT⟩ | ⟨ho, rfl⟩⟩
 ·have HL : Hid (Li b g d w ts.length w1.heap.size _ e1 c1 cs) := Li.start (af HX.out m1 (by omega)) hFx h1 ((Mv.of aq.out).trans m1) hh1 (by simpa using hT)
  have HO : Hid (du one ops ts = cZ one ops c1.length e1 c1) := by
   unfold du
   rw [ho]
   exact rfl
  obtain ⟨a0, a1, a2, p1, q1, z1, p2, q2, z2, p3, q3, z3, rfl⟩ := hFx
  clear m1 ho h1 hT
  go_wp2
  go_loopw [] (fun wr => ∃ e0 c0 cs, Li b g d w ts.length w1.heap.size wr e0 c0 cs /\ du one ops ts = cZ one ops c0.length e0 c0) (fun wr => mi b wr)
  case atStart => exact ⟨_, _, _, HL.out, HO.out⟩
  case round =>
   obtain ⟨e0, c0, cs, hL, hq⟩ := hrel
   have bV := aa hL
   have HQ := aa hq
   have wP : Hid (mi b wr = c0.length) := hL.ir.mi
   have aC : Ends c0 := hL.ir.ends
   have cG := gQ HD.out ti.out e0 aC
   have dr := aa aC
   clear hL hq
   go_wp2_with fail
   refine (gS ops o m c hm hl (dh.out wr bV.out.mv) bV.out.ir).mono ?_
   rintro e w2 ⟨rfl, rfl⟩
   have dG := bV.out.box
   have iQ := bV.out.res
   have Kd := ad dG
   have lI := ad iQ
   have oI := bV.out.gw
   have jV := aa dG
   have qK := aa bV.out.fx
   obtain ⟨a0, a1, a2, p1, q1, z1, p2, q2, z2, p3, q3, z3, rfl⟩ := bV.out.fx
   obtain ⟨⟨y0, y1, y2, y3, y4, y5⟩, -⟩ := aG dG
   cases lH : ops.any (cg c0) with
   | false =>
    rw [lH, if_neg (by decide)] at cG
    have ed : Hid (du one ops ts = some (e0, c0)) := HQ.out.trans cG
    obtain ⟨⟨u0, u1, u2, u3, u4, u5⟩, f0, f1, f2, f3, f4, f5⟩ := aG iQ
    clear cG lH dG iQ aC
    go_wp2
    exact bodyPost_ret (v := .agg #[.int .i64 a0, .string a1, .int .i64 a2, .slice p1 q1 z1, .slice p2 q2 z2, .slice p3 q3 z3]) (results_cell_row rfl _ _ w.heap.size 34 _ (0, 0) _ rfl (aZ bV.out.res _ _ _ _ _ _) Tryz.underlying34 rfl (by kernel_rfl)) rfl (bV.out.fin au ec ed.out)
   | true =>
    rw [lH, if_pos rfl] at cG
    obtain ⟨s9, CK, hi9⟩ := List.any_eq_true.1 lH
    obtain ⟨t, q0, rfl, -⟩ := fl hi9
    have vn := aa (bG hi9 aC (ti.out s9 CK)).1
    have cI : t.s.size <= 1500 := aC.gd.size
    have dv := aa cG
    have wL : q0.length + 1 <= n + 1 := by
     obtain ⟨hh, h9, -⟩ := bV.out.tree
     simp only [List.length_cons] at h9
     omega
    have nY : Hid (Calls Tryz.prog 136 #[.pointer (some ⟨b, 0, none⟩)] w2.drew fun e w' => e = .returned (.string t.s) /\ Ir b g w' d q0 /\ Mv b w2.drew w') := eN (bV.out.ir.below (U4 w2).drew) vn.out
    have cA : ¬ w1.heap.size = b := by omega
    clear cG lH dG iQ aC hi9 CK
    go_upto_region 3 with fail
    refine wp_region_any (by kernel_rfl) ?_
    try (change wpAny _ _ _ _ _ _ _ (World.drew _))
    refine wpAny_take (i := 0) (v := .pointer (some ⟨b, 0, none⟩)) rfl (by kernel_rfl) (by kernel_rfl) (by kernel_rfl) (fun _ _ _ h => h) (Or.inl ⟨by rfl, fun w => by go_simp⟩) ?_
    refine wpAny_take (i := 3) (v := .func (.func 285) #[.pointer (some ⟨b, 0, none⟩)] #[]) rfl (by kernel_rfl) (by kernel_rfl) (by kernel_rfl) (fun _ _ _ h => h) (Or.inl ⟨by rfl, fun w => by go_simp⟩) ?_
    refine wpAny_ready (rs := [1, 2]) (by kernel_rfl) (by simp) ?_
    refine AllReady.cons rfl (fun K hK => ?_) (AllReady.cons rfl (fun K hK => ?_) AllReady.nil)
    ·go_simp
     (with_reducible refine Calls.mono nY.out ?_)
     rintro e w3 ⟨rfl, h3, m3⟩
     refine hK _ _ ?_
     clear hK K
     have H3 := aa h3
     have iG := (Mv.drew b w2).trans m3
     have iU := aa iG
     have gy : w2.heap.size <= w3.heap.size := m3.size
     have dE := af jV.out iG cA
     have u9 := ad dE
     obtain ⟨⟨v0, v1, v2, v3, v4, v5⟩, -⟩ := aG dE
     clear h3 m3 iG dE
     refine wpAny_ready (rs := [2, 4]) (by kernel_rfl) (by simp) ?_
     refine AllReady.cons rfl (fun K hK => ?_) (AllReady.cons rfl (fun K hK => ?_) AllReady.nil)
     ·go_simp
      refine hK _ _ ?_
      clear hK K
      refine wpAny_ready (rs := [4]) (by kernel_rfl) (by simp) ?_
      refine AllReady.cons rfl (fun K hK => ?_) AllReady.nil
      go_simp
      (with_reducible refine Calls.mono (HP.out w3 q0 H3.out (by omega)) ?_)
      rintro e w4 ⟨m4, ⟨t4, qq4, cx, hh, ho, rfl, hFx, h4, hh4, hT⟩ | ⟨ho, rfl⟩⟩
      ·refine hK _ _ ?_
       clear hK K
       have gB := aa hFx
       have H4 := aa h4
       have HT := aa hT
       have oJ := aa m4
       have HO : Hid (du one ops ts = cZ one ops qq4.length (qA t.s e0 t4) qq4) := by
        rw [HQ.out, dv.out]
        show (one q0).bind _ = _
        rw [ho]
        exact rfl
       have tu := (HD.out _ _ _ vn.out ho).2
       have qc := m4.size
       have cR := af jV.out (iU.out.trans m4) cA
       have qb := ad cR
       obtain ⟨i0, i1, i2, j1, k1, l1, j2, k2, l2, j3, k3, l3, rfl⟩ := hFx
       obtain ⟨⟨x0, x1, x2, x3, x4, x5⟩, -⟩ := aG cR
       clear h4 m4 ho hT cR
       refine wpAny_ready (rs := [5]) (by kernel_rfl) (by simp) ?_
       refine AllReady.cons rfl (fun K hK => ?_) AllReady.nil
       go_simp
       refine hK _ _ ?_
       clear hK K
       refine wpAny_ready (rs := [6]) (by kernel_rfl) (by simp) ?_
       refine AllReady.cons rfl (fun K hK => ?_) AllReady.nil
       go_simp
       refine (dz (cf := [.int .i64 a0, .string a1, .int .i64 a2, .slice p1 q1 z1, .slice p2 q2 z2, .slice p3 q3 z3]) t.s qK.out gB.out _).mono ?_
       rintro e w5 ⟨g2, hg1, dj, rfl, gK, b5⟩
       refine hK _ _ ?_
       clear hK K
       have mb := aa ((iU.out.trans oJ.out).trans (Mv.of b5))
       have fW : Hid _ := bV.out.next (y := t4) 9 t.s cI au ec mb.out (H4.out.below b5) (by simp only [List.length_cons]; omega) (by simp only [List.length_cons]; omega) ((HT.out.keep (aw b5 U0)).up gy U0 U0) gK (by omega) hg1
       have im := af jV.out mb.out cA
       have CF := ad im
       obtain ⟨⟨c0', c1', c2', c3', c4', c5'⟩, d0, d1, d2, d3, d4, d5⟩ := aG im
       clear b5 gK im
       refine wpAny_ready (rs := [7]) (by kernel_rfl) (by simp) ?_
       refine AllReady.cons rfl (fun K hK => ?_) AllReady.nil
       go_simp
       refine hK _ _ ?_
       clear hK K
       refine wpAny_done (by kernel_rfl) ?_ _
       go_wp2
       go_roundw
       case rel => exact ⟨_, _, _, fW.out, HO.out⟩
       case measure => exact Nat.lt_of_le_of_lt (Nat.le_of_eq fW.out.ir.mi) (by rw [wP.out]; simp only [List.length_cons]; omega)
      ·have ed : Hid (du one ops ts = none) := by
        rw [HQ.out, dv.out]
        show (one q0).bind _ = none
        rw [ho]
        exact rfl
       exact ⟨rfl, (bV.out.mv.trans iU.out).trans m4, .inr ⟨ed.out, rfl⟩⟩
     ·go_simp
      (with_reducible refine Calls.mono (HP.out w3 q0 H3.out (by omega)) ?_)
      rintro e w4 ⟨m4, ⟨t4, qq4, cx, hh, ho, rfl, hFx, h4, hh4, hT⟩ | ⟨ho, rfl⟩⟩
      ·refine hK _ _ ?_
       clear hK K
       have gB := aa hFx
       have H4 := aa h4
       have HT := aa hT
       have oJ := aa m4
       have HO : Hid (du one ops ts = cZ one ops qq4.length (qA t.s e0 t4) qq4) := by
        rw [HQ.out, dv.out]
        show (one q0).bind _ = _
        rw [ho]
        exact rfl
       have tu := (HD.out _ _ _ vn.out ho).2
       have qc := m4.size
       have cR := af jV.out (iU.out.trans m4) cA
       have qb := ad cR
       obtain ⟨i0, i1, i2, j1, k1, l1, j2, k2, l2, j3, k3, l3, rfl⟩ := hFx
       obtain ⟨⟨x0, x1, x2, x3, x4, x5⟩, -⟩ := aG cR
       clear h4 m4 ho hT cR
       refine wpAny_ready (rs := [2]) (by kernel_rfl) (by simp) ?_
       refine AllReady.cons rfl (fun K hK => ?_) AllReady.nil
       go_simp
       refine hK _ _ ?_
       clear hK K
       refine wpAny_ready (rs := [5]) (by kernel_rfl) (by simp) ?_
       refine AllReady.cons rfl (fun K hK => ?_) AllReady.nil
       go_simp
       refine hK _ _ ?_
       clear hK K
       refine wpAny_ready (rs := [6]) (by kernel_rfl) (by simp) ?_
       refine AllReady.cons rfl (fun K hK => ?_) AllReady.nil
       go_simp
       refine (dz (cf := [.int .i64 a0, .string a1, .int .i64 a2, .slice p1 q1 z1, .slice p2 q2 z2, .slice p3 q3 z3]) t.s qK.out gB.out _).mono ?_
       rintro e w5 ⟨g2, hg1, dj, rfl, gK, b5⟩
       refine hK _ _ ?_
       clear hK K
       have mb := aa ((iU.out.trans oJ.out).trans (Mv.of b5))
       have fW : Hid _ := bV.out.next (y := t4) 9 t.s cI au ec mb.out (H4.out.below b5) (by simp only [List.length_cons]; omega) (by simp only [List.length_cons]; omega) ((HT.out.keep (aw b5 U0)).up gy U0 U0) gK (by omega) hg1
       have im := af jV.out mb.out cA
       have CF := ad im
       obtain ⟨⟨c0', c1', c2', c3', c4', c5'⟩, d0, d1, d2, d3, d4, d5⟩ := aG im
       clear b5 gK im
       refine wpAny_ready (rs := [7]) (by kernel_rfl) (by simp) ?_
       refine AllReady.cons rfl (fun K hK => ?_) AllReady.nil
       go_simp
       refine hK _ _ ?_
       clear hK K
       refine wpAny_done (by kernel_rfl) ?_ _
       go_wp2
       go_roundw
       case rel => exact ⟨_, _, _, fW.out, HO.out⟩
       case measure => exact Nat.lt_of_le_of_lt (Nat.le_of_eq fW.out.ir.mi) (by rw [wP.out]; simp only [List.length_cons]; omega)
      ·have ed : Hid (du one ops ts = none) := by
        rw [HQ.out, dv.out]
        show (one q0).bind _ = none
        rw [ho]
        exact rfl
       exact ⟨rfl, (bV.out.mv.trans iU.out).trans m4, .inr ⟨ed.out, rfl⟩⟩
    ·go_simp
     refine hK _ _ ?_
     clear hK K
     refine wpAny_ready (rs := [1]) (by kernel_rfl) (by simp) ?_
     refine AllReady.cons rfl (fun K hK => ?_) AllReady.nil
     go_simp
     (with_reducible refine Calls.mono nY.out ?_)
     rintro e w3 ⟨rfl, h3, m3⟩
     refine hK _ _ ?_
     clear hK K
     have H3 := aa h3
     have iG := (Mv.drew b w2).trans m3
     have iU := aa iG
     have gy : w2.heap.size <= w3.heap.size := m3.size
     have dE := af jV.out iG cA
     have u9 := ad dE
     obtain ⟨⟨v0, v1, v2, v3, v4, v5⟩, -⟩ := aG dE
     clear h3 m3 iG dE
     refine wpAny_ready (rs := [4]) (by kernel_rfl) (by simp) ?_
     refine AllReady.cons rfl (fun K hK => ?_) AllReady.nil
     go_simp
     (with_reducible refine Calls.mono (HP.out w3 q0 H3.out (by omega)) ?_)
     rintro e w4 ⟨m4, ⟨t4, qq4, cx, hh, ho, rfl, hFx, h4, hh4, hT⟩ | ⟨ho, rfl⟩⟩
     ·refine hK _ _ ?_
      clear hK K
      have gB := aa hFx
      have H4 := aa h4
      have HT := aa hT
      have oJ := aa m4
      have HO : Hid (du one ops ts = cZ one ops qq4.length (qA t.s e0 t4) qq4) := by
       rw [HQ.out, dv.out]
       show (one q0).bind _ = _
       rw [ho]
       exact rfl
      have tu := (HD.out _ _ _ vn.out ho).2
      have qc := m4.size
      have cR := af jV.out (iU.out.trans m4) cA
      have qb := ad cR
      obtain ⟨i0, i1, i2, j1, k1, l1, j2, k2, l2, j3, k3, l3, rfl⟩ := hFx
      obtain ⟨⟨x0, x1, x2, x3, x4, x5⟩, -⟩ := aG cR
      clear h4 m4 ho hT cR
      refine wpAny_ready (rs := [5]) (by kernel_rfl) (by simp) ?_
      refine AllReady.cons rfl (fun K hK => ?_) AllReady.nil
      go_simp
      refine hK _ _ ?_
      clear hK K
      refine wpAny_ready (rs := [6]) (by kernel_rfl) (by simp) ?_
      refine AllReady.cons rfl (fun K hK => ?_) AllReady.nil
      go_simp
      refine (dz (cf := [.int .i64 a0, .string a1, .int .i64 a2, .slice p1 q1 z1, .slice p2 q2 z2, .slice p3 q3 z3]) t.s qK.out gB.out _).mono ?_
      rintro e w5 ⟨g2, hg1, dj, rfl, gK, b5⟩
      refine hK _ _ ?_
      clear hK K
      have mb := aa ((iU.out.trans oJ.out).trans (Mv.of b5))
      have fW : Hid _ := bV.out.next (y := t4) 9 t.s cI au ec mb.out (H4.out.below b5) (by simp only [List.length_cons]; omega) (by simp only [List.length_cons]; omega) ((HT.out.keep (aw b5 U0)).up gy U0 U0) gK (by omega) hg1
      have im := af jV.out mb.out cA
      have CF := ad im
      obtain ⟨⟨c0', c1', c2', c3', c4', c5'⟩, d0, d1, d2, d3, d4, d5⟩ := aG im
      clear b5 gK im
      refine wpAny_ready (rs := [7]) (by kernel_rfl) (by simp) ?_
      refine AllReady.cons rfl (fun K hK => ?_) AllReady.nil
      go_simp
      refine hK _ _ ?_
      clear hK K
      refine wpAny_done (by kernel_rfl) ?_ _
      go_wp2
      go_roundw
      case rel => exact ⟨_, _, _, fW.out, HO.out⟩
      case measure => exact Nat.lt_of_le_of_lt (Nat.le_of_eq fW.out.ir.mi) (by rw [wP.out]; simp only [List.length_cons]; omega)
     ·have ed : Hid (du one ops ts = none) := by
       rw [HQ.out, dv.out]
       show (one q0).bind _ = none
       rw [ho]
       exact rfl
      exact ⟨rfl, (bV.out.mv.trans iU.out).trans m4, .inr ⟨ed.out, rfl⟩⟩
 ·have M1 := aa ((Mv.of aq.out).trans m1)
  have HO : Hid (du one ops ts = none) := by
   unfold du
   rw [ho]
   exact rfl
  clear m1 ho
  unfold ey
  go_wp2
  exact ⟨rfl, M1.out, .inr ⟨HO.out, rfl⟩⟩
end
end Go.Proofs.YtfomndilhlgikajGreatDoor.Rd

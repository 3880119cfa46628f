import Derived.Test.YtfomndilhlgikajGreatDoorP23
set_option maxHeartbeats 8000000
set_option maxRecDepth 100000
namespace Go.Proofs.YtfomndilhlgikajGreatDoor.Rd
open Go.ChangeShapes Go.WideShapes Go.ChangeAt Go.RowKit
def tQ : Prop := ∀ (s : ByteArray) (w : World), 1 <= s.size -> s.size <= 6 -> (∀ c ∈ s.data.toList, 48 <= c.toNat /\ c.toNat <= 57) -> Calls Tryz.prog 316 #[.string s] w fun e w' => e = .returned (.int .i64 (qz s)) /\ Below w.heap.size w w'
section
variable {b g d : Nat} {w : World} {ts : List TokZ}
theorem gG {V : World} {one : bF} {t : Tr} {q : List TokZ} {h : Nat} {c0 c1 c2 c3 c4 c5 : Value} (au : b < w.heap.size) (hg : g < w.heap.size) (ho : one ts = some (t, q)) (hM : Mv b w V) (hI : Ir b g V d q) (hh : h + q.length <= ts.length) (hT : TreeT V (w.heap.size + 1) V.heap.size h 0 t [c0, c1, c2, c3, c4, c5]) (hF : Fx [c0, c1, c2, c3, c4, c5]) : ResI b g d w ts one (.returned (.agg #[c0, c1, c2, c3, c4, c5])) (jp V w.heap.size c0 c1 c2 c3 c4 c5) := by
 have hk := cU V w.heap.size c0 c1 c2 c3 c4 c5
 refine ⟨Keeps.mvo hM hk U0, .inl ⟨t, q, _, h, ho, rfl, hF, hI.other hk (by omega) (by omega), hh, ?_⟩⟩
 rw [eL]
 exact (hT.keep fun k a1 a2 => hk.block k (by show _ ≠ _; omega)).up (by omega) U0 U0
theorem vC : jF ts = (isK ts 1 || isK ts 2 || isK ts 3 || cg ts sPl) := rfl
theorem tL (h : Ir b g w d ts) : Calls Tryz.prog 309 #[.pointer (some ⟨b, 0, none⟩)] w fun e w' => e = .returned (.bool (jF ts)) /\ Ir b g w' d ts /\ Mv b w w' := by
 have H := aa h
 have au := h.lt
 have HB : Hid (Below w.heap.size w (w.alloc (.cells #[.string sPl] 9))) := (U4 w).alloc U0 _
 have H0 := aa (h.below HB.out)
 have HR := aa (pP w sPl (by decide))
 have gJ := aa (bL 1 h)
 have eH := aa (bL 2 h)
 have qH := aa (bL 3 h)
 clear h
 rw [vC]
 generalize isK ts 1 = x1 at *
 generalize isK ts 2 = x2 at *
 generalize isK ts 3 = x3 at *
 cases x1 with
 | true =>
  go_enter Tryz.func309, Tryz.ntmps309
  go_wp2_with fail
  refine gJ.out.mono ?_
  rintro e w1 ⟨rfl, rfl⟩
  go_wp2
  go_ret
  exact ⟨ah (by simp), H.out, Mv.refl _ _⟩
 | false =>
  cases x2 with
  | true =>
   go_enter Tryz.func309, Tryz.ntmps309
   go_wp2_with fail
   refine gJ.out.mono ?_
   rintro e w1 ⟨rfl, rfl⟩
   go_wp2_with fail
   refine eH.out.mono ?_
   rintro e w2 ⟨rfl, rfl⟩
   go_wp2
   go_ret
   exact ⟨ah (by simp), H.out, Mv.refl _ _⟩
  | false =>
   cases x3 with
   | true =>
    go_enter Tryz.func309, Tryz.ntmps309
    go_wp2_with fail
    refine gJ.out.mono ?_
    rintro e w1 ⟨rfl, rfl⟩
    go_wp2_with fail
    refine eH.out.mono ?_
    rintro e w2 ⟨rfl, rfl⟩
    go_wp2_with fail
    refine qH.out.mono ?_
    rintro e w3 ⟨rfl, rfl⟩
    go_wp2
    go_ret
    exact ⟨ah (by simp), H.out, Mv.refl _ _⟩
   | false =>
    go_enter Tryz.func309, Tryz.ntmps309
    go_wp2_with fail
    refine gJ.out.mono ?_
    rintro e w1 ⟨rfl, rfl⟩
    go_wp2_with fail
    refine eH.out.mono ?_
    rintro e w2 ⟨rfl, rfl⟩
    go_wp2_with fail
    refine qH.out.mono ?_
    rintro e w3 ⟨rfl, rfl⟩
    go_wp2_with fail
    refine (gS [sPl] _ 1 1 rfl (by simp) HR.out H0.out).mono ?_
    rintro e w4 ⟨rfl, rfl⟩
    go_wp2
    go_ret
    exact ⟨ah (by simp), H0.out, Mv.of HB.out⟩
theorem sd {k : Int} (hk : k ≠ 6) (h : isK ts k = true) (he : Ends ts) : ∃ t q, ts = t :: q /\ Ends q /\ t.s.size <= 1500 /\ t.k = k := by
 obtain ⟨t, q, rfl, e⟩ := mO h
 exact ⟨t, q, rfl, he.next (.inl (by rw [e]; exact hk)), he.gd.size, e⟩
theorem rx {ex : bF} {n : Nat} (hN : tQ) (h : Ir b g w d ts) (hn : ts.length <= n + 1) (hE : CI b g d n ex) : Calls Tryz.prog 308 #[.pointer (some ⟨b, 0, none⟩)] w (ResI b g d w ts (b9 ex)) := by
 have au := h.lt
 have ec := h.glt
 have HE := aa hE
 have HN := aa hN
 have dr := aa h.ends
 have aq : Hid (Below w.heap.size w (w.alloc (.cells zE 34))) := (U4 w).alloc U0 _
 have H0 := aa (h.below aq.out)
 have HX : Hid ((w.alloc (.cells zE 34)).heap[w.heap.size]? = some (.cells zE 34 (0, 0))) := heap_alloc_new w _
 clear h hE hN
 cases dV : isK ts 1 with
 | true =>
  obtain ⟨t, q, rfl, hq, cI, -⟩ := sd (by decide) dV dr.out
  have HQ := aa hq
  have gJ := aa (bL 1 H0.out)
  rw [dV] at gJ
  have Fb : Hid (b9 ex (t :: q) = some (FM t.s, q)) := sI dV
  clear dV hq
  go_enter Tryz.func308, Tryz.ntmps308
  go_wp2_with fail
  refine gJ.out.mono ?_
  rintro e w1 ⟨rfl, rfl⟩
  go_wp2_with fail
  refine (eN H0.out HQ.out).mono ?_
  rintro e w2 ⟨rfl, h2, m2⟩
  have H2 := aa h2
  have M2 := aa ((Mv.of aq.out).trans m2)
  have X2 := aa (af HX.out m2 (by omega))
  clear h2 m2
  go_wp2_with fail
  refine (sq t.s _).mono ?_
  rintro e w3 ⟨rfl, b3⟩
  have H3 := aa (H2.out.below b3)
  have M3 := aa (M2.out.trans (Mv.of b3))
  have x3 := af X2.out (Mv.of (b := b) b3) (by omega)
  have X3 := aa x3
  obtain ⟨⟨y0, y1, y2, y3, y4, y5⟩, f0, f1, f2, f3, f4, f5⟩ := aG x3
  have eP : w.heap.size < w3.heap.size := ad x3
  clear b3 x3
  go_wp2
  exact bodyPost_ret (v := .agg #[.int .i64 1, .string t.s, .int .i64 0, .slice none 0 0, .slice none 0 0, .slice none 0 0]) (results_cell_row rfl _ _ w.heap.size 34 _ (0, 0) _ rfl (aZ X3.out _ _ _ _ _ _) Tryz.underlying34 rfl (by kernel_rfl)) rfl (gG au ec Fb.out M3.out H3.out (h := 1) (by simp only [List.length_cons]; omega) (kR w3 _ _ 1 t.s (by unfold maxLen; omega) 0 (by omega)) ⟨_, _, _, _, _, _, _, _, _, _, _, _, rfl⟩)
 | false =>
 cases aL : isK ts 2 with
 | true =>
  obtain ⟨t, q, rfl, hq, cI, -⟩ := sd (by decide) aL dr.out
  have HQ := aa hq
  have gJ := aa (bL 1 H0.out)
  have eH := aa (bL 2 H0.out)
  rw [dV] at gJ
  rw [aL] at eH
  have Fb : Hid (b9 ex (t :: q) = some (ws t.s, q)) := sL dV aL
  clear dV aL hq
  go_enter Tryz.func308, Tryz.ntmps308
  go_wp2_with fail
  refine gJ.out.mono ?_
  rintro e w1 ⟨rfl, rfl⟩
  go_wp2_with fail
  refine eH.out.mono ?_
  rintro e w1 ⟨rfl, rfl⟩
  go_wp2_with fail
  refine (eN H0.out HQ.out).mono ?_
  rintro e w2 ⟨rfl, h2, m2⟩
  have H2 := aa h2
  have M2 := aa ((Mv.of aq.out).trans m2)
  have X2 := aa (af HX.out m2 (by omega))
  clear h2 m2
  go_wp2_with fail
  refine (qB t.s _).mono ?_
  rintro e w3 ⟨rfl, b3⟩
  have H3 := aa (H2.out.below b3)
  have M3 := aa (M2.out.trans (Mv.of b3))
  have x3 := af X2.out (Mv.of (b := b) b3) (by omega)
  have X3 := aa x3
  obtain ⟨⟨y0, y1, y2, y3, y4, y5⟩, f0, f1, f2, f3, f4, f5⟩ := aG x3
  have eP : w.heap.size < w3.heap.size := ad x3
  clear b3 x3
  go_wp2
  exact bodyPost_ret (v := .agg #[.int .i64 2, .string t.s, .int .i64 0, .slice none 0 0, .slice none 0 0, .slice none 0 0]) (results_cell_row rfl _ _ w.heap.size 34 _ (0, 0) _ rfl (aZ X3.out _ _ _ _ _ _) Tryz.underlying34 rfl (by kernel_rfl)) rfl (gG au ec Fb.out M3.out H3.out (h := 1) (by simp only [List.length_cons]; omega) (kR w3 _ _ 2 t.s (by unfold maxLen; omega) 0 (by omega)) ⟨_, _, _, _, _, _, _, _, _, _, _, _, rfl⟩)
 | false =>
 cases d9 : isK ts 3 with
 | true =>
  obtain ⟨t, q, rfl, hq, cI, Dt⟩ := sd (by decide) d9 dr.out
  have jS := dr.out.gd.num Dt
  have CY := aa (HN.out t.s · jS.1 jS.2.1 jS.2.2)
  have HQ := aa hq
  have gJ := aa (bL 1 H0.out)
  have eH := aa (bL 2 H0.out)
  have qH := aa (bL 3 H0.out)
  rw [dV] at gJ
  rw [aL] at eH
  rw [d9] at qH
  have Fb : Hid (b9 ex (t :: q) = some (Gs (qz t.s), q)) := xt dV aL d9
  clear dV aL d9 hq jS Dt
  go_enter Tryz.func308, Tryz.ntmps308
  go_wp2_with fail
  refine gJ.out.mono ?_
  rintro e w1 ⟨rfl, rfl⟩
  go_wp2_with fail
  refine eH.out.mono ?_
  rintro e w1 ⟨rfl, rfl⟩
  go_wp2_with fail
  refine qH.out.mono ?_
  rintro e w1 ⟨rfl, rfl⟩
  go_wp2_with fail
  refine (eN H0.out HQ.out).mono ?_
  rintro e w2 ⟨rfl, h2, m2⟩
  have H2 := aa h2
  have M2 := aa ((Mv.of aq.out).trans m2)
  have X2 := aa (af HX.out m2 (by omega))
  clear h2 m2
  generalize qz t.s = nn at *
  go_wp2_with fail
  refine (CY.out w2).mono ?_
  rintro e w4 ⟨rfl, b4⟩
  have H4 := aa (H2.out.below b4)
  have M4 := aa (M2.out.trans (Mv.of b4))
  have X4 := aa (af X2.out (Mv.of (b := b) b4) (by omega))
  clear b4
  go_wp2_with fail
  refine (tX nn _).mono ?_
  rintro e w3 ⟨rfl, b3⟩
  have H3 := aa (H4.out.below b3)
  have M3 := aa (M4.out.trans (Mv.of b3))
  have x3 := af X4.out (Mv.of (b := b) b3) (by omega)
  have X3 := aa x3
  obtain ⟨⟨y0, y1, y2, y3, y4, y5⟩, f0, f1, f2, f3, f4, f5⟩ := aG x3
  have eP : w.heap.size < w3.heap.size := ad x3
  clear b3 x3
  go_wp2
  exact bodyPost_ret (v := .agg #[.int .i64 3, .string ⟨#[]⟩, .int .i64 nn, .slice none 0 0, .slice none 0 0, .slice none 0 0]) (results_cell_row rfl _ _ w.heap.size 34 _ (0, 0) _ rfl (aZ X3.out _ _ _ _ _ _) Tryz.underlying34 rfl (by kernel_rfl)) rfl (gG au ec Fb.out M3.out H3.out (h := 1) (by simp only [List.length_cons]; omega) (kR w3 _ _ 3 ⟨#[]⟩ (by decide) nn (by omega)) ⟨_, _, _, _, _, _, _, _, _, _, _, _, rfl⟩)
 | false =>
  have gJ := aa (bL 1 H0.out)
  have eH := aa (bL 2 H0.out)
  have qH := aa (bL 3 H0.out)
  rw [dV] at gJ
  rw [aL] at eH
  rw [d9] at qH
  have HK := aa (And.intro dV (And.intro aL d9))
  clear dV aL d9
  go_enter Tryz.func308, Tryz.ntmps308
  go_wp2_with fail
  refine gJ.out.mono ?_
  rintro e w1 ⟨rfl, rfl⟩
  go_wp2_with fail
  refine eH.out.mono ?_
  rintro e w1 ⟨rfl, rfl⟩
  go_wp2_with fail
  refine qH.out.mono ?_
  rintro e w1 ⟨rfl, rfl⟩
  go_wp2_with fail
  refine (cN sPl (by decide) (by decide) H0.out).mono ?_
  rintro e w2 ⟨⟨q, hq, rfl, h2⟩ | ⟨hq, rfl⟩, m2⟩
  ·have H2 := aa h2
   have M2 := aa ((Mv.of aq.out).trans m2)
   have X2 := aa (af HX.out m2 (by omega))
   have mY := ad X2.out
   have tu := aQ hq
   have vi : cg ts sPl = true /\ q = ts.tail := by
    unfold ar at hq
    split at hq
    ·rename_i e; cases hq; exact ⟨e, rfl⟩
    ·cases hq
   have Fb : Hid (b9 ex ts = jY ex q) := by rw [sm HK.out.1 HK.out.2.1 HK.out.2.2 vi.1, vi.2]; exact rfl
   clear h2 m2 hq vi
   go_wp2_with fail
   refine (HE.out w2 q H2.out (by omega)).mono ?_
   rintro e w3 ⟨m3, ⟨t3, q3, cs, hh, ho, rfl, hFx, h3, hh3, hT⟩ | ⟨ho, rfl⟩⟩
   ·have H3 := aa h3
    have M3 := aa (M2.out.trans m3)
    have X3 := aa (af X2.out m3 (by omega))
    have gy := m3.size
    have HO := aa ho
    have HT := aa hT
    obtain ⟨i0, i1, i2, j1, k1, l1, j2, k2, l2, j3, k3, l3, rfl⟩ := hFx
    have dc : Hid (Below w3.heap.size w3 (w3.alloc (.cells #[.int .i64 i0, .string i1, .int .i64 i2, .slice j1 k1 l1, .slice j2 k2 l2, .slice j3 k3 l3] 34))) := (U4 w3).alloc U0 _
    have Y3 : Hid ((w3.alloc (.cells #[.int .i64 i0, .string i1, .int .i64 i2, .slice j1 k1 l1, .slice j2 k2 l2, .slice j3 k3 l3] 34)).heap[w3.heap.size]? = some (.cells #[.int .i64 i0, .string i1, .int .i64 i2, .slice j1 k1 l1, .slice j2 k2 l2, .slice j3 k3 l3] 34 (0, 0))) := heap_alloc_new w3 _
    clear h3 m3 ho hT
    go_wp2_with fail
    refine (cN yR (by decide) (by decide) (H3.out.below dc.out)).mono ?_
    rintro e w4 ⟨⟨q4, l0, rfl, h4⟩ | ⟨l0, rfl⟩, m4⟩
    ·have H4 := aa h4
     have LO := (Mv.of (b := b) dc.out).trans m4
     have oJ := aa LO
     have M4 := aa (M3.out.trans LO)
     have x4 := af X3.out LO (by omega)
     have X4 := aa x4
     have y4 := af Y3.out m4 (by omega)
     have Tb := aQ l0
     have xL : Hid (b9 ex ts = some (t3, q4)) := by
      rw [Fb.out]
      unfold jY
      rw [HO.out]
      show (ar yR q3).bind _ = _
      rw [l0]
      exact rfl
     obtain ⟨⟨y0, y1, y2, y3, y4', y5⟩, -⟩ := aG y4
     obtain ⟨⟨u0, u1, u2, u3, u4, u5⟩, f0, f1, f2, f3, f4, f5⟩ := aG x4
     have ip : w.heap.size < w4.heap.size := ad x4
     have jm : w3.heap.size < w4.heap.size := ad y4
     clear h4 m4 l0 LO x4 y4
     go_wp2
     exact bodyPost_ret (v := .agg #[.int .i64 i0, .string i1, .int .i64 i2, .slice j1 k1 l1, .slice j2 k2 l2, .slice j3 k3 l3]) (results_cell_row rfl _ _ w.heap.size 34 _ (0, 0) _ rfl (aZ X4.out _ _ _ _ _ _) Tryz.underlying34 rfl (by kernel_rfl)) rfl (gG au ec xL.out M4.out H4.out (h := hh) (by omega) ((HT.out.keep (bv oJ.out (by omega) U0)).up (by omega) (by omega) U0) ⟨_, _, _, _, _, _, _, _, _, _, _, _, rfl⟩)
    ·have M4 := aa (M3.out.trans ((Mv.of (b := b) dc.out).trans m4))
     have xL : Hid (b9 ex ts = none) := by
      rw [Fb.out]
      unfold jY
      rw [HO.out]
      show (ar yR q3).bind _ = _
      rw [l0]
      exact rfl
     clear m4 l0
     unfold ey
     go_wp2
     exact ⟨rfl, M4.out, .inr ⟨xL.out, rfl⟩⟩
   ·have M3 := aa (M2.out.trans m3)
    have xL : Hid (b9 ex ts = none) := by
     rw [Fb.out]
     unfold jY
     rw [ho]
     exact rfl
    clear m3 ho
    unfold ey
    go_wp2
    exact ⟨rfl, M3.out, .inr ⟨xL.out, rfl⟩⟩
  ·have M2 := aa ((Mv.of aq.out).trans m2)
   have xL : Hid (b9 ex ts = none) := sj HK.out.1 HK.out.2.1 HK.out.2.2 (by
    unfold ar at hq
    split at hq
    ·cases hq
    ·rename_i e; simpa using e)
   clear m2 hq
   unfold ey
   go_wp2
   exact ⟨rfl, M2.out, .inr ⟨xL.out, rfl⟩⟩
end
structure Li (b g d : Nat) (w0 : World) (N gb : Nat) (W : World) (e0 : Tr) (c0 : List TokZ) (cs : List Value) : Prop where
 fx : Fx cs
 box : W.heap[gb]? = some (.cells cs.toArray 34 (0, 0))
 res : W.heap[w0.heap.size]? = some (.cells zE 34 (0, 0))
 ir : Ir b g W d c0
 mv : Mv b w0 W
 gw : w0.heap.size < gb
 tree : ∃ h, h + c0.length <= N /\ TreeN gb W (w0.heap.size + 1) W.heap.size h 0 e0 cs
section
variable {b g d : Nat} {w0 W : World} {N gb : Nat} {e0 : Tr} {c0 : List TokZ} {cs : List Value}
theorem Li.move {W' : World} (h : Li b g d w0 N gb W e0 c0 cs) (hm : Mv b W W') (hb : b < w0.heap.size) (hs : Ir b g W' d c0) : Li b g d w0 N gb W' e0 c0 cs :=
 ⟨h.fx, af h.box hm (by have := h.gw; omega), af h.res hm (by omega), hs, h.mv.trans hm, h.gw, by
  obtain ⟨n, h1, h2⟩ := h.tree
  exact ⟨n, h1, (h2.keep fun k a1 a2 _ => hm.block k ⟨a2, by omega⟩).up U0 hm.size U0⟩⟩
theorem Li.start {W1 : World} {h : Nat} (hx : W1.heap[w0.heap.size]? = some (.cells zE 34 (0, 0))) (hF : Fx cs) (fE : Ir b g W1 d c0) (hm : Mv b w0 W1) (hh : h + c0.length <= N) (hT : TreeT W1 (w0.heap.size + 1) W1.heap.size h 0 e0 cs) : Li b g d w0 N W1.heap.size (W1.alloc (.cells cs.toArray 34)) e0 c0 cs := by
 have hb : Below W1.heap.size W1 (W1.alloc (.cells cs.toArray 34)) := (U4 W1).alloc U0 _
 exact ⟨hF, heap_alloc_new W1 _, cT hx, fE.below hb, hm.trans (Mv.of hb), ad hx, h, hh, ((hT.keep (aw hb U0)).beside (.inr U0)).up U0 hb.size U0⟩
theorem Li.next {W2 : World} {g2 v h1 : Nat} {y : Tr} {c1 : List TokZ} {cx : List Value} (k : Int) (t : ByteArray) (ht : t.size <= 1500) (au : b < w0.heap.size) (ec : g < w0.heap.size)
 (h : Li b g d w0 N gb W e0 c0 cs) (hmv : Mv b W W2) (fE : Ir b g W2 d c1) (hc : c1.length < c0.length) (hh : h1 + c1.length <= c0.length) (hT : TreeT W2 W.heap.size v h1 0 y cx) (dj : W2.heap[g2]? = some (.cells (cs ++ cx).toArray 34 (0, 0))) (hv : W.heap.size <= v) (h2 : v <= g2) :
 Li b g d w0 N gb (jp W2 gb (.int .i64 k) (.string t) (.int .i64 0) (.slice (some ⟨g2, 0, none⟩) 2 2) (.slice none 0 0) (.slice none 0 0)) ⟨k, t, 0, [], [e0, y], [], []⟩ c1 [.int .i64 k, .string t, .int .i64 0, .slice (some ⟨g2, 0, none⟩) 2 2, .slice none 0 0, .slice none 0 0] := by
 have oI := h.gw
 have Ky := ad h.box
 have hk := cU W2 gb (.int .i64 k) (.string t) (.int .i64 0) (.slice (some ⟨g2, 0, none⟩) 2 2) (.slice none 0 0) (.slice none 0 0)
 have dG : ∃ x0 x1 x2 x3 x4 x5, W2.heap[gb]? = some (.cells #[x0, x1, x2, x3, x4, x5] 34 (0, 0)) := by
  have h9 := af h.box hmv (by omega)
  obtain ⟨a0, a1, a2, p1, q1, z1, p2, q2, z2, p3, q3, z3, e⟩ := h.fx
  rw [e] at h9
  exact ⟨_, _, _, _, _, _, h9⟩
 obtain ⟨x0, x1, x2, x3, x4, x5, dG⟩ := dG
 obtain ⟨n0, b1, b2⟩ := h.tree
 have EE : 1 <= n0 := by
  cases n0 with
  | zero => obtain ⟨bs, hf, -⟩ := b2; exact hf.elim
  | succ n => omega
 have b3 : TreeN gb W2 (w0.heap.size + 1) W.heap.size n0 0 e0 cs := b2.keep fun k a1 a2 _ => hmv.block k ⟨a2, by omega⟩
 have h9 := rQ k t (by unfold maxLen; omega) (b3.up U0 U0 (Nat.le_max_left n0 h1)) (hT.up U0 U0 (Nat.le_max_right n0 h1)) dj (by omega) hv h2 Ky
 exact ⟨⟨_, _, _, _, _, _, _, _, _, _, _, _, rfl⟩, aZ dG _ _ _ _ _ _, (hk.block _ (by show _ ≠ _; omega)).trans (af h.res hmv (by omega)), fE.other hk (by omega) (by omega), Keeps.mvo (h.mv.trans hmv) hk (by omega), oI, max n0 h1 + 1, by omega, (h9.keep fun k _ _ bU => hk.block k bU).up U0 (by rw [eL]; exact Nat.le_refl _) U0⟩
theorem Li.fin {ts : List TokZ} {one : bF} {k0 k1 k2 k3 k4 k5 : Value} (h : Li b g d w0 ts.length gb W e0 c0 [k0, k1, k2, k3, k4, k5]) (au : b < w0.heap.size) (ec : g < w0.heap.size) (ho : one ts = some (e0, c0)) : ResI b g d w0 ts one (.returned (.agg #[k0, k1, k2, k3, k4, k5])) (jp W w0.heap.size k0 k1 k2 k3 k4 k5) := by
 obtain ⟨n, h1, h2⟩ := h.tree
 exact gG au ec ho h.mv h.ir h1 h2.tree h.fx
end
section
variable {b g d : Nat} {w : World} {ts : List TokZ}
theorem Bx {ex : bF} {n : Nat} (hN : tQ) (h : Ir b g w d ts) (hn : ts.length <= n + 1) (hE : CI b g d n ex) (hD : bC ex) : Calls Tryz.prog 298 #[.pointer (some ⟨b, 0, none⟩)] w (ResI b g d w ts (dM ex)) := by
 have au := h.lt
 have ec := h.glt
 have HE := aa hE
 have HN := aa hN
 have HD := aa hD
 have aq : Hid (Below w.heap.size w (w.alloc (.cells zE 34))) := (U4 w).alloc U0 _
 have H0 := aa (h.below aq.out)
 have HX : Hid ((w.alloc (.cells zE 34)).heap[w.heap.size]? = some (.cells zE 34 (0, 0))) := heap_alloc_new w _
 clear h hE hN hD
 go_enter Tryz.func298, Tryz.ntmps298
 go_wp2_with fail
 refine (rx HN.out H0.out hn HE.out).mono ?_
 rintro e w1 ⟨m1, ⟨e1, c1, cs, hh, ho, rfl, hFx, h1, hh1, hT⟩ | ⟨ho, rfl⟩⟩
 ·have HL : Hid (Li b g d w ts.length w1.heap.size _ e1 c1 cs) := Li.start (af HX.out m1 (by omega)) hFx h1 ((Mv.of aq.out).trans m1) hh1 (by simpa using hT)
  have HO : Hid (dM ex ts = km (b9 ex) c1.length e1 c1) := by
   unfold dM
   rw [ho]
   exact rfl
  obtain ⟨a0, a1, a2, p1, q1, z1, p2, q2, z2, p3, q3, z3, rfl⟩ := hFx
  clear m1 ho h1 hT
  go_wp2
  go_loopw [] (fun wr => ∃ e0 c0 cs, Li b g d w ts.length w1.heap.size wr e0 c0 cs /\ dM ex ts = km (b9 ex) c0.length e0 c0) (fun wr => mi b wr)
  case atStart => exact ⟨_, _, _, HL.out, HO.out⟩
  case round =>
   obtain ⟨e0, c0, cs, hL, hq⟩ := hrel
   have mS := aa hL
   have HQ := aa hq
   clear hL hq
   go_wp2_with fail
   refine (tL mS.out.ir).mono ?_
   rintro e w2 ⟨rfl, h2, m2⟩
   have bV := aa (mS.out.move m2 au h2)
   have wP : Hid (mi b wr = c0.length) := mS.out.ir.mi
   have aC : Ends c0 := h2.ends
   have cG := tK (dC HD.out) e0 aC
   have dr := aa aC
   clear h2 m2 aC
   cases lH : jF c0 with
   | false =>
    rw [lH, if_neg (by decide)] at cG
    have ed : Hid (dM ex ts = some (e0, c0)) := HQ.out.trans cG
    have dG := bV.out.box
    have iQ := bV.out.res
    have uU := ad dG
    have lI := ad iQ
    obtain ⟨a0, a1, a2, p1, q1, z1, p2, q2, z2, p3, q3, z3, rfl⟩ := bV.out.fx
    obtain ⟨⟨y0, y1, y2, y3, y4, y5⟩, -⟩ := aG dG
    obtain ⟨⟨u0, u1, u2, u3, u4, u5⟩, f0, f1, f2, f3, f4, f5⟩ := aG iQ
    clear cG lH dG iQ
    go_wp2
    exact bodyPost_ret (v := .agg #[.int .i64 a0, .string a1, .int .i64 a2, .slice p1 q1 z1, .slice p2 q2 z2, .slice p3 q3 z3]) (results_cell_row rfl _ _ w.heap.size 34 _ (0, 0) _ rfl (aZ bV.out.res _ _ _ _ _ _) Tryz.underlying34 rfl (by kernel_rfl)) rfl (bV.out.fin au ec ed.out)
   | true =>
    rw [lH, if_pos rfl] at cG
    have wL : c0.length <= n + 1 := by
     obtain ⟨hh, h9, -⟩ := bV.out.tree
     omega
    have hA := rx (w := w2.drew) HN.out (bV.out.ir.below (U4 w2).drew) wL HE.out
    have dG := bV.out.box
    have jV := aa dG
    have uU := ad dG
    have oI := bV.out.gw
    have qK := aa bV.out.fx
    obtain ⟨a0, a1, a2, p1, q1, z1, p2, q2, z2, p3, q3, z3, rfl⟩ := bV.out.fx
    obtain ⟨⟨y0, y1, y2, y3, y4, y5⟩, -⟩ := aG dG
    have cA : ¬ w1.heap.size = b := by omega
    have HA := aa hA
    have dv := aa cG
    clear hA cG lH dG
    go_upto_region 3 with fail
    refine wp_region_any (by kernel_rfl) ?_
    try (change wpAny _ _ _ _ _ _ _ (World.drew _))
    refine wpAny_ready (rs := [0, 1]) (by kernel_rfl) (by simp) ?_
    refine AllReady.cons rfl (fun K hK => ?_) (AllReady.cons rfl (fun K hK => ?_) AllReady.nil)
    ·go_simp
     refine hK _ _ ?_
     clear hK K
     refine wpAny_ready (rs := [1]) (by kernel_rfl) (by simp) ?_
     refine AllReady.cons rfl (fun K hK => ?_) AllReady.nil
     go_simp
     refine hK _ _ ?_
     clear hK K
     refine wpAny_ready (rs := [2]) (by kernel_rfl) (by simp) ?_
     refine AllReady.cons rfl (fun K hK => ?_) AllReady.nil
     go_simp
     (with_reducible refine Calls.mono HA.out ?_)
     rintro e w3 ⟨m3, ⟨t3, qq3, cx, hh, ho, rfl, hFx, h3, hh3, hT⟩ | ⟨ho, rfl⟩⟩
     ·refine hK _ _ ?_
      clear hK K
      have gB := aa hFx
      have tg := (Mv.drew b w2).trans m3
      have Io := aa tg
      have H3 := aa h3
      have HT := aa hT
      have HO : Hid (dM ex ts = km (b9 ex) qq3.length (z8 e0 t3) qq3) := by
       rw [HQ.out, dv.out, ho]
       exact rfl
      have tu := (dC HD.out _ _ _ dr.out ho).2
      have dE := af jV.out tg cA
      have u9 := ad dE
      have gy : w2.heap.size <= w3.heap.size := m3.size
      obtain ⟨i0, i1, i2, j1, k1, l1, j2, k2, l2, j3, k3, l3, rfl⟩ := hFx
      obtain ⟨⟨v0, v1, v2, v3, v4, v5⟩, -⟩ := aG dE
      clear m3 tg ho h3 hT dE
      refine wpAny_ready (rs := [3]) (by kernel_rfl) (by simp) ?_
      refine AllReady.cons rfl (fun K hK => ?_) AllReady.nil
      go_simp
      refine hK _ _ ?_
      clear hK K
      refine wpAny_ready (rs := [4]) (by kernel_rfl) (by simp) ?_
      refine AllReady.cons rfl (fun K hK => ?_) AllReady.nil
      go_simp
      refine (jC (cf := [.int .i64 a0, .string a1, .int .i64 a2, .slice p1 q1 z1, .slice p2 q2 z2, .slice p3 q3 z3]) qK.out gB.out _).mono ?_
      rintro e w4 ⟨g2, hg1, dj, rfl, gK, b4⟩
      refine hK _ _ ?_
      clear hK K
      have Dr := aa (Io.out.trans (Mv.of b4))
      have fW : Hid _ := bV.out.next 4 ⟨#[]⟩ (by decide) au ec Dr.out (H3.out.below b4) tu hh3 (HT.out.keep (aw b4 U0)) gK gy hg1
      have cR := af jV.out Dr.out cA
      have qb := ad cR
      obtain ⟨⟨c0', c1', c2', c3', c4', c5'⟩, d0, d1, d2, d3, d4, d5⟩ := aG cR
      clear b4 gK cR
      refine wpAny_ready (rs := [5]) (by kernel_rfl) (by simp) ?_
      refine AllReady.cons rfl (fun K hK => ?_) AllReady.nil
      go_simp
      refine hK _ _ ?_
      clear hK K
      refine wpAny_done (by kernel_rfl) ?_ _
      go_wp2
      go_roundw
      case rel => exact ⟨_, _, _, fW.out, HO.out⟩
      case measure => exact Nat.lt_of_le_of_lt (Nat.le_of_eq fW.out.ir.mi) (by rw [wP.out]; exact tu)
     ·have ed : Hid (dM ex ts = none) := by
       rw [HQ.out, dv.out, ho]
       exact rfl
      exact ⟨rfl, bV.out.mv.trans ((Mv.drew b w2).trans m3), .inr ⟨ed.out, rfl⟩⟩
    ·go_simp
     refine hK _ _ ?_
     clear hK K
     refine wpAny_ready (rs := [0, 2]) (by kernel_rfl) (by simp) ?_
     refine AllReady.cons rfl (fun K hK => ?_) (AllReady.cons rfl (fun K hK => ?_) AllReady.nil)
     ·go_simp
      refine hK _ _ ?_
      clear hK K
      refine wpAny_ready (rs := [2]) (by kernel_rfl) (by simp) ?_
      refine AllReady.cons rfl (fun K hK => ?_) AllReady.nil
      go_simp
      (with_reducible refine Calls.mono HA.out ?_)
      rintro e w3 ⟨m3, ⟨t3, qq3, cx, hh, ho, rfl, hFx, h3, hh3, hT⟩ | ⟨ho, rfl⟩⟩
      ·refine hK _ _ ?_
       clear hK K
       have gB := aa hFx
       have tg := (Mv.drew b w2).trans m3
       have Io := aa tg
       have H3 := aa h3
       have HT := aa hT
       have HO : Hid (dM ex ts = km (b9 ex) qq3.length (z8 e0 t3) qq3) := by
        rw [HQ.out, dv.out, ho]
        exact rfl
       have tu := (dC HD.out _ _ _ dr.out ho).2
       have dE := af jV.out tg cA
       have u9 := ad dE
       have gy : w2.heap.size <= w3.heap.size := m3.size
       obtain ⟨i0, i1, i2, j1, k1, l1, j2, k2, l2, j3, k3, l3, rfl⟩ := hFx
       obtain ⟨⟨v0, v1, v2, v3, v4, v5⟩, -⟩ := aG dE
       clear m3 tg ho h3 hT dE
       refine wpAny_ready (rs := [3]) (by kernel_rfl) (by simp) ?_
       refine AllReady.cons rfl (fun K hK => ?_) AllReady.nil
       go_simp
       refine hK _ _ ?_
       clear hK K
       refine wpAny_ready (rs := [4]) (by kernel_rfl) (by simp) ?_
       refine AllReady.cons rfl (fun K hK => ?_) AllReady.nil
       go_simp
       refine (jC (cf := [.int .i64 a0, .string a1, .int .i64 a2, .slice p1 q1 z1, .slice p2 q2 z2, .slice p3 q3 z3]) qK.out gB.out _).mono ?_
       rintro e w4 ⟨g2, hg1, dj, rfl, gK, b4⟩
       refine hK _ _ ?_
       clear hK K
       have Dr := aa (Io.out.trans (Mv.of b4))
       have fW : Hid _ := bV.out.next 4 ⟨#[]⟩ (by decide) au ec Dr.out (H3.out.below b4) tu hh3 (HT.out.keep (aw b4 U0)) gK gy hg1
       have cR := af jV.out Dr.out cA
       have qb := ad cR
       obtain ⟨⟨c0', c1', c2', c3', c4', c5'⟩, d0, d1, d2, d3, d4, d5⟩ := aG cR
       clear b4 gK cR
       refine wpAny_ready (rs := [5]) (by kernel_rfl) (by simp) ?_
       refine AllReady.cons rfl (fun K hK => ?_) AllReady.nil
       go_simp
       refine hK _ _ ?_
       clear hK K
       refine wpAny_done (by kernel_rfl) ?_ _
       go_wp2
       go_roundw
       case rel => exact ⟨_, _, _, fW.out, HO.out⟩
       case measure => exact Nat.lt_of_le_of_lt (Nat.le_of_eq fW.out.ir.mi) (by rw [wP.out]; exact tu)
      ·have ed : Hid (dM ex ts = none) := by
        rw [HQ.out, dv.out, ho]
        exact rfl
       exact ⟨rfl, bV.out.mv.trans ((Mv.drew b w2).trans m3), .inr ⟨ed.out, rfl⟩⟩
     ·go_simp
      (with_reducible refine Calls.mono HA.out ?_)
      rintro e w3 ⟨m3, ⟨t3, qq3, cx, hh, ho, rfl, hFx, h3, hh3, hT⟩ | ⟨ho, rfl⟩⟩
      ·refine hK _ _ ?_
       clear hK K
       have gB := aa hFx
       have tg := (Mv.drew b w2).trans m3
       have Io := aa tg
       have H3 := aa h3
       have HT := aa hT
       have HO : Hid (dM ex ts = km (b9 ex) qq3.length (z8 e0 t3) qq3) := by
        rw [HQ.out, dv.out, ho]
        exact rfl
       have tu := (dC HD.out _ _ _ dr.out ho).2
       have dE := af jV.out tg cA
       have u9 := ad dE
       have gy : w2.heap.size <= w3.heap.size := m3.size
       obtain ⟨i0, i1, i2, j1, k1, l1, j2, k2, l2, j3, k3, l3, rfl⟩ := hFx
       obtain ⟨⟨v0, v1, v2, v3, v4, v5⟩, -⟩ := aG dE
       clear m3 tg ho h3 hT dE
       refine wpAny_ready (rs := [0]) (by kernel_rfl) (by simp) ?_
       refine AllReady.cons rfl (fun K hK => ?_) AllReady.nil
       go_simp
       refine hK _ _ ?_
       clear hK K
       refine wpAny_ready (rs := [3]) (by kernel_rfl) (by simp) ?_
       refine AllReady.cons rfl (fun K hK => ?_) AllReady.nil
       go_simp
       refine hK _ _ ?_
       clear hK K
       refine wpAny_ready (rs := [4]) (by kernel_rfl) (by simp) ?_
       refine AllReady.cons rfl (fun K hK => ?_) AllReady.nil
       go_simp
       refine (jC (cf := [.int .i64 a0, .string a1, .int .i64 a2, .slice p1 q1 z1, .slice p2 q2 z2, .slice p3 q3 z3]) qK.out gB.out _).mono ?_
       rintro e w4 ⟨g2, hg1, dj, rfl, gK, b4⟩
       refine hK _ _ ?_
       clear hK K
       have Dr := aa (Io.out.trans (Mv.of b4))
       have fW : Hid _ := bV.out.next 4 ⟨#[]⟩ (by decide) au ec Dr.out (H3.out.below b4) tu hh3 (HT.out.keep (aw b4 U0)) gK gy hg1
       have cR := af jV.out Dr.out cA
       have qb := ad cR
       obtain ⟨⟨c0', c1', c2', c3', c4', c5'⟩, d0, d1, d2, d3, d4, d5⟩ := aG cR
       clear b4 gK cR
       refine wpAny_ready (rs := [5]) (by kernel_rfl) (by simp) ?_
       refine AllReady.cons rfl (fun K hK => ?_) AllReady.nil
       go_simp
       refine hK _ _ ?_
       clear hK K
       refine wpAny_done (by kernel_rfl) ?_ _
       go_wp2
       go_roundw
       case rel => exact ⟨_, _, _, fW.out, HO.out⟩
       case measure => exact Nat.lt_of_le_of_lt (Nat.le_of_eq fW.out.ir.mi) (by rw [wP.out]; exact tu)
      ·have ed : Hid (dM ex ts = none) := by
        rw [HQ.out, dv.out, ho]
        exact rfl
       exact ⟨rfl, bV.out.mv.trans ((Mv.drew b w2).trans m3), .inr ⟨ed.out, rfl⟩⟩
 ·have M1 := aa ((Mv.of aq.out).trans m1)
  have HO : Hid (dM ex ts = none) := by
   unfold dM
   rw [ho]
   exact rfl
  clear m1 ho
  unfold ey
  go_wp2
  exact ⟨rfl, M1.out, .inr ⟨HO.out, rfl⟩⟩
end
end Go.Proofs.YtfomndilhlgikajGreatDoor.Rd

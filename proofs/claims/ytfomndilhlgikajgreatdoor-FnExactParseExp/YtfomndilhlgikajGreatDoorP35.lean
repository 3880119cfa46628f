import Derived.Test.YtfomndilhlgikajGreatDoorP34
set_option maxHeartbeats 8000000
set_option maxRecDepth 100000
namespace Go.Proofs.YtfomndilhlgikajGreatDoor.Rd
open Go.ChangeShapes Go.WideShapes Go.ChangeAt Go.RowKit
theorem DT {w : World} {s u v u2 h gg : Nat} {e : Tr} {al : List Tr} {ce : List Value} {v3 : Value} (k : Int) (kx : TreeT w s u h 0 e ce) (ka : RowT w u v h 2 v3 al) (hg : w.heap[gg]? = some (.cells ce.toArray 34 (0, 0))) (e1 : s <= u) (e2 : u <= v) (h1 : v <= gg) (h2 : gg < u2) : TreeT w s u2 (h + 1) 0 ⟨k, sNil, 0, [], [e], [], al⟩ [.int .i64 k, .string sNil, .int .i64 0, .slice (some ⟨gg, 0, none⟩) 1 1, .slice none 0 0, v3] := by
 obtain ⟨bx, kx1, kx2⟩ := kx
 obtain ⟨ba, ka1, ka2⟩ := ka
 have Ma : w.heap[gg]? = some (.cells ce.toArray (ls 0) (0, 0)) := hg
 have hr := Row.lit (w := w) (E := ls 0) (sz := ij 0) (g := gg) [ce] (fun d hd => by rw [List.mem_singleton] at hd; rw [hd]; exact (ic kx1).1) (by simpa using Ma) (by simp)
 have r1 : RowS w (sp w h 0) (ls 0) (ij 0) (.slice (some ⟨gg, 0, none⟩) 1 1) [e] ([gg] ++ bx) := ⟨by simp, [ce], [bx], hr, ⟨kx1, trivial⟩, by simp [ei, Value.ownBlock]⟩
 refine ⟨[gg] ++ bx ++ [] ++ ba, ⟨rfl, (by show sNil.size <= maxLen; decide), _, _, _, [gg] ++ bx, [], ba, rfl, rfl, r1, RowS.nil w _ _ _, ka1⟩, ?_⟩
 rw [List.append_nil, List.append_assoc]
 exact InR.comm ((kx2.app ka2 U0 e1 e2).app (InR.one (Nat.le_refl gg) h2) h1 (by omega) (by omega))
section
variable {b g d : Nat} {w : World} {ts : List TokZ}
theorem mE {s : ByteArray} (h : cg ts s = true) (he : Ends ts) (hs : s ≠ ⟨#[]⟩) : ts.tail.length + 1 = ts.length /\ Ends ts.tail := by
 have h1 : ar s ts = some ts.tail := by unfold ar; rw [h]; rfl
 have h2 := cH hs he h1
 exact ⟨h2.2, h2.1⟩
theorem xY {ex de : bF} {n : Nat} (hN : tQ) (h : Ir b g w d ts) (hn : ts.length <= n + 1) (hE : CI b g d n ex) (hDE : Ja b g d n de) (hAL : Lw b g d n (ff ex)) (hX : bC ex) (hD : bC de) : Calls Tryz.prog 152 #[.pointer (some ⟨b, 0, none⟩)] w (ResI b g d w ts (aJ ex de)) := by
 have au := h.lt
 have ec := h.glt
 have HE := aa hE
 have Lt := aa hDE
 have OV := aa hAL
 have HJ := aa hX
 have wJ := aa hD
 have wM := aa hN
 have dr := aa h.ends
 have aq : Hid (Below w.heap.size w (w.alloc (.cells zE 34))) := (U4 w).alloc U0 _
 have H0 := aa (h.below aq.out)
 have M0 : Hid (Mv b w (w.alloc (.cells zE 34))) := Mv.of aq.out
 have X0 : Hid ((w.alloc (.cells zE 34)).heap[w.heap.size]? = some (.cells zE 34 (0, 0))) := heap_alloc_new w _
 have ll : w.heap.size + 1 <= (w.alloc (.cells zE 34)).heap.size := by simp
 clear h hE hDE hAL hX hD hN
 go_enter Tryz.func152, Tryz.ntmps152
 go_wp2_with fail
 refine (el lv (by decide) (by decide) H0.out).mono ?_
 rintro e v0 ⟨⟨hs, rfl, h1⟩ | ⟨hs, rfl, h1⟩, m1⟩
 ·have H1 := aa h1
  have M1 := aa (M0.out.trans m1)
  have X1 := aa (af X0.out m1 (by omega))
  obtain ⟨om, het⟩ := mE hs dr.out (by decide)
  have HW : Hid (aJ ex de ts = lM ex ts.tail) := by
   unfold aJ
   rw [if_pos hs]
   exact rfl
  have nZ := ad X1.out
  have vu := m1.size
  clear h1 m1 hs het
  go_wp2_with fail
  refine (AC H1.out (by omega) HE.out).mono ?_
  rintro e w2 ⟨m2, ⟨t2, q2, cs, hh, ho, rfl, h2, hh2, hP⟩ | ⟨ho, rfl⟩⟩
  ·have M2 := aa (M1.out.trans m2)
   have X2 := aa (af X1.out m2 (by omega))
   have iO := aa h2
   have mY := ad X2.out
   have jo := m2.size
   obtain ⟨s, e1, ce, rfl, dF, hF, s8, hT⟩ := hP
   have HO : Hid (aJ ex de ts = some (BF s e1, q2)) := HW.out.trans ho
   have eQ := uI s hF w2
   rw [<- dF] at eQ
   have jJ := aa eQ
   have If : Hid (∀ (w3 : World) (gg : Nat), w2.heap.size <= gg -> gg < w3.heap.size -> w3.heap[gg]? = some (.cells ce.toArray 34 (0, 0)) -> Below w2.heap.size w2 w3 -> TreeT w3 (w.heap.size + 1) w3.heap.size (hh + 1) 0 (BF s e1) [.int .i64 5, .string s, .int .i64 0, .slice (some ⟨gg, 0, none⟩) 1 1, .slice none 0 0, .slice none 0 0]) := by
    intro w3 gg hg1 dj hgg cm
    exact (nC 5 s (by unfold maxLen; omega) 0 (RowT.lit1 ((hT.keep (aw cm U0)).up (by omega) U0 U0) hgg hg1 dj (by omega)) (RowT.nil w3 _ _ _ _) (RowT.nil w3 _ w3.heap.size _ _) (by omega) U0 U0)
   clear m2 ho h2 eQ hT
   generalize cs.toArray = A at jJ
   go_wp2_with fail
   refine jJ.out.mono ?_
   rintro e w3 ⟨gg, hg1, dj, rfl, hgg, cm⟩
   have M3 := aa (M2.out.trans (Mv.of (b := b) cm))
   have X3 := aa (af X2.out (Mv.of (b := b) cm) (by omega))
   have H3 := aa (iO.out.below cm)
   have T3 := aa (If.out w3 gg hg1 dj hgg cm)
   clear hgg cm
   have x3 := X3.out
   unfold zE at x3
   obtain ⟨⟨u0, u1, u2, u3, u4, u5⟩, f0, f1, f2, f3, f4, f5⟩ := aG x3
   have eP : w.heap.size < w3.heap.size := ad x3
   clear x3
   go_wp2
   exact bodyPost_ret (v := .agg #[.int .i64 5, .string s, .int .i64 0, .slice (some ⟨gg, 0, none⟩) 1 1, .slice none 0 0, .slice none 0 0]) (results_cell_row rfl _ _ w.heap.size 34 _ (0, 0) _ rfl (aZ X3.out _ _ _ _ _ _) Tryz.underlying34 rfl (by kernel_rfl)) rfl (gG au ec HO.out M3.out H3.out (by omega) T3.out ⟨_, _, _, _, _, _, _, _, _, _, _, _, rfl⟩)
  ·have M2 := aa (M1.out.trans m2)
   have HO : Hid (aJ ex de ts = none) := HW.out.trans ho
   clear m2 ho
   unfold ey
   go_wp2
   exact ⟨rfl, M2.out, .inr ⟨HO.out, rfl⟩⟩
 ·have Sy := aa h1
  have Pu := aa (M0.out.trans m1)
  have PM := aa (af X0.out m1 (by omega))
  have N0 := aa hs
  have zv := m1.size
  clear h1 m1 hs
  go_wp2_with fail
  refine (el lS (by decide) (by decide) Sy.out).mono ?_
  rintro e v1 ⟨⟨hs, rfl, h1⟩ | ⟨hs, rfl, h1⟩, m1⟩
  ·have H1 := aa h1
   have M1 := aa (Pu.out.trans m1)
   have X1 := aa (af PM.out m1 (by omega))
   obtain ⟨om, het⟩ := mE hs dr.out (by decide)
   have HW : Hid (aJ ex de ts = lT ex de ts.tail) := by
    unfold aJ
    rw [if_neg (by rw [N0.out]; decide), if_pos hs]
    exact rfl
   have nZ := ad X1.out
   have vu := m1.size
   clear h1 m1 hs het
   go_wp2_with fail
   refine (zJ H1.out (by omega) HE.out Lt.out wJ.out).mono ?_
   rintro e w2 ⟨m2, ⟨t2, q2, cs, hh, ho, rfl, h2, hh2, hP⟩ | ⟨ho, rfl⟩⟩
   ·have M2 := aa (M1.out.trans m2)
    have X2 := aa (af X1.out m2 (by omega))
    have iO := aa h2
    have mY := ad X2.out
    have jo := m2.size
    obtain ⟨ds, e1, oo, nn, cc, ce, u, rfl, dF, hF, hu1, rV, hR, hT⟩ := hP
    have HO : Hid (aJ ex de ts = some (Bn ds e1, q2)) := HW.out.trans ho
    have eQ := tF oo nn cc hF w2
    rw [<- dF] at eQ
    have jJ := aa eQ
    have If : Hid (∀ (w3 : World) (gg : Nat), w2.heap.size <= gg -> gg < w3.heap.size -> w3.heap[gg]? = some (.cells ce.toArray 34 (0, 0)) -> Below w2.heap.size w2 w3 -> TreeT w3 (w.heap.size + 1) w3.heap.size (hh + 1) 0 (Bn ds e1) [.int .i64 6, .string ⟨#[]⟩, .int .i64 0, .slice (some ⟨gg, 0, none⟩) 1 1, .slice oo nn cc, .slice none 0 0]) := by
     intro w3 gg hg1 dj hgg cm
     exact (xE 6 sNil (by decide) 0 ((hR.keep (aw cm rV)).up (by omega) U0 U0) (RowT.lit1 (hT.keep (aw cm U0)) hgg hg1 dj (by omega)) (RowT.nil w3 _ w3.heap.size _ _) (by omega) (by omega) U0)
    clear m2 ho h2 eQ hT hR
    generalize cs.toArray = A at jJ
    go_wp2_with fail
    refine jJ.out.mono ?_
    rintro e w3 ⟨gg, hg1, dj, rfl, hgg, cm⟩
    have M3 := aa (M2.out.trans (Mv.of (b := b) cm))
    have X3 := aa (af X2.out (Mv.of (b := b) cm) (by omega))
    have H3 := aa (iO.out.below cm)
    have T3 := aa (If.out w3 gg hg1 dj hgg cm)
    clear hgg cm
    have x3 := X3.out
    unfold zE at x3
    obtain ⟨⟨u0, u1, u2, u3, u4, u5⟩, f0, f1, f2, f3, f4, f5⟩ := aG x3
    have eP : w.heap.size < w3.heap.size := ad x3
    clear x3
    go_wp2
    exact bodyPost_ret (v := .agg #[.int .i64 6, .string ⟨#[]⟩, .int .i64 0, .slice (some ⟨gg, 0, none⟩) 1 1, .slice oo nn cc, .slice none 0 0]) (results_cell_row rfl _ _ w.heap.size 34 _ (0, 0) _ rfl (aZ X3.out _ _ _ _ _ _) Tryz.underlying34 rfl (by kernel_rfl)) rfl (gG au ec HO.out M3.out H3.out (by omega) T3.out ⟨_, _, _, _, _, _, _, _, _, _, _, _, rfl⟩)
   ·have M2 := aa (M1.out.trans m2)
    have HO : Hid (aJ ex de ts = none) := HW.out.trans ho
    clear m2 ho
    unfold ey
    go_wp2
    exact ⟨rfl, M2.out, .inr ⟨HO.out, rfl⟩⟩
  ·have Nt := aa h1
   have Q8 := aa (Pu.out.trans m1)
   have Qx := aa (af PM.out m1 (by omega))
   have N1 := aa hs
   have vu := m1.size
   clear h1 m1 hs
   go_wp2_with fail
   refine (el jb (by decide) (by decide) Nt.out).mono ?_
   rintro e v2 ⟨⟨hs, rfl, h1⟩ | ⟨hs, rfl, h1⟩, m1⟩
   ·have H1 := aa h1
    have M1 := aa (Q8.out.trans m1)
    have X1 := aa (af Qx.out m1 (by omega))
    obtain ⟨om, het⟩ := mE hs dr.out (by decide)
    have HW : Hid (aJ ex de ts = ft ex ts.tail) := by
     unfold aJ
     rw [if_neg (by rw [N0.out]; decide), if_neg (by rw [N1.out]; decide), if_pos hs]
     exact rfl
    have nZ := ad X1.out
    have vu := m1.size
    clear h1 m1 hs het
    go_wp2_with fail
    refine (yF H1.out (by omega) HE.out OV.out HJ.out).mono ?_
    rintro e w2 ⟨m2, ⟨t2, q2, cs, hh, ho, rfl, h2, hh2, hP⟩ | ⟨ho, rfl⟩⟩
    ·have M2 := aa (M1.out.trans m2)
     have X2 := aa (af X1.out m2 (by omega))
     have iO := aa h2
     have mY := ad X2.out
     have jo := m2.size
     obtain ⟨e1, al, ce, oo, nn, cc, u, rfl, dF, hF, hu1, rV, hT, hR⟩ := hP
     have HO : Hid (aJ ex de ts = some (rO e1 al, q2)) := HW.out.trans ho
     have eQ := sw oo nn cc hF w2
     rw [<- dF] at eQ
     have jJ := aa eQ
     have If : Hid (∀ (w3 : World) (gg : Nat), w2.heap.size <= gg -> gg < w3.heap.size -> w3.heap[gg]? = some (.cells ce.toArray 34 (0, 0)) -> Below w2.heap.size w2 w3 -> TreeT w3 (w.heap.size + 1) w3.heap.size (hh + 1) 0 (rO e1 al) [.int .i64 7, .string ⟨#[]⟩, .int .i64 0, .slice (some ⟨gg, 0, none⟩) 1 1, .slice none 0 0, .slice oo nn cc]) := by
      intro w3 gg hg1 dj hgg cm
      exact (DT 7 ((hT.keep (aw cm rV)).up (by omega) U0 U0) (hR.keep (aw cm U0)) hgg (by omega) rV hg1 dj)
     clear m2 ho h2 eQ hT hR
     generalize cs.toArray = A at jJ
     go_wp2_with fail
     refine jJ.out.mono ?_
     rintro e w3 ⟨gg, hg1, dj, rfl, hgg, cm⟩
     have M3 := aa (M2.out.trans (Mv.of (b := b) cm))
     have X3 := aa (af X2.out (Mv.of (b := b) cm) (by omega))
     have H3 := aa (iO.out.below cm)
     have T3 := aa (If.out w3 gg hg1 dj hgg cm)
     clear hgg cm
     have x3 := X3.out
     unfold zE at x3
     obtain ⟨⟨u0, u1, u2, u3, u4, u5⟩, f0, f1, f2, f3, f4, f5⟩ := aG x3
     have eP : w.heap.size < w3.heap.size := ad x3
     clear x3
     go_wp2
     exact bodyPost_ret (v := .agg #[.int .i64 7, .string ⟨#[]⟩, .int .i64 0, .slice (some ⟨gg, 0, none⟩) 1 1, .slice none 0 0, .slice oo nn cc]) (results_cell_row rfl _ _ w.heap.size 34 _ (0, 0) _ rfl (aZ X3.out _ _ _ _ _ _) Tryz.underlying34 rfl (by kernel_rfl)) rfl (gG au ec HO.out M3.out H3.out (by omega) T3.out ⟨_, _, _, _, _, _, _, _, _, _, _, _, rfl⟩)
    ·have M2 := aa (M1.out.trans m2)
     have HO : Hid (aJ ex de ts = none) := HW.out.trans ho
     clear m2 ho
     unfold ey
     go_wp2
     exact ⟨rfl, M2.out, .inr ⟨HO.out, rfl⟩⟩
   ·have N6 := aa h1
    have Qz := aa (Q8.out.trans m1)
    have Pw := aa (af Qx.out m1 (by omega))
    have N2 := aa hs
    have jo := m1.size
    clear h1 m1 hs
    go_wp2_with fail
    refine (el Am (by decide) (by decide) N6.out).mono ?_
    rintro e v3 ⟨⟨hs, rfl, h1⟩ | ⟨hs, rfl, h1⟩, m1⟩
    ·have H1 := aa h1
     have M1 := aa (Qz.out.trans m1)
     have X1 := aa (af Pw.out m1 (by omega))
     obtain ⟨om, het⟩ := mE hs dr.out (by decide)
     have HW : Hid (aJ ex de ts = mW ex ts.tail) := by
      unfold aJ
      rw [if_neg (by rw [N0.out]; decide), if_neg (by rw [N1.out]; decide), if_neg (by rw [N2.out]; decide), if_pos hs]
      exact rfl
     have nZ := ad X1.out
     have vu := m1.size
     clear h1 m1 hs het
     go_wp2_with fail
     refine (AM H1.out (by omega) HE.out HJ.out).mono ?_
     rintro e w2 ⟨m2, ⟨t2, q2, cs, hh, ho, rfl, h2, hh2, hP⟩ | ⟨ho, rfl⟩⟩
     ·have M2 := aa (M1.out.trans m2)
      have X2 := aa (af X1.out m2 (by omega))
      have iO := aa h2
      have mY := ad X2.out
      have jo := m2.size
      obtain ⟨x, y, z, ca, cb, cc, u, v, rfl, dF, hFa, hFb, hFc, hu1, rV, Mp, hTa, md, hTc⟩ := hP
      have HO : Hid (aJ ex de ts = some (JA x y z, q2)) := HW.out.trans ho
      have eQ := vZ hFa hFb hFc w2
      rw [<- dF] at eQ
      have jJ := aa eQ
      have If : Hid (∀ (w3 : World) (gg : Nat), w2.heap.size <= gg -> gg < w3.heap.size -> w3.heap[gg]? = some (.cells (ca ++ (cb ++ cc)).toArray 34 (0, 0)) -> Below w2.heap.size w2 w3 -> TreeT w3 (w.heap.size + 1) w3.heap.size (hh + 1) 0 (JA x y z) [.int .i64 8, .string ⟨#[]⟩, .int .i64 0, .slice (some ⟨gg, 0, none⟩) 3 3, .slice none 0 0, .slice none 0 0]) := by
       intro w3 gg hg1 dj hgg cm
       exact (nC 8 sNil (by decide) 0 (RowT.lit3 ((hTa.keep (aw cm (by omega))).up (by omega) U0 U0) (md.keep (aw cm Mp)) (hTc.keep (aw cm U0)) (by rw [List.append_assoc]; exact hgg) (by omega) rV Mp hg1 dj) (RowT.nil w3 _ _ _ _) (RowT.nil w3 _ w3.heap.size _ _) (by omega) U0 U0)
      clear m2 ho h2 eQ hTa md hTc
      generalize cs.toArray = A at jJ
      go_wp2_with fail
      refine jJ.out.mono ?_
      rintro e w3 ⟨gg, hg1, dj, rfl, hgg, cm⟩
      have M3 := aa (M2.out.trans (Mv.of (b := b) cm))
      have X3 := aa (af X2.out (Mv.of (b := b) cm) (by omega))
      have H3 := aa (iO.out.below cm)
      have T3 := aa (If.out w3 gg hg1 dj (by rw [<- dF]; exact hgg) cm)
      clear hgg cm
      have x3 := X3.out
      unfold zE at x3
      obtain ⟨⟨u0, u1, u2, u3, u4, u5⟩, f0, f1, f2, f3, f4, f5⟩ := aG x3
      have eP : w.heap.size < w3.heap.size := ad x3
      clear x3
      go_wp2
      exact bodyPost_ret (v := .agg #[.int .i64 8, .string ⟨#[]⟩, .int .i64 0, .slice (some ⟨gg, 0, none⟩) 3 3, .slice none 0 0, .slice none 0 0]) (results_cell_row rfl _ _ w.heap.size 34 _ (0, 0) _ rfl (aZ X3.out _ _ _ _ _ _) Tryz.underlying34 rfl (by kernel_rfl)) rfl (gG au ec HO.out M3.out H3.out (by omega) T3.out ⟨_, _, _, _, _, _, _, _, _, _, _, _, rfl⟩)
     ·have M2 := aa (M1.out.trans m2)
      have HO : Hid (aJ ex de ts = none) := HW.out.trans ho
      clear m2 ho
      unfold ey
      go_wp2
      exact ⟨rfl, M2.out, .inr ⟨HO.out, rfl⟩⟩
    ·have Nh := aa h1
     have QW := aa (Qz.out.trans m1)
     have Qi := aa (af Pw.out m1 (by omega))
     have N3 := aa hs
     have Mw := m1.size
     clear h1 m1 hs
     have HW : Hid (aJ ex de ts = fD ex ts) := by
      unfold aJ
      rw [if_neg (by rw [N0.out]; decide), if_neg (by rw [N1.out]; decide), if_neg (by rw [N2.out]; decide), if_neg (by rw [N3.out]; decide)]
      exact rfl
     have nZ := ad Qi.out
     go_wp2_with fail
     refine (Aq wM.out Nh.out hn HE.out HJ.out).mono ?_
     rintro e w2 ⟨m2, ⟨t2, q2, cs, hh, ho, rfl, hFx, h2, hh2, hT⟩ | ⟨ho, rfl⟩⟩
     ·have M2 := aa (QW.out.trans m2)
      have X2 := aa (af Qi.out m2 (by omega))
      have H2 := aa h2
      have HO : Hid (aJ ex de ts = some (t2, q2)) := HW.out.trans ho
      have gB := aa hFx
      obtain ⟨i0, i1, i2, j1, k1, l1, j2, k2, l2, j3, k3, l3, rfl⟩ := hFx
      have HT := aa (hT.up (s' := w.heap.size + 1) (by omega) U0 U0)
      clear m2 ho h2 hT
      have x2 := X2.out
      unfold zE at x2
      obtain ⟨⟨u0, u1, u2, u3, u4, u5⟩, f0, f1, f2, f3, f4, f5⟩ := aG x2
      have jr : w.heap.size < w2.heap.size := ad x2
      clear x2
      go_wp2
      exact bodyPost_ret (v := .agg #[.int .i64 i0, .string i1, .int .i64 i2, .slice j1 k1 l1, .slice j2 k2 l2, .slice j3 k3 l3]) (results_cell_row rfl _ _ w.heap.size 34 _ (0, 0) _ rfl (aZ X2.out _ _ _ _ _ _) Tryz.underlying34 rfl (by kernel_rfl)) rfl (gG au ec HO.out M2.out H2.out hh2 HT.out gB.out)
     ·have M2 := aa (QW.out.trans m2)
      have HO : Hid (aJ ex de ts = none) := HW.out.trans ho
      clear m2 ho
      unfold ey
      go_wp2
      exact ⟨rfl, M2.out, .inr ⟨HO.out, rfl⟩⟩
end
section
variable {b g d : Nat} {w : World} {ts : List TokZ}
def MI (b g d : Nat) (w : World) (ts : List TokZ) (e : Ending) (w' : World) : Prop := Mv b w w' /\ ((∃ p o n c, gv ts = some p /\ e = .returned (.agg #[.string p.1.1, .slice o n c, .int .i64 0, .string ⟨#[]⟩, .int .i64 0, .slice none 0 0, .slice none 0 0, .slice none 0 0]) /\ p.1.1.size <= 1500 /\ Ir b g w' d p.2 /\ p.2.length < ts.length /\ StrT w' (w.heap.size + 1) w'.heap.size (.slice o n c) p.1.2) \/ (gv ts = none /\ e = ey))
theorem BC (h : Ir b g w d ts) : Calls Tryz.prog 283 #[.pointer (some ⟨b, 0, none⟩)] w (MI b g d w ts) := by
 have au := h.lt
 have ec := h.glt
 have dr := aa h.ends
 have aq : Hid (Below w.heap.size w (w.alloc (.cells #[.string ⟨#[]⟩, .slice none 0 0, .int .i64 0, .string ⟨#[]⟩, .int .i64 0, .slice none 0 0, .slice none 0 0, .slice none 0 0] 142))) := (U4 w).alloc U0 _
 have H0 := aa (h.below aq.out)
 have HX : Hid ((w.alloc (.cells #[.string ⟨#[]⟩, .slice none 0 0, .int .i64 0, .string ⟨#[]⟩, .int .i64 0, .slice none 0 0, .slice none 0 0, .slice none 0 0] 142)).heap[w.heap.size]? = some (.cells #[.string ⟨#[]⟩, .slice none 0 0, .int .i64 0, .string ⟨#[]⟩, .int .i64 0, .slice none 0 0, .slice none 0 0, .slice none 0 0] 142 (0, 0))) := heap_alloc_new w _
 clear h
 go_enter Tryz.func283, Tryz.ntmps283
 go_wp2_with fail
 refine (bL 2 H0.out).mono ?_
 rintro e w1 ⟨rfl, rfl⟩
 cases hk : isK ts 2 with
 | true =>
  obtain ⟨t, q, rfl, hq, Da, oq⟩ := sd (by omega) hk dr.out
  have KP : Hid (gv (t :: q) = some ((t.s, (aY q).1), (aY q).2)) := by
   unfold gv
   rw [hk]
   exact rfl
  have zi : (aY q).2.length <= q.length := (fL q hq).2
  have HQ := aa hq
  clear hk hq
  go_wp2_with fail
  refine (eN H0.out HQ.out).mono ?_
  rintro e w2 ⟨rfl, h2, m2⟩
  have H2 := aa h2
  have M2 := aa ((Mv.of aq.out).trans m2)
  have X2 := aa (af HX.out m2 (by omega))
  have mY := ad X2.out
  clear h2 m2
  go_wp2_with fail
  refine (rC H2.out).mono ?_
  rintro e w3 ⟨o, n, c, rfl, h3, m3, hS⟩
  have H3 := aa h3
  have M3 := aa (M2.out.trans m3)
  have X3 := aa (af X2.out m3 (by omega))
  have HS := aa hS
  have gy := m3.size
  clear h3 m3 hS
  have x3 := X3.out
  obtain ⟨⟨y0, y1, y2, y3, y4, y5, y6, y7⟩, f0, f1, f2, f3, f4, f5, f6, f7⟩ := sP x3
  have eP : w.heap.size < w3.heap.size := ad x3
  clear x3
  go_wp2
  refine bodyPost_ret (v := .agg #[.string t.s, .slice o n c, .int .i64 0, .string ⟨#[]⟩, .int .i64 0, .slice none 0 0, .slice none 0 0, .slice none 0 0]) ?_ rfl ?_
  ·exact results_cell_row rfl _ _ w.heap.size 142 _ (0, 0) _ rfl (sa X3.out _ _ _ _ _ _ _ _) Tryz.underlying142 rfl (by kernel_rfl)
  ·have hk := kU w3 w.heap.size (.string t.s) (.slice o n c) (.int .i64 0) (.string ⟨#[]⟩) (.int .i64 0) (.slice none 0 0) (.slice none 0 0) (.slice none 0 0)
   refine ⟨Keeps.mvo M3.out hk U0, .inl ⟨_, o, n, c, KP.out, rfl, Da, H3.out.other hk (by omega) (by omega), by simp only [List.length_cons]; omega, ?_⟩⟩
   show StrT (Dm w3 w.heap.size (.string t.s) (.slice o n c) (.int .i64 0) (.string ⟨#[]⟩) (.int .i64 0) (.slice none 0 0) (.slice none 0 0) (.slice none 0 0)) _ _ _ _
   exact (HS.out.keep fun k a1 a2 => hk.block k (by show _ ≠ _; omega)).up (by omega) (Nat.le_of_eq (mx ..).symm)
 | false =>
  have PK : Hid (gv ts = (eq ts).bind fun p => some ((sNil, [p.1]), p.2)) := by
   unfold gv
   rw [hk]
   exact rfl
  clear hk
  go_wp2_with fail
  refine (pU H0.out).mono ?_
  rintro e w2 ⟨⟨p, hp, rfl, h2⟩ | ⟨hp, rfl⟩, m2⟩
  ·have H2 := aa h2
   have M2 := aa ((Mv.of aq.out).trans m2)
   have X2 := aa (af HX.out m2 (by omega))
   have KP : Hid (gv ts = some ((sNil, [p.1]), p.2)) := by
    rw [PK.out, hp]
    exact rfl
   obtain ⟨he1, fB⟩ := gZ dr.out hp
   have cI : p.1.size <= 1500 := by
    have e9 : p.1 = jN ts := by
     unfold eq at hp
     split at hp
     ·cases hp; rfl
     ·cases hp
    rw [e9]
    exact gP dr.out
   have mY := ad X2.out
   have B2 : Hid (Below w2.heap.size w2 (w2.alloc (.cells #[.string p.1] 9))) := (U4 w2).alloc U0 _
   have X3 := aa (af X2.out (Mv.of (b := b) B2.out) (by omega))
   have M3 := aa (M2.out.trans (Mv.of (b := b) B2.out))
   have H3 := aa (H2.out.below B2.out)
   have HS : Hid (StrT (w2.alloc (.cells #[.string p.1] 9)) w2.heap.size (w2.alloc (.cells #[.string p.1] 9)).heap.size (.slice (some ⟨w2.heap.size, 0, none⟩) 1 1) [p.1]) := StrT.lit1 (by unfold maxLen; omega) (heap_alloc_new w2 _) U0 (by simp)
   clear h2 m2 hp he1
   generalize OA : w2.alloc (.cells #[.string p.1] 9) = V2 at X3 M3 H3 HS B2
   have x3 := X3.out
   obtain ⟨⟨y0, y1, y2, y3, y4, y5, y6, y7⟩, f0, f1, f2, f3, f4, f5, f6, f7⟩ := sP x3
   have eP := ad x3
   clear x3
   go_wp2
   refine bodyPost_ret (v := .agg #[.string ⟨#[]⟩, .slice (some ⟨w2.heap.size, 0, none⟩) 1 1, .int .i64 0, .string ⟨#[]⟩, .int .i64 0, .slice none 0 0, .slice none 0 0, .slice none 0 0]) ?_ rfl ?_
   ·exact results_cell_row rfl _ _ w.heap.size 142 _ (0, 0) _ rfl (sa X3.out _ _ _ _ _ _ _ _) Tryz.underlying142 rfl (by kernel_rfl)
   ·have hk := kU V2 w.heap.size (.string ⟨#[]⟩) (.slice (some ⟨w2.heap.size, 0, none⟩) 1 1) (.int .i64 0) (.string ⟨#[]⟩) (.int .i64 0) (.slice none 0 0) (.slice none 0 0) (.slice none 0 0)
    refine ⟨Keeps.mvo M3.out hk U0, .inl ⟨_, _, _, _, KP.out, rfl, (by show sNil.size <= 1500; decide), H3.out.other hk (by omega) (by omega), (by show p.2.length < ts.length; omega), ?_⟩⟩
    show StrT (Dm V2 w.heap.size (.string ⟨#[]⟩) (.slice (some ⟨w2.heap.size, 0, none⟩) 1 1) (.int .i64 0) (.string ⟨#[]⟩) (.int .i64 0) (.slice none 0 0) (.slice none 0 0) (.slice none 0 0)) _ _ _ _
    exact (HS.out.keep fun k a1 a2 => hk.block k (by show _ ≠ _; omega)).up (by omega) (Nat.le_of_eq (mx ..).symm)
  ·have M2 := aa ((Mv.of aq.out).trans m2)
   have KP : Hid (gv ts = none) := by
    rw [PK.out, hp]
    exact rfl
   clear m2 hp
   unfold ey
   go_wp2
   exact ⟨rfl, M2.out, .inr ⟨KP.out, rfl⟩⟩
end
def pd (w : World) (g : Nat) (v0 v1 v2 v3 v4 v5 : Value) : World := ((((((w.setCell ⟨g, 2, none⟩ v0).setCell ⟨g, 3, none⟩ v1).setCell ⟨g, 4, none⟩ v2).setCell ⟨g, 5, none⟩ v3).setCell ⟨g, 6, none⟩ v4).setCell ⟨g, 7, none⟩ v5)
theorem pl (w : World) (g : Nat) (v0 v1 v2 v3 v4 v5 : Value) : Keeps (fun k => k ≠ g) w (pd w g v0 v1 v2 v3 v4 v5) := by
 unfold pd
 exact ((((((ak w g 2 v0 (fun h => h rfl)).trans (ak _ g 3 v1 (fun h => h rfl))).trans (ak _ g 4 v2 (fun h => h rfl))).trans (ak _ g 5 v3 (fun h => h rfl))).trans (ak _ g 6 v4 (fun h => h rfl))).trans (ak _ g 7 v5 (fun h => h rfl)))
theorem rh (w : World) (g : Nat) (v0 v1 v2 v3 v4 v5 : Value) : (pd w g v0 v1 v2 v3 v4 v5).heap.size = w.heap.size := by
 unfold pd
 simp
section
variable {b g d : Nat} {w : World} {ts : List TokZ}
theorem AR {ex : bF} {n : Nat} (h : Ir b g w d ts) (hn : ts.length <= n + 1) (hE : CI b g d n ex) : Calls Tryz.prog 266 #[.pointer (some ⟨b, 0, none⟩)] w (oT Fa 2 b g d w ts (ff ex)) := by
 have au := h.lt
 have ec := h.glt
 have HE := aa hE
 have dr := aa h.ends
 have aq : Hid (Below w.heap.size w (w.alloc (.cells #[.string ⟨#[]⟩, .slice none 0 0, .int .i64 0, .string ⟨#[]⟩, .int .i64 0, .slice none 0 0, .slice none 0 0, .slice none 0 0] 142))) := (U4 w).alloc U0 _
 have H0 := aa (h.below aq.out)
 have HX : Hid ((w.alloc (.cells #[.string ⟨#[]⟩, .slice none 0 0, .int .i64 0, .string ⟨#[]⟩, .int .i64 0, .slice none 0 0, .slice none 0 0, .slice none 0 0] 142)).heap[w.heap.size]? = some (.cells #[.string ⟨#[]⟩, .slice none 0 0, .int .i64 0, .string ⟨#[]⟩, .int .i64 0, .slice none 0 0, .slice none 0 0, .slice none 0 0] 142 (0, 0))) := heap_alloc_new w _
 clear h hE
 go_enter Tryz.func266, Tryz.ntmps266
 go_wp2_with fail
 refine (BC H0.out).mono ?_
 rintro e w1 ⟨m1, ⟨p, o, pn, c, hp, rfl, cI, h1, fB, hS⟩ | ⟨hp, rfl⟩⟩
 ·have M1 := aa ((Mv.of aq.out).trans m1)
  have X1 := aa (af HX.out m1 (by omega))
  have jX := aa hp
  have nZ := ad X1.out
  have B1 : Hid (Below w1.heap.size w1 (w1.alloc (.cells #[.string p.1.1, .slice o pn c, .int .i64 0, .string ⟨#[]⟩, .int .i64 0, .slice none 0 0, .slice none 0 0, .slice none 0 0] 142))) := (U4 w1).alloc U0 _
  have Y1 : Hid ((w1.alloc (.cells #[.string p.1.1, .slice o pn c, .int .i64 0, .string ⟨#[]⟩, .int .i64 0, .slice none 0 0, .slice none 0 0, .slice none 0 0] 142)).heap[w1.heap.size]? = some (.cells #[.string p.1.1, .slice o pn c, .int .i64 0, .string ⟨#[]⟩, .int .i64 0, .slice none 0 0, .slice none 0 0, .slice none 0 0] 142 (0, 0))) := heap_alloc_new w1 _
  have KM := aa (h1.below B1.out)
  have IC := h1.lt
  have Sg := h1.glt
  have FB := aa (M1.out.trans (Mv.of (b := b) B1.out))
  have Ix := aa (af X1.out (Mv.of (b := b) B1.out) (by omega))
  have Fc : b < w1.heap.size := IC
  have HS := aa hS
  have ll : (w.alloc (.cells #[.string ⟨#[]⟩, .slice none 0 0, .int .i64 0, .string ⟨#[]⟩, .int .i64 0, .slice none 0 0, .slice none 0 0, .slice none 0 0] 142)).heap.size = w.heap.size + 1 := by simp
  have UP := aa (kK dr.out hp)
  clear h1 m1 hp hS
  go_wp2_with fail
  refine (cN eJ (by decide) (by decide) KM.out).mono ?_
  rintro e w2 ⟨⟨q2, fH, rfl, h2⟩ | ⟨fH, rfl⟩, m2⟩
  ·have H2 := aa h2
   have M2 := aa (FB.out.trans m2)
   have EH := aa ((Mv.of (b := b) B1.out).trans m2)
   have X2 := aa (af Ix.out m2 (by omega))
   have Y2 := aa (af Y1.out m2 (by omega))
   have qk := aa fH
   have iT := aQ fH
   have mY := ad X2.out
   have wI := ad Y2.out
   clear h2 m2 fH
   go_wp2_with fail
   refine (HE.out w2 q2 H2.out (by omega)).mono ?_
   rintro e w3 ⟨m3, ⟨t3, q3, cs, hh, ho, rfl, hFx, h3, hh3, hT⟩ | ⟨ho, rfl⟩⟩
   ·have M3 := aa (M2.out.trans m3)
    have iU := aa (EH.out.trans m3)
    have X3 := aa (af X2.out m3 (by omega))
    have Y3 := aa (af Y2.out m3 (by omega))
    have HT := aa hT
    have H3 := aa h3
    have gy := m3.size
    have HO : Hid (ff ex ts = some (GB p.1.1 p.1.2 t3, q3)) := by
     unfold ff
     rw [jX.out]
     show (ar eJ p.2).bind _ = _
     rw [qk.out]
     show (ex q2).bind _ = _
     rw [ho]
     exact rfl
    have gB := aa hFx
    obtain ⟨i0, i1, i2, j1, k1, l1, j2, k2, l2, j3, k3, l3, rfl⟩ := hFx
    clear m3 h3 hT ho
    have x3 := X3.out
    obtain ⟨⟨y0, y1, y2, y3, y4, y5, y6, y7⟩, f0, f1, f2, f3, f4, f5, f6, f7⟩ := sP x3
    have eP : w.heap.size < w3.heap.size := ad x3
    clear x3
    have z3 := Y3.out
    obtain ⟨⟨u0, u1, u2, u3, u4, u5, u6, u7⟩, v0, v1, v2, v3, v4, v5, v6, v7⟩ := sP z3
    have UE : w1.heap.size < w3.heap.size := ad z3
    clear z3
    go_wp2
    have dV := pl w3 w1.heap.size (.int .i64 i0) (.string i1) (.int .i64 i2) (.slice j1 k1 l1) (.slice j2 k2 l2) (.slice j3 k3 l3)
    have iN := rh w3 w1.heap.size (.int .i64 i0) (.string i1) (.int .i64 i2) (.slice j1 k1 l1) (.slice j2 k2 l2) (.slice j3 k3 l3)
    have X4 := (dV.block w.heap.size (by show _ ≠ _; omega)).trans X3.out
    refine bodyPost_ret (v := .agg #[.string p.1.1, .slice o pn c, .int .i64 i0, .string i1, .int .i64 i2, .slice j1 k1 l1, .slice j2 k2 l2, .slice j3 k3 l3]) ?_ rfl ?_
    ·exact results_cell_row rfl _ _ w.heap.size 142 _ (0, 0) _ rfl (sa X4 _ _ _ _ _ _ _ _) Tryz.underlying142 rfl (by kernel_rfl)
    ·have TP : StrT w3 (w.heap.size + 1) w1.heap.size (.slice o pn c) p.1.2 :=
      (HS.out.keep fun k a1 a2 => iU.out.block k ⟨a2, by omega⟩).up (by omega) U0
     have QK := Keeps.mvo M3.out dV (by omega)
     have p7 := H3.out.other dV (by omega) (by omega)
     have QY := TP.keep fun k a1 a2 => dV.block k (by show _ ≠ _; omega)
     have QQ := HT.out.keep fun k a1 a2 => dV.block k (by show _ ≠ _; omega)
     change oT _ _ _ _ _ _ _ _ _ (Dm (pd w3 w1.heap.size (.int .i64 i0) (.string i1) (.int .i64 i2) (.slice j1 k1 l1) (.slice j2 k2 l2) (.slice j3 k3 l3)) w.heap.size (.string p.1.1) (.slice o pn c) (.int .i64 i0) (.string i1) (.int .i64 i2) (.slice j1 k1 l1) (.slice j2 k2 l2) (.slice j3 k3 l3))
     generalize pd w3 w1.heap.size (.int .i64 i0) (.string i1) (.int .i64 i2) (.slice j1 k1 l1) (.slice j2 k2 l2) (.slice j3 k3 l3) = w4 at QK p7 QY QQ iN ⊢
     have hk := kU w4 w.heap.size (.string p.1.1) (.slice o pn c) (.int .i64 i0) (.string i1) (.int .i64 i2) (.slice j1 k1 l1) (.slice j2 k2 l2) (.slice j3 k3 l3)
     have hz := mx w4 w.heap.size (.string p.1.1) (.slice o pn c) (.int .i64 i0) (.string i1) (.int .i64 i2) (.slice j1 k1 l1) (.slice j2 k2 l2) (.slice j3 k3 l3)
     generalize Dm w4 w.heap.size (.string p.1.1) (.slice o pn c) (.int .i64 i0) (.string i1) (.int .i64 i2) (.slice j1 k1 l1) (.slice j2 k2 l2) (.slice j3 k3 l3) = w5 at hk hz ⊢
     refine ⟨Keeps.mvo QK hk U0, .inl ⟨_, q3, [.string p.1.1, .slice o pn c] ++ [.int .i64 i0, .string i1, .int .i64 i2, .slice j1 k1 l1, .slice j2 k2 l2, .slice j3 k3 l3], hh + 1, HO.out, rfl, ⟨_, _, _, _, _, _, _, _, _, _, _, _, _, _, _, _, rfl⟩, p7.other hk (by omega) (by omega), by omega, ?_⟩⟩
     exact (zS p.1.1 (by unfold maxLen; omega) ((QY.keep fun k a1 a2 => hk.block k (by show _ ≠ _; omega)).up (s' := w.heap.size) (by omega) U0) ((QQ.keep fun k a1 a2 => hk.block k (by show _ ≠ _; omega)).up (by omega) (by omega) U0) (by omega) (by omega)).up U0 U0 U0
   ·have M3 := aa (M2.out.trans m3)
    have HO : Hid (ff ex ts = none) := by
     unfold ff
     rw [jX.out]
     show (ar eJ p.2).bind _ = _
     rw [qk.out]
     show (ex q2).bind _ = _
     rw [ho]
     exact rfl
    clear m3 ho
    unfold ey
    go_wp2
    exact ⟨rfl, M3.out, .inr ⟨HO.out, rfl⟩⟩
  ·have M2 := aa (FB.out.trans m2)
   have HO : Hid (ff ex ts = none) := by
    unfold ff
    rw [jX.out]
    show (ar eJ p.2).bind _ = _
    rw [fH]
    exact rfl
   clear m2 fH
   unfold ey
   go_wp2
   exact ⟨rfl, M2.out, .inr ⟨HO.out, rfl⟩⟩
 ·have M1 := aa ((Mv.of aq.out).trans m1)
  have HO : Hid (ff ex ts = none) := by
   unfold ff
   rw [hp]
   exact rfl
  clear m1 hp
  unfold ey
  go_wp2
  exact ⟨rfl, M1.out, .inr ⟨HO.out, rfl⟩⟩
end
end Go.Proofs.YtfomndilhlgikajGreatDoor.Rd

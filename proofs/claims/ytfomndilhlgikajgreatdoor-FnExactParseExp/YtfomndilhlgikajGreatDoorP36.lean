import Derived.Lib.AtoiErrMem
import Derived.Test.YtfomndilhlgikajGreatDoorP35
import Derived.Test.YtfomndilhlgikajGreatDoorP25
set_option maxHeartbeats 8000000
set_option maxRecDepth 100000
namespace Go.Proofs.YtfomndilhlgikajGreatDoor.Rd
open Go.ChangeShapes Go.WideShapes Go.ChangeAt Go.RowKit
theorem Av {w : World} {g : Nat} {E : TypeId} {c0 c1 c2 c3 c4 c5 c6 c7 c8 : Value} (h : w.heap[g]? = some (.cells #[c0, c1, c2, c3, c4, c5, c6, c7, c8] E (0, 0))) (v2 v3 v4 v5 v6 v7 : Value) : (pd w g v2 v3 v4 v5 v6 v7).heap[g]? = some (.cells #[c0, c1, v2, v3, v4, v5, v6, v7, c8] E (0, 0)) := by
 have h2 : (w.setCell ⟨g, 2, none⟩ v2).heap[g]? = some (.cells #[c0, c1, v2, c3, c4, c5, c6, c7, c8] E (0, 0)) := ae (j := 2) v2 h
 have h3 : ((w.setCell ⟨g, 2, none⟩ v2).setCell ⟨g, 3, none⟩ v3).heap[g]? = some (.cells #[c0, c1, v2, v3, c4, c5, c6, c7, c8] E (0, 0)) := ae (j := 3) v3 h2
 have h4 : (((w.setCell ⟨g, 2, none⟩ v2).setCell ⟨g, 3, none⟩ v3).setCell ⟨g, 4, none⟩ v4).heap[g]? = some (.cells #[c0, c1, v2, v3, v4, c5, c6, c7, c8] E (0, 0)) := ae (j := 4) v4 h3
 have h5 : ((((w.setCell ⟨g, 2, none⟩ v2).setCell ⟨g, 3, none⟩ v3).setCell ⟨g, 4, none⟩ v4).setCell ⟨g, 5, none⟩ v5).heap[g]? = some (.cells #[c0, c1, v2, v3, v4, v5, c6, c7, c8] E (0, 0)) := ae (j := 5) v5 h4
 have h6 : (((((w.setCell ⟨g, 2, none⟩ v2).setCell ⟨g, 3, none⟩ v3).setCell ⟨g, 4, none⟩ v4).setCell ⟨g, 5, none⟩ v5).setCell ⟨g, 6, none⟩ v6).heap[g]? = some (.cells #[c0, c1, v2, v3, v4, v5, v6, c7, c8] E (0, 0)) := ae (j := 6) v6 h5
 have h7 : ((((((w.setCell ⟨g, 2, none⟩ v2).setCell ⟨g, 3, none⟩ v3).setCell ⟨g, 4, none⟩ v4).setCell ⟨g, 5, none⟩ v5).setCell ⟨g, 6, none⟩ v6).setCell ⟨g, 7, none⟩ v7).heap[g]? = some (.cells #[c0, c1, v2, v3, v4, v5, v6, v7, c8] E (0, 0)) := ae (j := 7) v7 h6
 exact h7
theorem yb {ts : List TokZ} {s : ByteArray} (h : cg ts s = true) (he : Ends ts) (hs : s ≠ ⟨#[]⟩) : ts.tail.length + 1 = ts.length /\ Ends ts.tail := by
 have h1 : ar s ts = some ts.tail := by unfold ar; rw [h]; rfl
 have h2 := cH hs he h1
 exact ⟨h2.2, h2.1⟩
section
variable {b g d : Nat} {w : World} {ts : List TokZ}
theorem Bd {ex de : bF} {n : Nat} (h : Ir b g w d ts) (hn : ts.length <= n + 1) (hE : CI b g d n ex) (hP : Ja b g d n de) (hX : bC ex) (hD : bC de) : Calls Tryz.prog 140 #[.pointer (some ⟨b, 0, none⟩)] w (oT Fd 1 b g d w ts (iW ex de)) := by
 have au := h.lt
 have ec := h.glt
 have HE := aa hE
 have Lt := aa hP
 have HJ := aa hX
 have wJ := aa hD
 have dr := aa h.ends
 have aq : Hid (Below w.heap.size w (w.alloc (.cells #[.string ⟨#[]⟩, .slice none 0 0, .int .i64 0, .string ⟨#[]⟩, .int .i64 0, .slice none 0 0, .slice none 0 0, .slice none 0 0, .slice none 0 0] 54))) := (U4 w).alloc U0 _
 have H0 := aa (h.below aq.out)
 have HX : Hid ((w.alloc (.cells #[.string ⟨#[]⟩, .slice none 0 0, .int .i64 0, .string ⟨#[]⟩, .int .i64 0, .slice none 0 0, .slice none 0 0, .slice none 0 0, .slice none 0 0] 54)).heap[w.heap.size]? = some (.cells #[.string ⟨#[]⟩, .slice none 0 0, .int .i64 0, .string ⟨#[]⟩, .int .i64 0, .slice none 0 0, .slice none 0 0, .slice none 0 0, .slice none 0 0] 54 (0, 0))) := heap_alloc_new w _
 have ll : (w.alloc (.cells #[.string ⟨#[]⟩, .slice none 0 0, .int .i64 0, .string ⟨#[]⟩, .int .i64 0, .slice none 0 0, .slice none 0 0, .slice none 0 0, .slice none 0 0] 54)).heap.size = w.heap.size + 1 := by simp
 clear h hE hP hX hD
 go_enter Tryz.func140, Tryz.ntmps140
 go_wp2_with fail
 refine (yX 1 (by omega) H0.out).mono ?_
 rintro e w1 ⟨⟨p, hp, rfl, h1⟩ | ⟨hp, rfl⟩, m1⟩
 case inr =>
  have M1 := aa ((Mv.of aq.out).trans m1)
  have Uh := aa hp
  clear m1 hp
  have HO : Hid (iW ex de ts = none) := by
   unfold iW
   rw [Uh.out]
   exact rfl
  unfold ey
  go_wp2
  exact ⟨rfl, M1.out, .inr ⟨HO.out, rfl⟩⟩
 have M1 := aa ((Mv.of aq.out).trans m1)
 have X1 := aa (af HX.out m1 (by omega))
 have H1 := aa h1
 have jX := aa hp
 obtain ⟨JY, zi⟩ := jB (k := 1) (by omega) dr.out hp
 have cI : p.1.size <= 1500 := by
  have e9 : p.1 = jN ts := by
   unfold eZ at hp
   split at hp
   ·cases hp; rfl
   ·cases hp
  rw [e9]
  exact gP dr.out
 have NO := aa JY
 have nZ := ad X1.out
 have vu := m1.size
 clear h1 m1 hp JY
 go_wp2_with fail
 refine (rC H1.out).mono ?_
 rintro e w2 ⟨o, pn, c, rfl, h2, m2, hS⟩
 have M2 := aa (M1.out.trans m2)
 have X2 := aa (af X1.out m2 (by omega))
 have HS := aa hS
 have jo := m2.size
 have IX := h2.lt
 have Nl := h2.glt
 have mY := ad X2.out
 have B2 : Hid (Below w2.heap.size w2 (w2.alloc (.cells #[.string p.1, .slice o pn c, .int .i64 0, .string ⟨#[]⟩, .int .i64 0, .slice none 0 0, .slice none 0 0, .slice none 0 0, .slice none 0 0] 54))) := (U4 w2).alloc U0 _
 have Y2 : Hid ((w2.alloc (.cells #[.string p.1, .slice o pn c, .int .i64 0, .string ⟨#[]⟩, .int .i64 0, .slice none 0 0, .slice none 0 0, .slice none 0 0, .slice none 0 0] 54)).heap[w2.heap.size]? = some (.cells #[.string p.1, .slice o pn c, .int .i64 0, .string ⟨#[]⟩, .int .i64 0, .slice none 0 0, .slice none 0 0, .slice none 0 0, .slice none 0 0] 54 (0, 0))) := heap_alloc_new w2 _
 have H2 := aa (h2.below B2.out)
 have J9 := aa (M2.out.trans (Mv.of (b := b) B2.out))
 have NP := aa (af X2.out (Mv.of (b := b) B2.out) (by omega))
 obtain ⟨hqe, QF⟩ := fL p.2 NO.out
 have OJ := aa hqe
 clear h2 m2 hS hqe
 go_wp2_with fail
 refine (cN ox (by decide) (by decide) H2.out).mono ?_
 rintro e w3 ⟨⟨q3, iv, rfl, h3⟩ | ⟨iv, rfl⟩, m3⟩
 case inr =>
  have M3 := aa (J9.out.trans m3)
  have SC := aa iv
  clear m3 iv
  have HO : Hid (iW ex de ts = none) := by
   unfold iW
   rw [jX.out]
   show (ar ox (aY p.2).2).bind _ = _
   rw [SC.out]
   exact rfl
  unfold ey
  go_wp2
  exact ⟨rfl, M3.out, .inr ⟨HO.out, rfl⟩⟩
 have M3 := aa (J9.out.trans m3)
 have Io := aa ((Mv.of (b := b) B2.out).trans m3)
 have X3 := aa (af NP.out m3 (by omega))
 have Y3 := aa (af Y2.out m3 (by omega))
 have H3 := aa h3
 have HQ := aa iv
 have Jf := aQ iv
 have NY := ad X3.out
 have My := ad Y3.out
 clear h3 m3 iv
 go_wp2_with fail
 refine (HE.out w3 q3 H3.out (by omega)).mono ?_
 rintro e w4 ⟨m4, ⟨t4, q4, cs, hh, ho, rfl, hFx, h4, hh4, hT⟩ | ⟨ho, rfl⟩⟩
 case inr =>
  have M4 := aa (M3.out.trans m4)
  have T7 := aa ho
  clear m4 ho
  have HO : Hid (iW ex de ts = none) := by
   unfold iW
   rw [jX.out]
   show (ar ox (aY p.2).2).bind _ = _
   rw [HQ.out]
   show (ex q3).bind _ = _
   rw [T7.out]
   exact rfl
  unfold ey
  go_wp2
  exact ⟨rfl, M4.out, .inr ⟨HO.out, rfl⟩⟩
 have M4 := aa (M3.out.trans m4)
 have Dr := aa (Io.out.trans m4)
 have X4 := aa (af X3.out m4 (by omega))
 have Y4 := aa (af Y3.out m4 (by omega))
 have HT := aa hT
 have Ih := aa ho
 have EJ := m4.size
 have mX : Hid (StrT w4 (w.heap.size + 1) w2.heap.size (.slice o pn c) (aY p.2).1) := (HS.out.keep fun k a1 a2 => Dr.out.block k ⟨a2, by omega⟩).up (by omega) U0
 have H4 := aa h4
 obtain ⟨i0, i1, i2, j1, k1, l1, j2, k2, l2, j3, k3, l3, rfl⟩ := hFx
 have tn := pl w4 w2.heap.size (.int .i64 i0) (.string i1) (.int .i64 i2) (.slice j1 k1 l1) (.slice j2 k2 l2) (.slice j3 k3 l3)
 have E2 := rh w4 w2.heap.size (.int .i64 i0) (.string i1) (.int .i64 i2) (.slice j1 k1 l1) (.slice j2 k2 l2) (.slice j3 k3 l3)
 have Om := h4.lt
 have EN := h4.glt
 have CW := ad X4.out
 have PW := ad Y4.out
 have Y5 := aa (Av Y4.out (.int .i64 i0) (.string i1) (.int .i64 i2) (.slice j1 k1 l1) (.slice j2 k2 l2) (.slice j3 k3 l3))
 have X5 := aa ((tn.block w.heap.size (by show _ ≠ _; omega)).trans X4.out)
 have H5 := aa (H4.out.other tn (by omega) (by omega))
 have M5 := aa (Keeps.mvo M4.out tn (by omega))
 have S5 := aa (mX.out.keep fun k a1 a2 => tn.block k (by show _ ≠ _; omega))
 have T5 := aa (HT.out.keep fun k a1 a2 => tn.block k (by show _ ≠ _; omega))
 have y4 := Y4.out
 obtain ⟨⟨u0, u1, u2, u3, u4, u5, u6, u7, u8⟩, v0, v1, v2, v3, v4, v5, v6, v7, v8⟩ := o8 y4
 have HV : Hid (pd w4 w2.heap.size (.int .i64 i0) (.string i1) (.int .i64 i2) (.slice j1 k1 l1) (.slice j2 k2 l2) (.slice j3 k3 l3) = pd w4 w2.heap.size (.int .i64 i0) (.string i1) (.int .i64 i2) (.slice j1 k1 l1) (.slice j2 k2 l2) (.slice j3 k3 l3)) := rfl
 clear m4 ho h4 hT y4
 have Lu : ((((((w4.setCell ⟨w2.heap.size, 2, none⟩ (.int .i64 i0)).setCell ⟨w2.heap.size, 3, none⟩ (.string i1)).setCell ⟨w2.heap.size, 4, none⟩ (.int .i64 i2)).setCell ⟨w2.heap.size, 5, none⟩ (.slice j1 k1 l1)).setCell ⟨w2.heap.size, 6, none⟩ (.slice j2 k2 l2)).setCell ⟨w2.heap.size, 7, none⟩ (.slice j3 k3 l3)) = pd w4 w2.heap.size (.int .i64 i0) (.string i1) (.int .i64 i2) (.slice j1 k1 l1) (.slice j2 k2 l2) (.slice j3 k3 l3) := rfl
 go_upto_region 4 with fail
 try rw [Lu]
 clear Lu HV tn
 generalize pd w4 w2.heap.size (.int .i64 i0) (.string i1) (.int .i64 i2) (.slice j1 k1 l1) (.slice j2 k2 l2) (.slice j3 k3 l3) = w5 at *
 clear u0 u1 u2 u3 u4 u5 u6 u7 u8 v0 v1 v2 v3 v4 v5 v6 v7 v8
 go_wp2_with fail
 refine (el lQ (by decide) (by decide) H5.out).mono ?_
 rintro e w6 ⟨⟨hs, rfl, h6⟩ | ⟨hs, rfl, h6⟩, m6⟩
 ·have M6 := aa (M5.out.trans m6)
  have X6 := aa (af X5.out m6 (by omega))
  have Y6 := aa (af Y5.out m6 (by omega))
  have H6 := aa h6
  have vn := aa ((HJ.out _ _ _ (cH (by decide) OJ.out HQ.out).1 Ih.out).1)
  obtain ⟨om, hte⟩ := yb hs vn.out (by decide)
  have Pv := aa hs
  have To := m6.size
  have S6 := aa (S5.out.keep fun k a1 a2 => m6.block k ⟨by omega, by omega⟩)
  have T6 := aa (T5.out.keep fun k a1 a2 => m6.block k ⟨by omega, by omega⟩)
  have P8 := ad X6.out
  have UA := ad Y6.out
  clear h6 m6 hs hte
  go_wp2_with fail
  refine (lz H6.out (n := n) (by omega) Lt.out wJ.out).mono ?_
  rintro e w7 ⟨m7, ⟨l9, q7, o7, n7, c7, h7, Ce, rfl, hi7, hh7, hR⟩ | ⟨Ce, rfl⟩⟩
  case inr =>
   have M7 := aa (M6.out.trans m7)
   have TB : Hid (cC de q4 = none) := by
    unfold cC
    rw [Pv.out, if_pos rfl, Ce]
    exact rfl
   clear m7 Ce
   have HO : Hid (iW ex de ts = none) := by
    unfold iW
    rw [jX.out]
    show (ar ox (aY p.2).2).bind _ = _
    rw [HQ.out]
    show (ex q3).bind _ = _
    rw [Ih.out]
    show (cC de q4).bind _ = _
    rw [TB.out]
    exact rfl
   unfold ey
   go_wp2
   exact ⟨rfl, M7.out, .inr ⟨HO.out, rfl⟩⟩
  have M7 := M6.out.trans m7
  have X7 := af X6.out m7 (by omega)
  have Y7 := af Y6.out m7 (by omega)
  have HO : Hid (iW ex de ts = some (ED p.1 (aY p.2).1 t4 l9, q7)) := by
   have hw : cC de q4 = some (l9, q7) := by
    unfold cC
    rw [Pv.out, if_pos rfl, Ce]
   unfold iW
   rw [jX.out]
   show (ar ox (aY p.2).2).bind _ = _
   rw [HQ.out]
   show (ex q3).bind _ = _
   rw [Ih.out]
   show (cC de q4).bind _ = _
   rw [hw]
   exact rfl
  have UH := m7.size
  have DE := ak w7 w2.heap.size 8 (.slice o7 n7 c7) (K := fun k => k ≠ w2.heap.size) (fun h => h rfl)
  have QT : (w7.setCell ⟨w2.heap.size, 8, none⟩ (.slice o7 n7 c7)).heap.size = w7.heap.size := by simp
  have Y8 : (w7.setCell ⟨w2.heap.size, 8, none⟩ (.slice o7 n7 c7)).heap[w2.heap.size]? = some (.cells #[.string p.1, .slice o pn c, .int .i64 i0, .string i1, .int .i64 i2, .slice j1 k1 l1, .slice j2 k2 l2, .slice j3 k3 l3, .slice o7 n7 c7] 54 (0, 0)) := ae (j := 8) _ Y7
  have XF := (DE.block w.heap.size (by show _ ≠ _; omega)).trans X7
  have IF := hi7.other DE (by omega) (by omega)
  have MF := Keeps.mvo M7 DE (by omega)
  have SF := (S6.out.keep fun k a1 a2 => m7.block k ⟨by omega, by omega⟩).keep fun k a1 a2 => DE.block k (by show _ ≠ _; omega)
  have TF := (T6.out.keep fun k a1 a2 => m7.block k ⟨by omega, by omega⟩).keep fun k a1 a2 => DE.block k (by show _ ≠ _; omega)
  have RF := (hR.keep fun k a1 a2 => DE.block k (by show _ ≠ _; omega)).up (s' := w4.heap.size) (by omega) U0 U0
  obtain ⟨HF, hHF⟩ : ∃ HF, HF = max hh h7 := ⟨_, rfl⟩
  obtain ⟨⟨u0, u1, u2, u3, u4, u5, u6, u7, u8⟩, v0, v1, v2, v3, v4, v5, v6, v7, v8⟩ := o8 Y7
  obtain ⟨⟨r0, r1, r2, r3, r4, r5, r6, r7, r8⟩, -⟩ := o8 Y8
  obtain ⟨⟨a0, a1, a2, a3, a4, a5, a6, a7, a8⟩, f0, f1, f2, f3, f4, f5, f6, f7, f8⟩ := o8 XF
  have XF := aa XF
  have IF := aa IF
  have MF := aa MF
  have SF := aa SF
  have TF := aa TF
  have RF := aa RF
  clear m7 Ce hi7 hR M7 X7 Y7 Y8 DE
  generalize hW8 : w7.setCell ⟨w2.heap.size, 8, none⟩ (.slice o7 n7 c7) = w8 at *
  have Uq : w.heap.size < w8.heap.size := by omega
  go_wp2
  have XF := XF.out
  have IF := IF.out
  have MF := MF.out
  have SF := SF.out
  have TF := TF.out
  have RF := RF.out
  refine bodyPost_ret (v := .agg #[.string p.1, .slice o pn c, .int .i64 i0, .string i1, .int .i64 i2, .slice j1 k1 l1, .slice j2 k2 l2, .slice j3 k3 l3, .slice o7 n7 c7]) ?_ rfl ?_
  ·exact results_cell_row rfl _ _ w.heap.size 54 _ (0, 0) _ rfl (r9 XF _ _ _ _ _ _ _ _ _) Tryz.underlying54 rfl (by kernel_rfl)
  ·change oT _ _ _ _ _ _ _ _ _ (Dl w8 w.heap.size (.string p.1) (.slice o pn c) (.int .i64 i0) (.string i1) (.int .i64 i2) (.slice j1 k1 l1) (.slice j2 k2 l2) (.slice j3 k3 l3) (.slice o7 n7 c7))
   have hk := nt w8 w.heap.size (.string p.1) (.slice o pn c) (.int .i64 i0) (.string i1) (.int .i64 i2) (.slice j1 k1 l1) (.slice j2 k2 l2) (.slice j3 k3 l3) (.slice o7 n7 c7)
   have hz := pK w8 w.heap.size (.string p.1) (.slice o pn c) (.int .i64 i0) (.string i1) (.int .i64 i2) (.slice j1 k1 l1) (.slice j2 k2 l2) (.slice j3 k3 l3) (.slice o7 n7 c7)
   generalize Dl w8 w.heap.size (.string p.1) (.slice o pn c) (.int .i64 i0) (.string i1) (.int .i64 i2) (.slice j1 k1 l1) (.slice j2 k2 l2) (.slice j3 k3 l3) (.slice o7 n7 c7) = w9 at hk hz ⊢
   refine ⟨Keeps.mvo MF hk U0, .inl ⟨_, q7, [.string p.1, .slice o pn c] ++ [.int .i64 i0, .string i1, .int .i64 i2, .slice j1 k1 l1, .slice j2 k2 l2, .slice j3 k3 l3] ++ [.slice o7 n7 c7], HF + 1, HO.out, rfl, ⟨_, _, _, _, _, _, _, _, _, _, _, _, _, _, _, _, _, _, _, rfl⟩, IF.other hk (by omega) (by omega), by omega, ?_⟩⟩
   exact (vP p.1 (by unfold maxLen; omega) ((SF.keep fun k a1 a2 => hk.block k (by show _ ≠ _; omega)).up (s' := w.heap.size) (by omega) U0) ((TF.keep fun k a1 a2 => hk.block k (by show _ ≠ _; omega)).up (by omega) U0 (by omega)) ((RF.keep fun k a1 a2 => hk.block k (by show _ ≠ _; omega)).up U0 (by omega) (by omega)) (by omega) (by omega) (by omega)).up U0 U0 U0
 ·have X6 := af X5.out m6 (by omega)
  have Y6 := af Y5.out m6 (by omega)
  have IF := aa h6
  have MF := aa (M5.out.trans m6)
  have To := m6.size
  have HO : Hid (iW ex de ts = some (ED p.1 (aY p.2).1 t4 [], q4)) := by
   have hw : cC de q4 = some ([], q4) := by
    unfold cC
    rw [hs]
    exact rfl
   unfold iW
   rw [jX.out]
   show (ar ox (aY p.2).2).bind _ = _
   rw [HQ.out]
   show (ex q3).bind _ = _
   rw [Ih.out]
   show (cC de q4).bind _ = _
   rw [hw]
   exact rfl
  have SF := aa (S5.out.keep fun k a1 a2 => m6.block k ⟨by omega, by omega⟩)
  have TF := aa (T5.out.keep fun k a1 a2 => m6.block k ⟨by omega, by omega⟩)
  have RF := aa (RowT.nil w6 w4.heap.size w6.heap.size hh 1)
  obtain ⟨HF, hHF⟩ : ∃ HF, HF = hh := ⟨_, rfl⟩
  obtain ⟨⟨r0, r1, r2, r3, r4, r5, r6, r7, r8⟩, -⟩ := o8 Y6
  obtain ⟨⟨a0, a1, a2, a3, a4, a5, a6, a7, a8⟩, f0, f1, f2, f3, f4, f5, f6, f7, f8⟩ := o8 X6
  have Dp : w.heap.size < w6.heap.size := ad X6
  have XF := aa X6
  clear m6 h6 hs X6 Y6
  go_wp2
  have XF := XF.out
  have IF := IF.out
  have MF := MF.out
  have SF := SF.out
  have TF := TF.out
  have RF := RF.out
  refine bodyPost_ret (v := .agg #[.string p.1, .slice o pn c, .int .i64 i0, .string i1, .int .i64 i2, .slice j1 k1 l1, .slice j2 k2 l2, .slice j3 k3 l3, .slice none 0 0]) ?_ rfl ?_
  ·exact results_cell_row rfl _ _ w.heap.size 54 _ (0, 0) _ rfl (r9 XF _ _ _ _ _ _ _ _ _) Tryz.underlying54 rfl (by kernel_rfl)
  ·change oT _ _ _ _ _ _ _ _ _ (Dl w6 w.heap.size (.string p.1) (.slice o pn c) (.int .i64 i0) (.string i1) (.int .i64 i2) (.slice j1 k1 l1) (.slice j2 k2 l2) (.slice j3 k3 l3) (.slice none 0 0))
   have hk := nt w6 w.heap.size (.string p.1) (.slice o pn c) (.int .i64 i0) (.string i1) (.int .i64 i2) (.slice j1 k1 l1) (.slice j2 k2 l2) (.slice j3 k3 l3) (.slice none 0 0)
   have hz := pK w6 w.heap.size (.string p.1) (.slice o pn c) (.int .i64 i0) (.string i1) (.int .i64 i2) (.slice j1 k1 l1) (.slice j2 k2 l2) (.slice j3 k3 l3) (.slice none 0 0)
   generalize Dl w6 w.heap.size (.string p.1) (.slice o pn c) (.int .i64 i0) (.string i1) (.int .i64 i2) (.slice j1 k1 l1) (.slice j2 k2 l2) (.slice j3 k3 l3) (.slice none 0 0) = w9 at hk hz ⊢
   refine ⟨Keeps.mvo MF hk U0, .inl ⟨_, q4, [.string p.1, .slice o pn c] ++ [.int .i64 i0, .string i1, .int .i64 i2, .slice j1 k1 l1, .slice j2 k2 l2, .slice j3 k3 l3] ++ [.slice none 0 0], HF + 1, HO.out, rfl, ⟨_, _, _, _, _, _, _, _, _, _, _, _, _, _, _, _, _, _, _, rfl⟩, IF.other hk (by omega) (by omega), by omega, ?_⟩⟩
   exact (vP p.1 (by unfold maxLen; omega) ((SF.keep fun k a1 a2 => hk.block k (by show _ ≠ _; omega)).up (s' := w.heap.size) (by omega) U0) ((TF.keep fun k a1 a2 => hk.block k (by show _ ≠ _; omega)).up (by omega) U0 (by omega)) ((RF.keep fun k a1 a2 => hk.block k (by show _ ≠ _; omega)).up U0 (by omega) (by omega)) (by omega) (by omega) (by omega)).up U0 U0 U0
end
theorem Ej (hN : tQ) (b g : Nat) : ∀ f d, CI b g d f ((ps f).ex d) /\ Ja b g d f ((ps f).de d) := by
 intro f
 induction f with
 | zero =>
  intro d
  refine ⟨fun w ts h hn => ?_, fun w ts h hn => ?_⟩
  all_goals
   obtain ⟨t, q, rfl⟩ := h.ends.form
   simp at hn
 | succ f ih =>
  intro d
  refine ⟨fun w ts h hn => ?_, fun w ts h hn => ?_⟩
  ·exact zX (wh := aJ ((ps f).ex (d + 1)) ((ps f).de (d + 1))) h hn fun w ts h hn => xY hN h hn (ih (d + 1)).1 (ih (d + 1)).2 (fun w ts h hn => AR h (by omega) (ih (d + 1)).1) ((f9 f).1 _) ((f9 f).2 _)
  ·exact Bd h hn (ih d).1 (ih d).2 ((f9 f).1 _) ((f9 f).2 _)
theorem AH : ∀ (l : List UInt8) (acc : Nat), (∀ c ∈ l, 48 <= c.toNat /\ c.toNat <= 57) -> ∃ m : Nat, Lib.decFrom acc l = some m /\ (m : Int) = l.foldl (fun n c => n * 10 + ((c.toNat : Int) - 48)) (acc : Int) := by
 intro l
 induction l with
 | nil => intro acc _; exact ⟨acc, rfl, rfl⟩
 | cons c r ih =>
  intro acc hc
  have h1 := hc c (List.mem_cons_self ..)
  have hd : Lib.digitVal c = some (c.toNat - 48) := by unfold Lib.digitVal; rw [if_pos h1]
  obtain ⟨m, hm, he⟩ := ih (acc * 10 + (c.toNat - 48)) fun x hx => hc x (List.mem_cons_of_mem _ hx)
  refine ⟨m, ?_, ?_⟩
  ·show (match Lib.digitVal c with | some d => Lib.decFrom (acc * 10 + d) r | none => none) = _
   rw [hd]
   exact hm
  ·rw [he, List.foldl_cons]
   congr 1
   omega
theorem AY {s : ByteArray} (h1 : 1 <= s.size) (hc : ∀ c ∈ s.data.toList, 48 <= c.toNat /\ c.toNat <= 57) : Lib.atoi s.data.toList = some (qz s) := by
 have hl : s.data.toList ≠ [] := by
  intro e
  have : s.data.toList.length = 0 := by rw [e]; rfl
  have h2 : s.data.toList.length = s.size := rfl
  omega
 unfold qz
 generalize s.data.toList = l at hc hl
 cases l with
 | nil => exact absurd rfl hl
 | cons b r =>
  have hb := hc b (List.mem_cons_self ..)
  obtain ⟨m, hm, he⟩ := AH (b :: r) 0 hc
  have n1 : (b == 45) = false := by
   rw [beq_eq_false_iff_ne]
   rintro rfl
   exact absurd hb.1 (by decide)
  have n2 : (b == 43) = false := by
   rw [beq_eq_false_iff_ne]
   rintro rfl
   exact absurd hb.1 (by decide)
  show (if b == 45 then _ else if b == 43 then _ else (Lib.decNat (b :: r)).map fun (m : Nat) => (m : Int)) = _
  rw [n1, n2, if_neg (by decide), if_neg (by decide)]
  have hd : Lib.decNat (b :: r) = some m := hm
  rw [hd]
  exact congrArg some he
theorem MN : tQ := by
 intro s w h1 h6 hc
 have HA := aa (Tryz.strconv_Atoi s (qz s) (by omega) (AY h1 hc) w)
 generalize qz s = z at HA
 clear hc
 go_enter Tryz.func316, Tryz.ntmps316
 go_wp2_with fail
 refine HA.out.mono ?_
 rintro e w1 ⟨rfl, t, hw⟩
 have HB : Hid (Below w.heap.size w w1) := by rw [hw]; exact Lib.bytesWorld_below _ _ _
 clear hw
 go_wp2
 go_ret
 exact ⟨rfl, HB.out⟩
end Go.Proofs.YtfomndilhlgikajGreatDoor.Rd
namespace Go.Proofs.YtfomndilhlgikajGreatDoor
open Go.ChangeShapes Go.WideShapes Go.ChangeAt Go.RowKit
theorem mC (s : ByteArray) (w : World) :
 Calls Tryz.prog 314 #[.agg #[.string s]] w fun e w' => ∃ o c, e = .returned (.agg #[.int .i64 1, .string s, .int .i64 0, .slice o 0 c, .slice none 0 0, .slice none 0 0]) /\ Below w.heap.size w w' := by
 go_enter Tryz.func314, Tryz.ntmps314
 go_wp2
 refine bodyPost_ret (v := .agg #[.int .i64 1, .string s, .int .i64 0, .slice none 0 0, .slice none 0 0, .slice none 0 0]) ?_ rfl ?_
 ·refine results_cell_row rfl _ _ (w.heap.size + 1) 34 _ (0, 0) _ rfl ?_ Tryz.underlying34 rfl (by kernel_rfl)
  first | exact heap_alloc2_new w _ _ | (rw [Below.heap_alloc _ _ _ (by simp)]; exact heap_alloc2_new w _ _)
 ·refine ⟨_, _, rfl, ?_⟩
  first | exact ((U4 w).alloc U0 _).alloc (by simp) _ | exact (((U4 w).alloc U0 _).alloc (by simp) _).alloc (by simp; omega) _
theorem lF (s : ByteArray) (w : World) :
 Calls Tryz.prog 315 #[.agg #[.string s]] w fun e w' => ∃ o c, e = .returned (.agg #[.int .i64 2, .string s, .int .i64 0, .slice o 0 c, .slice none 0 0, .slice none 0 0]) /\ Below w.heap.size w w' := by
 go_enter Tryz.func315, Tryz.ntmps315
 go_wp2
 refine bodyPost_ret (v := .agg #[.int .i64 2, .string s, .int .i64 0, .slice none 0 0, .slice none 0 0, .slice none 0 0]) ?_ rfl ?_
 ·refine results_cell_row rfl _ _ (w.heap.size + 1) 34 _ (0, 0) _ rfl ?_ Tryz.underlying34 rfl (by kernel_rfl)
  first | exact heap_alloc2_new w _ _ | (rw [Below.heap_alloc _ _ _ (by simp)]; exact heap_alloc2_new w _ _)
 ·refine ⟨_, _, rfl, ?_⟩
  first | exact ((U4 w).alloc U0 _).alloc (by simp) _ | exact (((U4 w).alloc U0 _).alloc (by simp) _).alloc (by simp; omega) _
theorem nS (n : Int) (w : World) :
 Calls Tryz.prog 317 #[.agg #[.int .i64 n]] w fun e w' => ∃ o c, e = .returned (.agg #[.int .i64 3, .string ⟨#[]⟩, .int .i64 n, .slice o 0 c, .slice none 0 0, .slice none 0 0]) /\ Below w.heap.size w w' := by
 go_enter Tryz.func317, Tryz.ntmps317
 go_wp2
 refine bodyPost_ret (v := .agg #[.int .i64 3, .string ⟨#[]⟩, .int .i64 n, .slice none 0 0, .slice none 0 0, .slice none 0 0]) ?_ rfl ?_
 ·refine results_cell_row rfl _ _ (w.heap.size + 1) 34 _ (0, 0) _ rfl ?_ Tryz.underlying34 rfl (by kernel_rfl)
  first | exact heap_alloc2_new w _ _ | (rw [Below.heap_alloc _ _ _ (by simp)]; exact heap_alloc2_new w _ _)
 ·refine ⟨_, _, rfl, ?_⟩
  first | exact ((U4 w).alloc U0 _).alloc (by simp) _ | exact (((U4 w).alloc U0 _).alloc (by simp) _).alloc (by simp; omega) _
theorem mw (a0 a1 a2 a3 a4 a5 : Value) (b0 b1 b2 b3 b4 b5 : Value) (w : World) :
 Calls Tryz.prog 310 #[.agg #[a0, a1, a2, a3, a4, a5, b0, b1, b2, b3, b4, b5]] w fun e w' => ∃ o c, e = .returned (.agg #[.int .i64 4, .string ⟨#[]⟩, .int .i64 0, .slice o 2 c, .slice none 0 0, .slice none 0 0]) /\ Below w.heap.size w w' := by
 go_enter Tryz.func310, Tryz.ntmps310
 go_wp2
 refine bodyPost_ret (v := .agg #[.int .i64 4, .string ⟨#[]⟩, .int .i64 0, .slice (some ⟨w.heap.size + 2, 0, none⟩) 2 2, .slice none 0 0, .slice none 0 0]) ?_ rfl ?_
 ·refine results_cell_row rfl _ _ (w.heap.size + 1) 34 _ (0, 0) _ rfl ?_ Tryz.underlying34 rfl (by kernel_rfl)
  first | exact heap_alloc2_new w _ _ | (rw [Below.heap_alloc _ _ _ (by simp)]; exact heap_alloc2_new w _ _)
 ·refine ⟨_, _, rfl, ?_⟩
  first | exact ((U4 w).alloc U0 _).alloc (by simp) _ | exact (((U4 w).alloc U0 _).alloc (by simp) _).alloc (by simp; omega) _
theorem nV (s : ByteArray) (a0 a1 a2 a3 a4 a5 : Value) (w : World) :
 Calls Tryz.prog 208 #[.agg #[.string s, a0, a1, a2, a3, a4, a5]] w fun e w' => ∃ o c, e = .returned (.agg #[.int .i64 5, .string s, .int .i64 0, .slice o 1 c, .slice none 0 0, .slice none 0 0]) /\ Below w.heap.size w w' := by
 go_enter Tryz.func208, Tryz.ntmps208
 go_wp2
 refine bodyPost_ret (v := .agg #[.int .i64 5, .string s, .int .i64 0, .slice (some ⟨w.heap.size + 2, 0, none⟩) 1 1, .slice none 0 0, .slice none 0 0]) ?_ rfl ?_
 ·refine results_cell_row rfl _ _ (w.heap.size + 1) 34 _ (0, 0) _ rfl ?_ Tryz.underlying34 rfl (by kernel_rfl)
  first | exact heap_alloc2_new w _ _ | (rw [Below.heap_alloc _ _ _ (by simp)]; exact heap_alloc2_new w _ _)
 ·refine ⟨_, _, rfl, ?_⟩
  first | exact ((U4 w).alloc U0 _).alloc (by simp) _ | exact (((U4 w).alloc U0 _).alloc (by simp) _).alloc (by simp; omega) _
theorem nU (o2 : Option Addr) (l2 c2 : Nat) (a0 a1 a2 a3 a4 a5 : Value) (w : World) :
 Calls Tryz.prog 210 #[.agg #[.slice o2 l2 c2, a0, a1, a2, a3, a4, a5]] w fun e w' => ∃ o c, e = .returned (.agg #[.int .i64 6, .string ⟨#[]⟩, .int .i64 0, .slice o 1 c, .slice o2 l2 c2, .slice none 0 0]) /\ Below w.heap.size w w' := by
 go_enter Tryz.func210, Tryz.ntmps210
 go_wp2
 refine bodyPost_ret (v := .agg #[.int .i64 6, .string ⟨#[]⟩, .int .i64 0, .slice (some ⟨w.heap.size + 2, 0, none⟩) 1 1, .slice o2 l2 c2, .slice none 0 0]) ?_ rfl ?_
 ·refine results_cell_row rfl _ _ (w.heap.size + 1) 34 _ (0, 0) _ rfl ?_ Tryz.underlying34 rfl (by kernel_rfl)
  first | exact heap_alloc2_new w _ _ | (rw [Below.heap_alloc _ _ _ (by simp)]; exact heap_alloc2_new w _ _)
 ·refine ⟨_, _, rfl, ?_⟩
  first | exact ((U4 w).alloc U0 _).alloc (by simp) _ | exact (((U4 w).alloc U0 _).alloc (by simp) _).alloc (by simp; omega) _
theorem mD (a0 a1 a2 a3 a4 a5 : Value) (o3 : Option Addr) (l3 c3 : Nat) (w : World) :
 Calls Tryz.prog 212 #[.agg #[a0, a1, a2, a3, a4, a5, .slice o3 l3 c3]] w fun e w' => ∃ o c, e = .returned (.agg #[.int .i64 7, .string ⟨#[]⟩, .int .i64 0, .slice o 1 c, .slice none 0 0, .slice o3 l3 c3]) /\ Below w.heap.size w w' := by
 go_enter Tryz.func212, Tryz.ntmps212
 go_wp2
 refine bodyPost_ret (v := .agg #[.int .i64 7, .string ⟨#[]⟩, .int .i64 0, .slice (some ⟨w.heap.size + 2, 0, none⟩) 1 1, .slice none 0 0, .slice o3 l3 c3]) ?_ rfl ?_
 ·refine results_cell_row rfl _ _ (w.heap.size + 1) 34 _ (0, 0) _ rfl ?_ Tryz.underlying34 rfl (by kernel_rfl)
  first | exact heap_alloc2_new w _ _ | (rw [Below.heap_alloc _ _ _ (by simp)]; exact heap_alloc2_new w _ _)
 ·refine ⟨_, _, rfl, ?_⟩
  first | exact ((U4 w).alloc U0 _).alloc (by simp) _ | exact (((U4 w).alloc U0 _).alloc (by simp) _).alloc (by simp; omega) _
theorem pr (a0 a1 a2 a3 a4 a5 : Value) (b0 b1 b2 b3 b4 b5 : Value) (d0 d1 d2 d3 d4 d5 : Value) (w : World) :
 Calls Tryz.prog 214 #[.agg #[a0, a1, a2, a3, a4, a5, b0, b1, b2, b3, b4, b5, d0, d1, d2, d3, d4, d5]] w fun e w' => ∃ o c, e = .returned (.agg #[.int .i64 8, .string ⟨#[]⟩, .int .i64 0, .slice o 3 c, .slice none 0 0, .slice none 0 0]) /\ Below w.heap.size w w' := by
 go_enter Tryz.func214, Tryz.ntmps214
 go_wp2
 refine bodyPost_ret (v := .agg #[.int .i64 8, .string ⟨#[]⟩, .int .i64 0, .slice (some ⟨w.heap.size + 2, 0, none⟩) 3 3, .slice none 0 0, .slice none 0 0]) ?_ rfl ?_
 ·refine results_cell_row rfl _ _ (w.heap.size + 1) 34 _ (0, 0) _ rfl ?_ Tryz.underlying34 rfl (by kernel_rfl)
  first | exact heap_alloc2_new w _ _ | (rw [Below.heap_alloc _ _ _ (by simp)]; exact heap_alloc2_new w _ _)
 ·refine ⟨_, _, rfl, ?_⟩
  first | exact ((U4 w).alloc U0 _).alloc (by simp) _ | exact (((U4 w).alloc U0 _).alloc (by simp) _).alloc (by simp; omega) _
theorem pG (s : ByteArray) (a0 a1 a2 a3 a4 a5 : Value) (b0 b1 b2 b3 b4 b5 : Value) (w : World) :
 Calls Tryz.prog 268 #[.agg #[.string s, a0, a1, a2, a3, a4, a5, b0, b1, b2, b3, b4, b5]] w fun e w' => ∃ o c, e = .returned (.agg #[.int .i64 9, .string s, .int .i64 0, .slice o 2 c, .slice none 0 0, .slice none 0 0]) /\ Below w.heap.size w w' := by
 go_enter Tryz.func268, Tryz.ntmps268
 go_wp2
 refine bodyPost_ret (v := .agg #[.int .i64 9, .string s, .int .i64 0, .slice (some ⟨w.heap.size + 2, 0, none⟩) 2 2, .slice none 0 0, .slice none 0 0]) ?_ rfl ?_
 ·refine results_cell_row rfl _ _ (w.heap.size + 1) 34 _ (0, 0) _ rfl ?_ Tryz.underlying34 rfl (by kernel_rfl)
  first | exact heap_alloc2_new w _ _ | (rw [Below.heap_alloc _ _ _ (by simp)]; exact heap_alloc2_new w _ _)
 ·refine ⟨_, _, rfl, ?_⟩
  first | exact ((U4 w).alloc U0 _).alloc (by simp) _ | exact (((U4 w).alloc U0 _).alloc (by simp) _).alloc (by simp; omega) _
def cy (s t : ByteArray) (n m : Int) (u1 v1 u2 v2 u3 v3 : Nat) : Bool := (s.toList == t.toList) && (decide (n = m) && (decide (u1 = v1) && (decide (u2 = v2) && decide (u3 = v3))))
theorem aM (k : Int) (s t : ByteArray) (n m : Int) (u1 v1 u2 v2 u3 v3 : Nat) (p1 p2 p3 r1 r2 r3 : Option Addr) (g1 g2 g3 f1 f2 f3 : Nat) (w : World) :
 Calls Tryz.prog 160 #[.agg #[.int .i64 k, .string s, .int .i64 n, .slice p1 u1 g1, .slice p2 u2 g2, .slice p3 u3 g3], .agg #[.int .i64 k, .string t, .int .i64 m, .slice r1 v1 f1, .slice r2 v2 f2, .slice r3 v3 f3]] w fun e w' => e = .returned (.bool (cy s t n m u1 v1 u2 v2 u3 v3)) /\ Below w.heap.size w w' := by
 have HB : Hid (Below w.heap.size w ((w.alloc (.cells #[.int .i64 k, .string s, .int .i64 n, .slice p1 u1 g1, .slice p2 u2 g2, .slice p3 u3 g3] 34)).alloc (.cells #[.int .i64 k, .string t, .int .i64 m, .slice r1 v1 f1, .slice r2 v2 f2, .slice r3 v3 f3] 34))) := ((U4 w).alloc U0 _).alloc (by simp) _
 cases h1 : (s.toList == t.toList)
 ·go_enter Tryz.func160, Tryz.ntmps160
  go_wp2
  go_ret
  exact ⟨ah (by unfold cy; rw [h1]; rfl), HB.out⟩
 by_cases h2 : n = m
 case neg =>
  have Us : (n == m) = false := by simpa using h2
  have H2 := aa h2
  clear h2
  go_enter Tryz.func160, Tryz.ntmps160
  go_wp2
  go_ret
  exact ⟨ah (by unfold cy; rw [decide_eq_false H2.out]; simp), HB.out⟩
 have Us : (n == m) = true := by simpa using h2
 have H2 := aa h2
 clear h2
 by_cases h3 : u1 = v1
 case neg =>
  have SO : ((u1 : Int) == (v1 : Int)) = false := by simp; omega
  have Sf : (u1 == v1) = false := by simpa using h3
  have H3 := aa h3
  clear h3
  go_enter Tryz.func160, Tryz.ntmps160
  go_wp2
  go_ret
  exact ⟨ah (by unfold cy; rw [decide_eq_false H3.out]; simp), HB.out⟩
 have SO : ((u1 : Int) == (v1 : Int)) = true := by simp; omega
 have Sf : (u1 == v1) = true := by simpa using h3
 have H3 := aa h3
 clear h3
 by_cases h4 : u2 = v2
 case neg =>
  have Ol : ((u2 : Int) == (v2 : Int)) = false := by simp; omega
  have SH : (u2 == v2) = false := by simpa using h4
  have H4 := aa h4
  clear h4
  go_enter Tryz.func160, Tryz.ntmps160
  go_wp2
  go_ret
  exact ⟨ah (by unfold cy; rw [decide_eq_false H4.out]; simp), HB.out⟩
 have Ol : ((u2 : Int) == (v2 : Int)) = true := by simp; omega
 have SH : (u2 == v2) = true := by simpa using h4
 have H4 := aa h4
 clear h4
 by_cases h5 : u3 = v3
 ·have OP : ((u3 : Int) == (v3 : Int)) = true := by simp; omega
  have SD : (u3 == v3) = true := by simpa using h5
  have H5 := aa h5
  clear h5
  go_enter Tryz.func160, Tryz.ntmps160
  go_wp2
  go_ret
  exact ⟨ah (by unfold cy; rw [h1, decide_eq_true H2.out, decide_eq_true H3.out, decide_eq_true H4.out, decide_eq_true H5.out]; rfl), HB.out⟩
 ·have OP : ((u3 : Int) == (v3 : Int)) = false := by simp; omega
  have SD : (u3 == v3) = false := by simpa using h5
  have H5 := aa h5
  clear h5
  go_enter Tryz.func160, Tryz.ntmps160
  go_wp2
  go_ret
  exact ⟨ah (by unfold cy; rw [decide_eq_false H5.out]; simp), HB.out⟩
end Go.Proofs.YtfomndilhlgikajGreatDoor

/- Marks of a definition that came in. -/
import Derived.Test.YtgeckgdmkjddpaaQ04
import Derived.Test.YtgeckgdmkjddpaaQ10
namespace Go.Proofs.Ytgeckgdmkjddpaa.Nm
open Go.ChangeShapes Go.WideShapes Go.ChangeAt Go.RowKit Go.Proofs.Ytgeckgdmkjddpaa.Rd

theorem SkL.refl (cs : List Value) : SkL cs cs := ⟨rfl, fun j v v' h h' => by rw [h] at h'; cases h'; exact Sk.refl v⟩
set_option maxHeartbeats 1000000 in
set_option maxRecDepth 100000 in
theorem markExp_k {K : Nat → Prop} {h : Nat} (x : Tr) (cs : List Value) (kk : Nat) (w : World) (hs : (shp K w h).ex x cs) (hK : ∀ b, K b → b < w.heap.size ∧ PlainAt w ⟨b, 0, none⟩) (hw : kk + 4 * (wts h).ex x ≤ 4900000) :
    Calls Try.prog 10 #[.agg cs.toArray, .int .i64 ((kk : Int) + 1)] w (MkP K kk (4 * (wts h).ex x) w) := by
  cases h with
  | zero => exact hs.elim
  | succ h =>
    obtain ⟨xk, xsn, xn, p1, d1, p2, d2, p3, d3, rfl, ⟨l1, l2, l3⟩, r1, r2, r3⟩ := hs
    have hwx : (wts (h + 1)).ex x = x.s.size + lw (wts h).ex x.l + lw (wts h).de x.ds + lw (wts h).al x.al := rfl
    obtain ⟨iE, iD, iA⟩ := mk_all K h
    obtain ⟨V, hV⟩ : ∃ V, w.alloc (.cells #[.int .i64 xk, .string xsn, .int .i64 xn, .slice p1 x.l.length d1, .slice p2 x.ds.length d2, .slice p3 x.al.length d3] 32) = V := ⟨_, rfl⟩
    have hb0 : Below w.heap.size w V := by rw [← hV]; exact (Below.refl _ w).alloc (Nat.le_refl _) _
    have hsV : V.heap.size = w.heap.size + 1 := by rw [← hV]; simp
    have hbox : V.heap[w.heap.size]? = some (.cells #[.int .i64 xk, .string xsn, .int .i64 xn, .slice p1 x.l.length d1, .slice p2 x.ds.length d2, .slice p3 x.al.length d3] 32 (0, 0)) := by rw [← hV]; exact heap_alloc_new w _
    have hnK : ¬ K w.heap.size := fun e => by have := (hK _ e).1; omega
    have HPW : Hid (∀ W, Mk K V W → ∀ b, K b → PlainAt W ⟨b, 0, none⟩) := fun W hW b hb => hW.plain b hb (by
      obtain ⟨h1, c, e, h2⟩ := hK b hb
      exact ⟨c, e, (hb0.block b h1).trans h2⟩)
    have HBX : Hid (∀ W, Mk K V W → W.heap[w.heap.size]? = some (.cells #[.int .i64 xk, .string xsn, .int .i64 xn, .slice p1 x.l.length d1, .slice p2 x.ds.length d2, .slice p3 x.al.length d3] 32 (0, 0))) := fun W hW => (hW.keep.block _ ⟨hnK, by omega⟩).trans hbox
    have HM0 : Hid (Mk K w V) := Mk.later hb0
    have HR1 := hide r1
    have HR2 := hide r2
    have HR3 := hide r3
    have y3 := cell_of hbox 3
    simp only [List.getElem?_toArray, List.getElem?_cons_succ, List.getElem?_cons_zero] at y3
    have HC1 : Hid (Calls Try.prog 34 #[.slice p1 x.l.length d1, .int .i64 ((kk : Int) + 1)] V (MkP K kk (4 * lw (wts h).ex x.l) V)) := iE x.l p1 d1 kk V ((row_shp HM0.out h).1 r1) (HPW.out V (Mk.refl _ _)) l1 (by omega)
    have HID := hide iD
    have HIA := hide iA
    clear hK r1 r2 r3 hb0 hbox iE iD iA hnK
    go_enter Try.func10, Try.ntmps10
    go_wp2_with fail
    refine Calls.mono HC1.out ?_
    rintro e w1 ⟨r1, rfl, ha1, hb1, hm1⟩
    have HM1 := hide hm1
    have z4 := cell_of (HBX.out w1 hm1) 4
    simp only [List.getElem?_toArray, List.getElem?_cons_succ, List.getElem?_cons_zero] at z4
    have HC2 := hide (HID.out x.ds p2 d2 r1 w1 ((row_shp (HM0.out.trans hm1) h).2.1 HR2.out) (HPW.out w1 hm1) l2 (by omega))
    clear hm1 y3
    go_wp2_with fail
    refine Calls.mono HC2.out ?_
    rintro e w2 ⟨r2, rfl, ha2, hb2, hm2⟩
    have HM2 := hide (HM1.out.trans hm2)
    have z5 := cell_of (HBX.out w2 HM2.out) 5
    simp only [List.getElem?_toArray, List.getElem?_cons_succ, List.getElem?_cons_zero] at z5
    have HC3 := hide (HIA.out x.al p3 d3 r2 w2 ((row_shp (HM0.out.trans HM2.out) h).2.2 HR3.out) (HPW.out w2 HM2.out) l3 (by omega))
    clear hm2 z4
    go_wp2_with fail
    refine Calls.mono HC3.out ?_
    rintro e w3 ⟨r3, rfl, ha3, hb3, hm3⟩
    have HM3 := hide (HM0.out.trans (HM2.out.trans hm3))
    clear hm3 z5
    go_wp2
    go_ret
    exact ⟨r3, rfl, by omega, by omega, HM3.out⟩
set_option maxHeartbeats 1000000 in
set_option maxRecDepth 100000 in
theorem markDec_any {K : Nat → Prop} {h : Nat} (x : Tr) (cs : List Value) (w : World) (hr : (reads K w h).de x cs) (hK : ∀ b, K b → b < w.heap.size ∧ PlainAt w ⟨b, 0, none⟩) (hw : (wts h).de x ≤ 1048576) :
    Calls Try.prog 17 #[.agg cs.toArray, .int .i64 1] w fun e w' => ∃ r : Nat, e = .returned (.int .i64 ((r : Int) + 1)) ∧ r ≤ 4800000 ∧ Mk K w w' := by
  have hs := (shp_of h).2.1 _ _ hr
  cases h with
  | zero => exact hr.elim
  | succ h =>
    obtain ⟨y, xs, p1, d1, ce, p2, d2, hl, rfl, ⟨l1, l2⟩, r1, hce, r2, r3⟩ := hs
    obtain ⟨a0, a1, a2, a3, a4, a5, rfl⟩ := six hce
    have hwx : (wts (h + 1)).de x = x.s.size + sw x.ss + (wts h).ex y + lw (wts h).de x.ds := by
      show x.s.size + sw x.ss + (x.l.map (wts h).ex).sum + lw (wts h).de x.ds = _
      rw [hl]
      simp
    have hsw : x.ss.length ≤ sw x.ss := by unfold sw; omega
    obtain ⟨iE, iD, iA⟩ := mk_all K h
    obtain ⟨V, hV⟩ : ∃ V, w.alloc (.cells #[.string xs, .slice p1 x.ss.length d1, a0, a1, a2, a3, a4, a5, .slice p2 x.ds.length d2] 44) = V := ⟨_, rfl⟩
    have hb0 : Below w.heap.size w V := by rw [← hV]; exact (Below.refl _ w).alloc (Nat.le_refl _) _
    have hbox : V.heap[w.heap.size]? = some (.cells #[.string xs, .slice p1 x.ss.length d1, a0, a1, a2, a3, a4, a5, .slice p2 x.ds.length d2] 44 (0, 0)) := by rw [← hV]; exact heap_alloc_new w _
    have hsV : w.heap.size < V.heap.size := heap_lt hbox
    have hnK : ¬ K w.heap.size := fun e => by have := (hK _ e).1; omega
    have HPW : Hid (∀ W, Mk K V W → ∀ b, K b → b < W.heap.size ∧ PlainAt W ⟨b, 0, none⟩) := fun W hW b hb => by
      obtain ⟨h1, c, e, h2⟩ := hK b hb
      exact ⟨by have := hW.keep.size; omega, hW.plain b hb ⟨c, e, (hb0.block b h1).trans h2⟩⟩
    have HBX : Hid (∀ W, Mk K V W → W.heap[w.heap.size]? = some (.cells #[.string xs, .slice p1 x.ss.length d1, a0, a1, a2, a3, a4, a5, .slice p2 x.ds.length d2] 44 (0, 0))) := fun W hW => (hW.keep.block _ ⟨hnK, by omega⟩).trans hbox
    have HM0 : Hid (Mk K w V) := Mk.later hb0
    have HR2 := hide r2
    have HR3 := hide r3
    obtain ⟨y0, y1, y2, y3, y4, y5, y6, y7, y8⟩ := (box9 hbox).1
    have HC1 := hide (markStrS_any (K := K) x.ss p1 d1 0 V (r1.frame (Stays.of hb0) (fun _ h => h) fun _ _ h => h) (fun b hb => (HPW.out V (Mk.refl _ _) b hb).2) (by omega))
    simp only [Nat.zero_add, Int.natCast_zero, Int.zero_add] at HC1
    have HID := hide iD
    clear hr hK r1 r2 r3 hb0 hbox iE iD iA hnK hl hce
    go_enter Try.func17, Try.ntmps17
    go_wp2_with fail
    refine Calls.mono HC1.out ?_
    rintro e w1 ⟨rfl, hm1, -⟩
    have HM1 := hide hm1
    have HC2 := hide (markExp_k y [a0, a1, a2, a3, a4, a5] x.ss.length w1 ((shp_kin (HM0.out.trans hm1) h).1 _ _ _ (SkL.refl _) HR2.out) (HPW.out w1 hm1) (by omega))
    clear y0 y1 y2 y3 y4 y5 y6 y7 y8 HC1
    obtain ⟨y0, y1, y2, y3, y4, y5, y6, y7, y8⟩ := (box9 (HBX.out w1 hm1)).1
    clear hm1
    go_wp2_with fail
    refine Calls.mono HC2.out ?_
    rintro e w2 ⟨r2, rfl, ha2, hb2, hm2⟩
    have HM2 := hide (HM1.out.trans hm2)
    clear y0 y1 y2 y3 y4 y5 y6 y7 y8 HC2
    obtain ⟨y0, y1, y2, y3, y4, y5, y6, y7, y8⟩ := (box9 (HBX.out w2 HM2.out)).1
    have HC3 := hide (HID.out x.ds p2 d2 r2 w2 ((row_shp (HM0.out.trans HM2.out) h).2.1 HR3.out) (fun b hb => (HPW.out w2 HM2.out b hb).2) l2 (by omega))
    clear hm2
    go_wp2_with fail
    refine Calls.mono HC3.out ?_
    rintro e w3 ⟨r3, rfl, ha3, hb3, hm3⟩
    have HM3 := hide (HM0.out.trans (HM2.out.trans hm3))
    clear hm3 y0 y1 y2 y3 y4 y5 y6 y7 y8
    go_wp2
    go_ret
    exact ⟨r3, rfl, by omega, HM3.out⟩
end Go.Proofs.Ytgeckgdmkjddpaa.Nm
